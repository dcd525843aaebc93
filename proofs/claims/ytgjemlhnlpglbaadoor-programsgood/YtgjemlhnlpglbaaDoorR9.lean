/-
  WHAT barbicankeep.Expr GIVES, ONE WAY: a variable.
  Conditions: the raw things and the params lie there; the contract one depth below.
-/
import Derived.Test.YtgjemlhnlpglbaaDoorR6
import Derived.Deep.RegionHeld3
namespace Go.Proofs.YtgjemlhnlpglbaaDoor.PExprVar1
open Go.RowKit PPlain PRaw PNumber PExprBase Trees

set_option maxRecDepth 100000 in
set_option maxHeartbeats 1500000 in
theorem way {w : World} {bl off m c pc many d : Nat} {pa : Option Addr} {dep : Int} {r : RawD} (hr : r.fits) (_ : 1 ≤ dep) (_ : dep ≤ 5) (_ : 6 ≤ dep + 1 + d) (hm : m ≤ c) (hm2 : m ≤ 140737488355328) (hmany : 1 ≤ many ∧ many ≤ 3)
    (t0 : w.cell? ⟨bl, off, none⟩ = some (.int .i64 r.k)) (t1 : w.cell? ⟨bl, off + 1, none⟩ = some (.int .i64 r.a)) (t2 : w.cell? ⟨bl, off + 2, none⟩ = some (.int .i64 r.b)) (t3 : w.cell? ⟨bl, off + 3, none⟩ = some (.int .i64 r.c))
    (hl : Raws w (some ⟨bl, off, none⟩) (m + 1) (c + 1)) (hp : PPar w pa 1) (hn : Names w) (_ : EC d many)
    (hd : decide (4 < dep) = false) (q4 : decide (pk r.k 20 < 4) = false) (q9 : decide (pk r.k 20 < 9) = true) :
    Calls Tryd.prog 32 #[.slice (some ⟨bl, off, none⟩) (m + 1) (c + 1), .slice pa 1 pc, .int .i64 many, .int .i64 dep] w fun e w' => EOut w many 1 (d + 1) e w' := by
  have kp : ∀ (n m : Int) (W : World), _ := picked
  have S1 : ∀ W, _ := fun W => slice_from W (some ⟨bl, off, none⟩) (m + 1) (c + 1) 1 1 rfl (by omega)
  have hl1 := Raws_part hl 1 m (by omega)
  simp only [Nat.add_sub_cancel] at S1 hl1
  generalize from_ (some ⟨bl, off, none⟩) (c + 1) 1 = l1 at *
  have S2 : ∀ W, _ := fun W => slice_to W l1 m c (m / 2) ((m : Int) / 2) (by omega) (by omega)
  have hlA := Raws_part hl1 0 (m / 2) (by omega)
  rw [Nat.sub_zero] at hlA
  have S3 : ∀ W, _ := fun W => slice_from W l1 m c (m / 2) ((m : Int) / 2) (by omega) (by omega)
  have hlB := Raws_part hl1 (m / 2) (m - m / 2) (by omega)
  generalize from_ l1 c 0 = l2 at *
  generalize from_ l1 c (m / 2) = l3 at *
  have hmI : (m : Int) ≤ 140737488355328 := by omega
  have hb10 := pk_bd r.a 10 (by decide)
  have B10 : Hid _ := hb10
  have hu1 : 1 + pk r.a 10 ≤ 20 := by omega
  have hu0 : 0 ≤ pk r.a 10 := hb10.1
  have KP : Hid _ := kp
  have FT : Hid r.fits := hr
  have RA : Hid _ := hlA
  have RB : Hid _ := hlB
  have p0 : ∀ o, (w.alloc o).cell? ⟨bl, off, none⟩ = some (.int .i64 r.k) := fun o => (World.cell?_alloc_past o _ _ (World.block_lt_of_cell? w _ t0)).trans t0
  have p1 : ∀ o, (w.alloc o).cell? ⟨bl, off + 1, none⟩ = some (.int .i64 r.a) := fun o => (World.cell?_alloc_past o _ _ (World.block_lt_of_cell? w _ t0)).trans t1
  have p2 : ∀ o, (w.alloc o).cell? ⟨bl, off + 2, none⟩ = some (.int .i64 r.b) := fun o => (World.cell?_alloc_past o _ _ (World.block_lt_of_cell? w _ t0)).trans t2
  have p3 : ∀ o, (w.alloc o).cell? ⟨bl, off + 3, none⟩ = some (.int .i64 r.c) := fun o => (World.cell?_alloc_past o _ _ (World.block_lt_of_cell? w _ t0)).trans t3
  have nl : (((m + 1 : Nat) : Int) == 0) = false := beq_eq_false_iff_ne.2 (by omega)
  have HM : Hid (1 ≤ many ∧ many ≤ 3) := hmany
  have HN : Hid (Names w) := hn
  have HP : Hid (PPar w pa 1) := hp
  have hka := pk_bd r.a 3 (by decide)
  obtain ⟨kk, hkk⟩ : ∃ kk : Nat, pk r.a 3 = kk := ⟨(pk r.a 3).toNat, by omega⟩
  have hk1 : kk < 3 := by omega
  have hkI : (kk : Int) < 3 := by omega
  have hk0 : (0 : Int) ≤ (kk : Int) := by omega
  have HK : Hid (kk < 3) := hk1
  obtain ⟨i0, gi, gz0, gz1, gz2⟩ := info_parts infoStr
  have I0 : Hid _ := And.intro gi (And.intro gz0 (And.intro gz1 gz2))
  have hp' := PPar_below (below_aaa w (.cells #[.int .i64 0, .int .i64 0, .string ⟨#[]⟩, .string ⟨#[]⟩, .slice none 0 0] 29) (.cells #[.int .i64 r.k, .int .i64 r.a, .int .i64 r.b, .int .i64 r.c] 44) (.cells #[.string ⟨#[120]⟩, .string ⟨#[121]⟩] 9)) hp
  obtain ⟨pb, po, ep, hsrc⟩ := par_src hp' (by decide)
  subst ep
  have SRC : Hid _ := hsrc
  have OW : Hid (World.ownsRow ((((w.alloc (.cells #[.int .i64 0, .int .i64 0, .string ⟨#[]⟩, .string ⟨#[]⟩, .slice none 0 0] 29)).alloc (.cells #[.int .i64 r.k, .int .i64 r.a, .int .i64 r.b, .int .i64 r.c] 44))).alloc (.cells #[.string ⟨#[120]⟩, .string ⟨#[121]⟩] 9)) (w.heap.size + 2) 9 1 (.slice (some ⟨w.heap.size + 1 + 1, 0, none⟩) 2 2) 2 [.string ⟨#[120]⟩, .string ⟨#[121]⟩]) := owns_xy w _ _
  clear gi gz0 gz1 gz2 hsrc hp'
  clear hka hk1 kp hr hl hl1 hlA hlB hp hb10 t0 t1 t2 t3 hmany hn
  go_enter Tryd.func32, Tryd.ntmps32
  go_wp2_with (first
    | (go_at_call 8; refine (KP.out _ _ _ (by first | exact FT.out.1 | exact FT.out.2.1 | exact FT.out.2.2.1) (by decide) (by decide)).mono ?_; rintro e w1 ⟨rfl, rfl⟩)
    | (at_builtin; refine wpList_append_own _ rfl _ _ 35 rfl (w.heap.size + 2) 9 i0 (.string ⟨#[]⟩) 1 16 Tryd.underlying35 I0.out.1 I0.out.2.1 I0.out.2.2.1 I0.out.2.2.2 rfl (by decide) _ _ _ rfl OW.out ⟨pb, po, none⟩ 1 pc (pars 1) rfl rfl SRC.out (pars_one _) (by unfold maxLen; decide) (by decide) (by have := (below_aaa w (.cells #[.int .i64 0, .int .i64 0, .string ⟨#[]⟩, .string ⟨#[]⟩, .slice none 0 0] 29) (.cells #[.int .i64 r.k, .int .i64 r.a, .int .i64 r.b, .int .i64 r.c] 44) (.cells #[.string ⟨#[120]⟩, .string ⟨#[121]⟩] 9)).size; simp) ?_; intro v' w9 ho' hg' _; obtain ⟨g', c', rfl, hc'⟩ := own_form ho' (by decide); have c9 : w9.cell? ⟨g', kk, none⟩ = some (.string (vz kk)) := hc' kk HK.out; generalize hvz : vz kk = vk at c9; have HV : Hid (vz kk = vk) := hvz; have H9 : Hid (Below (w.heap.size + 2) ((w.alloc (.cells #[.int .i64 0, .int .i64 0, .string ⟨#[]⟩, .string ⟨#[]⟩, .slice none 0 0] 29)).alloc (.cells #[.int .i64 r.k, .int .i64 r.a, .int .i64 r.b, .int .i64 r.c] 44)) w9) := own_below hg'; obtain ⟨d0, d1⟩ := base_cells H9.out; clear ho' hg' hc' hvz)
    | ((with_reducible show wpList _ _ _ ({ dst := none, op := Op.store 29 _ _, type := _, pos := _, after := _, guard := _ } :: _) _ _); refine wpList_store_row rfl 29 _ _ rfl w.heap.size #[.int .i64 2, .int .i64 0, .string ⟨#[]⟩, .string vk, .slice none 0 0] rfl rfl 29 #[.int .i64 0, .int .i64 0, .string ⟨#[]⟩, .string ⟨#[]⟩, .slice none 0 0] (fin0 H9.out #[]).2.2 sizeExpr rfl (by simp [Value.oneCell']) ?_))
  have FN := fin0 H9.out #[.int .i64 2, .int .i64 0, .string ⟨#[]⟩, .string vk, .slice none 0 0]
  refine answers rfl rfl FN.2.1 rfl rfl ?_
  exact out0 (x := ⟨2, 0, ⟨#[]⟩, vk, none, 0, 0⟩) FN.1 rfl (.inr (.inl ⟨rfl, rfl, rfl, by rw [← HV.out]; exact vz_ok HK.out, rfl⟩))
end Go.Proofs.YtgjemlhnlpglbaaDoor.PExprVar1
