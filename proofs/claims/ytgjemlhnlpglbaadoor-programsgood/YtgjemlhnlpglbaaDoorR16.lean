/-
  WHAT barbicankeep.Expr GIVES, ONE WAY: an own function is asked.
  Conditions: the raw things and the params lie there; the contract one depth below.
-/
import Derived.Test.YtgjemlhnlpglbaaDoorR6
import Derived.Deep.RegionHeld3
namespace Go.Proofs.YtgjemlhnlpglbaaDoor.PExprG
open Go.RowKit PPlain PRaw PNumber PExprBase Trees

set_option maxRecDepth 100000 in
set_option maxHeartbeats 1500000 in
theorem way {w : World} {bl off m c pl pc many d : Nat} {pa : Option Addr} {dep : Int} {r : RawD} (hr : r.fits) (h1 : 1 ≤ dep) (h100 : dep ≤ 5) (hdd : 6 ≤ dep + 1 + d) (hm : m ≤ c) (hm2 : m ≤ 140737488355328) (hmany : 1 ≤ many ∧ many ≤ 3)
    (t0 : w.cell? ⟨bl, off, none⟩ = some (.int .i64 r.k)) (t1 : w.cell? ⟨bl, off + 1, none⟩ = some (.int .i64 r.a)) (t2 : w.cell? ⟨bl, off + 2, none⟩ = some (.int .i64 r.b)) (t3 : w.cell? ⟨bl, off + 3, none⟩ = some (.int .i64 r.c))
    (hl : Raws w (some ⟨bl, off, none⟩) (m + 1) (c + 1)) (hp : PPar w pa pl) (hpl : pl ≤ 2) (hn : Names w) (IH : EC d many)
    (hd : decide (4 < dep) = false) (q4 : decide (pk r.k 20 < 4) = false) (q9 : decide (pk r.k 20 < 9) = false) (q15 : decide (pk r.k 20 < 15) = false) (q17 : decide (pk r.k 20 < 17) = false) (e17 : (pk r.k 20 == 17) = true) :
    Calls Tryd.prog 32 #[.slice (some ⟨bl, off, none⟩) (m + 1) (c + 1), .slice pa pl pc, .int .i64 many, .int .i64 dep] w fun e w' => EOut w many pl (d + 1) e w' := by
  have kp : ∀ (n m : Int) (W : World), _ := picked
  have S1 : ∀ W, _ := fun W => slice_from W (some ⟨bl, off, none⟩) (m + 1) (c + 1) 1 1 rfl (by omega)
  have hl1 := Raws_part hl 1 m (by omega)
  simp only [Nat.add_sub_cancel] at S1 hl1
  generalize from_ (some ⟨bl, off, none⟩) (c + 1) 1 = l1 at *
  have S2 : ∀ W, _ := fun W => slice_to W l1 m c (m / 2) ((m : Int) / 2) (by omega) (by omega)
  have hlA := Raws_part hl1 0 (m / 2) (by omega)
  rw [Nat.sub_zero] at hlA
  have S3 : ∀ W, _ := fun W => slice_from W l1 m c (m / 2) ((m : Int) / 2) (by omega) (by omega)
  have hlB := Raws_part hl1 (m / 2) (m - m / 2) (by omega)
  generalize from_ l1 c 0 = l2 at *
  generalize from_ l1 c (m / 2) = l3 at *
  have hmI : (m : Int) ≤ 140737488355328 := by omega
  have hb10 := pk_bd r.a 10 (by decide)
  have B10 : Hid _ := hb10
  have hu1 : 1 + pk r.a 10 ≤ 20 := by omega
  have hu0 : 0 ≤ pk r.a 10 := hb10.1
  have KP : Hid _ := kp
  have FT : Hid r.fits := hr
  have kc : ∀ la ln lc W, Raws w la ln lc → Below w.heap.size w W → Calls Tryd.prog 32 #[.slice la ln lc, .slice pa pl pc, .int .i64 many, .int .i64 (dep + 1)] W fun e w' => EOut W many pl d e w' := fun la ln lc W hR hb =>
    IH (dep + 1) W la pa ln lc pl pc (by omega) (by have := of_decide_eq_false hd; omega) (by omega) (Raws_below hb hR) (PPar_below hb hp) hpl (Names_below hb hn)
  have KC : Hid _ := kc
  have RA : Hid _ := hlA
  have RB : Hid _ := hlB
  have p0 : ∀ o, (w.alloc o).cell? ⟨bl, off, none⟩ = some (.int .i64 r.k) := fun o => (World.cell?_alloc_past o _ _ (World.block_lt_of_cell? w _ t0)).trans t0
  have p1 : ∀ o, (w.alloc o).cell? ⟨bl, off + 1, none⟩ = some (.int .i64 r.a) := fun o => (World.cell?_alloc_past o _ _ (World.block_lt_of_cell? w _ t0)).trans t1
  have p2 : ∀ o, (w.alloc o).cell? ⟨bl, off + 2, none⟩ = some (.int .i64 r.b) := fun o => (World.cell?_alloc_past o _ _ (World.block_lt_of_cell? w _ t0)).trans t2
  have p3 : ∀ o, (w.alloc o).cell? ⟨bl, off + 3, none⟩ = some (.int .i64 r.c) := fun o => (World.cell?_alloc_past o _ _ (World.block_lt_of_cell? w _ t0)).trans t3
  have nl : (((m + 1 : Nat) : Int) == 0) = false := beq_eq_false_iff_ne.2 (by omega)
  have HM : Hid (1 ≤ many ∧ many ≤ 3) := hmany
  have HN : Hid (Names w) := hn
  have HP : Hid (PPar w pa pl ∧ pl ≤ 2) := ⟨hp, hpl⟩
  clear kp hr kc hl hl1 hlA hlB hp IH hdd hb10 t0 t1 t2 t3 hmany hn
  go_enter Tryd.func32, Tryd.ntmps32
  go_wp2_with (first
    | (go_at_call 8; refine (KP.out _ _ _ (by first | exact FT.out.1 | exact FT.out.2.1 | exact FT.out.2.2.1) (by decide) (by decide)).mono ?_; rintro e w1 ⟨rfl, rfl⟩)
    | (go_at_call 32; refine (KC.out _ _ _ _ RA.out (by exact below_aa _ _ _)).mono ?_; rintro e w1 ⟨hb1, x1, T1, rfl, hx1, hok1, hs1⟩; obtain ⟨k1, n1, of1, s1, ao1, len1, cap1⟩ := x1; have H1 : Hid (Below (w.heap.size + 2) ((w.alloc (.cells #[.int .i64 0, .int .i64 0, .string ⟨#[]⟩, .string ⟨#[]⟩, .slice none 0 0] 29)).alloc (.cells #[.int .i64 r.k, .int .i64 r.a, .int .i64 r.b, .int .i64 r.c] 44)) w1) := hb1.mono (by simp); have X1 : Hid (T1 [] = ⟨k1, n1, of1, s1, ao1, len1, cap1⟩) := hx1; have O1 : Hid (okE many pl d T1) := hok1; have S1' : Hid _ := hs1; have L1 : Hid (Below _ _ w1) := hb1; clear hb1 hx1 hok1 hs1)
    | ((with_reducible show wpList _ _ _ ({ dst := none, op := Op.store 29 _ _, type := _, pos := _, after := _, guard := _ } :: _) _ _); refine wpList_store_row rfl 29 _ _ rfl w.heap.size #[.int .i64 4, .int .i64 0, .string ⟨#[]⟩, .string ⟨#[103]⟩, .slice (some ⟨w1.heap.size, 0, none⟩) 1 1] rfl rfl 29 #[.int .i64 0, .int .i64 0, .string ⟨#[]⟩, .string ⟨#[]⟩, .slice none 0 0] ((Below.heap_alloc w1 _ _ (by have := H1.out.size; simp at this; omega)).trans ((H1.out.block w.heap.size (by omega)).trans (got_old _ _ (got1 w _)))) sizeExpr rfl (by simp [Value.oneCell']) ?_))
  have FN := fin H1.out #[.int .i64 k1, .int .i64 n1, .string of1, .string s1, .slice ao1 len1 cap1] #[.int .i64 4, .int .i64 0, .string ⟨#[]⟩, .string ⟨#[103]⟩, .slice (some ⟨w1.heap.size, 0, none⟩) 1 1]
  refine answers rfl rfl FN.res rfl rfl ?_
  have ok : ∀ i, i < 1 → okE many pl d (one1 T1 i) := fun i _ => O1.out
  have z1 := H1.out.size
  simp at z1
  refine out_node (n := 1) (x := ⟨4, 0, ⟨#[]⟩, ⟨#[103]⟩, some ⟨w1.heap.size, 0, none⟩, 1, 1⟩) (C := one1 T1) FN.below rfl rfl (.inr (.inr (.inr (.inl ⟨rfl, rfl, .inl ⟨rfl, rfl, rfl⟩⟩)))) ok (row_of (by omega) (by rw [FN.size]; omega) FN.args ?_ ok ?_)
  · intro i hi j hj
    obtain rfl : i = 0 := by omega
    show _ = (five (T1 []))[j]?
    rw [X1.out]
    obtain rfl | rfl | rfl | rfl | rfl : j = 0 ∨ j = 1 ∨ j = 2 ∨ j = 3 ∨ j = 4 := by omega
    all_goals rfl
  · intro i hi W hW
    exact S1'.out W (hW.sub (below_aa w _ _).size (by rw [FN.size]; omega) fun i h1 h2 => FN.old i h2 (by simp at h1; omega))
end Go.Proofs.YtgjemlhnlpglbaaDoor.PExprG
