/-
  WHAT barbicankeep.Expr GIVES, ONE WAY: the third function of a unit is asked.
  Conditions: the raw things and the params lie there; the contract one depth below.
-/
import Derived.Test.YtgjemlhnlpglbaaDoorR6
import Derived.Deep.RegionHeld3
namespace Go.Proofs.YtgjemlhnlpglbaaDoor.PExprH
open Go.RowKit PPlain PRaw PNumber PExprBase Trees

set_option maxRecDepth 100000 in
set_option maxHeartbeats 1500000 in
theorem way {w : World} {bl off m c pl pc many d : Nat} {pa : Option Addr} {dep : Int} {r : RawD} (hr : r.fits) (_ : 1 ≤ dep) (_ : dep ≤ 5) (_ : 6 ≤ dep + 1 + d) (hm : m ≤ c) (hm2 : m ≤ 140737488355328) (hmany : 1 ≤ many ∧ many ≤ 3)
    (t0 : w.cell? ⟨bl, off, none⟩ = some (.int .i64 r.k)) (t1 : w.cell? ⟨bl, off + 1, none⟩ = some (.int .i64 r.a)) (t2 : w.cell? ⟨bl, off + 2, none⟩ = some (.int .i64 r.b)) (t3 : w.cell? ⟨bl, off + 3, none⟩ = some (.int .i64 r.c))
    (hl : Raws w (some ⟨bl, off, none⟩) (m + 1) (c + 1)) (hp : PPar w pa pl) (hpl : pl ≤ 2) (hn : Names w) (_ : EC d many)
    (hd : decide (4 < dep) = false) (q4 : decide (pk r.k 20 < 4) = false) (q9 : decide (pk r.k 20 < 9) = false) (q15 : decide (pk r.k 20 < 15) = false) (q17 : decide (pk r.k 20 < 17) = false) (e17 : (pk r.k 20 == 17) = false) (e18 : (pk r.k 20 == 18) = false) :
    Calls Tryd.prog 32 #[.slice (some ⟨bl, off, none⟩) (m + 1) (c + 1), .slice pa pl pc, .int .i64 many, .int .i64 dep] w fun e w' => EOut w many pl (d + 1) e w' := by
  have kp : ∀ (n m : Int) (W : World), _ := picked
  have S1 : ∀ W, _ := fun W => slice_from W (some ⟨bl, off, none⟩) (m + 1) (c + 1) 1 1 rfl (by omega)
  have hl1 := Raws_part hl 1 m (by omega)
  simp only [Nat.add_sub_cancel] at S1 hl1
  generalize from_ (some ⟨bl, off, none⟩) (c + 1) 1 = l1 at *
  have S2 : ∀ W, _ := fun W => slice_to W l1 m c (m / 2) ((m : Int) / 2) (by omega) (by omega)
  have hlA := Raws_part hl1 0 (m / 2) (by omega)
  rw [Nat.sub_zero] at hlA
  have S3 : ∀ W, _ := fun W => slice_from W l1 m c (m / 2) ((m : Int) / 2) (by omega) (by omega)
  have hlB := Raws_part hl1 (m / 2) (m - m / 2) (by omega)
  generalize from_ l1 c 0 = l2 at *
  generalize from_ l1 c (m / 2) = l3 at *
  have hmI : (m : Int) ≤ 140737488355328 := by omega
  have hb10 := pk_bd r.a 10 (by decide)
  have B10 : Hid _ := hb10
  have hu1 : 1 + pk r.a 10 ≤ 20 := by omega
  have hu0 : 0 ≤ pk r.a 10 := hb10.1
  have KP : Hid _ := kp
  have FT : Hid r.fits := hr
  have RA : Hid _ := hlA
  have RB : Hid _ := hlB
  have p0 : ∀ o, (w.alloc o).cell? ⟨bl, off, none⟩ = some (.int .i64 r.k) := fun o => (World.cell?_alloc_past o _ _ (World.block_lt_of_cell? w _ t0)).trans t0
  have p1 : ∀ o, (w.alloc o).cell? ⟨bl, off + 1, none⟩ = some (.int .i64 r.a) := fun o => (World.cell?_alloc_past o _ _ (World.block_lt_of_cell? w _ t0)).trans t1
  have p2 : ∀ o, (w.alloc o).cell? ⟨bl, off + 2, none⟩ = some (.int .i64 r.b) := fun o => (World.cell?_alloc_past o _ _ (World.block_lt_of_cell? w _ t0)).trans t2
  have p3 : ∀ o, (w.alloc o).cell? ⟨bl, off + 3, none⟩ = some (.int .i64 r.c) := fun o => (World.cell?_alloc_past o _ _ (World.block_lt_of_cell? w _ t0)).trans t3
  have nl : (((m + 1 : Nat) : Int) == 0) = false := beq_eq_false_iff_ne.2 (by omega)
  have HM : Hid (1 ≤ many ∧ many ≤ 3) := hmany
  have HN : Hid (Names w) := hn
  have HP : Hid (PPar w pa pl ∧ pl ≤ 2) := ⟨hp, hpl⟩
  have hka := pk_bd r.a many (by omega)
  obtain ⟨kk, hkk⟩ : ∃ kk : Nat, pk r.a many = kk := ⟨(pk r.a many).toNat, by omega⟩
  have hk1 : kk < many := by omega
  have hkI : (kk : Int) < 3 := by omega
  have hk0 : (0 : Int) ≤ (kk : Int) := by omega
  have cU : ((w.alloc (.cells #[.int .i64 0, .int .i64 0, .string ⟨#[]⟩, .string ⟨#[]⟩, .slice none 0 0] 29)).alloc (.cells #[.int .i64 r.k, .int .i64 r.a, .int .i64 r.b, .int .i64 r.c] 44)).cell? ⟨0, kk, none⟩ = some (.string (nu kk)) := Names_below (below_aa w _ _) hn kk (by omega)
  generalize hnu : nu kk = nk at *
  have HK : Hid (kk < many ∧ nu kk = nk) := ⟨hk1, hnu⟩
  clear hka hnu kp hr hl hl1 hlA hlB hp hb10 t0 t1 t2 t3 hmany hn
  go_enter Tryd.func32, Tryd.ntmps32
  go_wp2_with (go_at_call 8; refine (KP.out _ _ _ (by first | exact FT.out.1 | exact FT.out.2.1 | exact FT.out.2.2.1) (by first | decide | (have := HM.out; omega)) (by first | decide | (have := HM.out; omega))).mono ?_; rintro e w1 ⟨rfl, rfl⟩)
  refine answers rfl rfl (got_old _ _ (got1 w _)) rfl rfl ?_
  exact out0 (x := ⟨4, 0, nk, ⟨#[104]⟩, none, 0, 0⟩) (below_aa w _ _) rfl (.inr (.inr (.inr (.inl ⟨rfl, rfl, .inr ⟨kk, HK.out.1, HK.out.2.symm, .inr ⟨rfl, rfl⟩⟩⟩))))
end Go.Proofs.YtgjemlhnlpglbaaDoor.PExprH
