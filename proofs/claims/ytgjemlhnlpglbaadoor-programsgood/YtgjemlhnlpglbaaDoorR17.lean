/-
  WHAT barbicankeep.Expr GIVES, ONE WAY: the first function of a unit is asked.
  Conditions: the raw things and the params lie there; the contract one depth below.
-/
import Derived.Test.YtgjemlhnlpglbaaDoorR6
import Derived.Deep.RegionHeld3
namespace Go.Proofs.YtgjemlhnlpglbaaDoor.PExprF
open Go.RowKit PPlain PRaw PNumber PExprBase Trees

set_option maxRecDepth 100000 in
set_option maxHeartbeats 8000000 in
theorem way {w : World} {bl off m c pl pc many d : Nat} {pa : Option Addr} {dep : Int} {r : RawD} (hr : r.fits) (h1 : 1 ≤ dep) (h100 : dep ≤ 5) (hdd : 6 ≤ dep + 1 + d) (hm : m ≤ c) (hm2 : m ≤ 140737488355328) (hmany : 1 ≤ many ∧ many ≤ 3)
    (t0 : w.cell? ⟨bl, off, none⟩ = some (.int .i64 r.k)) (t1 : w.cell? ⟨bl, off + 1, none⟩ = some (.int .i64 r.a)) (t2 : w.cell? ⟨bl, off + 2, none⟩ = some (.int .i64 r.b)) (t3 : w.cell? ⟨bl, off + 3, none⟩ = some (.int .i64 r.c))
    (hl : Raws w (some ⟨bl, off, none⟩) (m + 1) (c + 1)) (hp : PPar w pa pl) (hpl : pl ≤ 2) (hn : Names w) (IH : EC d many)
    (hd : decide (4 < dep) = false) (q4 : decide (pk r.k 20 < 4) = false) (q9 : decide (pk r.k 20 < 9) = false) (q15 : decide (pk r.k 20 < 15) = false) (q17 : decide (pk r.k 20 < 17) = false) (e17 : (pk r.k 20 == 17) = false) (e18 : (pk r.k 20 == 18) = true) :
    Calls Tryd.prog 32 #[.slice (some ⟨bl, off, none⟩) (m + 1) (c + 1), .slice pa pl pc, .int .i64 many, .int .i64 dep] w fun e w' => EOut w many pl (d + 1) e w' := by
  have kp : ∀ (n m : Int) (W : World), _ := picked
  have S1 : ∀ W, _ := fun W => slice_from W (some ⟨bl, off, none⟩) (m + 1) (c + 1) 1 1 rfl (by omega)
  have hl1 := Raws_part hl 1 m (by omega)
  simp only [Nat.add_sub_cancel] at S1 hl1
  generalize from_ (some ⟨bl, off, none⟩) (c + 1) 1 = l1 at *
  have S2 : ∀ W, _ := fun W => slice_to W l1 m c (m / 2) ((m : Int) / 2) (by omega) (by omega)
  have hlA := Raws_part hl1 0 (m / 2) (by omega)
  rw [Nat.sub_zero] at hlA
  have S3 : ∀ W, _ := fun W => slice_from W l1 m c (m / 2) ((m : Int) / 2) (by omega) (by omega)
  have hlB := Raws_part hl1 (m / 2) (m - m / 2) (by omega)
  generalize from_ l1 c 0 = l2 at *
  generalize from_ l1 c (m / 2) = l3 at *
  have hmI : (m : Int) ≤ 140737488355328 := by omega
  have hb10 := pk_bd r.a 10 (by decide)
  have B10 : Hid _ := hb10
  have hu1 : 1 + pk r.a 10 ≤ 20 := by omega
  have hu0 : 0 ≤ pk r.a 10 := hb10.1
  have KP : Hid _ := kp
  have FT : Hid r.fits := hr
  have kc : ∀ la ln lc W, Raws w la ln lc → Below w.heap.size w W → Calls Tryd.prog 32 #[.slice la ln lc, .slice pa pl pc, .int .i64 many, .int .i64 (dep + 1)] W fun e w' => EOut W many pl d e w' := fun la ln lc W hR hb =>
    IH (dep + 1) W la pa ln lc pl pc (by omega) (by have := of_decide_eq_false hd; omega) (by omega) (Raws_below hb hR) (PPar_below hb hp) hpl (Names_below hb hn)
  have KC : Hid _ := kc
  have RA : Hid _ := hlA
  have RB : Hid _ := hlB
  have p0 : ∀ o, (w.alloc o).cell? ⟨bl, off, none⟩ = some (.int .i64 r.k) := fun o => (World.cell?_alloc_past o _ _ (World.block_lt_of_cell? w _ t0)).trans t0
  have p1 : ∀ o, (w.alloc o).cell? ⟨bl, off + 1, none⟩ = some (.int .i64 r.a) := fun o => (World.cell?_alloc_past o _ _ (World.block_lt_of_cell? w _ t0)).trans t1
  have p2 : ∀ o, (w.alloc o).cell? ⟨bl, off + 2, none⟩ = some (.int .i64 r.b) := fun o => (World.cell?_alloc_past o _ _ (World.block_lt_of_cell? w _ t0)).trans t2
  have p3 : ∀ o, (w.alloc o).cell? ⟨bl, off + 3, none⟩ = some (.int .i64 r.c) := fun o => (World.cell?_alloc_past o _ _ (World.block_lt_of_cell? w _ t0)).trans t3
  have nl : (((m + 1 : Nat) : Int) == 0) = false := beq_eq_false_iff_ne.2 (by omega)
  have HM : Hid (1 ≤ many ∧ many ≤ 3) := hmany
  have HN : Hid (Names w) := hn
  have HP : Hid (PPar w pa pl ∧ pl ≤ 2) := ⟨hp, hpl⟩
  have hka := pk_bd r.a many (by omega)
  obtain ⟨kk, hkk⟩ : ∃ kk : Nat, pk r.a many = kk := ⟨(pk r.a many).toNat, by omega⟩
  have hk1 : kk < many := by omega
  have hkI : (kk : Int) < 3 := by omega
  have hk0 : (0 : Int) ≤ (kk : Int) := by omega
  have cU : Hid (∀ W, Below (w.heap.size + 2) ((w.alloc (.cells #[.int .i64 0, .int .i64 0, .string ⟨#[]⟩, .string ⟨#[]⟩, .slice none 0 0] 29)).alloc (.cells #[.int .i64 r.k, .int .i64 r.a, .int .i64 r.b, .int .i64 r.c] 44)) W → W.cell? ⟨w.heap.size + 1, 1, none⟩ = some (.int .i64 r.a) ∧ W.cell? ⟨0, kk, none⟩ = some (.string (nu kk))) := fun W hW =>
    ⟨(base_cells hW).1, Names_below ((below_aa w _ _).trans (hW.mono (by omega))) hn kk (by omega)⟩
  generalize hnu : nu kk = nk at *
  have HK : Hid (kk < many ∧ nu kk = nk) := ⟨hk1, hnu⟩
  clear hka hnu kp hr kc hl hl1 hlA hlB hp IH hdd hb10 t0 t1 t2 t3 hmany hn
  go_enter Tryd.func32, Tryd.ntmps32
  go_wp2_with (go_at_call 8; refine (KP.out _ _ _ (by first | exact FT.out.1 | exact FT.out.2.1 | exact FT.out.2.2.1) (by decide) (by decide)).mono ?_; rintro e w1 ⟨rfl, rfl⟩)
  obtain ⟨W0, ew⟩ : ∃ W0, W0 = ((w.alloc (.cells #[.int .i64 0, .int .i64 0, .string ⟨#[]⟩, .string ⟨#[]⟩, .slice none 0 0] 29)).alloc (.cells #[.int .i64 r.k, .int .i64 r.a, .int .i64 r.b, .int .i64 r.c] 44)) := ⟨_, rfl⟩
  have EW : Hid (W0 = ((w.alloc (.cells #[.int .i64 0, .int .i64 0, .string ⟨#[]⟩, .string ⟨#[]⟩, .slice none 0 0] 29)).alloc (.cells #[.int .i64 r.k, .int .i64 r.a, .int .i64 r.b, .int .i64 r.c] 44))) := ew
  have ALL : Hid (∀ W, Below (w.heap.size + 2) W0 W → W.cell? ⟨w.heap.size + 1, 1, none⟩ = some (.int .i64 r.a) ∧ W.cell? ⟨0, kk, none⟩ = some (.string nk)) := by rw [ew]; exact cU.out
  have B0 : Hid (Below w.heap.size w W0) := by rw [ew]; exact below_aa w _ _
  have z0 : W0.heap.size = w.heap.size + 2 := by rw [ew]; simp
  have Z0 : Hid (W0.heap.size = w.heap.size + 2) := z0
  have R0 : Hid (W0.heap[w.heap.size]? = some (.cells #[.int .i64 0, .int .i64 0, .string ⟨#[]⟩, .string ⟨#[]⟩, .slice none 0 0] 29)) := by rw [ew]; exact got_old _ _ (got1 w _)
  rw [← ew]
  have HWR : Hid (IntKind.i64.wrap (dep + 1) = dep + 1) := (by rw [IntKind.wrap_i64]; omega : IntKind.i64.wrap (dep + 1) = dep + 1)
  have hw0 : 0 < w.heap.size := World.block_lt_of_cell? w _ (HN.out 0 (by decide))
  clear ew z0 cU p0 p1 p2 p3
  go_region_held3 (fun w' => w'.cell? ⟨w.heap.size + 1, 1, none⟩ = some (.int .i64 r.a) ∧ w'.cell? ⟨0, kk, none⟩ = some (.string nk))
    (first
      | (with_reducible exact ALL.out _ (Below.refl _ _).drew)
      | (with_reducible exact ALL.out _ (Below.refl _ _))
      | (with_reducible exact ALL.out _ hk2)
      | (with_reducible exact ALL.out _ hk9)
      | (with_reducible exact ALL.out _ (hk9.alloc hz9 _))
      | (refine ⟨five_keep (ALL.out _ (hk9.alloc hz9 _)).1 (by simp), five_keep (ALL.out _ (hk9.alloc hz9 _)).2 (by simp; omega)⟩))
    (first
      | (go_at_call 8; refine (KP.out _ _ _ FT.out.2.1 (by have := HM.out; omega) (by have := HM.out; omega)).mono ?_; rintro e w5 ⟨rfl, rfl⟩)
      | (go_at_call 32; have hpre := H1.out; clear hpre; (try rw [HWR.out]); refine (KC.out _ _ _ _ RB.out (B0.out.trans (H1.out.mono (by omega)))).mono ?_; rintro e w2 ⟨hb2, x2, T2, rfl, hx2, hok2, hs2⟩; obtain ⟨k2, n2, of2, s2, ao2, len2, cap2⟩ := x2; have hk9 : Below (w.heap.size + 2) W0 w2 := H1.out.trans (hb2.mono (by have := H1.out.size; have := Z0.out; omega)); have hz9 : w.heap.size + 2 ≤ w2.heap.size := (by have := hk9.size; have := Z0.out; omega); have X2 : Hid (T2 [] = ⟨k2, n2, of2, s2, ao2, len2, cap2⟩) := hx2; have O2 : Hid (okE many pl d T2) := hok2; have S2' : Hid _ := hs2; have L2 : Hid (Below _ _ w2) := hb2; have R2 : ∀ o, (w2.alloc o).heap[w.heap.size]? = some (.cells #[.int .i64 0, .int .i64 0, .string ⟨#[]⟩, .string ⟨#[]⟩, .slice none 0 0] 29) := (fun o => got_old _ _ ((hk9.block _ (by omega)).trans R0.out)); have RC0 := (fun o => (five_cells (R2 o)).1); have RC1 := (fun o => (five_cells (R2 o)).2.1); have RC2 := (fun o => (five_cells (R2 o)).2.2.1); have RC3 := (fun o => (five_cells (R2 o)).2.2.2.1); have RC4 := (fun o => (five_cells (R2 o)).2.2.2.2.1); have RF := (fun o => (five_cells (R2 o)).2.2.2.2.2); clear hb2 hx2 hok2 hs2)
      | (go_at_call 32; (try rw [HWR.out]); refine (KC.out _ _ _ _ RA.out (by first | (with_reducible exact B0.out.drew) | (with_reducible exact B0.out))).mono ?_; rintro e w1 ⟨hb1, x1, T1, rfl, hx1, hok1, hs1⟩; obtain ⟨k1, n1, of1, s1, ao1, len1, cap1⟩ := x1; have H1 : Hid (Below (w.heap.size + 2) W0 w1) := (Below.refl _ W0).drew.trans (hb1.mono (Nat.le_of_eq Z0.out.symm)); have hk2 : Below (w.heap.size + 2) W0 w1 := H1.out; have X1 : Hid (T1 [] = ⟨k1, n1, of1, s1, ao1, len1, cap1⟩) := hx1; have O1 : Hid (okE many pl d T1) := hok1; have S1' : Hid _ := hs1; have L1 : Hid (Below _ _ w1) := hb1; clear hb1 hx1 hok1 hs1))
  go_wp2
  have FN : Fin w w2 _ #[.int .i64 k1, .int .i64 n1, .string of1, .string s1, .slice ao1 len1 cap1, .int .i64 k2, .int .i64 n2, .string of2, .string s2, .slice ao2 len2 cap2] #[.int .i64 4, .int .i64 0, .string nk, .string ⟨#[102]⟩, .slice (some ⟨w2.heap.size, 0, none⟩) 2 2] := fin5 (by have h := hk9; rw [EW.out] at h; exact h) #[.int .i64 k1, .int .i64 n1, .string of1, .string s1, .slice ao1 len1 cap1, .int .i64 k2, .int .i64 n2, .string of2, .string s2, .slice ao2 len2 cap2]
  refine answers rfl rfl FN.res rfl rfl ?_
  have ok : ∀ i, i < 2 → okE many pl d (two2 T1 T2 i) := fun i hi => by
    obtain rfl | rfl : i = 0 ∨ i = 1 := by omega
    · exact O1.out
    · exact O2.out
  have z1 := H1.out.size
  have z2 := L2.out.size
  have z0 := Z0.out
  refine out_node (n := 2) (x := ⟨4, 0, nk, ⟨#[102]⟩, some ⟨w2.heap.size, 0, none⟩, 2, 2⟩) (C := two2 T1 T2) FN.below rfl rfl (.inr (.inr (.inr (.inl ⟨rfl, rfl, .inr ⟨kk, HK.out.1, HK.out.2.symm, .inl ⟨rfl, rfl⟩⟩⟩)))) ok (row_of (by omega) (by rw [FN.size]; omega) FN.args ?_ ok ?_)
  · intro i hi j hj
    obtain rfl | rfl : i = 0 ∨ i = 1 := by omega
    · show _ = (five (T1 []))[j]?
      rw [X1.out]
      obtain rfl | rfl | rfl | rfl | rfl : j = 0 ∨ j = 1 ∨ j = 2 ∨ j = 3 ∨ j = 4 := by omega
      all_goals rfl
    · show _ = (five (T2 []))[j]?
      rw [X2.out]
      obtain rfl | rfl | rfl | rfl | rfl : j = 0 ∨ j = 1 ∨ j = 2 ∨ j = 3 ∨ j = 4 := by omega
      all_goals rfl
  · intro i hi W hW
    obtain rfl | rfl : i = 0 ∨ i = 1 := by omega
    · exact S1'.out W (hW.sub (by show w.heap.size ≤ W0.heap.size; omega) (by rw [FN.size]; omega) fun i h1 h2 => (FN.old i (by omega) (by have h1' : W0.heap.size ≤ i := h1; omega)).trans (L2.out.block i h2))
    · exact S2'.out W (hW.sub (by omega) (by rw [FN.size]; omega) fun i h1 h2 => FN.old i h2 (by omega))
end Go.Proofs.YtgjemlhnlpglbaaDoor.PExprF
