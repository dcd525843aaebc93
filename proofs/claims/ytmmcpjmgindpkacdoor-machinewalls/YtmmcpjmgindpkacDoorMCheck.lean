/-
  WHAT mach.check GIVES where it refuses nothing; and how a run lies there when it begins.
  Conditions: the table 'code.bounds' lies there, the image's parts, the data and the words.
-/
import Derived.Test.YtmmcpjmgindpkacDoorStart
import Derived.Test.YtmmcpjmgindpkacDoorData
namespace Go.Proofs.YtmmcpjmgindpkacDoor.MCheck
open Go.RowKit Tab Go.Proofs.YtmmcpjmgindpkacDoor.Check Lists Go.Proofs.YtmmcpjmgindpkacDoor.Read Img Mach Own Go.Proofs.YtmmcpjmgindpkacDoor.Inv Go.Proofs.YtmmcpjmgindpkacDoor.Frame Take Go.Proofs.YtmmcpjmgindpkacDoor.Went Go.Proofs.YtmmcpjmgindpkacDoor.Entry ActE ActQ Go.Proofs.YtmmcpjmgindpkacDoor.Start

theorem part_sure {p : PartD} {s : Int} (h : partFault p s = 0) : p.cl ≤ 1200 ∧ p.el ≤ 8 ∧ codeFault p = 0 ∧ entriesFault p = 0 := by
  unfold partFault at h
  split at h
  · split at h
    · split at h
      · exact ⟨by omega, by omega, by assumption, by assumption⟩
      · contradiction
    · contradiction
  · cases h

theorem entry_sure {n : Nat} {t r : Int} (h : entryFault n t r = 0) : (0 ≤ t ∧ t < n) ∧ (0 ≤ r ∧ r ≤ 4) := by
  unfold entryFault at h
  split at h
  · assumption
  · cases h

set_option maxRecDepth 100000 in
set_option maxHeartbeats 1000000 in
theorem check_ok (ao : Option Addr) (len cap : Nat) (hlen : len ≤ maxLen) (P : Nat → PartD) (da : Option Addr) (dlen dcap : Nat) (z : Nat → Int) (aa : Option Addr) (alen acap : Nat) (az : Nat → Int) (k j : Nat) (fuel : Int) (w : World) (hl : Lies w) (hin : Parts w ao len P) (hd : Ints w da dlen z) (ha : Ints w aa alen az) (er : dataFault P len z dlen = 0)
    (hk : k < len) (hj : j < (P k).el) (hn : (alen : Int) = (P k).prs j) (hf0 : 0 ≤ fuel) (hf1 : fuel ≤ 100000) (hw : first (fun i => wordFault (az i)) alen = 0) :
    Calls Tryd.prog 22 #[.agg #[.slice ao len cap], .slice da dlen dcap, .int .i64 k, .int .i64 j, .slice aa alen acap, .int .i64 fuel] w fun e w' => e = .returned (.int .i64 0) ∧ Below w.heap.size w w' := by
  have h5 := (imageFault_zero (dataFault_zero er).1).1
  have hp := part_sure (first_zero (imageFault_zero (dataFault_zero er).1).2 k hk)
  have he := entry_sure (first_zero hp.2.2.2 j hj)
  have hal : alen ≤ 4 := by omega
  have hb0 := below1 w (.cells #[.slice ao len cap] 24)
  have k31 : ∀ W, Below w.heap.size w W → _ := fun W hb => Data.checkData ao len cap hlen P da dlen dcap z W (Lies_below hl hb) (Parts_below hin hb) (Ints_below hd hb)
  rw [er] at k31
  have k33 : ∀ W, Below w.heap.size w W → _ := fun W hb => entryOf_ok ao len cap h5 P k j hk hj hp.2.1 W (Parts_below hin hb)
  have keepA : ∀ w', Below w.heap.size w w' → Ints w' aa alen az := fun w' hb => Ints_below ha hb
  have word : ∀ i, i < alen → 0 ≤ az i ∧ az i ≤ 65535 := by
    intro i hi
    have := first_zero hw i hi
    simp only [wordFault] at this
    split at this
    · assumption
    · cases this
  obtain ⟨at_, eat⟩ : ∃ x, x = (P k).ats j := ⟨_, rfl⟩
  obtain ⟨pr, epr⟩ : ∃ x, x = (P k).prs j := ⟨_, rfl⟩
  rw [← eat, ← epr] at k33
  rw [← epr] at hn
  subst hn
  have halI : (alen : Int) ≤ 4 := by omega
  have K31 : Hid _ := k31
  have K33 : Hid _ := k33
  have KA : Hid _ := keepA
  have WD : Hid _ := word
  have HB0 : Hid _ := hb0
  clear k31 k33 keepA word hb0 hl hin hd ha er hk hj hw hp he eat epr hlen h5 hal
  go_enter Tryd.func22, Tryd.ntmps22
  go_wp2_with (first
    | (go_at_call 31; refine (K31.out _ HB0.out).mono ?_; rintro e w1 ⟨rfl, hb1⟩; have q0 := box1 hb1; have hb2 := HB0.out.trans (hb1.mono HB0.out.size); have HB2 : Hid _ := hb2; clear hb1 hb2)
    | (go_at_call 33; refine (K33.out _ HB2.out).mono ?_; rintro e w2 ⟨rfl, rfl⟩))
  go_loopw [47] (fun i wr => ∃ m : Nat, m ≤ alen ∧ i = .int .i64 m ∧ Below w.heap.size w wr) (fun i _ => alen - (intOf i).toNat)
  case atStart => exact ⟨0, Nat.zero_le _, rfl, by first | exact (HB2.out.alloc HB2.out.size _).alloc (by have := HB2.out.size; simp; omega) _ | exact HB2.out.alloc HB2.out.size _⟩
  case round =>
    obtain ⟨m, hm, rfl, hbr⟩ := hrel
    have HBR : Hid _ := hbr
    by_cases hml : m < alen
    · obtain ⟨bl, off, rfl, t⟩ := KA.out _ hbr m hml
      have s0 := t m hml
      obtain ⟨x, ex⟩ : ∃ x, x = az m := ⟨_, rfl⟩
      rw [← ex] at s0
      have hx := WD.out m hml
      rw [← ex] at hx
      obtain ⟨hx0, hx1⟩ := hx
      have hmI : (m : Int) < alen := by omega
      have d : decide (0 ≤ x ∧ x ≤ 65535) = true := decide_eq_true ⟨hx0, hx1⟩
      clear ex t hbr
      go_wp2_with (go_at_call 21; refine (is _ _).mono ?_; rintro e w' ⟨rfl, rfl⟩)
      go_roundw
      case rel => exact ⟨m + 1, by omega, by go_num, HBR.out⟩
      case measure => simp [intOf]; omega
    · obtain rfl : m = alen := by omega
      clear hbr
      go_wp2
      go_ret
      exact ⟨rfl, HBR.out⟩

/-- a run that begins, with its looks -/
theorem begins {w wr : World} {R D : Nat} {ao : Option Addr} {len cap : Nat} {fuel : Int} {data : List Int} {P : Nat → PartD} {own : Nat → Tag} {lS : Value} {bs : List (Nat × Nat)} (h : Rel w R D ao len cap fuel data P own lS bs wr) (hbs : bs.length = len) (hlen : 0 < len) (_hD : w.heap.size ≤ D) (hRD : R ≠ D) :
    ∃ gL capL own', lS = .slice (some ⟨gL, 0, none⟩) len capL ∧ Inv own' wr wr R D (.slice ao len cap) (.slice (some ⟨gL, 0, none⟩) len capL) (.slice none 0 0) (.slice none 0 0) (.slice none 0 0) fuel [] [] data [] [] ∧ Go.Proofs.YtmmcpjmgindpkacDoor.Look.Looks wr R D gL len data.length P := by
  obtain ⟨gL, capL, rfl, tL, _⟩ := h.looks.form (by omega)
  rw [hbs] at h ⊢
  obtain ⟨own', eo⟩ : ∃ o : Nat → Tag, o = fun k => if k = R then (1, 0) else if k = D then (2, 0) else (0, 0) := ⟨_, rfl⟩
  refine ⟨gL, capL, own', rfl, ⟨⟨rfl, rfl, rfl, Nat.le_refl _, fun b _ hR hD => ⟨by rw [eo]; simp [hR, hD], rfl⟩⟩, ⟨h.run.heap, by rw [eo]; simp⟩, ⟨h.dat.row, fun g hg => by simp [Value.ownBlock] at hg; rw [eo, ← hg]; simp [Ne.symm hRD]⟩, Owned.nil _ _ _ _ _, Owned.nil _ _ _ _ _, Owned.nil _ _ _ _ _, rfl, fun k r v hk => by simp at hk⟩, ?_⟩
  have nR := h.run.tag
  have nD := h.dat.tag D rfl
  intro k hk
  obtain ⟨b0, b1, hb⟩ : ∃ b0 b1, bs[k]? = some (b0, b1) := ⟨bs[k].1, bs[k].2, by rw [List.getElem?_eq_getElem (by omega)]⟩
  obtain ⟨hb0, hb1⟩ := h.boxes k b0 b1 hb
  have hl := h.looks
  rw [hbs] at hl
  refine ⟨b0, b1, hl.cell k (by simp [hb, clo]), hb0.cell 2 rfl, hb0.cell 3 rfl, hb1.cell 0 rfl, ⟨fun e => ?_, fun e => ?_⟩, ⟨fun e => ?_, fun e => ?_⟩, ⟨fun e => ?_, fun e => ?_⟩⟩
  · rw [e, nR] at tL; cases tL
  · rw [e, nD] at tL; cases tL
  · have := hb0.tag; rw [e, nR] at this; cases this
  · have := hb0.tag; rw [e, nD] at this; cases this
  · have := hb1.tag; rw [e, nR] at this; cases this
  · have := hb1.tag; rw [e, nD] at this; cases this

theorem sure {w w1 : World} {R D : Nat} {ao : Option Addr} {gL len : Nat} {P : Nat → PartD} {z : Nat → Int} {dlen : Nat} (hin : Parts w ao len P) (hb : Below w.heap.size w w1) (hR : w.heap.size ≤ R) (hD : w.heap.size ≤ D) (er : dataFault P len z dlen = 0) (hL : Go.Proofs.YtmmcpjmgindpkacDoor.Look.Looks w1 R D gL len dlen P) : Sure w1 R D ao gL len dlen P := by
  have hi := imageFault_zero (dataFault_zero er).1
  have hp := fun k hk => part_sure (first_zero hi.2 k hk)
  refine ⟨?_, hL, hi.1, fun k hk => (hp k hk).2.1, fun k hk => (hp k hk).1, fun k hk j hj => first_zero (hp k hk).2.2.1 j hj, fun k hk => ⟨(inside er hk).1, (inside er hk).2.1⟩, fun k hk j hj => entry_sure (first_zero (hp k hk).2.2.2 j hj)⟩
  intro w' h
  have hc : ∀ a : Addr, ∀ v, w.cell? a = some v → w'.cell? a = some v := by
    intro a v hv
    have hlt := World.block_lt_of_cell? w a hv
    exact (World.cell?_of_block (w := w) ((h a.block (Nat.lt_of_lt_of_le hlt hb.size) (by omega) (by omega)).trans (hb.block a.block hlt))).trans hv
  intro k hk
  obtain ⟨⟨bl, off, e, t0, t1, t2, t3⟩, hI, hE⟩ := hin k hk
  refine ⟨⟨bl, off, e, hc _ _ t0, hc _ _ t1, hc _ _ t2, hc _ _ t3⟩, fun j hj => ?_, fun j hj => ?_⟩
  · obtain ⟨bl, off, e, t0, t1, t2, t3⟩ := hI j hj
    exact ⟨bl, off, e, hc _ _ t0, hc _ _ t1, hc _ _ t2, hc _ _ t3⟩
  · obtain ⟨bl, off, e, t0, t1⟩ := hE j hj
    exact ⟨bl, off, e, hc _ _ t0, hc _ _ t1⟩
end Go.Proofs.YtmmcpjmgindpkacDoor.MCheck
