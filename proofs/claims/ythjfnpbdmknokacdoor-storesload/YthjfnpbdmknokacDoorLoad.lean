/-
  WHAT mem.Load GIVES, for every image, every list of numbers, every part and place: each call returns, and lays new memory alone.
  Conditions: the table 'code.bounds' lies there, the image's parts and the numbers.
-/
import Derived.Test.YthjfnpbdmknokacDoorLook
namespace Go.Proofs.YthjfnpbdmknokacDoor.Load
open Go.RowKit Tab Go.Proofs.YthjfnpbdmknokacDoor.Check Lists Go.Proofs.YthjfnpbdmknokacDoor.Read Img Look

/-- P3.3: what is loaded -/
def got (P : Nat → PartD) (len : Nat) (z : Nat → Int) (dlen : Nat) (p t : Int) : Int := if ownFault P len z dlen p t = 0 then z t.toNat else 0

theorem own_bad {P : Nat → PartD} {len : Nat} {z : Nat → Int} {dlen : Nat} {p t : Int} (h : dataFault P len z dlen ≠ 0) : ownFault P len z dlen p t = dataFault P len z dlen := if_neg h
theorem own_none {P : Nat → PartD} {len : Nat} {z : Nat → Int} {dlen : Nat} {p t : Int} (h : dataFault P len z dlen = 0) (hp : ¬ (0 ≤ p ∧ p < len)) : ownFault P len z dlen p t = 5 := by rw [ownFault, if_pos h, if_neg hp]
theorem own_edge {P : Nat → PartD} {len : Nat} {z : Nat → Int} {dlen p : Nat} {t : Int} (h : dataFault P len z dlen = 0) (hp : p < len) (ht : ¬ ((P p).lo ≤ t ∧ t < (P p).hi)) : ownFault P len z dlen p t = 9 := by
  rw [ownFault, if_pos h, if_pos (by omega), Int.toNat_natCast, if_neg ht]
theorem own_ok {P : Nat → PartD} {len : Nat} {z : Nat → Int} {dlen p : Nat} {t : Int} (h : dataFault P len z dlen = 0) (hp : p < len) (ht : (P p).lo ≤ t ∧ t < (P p).hi) : ownFault P len z dlen p t = 0 := by
  rw [ownFault, if_pos h, if_pos (by omega), Int.toNat_natCast, if_pos ht]
theorem got_bad {P : Nat → PartD} {len : Nat} {z : Nat → Int} {dlen : Nat} {p t : Int} (h : ownFault P len z dlen p t ≠ 0) : got P len z dlen p t = 0 := if_neg h
theorem got_ok {P : Nat → PartD} {len : Nat} {z : Nat → Int} {dlen : Nat} {p : Int} {k : Nat} (h : ownFault P len z dlen p k = 0) : got P len z dlen p k = z k := by rw [got, if_pos h, Int.toNat_natCast]

/-- four ways that it can go -/
theorem ways (P : Nat → PartD) (len : Nat) (z : Nat → Int) (dlen : Nat) (p t : Int) :
    (∃ r, dataFault P len z dlen = r ∧ r ≠ 0 ∧ ownFault P len z dlen p t = r) ∨
    (dataFault P len z dlen = 0 ∧ ¬ (0 ≤ p ∧ p < len) ∧ ownFault P len z dlen p t = 5) ∨
    (dataFault P len z dlen = 0 ∧ ∃ k : Nat, p = k ∧ k < len ∧ ¬ ((P k).lo ≤ t ∧ t < (P k).hi) ∧ ownFault P len z dlen p t = 9) ∨
    (dataFault P len z dlen = 0 ∧ ∃ k j : Nat, p = k ∧ t = j ∧ k < len ∧ ((P k).lo ≤ t ∧ t < (P k).hi) ∧ j < dlen ∧ ownFault P len z dlen p t = 0) := by
  by_cases h : dataFault P len z dlen = 0
  · by_cases hp : 0 ≤ p ∧ p < len
    · obtain ⟨k, rfl⟩ : ∃ k : Nat, p = k := ⟨p.toNat, by omega⟩
      have hk : k < len := by omega
      by_cases ht : (P k).lo ≤ t ∧ t < (P k).hi
      · have hi := inside h hk
        obtain ⟨j, rfl⟩ : ∃ j : Nat, t = j := ⟨t.toNat, by omega⟩
        exact .inr (.inr (.inr ⟨h, k, j, rfl, rfl, hk, ht, by omega, own_ok h hk ht⟩))
      · exact .inr (.inr (.inl ⟨h, k, rfl, hk, ht, own_edge h hk ht⟩))
    · exact .inr (.inl ⟨h, hp, own_none h hp⟩)
  · exact .inl ⟨_, rfl, h, own_bad h⟩

theorem load (ao : Option Addr) (len cap : Nat) (hlen : len ≤ maxLen) (P : Nat → PartD) (da : Option Addr) (dlen dcap : Nat) (z : Nat → Int) (p t : Int) (w : World) (hl : Lies w) (hin : Parts w ao len P) (hd : Ints w da dlen z) :
    Calls Tryd.prog 7 #[.agg #[.slice ao len cap], .slice da dlen dcap, .int .i64 p, .int .i64 t] w fun e w' => e = .returned (.tuple #[.int .i64 (got P len z dlen p t), .int .i64 (ownFault P len z dlen p t)]) ∧ Below w.heap.size w w' := by
  have hb0 := below1 w (.cells #[.slice ao len cap] 24)
  have hl1 := Lies_below hl hb0
  have hin1 := Parts_below hin hb0
  have hd1 := Ints_below hd hb0
  rcases ways P len z dlen p t with ⟨r, er, hr, eo⟩ | ⟨er, hp, eo⟩ | ⟨er, k, rfl, hk, ht, eo⟩ | ⟨er, k, j, rfl, rfl, hk, ht, hj, eo⟩
  · have eg := got_bad (by rw [eo]; exact hr)
    rw [eg, eo]
    have k32 : ∀ w, Lies w → Parts w ao len P → Ints w da dlen z → _ := fun w h h' h'' => lookAs_bad ao len cap hlen P da dlen dcap z p w h h' h'' r er hr
    have hr2 : (r == 0) = false := by simpa using hr
    clear er eo eg hl hin hd hlen
    go_enter Tryd.func7, Tryd.ntmps7
    go_wp2_with (go_at_call 10; refine (k32 _ hl1 hin1 hd1).mono ?_; rintro e w1 ⟨rfl, hb1⟩; have hb2 := hb0.trans (hb1.mono hb0.size); clear hb1)
    go_ret2
    exact ⟨rfl, hb2⟩
  · have eg := got_bad (by rw [eo]; decide)
    rw [eg, eo]
    have k32 : ∀ w, Lies w → Parts w ao len P → Ints w da dlen z → _ := fun w h h' h'' => lookAs_none ao len cap hlen P da dlen dcap z p w h h' h'' er hp
    clear er eo eg hl hin hd hlen hp
    go_enter Tryd.func7, Tryd.ntmps7
    go_wp2_with (go_at_call 10; refine (k32 _ hl1 hin1 hd1).mono ?_; rintro e w1 ⟨rfl, hb1⟩; have hb2 := hb0.trans (hb1.mono hb0.size); clear hb1)
    go_ret2
    exact ⟨rfl, hb2⟩
  · have eg := got_bad (by rw [eo]; decide)
    rw [eg, eo]
    have k32 : ∀ w, Lies w → Parts w ao len P → Ints w da dlen z → _ := fun w h h' h'' => lookAs_ok ao len cap hlen P da dlen dcap z k w h h' h'' er hk
    have k37 := fun b0 b1 v w h0 h1 => look_edge t (P k).lo (P k).hi b0 b1 v w h0 h1 ht
    clear er eo eg hl hin hd hlen ht
    go_enter Tryd.func7, Tryd.ntmps7
    go_wp2_with (first
      | (go_at_call 10; refine (k32 _ hl1 hin1 hd1).mono ?_; rintro e w1 ⟨hb1, b0, b1, b2, rfl, c0, c1, c2⟩; have hb2 := hb0.trans (hb1.mono hb0.size); clear hb1)
      | (go_at_call 13; refine (k37 _ _ _ _ c0 c1).mono ?_; rintro e w2 ⟨rfl, rfl⟩))
    go_ret2
    exact ⟨rfl, hb2⟩
  · have eg := got_ok eo
    rw [eg, eo]
    have k32 : ∀ w, Lies w → Parts w ao len P → Ints w da dlen z → _ := fun w h h' h'' => lookAs_ok ao len cap hlen P da dlen dcap z k w h h' h'' er hk
    have k37 := fun b0 b1 b2 bl off w h0 h1 h2 h3 => look_ok j dlen dcap b0 b1 b2 bl off (P k).lo (P k).hi (z j) w h0 h1 h2 h3 ht.1 ht.2 (by omega)
    have keep : ∀ w', Below w.heap.size w w' → Ints w' da dlen z := fun w' hb => Ints_below hd hb
    clear er eo eg hl hin hd hlen ht
    go_enter Tryd.func7, Tryd.ntmps7
    go_wp2_with (first
      | (go_at_call 10; refine (k32 _ hl1 hin1 hd1).mono ?_; rintro e w1 ⟨hb1, b0, b1, b2, rfl, c0, c1, c2⟩; have hb2 := hb0.trans (hb1.mono hb0.size); clear hb1; obtain ⟨bl, off, rfl, hc⟩ := keep _ hb2 j hj; have c3 := hc j hj; clear hc)
      | (go_at_call 13; refine (k37 _ _ _ _ _ _ c0 c1 c2 c3).mono ?_; rintro e w2 ⟨rfl, rfl⟩))
    go_ret2
    exact ⟨rfl, hb2⟩

end Go.Proofs.YthjfnpbdmknokacDoor.Load
