/-
  THE WALK OF THE LAW 'barbicankeep.StoresLoad' where the place is not the part's own: the call returns true, and lays new memory alone.
  Conditions: the table 'code.bounds' lies there.
-/
import Derived.Test.YthjfnpbdmknokacDoorRun
namespace Go.Proofs.YthjfnpbdmknokacDoor.Run
open Go.RowKit Tab Go.Proofs.YthjfnpbdmknokacDoor.Check Lists Go.Proofs.YthjfnpbdmknokacDoor.Read Img Keep Go.Proofs.YthjfnpbdmknokacDoor.Store

set_option maxHeartbeats 4000000 in
theorem edge0 (a n q : Int) (wa : (Lit.int .i64 a).wf = true) (wn : (Lit.int .i64 n).wf = true) (wq : (Lit.int .i64 q).wf = true) (t : Int) (ht0 : -1 ≤ t) (ht1 : t ≤ 7) (ht : ¬ (0 ≤ t ∧ t < 3)) (ha : ((pk a 9 : Nat) : Int) = t + 1) (hq : ((pk q 2 : Nat) : Int) = 0) (w : World) (hl : Lies w) :
    Calls Tryd.prog 3 #[.int .i64 a, .int .i64 n, .int .i64 q] w fun e w' => e = .returned (.bool true) ∧ Below w.heap.size w w' := by
  have ka : ∀ w, Calls Tryd.prog 5 #[.int .i64 a, .int .i64 9] w fun e w' => e = .returned (.int .i64 (t + 1)) ∧ w' = w := fun w => (picked a wa 9 (by decide) (by decide) w).mono fun e w' ⟨h, h'⟩ => ⟨by rw [h, ha], h'⟩
  have kq : ∀ w, Calls Tryd.prog 5 #[.int .i64 q, .int .i64 2] w fun e w' => e = .returned (.int .i64 0) ∧ w' = w := fun w => (picked q wq 2 (by decide) (by decide) w).mono fun e w' ⟨h, h'⟩ => ⟨by rw [h, hq], h'⟩
  have kn : ∀ w, Calls Tryd.prog 5 #[.int .i64 n, .int .i64 65536] w fun e w' => e = .returned (.int .i64 (pk n 65536 : Nat)) ∧ w' = w := fun w => picked n wn 65536 (by decide) (by decide) w
  have hv : pk n 65536 < 65536 := pk_lt n 65536 (by decide)
  obtain ⟨v, ev⟩ : ∃ v, v = pk n 65536 := ⟨_, rfl⟩
  rw [← ev] at kn hv
  have hb0 := below1 w (.cells #[.int .i64 15, .int .i64 0, .int .i64 0, .int .i64 0] 27)
  have k4 := image w.heap.size _ (code_lies w)
  have hl0 := Lies_below hl hb0
  clear hl
  have ho : ownFault (parts (w.alloc (.cells #[.int .i64 15, .int .i64 0, .int .i64 0, .int .i64 0] 27)).heap.size w.heap.size) 2 words 7 0 t = 9 := Load.own_edge (p := 0) (data_ok _ _ _ words_ok) (by decide) ht
  have hs : storeFault (parts (w.alloc (.cells #[.int .i64 15, .int .i64 0, .int .i64 0, .int .i64 0] 27)).heap.size w.heap.size) 2 words 7 0 t v = 9 := by rw [storeFault, ho, if_neg (by decide)]
  have k6 : ∀ g w2 da, Lies w2 → Parts w2 (some ⟨g, 0, none⟩) 2 (parts (w.alloc (.cells #[.int .i64 15, .int .i64 0, .int .i64 0, .int .i64 0] 27)).heap.size w.heap.size) → Ints w2 da 7 words →
      Calls Tryd.prog 6 #[.agg #[.slice (some ⟨g, 0, none⟩) 2 2], .slice da 7 7, .int .i64 0, .int .i64 t, .int .i64 v] w2 fun e w' => e = .returned (.tuple #[.slice none 0 0, .int .i64 9]) ∧ Below w2.heap.size w2 w' := by
    intro g w2 da h h' h''
    refine (store_bad (some ⟨g, 0, none⟩) 2 2 (by decide) _ da 7 7 words 0 t v w2 h h' h'' (by rw [hs]; decide)).mono fun e w' ⟨he, hb⟩ => ⟨?_, hb⟩
    rw [he, hs]
  have k7 : ∀ g w2 da, Lies w2 → Parts w2 (some ⟨g, 0, none⟩) 2 (parts (w.alloc (.cells #[.int .i64 15, .int .i64 0, .int .i64 0, .int .i64 0] 27)).heap.size w.heap.size) → Ints w2 da 7 words →
      Calls Tryd.prog 7 #[.agg #[.slice (some ⟨g, 0, none⟩) 2 2], .slice da 7 7, .int .i64 0, .int .i64 t] w2 fun e w' => e = .returned (.tuple #[.int .i64 0, .int .i64 9]) ∧ Below w2.heap.size w2 w' := by
    intro g w2 da h h' h''
    refine (Load.load (some ⟨g, 0, none⟩) 2 2 (by decide) _ da 7 7 words 0 t w2 h h' h'').mono fun e w' ⟨he, hb⟩ => ⟨?_, hb⟩
    rw [he, Load.got_bad (by rw [ho]; decide), ho]
  clear ev ha hq hs ho
  rcases (show t < 0 ∨ (0 ≤ t ∧ 3 ≤ t) by omega) with c0 | ⟨c0, c1⟩
  · have d1 : decide (0 ≤ t) = false := decide_eq_false (by omega)
    clear ht
    go_enter Tryd.func3, Tryd.ntmps3
    go_wp2_with (first
      | (go_at_call 4; refine k4.mono ?_; rintro e w1 ⟨hb1, g, rfl, hP1⟩; have hl1 := Lies_below hl0 hb1; have hb2 := hb0.trans (hb1.mono hb0.size); have facts := prep hl1 hP1; have hb3 := (hb2.alloc hb2.size (.cells #[.slice (some ⟨g, 0, none⟩) 2 2] 24)).alloc (by have := hb2.size; simp; omega) (.cells #[.int .i64 1, .int .i64 2, .int .i64 3, .int .i64 4, .int .i64 5, .int .i64 6, .int .i64 7] 3); have HB3 : Hid _ := hb3; obtain ⟨f0, f1, f2, f3⟩ := facts _ (Below.refl _ _); clear hb1 hP1 hl1 hb3)
      | (go_at_call_of 5 q; refine (kq _).mono ?_; rintro e w' ⟨rfl, rfl⟩)
      | (go_at_call_of 5 a; refine (ka _).mono ?_; rintro e w' ⟨rfl, rfl⟩)
      | (go_at_call_of 5 n; refine (kn _).mono ?_; rintro e w' ⟨rfl, rfl⟩)
      | (go_at_call 6; refine (k6 _ _ _ f0 f1 f2).mono ?_; rintro e w4 ⟨rfl, hb4⟩; obtain ⟨e0, e1, e2, e3⟩ := facts _ hb4; clear f0 f1 f2 f3)
      | (go_at_call 7; refine (k7 _ _ _ e0 e1 e2).mono ?_; rintro e w5 ⟨rfl, hb5⟩; have hb6 := hb4.trans (hb5.mono hb4.size)))
    go_ret
    exact ⟨rfl, HB3.out.trans (hb6.mono HB3.out.size)⟩
  · have d1 : decide (t < 3) = false := decide_eq_false (by omega)
    clear ht
    go_enter Tryd.func3, Tryd.ntmps3
    go_wp2_with (first
      | (go_at_call 4; refine k4.mono ?_; rintro e w1 ⟨hb1, g, rfl, hP1⟩; have hl1 := Lies_below hl0 hb1; have hb2 := hb0.trans (hb1.mono hb0.size); have facts := prep hl1 hP1; have hb3 := (hb2.alloc hb2.size (.cells #[.slice (some ⟨g, 0, none⟩) 2 2] 24)).alloc (by have := hb2.size; simp; omega) (.cells #[.int .i64 1, .int .i64 2, .int .i64 3, .int .i64 4, .int .i64 5, .int .i64 6, .int .i64 7] 3); have HB3 : Hid _ := hb3; obtain ⟨f0, f1, f2, f3⟩ := facts _ (Below.refl _ _); clear hb1 hP1 hl1 hb3)
      | (go_at_call_of 5 q; refine (kq _).mono ?_; rintro e w' ⟨rfl, rfl⟩)
      | (go_at_call_of 5 a; refine (ka _).mono ?_; rintro e w' ⟨rfl, rfl⟩)
      | (go_at_call_of 5 n; refine (kn _).mono ?_; rintro e w' ⟨rfl, rfl⟩)
      | (go_at_call 6; refine (k6 _ _ _ f0 f1 f2).mono ?_; rintro e w4 ⟨rfl, hb4⟩; obtain ⟨e0, e1, e2, e3⟩ := facts _ hb4; clear f0 f1 f2 f3)
      | (go_at_call 7; refine (k7 _ _ _ e0 e1 e2).mono ?_; rintro e w5 ⟨rfl, hb5⟩; have hb6 := hb4.trans (hb5.mono hb4.size)))
    go_ret
    exact ⟨rfl, HB3.out.trans (hb6.mono HB3.out.size)⟩

set_option maxHeartbeats 4000000 in
theorem edge1 (a n q : Int) (wa : (Lit.int .i64 a).wf = true) (wn : (Lit.int .i64 n).wf = true) (wq : (Lit.int .i64 q).wf = true) (t : Int) (ht0 : -1 ≤ t) (ht1 : t ≤ 7) (ht : ¬ (3 ≤ t ∧ t < 7)) (ha : ((pk a 9 : Nat) : Int) = t + 1) (hq : ((pk q 2 : Nat) : Int) = 1) (w : World) (hl : Lies w) :
    Calls Tryd.prog 3 #[.int .i64 a, .int .i64 n, .int .i64 q] w fun e w' => e = .returned (.bool true) ∧ Below w.heap.size w w' := by
  have ka : ∀ w, Calls Tryd.prog 5 #[.int .i64 a, .int .i64 9] w fun e w' => e = .returned (.int .i64 (t + 1)) ∧ w' = w := fun w => (picked a wa 9 (by decide) (by decide) w).mono fun e w' ⟨h, h'⟩ => ⟨by rw [h, ha], h'⟩
  have kq : ∀ w, Calls Tryd.prog 5 #[.int .i64 q, .int .i64 2] w fun e w' => e = .returned (.int .i64 1) ∧ w' = w := fun w => (picked q wq 2 (by decide) (by decide) w).mono fun e w' ⟨h, h'⟩ => ⟨by rw [h, hq], h'⟩
  have kn : ∀ w, Calls Tryd.prog 5 #[.int .i64 n, .int .i64 65536] w fun e w' => e = .returned (.int .i64 (pk n 65536 : Nat)) ∧ w' = w := fun w => picked n wn 65536 (by decide) (by decide) w
  have hv : pk n 65536 < 65536 := pk_lt n 65536 (by decide)
  obtain ⟨v, ev⟩ : ∃ v, v = pk n 65536 := ⟨_, rfl⟩
  rw [← ev] at kn hv
  have hb0 := below1 w (.cells #[.int .i64 15, .int .i64 0, .int .i64 0, .int .i64 0] 27)
  have k4 := image w.heap.size _ (code_lies w)
  have hl0 := Lies_below hl hb0
  clear hl
  have ho : ownFault (parts (w.alloc (.cells #[.int .i64 15, .int .i64 0, .int .i64 0, .int .i64 0] 27)).heap.size w.heap.size) 2 words 7 1 t = 9 := Load.own_edge (p := 1) (data_ok _ _ _ words_ok) (by decide) ht
  have hs : storeFault (parts (w.alloc (.cells #[.int .i64 15, .int .i64 0, .int .i64 0, .int .i64 0] 27)).heap.size w.heap.size) 2 words 7 1 t v = 9 := by rw [storeFault, ho, if_neg (by decide)]
  have k6 : ∀ g w2 da, Lies w2 → Parts w2 (some ⟨g, 0, none⟩) 2 (parts (w.alloc (.cells #[.int .i64 15, .int .i64 0, .int .i64 0, .int .i64 0] 27)).heap.size w.heap.size) → Ints w2 da 7 words →
      Calls Tryd.prog 6 #[.agg #[.slice (some ⟨g, 0, none⟩) 2 2], .slice da 7 7, .int .i64 1, .int .i64 t, .int .i64 v] w2 fun e w' => e = .returned (.tuple #[.slice none 0 0, .int .i64 9]) ∧ Below w2.heap.size w2 w' := by
    intro g w2 da h h' h''
    refine (store_bad (some ⟨g, 0, none⟩) 2 2 (by decide) _ da 7 7 words 1 t v w2 h h' h'' (by rw [hs]; decide)).mono fun e w' ⟨he, hb⟩ => ⟨?_, hb⟩
    rw [he, hs]
  have k7 : ∀ g w2 da, Lies w2 → Parts w2 (some ⟨g, 0, none⟩) 2 (parts (w.alloc (.cells #[.int .i64 15, .int .i64 0, .int .i64 0, .int .i64 0] 27)).heap.size w.heap.size) → Ints w2 da 7 words →
      Calls Tryd.prog 7 #[.agg #[.slice (some ⟨g, 0, none⟩) 2 2], .slice da 7 7, .int .i64 1, .int .i64 t] w2 fun e w' => e = .returned (.tuple #[.int .i64 0, .int .i64 9]) ∧ Below w2.heap.size w2 w' := by
    intro g w2 da h h' h''
    refine (Load.load (some ⟨g, 0, none⟩) 2 2 (by decide) _ da 7 7 words 1 t w2 h h' h'').mono fun e w' ⟨he, hb⟩ => ⟨?_, hb⟩
    rw [he, Load.got_bad (by rw [ho]; decide), ho]
  clear ev ha hq hs ho
  rcases (show t < 3 ∨ (3 ≤ t ∧ 7 ≤ t) by omega) with c0 | ⟨c0, c1⟩
  · have d1 : decide (3 ≤ t) = false := decide_eq_false (by omega)
    clear ht
    go_enter Tryd.func3, Tryd.ntmps3
    go_wp2_with (first
      | (go_at_call 4; refine k4.mono ?_; rintro e w1 ⟨hb1, g, rfl, hP1⟩; have hl1 := Lies_below hl0 hb1; have hb2 := hb0.trans (hb1.mono hb0.size); have facts := prep hl1 hP1; have hb3 := (hb2.alloc hb2.size (.cells #[.slice (some ⟨g, 0, none⟩) 2 2] 24)).alloc (by have := hb2.size; simp; omega) (.cells #[.int .i64 1, .int .i64 2, .int .i64 3, .int .i64 4, .int .i64 5, .int .i64 6, .int .i64 7] 3); have HB3 : Hid _ := hb3; obtain ⟨f0, f1, f2, f3⟩ := facts _ (Below.refl _ _); clear hb1 hP1 hl1 hb3)
      | (go_at_call_of 5 q; refine (kq _).mono ?_; rintro e w' ⟨rfl, rfl⟩)
      | (go_at_call_of 5 a; refine (ka _).mono ?_; rintro e w' ⟨rfl, rfl⟩)
      | (go_at_call_of 5 n; refine (kn _).mono ?_; rintro e w' ⟨rfl, rfl⟩)
      | (go_at_call 6; refine (k6 _ _ _ f0 f1 f2).mono ?_; rintro e w4 ⟨rfl, hb4⟩; obtain ⟨e0, e1, e2, e3⟩ := facts _ hb4; clear f0 f1 f2 f3)
      | (go_at_call 7; refine (k7 _ _ _ e0 e1 e2).mono ?_; rintro e w5 ⟨rfl, hb5⟩; have hb6 := hb4.trans (hb5.mono hb4.size)))
    go_ret
    exact ⟨rfl, HB3.out.trans (hb6.mono HB3.out.size)⟩
  · have d1 : decide (t < 7) = false := decide_eq_false (by omega)
    clear ht
    go_enter Tryd.func3, Tryd.ntmps3
    go_wp2_with (first
      | (go_at_call 4; refine k4.mono ?_; rintro e w1 ⟨hb1, g, rfl, hP1⟩; have hl1 := Lies_below hl0 hb1; have hb2 := hb0.trans (hb1.mono hb0.size); have facts := prep hl1 hP1; have hb3 := (hb2.alloc hb2.size (.cells #[.slice (some ⟨g, 0, none⟩) 2 2] 24)).alloc (by have := hb2.size; simp; omega) (.cells #[.int .i64 1, .int .i64 2, .int .i64 3, .int .i64 4, .int .i64 5, .int .i64 6, .int .i64 7] 3); have HB3 : Hid _ := hb3; obtain ⟨f0, f1, f2, f3⟩ := facts _ (Below.refl _ _); clear hb1 hP1 hl1 hb3)
      | (go_at_call_of 5 q; refine (kq _).mono ?_; rintro e w' ⟨rfl, rfl⟩)
      | (go_at_call_of 5 a; refine (ka _).mono ?_; rintro e w' ⟨rfl, rfl⟩)
      | (go_at_call_of 5 n; refine (kn _).mono ?_; rintro e w' ⟨rfl, rfl⟩)
      | (go_at_call 6; refine (k6 _ _ _ f0 f1 f2).mono ?_; rintro e w4 ⟨rfl, hb4⟩; obtain ⟨e0, e1, e2, e3⟩ := facts _ hb4; clear f0 f1 f2 f3)
      | (go_at_call 7; refine (k7 _ _ _ e0 e1 e2).mono ?_; rintro e w5 ⟨rfl, hb5⟩; have hb6 := hb4.trans (hb5.mono hb4.size)))
    go_ret
    exact ⟨rfl, HB3.out.trans (hb6.mono HB3.out.size)⟩

end Go.Proofs.YthjfnpbdmknokacDoor.Run
