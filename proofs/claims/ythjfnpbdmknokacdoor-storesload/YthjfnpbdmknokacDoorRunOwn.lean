/-
  THE WALK OF THE LAW 'barbicankeep.StoresLoad' where the place is the part's own: the call returns true, and lays new memory alone.
  Conditions: the table 'code.bounds' lies there.
-/
import Derived.Test.YthjfnpbdmknokacDoorRun
namespace Go.Proofs.YthjfnpbdmknokacDoor.Run
open Go.RowKit Tab Go.Proofs.YthjfnpbdmknokacDoor.Check Lists Go.Proofs.YthjfnpbdmknokacDoor.Read Img Keep Go.Proofs.YthjfnpbdmknokacDoor.Store

set_option maxHeartbeats 4000000 in
theorem own0 (a n q : Int) (wa : (Lit.int .i64 a).wf = true) (wn : (Lit.int .i64 n).wf = true) (wq : (Lit.int .i64 q).wf = true) (j : Nat) (hj0 : 0 ≤ j) (hj : j < 3) (ha : ((pk a 9 : Nat) : Int) = (j : Int) + 1) (hq : ((pk q 2 : Nat) : Int) = 0) (w : World) (hl : Lies w) :
    Calls Tryd.prog 3 #[.int .i64 a, .int .i64 n, .int .i64 q] w fun e w' => e = .returned (.bool true) ∧ Below w.heap.size w w' := by
  have ka : ∀ w, Calls Tryd.prog 5 #[.int .i64 a, .int .i64 9] w fun e w' => e = .returned (.int .i64 ((j : Int) + 1)) ∧ w' = w := fun w => (picked a wa 9 (by decide) (by decide) w).mono fun e w' ⟨h, h'⟩ => ⟨by rw [h, ha], h'⟩
  have kq : ∀ w, Calls Tryd.prog 5 #[.int .i64 q, .int .i64 2] w fun e w' => e = .returned (.int .i64 0) ∧ w' = w := fun w => (picked q wq 2 (by decide) (by decide) w).mono fun e w' ⟨h, h'⟩ => ⟨by rw [h, hq], h'⟩
  have kn : ∀ w, Calls Tryd.prog 5 #[.int .i64 n, .int .i64 65536] w fun e w' => e = .returned (.int .i64 (pk n 65536 : Nat)) ∧ w' = w := fun w => picked n wn 65536 (by decide) (by decide) w
  have hv : pk n 65536 < 65536 := pk_lt n 65536 (by decide)
  obtain ⟨v, ev⟩ : ∃ v, v = pk n 65536 := ⟨_, rfl⟩
  rw [← ev] at kn hv
  have hvI : (v : Int) ≤ 65535 := by omega
  have hjl : (j : Int) < 3 := by omega
  have hjg : (0 : Int) ≤ j := by omega
  have hb0 := below1 w (.cells #[.int .i64 15, .int .i64 0, .int .i64 0, .int .i64 0] 27)
  have k4 := image w.heap.size _ (code_lies w)
  have hl0 := Lies_below hl hb0
  clear hl
  have k6 : ∀ g w2 da, Lies w2 → Parts w2 (some ⟨g, 0, none⟩) 2 (parts (w.alloc (.cells #[.int .i64 15, .int .i64 0, .int .i64 0, .int .i64 0] 27)).heap.size w.heap.size) → Ints w2 da 7 words →
      Calls Tryd.prog 6 #[.agg #[.slice (some ⟨g, 0, none⟩) 2 2], .slice da 7 7, .int .i64 0, .int .i64 j, .int .i64 v] w2 fun e w' => Below w2.heap.size w2 w' ∧ ∃ v', e = .returned (.tuple #[v', .int .i64 0]) ∧ w'.ownsRow w2.heap.size 3 1 v' 7 ((row words 7).set j (.int .i64 v)) :=
    fun g w2 da h h' h'' => store_ok (some ⟨g, 0, none⟩) 2 2 (by decide) _ da 7 7 words 0 j v w2 h h' h'' (data_ok _ _ _ words_ok) (by decide) ⟨by show (0 : Int) ≤ j; omega, by show (j : Int) < 3; omega⟩ (by omega)
  have k7 : ∀ g w2 da dcap, Lies w2 → Parts w2 (some ⟨g, 0, none⟩) 2 (parts (w.alloc (.cells #[.int .i64 15, .int .i64 0, .int .i64 0, .int .i64 0] 27)).heap.size w.heap.size) → Ints w2 da 7 (fun i => if i = j then v else words i) →
      Calls Tryd.prog 7 #[.agg #[.slice (some ⟨g, 0, none⟩) 2 2], .slice da 7 dcap, .int .i64 0, .int .i64 j] w2 fun e w' => e = .returned (.tuple #[.int .i64 v, .int .i64 0]) ∧ Below w2.heap.size w2 w' := by
    intro g w2 da dcap h h' h''
    have hd : dataFault (parts (w.alloc (.cells #[.int .i64 15, .int .i64 0, .int .i64 0, .int .i64 0] 27)).heap.size w.heap.size) 2 (fun i => if i = j then (v : Int) else words i) 7 = 0 := data_ok _ _ _ fun i hi => by
      have := words_ok i hi
      show 0 ≤ (if i = j then (v : Int) else words i) ∧ (if i = j then (v : Int) else words i) ≤ 65535
      split <;> omega
    have ho : ownFault (parts (w.alloc (.cells #[.int .i64 15, .int .i64 0, .int .i64 0, .int .i64 0] 27)).heap.size w.heap.size) 2 (fun i => if i = j then (v : Int) else words i) 7 0 j = 0 := Load.own_ok (p := 0) hd (by decide) ⟨by show (0 : Int) ≤ j; omega, by show (j : Int) < 3; omega⟩
    refine (Load.load (some ⟨g, 0, none⟩) 2 2 (by decide) _ da 7 dcap _ 0 j w2 h h' h'').mono fun e w' ⟨he, hb⟩ => ⟨?_, hb⟩
    rw [he, Load.got_ok ho, ho, if_pos rfl]
  have k9 : ∀ g w2, Parts w2 (some ⟨g, 0, none⟩) 2 (parts (w.alloc (.cells #[.int .i64 15, .int .i64 0, .int .i64 0, .int .i64 0] 27)).heap.size w.heap.size) →
      Calls Tryd.prog 9 #[.agg #[.slice (some ⟨g, 0, none⟩) 2 2]] w2 fun e w' => e = .returned (.int .i64 7) ∧ Below w2.heap.size w2 w' := fun g w2 h => Image.words (some ⟨g, 0, none⟩) 2 2 (by decide) _ w2 h
  clear ev ha hq
  go_enter Tryd.func3, Tryd.ntmps3
  go_wp2_with (first
    | (go_at_call 4; refine k4.mono ?_; rintro e w1 ⟨hb1, g, rfl, hP1⟩; have hl1 := Lies_below hl0 hb1; have hb2 := hb0.trans (hb1.mono hb0.size); have facts := prep hl1 hP1; have hb3 := (hb2.alloc hb2.size (.cells #[.slice (some ⟨g, 0, none⟩) 2 2] 24)).alloc (by have := hb2.size; simp; omega) (.cells #[.int .i64 1, .int .i64 2, .int .i64 3, .int .i64 4, .int .i64 5, .int .i64 6, .int .i64 7] 3); have HB3 : Hid _ := hb3; obtain ⟨f0, f1, f2, f3⟩ := facts _ (Below.refl _ _); clear hb1 hP1 hl1 hb3)
    | (go_at_call_of 5 q; refine (kq _).mono ?_; rintro e w' ⟨rfl, rfl⟩)
    | (go_at_call_of 5 a; refine (ka _).mono ?_; rintro e w' ⟨rfl, rfl⟩)
    | (go_at_call_of 5 n; refine (kn _).mono ?_; rintro e w' ⟨rfl, rfl⟩)
    | (go_at_call 6; refine (k6 _ _ _ f0 f1 f2).mono ?_; rintro e w4 ⟨hb4, v4, rfl, own4⟩; obtain ⟨g4, cp4, rfl, hg4, _⟩ := own_form own4 (by decide); obtain ⟨e0, e1, e2, e3⟩ := facts _ hb4; have i4 := set_ints own4; clear f0 f1 f2 f3)
    | (go_at_call 7; refine (k7 _ _ _ _ e0 e1 i4).mono ?_; rintro e w5 ⟨rfl, hb5⟩; have own5 := owns_below own4 hb5; have hb6 := hb4.trans (hb5.mono hb4.size); obtain ⟨_, d1, d2, d3⟩ := facts _ hb6; have cj := ints_at d2 j (by omega); have fj := own5.frozenAt j; have nj := (own5.cellAt j (by omega)).trans (set_at words 7 j v j (by omega)); clear e0 e1 e2 e3 i4 own4 hb5)
    | (go_at_call 8; have hb7 := hb6.setCell (p := ⟨g4, j, none⟩) hg4 (.int .i64 (words j)); obtain ⟨_, r1, r2, r3⟩ := facts _ hb7; refine (equal 7 (by decide) g4 cp4 _ 7 words _ (set_back own5 (by omega)) (ints_all r2)).mono ?_; rintro e w8 ⟨rfl, hb8⟩; have hb9 := hb7.trans (hb8.mono hb7.size); obtain ⟨_, t1, _, t3⟩ := facts _ hb9)
    | (go_at_call 9; refine (k9 _ _ t1).mono ?_; rintro e w10 ⟨rfl, hb10⟩; have hb11 := hb9.trans (hb10.mono hb9.size)))
  go_ret
  exact ⟨rfl, HB3.out.trans (hb11.mono HB3.out.size)⟩

set_option maxHeartbeats 4000000 in
theorem own1 (a n q : Int) (wa : (Lit.int .i64 a).wf = true) (wn : (Lit.int .i64 n).wf = true) (wq : (Lit.int .i64 q).wf = true) (j : Nat) (hj0 : 3 ≤ j) (hj : j < 7) (ha : ((pk a 9 : Nat) : Int) = (j : Int) + 1) (hq : ((pk q 2 : Nat) : Int) = 1) (w : World) (hl : Lies w) :
    Calls Tryd.prog 3 #[.int .i64 a, .int .i64 n, .int .i64 q] w fun e w' => e = .returned (.bool true) ∧ Below w.heap.size w w' := by
  have ka : ∀ w, Calls Tryd.prog 5 #[.int .i64 a, .int .i64 9] w fun e w' => e = .returned (.int .i64 ((j : Int) + 1)) ∧ w' = w := fun w => (picked a wa 9 (by decide) (by decide) w).mono fun e w' ⟨h, h'⟩ => ⟨by rw [h, ha], h'⟩
  have kq : ∀ w, Calls Tryd.prog 5 #[.int .i64 q, .int .i64 2] w fun e w' => e = .returned (.int .i64 1) ∧ w' = w := fun w => (picked q wq 2 (by decide) (by decide) w).mono fun e w' ⟨h, h'⟩ => ⟨by rw [h, hq], h'⟩
  have kn : ∀ w, Calls Tryd.prog 5 #[.int .i64 n, .int .i64 65536] w fun e w' => e = .returned (.int .i64 (pk n 65536 : Nat)) ∧ w' = w := fun w => picked n wn 65536 (by decide) (by decide) w
  have hv : pk n 65536 < 65536 := pk_lt n 65536 (by decide)
  obtain ⟨v, ev⟩ : ∃ v, v = pk n 65536 := ⟨_, rfl⟩
  rw [← ev] at kn hv
  have hvI : (v : Int) ≤ 65535 := by omega
  have hjl : (j : Int) < 7 := by omega
  have hjg : (3 : Int) ≤ j := by omega
  have hb0 := below1 w (.cells #[.int .i64 15, .int .i64 0, .int .i64 0, .int .i64 0] 27)
  have k4 := image w.heap.size _ (code_lies w)
  have hl0 := Lies_below hl hb0
  clear hl
  have k6 : ∀ g w2 da, Lies w2 → Parts w2 (some ⟨g, 0, none⟩) 2 (parts (w.alloc (.cells #[.int .i64 15, .int .i64 0, .int .i64 0, .int .i64 0] 27)).heap.size w.heap.size) → Ints w2 da 7 words →
      Calls Tryd.prog 6 #[.agg #[.slice (some ⟨g, 0, none⟩) 2 2], .slice da 7 7, .int .i64 1, .int .i64 j, .int .i64 v] w2 fun e w' => Below w2.heap.size w2 w' ∧ ∃ v', e = .returned (.tuple #[v', .int .i64 0]) ∧ w'.ownsRow w2.heap.size 3 1 v' 7 ((row words 7).set j (.int .i64 v)) :=
    fun g w2 da h h' h'' => store_ok (some ⟨g, 0, none⟩) 2 2 (by decide) _ da 7 7 words 1 j v w2 h h' h'' (data_ok _ _ _ words_ok) (by decide) ⟨by show (3 : Int) ≤ j; omega, by show (j : Int) < 7; omega⟩ (by omega)
  have k7 : ∀ g w2 da dcap, Lies w2 → Parts w2 (some ⟨g, 0, none⟩) 2 (parts (w.alloc (.cells #[.int .i64 15, .int .i64 0, .int .i64 0, .int .i64 0] 27)).heap.size w.heap.size) → Ints w2 da 7 (fun i => if i = j then v else words i) →
      Calls Tryd.prog 7 #[.agg #[.slice (some ⟨g, 0, none⟩) 2 2], .slice da 7 dcap, .int .i64 1, .int .i64 j] w2 fun e w' => e = .returned (.tuple #[.int .i64 v, .int .i64 0]) ∧ Below w2.heap.size w2 w' := by
    intro g w2 da dcap h h' h''
    have hd : dataFault (parts (w.alloc (.cells #[.int .i64 15, .int .i64 0, .int .i64 0, .int .i64 0] 27)).heap.size w.heap.size) 2 (fun i => if i = j then (v : Int) else words i) 7 = 0 := data_ok _ _ _ fun i hi => by
      have := words_ok i hi
      show 0 ≤ (if i = j then (v : Int) else words i) ∧ (if i = j then (v : Int) else words i) ≤ 65535
      split <;> omega
    have ho : ownFault (parts (w.alloc (.cells #[.int .i64 15, .int .i64 0, .int .i64 0, .int .i64 0] 27)).heap.size w.heap.size) 2 (fun i => if i = j then (v : Int) else words i) 7 1 j = 0 := Load.own_ok (p := 1) hd (by decide) ⟨by show (3 : Int) ≤ j; omega, by show (j : Int) < 7; omega⟩
    refine (Load.load (some ⟨g, 0, none⟩) 2 2 (by decide) _ da 7 dcap _ 1 j w2 h h' h'').mono fun e w' ⟨he, hb⟩ => ⟨?_, hb⟩
    rw [he, Load.got_ok ho, ho, if_pos rfl]
  have k9 : ∀ g w2, Parts w2 (some ⟨g, 0, none⟩) 2 (parts (w.alloc (.cells #[.int .i64 15, .int .i64 0, .int .i64 0, .int .i64 0] 27)).heap.size w.heap.size) →
      Calls Tryd.prog 9 #[.agg #[.slice (some ⟨g, 0, none⟩) 2 2]] w2 fun e w' => e = .returned (.int .i64 7) ∧ Below w2.heap.size w2 w' := fun g w2 h => Image.words (some ⟨g, 0, none⟩) 2 2 (by decide) _ w2 h
  clear ev ha hq
  go_enter Tryd.func3, Tryd.ntmps3
  go_wp2_with (first
    | (go_at_call 4; refine k4.mono ?_; rintro e w1 ⟨hb1, g, rfl, hP1⟩; have hl1 := Lies_below hl0 hb1; have hb2 := hb0.trans (hb1.mono hb0.size); have facts := prep hl1 hP1; have hb3 := (hb2.alloc hb2.size (.cells #[.slice (some ⟨g, 0, none⟩) 2 2] 24)).alloc (by have := hb2.size; simp; omega) (.cells #[.int .i64 1, .int .i64 2, .int .i64 3, .int .i64 4, .int .i64 5, .int .i64 6, .int .i64 7] 3); have HB3 : Hid _ := hb3; obtain ⟨f0, f1, f2, f3⟩ := facts _ (Below.refl _ _); clear hb1 hP1 hl1 hb3)
    | (go_at_call_of 5 q; refine (kq _).mono ?_; rintro e w' ⟨rfl, rfl⟩)
    | (go_at_call_of 5 a; refine (ka _).mono ?_; rintro e w' ⟨rfl, rfl⟩)
    | (go_at_call_of 5 n; refine (kn _).mono ?_; rintro e w' ⟨rfl, rfl⟩)
    | (go_at_call 6; refine (k6 _ _ _ f0 f1 f2).mono ?_; rintro e w4 ⟨hb4, v4, rfl, own4⟩; obtain ⟨g4, cp4, rfl, hg4, _⟩ := own_form own4 (by decide); obtain ⟨e0, e1, e2, e3⟩ := facts _ hb4; have i4 := set_ints own4; clear f0 f1 f2 f3)
    | (go_at_call 7; refine (k7 _ _ _ _ e0 e1 i4).mono ?_; rintro e w5 ⟨rfl, hb5⟩; have own5 := owns_below own4 hb5; have hb6 := hb4.trans (hb5.mono hb4.size); obtain ⟨_, d1, d2, d3⟩ := facts _ hb6; have cj := ints_at d2 j (by omega); have fj := own5.frozenAt j; have nj := (own5.cellAt j (by omega)).trans (set_at words 7 j v j (by omega)); clear e0 e1 e2 e3 i4 own4 hb5)
    | (go_at_call 8; have hb7 := hb6.setCell (p := ⟨g4, j, none⟩) hg4 (.int .i64 (words j)); obtain ⟨_, r1, r2, r3⟩ := facts _ hb7; refine (equal 7 (by decide) g4 cp4 _ 7 words _ (set_back own5 (by omega)) (ints_all r2)).mono ?_; rintro e w8 ⟨rfl, hb8⟩; have hb9 := hb7.trans (hb8.mono hb7.size); obtain ⟨_, t1, _, t3⟩ := facts _ hb9)
    | (go_at_call 9; refine (k9 _ _ t1).mono ?_; rintro e w10 ⟨rfl, hb10⟩; have hb11 := hb9.trans (hb10.mono hb9.size)))
  go_ret
  exact ⟨rfl, HB3.out.trans (hb11.mono HB3.out.size)⟩

end Go.Proofs.YthjfnpbdmknokacDoor.Run
