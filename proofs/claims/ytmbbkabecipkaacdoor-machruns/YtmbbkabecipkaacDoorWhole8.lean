/-
  WHAT word.Do GIVES, for every operation and every two words, and what it refuses: each call returns and changes nothing.
  Conditions: each contract's own hypotheses.
  WHAT mach.do GIVES, an instruction each (but for Call and a Gate that goes through).
  Conditions: the run lies there, with the words that were taken.
-/
import Derived.Test.YtmbbkabecipkaacDoorChecked
import Derived.Test.YtmbbkabecipkaacDoorWhole7
import Derived.WalkKit
import Derived.Test.YtmbbkabecipkaacDoorWhole6
namespace Go.Proofs.YtmbbkabecipkaacDoor.Do
open Go.RowKit Plain

theorem ok1 (a b : Int) (ha : 0 ≤ a) (ha' : a ≤ 65535) (hb : 0 ≤ b) (hb' : b ≤ 65535) (w : World) :
    Calls Tryd.prog 18 #[.int .i64 1, .int .i64 a, .int .i64 b] w fun e w' => e = .returned (.tuple #[.int .i64 (wdo 1 a b), .int .i64 0]) ∧ w' = w := by
  go_enter Tryd.func18, Tryd.ntmps18
  go_wp2
  go_ret2
  exact ⟨by simp [wdo, mask16], rfl⟩

theorem ok2 (a b : Int) (ha : 0 ≤ a) (ha' : a ≤ 65535) (hb : 0 ≤ b) (hb' : b ≤ 65535) (w : World) :
    Calls Tryd.prog 18 #[.int .i64 2, .int .i64 a, .int .i64 b] w fun e w' => e = .returned (.tuple #[.int .i64 (wdo 2 a b), .int .i64 0]) ∧ w' = w := by
  go_enter Tryd.func18, Tryd.ntmps18
  go_wp2
  go_ret2
  exact ⟨by simp [wdo, mask16], rfl⟩

theorem ok3 (a b : Int) (ha : 0 ≤ a) (ha' : a ≤ 65535) (hb : 0 ≤ b) (hb' : b ≤ 65535) (w : World) :
    Calls Tryd.prog 18 #[.int .i64 3, .int .i64 a, .int .i64 b] w fun e w' => e = .returned (.tuple #[.int .i64 (wdo 3 a b), .int .i64 0]) ∧ w' = w := by
  have hq : 0 ≤ a * b := Int.mul_nonneg ha hb
  have hq' : a * b ≤ 65535 * 65535 := Int.mul_le_mul ha' hb' hb (by decide)
  go_enter Tryd.func18, Tryd.ntmps18
  go_wp2
  go_ret2
  exact ⟨by simp [wdo, mask16], rfl⟩

theorem ok4 (a b : Int) (ha : 0 ≤ a) (ha' : a ≤ 65535) (hb : 0 ≤ b) (hb' : b ≤ 65535) (w : World) :
    Calls Tryd.prog 18 #[.int .i64 4, .int .i64 a, .int .i64 b] w fun e w' => e = .returned (.tuple #[.int .i64 (wdo 4 a b), .int .i64 0]) ∧ w' = w := by
  have h4 := and_lt a.toNat b.toNat (by omega)
  go_enter Tryd.func18, Tryd.ntmps18
  go_wp2
  go_ret2
  exact ⟨by simp [wdo, mask16, and_words a b ha ha' hb hb']; omega, rfl⟩

theorem ok5 (a b : Int) (ha : 0 ≤ a) (ha' : a ≤ 65535) (hb : 0 ≤ b) (hb' : b ≤ 65535) (w : World) :
    Calls Tryd.prog 18 #[.int .i64 5, .int .i64 a, .int .i64 b] w fun e w' => e = .returned (.tuple #[.int .i64 (wdo 5 a b), .int .i64 0]) ∧ w' = w := by
  have h5 := or_lt a.toNat b.toNat (by omega) (by omega)
  go_enter Tryd.func18, Tryd.ntmps18
  go_wp2
  go_ret2
  exact ⟨by simp [wdo, mask16, or_words a b ha ha' hb hb']; omega, rfl⟩

theorem ok6 (a b : Int) (ha : 0 ≤ a) (ha' : a ≤ 65535) (hb : 0 ≤ b) (hb' : b ≤ 65535) (w : World) :
    Calls Tryd.prog 18 #[.int .i64 6, .int .i64 a, .int .i64 b] w fun e w' => e = .returned (.tuple #[.int .i64 (wdo 6 a b), .int .i64 0]) ∧ w' = w := by
  have h6 := xor_lt a.toNat b.toNat (by omega) (by omega)
  go_enter Tryd.func18, Tryd.ntmps18
  go_wp2
  go_ret2
  exact ⟨by simp [wdo, mask16, xor_words a b ha ha' hb hb']; omega, rfl⟩

theorem ok7 (a b : Int) (ha : 0 ≤ a) (ha' : a ≤ 65535) (hb : 0 ≤ b) (hb' : b ≤ 65535) (w : World) :
    Calls Tryd.prog 18 #[.int .i64 7, .int .i64 a, .int .i64 b] w fun e w' => e = .returned (.tuple #[.int .i64 (wdo 7 a b), .int .i64 0]) ∧ w' = w := by
  by_cases c : a < b
  · go_enter Tryd.func18, Tryd.ntmps18
    go_wp2
    go_ret2
    exact ⟨by simp [wdo, mask16, c], rfl⟩
  · go_enter Tryd.func18, Tryd.ntmps18
    go_wp2
    go_ret2
    exact ⟨by simp [wdo, mask16, c], rfl⟩

theorem ok8 (a b : Int) (ha : 0 ≤ a) (ha' : a ≤ 65535) (hb : 0 ≤ b) (hb' : b ≤ 65535) (w : World) :
    Calls Tryd.prog 18 #[.int .i64 8, .int .i64 a, .int .i64 b] w fun e w' => e = .returned (.tuple #[.int .i64 (wdo 8 a b), .int .i64 0]) ∧ w' = w := by
  by_cases c : a = b
  · go_enter Tryd.func18, Tryd.ntmps18
    go_wp2
    go_ret2
    exact ⟨by simp [wdo, mask16, c], rfl⟩
  · go_enter Tryd.func18, Tryd.ntmps18
    go_wp2
    go_ret2
    exact ⟨by simp [wdo, mask16, c], rfl⟩

theorem ok9 (a b : Int) (ha : 0 ≤ a) (ha' : a ≤ 65535) (hb : 0 ≤ b) (hb' : b ≤ 65535) (w : World) :
    Calls Tryd.prog 18 #[.int .i64 9, .int .i64 a, .int .i64 b] w fun e w' => e = .returned (.tuple #[.int .i64 (wdo 9 a b), .int .i64 0]) ∧ w' = w := by
  have hm := mask4 b
  go_enter Tryd.func18, Tryd.ntmps18
  go_wp2
  go_ret2
  exact ⟨by simp [wdo, mask16, wrap64_mod], rfl⟩

theorem ok10 (a b : Int) (ha : 0 ≤ a) (ha' : a ≤ 65535) (hb : 0 ≤ b) (hb' : b ≤ 65535) (w : World) :
    Calls Tryd.prog 18 #[.int .i64 10, .int .i64 a, .int .i64 b] w fun e w' => e = .returned (.tuple #[.int .i64 (wdo 10 a b), .int .i64 0]) ∧ w' = w := by
  have hm := mask4 b
  have hp : (0 : Int) < 2 ^ (b % 16).toNat := Int.pow_pos (by decide)
  have h10 : 0 ≤ a / 2 ^ (b % 16).toNat := Int.ediv_nonneg ha (by omega)
  have h10' : a / 2 ^ (b % 16).toNat ≤ a := Int.ediv_le_self _ ha
  go_enter Tryd.func18, Tryd.ntmps18
  go_wp2
  go_ret2
  exact ⟨by simp [wdo, mask16]; omega, rfl⟩

theorem kind (op a b : Int) (h : ¬ (1 ≤ op ∧ op ≤ 10)) (w : World) :
    Calls Tryd.prog 18 #[.int .i64 op, .int .i64 a, .int .i64 b] w fun e w' => e = .returned (.tuple #[.int .i64 0, .int .i64 3]) ∧ w' = w := by
  by_cases c : op < 1
  · go_enter Tryd.func18, Tryd.ntmps18
    go_wp2
    go_ret2
    exact ⟨rfl, rfl⟩
  · have c2 : 10 < op := by omega
    go_enter Tryd.func18, Tryd.ntmps18
    go_wp2
    go_ret2
    exact ⟨rfl, rfl⟩

theorem range (op a b : Int) (h1 : 1 ≤ op) (h2 : op ≤ 10) (h : ¬ ((0 ≤ a ∧ a ≤ 65535) ∧ (0 ≤ b ∧ b ≤ 65535))) (w : World) :
    Calls Tryd.prog 18 #[.int .i64 op, .int .i64 a, .int .i64 b] w fun e w' => e = .returned (.tuple #[.int .i64 0, .int .i64 2]) ∧ w' = w := by
  by_cases c0 : 0 ≤ a
  · by_cases c1 : a ≤ 65535
    · by_cases c2 : 0 ≤ b
      · have c3 : ¬ b ≤ 65535 := by omega
        go_enter Tryd.func18, Tryd.ntmps18
        go_wp2
        go_ret2
        exact ⟨rfl, rfl⟩
      · go_enter Tryd.func18, Tryd.ntmps18
        go_wp2
        go_ret2
        exact ⟨rfl, rfl⟩
    · go_enter Tryd.func18, Tryd.ntmps18
      go_wp2
      go_ret2
      exact ⟨rfl, rfl⟩
  · go_enter Tryd.func18, Tryd.ntmps18
    go_wp2
    go_ret2
    exact ⟨rfl, rfl⟩

/-- Every operation of every two words. -/
theorem ok (op a b : Int) (h1 : 1 ≤ op) (h2 : op ≤ 10) (ha : 0 ≤ a) (ha' : a ≤ 65535) (hb : 0 ≤ b) (hb' : b ≤ 65535) (w : World) :
    Calls Tryd.prog 18 #[.int .i64 op, .int .i64 a, .int .i64 b] w fun e w' => e = .returned (.tuple #[.int .i64 (wdo op a b), .int .i64 0]) ∧ w' = w := by
  have h : op = 1 ∨ op = 2 ∨ op = 3 ∨ op = 4 ∨ op = 5 ∨ op = 6 ∨ op = 7 ∨ op = 8 ∨ op = 9 ∨ op = 10 := by omega
  rcases h with rfl | rfl | rfl | rfl | rfl | rfl | rfl | rfl | rfl | rfl
  · exact ok1 a b ha ha' hb hb' w
  · exact ok2 a b ha ha' hb hb' w
  · exact ok3 a b ha ha' hb hb' w
  · exact ok4 a b ha ha' hb hb' w
  · exact ok5 a b ha ha' hb hb' w
  · exact ok6 a b ha ha' hb hb' w
  · exact ok7 a b ha ha' hb hb' w
  · exact ok8 a b ha ha' hb hb' w
  · exact ok9 a b ha ha' hb hb' w
  · exact ok10 a b ha ha' hb hb' w

end Go.Proofs.YtmbbkabecipkaacDoor.Do

namespace Go.Proofs.YtmbbkabecipkaacDoor.ActA
open Go.RowKit Tab Go.Proofs.YtmbbkabecipkaacDoor.Check Lists Img Mach Own Go.Proofs.YtmbbkabecipkaacDoor.Inv Go.Proofs.YtmbbkabecipkaacDoor.Frame Take Go.Proofs.YtmbbkabecipkaacDoor.Went Go.Proofs.YtmbbkabecipkaacDoor.Look

section
variable {own : Nat → Tag} {w1 w w' : World} {R D g cap : Nat} {pS lS vF vT vC : Value} {fuel : Int} {f : Fr} {v tv : Value} {F : List (Fr × Value)} {l data told : List Int} {C : List (Rec × Value)} {gL len capL : Nat} {P : Nat → PartD}

theorem two_at {w : World} {b : Nat} (hb : b = w.heap.size) (m n : Int) {t : TypeId} : ∀ (j : Nat) (u : Value), (ints [m, n])[j]? = some u → (w.alloc (.cells #[.int .i64 m, .int .i64 n] t)).cell? ((⟨b, 0, none⟩ : Addr).add j) = some u := by
  subst hb
  intro j u hj
  match j, hj with
  | 0, hj => simp [ints] at hj; subst hj; simp [Addr.add]
  | 1, hj => simp [ints] at hj; subst hj; simp [Addr.add]
  | j + 2, hj => simp [ints] at hj

theorem local_at {f : Fr} {v : Value} (h8 : f.locals.length = 8) {j : Nat} (hj : j < 8) : (frCells f v)[2 + j]? = some (.int .i64 (f.locals.getD j 0)) := by
  rw [frCells, show 2 + j = j + 1 + 1 by omega, List.getElem?_cons_succ, List.getElem?_cons_succ, List.getElem?_append_left (by rw [ints_length]; omega), ints, List.getElem?_map, List.getD_eq_getElem?_getD, List.getElem?_eq_getElem (by omega)]
  rfl

theorem local_set {f : Fr} {v : Value} (h8 : f.locals.length = 8) {j : Nat} (hj : j < 8) (x : Int) : (frCells f v).set (2 + j) (.int .i64 x) = frCells { f with locals := f.locals.set j x } v := by
  rw [frCells, frCells, show 2 + j = j + 1 + 1 by omega, List.set_cons_succ, List.set_cons_succ, List.set_append_left _ _ (by rw [ints_length]; omega)]
  simp [ints]

theorem went_same {e : Ending} {o : (Int × Int × St) ⊕ St} (h : Went w1 R D pS lS fuel e w o) (h0 : w'.os = w.os) (h1 : w'.tape = w.tape) (h2 : w'.output = w.output) (h3 : w'.heap = w.heap) : Went w1 R D pS lS fuel e w' o := by
  rcases h.out with ⟨_, _, _, _, _, _, _, hi, a, b, rfl, rfl⟩ | ⟨_, _, _, _, _, _, _, hi, b, rfl, rfl⟩
  · exact .goes (Inv.same hi h0 h1 h2 h3) a b
  · exact .stops (Fin.same hi h0 h1 h2 h3) b

set_option maxRecDepth 100000 in
set_option maxHeartbeats 1000000 in
theorem push (h : Inv own w1 w R D pS lS (.slice (some ⟨g, 0, none⟩) (F.length + 1) cap) vT vC fuel ((f, v) :: F) [] data told C) (hc : Cut v tv 0) (hw : f.words.length ≤ 40) (a b c : Int) (rm : List Fr) :
    Calls Tryd.prog 39 #[.pointer (some ⟨R, 0, none⟩), .pointer (some ⟨g, F.length * 12, none⟩), .agg #[.int .i64 1, .int .i64 a, .int .i64 b, .int .i64 c], tv] w fun e w' => Went w1 R D pS lS fuel e w' (puts ⟨rm, data, told, C.map Prod.fst⟩ f (F.map Prod.fst) [a]) := by
  have hI := h.alloc (.cells #[.int .i64 1, .int .i64 a, .int .i64 b, .int .i64 c] 27)
  obtain ⟨ta, tc, rfl, hcell⟩ := h.rooms.1.1.cut hc
  have k46 : ∀ W b, Inv own w1 W R D pS lS (.slice (some ⟨g, 0, none⟩) (F.length + 1) cap) vT vC fuel ((f, v) :: F) [] data told C → (∀ i u, (ints [a])[i]? = some u → W.cell? ((⟨b, 0, none⟩ : Addr).add i) = some u) → _ := fun W b hI hb => Went.put hI b [a] 1 rfl (by simp) (by simp) hw hb rm
  obtain ⟨k, hk⟩ : ∃ k, k = f.words.length := ⟨_, rfl⟩
  obtain ⟨out, hout⟩ : ∃ o, o = puts ⟨rm, data, told, C.map Prod.fst⟩ f (F.map Prod.fst) [a] := ⟨_, rfl⟩
  rw [← hout] at k46 ⊢
  have HI : Hid _ := hI
  have K46 : Hid _ := k46
  clear h hI k46 hw hc hk hout hcell
  go_enter Tryd.func39, Tryd.ntmps39
  go_wp2_with (go_at_call 46; refine (K46.out _ _ (by exact HI.out.alloc _) (by exact one_at (by simp) a)).mono ?_; intro e w' hwent; obtain ⟨n', rfl⟩ := went_ret hwent)
  go_ret
  exact hwent

set_option maxRecDepth 100000 in
set_option maxHeartbeats 1000000 in
theorem drop (x : Int) (h : Inv own w1 w R D pS lS (.slice (some ⟨g, 0, none⟩) (F.length + 1) cap) vT vC fuel ((f, v) :: F) [x] data told C) (hc : Cut v tv 1) (hw : f.words.length ≤ 40) (a b c : Int) (rm : List Fr) :
    Calls Tryd.prog 39 #[.pointer (some ⟨R, 0, none⟩), .pointer (some ⟨g, F.length * 12, none⟩), .agg #[.int .i64 2, .int .i64 a, .int .i64 b, .int .i64 c], tv] w fun e w' => Went w1 R D pS lS fuel e w' (puts ⟨rm, data, told, C.map Prod.fst⟩ f (F.map Prod.fst) []) := by
  have hI := h.alloc (.cells #[.int .i64 2, .int .i64 a, .int .i64 b, .int .i64 c] 27)
  obtain ⟨ta, tc, rfl, hcell⟩ := h.rooms.1.1.cut hc
  obtain ⟨gw0, rfl, cx0⟩ := hcell 0 x rfl
  have hgw : gw0 < w.heap.size := World.block_lt_of_cell? w _ cx0
  have u0 : ∀ o, (w.alloc o).cell? ⟨gw0, f.words.length, none⟩ = some (.int .i64 x) := fun o => (World.cell?_alloc_past o _ _ hgw).trans cx0
  have fin := put_none hI hw rm
  obtain ⟨k, hk⟩ : ∃ k, k = f.words.length := ⟨_, rfl⟩
  rw [← hk] at u0
  obtain ⟨out, hout⟩ : ∃ o, o = puts ⟨rm, data, told, C.map Prod.fst⟩ f (F.map Prod.fst) [] := ⟨_, rfl⟩
  rw [← hout] at fin ⊢
  rw [← hk]
  have FIN : Hid _ := fin
  clear h hI fin hw hc hk hout hcell
  go_enter Tryd.func39, Tryd.ntmps39
  go_wp2
  go_ret
  exact FIN.out

set_option maxRecDepth 100000 in
set_option maxHeartbeats 1000000 in
theorem dup (x : Int) (h : Inv own w1 w R D pS lS (.slice (some ⟨g, 0, none⟩) (F.length + 1) cap) vT vC fuel ((f, v) :: F) [x] data told C) (hc : Cut v tv 1) (hw : f.words.length ≤ 40) (a b c : Int) (rm : List Fr) :
    Calls Tryd.prog 39 #[.pointer (some ⟨R, 0, none⟩), .pointer (some ⟨g, F.length * 12, none⟩), .agg #[.int .i64 3, .int .i64 a, .int .i64 b, .int .i64 c], tv] w fun e w' => Went w1 R D pS lS fuel e w' (puts ⟨rm, data, told, C.map Prod.fst⟩ f (F.map Prod.fst) [x, x]) := by
  have hI := h.alloc (.cells #[.int .i64 3, .int .i64 a, .int .i64 b, .int .i64 c] 27)
  obtain ⟨ta, tc, rfl, hcell⟩ := h.rooms.1.1.cut hc
  obtain ⟨gw0, rfl, cx0⟩ := hcell 0 x rfl
  have hgw : gw0 < w.heap.size := World.block_lt_of_cell? w _ cx0
  have u0 : ∀ o, (w.alloc o).cell? ⟨gw0, f.words.length, none⟩ = some (.int .i64 x) := fun o => (World.cell?_alloc_past o _ _ hgw).trans cx0
  have k46 : ∀ W b, Inv own w1 W R D pS lS (.slice (some ⟨g, 0, none⟩) (F.length + 1) cap) vT vC fuel ((f, v) :: F) [x] data told C → (∀ j u, (ints [x, x])[j]? = some u → W.cell? ((⟨b, 0, none⟩ : Addr).add j) = some u) → _ := fun W b hI hb => Went.put hI b [x, x] 2 rfl (by simp) (by simp) hw hb rm
  obtain ⟨k, hk⟩ : ∃ k, k = f.words.length := ⟨_, rfl⟩
  rw [← hk] at u0
  obtain ⟨out, hout⟩ : ∃ o, o = puts ⟨rm, data, told, C.map Prod.fst⟩ f (F.map Prod.fst) [x, x] := ⟨_, rfl⟩
  rw [← hout] at k46 ⊢
  rw [← hk]
  have HI : Hid _ := hI
  have K46 : Hid _ := k46
  clear h hI k46 hw hc hk hout hcell
  go_enter Tryd.func39, Tryd.ntmps39
  go_wp2
  go_region_with ((go_at_call 46; refine (K46.out _ _ (by exact Inv.same (HI.out.alloc _) rfl rfl rfl rfl) (by exact two_at (w := w.alloc _) (by simp) x x)).mono ?_; intro e w' hwent; obtain ⟨n', rfl⟩ := went_ret hwent))
  all_goals
    go_wp2
    go_ret
    exact hwent

set_option maxRecDepth 100000 in
set_option maxHeartbeats 1000000 in
theorem jump (h : Inv own w1 w R D pS lS (.slice (some ⟨g, 0, none⟩) (F.length + 1) cap) vT vC fuel ((f, v) :: F) [] data told C) (hc : Cut v tv 0) (hw : f.words.length ≤ 40) (a b c : Int) (j : Nat) (ha : a = j) (rm : List Fr) :
    Calls Tryd.prog 39 #[.pointer (some ⟨R, 0, none⟩), .pointer (some ⟨g, F.length * 12, none⟩), .agg #[.int .i64 9, .int .i64 a, .int .i64 b, .int .i64 c], tv] w fun e w' => Went w1 R D pS lS fuel e w' (puts ⟨rm, data, told, C.map Prod.fst⟩ { f with pc := j } (F.map Prod.fst) []) := by
  have hI := h.alloc (.cells #[.int .i64 9, .int .i64 a, .int .i64 b, .int .i64 c] 27)
  obtain ⟨ta, tc, rfl, hcell⟩ := h.rooms.1.1.cut hc
  subst ha
  have c1 := hI.top_cell 1 (u := .int .i64 f.pc) rfl
  have z1 := hI.top_frozen (F.length * 12 + 1)
  have fin := put_none (hI.top_set (f' := { f with pc := j }) (v' := v) (l' := []) 1 (.int .i64 j) rfl ⟨hI.rooms.1.1, h.rooms.1.2⟩) hw rm
  obtain ⟨k, hk⟩ : ∃ k, k = f.words.length := ⟨_, rfl⟩
  obtain ⟨out, hout⟩ : ∃ o, o = puts ⟨rm, data, told, C.map Prod.fst⟩ { f with pc := j } (F.map Prod.fst) [] := ⟨_, rfl⟩
  rw [← hout] at fin ⊢
  have FIN : Hid _ := fin
  clear h hI fin hw hc hk hout hcell
  go_enter Tryd.func39, Tryd.ntmps39
  go_wp2
  go_ret
  exact FIN.out

set_option maxRecDepth 100000 in
set_option maxHeartbeats 1000000 in
theorem jz (x : Int) (h : Inv own w1 w R D pS lS (.slice (some ⟨g, 0, none⟩) (F.length + 1) cap) vT vC fuel ((f, v) :: F) [x] data told C) (hc : Cut v tv 1) (hw : f.words.length ≤ 40) (a b c : Int) (j : Nat) (ha : a = j) (rm : List Fr) :
    Calls Tryd.prog 39 #[.pointer (some ⟨R, 0, none⟩), .pointer (some ⟨g, F.length * 12, none⟩), .agg #[.int .i64 10, .int .i64 a, .int .i64 b, .int .i64 c], tv] w fun e w' => Went w1 R D pS lS fuel e w' (puts ⟨rm, data, told, C.map Prod.fst⟩ (if x = 0 then { f with pc := j } else f) (F.map Prod.fst) []) := by
  have hI := h.alloc (.cells #[.int .i64 10, .int .i64 a, .int .i64 b, .int .i64 c] 27)
  obtain ⟨ta, tc, rfl, hcell⟩ := h.rooms.1.1.cut hc
  obtain ⟨gw0, rfl, cx0⟩ := hcell 0 x rfl
  have hgw : gw0 < w.heap.size := World.block_lt_of_cell? w _ cx0
  have u0 : ∀ o, (w.alloc o).cell? ⟨gw0, f.words.length, none⟩ = some (.int .i64 x) := fun o => (World.cell?_alloc_past o _ _ hgw).trans cx0
  subst ha
  have c1 := hI.top_cell 1 (u := .int .i64 f.pc) rfl
  have z1 := hI.top_frozen (F.length * 12 + 1)
  have fin1 := put_none (hI.top_set (f' := { f with pc := j }) (v' := v) (l' := [x]) 1 (.int .i64 j) rfl ⟨hI.rooms.1.1, h.rooms.1.2⟩) hw rm
  have fin2 := put_none hI hw rm
  obtain ⟨k, hk⟩ : ∃ k, k = f.words.length := ⟨_, rfl⟩
  rw [← hk] at u0
  obtain ⟨out, hout⟩ : ∃ o, o = puts ⟨rm, data, told, C.map Prod.fst⟩ (if x = 0 then { f with pc := j } else f) (F.map Prod.fst) [] := ⟨_, rfl⟩
  rw [← hout]
  rw [← hk]
  have FIN1 : Hid _ := fin1
  have FIN2 : Hid _ := fin2
  have HOUT : Hid _ := hout
  clear h hI fin1 fin2 hw hc hk hout hcell
  by_cases hx : x = 0
  · have hx1 : (x == 0) = true := by simpa using hx
    have HX : Hid _ := hx
    clear hx
    go_enter Tryd.func39, Tryd.ntmps39
    go_wp2
    go_ret
    rw [HOUT.out, if_pos HX.out]
    exact FIN1.out
  · have hx1 : (x == 0) = false := by simpa using hx
    have HX : Hid _ := hx
    clear hx
    go_enter Tryd.func39, Tryd.ntmps39
    go_wp2
    go_ret
    rw [HOUT.out, if_neg HX.out]
    exact FIN2.out

set_option maxRecDepth 100000 in
set_option maxHeartbeats 1000000 in
theorem trap (h : Inv own w1 w R D pS lS (.slice (some ⟨g, 0, none⟩) (F.length + 1) cap) vT vC fuel ((f, v) :: F) [] data told C) (hc : Cut v tv 0) (_hw : f.words.length ≤ 40) (a b c : Int) (rm : List Fr) :
    Calls Tryd.prog 39 #[.pointer (some ⟨R, 0, none⟩), .pointer (some ⟨g, F.length * 12, none⟩), .agg #[.int .i64 15, .int .i64 a, .int .i64 b, .int .i64 c], tv] w fun e w' => Went w1 R D pS lS fuel e w' (ends 2 0 ⟨rm, data, told, C.map Prod.fst⟩) := by
  have hI := h.alloc (.cells #[.int .i64 15, .int .i64 a, .int .i64 b, .int .i64 c] 27)
  obtain ⟨ta, tc, rfl, hcell⟩ := h.rooms.1.1.cut hc
  have fin : Went w1 R D pS lS fuel (.returned (.int .i64 2)) (w.alloc (.cells #[.int .i64 15, .int .i64 a, .int .i64 b, .int .i64 c] 27)) (ends 2 0 ⟨rm, data, told, C.map Prod.fst⟩) := went_end hI.fin ⟨rfl, rfl, rfl⟩
  obtain ⟨k, hk⟩ : ∃ k, k = f.words.length := ⟨_, rfl⟩
  obtain ⟨out, hout⟩ : ∃ o, o = ends 2 0 ⟨rm, data, told, C.map Prod.fst⟩ := ⟨_, rfl⟩
  rw [← hout] at fin ⊢
  have FIN : Hid _ := fin
  clear h hI fin _hw hc hk hout hcell
  go_enter Tryd.func39, Tryd.ntmps39
  go_wp2
  go_ret
  exact FIN.out
end
end Go.Proofs.YtmbbkabecipkaacDoor.ActA
