/-
  WHAT mach.do GIVES, an instruction each (but for Call and a Gate that goes through).
  Conditions: the run lies there, with the words that were taken.
-/
import Derived.Test.YtmmcpjmgindpkacDoorRet
import Derived.Test.YtmmcpjmgindpkacDoorGate
import Derived.Test.YtmmcpjmgindpkacDoorDo
namespace Go.Proofs.YtmmcpjmgindpkacDoor.ActA
open Go.RowKit Tab Go.Proofs.YtmmcpjmgindpkacDoor.Check Lists Img Mach Own Go.Proofs.YtmmcpjmgindpkacDoor.Inv Go.Proofs.YtmmcpjmgindpkacDoor.Frame Take Go.Proofs.YtmmcpjmgindpkacDoor.Went Go.Proofs.YtmmcpjmgindpkacDoor.Look

section
variable {own : Nat → Tag} {w1 w w' : World} {R D g cap : Nat} {pS lS vF vT vC : Value} {fuel : Int} {f : Fr} {v tv : Value} {F : List (Fr × Value)} {l data told : List Int} {C : List (Rec × Value)} {gL len capL : Nat} {P : Nat → PartD}

theorem two_at {w : World} {b : Nat} (hb : b = w.heap.size) (m n : Int) {t : TypeId} : ∀ (j : Nat) (u : Value), (ints [m, n])[j]? = some u → (w.alloc (.cells #[.int .i64 m, .int .i64 n] t)).cell? ((⟨b, 0, none⟩ : Addr).add j) = some u := by
  subst hb
  intro j u hj
  match j, hj with
  | 0, hj => simp [ints] at hj; subst hj; simp [Addr.add]
  | 1, hj => simp [ints] at hj; subst hj; simp [Addr.add]
  | j + 2, hj => simp [ints] at hj

theorem local_at {f : Fr} {v : Value} (h8 : f.locals.length = 8) {j : Nat} (hj : j < 8) : (frCells f v)[2 + j]? = some (.int .i64 (f.locals.getD j 0)) := by
  rw [frCells, show 2 + j = j + 1 + 1 by omega, List.getElem?_cons_succ, List.getElem?_cons_succ, List.getElem?_append_left (by rw [ints_length]; omega), ints, List.getElem?_map, List.getD_eq_getElem?_getD, List.getElem?_eq_getElem (by omega)]
  rfl

theorem local_set {f : Fr} {v : Value} (h8 : f.locals.length = 8) {j : Nat} (hj : j < 8) (x : Int) : (frCells f v).set (2 + j) (.int .i64 x) = frCells { f with locals := f.locals.set j x } v := by
  rw [frCells, frCells, show 2 + j = j + 1 + 1 by omega, List.set_cons_succ, List.set_cons_succ, List.set_append_left _ _ (by rw [ints_length]; omega)]
  simp [ints]

theorem went_same {e : Ending} {o : (Int × Int × St) ⊕ St} (h : Went w1 R D pS lS fuel e w o) (h0 : w'.os = w.os) (h1 : w'.tape = w.tape) (h2 : w'.output = w.output) (h3 : w'.heap = w.heap) : Went w1 R D pS lS fuel e w' o := by
  rcases h.out with ⟨_, _, _, _, _, _, _, hi, a, b, rfl, rfl⟩ | ⟨_, _, _, _, _, _, _, hi, b, rfl, rfl⟩
  · exact .goes (Inv.same hi h0 h1 h2 h3) a b
  · exact .stops (Fin.same hi h0 h1 h2 h3) b

set_option maxRecDepth 100000 in
set_option maxHeartbeats 1000000 in
theorem push (h : Inv own w1 w R D pS lS (.slice (some ⟨g, 0, none⟩) (F.length + 1) cap) vT vC fuel ((f, v) :: F) [] data told C) (hc : Cut v tv 0) (hw : f.words.length ≤ 40) (a b c : Int) (rm : List Fr) :
    Calls Tryd.prog 39 #[.pointer (some ⟨R, 0, none⟩), .pointer (some ⟨g, F.length * 12, none⟩), .agg #[.int .i64 1, .int .i64 a, .int .i64 b, .int .i64 c], tv] w fun e w' => Went w1 R D pS lS fuel e w' (puts ⟨rm, data, told, C.map Prod.fst⟩ f (F.map Prod.fst) [a]) := by
  have hI := h.alloc (.cells #[.int .i64 1, .int .i64 a, .int .i64 b, .int .i64 c] 27)
  obtain ⟨ta, tc, rfl, hcell⟩ := h.rooms.1.1.cut hc
  have k46 : ∀ W b, Inv own w1 W R D pS lS (.slice (some ⟨g, 0, none⟩) (F.length + 1) cap) vT vC fuel ((f, v) :: F) [] data told C → (∀ i u, (ints [a])[i]? = some u → W.cell? ((⟨b, 0, none⟩ : Addr).add i) = some u) → _ := fun W b hI hb => Went.put hI b [a] 1 rfl (by simp) (by simp) hw hb rm
  obtain ⟨k, hk⟩ : ∃ k, k = f.words.length := ⟨_, rfl⟩
  obtain ⟨out, hout⟩ : ∃ o, o = puts ⟨rm, data, told, C.map Prod.fst⟩ f (F.map Prod.fst) [a] := ⟨_, rfl⟩
  rw [← hout] at k46 ⊢
  have HI : Hid _ := hI
  have K46 : Hid _ := k46
  clear h hI k46 hw hc hk hout hcell
  go_enter Tryd.func39, Tryd.ntmps39
  go_wp2_with (go_at_call 46; refine (K46.out _ _ (by exact HI.out.alloc _) (by exact one_at (by simp) a)).mono ?_; intro e w' hwent; obtain ⟨n', rfl⟩ := went_ret hwent)
  go_ret
  exact hwent

set_option maxRecDepth 100000 in
set_option maxHeartbeats 1000000 in
theorem drop (x : Int) (h : Inv own w1 w R D pS lS (.slice (some ⟨g, 0, none⟩) (F.length + 1) cap) vT vC fuel ((f, v) :: F) [x] data told C) (hc : Cut v tv 1) (hw : f.words.length ≤ 40) (a b c : Int) (rm : List Fr) :
    Calls Tryd.prog 39 #[.pointer (some ⟨R, 0, none⟩), .pointer (some ⟨g, F.length * 12, none⟩), .agg #[.int .i64 2, .int .i64 a, .int .i64 b, .int .i64 c], tv] w fun e w' => Went w1 R D pS lS fuel e w' (puts ⟨rm, data, told, C.map Prod.fst⟩ f (F.map Prod.fst) []) := by
  have hI := h.alloc (.cells #[.int .i64 2, .int .i64 a, .int .i64 b, .int .i64 c] 27)
  obtain ⟨ta, tc, rfl, hcell⟩ := h.rooms.1.1.cut hc
  obtain ⟨gw0, rfl, cx0⟩ := hcell 0 x rfl
  have hgw : gw0 < w.heap.size := World.block_lt_of_cell? w _ cx0
  have u0 : ∀ o, (w.alloc o).cell? ⟨gw0, f.words.length, none⟩ = some (.int .i64 x) := fun o => (World.cell?_alloc_past o _ _ hgw).trans cx0
  have fin := put_none hI hw rm
  obtain ⟨k, hk⟩ : ∃ k, k = f.words.length := ⟨_, rfl⟩
  rw [← hk] at u0
  obtain ⟨out, hout⟩ : ∃ o, o = puts ⟨rm, data, told, C.map Prod.fst⟩ f (F.map Prod.fst) [] := ⟨_, rfl⟩
  rw [← hout] at fin ⊢
  rw [← hk]
  have FIN : Hid _ := fin
  clear h hI fin hw hc hk hout hcell
  go_enter Tryd.func39, Tryd.ntmps39
  go_wp2
  go_ret
  exact FIN.out

set_option maxRecDepth 100000 in
set_option maxHeartbeats 1000000 in
theorem dup (x : Int) (h : Inv own w1 w R D pS lS (.slice (some ⟨g, 0, none⟩) (F.length + 1) cap) vT vC fuel ((f, v) :: F) [x] data told C) (hc : Cut v tv 1) (hw : f.words.length ≤ 40) (a b c : Int) (rm : List Fr) :
    Calls Tryd.prog 39 #[.pointer (some ⟨R, 0, none⟩), .pointer (some ⟨g, F.length * 12, none⟩), .agg #[.int .i64 3, .int .i64 a, .int .i64 b, .int .i64 c], tv] w fun e w' => Went w1 R D pS lS fuel e w' (puts ⟨rm, data, told, C.map Prod.fst⟩ f (F.map Prod.fst) [x, x]) := by
  have hI := h.alloc (.cells #[.int .i64 3, .int .i64 a, .int .i64 b, .int .i64 c] 27)
  obtain ⟨ta, tc, rfl, hcell⟩ := h.rooms.1.1.cut hc
  obtain ⟨gw0, rfl, cx0⟩ := hcell 0 x rfl
  have hgw : gw0 < w.heap.size := World.block_lt_of_cell? w _ cx0
  have u0 : ∀ o, (w.alloc o).cell? ⟨gw0, f.words.length, none⟩ = some (.int .i64 x) := fun o => (World.cell?_alloc_past o _ _ hgw).trans cx0
  have k46 : ∀ W b, Inv own w1 W R D pS lS (.slice (some ⟨g, 0, none⟩) (F.length + 1) cap) vT vC fuel ((f, v) :: F) [x] data told C → (∀ j u, (ints [x, x])[j]? = some u → W.cell? ((⟨b, 0, none⟩ : Addr).add j) = some u) → _ := fun W b hI hb => Went.put hI b [x, x] 2 rfl (by simp) (by simp) hw hb rm
  obtain ⟨k, hk⟩ : ∃ k, k = f.words.length := ⟨_, rfl⟩
  rw [← hk] at u0
  obtain ⟨out, hout⟩ : ∃ o, o = puts ⟨rm, data, told, C.map Prod.fst⟩ f (F.map Prod.fst) [x, x] := ⟨_, rfl⟩
  rw [← hout] at k46 ⊢
  rw [← hk]
  have HI : Hid _ := hI
  have K46 : Hid _ := k46
  clear h hI k46 hw hc hk hout hcell
  go_enter Tryd.func39, Tryd.ntmps39
  go_wp2
  go_region_with ((go_at_call 46; refine (K46.out _ _ (by exact Inv.same (HI.out.alloc _) rfl rfl rfl rfl) (by exact two_at (w := w.alloc _) (by simp) x x)).mono ?_; intro e w' hwent; obtain ⟨n', rfl⟩ := went_ret hwent))
  all_goals
    go_wp2
    go_ret
    exact hwent

set_option maxRecDepth 100000 in
set_option maxHeartbeats 1000000 in
theorem jump (h : Inv own w1 w R D pS lS (.slice (some ⟨g, 0, none⟩) (F.length + 1) cap) vT vC fuel ((f, v) :: F) [] data told C) (hc : Cut v tv 0) (hw : f.words.length ≤ 40) (a b c : Int) (j : Nat) (ha : a = j) (rm : List Fr) :
    Calls Tryd.prog 39 #[.pointer (some ⟨R, 0, none⟩), .pointer (some ⟨g, F.length * 12, none⟩), .agg #[.int .i64 9, .int .i64 a, .int .i64 b, .int .i64 c], tv] w fun e w' => Went w1 R D pS lS fuel e w' (puts ⟨rm, data, told, C.map Prod.fst⟩ { f with pc := j } (F.map Prod.fst) []) := by
  have hI := h.alloc (.cells #[.int .i64 9, .int .i64 a, .int .i64 b, .int .i64 c] 27)
  obtain ⟨ta, tc, rfl, hcell⟩ := h.rooms.1.1.cut hc
  subst ha
  have c1 := hI.top_cell 1 (u := .int .i64 f.pc) rfl
  have z1 := hI.top_frozen (F.length * 12 + 1)
  have fin := put_none (hI.top_set (f' := { f with pc := j }) (v' := v) (l' := []) 1 (.int .i64 j) rfl ⟨hI.rooms.1.1, h.rooms.1.2⟩) hw rm
  obtain ⟨k, hk⟩ : ∃ k, k = f.words.length := ⟨_, rfl⟩
  obtain ⟨out, hout⟩ : ∃ o, o = puts ⟨rm, data, told, C.map Prod.fst⟩ { f with pc := j } (F.map Prod.fst) [] := ⟨_, rfl⟩
  rw [← hout] at fin ⊢
  have FIN : Hid _ := fin
  clear h hI fin hw hc hk hout hcell
  go_enter Tryd.func39, Tryd.ntmps39
  go_wp2
  go_ret
  exact FIN.out

set_option maxRecDepth 100000 in
set_option maxHeartbeats 1000000 in
theorem jz (x : Int) (h : Inv own w1 w R D pS lS (.slice (some ⟨g, 0, none⟩) (F.length + 1) cap) vT vC fuel ((f, v) :: F) [x] data told C) (hc : Cut v tv 1) (hw : f.words.length ≤ 40) (a b c : Int) (j : Nat) (ha : a = j) (rm : List Fr) :
    Calls Tryd.prog 39 #[.pointer (some ⟨R, 0, none⟩), .pointer (some ⟨g, F.length * 12, none⟩), .agg #[.int .i64 10, .int .i64 a, .int .i64 b, .int .i64 c], tv] w fun e w' => Went w1 R D pS lS fuel e w' (puts ⟨rm, data, told, C.map Prod.fst⟩ (if x = 0 then { f with pc := j } else f) (F.map Prod.fst) []) := by
  have hI := h.alloc (.cells #[.int .i64 10, .int .i64 a, .int .i64 b, .int .i64 c] 27)
  obtain ⟨ta, tc, rfl, hcell⟩ := h.rooms.1.1.cut hc
  obtain ⟨gw0, rfl, cx0⟩ := hcell 0 x rfl
  have hgw : gw0 < w.heap.size := World.block_lt_of_cell? w _ cx0
  have u0 : ∀ o, (w.alloc o).cell? ⟨gw0, f.words.length, none⟩ = some (.int .i64 x) := fun o => (World.cell?_alloc_past o _ _ hgw).trans cx0
  subst ha
  have c1 := hI.top_cell 1 (u := .int .i64 f.pc) rfl
  have z1 := hI.top_frozen (F.length * 12 + 1)
  have fin1 := put_none (hI.top_set (f' := { f with pc := j }) (v' := v) (l' := [x]) 1 (.int .i64 j) rfl ⟨hI.rooms.1.1, h.rooms.1.2⟩) hw rm
  have fin2 := put_none hI hw rm
  obtain ⟨k, hk⟩ : ∃ k, k = f.words.length := ⟨_, rfl⟩
  rw [← hk] at u0
  obtain ⟨out, hout⟩ : ∃ o, o = puts ⟨rm, data, told, C.map Prod.fst⟩ (if x = 0 then { f with pc := j } else f) (F.map Prod.fst) [] := ⟨_, rfl⟩
  rw [← hout]
  rw [← hk]
  have FIN1 : Hid _ := fin1
  have FIN2 : Hid _ := fin2
  have HOUT : Hid _ := hout
  clear h hI fin1 fin2 hw hc hk hout hcell
  by_cases hx : x = 0
  · have hx1 : (x == 0) = true := by simpa using hx
    have HX : Hid _ := hx
    clear hx
    go_enter Tryd.func39, Tryd.ntmps39
    go_wp2
    go_ret
    rw [HOUT.out, if_pos HX.out]
    exact FIN1.out
  · have hx1 : (x == 0) = false := by simpa using hx
    have HX : Hid _ := hx
    clear hx
    go_enter Tryd.func39, Tryd.ntmps39
    go_wp2
    go_ret
    rw [HOUT.out, if_neg HX.out]
    exact FIN2.out

set_option maxRecDepth 100000 in
set_option maxHeartbeats 1000000 in
theorem trap (h : Inv own w1 w R D pS lS (.slice (some ⟨g, 0, none⟩) (F.length + 1) cap) vT vC fuel ((f, v) :: F) [] data told C) (hc : Cut v tv 0) (_hw : f.words.length ≤ 40) (a b c : Int) (rm : List Fr) :
    Calls Tryd.prog 39 #[.pointer (some ⟨R, 0, none⟩), .pointer (some ⟨g, F.length * 12, none⟩), .agg #[.int .i64 15, .int .i64 a, .int .i64 b, .int .i64 c], tv] w fun e w' => Went w1 R D pS lS fuel e w' (ends 2 0 ⟨rm, data, told, C.map Prod.fst⟩) := by
  have hI := h.alloc (.cells #[.int .i64 15, .int .i64 a, .int .i64 b, .int .i64 c] 27)
  obtain ⟨ta, tc, rfl, hcell⟩ := h.rooms.1.1.cut hc
  have fin : Went w1 R D pS lS fuel (.returned (.int .i64 2)) (w.alloc (.cells #[.int .i64 15, .int .i64 a, .int .i64 b, .int .i64 c] 27)) (ends 2 0 ⟨rm, data, told, C.map Prod.fst⟩) := went_end hI.fin ⟨rfl, rfl, rfl⟩
  obtain ⟨k, hk⟩ : ∃ k, k = f.words.length := ⟨_, rfl⟩
  obtain ⟨out, hout⟩ : ∃ o, o = ends 2 0 ⟨rm, data, told, C.map Prod.fst⟩ := ⟨_, rfl⟩
  rw [← hout] at fin ⊢
  have FIN : Hid _ := fin
  clear h hI fin _hw hc hk hout hcell
  go_enter Tryd.func39, Tryd.ntmps39
  go_wp2
  go_ret
  exact FIN.out
end
end Go.Proofs.YtmmcpjmgindpkacDoor.ActA
