/-
  WHAT mach.load AND mach.store GIVE.
  Conditions: the run lies there, and the looks of its parts.
  WHAT mach.ret GIVES.
  Conditions: the run lies there.
-/
import Derived.Test.YtmbbkabecipkaacDoorWhole4
import Derived.BigRegion
namespace Go.Proofs.YtmbbkabecipkaacDoor.Look
open Go.RowKit Tab Go.Proofs.YtmbbkabecipkaacDoor.Check Lists Img Mach Own Go.Proofs.YtmbbkabecipkaacDoor.Inv Go.Proofs.YtmbbkabecipkaacDoor.Frame Take Go.Proofs.YtmbbkabecipkaacDoor.Went

/-- the looks of the parts, and what they caught -/
def Looks (w1 : World) (R D gL len dlen : Nat) (P : Nat → PartD) : Prop :=
  ∀ k, k < len → ∃ b0 b1, w1.cell? ⟨gL, k, none⟩ = some (.func (.func 45) #[] #[.pointer (some ⟨b0, 0, none⟩), .pointer (some ⟨b1, 0, none⟩)]) ∧ w1.cell? ⟨b0, 2, none⟩ = some (.int .i64 (P k).lo) ∧ w1.cell? ⟨b0, 3, none⟩ = some (.int .i64 (P k).hi) ∧
    w1.cell? ⟨b1, 0, none⟩ = some (.slice (some ⟨D, 0, none⟩) dlen dlen) ∧ (gL ≠ R ∧ gL ≠ D) ∧ (b0 ≠ R ∧ b0 ≠ D) ∧ (b1 ≠ R ∧ b1 ≠ D)

section
variable {own : Nat → Tag} {w1 w w' : World} {R D g cap : Nat} {pS vF vT vC : Value} {fuel : Int} {f : Fr} {v : Value} {F : List (Fr × Value)} {l data told : List Int} {C : List (Rec × Value)} {gL len capL : Nat} {P : Nat → PartD}

theorem part_of (h : Inv own w1 w R D pS (.slice (some ⟨gL, 0, none⟩) len capL) (.slice (some ⟨g, 0, none⟩) (F.length + 1) cap) vT vC fuel ((f, v) :: F) l data told C) (hL : Looks w1 R D gL len data.length P) (hp : f.part < len) :
    ∃ b0 b1, w.cell? ⟨R, 1, none⟩ = some (.slice (some ⟨gL, 0, none⟩) len capL) ∧ w.cell? ⟨g, F.length * 12, none⟩ = some (.int .i64 f.part) ∧ w.cell? ⟨gL, f.part, none⟩ = some (.func (.func 45) #[] #[.pointer (some ⟨b0, 0, none⟩), .pointer (some ⟨b1, 0, none⟩)]) ∧
      w.cell? ⟨b0, 2, none⟩ = some (.int .i64 (P f.part).lo) ∧ w.cell? ⟨b0, 3, none⟩ = some (.int .i64 (P f.part).hi) ∧ w.cell? ⟨b1, 0, none⟩ = some (.slice (some ⟨D, 0, none⟩) data.length data.length) := by
  obtain ⟨b0, b1, h0, h1, h2, h3, n0, n1, n2⟩ := hL f.part hp
  exact ⟨b0, b1, h.run.cell 1 rfl, h.top_cell 0 rfl, h.base.cell h0 n0.1 n0.2, h.base.cell h1 n1.1 n1.2, h.base.cell h2 n1.1 n1.2, h.base.cell h3 n2.1 n2.2⟩

theorem load_edge (h : Inv own w1 w R D pS (.slice (some ⟨gL, 0, none⟩) len capL) (.slice (some ⟨g, 0, none⟩) (F.length + 1) cap) vT vC fuel ((f, v) :: F) l data told C) (hL : Looks w1 R D gL len data.length P) (hp : f.part < len) (hlen : len ≤ 5)
    (x : Int) (hx : ¬ ((P f.part).lo ≤ x ∧ x < (P f.part).hi)) :
    Calls Tryd.prog 47 #[.pointer (some ⟨R, 0, none⟩), .pointer (some ⟨g, F.length * 12, none⟩), .int .i64 x] w fun e w' => e = .returned (.int .i64 4) ∧ ∃ j, w' = w.drewN j := by
  obtain ⟨b0, b1, c0, c1, c2, c3, c4, c5⟩ := part_of h hL hp
  have k45 := fun w h0 h1 => look_edge x (P f.part).lo (P f.part).hi b0 (.pointer (some ⟨b1, 0, none⟩)) w h0 h1 hx
  have hpI : (f.part : Int) < len := by omega
  have hlI : (len : Int) ≤ 5 := by omega
  obtain ⟨k, hk⟩ : ∃ k, k = f.part := ⟨_, rfl⟩
  rw [← hk] at c1 c2 hpI
  have K45 : Hid _ := k45
  clear h hL hp hlen hx hk k45
  go_enter Tryd.func47, Tryd.ntmps47
  go_wp2
  go_quiet ((go_at_call 45; exact Calls.quiet_of_same (K45.out _ (by simpa using c3) (by simpa using c4))))
  go_wp2
  go_ret
  exact ⟨rfl, _, rfl⟩

theorem load_ok (h : Inv own w1 w R D pS (.slice (some ⟨gL, 0, none⟩) len capL) (.slice (some ⟨g, 0, none⟩) (F.length + 1) cap) vT vC fuel ((f, v) :: F) l data told C) (hL : Looks w1 R D gL len data.length P) (hp : f.part < len) (hlen : len ≤ 5) (hw : f.words.length ≤ 40)
    (k : Nat) (y : Int) (hk : data[k]? = some y) (hx : (P f.part).lo ≤ (k : Int) ∧ (k : Int) < (P f.part).hi) (rm : List Fr) :
    Calls Tryd.prog 47 #[.pointer (some ⟨R, 0, none⟩), .pointer (some ⟨g, F.length * 12, none⟩), .int .i64 k] w fun e w' => Went w1 R D pS (.slice (some ⟨gL, 0, none⟩) len capL) fuel e w' (puts ⟨rm, data, told, C.map Prod.fst⟩ f (F.map Prod.fst) [y]) := by
  obtain ⟨b0, b1, c0, c1, c2, c3, c4, c5⟩ := part_of h hL hp
  have hkl := (List.getElem?_eq_some_iff.1 hk).1
  have k45 := fun w h0 h1 h2 => look_ok k data.length b0 b1 D (P f.part).lo (P f.part).hi w h0 h1 h2 hx.1 hx.2 (by omega)
  have cD := h.dat.cell k (u := .int .i64 y) (by simp [ints, hk])
  have hpI : (f.part : Int) < len := by omega
  have hlI : (len : Int) ≤ 5 := by omega
  have k46 := fun j => Went.put ((Inv.drew_n h j).alloc (.cells #[.int .i64 y] 3)) w.heap.size [y] 1 rfl (by simp) (by simp) hw (one_new (w := w.drewN j) y) rm
  obtain ⟨q, hq⟩ : ∃ q, q = f.part := ⟨_, rfl⟩
  rw [← hq] at c1 c2 hpI
  obtain ⟨out, hout⟩ : ∃ o, o = puts ⟨rm, data, told, C.map Prod.fst⟩ f (F.map Prod.fst) [y] := ⟨_, rfl⟩
  rw [← hout] at k46 ⊢
  have K45 : Hid _ := k45
  have K46 : Hid _ := k46
  clear h hL hp hlen hx hq k45 k46 hk hkl hw hout
  go_enter Tryd.func47, Tryd.ntmps47
  go_wp2
  go_quiet ((go_at_call 45; exact Calls.quiet_of_same (K45.out _ (by simpa using c3) (by simpa using c4) (by simpa using c5))))
  go_wp2_with (go_at_call 46; refine (K46.out _).mono ?_; intro e w' hwent; obtain ⟨n', rfl⟩ := went_ret hwent)
  go_ret
  exact hwent

theorem load (h : Inv own w1 w R D pS (.slice (some ⟨gL, 0, none⟩) len capL) (.slice (some ⟨g, 0, none⟩) (F.length + 1) cap) vT vC fuel ((f, v) :: F) l data told C) (hL : Looks w1 R D gL len data.length P) (hp : f.part < len) (hlen : len ≤ 5) (hw : f.words.length ≤ 40)
    (hin : 0 ≤ (P f.part).lo ∧ (P f.part).hi ≤ data.length) (x : Int) (rm : List Fr) :
    Calls Tryd.prog 47 #[.pointer (some ⟨R, 0, none⟩), .pointer (some ⟨g, F.length * 12, none⟩), .int .i64 x] w fun e w' => Went w1 R D pS (.slice (some ⟨gL, 0, none⟩) len capL) fuel e w'
      (if (P f.part).lo ≤ x ∧ x < (P f.part).hi then puts ⟨rm, data, told, C.map Prod.fst⟩ f (F.map Prod.fst) [data.getD x.toNat 0] else ends 4 0 ⟨rm, data, told, C.map Prod.fst⟩) := by
  by_cases hx : (P f.part).lo ≤ x ∧ x < (P f.part).hi
  · obtain ⟨k, rfl⟩ : ∃ k : Nat, x = k := ⟨x.toNat, by omega⟩
    rw [if_pos hx, Int.toNat_natCast]
    have hk : k < data.length := by omega
    exact load_ok h hL hp hlen hw k _ (by rw [List.getD_eq_getElem?_getD, List.getElem?_eq_getElem hk]; rfl) hx rm
  · rw [if_neg hx]
    refine (load_edge h hL hp hlen x hx).mono ?_
    rintro e w' ⟨rfl, j, rfl⟩
    exact went_end (Inv.drew_n h j).fin ⟨rfl, rfl, rfl⟩

theorem store_edge (h : Inv own w1 w R D pS (.slice (some ⟨gL, 0, none⟩) len capL) (.slice (some ⟨g, 0, none⟩) (F.length + 1) cap) vT vC fuel ((f, v) :: F) l data told C) (hL : Looks w1 R D gL len data.length P) (hp : f.part < len) (hlen : len ≤ 5)
    (x n : Int) (hx : ¬ ((P f.part).lo ≤ x ∧ x < (P f.part).hi)) :
    Calls Tryd.prog 48 #[.pointer (some ⟨R, 0, none⟩), .pointer (some ⟨g, F.length * 12, none⟩), .int .i64 x, .int .i64 n] w fun e w' => e = .returned (.int .i64 4) ∧ ∃ j, w' = w.drewN j := by
  obtain ⟨b0, b1, c0, c1, c2, c3, c4, c5⟩ := part_of h hL hp
  have k45 := fun w h0 h1 => look_edge x (P f.part).lo (P f.part).hi b0 (.pointer (some ⟨b1, 0, none⟩)) w h0 h1 hx
  have hpI : (f.part : Int) < len := by omega
  have hlI : (len : Int) ≤ 5 := by omega
  obtain ⟨k, hk⟩ : ∃ k, k = f.part := ⟨_, rfl⟩
  rw [← hk] at c1 c2 hpI
  have K45 : Hid _ := k45
  clear h hL hp hlen hx hk k45
  go_enter Tryd.func48, Tryd.ntmps48
  go_wp2
  go_quiet ((go_at_call 45; exact Calls.quiet_of_same (K45.out _ (by simpa using c3) (by simpa using c4))))
  go_wp2
  go_ret
  exact ⟨rfl, _, rfl⟩

theorem store_ok (h : Inv own w1 w R D pS (.slice (some ⟨gL, 0, none⟩) len capL) (.slice (some ⟨g, 0, none⟩) (F.length + 1) cap) vT vC fuel ((f, v) :: F) l data told C) (hL : Looks w1 R D gL len data.length P) (hp : f.part < len) (hlen : len ≤ 5)
    (k : Nat) (n : Int) (hkl : k < data.length) (hx : (P f.part).lo ≤ (k : Int) ∧ (k : Int) < (P f.part).hi) :
    Calls Tryd.prog 48 #[.pointer (some ⟨R, 0, none⟩), .pointer (some ⟨g, F.length * 12, none⟩), .int .i64 k, .int .i64 n] w fun e w' => e = .returned (.int .i64 0) ∧ Inv own w1 w' R D pS (.slice (some ⟨gL, 0, none⟩) len capL) (.slice (some ⟨g, 0, none⟩) (F.length + 1) cap) vT vC fuel ((f, v) :: F) l (data.set k n) told C := by
  obtain ⟨b0, b1, c0, c1, c2, c3, c4, c5⟩ := part_of h hL hp
  have k45 := fun w h0 h1 h2 => look_ok k data.length b0 b1 D (P f.part).lo (P f.part).hi w h0 h1 h2 hx.1 hx.2 (by omega)
  have cD := h.dat.cell k (u := .int .i64 data[k]) (by simp [ints, hkl])
  have zD := h.dat.frozen k
  have hpI : (f.part : Int) < len := by omega
  have hlI : (len : Int) ≤ 5 := by omega
  have key := fun j => Inv.data_set (k := k) (x := n) (Inv.drew_n h j)
  obtain ⟨y, hy⟩ : ∃ y, y = data[k] := ⟨_, rfl⟩
  obtain ⟨q, hq⟩ : ∃ q, q = f.part := ⟨_, rfl⟩
  rw [← hq] at c1 c2 hpI
  rw [← hy] at cD
  have K45 : Hid _ := k45
  have KEY : Hid _ := key
  clear h hL hp hlen hx hq k45 key hkl hy
  go_enter Tryd.func48, Tryd.ntmps48
  go_wp2
  go_quiet ((go_at_call 45; exact Calls.quiet_of_same (K45.out _ (by simpa using c3) (by simpa using c4) (by simpa using c5))))
  go_wp2
  go_ret
  exact ⟨rfl, KEY.out _⟩

theorem store (h : Inv own w1 w R D pS (.slice (some ⟨gL, 0, none⟩) len capL) (.slice (some ⟨g, 0, none⟩) (F.length + 1) cap) vT vC fuel ((f, v) :: F) l data told C) (hL : Looks w1 R D gL len data.length P) (hp : f.part < len) (hlen : len ≤ 5) (hw : f.words.length ≤ 40)
    (hin : 0 ≤ (P f.part).lo ∧ (P f.part).hi ≤ data.length) (x n : Int) (rm : List Fr) :
    Calls Tryd.prog 48 #[.pointer (some ⟨R, 0, none⟩), .pointer (some ⟨g, F.length * 12, none⟩), .int .i64 x, .int .i64 n] w fun e w' => Went w1 R D pS (.slice (some ⟨gL, 0, none⟩) len capL) fuel e w'
      (if (P f.part).lo ≤ x ∧ x < (P f.part).hi then puts ⟨rm, data.set x.toNat n, told, C.map Prod.fst⟩ f (F.map Prod.fst) [] else ends 4 0 ⟨rm, data, told, C.map Prod.fst⟩) := by
  by_cases hx : (P f.part).lo ≤ x ∧ x < (P f.part).hi
  · obtain ⟨k, rfl⟩ : ∃ k : Nat, x = k := ⟨x.toNat, by omega⟩
    rw [if_pos hx, Int.toNat_natCast]
    have hk : k < data.length := by omega
    refine (store_ok h hL hp hlen k n hk hx).mono ?_
    rintro e w' ⟨rfl, h'⟩
    exact put_none h' hw rm
  · rw [if_neg hx]
    refine (store_edge h hL hp hlen x n hx).mono ?_
    rintro e w' ⟨rfl, j, rfl⟩
    exact went_end (Inv.drew_n h j).fin ⟨rfl, rfl, rfl⟩
end
end Go.Proofs.YtmbbkabecipkaacDoor.Look

namespace Go.Proofs.YtmbbkabecipkaacDoor.Ret
open Go.RowKit Tab Go.Proofs.YtmbbkabecipkaacDoor.Check Lists Img Mach Own Go.Proofs.YtmbbkabecipkaacDoor.Inv Go.Proofs.YtmbbkabecipkaacDoor.Frame Take Go.Proofs.YtmbbkabecipkaacDoor.Went

/-- the call that was noted is done -/
def doneAt (C : List (Rec × Value)) (k : Nat) (x : Int) : List (Rec × Value) :=
  match C[k]? with
  | some (r, va) => (C.set k ({ r with done := true }, va)).set k ({ r with done := true, value := x }, va)
  | none => C

section
variable {own : Nat → Tag} {w1 w w' : World} {R D g cap : Nat} {pS lS vF vT vC : Value} {fuel : Int} {f : Fr} {v : Value} {F : List (Fr × Value)} {l data told : List Int} {C : List (Rec × Value)}

theorem done_set {gC capC k : Nat} (h : Inv own w1 w R D pS lS vF vT (.slice (some ⟨gC, 0, none⟩) C.length capC) fuel F l data told C) (hk : k < C.length) (x : Int) :
    Inv own w1 ((w.setCell ⟨gC, k * 7 + 5, none⟩ (.bool true)).setCell ⟨gC, k * 7 + 6, none⟩ (.int .i64 x)) R D pS lS vF vT (.slice (some ⟨gC, 0, none⟩) C.length capC) fuel F l data told (doneAt C k x) := by
  obtain ⟨r, va⟩ : Rec × Value := C[k]
  have hC : C[k]? = some (C[k].1, C[k].2) := by rw [List.getElem?_eq_getElem hk]
  have h1 := Inv.calls_set (r' := { C[k].1 with done := true }) h hC (j := 5) (by decide) (u := .bool true) rfl rfl
  have hC2 : (C.set k ({ C[k].1 with done := true }, C[k].2))[k]? = some ({ C[k].1 with done := true }, C[k].2) := List.getElem?_set_self hk
  rw [show (Value.slice (some ⟨gC, 0, none⟩) C.length capC) = .slice (some ⟨gC, 0, none⟩) (C.set k ({ C[k].1 with done := true }, C[k].2)).length capC by rw [List.length_set]] at h1
  have h2 := Inv.calls_set (r' := { C[k].1 with done := true, value := x }) h1 hC2 (j := 6) (by decide) (u := .int .i64 x) rfl rfl
  rw [List.length_set] at h2
  unfold doneAt
  rw [hC]
  exact h2

theorem doneAt_map (k : Nat) (x : Int) : (doneAt C k x).map Prod.fst = (C.map Prod.fst).modify k fun r => { r with done := true, value := x } := by
  unfold doneAt
  by_cases hk : k < C.length
  · rw [List.getElem?_eq_getElem hk]
    apply List.ext_getElem?
    intro i
    simp only [List.set_set, List.map_set, List.getElem?_modify]
    by_cases e : k = i
    · subst e
      rw [List.getElem?_set_self (by simpa using hk)]
      simp [hk]
    · rw [List.getElem?_set_ne e]
      simp [e]
  · rw [List.getElem?_eq_none (by omega)]
    rw [List.modify_eq_self (by simpa using hk)]

set_option maxRecDepth 100000 in
theorem ret_last (h : Inv own w1 w R D pS lS (.slice (some ⟨g, 0, none⟩) 1 cap) vT vC fuel [(f, v)] l data told C) (hno : f.noted = none) (x : Int) (hcap : 1 ≤ cap) (hc2 : cap ≤ maxLen) :
    Calls Tryd.prog 50 #[.pointer (some ⟨R, 0, none⟩), .int .i64 x] w fun e w' => e = .returned (.int .i64 1) ∧ Fin own w1 w' R D pS lS vT vC x data told C := by
  have c2 : w.cell? ⟨R, 2, none⟩ = some (.slice (some ⟨g, 0, none⟩) 1 cap) := h.run.cell 2 rfl
  have z2 := h.run.frozen 2
  have c5 : w.cell? ⟨R, 5, none⟩ = some (.int .i64 0) := h.run.cell 5 rfl
  have z5 := h.run.frozen 5
  have c11 : w.cell? ⟨g, 11, none⟩ = some (.int .i64 (-1)) := by
    have := h.top_cell (F := []) (cap := cap) (g := g) 11 (u := .int .i64 (-1)) (by simp [frCells, ints, h.rooms.1.2, hno, note])
    simpa using this
  have key0 := fun j => Inv.pop_set (F := []) (Inv.drew_n h j)
  have key := fun j => Inv.fin_set (key0 j) x
  have hcI : (1 : Int) ≤ cap := by omega
  have hcJ : (cap : Int) ≤ 9223372036854775807 := by unfold maxLen at hc2; omega
  have k36 := fun w c => last R g 1 0 cap w rfl (by decide) (by decide) c
  have KEY : Hid _ := key 0
  have K36 : Hid _ := k36
  clear h hno key key0 k36 hc2
  go_enter Tryd.func50, Tryd.ntmps50
  go_wp2_with (go_at_call 36; refine (K36.out _ c2).mono ?_; rintro e w' ⟨rfl, j, rfl⟩)
  go_region
  all_goals
    go_wp2
    go_ret
    exact ⟨rfl, Fin.same KEY.out rfl rfl rfl rfl⟩

set_option maxRecDepth 100000 in
theorem ret_more {f2 : Fr} {v2 : Value} (h : Inv own w1 w R D pS lS (.slice (some ⟨g, 0, none⟩) (F.length + 1 + 1) cap) vT vC fuel ((f, v) :: (f2, v2) :: F) l data told C) (hno : f.noted = none) (x : Int) (hcap : (F.length + 1 + 1) ≤ cap) (hc2 : cap ≤ maxLen) (hF : F.length + 1 + 1 ≤ 20) (hw2 : f2.words.length ≤ 40) (rm : List Fr) :
    Calls Tryd.prog 50 #[.pointer (some ⟨R, 0, none⟩), .int .i64 x] w fun e w' => Went w1 R D pS lS fuel e w' (puts ⟨rm, data, told, C.map Prod.fst⟩ f2 (F.map Prod.fst) [x]) := by
  have c2 : w.cell? ⟨R, 2, none⟩ = some (.slice (some ⟨g, 0, none⟩) (F.length + 1 + 1) cap) := h.run.cell 2 rfl
  have z2 := h.run.frozen 2
  have c11 : w.cell? ⟨g, (F.length + 1) * 12 + 11, none⟩ = some (.int .i64 (-1)) := by
    have := h.top_cell (F := ((f2, v2) :: F)) (cap := cap) (g := g) 11 (u := .int .i64 (-1)) (by simp [frCells, ints, h.rooms.1.2, hno, note])
    simpa using this
  have key0 := fun j => Inv.pop_set (F := ((f2, v2) :: F)) (Inv.drew_n h j)
  have hcJ : (cap : Int) ≤ 9223372036854775807 := by unfold maxLen at hc2; omega
  obtain ⟨n, hn⟩ : ∃ n, n = F.length + 1 + 1 := ⟨_, rfl⟩
  have hcI : (n : Int) ≤ cap := by omega
  have hn0 : (2 : Int) ≤ n := by omega
  have hn20 : (n : Int) ≤ 20 := by omega
  have hn1 : n - 1 = F.length + 1 := by omega
  have k36 := fun w c => last R g n (F.length + 1) cap w hn1 (by omega) (by omega) c
  have k36' := fun w c => last R g (n - 1) F.length cap w (by omega) (by omega) (by omega) c
  have key := key0 0
  have k46 : ∀ W b, b = W.heap.size → Inv own w1 W R D pS lS (.slice (some ⟨g, 0, none⟩) (n - 1) cap) vT vC fuel ((f2, v2) :: F) [] data told C → _ := fun W b hb hI => Went.put (g := g) (cap := cap) (F := F) (f := f2) (v := v2) (Inv.alloc (by rw [hn1] at hI; exact hI) (.cells #[.int .i64 x] 3)) b [x] 1 rfl (by simp) (by simp) hw2 (one_at hb x) rm
  obtain ⟨out, hout⟩ : ∃ o, o = puts ⟨rm, data, told, (C).map Prod.fst⟩ f2 (F.map Prod.fst) [x] := ⟨_, rfl⟩
  rw [← hout] at k46 ⊢
  rw [← hn] at c2
  simp only [List.length_cons] at key
  rw [← hn1] at key
  have KEY : Hid _ := key
  have K36 : Hid _ := k36
  have K36' : Hid _ := k36'
  have K46 : Hid _ := k46
  have HN1 : Hid _ := hn1
  clear h hno key key0 k36 k36' k46 hc2 hw2 hF hcap hn hn1 hout
  go_enter Tryd.func50, Tryd.ntmps50
  go_wp2_with (go_at_call 36; refine (K36.out _ c2).mono ?_; rintro e w' ⟨rfl, j, rfl⟩)
  go_region
  all_goals
    go_wp2_with (first
      | (go_at_call 36; refine (K36'.out _ (by exact (Inv.same KEY.out rfl rfl rfl rfl).run.cell 2 rfl)).mono ?_; rintro e w' ⟨rfl, i, rfl⟩)
      | (go_at_call 46; refine (K46.out _ _ (by simp) (by exact Inv.same KEY.out rfl rfl rfl rfl)).mono ?_; intro e w' hwent; obtain ⟨n', rfl⟩ := went_ret hwent))
    go_ret
    exact hwent

set_option maxRecDepth 100000 in
theorem retN_last {gC capC k : Nat} (h : Inv own w1 w R D pS lS (.slice (some ⟨g, 0, none⟩) 1 cap) vT (.slice (some ⟨gC, 0, none⟩) C.length capC) fuel [(f, v)] l data told C) (hno : f.noted = some k) (hk : k < C.length) (hC : C.length ≤ 100) (x : Int) (hcap : 1 ≤ cap) (hc2 : cap ≤ maxLen) :
    Calls Tryd.prog 50 #[.pointer (some ⟨R, 0, none⟩), .int .i64 x] w fun e w' => e = .returned (.int .i64 1) ∧ Fin own w1 w' R D pS lS vT (.slice (some ⟨gC, 0, none⟩) C.length capC) x data told (doneAt C k x) := by
  have c2 : w.cell? ⟨R, 2, none⟩ = some (.slice (some ⟨g, 0, none⟩) 1 cap) := h.run.cell 2 rfl
  have z2 := h.run.frozen 2
  have c5 : w.cell? ⟨R, 5, none⟩ = some (.int .i64 0) := h.run.cell 5 rfl
  have z5 := h.run.frozen 5
  have c11 : w.cell? ⟨g, 11, none⟩ = some (.int .i64 (k : Int)) := by
    have := h.top_cell (F := []) (cap := cap) (g := g) 11 (u := .int .i64 (k : Int)) (by simp [frCells, ints, h.rooms.1.2, hno, note])
    simpa using this
  have cC : w.cell? ⟨R, 8, none⟩ = some (.slice (some ⟨gC, 0, none⟩) C.length capC) := h.run.cell 8 rfl
  have hRC : gC ≠ R := fun e => by have a := h.calls.tag gC rfl; have b := h.run.tag; rw [e, b] at a; cases a
  have hgC : g ≠ gC := fun e => by have a := h.calls.tag gC rfl; have b := h.frames.tag g rfl; rw [← e, b] at a; cases a
  have hCk : C[k]? = some (C[k].1, C[k].2) := by rw [List.getElem?_eq_getElem hk]
  have d5 : w.cell? ⟨gC, k * 7 + 5, none⟩ = some (.bool C[k].1.done) := h.calls.cell (k * 7 + 5) (by rw [flatC_at (by decide) hCk]; rfl)
  have d6 : w.cell? ⟨gC, k * 7 + 6, none⟩ = some (.int .i64 C[k].1.value) := h.calls.cell (k * 7 + 6) (by rw [flatC_at (by decide) hCk]; rfl)
  have zC := fun j => h.calls.frozen (g := gC) j
  have z5' := zC (k * 7 + 5)
  have z6' := zC (k * 7 + 6)
  have hI := fun j => done_set (Inv.drew_n h j) hk x
  have m5 := fun j => (hI j).run.cell 2 (v := .slice (some ⟨g, 0, none⟩) 1 cap) rfl
  have n5 := fun j => (hI j).run.frozen 2
  have m6 := fun j => (hI j).run.cell 5 (v := .int .i64 0) rfl
  have n6 := fun j => (hI j).run.frozen 5
  have key0 := fun j => Inv.pop_set (F := []) (hI j)
  obtain ⟨b5, hb5⟩ : ∃ b, b = C[k].1.done := ⟨_, rfl⟩
  obtain ⟨b6, hb6⟩ : ∃ b, b = C[k].1.value := ⟨_, rfl⟩
  rw [← hb5] at d5
  rw [← hb6] at d6
  have hkI : (k : Int) < C.length := by omega
  have hk100 : (C.length : Int) ≤ 100 := by omega
  have hne1 : ((k : Int) == -1) = false := by simp
  have key := fun j => Inv.fin_set (key0 j) x
  have hcI : (1 : Int) ≤ cap := by omega
  have hcJ : (cap : Int) ≤ 9223372036854775807 := by unfold maxLen at hc2; omega
  have k36 := fun w c => last R g 1 0 cap w rfl (by decide) (by decide) c
  have KEY : Hid _ := key 0
  have K36 : Hid _ := k36
  clear h hno key key0 k36 hc2 hI hk hC hCk zC hb5 hb6
  go_enter Tryd.func50, Tryd.ntmps50
  go_wp2_with (go_at_call 36; refine (K36.out _ c2).mono ?_; rintro e w' ⟨rfl, j, rfl⟩)
  go_region
  all_goals
    go_wp2
    go_ret
    exact ⟨rfl, Fin.same KEY.out rfl rfl rfl rfl⟩

set_option maxRecDepth 100000 in
theorem retN_more {f2 : Fr} {v2 : Value} {gC capC k : Nat} (h : Inv own w1 w R D pS lS (.slice (some ⟨g, 0, none⟩) (F.length + 1 + 1) cap) vT (.slice (some ⟨gC, 0, none⟩) C.length capC) fuel ((f, v) :: (f2, v2) :: F) l data told C) (hno : f.noted = some k) (hk : k < C.length) (hC : C.length ≤ 100) (x : Int) (hcap : (F.length + 1 + 1) ≤ cap) (hc2 : cap ≤ maxLen) (hF : F.length + 1 + 1 ≤ 20) (hw2 : f2.words.length ≤ 40) (rm : List Fr) :
    Calls Tryd.prog 50 #[.pointer (some ⟨R, 0, none⟩), .int .i64 x] w fun e w' => Went w1 R D pS lS fuel e w' (puts ⟨rm, data, told, (doneAt C k x).map Prod.fst⟩ f2 (F.map Prod.fst) [x]) := by
  have c2 : w.cell? ⟨R, 2, none⟩ = some (.slice (some ⟨g, 0, none⟩) (F.length + 1 + 1) cap) := h.run.cell 2 rfl
  have z2 := h.run.frozen 2
  have c11 : w.cell? ⟨g, (F.length + 1) * 12 + 11, none⟩ = some (.int .i64 (k : Int)) := by
    have := h.top_cell (F := ((f2, v2) :: F)) (cap := cap) (g := g) 11 (u := .int .i64 (k : Int)) (by simp [frCells, ints, h.rooms.1.2, hno, note])
    simpa using this
  have cC : w.cell? ⟨R, 8, none⟩ = some (.slice (some ⟨gC, 0, none⟩) C.length capC) := h.run.cell 8 rfl
  have hRC : gC ≠ R := fun e => by have a := h.calls.tag gC rfl; have b := h.run.tag; rw [e, b] at a; cases a
  have hgC : g ≠ gC := fun e => by have a := h.calls.tag gC rfl; have b := h.frames.tag g rfl; rw [← e, b] at a; cases a
  have hCk : C[k]? = some (C[k].1, C[k].2) := by rw [List.getElem?_eq_getElem hk]
  have d5 : w.cell? ⟨gC, k * 7 + 5, none⟩ = some (.bool C[k].1.done) := h.calls.cell (k * 7 + 5) (by rw [flatC_at (by decide) hCk]; rfl)
  have d6 : w.cell? ⟨gC, k * 7 + 6, none⟩ = some (.int .i64 C[k].1.value) := h.calls.cell (k * 7 + 6) (by rw [flatC_at (by decide) hCk]; rfl)
  have zC := fun j => h.calls.frozen (g := gC) j
  have z5' := zC (k * 7 + 5)
  have z6' := zC (k * 7 + 6)
  have hI := fun j => done_set (Inv.drew_n h j) hk x
  have m5 := fun j => (hI j).run.cell 2 (v := .slice (some ⟨g, 0, none⟩) (F.length + 1 + 1) cap) rfl
  have n5 := fun j => (hI j).run.frozen 2
  have key0 := fun j => Inv.pop_set (F := ((f2, v2) :: F)) (hI j)
  obtain ⟨b5, hb5⟩ : ∃ b, b = C[k].1.done := ⟨_, rfl⟩
  obtain ⟨b6, hb6⟩ : ∃ b, b = C[k].1.value := ⟨_, rfl⟩
  rw [← hb5] at d5
  rw [← hb6] at d6
  have hkI : (k : Int) < C.length := by omega
  have hk100 : (C.length : Int) ≤ 100 := by omega
  have hne1 : ((k : Int) == -1) = false := by simp
  have hcJ : (cap : Int) ≤ 9223372036854775807 := by unfold maxLen at hc2; omega
  obtain ⟨n, hn⟩ : ∃ n, n = F.length + 1 + 1 := ⟨_, rfl⟩
  have hcI : (n : Int) ≤ cap := by omega
  have hn0 : (2 : Int) ≤ n := by omega
  have hn20 : (n : Int) ≤ 20 := by omega
  have hn1 : n - 1 = F.length + 1 := by omega
  have k36 := fun w c => last R g n (F.length + 1) cap w hn1 (by omega) (by omega) c
  have k36' := fun w c => last R g (n - 1) F.length cap w (by omega) (by omega) (by omega) c
  have key := key0 0
  have k46 : ∀ W b, b = W.heap.size → Inv own w1 W R D pS lS (.slice (some ⟨g, 0, none⟩) (n - 1) cap) vT (.slice (some ⟨gC, 0, none⟩) C.length capC) fuel ((f2, v2) :: F) [] data told (doneAt C k x) → _ := fun W b hb hI => Went.put (g := g) (cap := cap) (F := F) (f := f2) (v := v2) (Inv.alloc (by rw [hn1] at hI; exact hI) (.cells #[.int .i64 x] 3)) b [x] 1 rfl (by simp) (by simp) hw2 (one_at hb x) rm
  obtain ⟨out, hout⟩ : ∃ o, o = puts ⟨rm, data, told, ((doneAt C k x)).map Prod.fst⟩ f2 (F.map Prod.fst) [x] := ⟨_, rfl⟩
  rw [← hout] at k46 ⊢
  rw [← hn] at c2 m5
  simp only [List.length_cons] at key
  rw [← hn1] at key
  have KEY : Hid _ := key
  have K36 : Hid _ := k36
  have K36' : Hid _ := k36'
  have K46 : Hid _ := k46
  have HN1 : Hid _ := hn1
  clear h hno key key0 k36 k36' k46 hc2 hw2 hF hcap hn hn1 hout hI hk hC hCk zC hb5 hb6
  go_enter Tryd.func50, Tryd.ntmps50
  go_wp2_with (go_at_call 36; refine (K36.out _ c2).mono ?_; rintro e w' ⟨rfl, j, rfl⟩)
  go_region
  all_goals
    go_wp2_with (first
      | (go_at_call 36; refine (K36'.out _ (by exact (Inv.same KEY.out rfl rfl rfl rfl).run.cell 2 rfl)).mono ?_; rintro e w' ⟨rfl, i, rfl⟩)
      | (go_at_call 46; refine (K46.out _ _ (by simp) (by exact Inv.same KEY.out rfl rfl rfl rfl)).mono ?_; intro e w' hwent; obtain ⟨n', rfl⟩ := went_ret hwent))
    go_ret
    exact hwent
end
end Go.Proofs.YtmbbkabecipkaacDoor.Ret
