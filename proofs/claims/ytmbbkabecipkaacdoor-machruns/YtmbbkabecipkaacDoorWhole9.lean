/-
  WHAT mach.do GIVES, an instruction each (but for Call and a Gate that goes through).
  Conditions: the run lies there, with the words that were taken.
  WHAT mach.do GIVES, an instruction each (but for Call and a Gate that goes through).
  Conditions: the run lies there, with the words that were taken.
-/
import Derived.Test.YtmbbkabecipkaacDoorWhole6
import Derived.Test.YtmbbkabecipkaacDoorWhole7
import Derived.Test.YtmbbkabecipkaacDoorWhole8
namespace Go.Proofs.YtmbbkabecipkaacDoor.ActB
open Go.RowKit Tab Go.Proofs.YtmbbkabecipkaacDoor.Check Lists Img Mach Own Go.Proofs.YtmbbkabecipkaacDoor.Inv Go.Proofs.YtmbbkabecipkaacDoor.Frame Take Go.Proofs.YtmbbkabecipkaacDoor.Went Go.Proofs.YtmbbkabecipkaacDoor.Look ActA

section
variable {own : Nat → Tag} {w1 w w' : World} {R D g cap : Nat} {pS lS vF vT vC : Value} {fuel : Int} {f : Fr} {v tv : Value} {F : List (Fr × Value)} {l data told : List Int} {C : List (Rec × Value)} {gL len capL : Nat} {P : Nat → PartD}

set_option maxRecDepth 100000 in
set_option maxHeartbeats 1000000 in
theorem get (h : Inv own w1 w R D pS lS (.slice (some ⟨g, 0, none⟩) (F.length + 1) cap) vT vC fuel ((f, v) :: F) [] data told C) (hc : Cut v tv 0) (hw : f.words.length ≤ 40) (a b c : Int) (j : Nat) (hj : j < 8) (ha : a = j) (rm : List Fr) :
    Calls Tryd.prog 39 #[.pointer (some ⟨R, 0, none⟩), .pointer (some ⟨g, F.length * 12, none⟩), .agg #[.int .i64 4, .int .i64 a, .int .i64 b, .int .i64 c], tv] w fun e w' => Went w1 R D pS lS fuel e w' (puts ⟨rm, data, told, C.map Prod.fst⟩ f (F.map Prod.fst) [f.locals.getD j 0]) := by
  have hI := h.alloc (.cells #[.int .i64 4, .int .i64 a, .int .i64 b, .int .i64 c] 27)
  obtain ⟨ta, tc, rfl, hcell⟩ := h.rooms.1.1.cut hc
  have k46 : ∀ W b, Inv own w1 W R D pS lS (.slice (some ⟨g, 0, none⟩) (F.length + 1) cap) vT vC fuel ((f, v) :: F) [] data told C → (∀ i u, (ints [f.locals.getD j 0])[i]? = some u → W.cell? ((⟨b, 0, none⟩ : Addr).add i) = some u) → _ := fun W b hI hb => Went.put hI b [f.locals.getD j 0] 1 rfl (by simp) (by simp) hw hb rm
  subst ha
  have cl := hI.top_cell (2 + j) (u := .int .i64 (f.locals.getD j 0)) (local_at h.rooms.1.2 hj)
  have hjI : (j : Int) < 8 := by omega
  obtain ⟨k, hk⟩ : ∃ k, k = f.words.length := ⟨_, rfl⟩
  obtain ⟨out, hout⟩ : ∃ o, o = puts ⟨rm, data, told, C.map Prod.fst⟩ f (F.map Prod.fst) [f.locals.getD j 0] := ⟨_, rfl⟩
  rw [← hout] at k46 ⊢
  obtain ⟨y, hy⟩ : ∃ y, y = f.locals.getD j 0 := ⟨_, rfl⟩
  rw [← hy] at k46 cl
  have HI : Hid _ := hI
  have K46 : Hid _ := k46
  have cl' : (w.alloc (.cells #[.int .i64 4, .int .i64 j, .int .i64 b, .int .i64 c] 27)).cell? ⟨g, F.length * 12 + 2 + j, none⟩ = some (.int .i64 y) := by rw [Nat.add_assoc]; exact cl
  clear h hI k46 hw hc hk hout hcell hj hy cl
  go_enter Tryd.func39, Tryd.ntmps39
  go_wp2
  go_region_with ((go_at_call 46; refine (K46.out _ _ (by exact Inv.same (HI.out.alloc _) rfl rfl rfl rfl) (by exact one_at (w := w.alloc _) (by simp) y)).mono ?_; intro e w' hwent; obtain ⟨n', rfl⟩ := went_ret hwent))
  all_goals
    go_wp2
    go_ret
    exact hwent

set_option maxRecDepth 100000 in
set_option maxHeartbeats 1000000 in
theorem put_ (x : Int) (h : Inv own w1 w R D pS lS (.slice (some ⟨g, 0, none⟩) (F.length + 1) cap) vT vC fuel ((f, v) :: F) [x] data told C) (hc : Cut v tv 1) (hw : f.words.length ≤ 40) (a b c : Int) (j : Nat) (hj : j < 8) (ha : a = j) (rm : List Fr) :
    Calls Tryd.prog 39 #[.pointer (some ⟨R, 0, none⟩), .pointer (some ⟨g, F.length * 12, none⟩), .agg #[.int .i64 5, .int .i64 a, .int .i64 b, .int .i64 c], tv] w fun e w' => Went w1 R D pS lS fuel e w' (puts ⟨rm, data, told, C.map Prod.fst⟩ { f with locals := f.locals.set j x } (F.map Prod.fst) []) := by
  have hI := h.alloc (.cells #[.int .i64 5, .int .i64 a, .int .i64 b, .int .i64 c] 27)
  obtain ⟨ta, tc, rfl, hcell⟩ := h.rooms.1.1.cut hc
  obtain ⟨gw0, rfl, cx0⟩ := hcell 0 x rfl
  have hgw : gw0 < w.heap.size := World.block_lt_of_cell? w _ cx0
  have u0 : ∀ o, (w.alloc o).cell? ⟨gw0, f.words.length, none⟩ = some (.int .i64 x) := fun o => (World.cell?_alloc_past o _ _ hgw).trans cx0
  subst ha
  have cl := hI.top_cell (2 + j) (u := .int .i64 (f.locals.getD j 0)) (local_at h.rooms.1.2 hj)
  have zl := hI.top_frozen (F.length * 12 + 2 + j)
  have hjI : (j : Int) < 8 := by omega
  have fin := put_none (hI.top_set (f' := { f with locals := f.locals.set j x }) (v' := v) (l' := [x]) (2 + j) (.int .i64 x) (local_set h.rooms.1.2 hj x) ⟨hI.rooms.1.1, by simpa using h.rooms.1.2⟩) hw rm
  obtain ⟨k, hk⟩ : ∃ k, k = f.words.length := ⟨_, rfl⟩
  rw [← hk] at u0
  obtain ⟨out, hout⟩ : ∃ o, o = puts ⟨rm, data, told, C.map Prod.fst⟩ { f with locals := f.locals.set j x } (F.map Prod.fst) [] := ⟨_, rfl⟩
  rw [← hout] at fin ⊢
  rw [← hk]
  obtain ⟨y, hy⟩ : ∃ y, y = f.locals.getD j 0 := ⟨_, rfl⟩
  rw [← hy] at cl
  rw [← Nat.add_assoc] at cl fin
  have FIN : Hid _ := fin
  clear h hI fin hw hc hk hout hcell hj hy
  go_enter Tryd.func39, Tryd.ntmps39
  go_wp2
  go_region
  all_goals
    go_wp2
    go_ret
    exact went_same FIN.out rfl rfl rfl rfl
end
end Go.Proofs.YtmbbkabecipkaacDoor.ActB

namespace Go.Proofs.YtmbbkabecipkaacDoor.ActC
open Go.RowKit Tab Go.Proofs.YtmbbkabecipkaacDoor.Check Lists Img Mach Own Go.Proofs.YtmbbkabecipkaacDoor.Inv Go.Proofs.YtmbbkabecipkaacDoor.Frame Take Go.Proofs.YtmbbkabecipkaacDoor.Went Go.Proofs.YtmbbkabecipkaacDoor.Look ActA

section
variable {own : Nat → Tag} {w1 w w' : World} {R D g cap : Nat} {pS lS vF vT vC : Value} {fuel : Int} {f : Fr} {v tv : Value} {F : List (Fr × Value)} {l data told : List Int} {C : List (Rec × Value)} {gL len capL : Nat} {P : Nat → PartD}

set_option maxRecDepth 100000 in
set_option maxHeartbeats 1000000 in
theorem load_ (x : Int) (h : Inv own w1 w R D pS (.slice (some ⟨gL, 0, none⟩) len capL) (.slice (some ⟨g, 0, none⟩) (F.length + 1) cap) vT vC fuel ((f, v) :: F) [x] data told C) (hc : Cut v tv 1) (hw : f.words.length ≤ 40) (a b c : Int) (hL : Go.Proofs.YtmbbkabecipkaacDoor.Look.Looks w1 R D gL len data.length P) (hp : f.part < len) (hlen : len ≤ 5) (hin : 0 ≤ (P f.part).lo ∧ (P f.part).hi ≤ data.length) (rm : List Fr) :
    Calls Tryd.prog 39 #[.pointer (some ⟨R, 0, none⟩), .pointer (some ⟨g, F.length * 12, none⟩), .agg #[.int .i64 6, .int .i64 a, .int .i64 b, .int .i64 c], tv] w fun e w' => Went w1 R D pS (.slice (some ⟨gL, 0, none⟩) len capL) fuel e w' (if (P f.part).lo ≤ x ∧ x < (P f.part).hi then puts ⟨rm, data, told, C.map Prod.fst⟩ f (F.map Prod.fst) [data.getD x.toNat 0] else ends 4 0 ⟨rm, data, told, C.map Prod.fst⟩) := by
  have hI := h.alloc (.cells #[.int .i64 6, .int .i64 a, .int .i64 b, .int .i64 c] 27)
  obtain ⟨ta, tc, rfl, hcell⟩ := h.rooms.1.1.cut hc
  obtain ⟨gw0, rfl, cx0⟩ := hcell 0 x rfl
  have hgw : gw0 < w.heap.size := World.block_lt_of_cell? w _ cx0
  have u0 : ∀ o, (w.alloc o).cell? ⟨gw0, f.words.length, none⟩ = some (.int .i64 x) := fun o => (World.cell?_alloc_past o _ _ hgw).trans cx0
  have k47 : ∀ W, Inv own w1 W R D pS (.slice (some ⟨gL, 0, none⟩) len capL) (.slice (some ⟨g, 0, none⟩) (F.length + 1) cap) vT vC fuel ((f, v) :: F) [x] data told C → _ := fun W hI => Go.Proofs.YtmbbkabecipkaacDoor.Look.load hI hL hp hlen hw hin x rm
  obtain ⟨k, hk⟩ : ∃ k, k = f.words.length := ⟨_, rfl⟩
  rw [← hk] at u0
  obtain ⟨out, hout⟩ : ∃ o, o = if (P f.part).lo ≤ x ∧ x < (P f.part).hi then puts ⟨rm, data, told, C.map Prod.fst⟩ f (F.map Prod.fst) [data.getD x.toNat 0] else ends 4 0 ⟨rm, data, told, C.map Prod.fst⟩ := ⟨_, rfl⟩
  rw [← hout] at k47 ⊢
  rw [← hk]
  have K47 : Hid _ := k47
  have HI : Hid _ := hI
  clear h hI k47 hw hc hk hout hcell hL hp hlen hin
  go_enter Tryd.func39, Tryd.ntmps39
  go_wp2_with (go_at_call 47; refine (K47.out _ (by exact HI.out)).mono ?_; intro e w' hwent; obtain ⟨n', rfl⟩ := went_ret hwent)
  go_ret
  exact hwent

set_option maxRecDepth 100000 in
set_option maxHeartbeats 1000000 in
theorem store_ (x : Int) (y : Int) (h : Inv own w1 w R D pS (.slice (some ⟨gL, 0, none⟩) len capL) (.slice (some ⟨g, 0, none⟩) (F.length + 1) cap) vT vC fuel ((f, v) :: F) [x, y] data told C) (hc : Cut v tv 2) (hw : f.words.length ≤ 40) (a b c : Int) (hL : Go.Proofs.YtmbbkabecipkaacDoor.Look.Looks w1 R D gL len data.length P) (hp : f.part < len) (hlen : len ≤ 5) (hin : 0 ≤ (P f.part).lo ∧ (P f.part).hi ≤ data.length) (rm : List Fr) :
    Calls Tryd.prog 39 #[.pointer (some ⟨R, 0, none⟩), .pointer (some ⟨g, F.length * 12, none⟩), .agg #[.int .i64 7, .int .i64 a, .int .i64 b, .int .i64 c], tv] w fun e w' => Went w1 R D pS (.slice (some ⟨gL, 0, none⟩) len capL) fuel e w' (if (P f.part).lo ≤ x ∧ x < (P f.part).hi then puts ⟨rm, data.set x.toNat y, told, C.map Prod.fst⟩ f (F.map Prod.fst) [] else ends 4 0 ⟨rm, data, told, C.map Prod.fst⟩) := by
  have hI := h.alloc (.cells #[.int .i64 7, .int .i64 a, .int .i64 b, .int .i64 c] 27)
  obtain ⟨ta, tc, rfl, hcell⟩ := h.rooms.1.1.cut hc
  obtain ⟨gw0, rfl, cx0⟩ := hcell 0 x rfl
  obtain ⟨gw1, e1, cx1⟩ := hcell 1 y rfl
  simp only [Option.some.injEq, Addr.mk.injEq, and_true] at e1
  obtain rfl := e1
  have hgw : gw0 < w.heap.size := World.block_lt_of_cell? w _ cx0
  have u0 : ∀ o, (w.alloc o).cell? ⟨gw0, f.words.length, none⟩ = some (.int .i64 x) := fun o => (World.cell?_alloc_past o _ _ hgw).trans cx0
  have u1 : ∀ o, (w.alloc o).cell? ⟨gw0, f.words.length + 1, none⟩ = some (.int .i64 y) := fun o => (World.cell?_alloc_past o _ _ hgw).trans cx1
  have k48 : ∀ W, Inv own w1 W R D pS (.slice (some ⟨gL, 0, none⟩) len capL) (.slice (some ⟨g, 0, none⟩) (F.length + 1) cap) vT vC fuel ((f, v) :: F) [x, y] data told C → _ := fun W hI => Go.Proofs.YtmbbkabecipkaacDoor.Look.store hI hL hp hlen hw hin x y rm
  obtain ⟨k, hk⟩ : ∃ k, k = f.words.length := ⟨_, rfl⟩
  rw [← hk] at u0 u1
  obtain ⟨out, hout⟩ : ∃ o, o = if (P f.part).lo ≤ x ∧ x < (P f.part).hi then puts ⟨rm, data.set x.toNat y, told, C.map Prod.fst⟩ f (F.map Prod.fst) [] else ends 4 0 ⟨rm, data, told, C.map Prod.fst⟩ := ⟨_, rfl⟩
  rw [← hout] at k48 ⊢
  rw [← hk]
  have K48 : Hid _ := k48
  have HI : Hid _ := hI
  clear h hI k48 hw hc hk hout hcell hL hp hlen hin
  go_enter Tryd.func39, Tryd.ntmps39
  go_wp2
  go_region_with ((go_at_call 48; refine (K48.out _ (by exact Inv.same HI.out rfl rfl rfl rfl)).mono ?_; intro e w' hwent; obtain ⟨n', rfl⟩ := went_ret hwent))
  all_goals
    go_wp2
    go_ret
    exact hwent

set_option maxRecDepth 100000 in
set_option maxHeartbeats 1000000 in
theorem tell_ (x : Int) (h : Inv own w1 w R D pS lS (.slice (some ⟨g, 0, none⟩) (F.length + 1) cap) vT vC fuel ((f, v) :: F) [x] data told C) (hc : Cut v tv 1) (hw : f.words.length ≤ 40) (a b c : Int) (ht : told.length ≤ 500) (rm : List Fr) :
    Calls Tryd.prog 39 #[.pointer (some ⟨R, 0, none⟩), .pointer (some ⟨g, F.length * 12, none⟩), .agg #[.int .i64 14, .int .i64 a, .int .i64 b, .int .i64 c], tv] w fun e w' => Went w1 R D pS lS fuel e w' (if told.length < 500 then puts ⟨rm, data, told ++ [x], C.map Prod.fst⟩ f (F.map Prod.fst) [] else ends 6 0 ⟨rm, data, told, C.map Prod.fst⟩) := by
  have hI := h.alloc (.cells #[.int .i64 14, .int .i64 a, .int .i64 b, .int .i64 c] 27)
  obtain ⟨ta, tc, rfl, hcell⟩ := h.rooms.1.1.cut hc
  obtain ⟨gw0, rfl, cx0⟩ := hcell 0 x rfl
  have hgw : gw0 < w.heap.size := World.block_lt_of_cell? w _ cx0
  have u0 : ∀ o, (w.alloc o).cell? ⟨gw0, f.words.length, none⟩ = some (.int .i64 x) := fun o => (World.cell?_alloc_past o _ _ hgw).trans cx0
  have k51 : ∀ W, Inv own w1 W R D pS lS (.slice (some ⟨g, 0, none⟩) (F.length + 1) cap) vT vC fuel ((f, v) :: F) [x] data told C → Calls Tryd.prog 51 #[.pointer (some ⟨R, 0, none⟩), .int .i64 x] W fun e w' => Went w1 R D pS lS fuel e w' (if told.length < 500 then puts ⟨rm, data, told ++ [x], C.map Prod.fst⟩ f (F.map Prod.fst) [] else ends 6 0 ⟨rm, data, told, C.map Prod.fst⟩) := by
    intro W hI
    by_cases hlt : told.length < 500
    · rw [if_pos hlt]
      refine (tell hI x hlt).mono ?_
      rintro e w' ⟨rfl, own', v', h'⟩
      exact put_none h' hw rm
    · rw [if_neg hlt]
      have e5 : told.length = 500 := by omega
      have c6 := hI.run.cell 6 (v := vT) rfl
      obtain ⟨ao, cp, rfl⟩ := owned_form hI.told
      rw [e5] at c6
      refine (tell_long x _ R ao cp c6).mono ?_
      rintro e w' ⟨rfl, rfl⟩
      exact went_end hI.fin ⟨rfl, rfl, rfl⟩
  obtain ⟨k, hk⟩ : ∃ k, k = f.words.length := ⟨_, rfl⟩
  rw [← hk] at u0
  obtain ⟨out, hout⟩ : ∃ o, o = if told.length < 500 then puts ⟨rm, data, told ++ [x], C.map Prod.fst⟩ f (F.map Prod.fst) [] else ends 6 0 ⟨rm, data, told, C.map Prod.fst⟩ := ⟨_, rfl⟩
  rw [← hout] at k51 ⊢
  rw [← hk]
  have K51 : Hid _ := k51
  have HI : Hid _ := hI
  clear h hI k51 hw hc hk hout hcell ht
  go_enter Tryd.func39, Tryd.ntmps39
  go_wp2_with (go_at_call 51; refine (K51.out _ (by exact HI.out)).mono ?_; intro e w' hwent; obtain ⟨n', rfl⟩ := went_ret hwent)
  go_ret
  exact hwent
end
end Go.Proofs.YtmbbkabecipkaacDoor.ActC
