/-
  WHAT mach.do GIVES, an instruction each (but for Call and a Gate that goes through).
  Conditions: the run lies there, with the words that were taken.
-/
import Derived.Test.YtmmcpjmgindpkacDoorRet
import Derived.Test.YtmmcpjmgindpkacDoorGate
import Derived.Test.YtmmcpjmgindpkacDoorActA
namespace Go.Proofs.YtmmcpjmgindpkacDoor.ActB
open Go.RowKit Tab Go.Proofs.YtmmcpjmgindpkacDoor.Check Lists Img Mach Own Go.Proofs.YtmmcpjmgindpkacDoor.Inv Go.Proofs.YtmmcpjmgindpkacDoor.Frame Take Go.Proofs.YtmmcpjmgindpkacDoor.Went Go.Proofs.YtmmcpjmgindpkacDoor.Look ActA

section
variable {own : Nat → Tag} {w1 w w' : World} {R D g cap : Nat} {pS lS vF vT vC : Value} {fuel : Int} {f : Fr} {v tv : Value} {F : List (Fr × Value)} {l data told : List Int} {C : List (Rec × Value)} {gL len capL : Nat} {P : Nat → PartD}

set_option maxRecDepth 100000 in
set_option maxHeartbeats 1000000 in
theorem get (h : Inv own w1 w R D pS lS (.slice (some ⟨g, 0, none⟩) (F.length + 1) cap) vT vC fuel ((f, v) :: F) [] data told C) (hc : Cut v tv 0) (hw : f.words.length ≤ 40) (a b c : Int) (j : Nat) (hj : j < 8) (ha : a = j) (rm : List Fr) :
    Calls Tryd.prog 39 #[.pointer (some ⟨R, 0, none⟩), .pointer (some ⟨g, F.length * 12, none⟩), .agg #[.int .i64 4, .int .i64 a, .int .i64 b, .int .i64 c], tv] w fun e w' => Went w1 R D pS lS fuel e w' (puts ⟨rm, data, told, C.map Prod.fst⟩ f (F.map Prod.fst) [f.locals.getD j 0]) := by
  have hI := h.alloc (.cells #[.int .i64 4, .int .i64 a, .int .i64 b, .int .i64 c] 27)
  obtain ⟨ta, tc, rfl, hcell⟩ := h.rooms.1.1.cut hc
  have k46 : ∀ W b, Inv own w1 W R D pS lS (.slice (some ⟨g, 0, none⟩) (F.length + 1) cap) vT vC fuel ((f, v) :: F) [] data told C → (∀ i u, (ints [f.locals.getD j 0])[i]? = some u → W.cell? ((⟨b, 0, none⟩ : Addr).add i) = some u) → _ := fun W b hI hb => Went.put hI b [f.locals.getD j 0] 1 rfl (by simp) (by simp) hw hb rm
  subst ha
  have cl := hI.top_cell (2 + j) (u := .int .i64 (f.locals.getD j 0)) (local_at h.rooms.1.2 hj)
  have hjI : (j : Int) < 8 := by omega
  obtain ⟨k, hk⟩ : ∃ k, k = f.words.length := ⟨_, rfl⟩
  obtain ⟨out, hout⟩ : ∃ o, o = puts ⟨rm, data, told, C.map Prod.fst⟩ f (F.map Prod.fst) [f.locals.getD j 0] := ⟨_, rfl⟩
  rw [← hout] at k46 ⊢
  obtain ⟨y, hy⟩ : ∃ y, y = f.locals.getD j 0 := ⟨_, rfl⟩
  rw [← hy] at k46 cl
  have HI : Hid _ := hI
  have K46 : Hid _ := k46
  have cl' : (w.alloc (.cells #[.int .i64 4, .int .i64 j, .int .i64 b, .int .i64 c] 27)).cell? ⟨g, F.length * 12 + 2 + j, none⟩ = some (.int .i64 y) := by rw [Nat.add_assoc]; exact cl
  clear h hI k46 hw hc hk hout hcell hj hy cl
  go_enter Tryd.func39, Tryd.ntmps39
  go_wp2
  go_region_with ((go_at_call 46; refine (K46.out _ _ (by exact Inv.same (HI.out.alloc _) rfl rfl rfl rfl) (by exact one_at (w := w.alloc _) (by simp) y)).mono ?_; intro e w' hwent; obtain ⟨n', rfl⟩ := went_ret hwent))
  all_goals
    go_wp2
    go_ret
    exact hwent

set_option maxRecDepth 100000 in
set_option maxHeartbeats 1000000 in
theorem put_ (x : Int) (h : Inv own w1 w R D pS lS (.slice (some ⟨g, 0, none⟩) (F.length + 1) cap) vT vC fuel ((f, v) :: F) [x] data told C) (hc : Cut v tv 1) (hw : f.words.length ≤ 40) (a b c : Int) (j : Nat) (hj : j < 8) (ha : a = j) (rm : List Fr) :
    Calls Tryd.prog 39 #[.pointer (some ⟨R, 0, none⟩), .pointer (some ⟨g, F.length * 12, none⟩), .agg #[.int .i64 5, .int .i64 a, .int .i64 b, .int .i64 c], tv] w fun e w' => Went w1 R D pS lS fuel e w' (puts ⟨rm, data, told, C.map Prod.fst⟩ { f with locals := f.locals.set j x } (F.map Prod.fst) []) := by
  have hI := h.alloc (.cells #[.int .i64 5, .int .i64 a, .int .i64 b, .int .i64 c] 27)
  obtain ⟨ta, tc, rfl, hcell⟩ := h.rooms.1.1.cut hc
  obtain ⟨gw0, rfl, cx0⟩ := hcell 0 x rfl
  have hgw : gw0 < w.heap.size := World.block_lt_of_cell? w _ cx0
  have u0 : ∀ o, (w.alloc o).cell? ⟨gw0, f.words.length, none⟩ = some (.int .i64 x) := fun o => (World.cell?_alloc_past o _ _ hgw).trans cx0
  subst ha
  have cl := hI.top_cell (2 + j) (u := .int .i64 (f.locals.getD j 0)) (local_at h.rooms.1.2 hj)
  have zl := hI.top_frozen (F.length * 12 + 2 + j)
  have hjI : (j : Int) < 8 := by omega
  have fin := put_none (hI.top_set (f' := { f with locals := f.locals.set j x }) (v' := v) (l' := [x]) (2 + j) (.int .i64 x) (local_set h.rooms.1.2 hj x) ⟨hI.rooms.1.1, by simpa using h.rooms.1.2⟩) hw rm
  obtain ⟨k, hk⟩ : ∃ k, k = f.words.length := ⟨_, rfl⟩
  rw [← hk] at u0
  obtain ⟨out, hout⟩ : ∃ o, o = puts ⟨rm, data, told, C.map Prod.fst⟩ { f with locals := f.locals.set j x } (F.map Prod.fst) [] := ⟨_, rfl⟩
  rw [← hout] at fin ⊢
  rw [← hk]
  obtain ⟨y, hy⟩ : ∃ y, y = f.locals.getD j 0 := ⟨_, rfl⟩
  rw [← hy] at cl
  rw [← Nat.add_assoc] at cl fin
  have FIN : Hid _ := fin
  clear h hI fin hw hc hk hout hcell hj hy
  go_enter Tryd.func39, Tryd.ntmps39
  go_wp2
  go_region
  all_goals
    go_wp2
    go_ret
    exact went_same FIN.out rfl rfl rfl rfl
end
end Go.Proofs.YtmmcpjmgindpkacDoor.ActB
