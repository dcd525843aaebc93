/-
  WHAT mach.do GIVES, an instruction each (but for Call and a Gate that goes through).
  Conditions: the run lies there, with the words that were taken.
-/
import Derived.Test.YtmbbkabecipkaacDoorWhole6
import Derived.Test.YtmbbkabecipkaacDoorWhole7
import Derived.Test.YtmbbkabecipkaacDoorWhole8
namespace Go.Proofs.YtmbbkabecipkaacDoor.ActD
open Go.RowKit Tab Go.Proofs.YtmbbkabecipkaacDoor.Check Lists Img Mach Own Go.Proofs.YtmbbkabecipkaacDoor.Inv Go.Proofs.YtmbbkabecipkaacDoor.Frame Take Go.Proofs.YtmbbkabecipkaacDoor.Went Go.Proofs.YtmbbkabecipkaacDoor.Look ActA

section
variable {own : Nat → Tag} {w1 w w' : World} {R D g cap : Nat} {pS lS vF vT vC : Value} {fuel : Int} {f : Fr} {v tv : Value} {F : List (Fr × Value)} {l data told : List Int} {C : List (Rec × Value)} {gL len capL : Nat} {P : Nat → PartD}

set_option maxRecDepth 100000 in
set_option maxHeartbeats 1000000 in
theorem do_ (x : Int) (y : Int) (h : Inv own w1 w R D pS lS (.slice (some ⟨g, 0, none⟩) (F.length + 1) cap) vT vC fuel ((f, v) :: F) [x, y] data told C) (hc : Cut v tv 2) (hw : f.words.length ≤ 40) (a b c : Int) (n : Int) (hd : ∀ w, Calls Tryd.prog 18 #[.int .i64 a, .int .i64 x, .int .i64 y] w fun e w' => ∃ r, e = .returned (.tuple #[.int .i64 n, .int .i64 r]) ∧ w' = w) (rm : List Fr) :
    Calls Tryd.prog 39 #[.pointer (some ⟨R, 0, none⟩), .pointer (some ⟨g, F.length * 12, none⟩), .agg #[.int .i64 8, .int .i64 a, .int .i64 b, .int .i64 c], tv] w fun e w' => Went w1 R D pS lS fuel e w' (puts ⟨rm, data, told, C.map Prod.fst⟩ f (F.map Prod.fst) [n]) := by
  have hI := h.alloc (.cells #[.int .i64 8, .int .i64 a, .int .i64 b, .int .i64 c] 27)
  obtain ⟨ta, tc, rfl, hcell⟩ := h.rooms.1.1.cut hc
  obtain ⟨gw0, rfl, cx0⟩ := hcell 0 x rfl
  obtain ⟨gw1, e1, cx1⟩ := hcell 1 y rfl
  simp only [Option.some.injEq, Addr.mk.injEq, and_true] at e1
  obtain rfl := e1
  have hgw : gw0 < w.heap.size := World.block_lt_of_cell? w _ cx0
  have u0 : ∀ o, (w.alloc o).cell? ⟨gw0, f.words.length, none⟩ = some (.int .i64 x) := fun o => (World.cell?_alloc_past o _ _ hgw).trans cx0
  have u1 : ∀ o, (w.alloc o).cell? ⟨gw0, f.words.length + 1, none⟩ = some (.int .i64 y) := fun o => (World.cell?_alloc_past o _ _ hgw).trans cx1
  have k46 : ∀ W b, Inv own w1 W R D pS lS (.slice (some ⟨g, 0, none⟩) (F.length + 1) cap) vT vC fuel ((f, v) :: F) [x, y] data told C → (∀ i u, (ints [n])[i]? = some u → W.cell? ((⟨b, 0, none⟩ : Addr).add i) = some u) → _ := fun W b hI hb => Went.put hI b [n] 1 rfl (by simp) (by simp) hw hb rm
  obtain ⟨k, hk⟩ : ∃ k, k = f.words.length := ⟨_, rfl⟩
  rw [← hk] at u0 u1
  obtain ⟨out, hout⟩ : ∃ o, o = puts ⟨rm, data, told, C.map Prod.fst⟩ f (F.map Prod.fst) [n] := ⟨_, rfl⟩
  rw [← hout] at k46 ⊢
  rw [← hk]
  have HI : Hid _ := hI
  have K46 : Hid _ := k46
  have HD : Hid _ := hd
  clear h hI k46 hw hc hk hout hcell hd
  go_enter Tryd.func39, Tryd.ntmps39
  go_wp2
  go_region_with ((go_at_call 18; refine (HD.out _).mono ?_; rintro e w' ⟨r, rfl, rfl⟩))
  all_goals
    go_wp2_with (go_at_call 46; refine (K46.out _ _ (by exact Inv.same (HI.out.alloc _) rfl rfl rfl rfl) (by exact one_at (w := w.alloc _) (by simp) n)).mono ?_; intro e w' hwent; obtain ⟨n', rfl⟩ := went_ret hwent)
    go_ret
    exact hwent
end
end Go.Proofs.YtmbbkabecipkaacDoor.ActD
