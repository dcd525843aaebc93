/-
  WHAT mem.lookAs, THE CLOSURE THAT IT ANSWERS, AND mem.Load GIVE, for every image, every list of numbers, every part and place: each call returns, and lays new memory alone.
  Conditions: the table 'code.bounds' lies there, the image's parts and the numbers.
-/
import Derived.Test.YthjfnpbdmknokacDoorData
import Derived.BigRegion
namespace Go.Proofs.YthjfnpbdmknokacDoor.Look
open Go.RowKit Tab Go.Proofs.YthjfnpbdmknokacDoor.Check Lists Go.Proofs.YthjfnpbdmknokacDoor.Read Img

theorem look_ok (k dlen dcap b0 b1 b2 bl off : Nat) (lo hi x : Int) (w : World) (h0 : w.cell? ⟨b0, 0, none⟩ = some (.int .i64 lo)) (h1 : w.cell? ⟨b1, 0, none⟩ = some (.int .i64 hi))
    (h2 : w.cell? ⟨b2, 0, none⟩ = some (.slice (some ⟨bl, off, none⟩) dlen dcap)) (h3 : w.cell? ⟨bl, off + k, none⟩ = some (.int .i64 x)) (c0 : lo ≤ k) (c1 : (k : Int) < hi) (c2 : (k : Int) < dlen) :
    Calls Tryd.prog 13 #[.int .i64 k, .pointer (some ⟨b0, 0, none⟩), .pointer (some ⟨b1, 0, none⟩), .pointer (some ⟨b2, 0, none⟩)] w fun e w' => e = .returned (.tuple #[.int .i64 x, .int .i64 0]) ∧ w' = w := by
  go_enter Tryd.func13, Tryd.ntmps13
  go_wp2
  go_ret2
  exact ⟨rfl, rfl⟩

theorem look_edge (t lo hi : Int) (b0 b1 : Nat) (v : Value) (w : World) (h0 : w.cell? ⟨b0, 0, none⟩ = some (.int .i64 lo)) (h1 : w.cell? ⟨b1, 0, none⟩ = some (.int .i64 hi)) (c : ¬ (lo ≤ t ∧ t < hi)) :
    Calls Tryd.prog 13 #[.int .i64 t, .pointer (some ⟨b0, 0, none⟩), .pointer (some ⟨b1, 0, none⟩), v] w fun e w' => e = .returned (.tuple #[.int .i64 0, .int .i64 9]) ∧ w' = w := by
  rcases (show t < lo ∨ (lo ≤ t ∧ hi ≤ t) by omega) with c0 | ⟨c0, c1⟩
  all_goals
    clear c
    go_enter Tryd.func13, Tryd.ntmps13
    go_wp2
    go_ret2
    exact ⟨rfl, rfl⟩

theorem lookAs_bad (ao : Option Addr) (len cap : Nat) (hlen : len ≤ maxLen) (P : Nat → PartD) (da : Option Addr) (dlen dcap : Nat) (z : Nat → Int) (p : Int) (w : World) (hl : Lies w) (hin : Parts w ao len P) (hd : Ints w da dlen z) (r : Int) (er : dataFault P len z dlen = r) (hr : r ≠ 0) :
    Calls Tryd.prog 10 #[.agg #[.slice ao len cap], .slice da dlen dcap, .int .i64 p] w fun e w' => e = .returned (.tuple #[.nilFunc, .int .i64 r]) ∧ Below w.heap.size w w' := by
  have k16 : ∀ w, Lies w → Parts w ao len P → Ints w da dlen z → _ := fun w h h' h'' => Data.checkData ao len cap hlen P da dlen dcap z w h h' h''
  rw [er] at k16
  have hb0 := below2 w (.cells #[.slice ao len cap] 24) (.cells #[.slice da dlen dcap] 29)
  have hl1 := Lies_below hl hb0
  have hin1 := Parts_below hin hb0
  have hd1 := Ints_below hd hb0
  have hr2 : (r == 0) = false := by simpa using hr
  clear er hl hin hd hlen
  go_enter Tryd.func10, Tryd.ntmps10
  go_wp2_with (go_at_call 12; refine (k16 _ hl1 hin1 hd1).mono ?_; rintro e w1 ⟨rfl, hb1⟩; have hb2 := hb0.trans (hb1.mono hb0.size); clear hb1)
  go_ret2
  exact ⟨rfl, hb2⟩

/-- two new cells, read in a later world -/
theorem box2 {w w' : World} {v0 v1 : Value} {t0 t1 : TypeId} (hb : Below ((w.alloc (.cells #[v0] t0)).alloc (.cells #[v1] t1)).heap.size ((w.alloc (.cells #[v0] t0)).alloc (.cells #[v1] t1)) w') :
    w'.cell? ⟨w.heap.size, 0, none⟩ = some v0 ∧ w'.cell? ⟨w.heap.size + 1, 0, none⟩ = some v1 := by
  refine ⟨(hb.cell (show (⟨w.heap.size, 0, none⟩ : Addr).block < _ by simp; omega)).trans ?_, (hb.cell (show (⟨w.heap.size + 1, 0, none⟩ : Addr).block < _ by simp)).trans ?_⟩
  · rw [World.cell?_alloc_old _ _ _ (by simp)]; simp
  · simp

theorem lookAs_none (ao : Option Addr) (len cap : Nat) (hlen : len ≤ maxLen) (P : Nat → PartD) (da : Option Addr) (dlen dcap : Nat) (z : Nat → Int) (p : Int) (w : World) (hl : Lies w) (hin : Parts w ao len P) (hd : Ints w da dlen z) (er : dataFault P len z dlen = 0) (hp : ¬ (0 ≤ p ∧ p < len)) :
    Calls Tryd.prog 10 #[.agg #[.slice ao len cap], .slice da dlen dcap, .int .i64 p] w fun e w' => e = .returned (.tuple #[.nilFunc, .int .i64 5]) ∧ Below w.heap.size w w' := by
  have k16 : ∀ w, Lies w → Parts w ao len P → Ints w da dlen z → _ := fun w h h' h'' => Data.checkData ao len cap hlen P da dlen dcap z w h h' h''
  rw [er] at k16
  have hb0 := below2 w (.cells #[.slice ao len cap] 24) (.cells #[.slice da dlen dcap] 29)
  have hl1 := Lies_below hl hb0
  have hin1 := Parts_below hin hb0
  have hd1 := Ints_below hd hb0
  clear er hl hin hd hlen
  rcases (show p < 0 ∨ (0 ≤ p ∧ (len : Int) ≤ p) by omega) with c0 | ⟨c0, c1⟩
  all_goals
    clear hp
    go_enter Tryd.func10, Tryd.ntmps10
    go_wp2_with (go_at_call 12; refine (k16 _ hl1 hin1 hd1).mono ?_; rintro e w1 ⟨rfl, hb1⟩; obtain ⟨q0, q1⟩ := box2 hb1; have hb2 := hb0.trans (hb1.mono hb0.size); clear hb1)
    go_ret2
    exact ⟨rfl, hb2⟩

theorem lookAs_ok (ao : Option Addr) (len cap : Nat) (hlen : len ≤ maxLen) (P : Nat → PartD) (da : Option Addr) (dlen dcap : Nat) (z : Nat → Int) (p : Nat) (w : World) (hl : Lies w) (hin : Parts w ao len P) (hd : Ints w da dlen z) (er : dataFault P len z dlen = 0) (hp : p < len) :
    Calls Tryd.prog 10 #[.agg #[.slice ao len cap], .slice da dlen dcap, .int .i64 p] w fun e w' => Below w.heap.size w w' ∧ ∃ b0 b1 b2, e = .returned (.tuple #[.func (.func 13) #[] #[.pointer (some ⟨b0, 0, none⟩), .pointer (some ⟨b1, 0, none⟩), .pointer (some ⟨b2, 0, none⟩)], .int .i64 0]) ∧
      w'.cell? ⟨b0, 0, none⟩ = some (.int .i64 (P p).lo) ∧ w'.cell? ⟨b1, 0, none⟩ = some (.int .i64 (P p).hi) ∧ w'.cell? ⟨b2, 0, none⟩ = some (.slice da dlen dcap) := by
  have k16 : ∀ w, Lies w → Parts w ao len P → Ints w da dlen z → _ := fun w h h' h'' => Data.checkData ao len cap hlen P da dlen dcap z w h h' h''
  have h5 : (len : Int) ≤ 5 := by have := (imageFault_zero (dataFault_zero er).1).1; omega
  rw [er] at k16
  have hmf : ∀ (fn : Fn) (first cap : Array Value) (w : World), (Instr.makeFunc fn first cap).run Tryd.prog w = .ok (.func fn first cap) w := fun _ _ _ _ => rfl
  have hb0 := below2 w (.cells #[.slice ao len cap] 24) (.cells #[.slice da dlen dcap] 29)
  have hl1 := Lies_below hl hb0
  have hin1 := Parts_below hin hb0
  have hd1 := Ints_below hd hb0
  have hpI : (p : Int) < len := by omega
  have keep : ∀ w', Below w.heap.size w w' → Parts w' ao len P := fun w' hb => Parts_below hin hb
  obtain ⟨lo, elo⟩ : ∃ x, x = (P p).lo := ⟨_, rfl⟩
  obtain ⟨hi, ehi⟩ : ∃ x, x = (P p).hi := ⟨_, rfl⟩
  rw [← elo, ← ehi]
  have place : ∀ w', Below w.heap.size w w' → ∃ bl off, ao = some ⟨bl, off, none⟩ ∧ bl < w'.heap.size ∧ w'.cell? ⟨bl, off + p * 4 + 2, none⟩ = some (.int .i64 lo) ∧ w'.cell? ⟨bl, off + p * 4 + 3, none⟩ = some (.int .i64 hi) := by
    intro w' hb
    obtain ⟨bl, off, e, hbl, _, _, t2, t3⟩ := Parts_at (keep w' hb) hp
    rw [← elo] at t2
    rw [← ehi] at t3
    exact ⟨bl, off, e, hbl, t2, t3⟩
  clear er hl hin hd hlen keep elo ehi
  go_enter Tryd.func10, Tryd.ntmps10
  go_wp2_with (go_at_call 12; refine (k16 _ hl1 hin1 hd1).mono ?_; rintro e w1 ⟨rfl, hb1⟩; obtain ⟨q0, q1⟩ := box2 hb1; have hb2 := hb0.trans (hb1.mono hb0.size); obtain ⟨bl, off, rfl, hbl, t2, t3⟩ := place _ hb2; clear hb1)
  have hbw : w.heap.size < w1.heap.size := by have := World.block_lt_of_cell? w1 _ q0; simpa using this
  have u0 : ∀ o, (w1.alloc o).cell? ⟨w.heap.size, 0, none⟩ = some (.slice (some ⟨bl, off, none⟩) len cap) := fun o => (World.cell?_alloc_past o _ _ hbw).trans q0
  have u1 : ∀ o o', ((w1.alloc o).alloc o').cell? ⟨w.heap.size, 0, none⟩ = some (.slice (some ⟨bl, off, none⟩) len cap) := fun o o' => (World.cell?_alloc_past o' _ _ (by simp; omega)).trans (u0 o)
  have u2 : ∀ o, (w1.alloc o).cell? ⟨bl, off + p * 4 + 2, none⟩ = some (.int .i64 lo) := fun o => (World.cell?_alloc_past o _ _ hbl).trans t2
  have u3 : ∀ o o', ((w1.alloc o).alloc o').cell? ⟨bl, off + p * 4 + 2, none⟩ = some (.int .i64 lo) := fun o o' => (World.cell?_alloc_past o' _ _ (by simp; omega)).trans (u2 o)
  have u4 : ∀ o, (w1.alloc o).cell? ⟨bl, off + p * 4 + 3, none⟩ = some (.int .i64 hi) := fun o => (World.cell?_alloc_past o _ _ hbl).trans t3
  have u5 : ∀ o o', ((w1.alloc o).alloc o').cell? ⟨bl, off + p * 4 + 3, none⟩ = some (.int .i64 hi) := fun o o' => (World.cell?_alloc_past o' _ _ (by simp; omega)).trans (u4 o)
  have hbw1 : w.heap.size + 1 < w1.heap.size := by have := World.block_lt_of_cell? w1 _ q1; simpa using this
  have u6 : ∀ o o', ((w1.alloc o).alloc o').drew.cell? ⟨w.heap.size + 1, 0, none⟩ = some (.slice da dlen dcap) := fun o o' => (World.cell?_alloc_past o' _ _ (by simp; omega)).trans ((World.cell?_alloc_past o _ _ hbw1).trans q1)
  have u7 : ∀ v v', ((w1.alloc (.cells #[v] 3)).alloc (.cells #[v'] 3)).drew.cell? ⟨w1.heap.size, 0, none⟩ = some v := fun v v' => (World.cell?_alloc_past _ _ _ (by simp)).trans (by simp)
  have u8 : ∀ v v', ((w1.alloc (.cells #[v] 3)).alloc (.cells #[v'] 3)).drew.cell? ⟨w1.heap.size + 1, 0, none⟩ = some v' := fun v v' => (World.cell?_alloc_at _ _ _ _ (by simp)).trans (by simp)
  have hb3 : ∀ o o', Below w.heap.size w ((w1.alloc o).alloc o').drew := fun o o' => ((hb2.alloc hb2.size o).alloc (by have := hb2.size; simp; omega) o').drew
  have U6 : Hid _ := u6
  have U7 : Hid _ := u7
  have U8 : Hid _ := u8
  clear u6 u7 u8
  go_region
  all_goals
    go_wp2
    go_ret2
  · exact ⟨hb3 _ _, _, _, _, rfl, U7.out _ _, U8.out _ _, U6.out _ _⟩
  · exact ⟨hb3 _ _, _, _, _, rfl, U8.out _ _, U7.out _ _, U6.out _ _⟩
end Go.Proofs.YthjfnpbdmknokacDoor.Look
