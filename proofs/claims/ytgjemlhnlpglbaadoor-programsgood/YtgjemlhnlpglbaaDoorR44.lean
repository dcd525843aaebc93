/-
  WHAT tree.countStmts AND tree.countOf GIVE, of statements that may be: how many there are, as an int holds it; each call returns, and lays new memory alone.
  Conditions: what the statements name lies there, and nothing of them is refused.
-/
import Derived.Test.YtgjemlhnlpglbaaDoorR31
import Derived.Deep.RegionWith
namespace Go.Proofs.YtgjemlhnlpglbaaDoor.Count
open Go.RowKit Go.Proofs.YtgjemlhnlpglbaaDoor.Ident Trees Forms

theorem stmtFault_zero {d : Nat} {T : STree} (h : stmtFault d T = 0) : headFault (T []) = 0 ∧ stmtsFault d (T []).bl (inBody T) = 0 ∧ stmtsFault d (T []).ll (inElse T) = 0 := by
  unfold stmtFault at h
  split at h
  · split at h
    · exact ⟨by assumption, by assumption, h⟩
    · contradiction
  · contradiction

theorem wrapEq (x : Int) : IntKind.i64.wrap x = wrap64 x := by rw [IntKind.wrap_i64]; unfold wrap64; omega
theorem wrap_add (a b c : Int) : wrap64 (wrap64 a + wrap64 (wrap64 b + wrap64 c)) = wrap64 (a + (b + c)) := by
  unfold wrap64; omega
theorem wrap_add2 (a b : Int) : wrap64 (wrap64 a + wrap64 b) = wrap64 (a + b) := by
  unfold wrap64; omega
theorem wrap_len {n : Nat} (h : (n : Int) ≤ 9223372036854775807) : wrap64 (n : Int) = n := by
  unfold wrap64; omega

set_option maxHeartbeats 4000000 in
theorem countStmts : ∀ (d : Nat) (w : World) (ao : Option Addr) (len cap : Nat) (L : Nat → STree), len ≤ maxLen → SRow w d ao len L → stmtsFault d len L = 0 →
    Calls Tryd.prog 56 #[.slice ao len cap] w fun e w' => e = .returned (.int .i64 (wrap64 (count d len L))) ∧ Below w.heap.size w w' := by
  intro d
  induction d with
  | zero =>
    intro w ao len cap L _ _ h0
    cases h0
  | succ d ih =>
    intro w ao len cap L hl hin h0
    rw [stmtsFault_succ] at h0
    have z := first_zero h0
    have kB : ∀ (k : Nat) (W : World), k < len → SLies W d (L k) → Calls Tryd.prog 56 #[.slice (L k []).ba (L k []).bl (L k []).bc] W fun e w' => e = .returned (.int .i64 (wrap64 (count d (L k []).bl (inBody (L k))))) ∧ Below W.heap.size W w' :=
      fun k W hk h => ih W _ _ _ _ h.1.2.2.1 h.2.2.1 (stmtFault_zero (z k hk)).2.1
    have kL : ∀ (k : Nat) (W : World), k < len → SLies W d (L k) → Calls Tryd.prog 56 #[.slice (L k []).la (L k []).ll (L k []).lc] W fun e w' => e = .returned (.int .i64 (wrap64 (count d (L k []).ll (inElse (L k))))) ∧ Below W.heap.size W w' :=
      fun k W hk h => ih W _ _ _ _ h.1.2.2.2 h.2.2.2 (stmtFault_zero (z k hk)).2.2
    have KB : Hid _ := kB
    have KL : Hid _ := kL
    obtain ⟨f, ef⟩ : ∃ f : Nat → Nat, f = fun i => count d (L i []).bl (inBody (L i)) + count d (L i []).ll (inElse (L i)) := ⟨_, rfl⟩
    have HF : Hid (∀ i, f i = count d (L i []).bl (inBody (L i)) + count d (L i []).ll (inElse (L i))) := fun i => by rw [ef]
    have EF : Hid (count (d + 1) len L = len + sum f len) := by rw [ef]; exact (rfl : count (d + 1) len L = _)
    have HI : Hid (SRow w (d + 1) ao len L) := hin
    unfold maxLen at hl
    have hlI : (len : Int) ≤ 9223372036854775807 := by omega
    clear kB kL ih ef hin hl z h0
    go_enter Tryd.func56, Tryd.ntmps56
    go_wp2
    go_loopw [3, 10] (fun v i wr => ∃ (k : Nat) (s : Int), k ≤ len ∧ i = .int .i64 k ∧ v = .int .i64 s ∧ s = wrap64 ((len + sum f k : Nat) : Int) ∧ Below w.heap.size w wr) (fun _ i _ => len - (intOf i).toNat)
    case atStart => exact ⟨0, len, Nat.zero_le _, rfl, rfl, (wrap_len hlI).symm, Below.refl _ _⟩
    case round =>
      obtain ⟨k, s, hk, rfl, rfl, es, hbel⟩ := hrel
      have ES : Hid (s = wrap64 ((len + sum f k : Nat) : Int)) := es
      clear es
      by_cases hkl : k < len
      · obtain ⟨⟨bl, off, ea, t0, t1, t2, t3, t4⟩, hS⟩ := SRow_below hbel HI.out k hkl
        have hS2 : SLies wr d (L k) := hS
        obtain ⟨wb, ewb⟩ : ∃ wb, wb = wr.alloc (.cells #[.int .i64 (L k []).kind, .string (L k []).s, .slice (L k []).ea (L k []).el (L k []).ec, .slice (L k []).ba (L k []).bl (L k []).bc, .slice (L k []).la (L k []).ll (L k []).lc] 34) := ⟨_, rfl⟩
        have hb0 : Below wr.heap.size wr wb := by rw [ewb]; exact below1 wr _
        have kB := fun W (h : Below wb.heap.size wb W) => KB.out k W hkl (SLies_below (hb0.trans (h.mono hb0.size)) hS2)
        have kL := fun W (h : Below wb.heap.size wb W) => KL.out k W hkl (SLies_below (hb0.trans (h.mono hb0.size)) hS2)
        have bx : ∀ W, Below wb.heap.size wb W → W.cell? ⟨wr.heap.size, 0, none⟩ = some (.int .i64 (L k []).kind) ∧ W.cell? ⟨wr.heap.size, 1, none⟩ = some (.string (L k []).s) ∧ W.cell? ⟨wr.heap.size, 2, none⟩ = some (.slice (L k []).ea (L k []).el (L k []).ec) ∧ W.cell? ⟨wr.heap.size, 3, none⟩ = some (.slice (L k []).ba (L k []).bl (L k []).bc) ∧ W.cell? ⟨wr.heap.size, 4, none⟩ = some (.slice (L k []).la (L k []).ll (L k []).lc) := by
          rw [ewb]
          exact fun W hb => box5 hb
        have up : ∀ W, Below wb.heap.size wb W → Below w.heap.size w W := fun W hb => hbel.trans ((hb0.trans (hb.mono hb0.size)).mono hbel.size)
        obtain ⟨x1, e1⟩ : ∃ x : Int, x = wrap64 (count d (L k []).bl (inBody (L k)) : Nat) := ⟨_, rfl⟩
        obtain ⟨x2, e2⟩ : ∃ x : Int, x = wrap64 (count d (L k []).ll (inElse (L k)) : Nat) := ⟨_, rfl⟩
        rw [← e1] at kB
        rw [← e2] at kL
        have NEXT : Hid (wrap64 (s + wrap64 (x1 + x2)) = wrap64 ((len + sum f (k + 1) : Nat) : Int)) := by
          have e : ((len + sum f k : Nat) : Int) + ((count d (L k []).bl (inBody (L k)) : Int) + (count d (L k []).ll (inElse (L k)) : Int)) = ((len + sum f (k + 1) : Nat) : Int) := by
            rw [show sum f (k + 1) = sum f k + f k from rfl, HF.out k]
            omega
          rw [ES.out, e1, e2, wrap_add, e]
          exact (rfl : _ = _)
        have EWB : Hid (wr.alloc (.cells #[.int .i64 (L k []).kind, .string (L k []).s, .slice (L k []).ea (L k []).el (L k []).ec, .slice (L k []).ba (L k []).bl (L k []).bc, .slice (L k []).la (L k []).ll (L k []).lc] 34) = wb) := ewb.symm
        clear ewb hS hS2 e1 e2 hb0 KB KL HI HF hbel
        generalize L k [] = y at t0 t1 t2 t3 t4 kB kL bx EWB
        have KB : Hid _ := kB
        have KL : Hid _ := kL
        have BX : Hid _ := bx
        have UP : Hid _ := up
        obtain ⟨yk, ys, yea, yel, yec, yex, yba, ybl, ybc, yla, yll, ylc⟩ := y
        subst ea
        dsimp only at t0 t1 t2 t3 t4 KB KL BX EWB
        clear kB kL bx up
        obtain ⟨q0, q1, q2, q3, q4⟩ := BX.out wb (Below.refl _ _)
        go_wp2_with fail
        rw [EWB.out]
        go_region_with (first
          | (go_at_call_of 56 (Value.slice yba ybl ybc); refine (KB.out _ (by exact ⟨rfl, rfl, rfl, Nat.le_refl _, fun _ _ => rfl⟩)).mono ?_; rintro e w1 ⟨rfl, hb1⟩; have hb2 : Below wb.heap.size wb w1 := ⟨hb1.os, hb1.tape, hb1.output, hb1.size, hb1.block⟩; clear hb1 q0 q1 q2 q3 q4; obtain ⟨q0, q1, q2, q3, q4⟩ := BX.out _ hb2)
          | (go_at_call_of 56 (Value.slice yla yll ylc); refine (KL.out _ (by exact ⟨hb2.os, hb2.tape, hb2.output, hb2.size, hb2.block⟩)).mono ?_; rintro e w2 ⟨rfl, hb3⟩; have hb4 : Below wb.heap.size wb w2 := hb2.trans ((⟨hb3.os, hb3.tape, hb3.output, hb3.size, hb3.block⟩ : Below w1.heap.size w1 w2).mono hb2.size)))
        all_goals
          go_wp2
          go_roundw
          case rel => exact ⟨k + 1, _, by omega, by go_num, rfl, by first | exact NEXT.out | (rw [← NEXT.out]; simp only [wrapEq]), UP.out _ ⟨hb4.os, hb4.tape, hb4.output, hb4.size, hb4.block⟩⟩
          case measure => simp [intOf]; omega
      · obtain rfl : k = len := by omega
        clear KB KL HI HF
        go_wp2
        go_ret
        exact ⟨by rw [EF.out, ← ES.out]; rfl, hbel⟩
end Go.Proofs.YtgjemlhnlpglbaaDoor.Count
