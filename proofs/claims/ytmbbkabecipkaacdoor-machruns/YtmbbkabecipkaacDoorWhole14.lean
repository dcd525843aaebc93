/-
  WHAT mem.Check, mem.Words AND THE DOCUMENT'S WordsOf GIVE, for every image: each call returns, and lays new memory alone.
  Conditions: the table 'code.bounds' lies there (for mem.Check), and the image's parts.
-/
import Derived.Test.YtmbbkabecipkaacDoorWhole13
namespace Go.Proofs.YtmbbkabecipkaacDoor.Image
open Go.RowKit Tab Go.Proofs.YtmbbkabecipkaacDoor.Check Lists Go.Proofs.YtmbbkabecipkaacDoor.Read Img

theorem check (ao : Option Addr) (len cap : Nat) (P : Nat → PartD) (w : World) (hl : Lies w) (hin : Parts w ao len P) :
    Calls Tryd.prog 44 #[.agg #[.slice ao len cap]] w fun e w' => e = .returned (.int .i64 (imageFault P len)) ∧ Below w.heap.size w w' := by
  by_cases hs : len ≤ 5
  · have IF : Hid (imageFault P len = first (fun k => partFault (P k) (begins P k)) len) := if_pos hs
    have h2 : (len : Int) ≤ 5 := by omega
    obtain ⟨f, ef⟩ : ∃ f : Nat → Int, f = fun k => partFault (P k) (begins P k) := ⟨_, rfl⟩
    rw [← ef] at IF
    have hf : ∀ k, Hid (f k = partFault (P k) (begins P k)) := fun k => by rw [ef]; exact (rfl : partFault (P k) (begins P k) = _)
    clear ef
    go_enter Tryd.func44, Tryd.ntmps44
    go_wp2
    go_loopw [3, 14] (fun v i wr => ∃ (k : Nat) (s : Int), k ≤ len ∧ s = begins P k ∧ v = .int .i64 s ∧ i = .int .i64 k ∧ first f k = 0 ∧ Below w.heap.size w wr) (fun _ i _ => len - (intOf i).toNat)
    case atStart => exact ⟨0, 0, Nat.zero_le _, rfl, rfl, rfl, rfl, below1 _ _⟩
    case round =>
      obtain ⟨k, s, hk, es, rfl, rfl, hz, hbel⟩ := hrel
      have HZ : Hid (first f k = 0) := hz
      by_cases hkl : k < len
      · have hin2 := Parts_below hin hbel
        have hl2 := Lies_below hl hbel
        obtain ⟨bl, off, rfl, hbl, t0, t1, t2, t3⟩ := Parts_at hin2 hkl
        have hpl := (hin2 k hkl).2
        have HS : Hid (begins P (k + 1) = (P k).hi) := (rfl : begins P (k + 1) = _)
        have k25 : ∀ w', Lies w' → PartLies w' (P k) → _ := fun w' h h' => Part.checkPart (P k) (begins P k) w' h h'
        obtain ⟨r, er⟩ : ∃ r, r = partFault (P k) (begins P k) := ⟨_, rfl⟩
        obtain ⟨p, ep⟩ : ∃ p, p = P k := ⟨_, rfl⟩
        have ER : Hid (r = f k) := er.trans (hf k).out.symm
        rw [← er, ← es, ← ep] at k25
        rw [← ep] at t0 t1 t2 t3 hpl HS
        clear er ep es hin hin2 hl hf hz
        obtain ⟨ca, cl, cc, o, a, b, c, ea, el, ec, ats, prs, lo, hi⟩ := p
        dsimp only at k25 t0 t1 t2 t3 HS
        have hb0 := below1 wr (.cells #[.slice ca cl cc, .slice ea el ec, .int .i64 lo, .int .i64 hi] 55)
        have hl3 := Lies_below hl2 hb0
        have hpl3 := PartLies_below hpl hb0
        have hbel2 := hbel.trans (hb0.mono hbel.size)
        have hsz := hbel2.size
        clear hl2 hpl hbel hb0
        by_cases hr : r = 0
        · subst hr
          go_wp2_with (go_at_call 53; refine (k25 _ hl3 hpl3).mono ?_; rintro e w3 ⟨rfl, hb1⟩; obtain ⟨q0, q1, q2, q3⟩ := box4 hb1; have hbel3 := hbel2.trans (hb1.mono hsz); clear hb1 hbel2 hl3)
          go_roundw
          case rel => exact ⟨k + 1, hi, by omega, HS.out.symm, rfl, by go_num, by rw [first_succ HZ.out]; exact ER.out.symm, hbel3⟩
          case measure => simp [intOf]; omega
        · have hr2 : (r == 0) = false := by simpa using hr
          go_wp2_with (go_at_call 53; refine (k25 _ hl3 hpl3).mono ?_; rintro e w3 ⟨rfl, hb1⟩; have hbel3 := hbel2.trans (hb1.mono hsz); clear hb1 hbel2 hl3)
          have e1 := first_stops hkl HZ.out (by rw [← ER.out]; exact hr)
          go_ret
          exact ⟨by rw [IF.out, e1, ← ER.out]; rfl, hbel3⟩
      · obtain rfl : k = len := by omega
        clear hl hin hz hf es
        go_wp2
        go_ret
        exact ⟨by rw [IF.out, HZ.out]; rfl, hbel⟩
  · have IF : Hid (imageFault P len = 1) := if_neg hs
    have h2 : (5 : Int) < len := by omega
    clear hl hin
    go_enter Tryd.func44, Tryd.ntmps44
    go_wp2
    go_ret
    exact ⟨by rw [IF.out]; rfl, below1 _ _⟩

theorem words (ao : Option Addr) (len cap : Nat) (hlen : len ≤ maxLen) (P : Nat → PartD) (w : World) (hin : Parts w ao len P) :
    Calls Tryd.prog 13 #[.agg #[.slice ao len cap]] w fun e w' => e = .returned (.int .i64 (begins P len)) ∧ Below w.heap.size w w' := by
  unfold maxLen at hlen
  have h2 : (len : Int) ≤ 9223372036854775807 := by omega
  rcases Nat.eq_zero_or_pos len with rfl | hpos
  · go_enter Tryd.func13, Tryd.ntmps13
    go_wp2
    go_ret
    exact ⟨rfl, below1 _ _⟩
  · have hb0 := below1 w (.cells #[.slice ao len cap] 24)
    obtain ⟨bl, off, rfl, hbl, t0, t1, t2, t3⟩ := Parts_at (Parts_below hin hb0) (show len - 1 < len by omega)
    obtain ⟨x, ex⟩ : ∃ x, x = (P (len - 1)).hi := ⟨_, rfl⟩
    rw [← ex] at t3
    have EX : Hid (begins P len = x) := by
      rw [ex, show begins P len = begins P (len - 1 + 1) from congrArg _ (by omega)]
      exact (rfl : (P (len - 1)).hi = _)
    have h3 : (0 : Int) < len := by omega
    clear ex hin t0 t1 t2
    go_enter Tryd.func13, Tryd.ntmps13
    go_wp2
    go_ret
    exact ⟨by rw [EX.out]; rfl, hb0⟩

theorem wordsOf (ao : Option Addr) (len cap : Nat) (hlen : len ≤ maxLen) (P : Nat → PartD) (w : World) (hin : Parts w ao len P) :
    Calls Tryd.prog 41 #[.agg #[.slice ao len cap]] w fun e w' => e = .returned (.int .i64 (begins P len)) ∧ Below w.heap.size w w' := by
  unfold maxLen at hlen
  have h2 : (len : Int) ≤ 9223372036854775807 := by omega
  have hb0 := below1 w (.cells #[.slice ao len cap] 24)
  have hin2 := Parts_below hin hb0
  go_enter Tryd.func41, Tryd.ntmps41
  go_wp2
  go_loop [3, 4] (fun v i => ∃ (k : Nat) (s : Int), k ≤ len ∧ s = begins P k ∧ v = .int .i64 s ∧ i = .int .i64 k) (fun _ i => len - (intOf i).toNat)
  case atStart => exact ⟨0, 0, Nat.zero_le _, rfl, rfl, rfl⟩
  case round =>
    obtain ⟨k, s, hk, es, rfl, rfl⟩ := hrel
    by_cases hkl : k < len
    · obtain ⟨bl, off, rfl, hbl, t0, t1, t2, t3⟩ := Parts_at hin2 hkl
      obtain ⟨x, ex⟩ : ∃ x, x = (P k).hi := ⟨_, rfl⟩
      rw [← ex] at t3
      have EX : Hid (x = begins P (k + 1)) := ex
      clear ex hin hin2 t0 t1 t2 es
      go_wp2
      go_round
      case rel => exact ⟨k + 1, x, by omega, EX.out, rfl, by go_num⟩
      case measure => simp [intOf]; omega
    · obtain rfl : k = len := by omega
      have ES : Hid (s = begins P k) := es
      clear hin hin2 es
      go_wp2
      go_ret
      exact ⟨by rw [← ES.out]; rfl, hb0⟩
end Go.Proofs.YtmbbkabecipkaacDoor.Image
