/-
  WHAT mem.checkCode, mem.checkEntries AND mem.checkPart GIVE, for every part: each call returns, and lays new memory alone.
  Conditions: the table 'code.bounds' lies there, and what the part names.
-/
import Derived.Test.YtmmcpjmgindpkacDoorImg
namespace Go.Proofs.YtmmcpjmgindpkacDoor.Part
open Go.RowKit Tab Go.Proofs.YtmmcpjmgindpkacDoor.Check Lists Go.Proofs.YtmmcpjmgindpkacDoor.Read Img

theorem checkCode (ao : Option Addr) (len cap : Nat) (hlen : len ≤ 1200) (o a b c : Nat → Int) (w : World) (hl : Lies w) (hin : Instrs w ao len o a b c) :
    Calls Tryd.prog 55 #[.slice ao len cap] w fun e w' => e = .returned (.int .i64 (first (fun k => fault (o k) (a k) (b k) (c k)) len)) ∧ Below w.heap.size w w' := by
  have h2 : (len : Int) ≤ 1200 := by omega
  go_enter Tryd.func55, Tryd.ntmps55
  go_wp2
  go_loopw [8] (fun i wr => ∃ k : Nat, k ≤ len ∧ i = .int .i64 k ∧ first (fun k => fault (o k) (a k) (b k) (c k)) k = 0 ∧ Below w.heap.size w wr) (fun i _ => len - (intOf i).toNat)
  case atStart => exact ⟨0, Nat.zero_le _, rfl, rfl, Below.refl _ _⟩
  case round =>
    obtain ⟨k, hk, rfl, hf, hbel⟩ := hrel
    have hl2 : Lies wr := Lies_below hl hbel
    by_cases hkl : k < len
    · obtain ⟨bl, off, rfl, t0, t1, t2, t3⟩ := hin k hkl
      have hbl := World.block_lt_of_cell? w _ t0
      have s0 := (hbel.cell (p := ⟨bl, off + k * 4, none⟩) hbl).trans t0
      have s1 := (hbel.cell (p := ⟨bl, off + k * 4 + 1, none⟩) hbl).trans t1
      have s2 := (hbel.cell (p := ⟨bl, off + k * 4 + 2, none⟩) hbl).trans t2
      have s3 := (hbel.cell (p := ⟨bl, off + k * 4 + 3, none⟩) hbl).trans t3
      have k6 : ∀ w', Lies w' → _ := fun w' h => check (o k) (a k) (b k) (c k) w' h
      obtain ⟨x0, e0⟩ : ∃ x, x = o k := ⟨_, rfl⟩
      obtain ⟨x1, e1⟩ : ∃ x, x = a k := ⟨_, rfl⟩
      obtain ⟨x2, e2⟩ : ∃ x, x = b k := ⟨_, rfl⟩
      obtain ⟨x3, e3⟩ : ∃ x, x = c k := ⟨_, rfl⟩
      obtain ⟨r, er⟩ : ∃ r, r = fault (o k) (a k) (b k) (c k) := ⟨_, rfl⟩
      rw [← er, ← e0, ← e1, ← e2, ← e3] at k6
      rw [← e0] at s0
      rw [← e1] at s1
      rw [← e2] at s2
      rw [← e3] at s3
      have HF : Hid (first (fun k => fault (o k) (a k) (b k) (c k)) k = 0) := hf
      have ER : Hid (r = fault (o k) (a k) (b k) (c k)) := er
      have hl3 := Lies_below hl2 (below1 wr (.cells #[.int .i64 x0, .int .i64 x1, .int .i64 x2, .int .i64 x3] 27))
      have hbel2 := hbel.alloc hbel.size (.cells #[.int .i64 x0, .int .i64 x1, .int .i64 x2, .int .i64 x3] 27)
      have hsz := hbel2.size
      clear t0 t1 t2 t3 e0 e1 e2 e3 er hin hl hl2 hf hbel
      by_cases hr : r = 0
      · subst hr
        go_wp2_with (go_at_call 57; refine (k6 _ hl3).mono ?_; rintro e w3 ⟨rfl, hb1⟩; have hbel3 := hbel2.trans (hb1.mono hsz); clear hb1 hbel2 hl3)
        go_roundw
        case rel => exact ⟨k + 1, by omega, by go_num, by rw [first_succ HF.out]; exact ER.out.symm, hbel3⟩
        case measure => simp [intOf]; omega
      · have hr2 : (r == 0) = false := by simpa using hr
        go_wp2_with (go_at_call 57; refine (k6 _ hl3).mono ?_; rintro e w3 ⟨rfl, hb1⟩; have hbel3 := hbel2.trans (hb1.mono hsz); clear hb1 hbel2 hl3)
        have e1 := first_stops hkl HF.out (by rw [← ER.out]; exact hr)
        go_ret
        exact ⟨by rw [e1, ← ER.out]; rfl, hbel3⟩
    · obtain rfl : k = len := by omega
      clear hl hl2 hin
      have HF : Hid (first (fun k => fault (o k) (a k) (b k) (c k)) k = 0) := hf
      clear hf
      go_wp2
      go_ret
      exact ⟨by rw [HF.out]; rfl, hbel⟩

theorem checkEntries (ao : Option Addr) (len cap n : Nat) (hlen : len ≤ 8) (t r : Nat → Int) (w : World) (hin : Entries w ao len t r) :
    Calls Tryd.prog 56 #[.slice ao len cap, .int .i64 n] w fun e w' => e = .returned (.int .i64 (first (fun k => entryFault n (t k) (r k)) len)) ∧ Below w.heap.size w w' := by
  have h2 : (len : Int) ≤ 8 := by omega
  go_enter Tryd.func56, Tryd.ntmps56
  go_wp2
  go_loopw [9] (fun i wr => ∃ k : Nat, k ≤ len ∧ i = .int .i64 k ∧ first (fun k => entryFault n (t k) (r k)) k = 0 ∧ Below w.heap.size w wr) (fun i _ => len - (intOf i).toNat)
  case atStart => exact ⟨0, Nat.zero_le _, rfl, rfl, Below.refl _ _⟩
  case round =>
    obtain ⟨k, hk, rfl, hf, hbel⟩ := hrel
    by_cases hkl : k < len
    · obtain ⟨bl, off, rfl, t0, t1⟩ := hin k hkl
      have hbl := World.block_lt_of_cell? w _ t0
      have s0 := (hbel.cell (p := ⟨bl, off + k * 2, none⟩) hbl).trans t0
      have s1 := (hbel.cell (p := ⟨bl, off + k * 2 + 1, none⟩) hbl).trans t1
      obtain ⟨x0, e0⟩ : ∃ x, x = t k := ⟨_, rfl⟩
      obtain ⟨x1, e1⟩ : ∃ x, x = r k := ⟨_, rfl⟩
      rw [← e0] at s0
      rw [← e1] at s1
      have HF : Hid (first (fun k => entryFault n (t k) (r k)) k = 0) := hf
      have hbel2 := hbel.alloc hbel.size (.cells #[.int .i64 x0, .int .i64 x1] 52)
      have ER : Hid (entryFault n (t k) (r k) = entryFault n x0 x1) := by
        rw [e0, e1]
        exact (rfl : entryFault n (t k) (r k) = _)
      clear t0 t1 e0 e1 hin hf hbel
      by_cases hr : (0 ≤ x0 ∧ x0 < n) ∧ (0 ≤ x1 ∧ x1 ≤ 4)
      · have e2 : Hid (entryFault n x0 x1 = 0) := if_pos hr
        obtain ⟨⟨c0, c1⟩, c2, c3⟩ := hr
        go_wp2
        go_roundw
        case rel => exact ⟨k + 1, by omega, by go_num, by rw [first_succ HF.out, ER.out]; exact e2.out, hbel2⟩
        case measure => simp [intOf]; omega
      · have e2 : Hid (entryFault n x0 x1 = 2) := if_neg hr
        have e3 : Hid (first (fun k => entryFault n (t k) (r k)) len = 2) := (first_stops hkl HF.out (by rw [ER.out, e2.out]; decide)).trans (ER.out.trans e2.out)
        rcases (show x0 < 0 ∨ (0 ≤ x0 ∧ (n : Int) ≤ x0) ∨ (0 ≤ x0 ∧ x0 < n ∧ x1 < 0) ∨ (0 ≤ x0 ∧ x0 < n ∧ 0 ≤ x1 ∧ 4 < x1) by omega) with c0 | ⟨c0, c1⟩ | ⟨c0, c1, c2⟩ | ⟨c0, c1, c2, c3⟩
        all_goals
          clear hr
          go_wp2
          go_ret
          exact ⟨by rw [e3.out]; rfl, hbel2⟩
    · obtain rfl : k = len := by omega
      clear hin
      have HF : Hid (first (fun k => entryFault n (t k) (r k)) k = 0) := hf
      clear hf
      go_wp2
      go_ret
      exact ⟨by rw [HF.out]; rfl, hbel⟩

set_option maxHeartbeats 4000000 in
theorem checkPart (p : PartD) (start : Int) (w : World) (hl : Lies w) (hp : PartLies w p) :
    Calls Tryd.prog 53 #[.agg #[.slice p.ca p.cl p.cc, .slice p.ea p.el p.ec, .int .i64 p.lo, .int .i64 p.hi], .int .i64 start] w fun e w' => e = .returned (.int .i64 (partFault p start)) ∧ Below w.heap.size w w' := by
  by_cases hs : p.cl ≤ 1200 ∧ p.el ≤ 8
  · have PF : Hid (partFault p start = if codeFault p = 0 then if entriesFault p = 0 then if p.lo = start ∧ p.lo ≤ p.hi ∧ p.hi ≤ 250 then 0 else 8 else entriesFault p else codeFault p) := if_pos hs
    have k35 : ∀ w', Lies w' → PartLies w' p → Calls Tryd.prog 55 #[.slice p.ca p.cl p.cc] w' fun e w'' => e = .returned (.int .i64 (codeFault p)) ∧ Below w'.heap.size w' w'' := fun w' h h' => checkCode p.ca p.cl p.cc hs.1 p.o p.a p.b p.c w' h h'.1
    have k36 : ∀ w', PartLies w' p → Calls Tryd.prog 56 #[.slice p.ea p.el p.ec, .int .i64 p.cl] w' fun e w'' => e = .returned (.int .i64 (entriesFault p)) ∧ Below w'.heap.size w' w'' := fun w' h' => checkEntries p.ea p.el p.ec p.cl hs.2 p.ats p.prs w' h'.2
    have below : ∀ w', Below w.heap.size w w' → PartLies w' p := fun w' hb => PartLies_below hp hb
    obtain ⟨x, ex⟩ : ∃ x, x = codeFault p := ⟨_, rfl⟩
    obtain ⟨y, ey⟩ : ∃ y, y = entriesFault p := ⟨_, rfl⟩
    rw [← ex] at k35
    rw [← ey] at k36
    rw [← ex, ← ey] at PF
    obtain ⟨ca, cl, cc, o, a, b, c, ea, el, ec, ats, prs, lo, hi⟩ := p
    dsimp only at hs k35 k36 PF ⊢
    obtain ⟨hs1, hs2⟩ := hs
    have h1 : (cl : Int) ≤ 1200 := by omega
    have h2 : (el : Int) ≤ 8 := by omega
    have hb0 := below1 w (.cells #[.slice ca cl cc, .slice ea el ec, .int .i64 lo, .int .i64 hi] 55)
    have hp1 := below _ hb0
    have hl1 := Lies_below hl hb0
    have hz := hb0.size
    clear ex ey hp hl
    by_cases hx : x = 0
    · subst hx
      by_cases hy : y = 0
      · subst hy
        by_cases hc : lo = start ∧ lo ≤ hi ∧ hi ≤ 250
        · have e0 : Hid (_ = _) := PF.out.trans (by rw [if_pos rfl, if_pos rfl, if_pos hc])
          obtain ⟨rfl, c1, c2⟩ := hc
          clear PF
          go_enter Tryd.func53, Tryd.ntmps53
          go_wp2_with (first
            | (go_at_call 55; refine (k35 _ hl1 hp1).mono ?_; rintro e w2 ⟨rfl, hb1⟩; obtain ⟨q0, q1, q2, q3⟩ := box4 hb1; have hb2 := hb0.trans (hb1.mono hz); have hp2 := below _ hb2; have HB1 : Hid _ := hb1; clear hb1)
            | (go_at_call 56; refine (k36 _ hp2).mono ?_; rintro e w3 ⟨rfl, hb3⟩; obtain ⟨q4, q5, q6, q7⟩ := box4 (HB1.out.trans (hb3.mono HB1.out.size)); have hb4 := hb2.trans (hb3.mono hb2.size)))
          go_ret
          exact ⟨by rw [e0.out]; rfl, hb4⟩
        · have e0 : Hid (_ = _) := PF.out.trans (by rw [if_pos rfl, if_pos rfl, if_neg hc])
          clear PF
          rcases (show lo < start ∨ start < lo ∨ (lo = start ∧ hi < lo) ∨ (lo = start ∧ lo ≤ hi ∧ 250 < hi) by omega) with c0 | c0 | ⟨rfl, c1⟩ | ⟨rfl, c1, c2⟩
          all_goals
            clear hc
            go_enter Tryd.func53, Tryd.ntmps53
            go_wp2_with (first
              | (go_at_call 55; refine (k35 _ hl1 hp1).mono ?_; rintro e w2 ⟨rfl, hb1⟩; obtain ⟨q0, q1, q2, q3⟩ := box4 hb1; have hb2 := hb0.trans (hb1.mono hz); have hp2 := below _ hb2; have HB1 : Hid _ := hb1; clear hb1)
              | (go_at_call 56; refine (k36 _ hp2).mono ?_; rintro e w3 ⟨rfl, hb3⟩; obtain ⟨q4, q5, q6, q7⟩ := box4 (HB1.out.trans (hb3.mono HB1.out.size)); have hb4 := hb2.trans (hb3.mono hb2.size)))
            go_ret
            exact ⟨by rw [e0.out]; rfl, hb4⟩
      · have e0 : Hid (_ = _) := PF.out.trans (by rw [if_pos rfl, if_neg hy])
        have hy2 : (y == 0) = false := by simpa using hy
        clear PF
        go_enter Tryd.func53, Tryd.ntmps53
        go_wp2_with (first
          | (go_at_call 55; refine (k35 _ hl1 hp1).mono ?_; rintro e w2 ⟨rfl, hb1⟩; obtain ⟨q0, q1, q2, q3⟩ := box4 hb1; have hb2 := hb0.trans (hb1.mono hz); have hp2 := below _ hb2; clear hb1)
          | (go_at_call 56; refine (k36 _ hp2).mono ?_; rintro e w3 ⟨rfl, hb3⟩; have hb4 := hb2.trans (hb3.mono hb2.size)))
        go_ret
        exact ⟨by rw [e0.out]; rfl, hb4⟩
    · have e0 : Hid (_ = _) := PF.out.trans (by rw [if_neg hx])
      have hx2 : (x == 0) = false := by simpa using hx
      clear PF
      go_enter Tryd.func53, Tryd.ntmps53
      go_wp2_with (go_at_call 55; refine (k35 _ hl1 hp1).mono ?_; rintro e w2 ⟨rfl, hb1⟩; have hb2 := hb0.trans (hb1.mono hz))
      go_ret
      exact ⟨by rw [e0.out]; rfl, hb2⟩
  · have PF : Hid (partFault p start = 1) := if_neg hs
    obtain ⟨ca, cl, cc, o, a, b, c, ea, el, ec, ats, prs, lo, hi⟩ := p
    dsimp only at hs PF ⊢
    rcases (show (1200 : Int) < cl ∨ ((cl : Int) ≤ 1200 ∧ (8 : Int) < el) by omega) with c0 | ⟨c0, c1⟩
    all_goals
      clear hs hp hl
      go_enter Tryd.func53, Tryd.ntmps53
      go_wp2
      go_ret
      exact ⟨by rw [PF.out]; rfl, below1 _ _⟩
end Go.Proofs.YtmmcpjmgindpkacDoor.Part
