/-
  WHAT THE DOCUMENT'S ANSWER ImageFault GIVES, for every image: the call returns, and lays new memory alone.
  Conditions: the image's parts lie there.
-/
import Derived.Test.YtmbbkabecipkaacDoorWhole2
import Derived.Deep.QuietTactic
import Derived.BigQuiet
namespace Go.Proofs.YtmbbkabecipkaacDoor.RefImage
open Go.RowKit Tab Go.Proofs.YtmbbkabecipkaacDoor.Check Lists Go.Proofs.YtmbbkabecipkaacDoor.Read Img

theorem below_box {w w' : World} {o : Obj} (hb : Below (w.alloc o).heap.size (w.alloc o) w') : Below w.heap.size w w' := (below1 w o).trans (hb.mono (below1 w o).size)

set_option maxHeartbeats 4000000 in
set_option maxRecDepth 20000 in
theorem ref (ao : Option Addr) (len cap : Nat) (P : Nat → PartD) (w : World) (hin : Parts w ao len P) :
    Calls Tryd.prog 40 #[.agg #[.slice ao len cap]] w fun e w' => e = .returned (.int .i64 (imageFault P len)) ∧ Below w.heap.size w w' := by
  by_cases hs : len ≤ 5
  · have IF : Hid (imageFault P len = first (fun k => partFault (P k) (begins P k)) len) := if_pos hs
    have h2 : (len : Int) ≤ 5 := by omega
    obtain ⟨f, ef⟩ : ∃ f : Nat → Int, f = fun k => partFault (P k) (begins P k) := ⟨_, rfl⟩
    rw [← ef] at IF
    have hf : ∀ k, Hid (f k = partFault (P k) (begins P k)) := fun k => by rw [ef]; exact (rfl : partFault (P k) (begins P k) = _)
    have hin1 := Parts_below hin (below1 w (.cells #[.slice ao len cap] 24))
    clear ef hin
    go_enter Tryd.func40, Tryd.ntmps40
    go_wp2
    go_loopw [3, 4] (fun v i wr => ∃ (k : Nat) (s : Int), k ≤ len ∧ s = begins P k ∧ v = .int .i64 s ∧ i = .int .i64 k ∧ first f k = 0 ∧ Below (w.alloc (.cells #[.slice ao len cap] 24)).heap.size (w.alloc (.cells #[.slice ao len cap] 24)) wr) (fun _ i _ => len - (intOf i).toNat)
    case atStart => exact ⟨0, 0, Nat.zero_le _, rfl, rfl, rfl, rfl, Below.refl _ _⟩
    case round =>
      revert wr
      intro w0 hrel
      obtain ⟨k, s, hk, es, rfl, rfl, hz, hbel⟩ := hrel
      have HZ : Hid (first f k = 0) := hz
      have c0 := box1 hbel
      have HBEL : Hid (Below w.heap.size w w0) := below_box hbel
      by_cases hkl : k < len
      · have hin2 := Parts_below hin1 hbel
        obtain ⟨bl, off, rfl, hbl, t0, t1, t2, t3⟩ := Parts_at hin2 hkl
        have hpl := (hin2 k hkl).2
        have HS : Hid (begins P (k + 1) = (P k).hi) := (rfl : begins P (k + 1) = _)
        obtain ⟨p, ep⟩ : ∃ p, p = P k := ⟨_, rfl⟩
        have ER : Hid (f k = partFault p s) := by rw [ep, es]; exact hf k
        rw [← ep] at t0 t1 t2 t3 hpl HS
        have hpl2 := PartLies_below hpl (below1 w0 (.cells #[.slice p.ca p.cl p.cc, .slice p.ea p.el p.ec, .int .i64 p.lo, .int .i64 p.hi] 55))
        have hb2 := hbel.alloc hbel.size (.cells #[.slice p.ca p.cl p.cc, .slice p.ea p.el p.ec, .int .i64 p.lo, .int .i64 p.hi] 55)
        obtain ⟨w2, ew2⟩ : ∃ w2, w2 = w0.alloc (.cells #[.slice p.ca p.cl p.cc, .slice p.ea p.el p.ec, .int .i64 p.lo, .int .i64 p.hi] 55) := ⟨_, rfl⟩
        have pc : ∀ w', Below w2.heap.size w2 w' → w'.cell? ⟨w0.heap.size, 0, none⟩ = some (.slice p.ca p.cl p.cc) ∧ w'.cell? ⟨w0.heap.size, 1, none⟩ = some (.slice p.ea p.el p.ec) ∧ w'.cell? ⟨w0.heap.size, 2, none⟩ = some (.int .i64 p.lo) ∧ w'.cell? ⟨w0.heap.size, 3, none⟩ = some (.int .i64 p.hi) := by
          rw [ew2]
          exact fun w' h => box4 h
        have after : ∀ w', Below w2.heap.size w2 w' → Below (w.alloc (.cells #[.slice (some ⟨bl, off, none⟩) len cap] 24)).heap.size (w.alloc (.cells #[.slice (some ⟨bl, off, none⟩) len cap] 24)) w' := by
          rw [ew2]
          exact fun w' h => hb2.trans (h.mono hb2.size)
        have EW : Hid (w0.alloc (.cells #[.slice p.ca p.cl p.cc, .slice p.ea p.el p.ec, .int .i64 p.lo, .int .i64 p.hi] 55) = w2) := ew2.symm
        rw [← ew2] at hpl2
        clear ew2 ep es hin1 hin2 hf hz hpl hbel hb2
        by_cases hsz : p.cl ≤ 1200 ∧ p.el ≤ 8
        · have PF : Hid (partFault p s = if codeFault p = 0 then if entriesFault p = 0 then if p.lo = s ∧ p.lo ≤ p.hi ∧ p.hi ≤ 250 then 0 else 8 else entriesFault p else codeFault p) := if_pos hsz
          have CF : Hid (codeFault p = first (fun k => fault (p.o k) (p.a k) (p.b k) (p.c k)) p.cl) := (rfl : codeFault p = _)
          have YF : Hid (entriesFault p = first (fun k => entryFault p.cl (p.ats k) (p.prs k)) p.el) := (rfl : entriesFault p = _)
          obtain ⟨x, ex⟩ : ∃ x, x = codeFault p := ⟨_, rfl⟩
          obtain ⟨y, ey⟩ : ∃ y, y = entriesFault p := ⟨_, rfl⟩
          rw [← ex] at CF PF
          rw [← ey] at YF PF
          clear ex ey
          obtain ⟨pca, cl, cc, o, a, b, c, ea, el, ec, ats, prs, lo, hi⟩ := p
          dsimp only at *
          obtain ⟨hs1, hs2⟩ := hsz
          have h3 : (cl : Int) ≤ 1200 := by omega
          have h4 : (el : Int) ≤ 8 := by omega
          go_wp2
          rw [EW.out]
          have RET : Hid (∀ v, partFault ⟨pca, cl, cc, o, a, b, c, ea, el, ec, ats, prs, lo, hi⟩ s = v → v ≠ 0 → imageFault P len = v) :=
            fun v h h0 => by rw [IF.out, first_stops hkl HZ.out (by rw [ER.out, h]; exact h0), ER.out, h]
          go_loopw [6] (fun i wr => ∃ j : Nat, j ≤ cl ∧ i = .int .i64 j ∧ first (fun k => fault (o k) (a k) (b k) (c k)) j = 0 ∧ Below w2.heap.size w2 wr) (fun i _ => cl - (intOf i).toNat)
          case atStart => exact ⟨0, Nat.zero_le _, rfl, rfl, Below.refl _ _⟩
          case round =>
            revert wr
            intro w3 hrel
            obtain ⟨j, hj, rfl, hzj, hb3⟩ := hrel
            have HJ : Hid (first (fun k => fault (o k) (a k) (b k) (c k)) j = 0) := hzj
            obtain ⟨q0, q1, q2, q3⟩ := pc w3 hb3
            by_cases hjl : j < cl
            · have hI : Instrs w3 pca cl o a b c := (PartLies_below hpl2 hb3).1
              obtain ⟨bl2, off2, rfl, u0, u1, u2, u3⟩ := hI j hjl
              have k26 : ∀ w', _ := fun w' => Fault.ref (o j) (a j) (b j) (c j) w'
              obtain ⟨x0, e0⟩ : ∃ x, x = o j := ⟨_, rfl⟩
              obtain ⟨x1, e1⟩ : ∃ x, x = a j := ⟨_, rfl⟩
              obtain ⟨x2, e2⟩ : ∃ x, x = b j := ⟨_, rfl⟩
              obtain ⟨x3, e3⟩ : ∃ x, x = c j := ⟨_, rfl⟩
              obtain ⟨r, er⟩ : ∃ r, r = fault (o j) (a j) (b j) (c j) := ⟨_, rfl⟩
              rw [← er, ← e0, ← e1, ← e2, ← e3] at k26
              rw [← e0] at u0
              rw [← e1] at u1
              rw [← e2] at u2
              rw [← e3] at u3
              have ERR : Hid (r = fault (o j) (a j) (b j) (c j)) := er
              clear e0 e1 e2 e3 er hI hzj
              by_cases hr : r = 0
              · subst hr
                go_wp2_with (go_at_call 52; refine (k26 _).mono ?_; rintro e w4 ⟨rfl, hb4⟩; have hb5 := hb3.trans (hb4.mono hb3.size); clear hb4)
                go_roundw
                case rel => exact ⟨j + 1, by omega, by go_num, by rw [first_succ HJ.out]; exact ERR.out.symm, hb5⟩
                case measure => simp [intOf]; omega
              · have hr2 : (r == 0) = false := by simpa using hr
                have hx : Hid (x = r) := CF.out.trans ((first_stops hjl HJ.out (by rw [← ERR.out]; exact hr)).trans ERR.out.symm)
                have hret : Hid (imageFault P len = r) := RET.out r (by rw [PF.out, hx.out, if_neg hr]) hr
                go_wp2_with (go_at_call 52; refine (k26 _).mono ?_; rintro e w4 ⟨rfl, hb4⟩; have hb5 := hb3.trans (hb4.mono hb3.size); clear hb4)
                go_ret
                exact ⟨by rw [hret.out]; rfl, below_box (after _ hb5)⟩
            · obtain rfl : j = cl := by omega
              have hx : Hid (x = 0) := CF.out.trans HJ.out
              have PF2 : Hid (partFault ⟨pca, j, cc, o, a, b, c, ea, el, ec, ats, prs, lo, hi⟩ s = if y = 0 then if lo = s ∧ lo ≤ hi ∧ hi ≤ 250 then 0 else 8 else y) := by rw [PF.out, if_pos hx.out]; exact (rfl : _ = _)
              clear hzj PF CF
              go_wp2
              go_loopw [8] (fun i wr => ∃ t : Nat, t ≤ el ∧ i = .int .i64 t ∧ first (fun k => entryFault j (ats k) (prs k)) t = 0 ∧ Below w2.heap.size w2 wr) (fun i _ => el - (intOf i).toNat)
              case atStart => exact ⟨0, Nat.zero_le _, rfl, rfl, hb3⟩
              case round =>
                revert wr
                intro w5 hrel
                obtain ⟨t, ht, rfl, hzt, hb6⟩ := hrel
                have HT : Hid (first (fun k => entryFault j (ats k) (prs k)) t = 0) := hzt
                clear hzt q0 q1 q2 q3
                obtain ⟨q0, q1, q2, q3⟩ := pc w5 hb6
                by_cases htl : t < el
                · have hE : Entries w5 ea el ats prs := (PartLies_below hpl2 hb6).2
                  obtain ⟨bl3, off3, rfl, u0, u1⟩ := hE t htl
                  obtain ⟨x0, e0⟩ : ∃ x, x = ats t := ⟨_, rfl⟩
                  obtain ⟨x1, e1⟩ : ∃ x, x = prs t := ⟨_, rfl⟩
                  have EE : Hid (entryFault j (ats t) (prs t) = entryFault j x0 x1) := by rw [e0, e1]; exact (rfl : entryFault j (ats t) (prs t) = _)
                  rw [← e0] at u0
                  rw [← e1] at u1
                  have htI : (t : Int) < el := by omega
                  clear e0 e1 hE
                  by_cases hr : (0 ≤ x0 ∧ x0 < j) ∧ (0 ≤ x1 ∧ x1 ≤ 4)
                  · have e2 : Hid (entryFault j x0 x1 = 0) := if_pos hr
                    have d0 : decide (0 ≤ x0 ∧ x0 ≤ (j : Int) - 1) = true := decide_eq_true (by omega)
                    have d1 : decide (0 ≤ x1 ∧ x1 ≤ 4) = true := decide_eq_true (by omega)
                    clear hr
                    go_wp2
                    go_quiet (first | (go_at_call 27; exact Calls.quiet_of_same (isIn _ _ _ _)))
                    go_wp2
                    go_roundw
                    case rel => exact ⟨t + 1, by omega, by go_num, by rw [first_succ HT.out, EE.out]; exact e2.out, ⟨hb6.os, hb6.tape, hb6.output, hb6.size, hb6.block⟩⟩
                    case measure => simp [intOf]; omega
                  · have e2 : Hid (entryFault j x0 x1 = 2) := if_neg hr
                    have hy : Hid (y = 2) := YF.out.trans ((first_stops htl HT.out (by rw [EE.out, e2.out]; decide)).trans (EE.out.trans e2.out))
                    have hret : Hid (imageFault P len = 2) := RET.out 2 (by rw [PF2.out, hy.out, if_neg (by decide)]) (by decide)
                    by_cases hr1 : 0 ≤ x0 ∧ x0 < j
                    · have d0 : decide (0 ≤ x0 ∧ x0 ≤ (j : Int) - 1) = true := decide_eq_true (by omega)
                      have d1 : decide (0 ≤ x1 ∧ x1 ≤ 4) = false := decide_eq_false fun h => hr ⟨hr1, h⟩
                      clear hr hr1
                      go_wp2
                      go_quiet (first | (go_at_call 27; exact Calls.quiet_of_same (isIn _ _ _ _)))
                      go_wp2
                      go_ret
                      exact ⟨by rw [hret.out]; rfl, below_box (after _ ⟨hb6.os, hb6.tape, hb6.output, hb6.size, hb6.block⟩)⟩
                    · have d0 : decide (0 ≤ x0 ∧ x0 ≤ (j : Int) - 1) = false := decide_eq_false (by omega)
                      clear hr hr1
                      go_wp2
                      go_quiet (first | (go_at_call 27; exact Calls.quiet_of_same (isIn _ _ _ _)))
                      go_wp2
                      go_ret
                      exact ⟨by rw [hret.out]; rfl, below_box (after _ ⟨hb6.os, hb6.tape, hb6.output, hb6.size, hb6.block⟩)⟩
                · obtain rfl : t = el := by omega
                  have hy : Hid (y = 0) := YF.out.trans HT.out
                  by_cases hc : lo = s ∧ lo ≤ hi ∧ hi ≤ 250
                  · have hfk : Hid (f k = 0) := by rw [ER.out, PF2.out, if_pos hy.out, if_pos hc]; exact (rfl : (0 : Int) = 0)
                    obtain ⟨rfl, c1, c2⟩ := hc
                    go_wp2_with (go_at_call 27; refine (isIn _ _ _ _).mono ?_; rintro e w' ⟨rfl, rfl⟩)
                    go_roundw
                    case rel => exact ⟨k + 1, hi, by omega, HS.out.symm, rfl, by go_num, by rw [first_succ HZ.out]; exact hfk.out, after _ hb6⟩
                    case measure => simp [intOf]; omega
                  · have hret : Hid (imageFault P len = 8) := RET.out 8 (by rw [PF2.out, if_pos hy.out, if_neg hc]) (by decide)
                    rcases (show lo < s ∨ s < lo ∨ (lo = s ∧ ¬ (lo ≤ hi ∧ hi ≤ 250)) by omega) with c1 | c1 | ⟨rfl, c1⟩
                    · clear hc
                      go_wp2_with (go_at_call 27; refine (isIn _ _ _ _).mono ?_; rintro e w' ⟨rfl, rfl⟩)
                      go_ret
                      exact ⟨by rw [hret.out]; rfl, below_box (after _ hb6)⟩
                    · clear hc
                      go_wp2_with (go_at_call 27; refine (isIn _ _ _ _).mono ?_; rintro e w' ⟨rfl, rfl⟩)
                      go_ret
                      exact ⟨by rw [hret.out]; rfl, below_box (after _ hb6)⟩
                    · have d0 : decide (lo ≤ hi ∧ hi ≤ 250) = false := decide_eq_false c1
                      clear hc c1
                      go_wp2_with (go_at_call 27; refine (isIn _ _ _ _).mono ?_; rintro e w' ⟨rfl, rfl⟩)
                      go_ret
                      exact ⟨by rw [hret.out]; rfl, below_box (after _ hb6)⟩
        · have PF : Hid (partFault p s = 1) := if_neg hsz
          have hret : Hid (imageFault P len = 1) := by
            rw [IF.out, first_stops hkl HZ.out (by rw [ER.out, PF.out]; decide), ER.out, PF.out]
            exact (rfl : (1 : Int) = 1)
          obtain ⟨pca, cl, cc, o, a, b, c, ea, el, ec, ats, prs, lo, hi⟩ := p
          dsimp only at *
          rcases (show (1200 : Int) < cl ∨ ((cl : Int) ≤ 1200 ∧ (8 : Int) < el) by omega) with c2 | ⟨c2, c3⟩
          all_goals
            clear hsz
            go_wp2
            rw [EW.out]
            go_ret
            exact ⟨by rw [hret.out]; rfl, below_box (after _ (Below.refl _ _))⟩
      · obtain rfl : k = len := by omega
        clear hin1 hz hf es
        go_wp2
        go_ret
        exact ⟨by rw [IF.out, HZ.out]; rfl, HBEL.out⟩
  · have IF : Hid (imageFault P len = 1) := if_neg hs
    have h2 : (5 : Int) < len := by omega
    clear hin
    go_enter Tryd.func40, Tryd.ntmps40
    go_wp2
    go_ret
    exact ⟨by rw [IF.out]; rfl, below1 _ _⟩
end Go.Proofs.YtmbbkabecipkaacDoor.RefImage
