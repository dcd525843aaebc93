/-
  WHAT THE DOCUMENT'S ANSWER RunOf GIVES where it refuses what is not the data's fault (P4.1): the call returns no outcome and the fault, and lays new memory alone.
  Conditions: the image's parts, the data and the words lie there.
-/
import Derived.Test.YtmbbkabecipkaacDoorWhole16
namespace Go.Proofs.YtmbbkabecipkaacDoor.RunNot
open Go.RowKit Tab Go.Proofs.YtmbbkabecipkaacDoor.Check Lists Go.Proofs.YtmbbkabecipkaacDoor.Read Img RunBad

theorem isIn_yes (n l m : Int) (w : World) (h0 : l ≤ n) (h1 : n ≤ m) : Calls Tryd.prog 27 #[.int .i64 n, .int .i64 l, .int .i64 m] w fun e w' => e = .returned (.bool true) ∧ w' = w :=
  (isIn n l m w).mono fun e w' ⟨he, hw⟩ => ⟨by rw [he, decide_eq_true ⟨h0, h1⟩], hw⟩
theorem isIn_no (n l m : Int) (w : World) (h : ¬ (l ≤ n ∧ n ≤ m)) : Calls Tryd.prog 27 #[.int .i64 n, .int .i64 l, .int .i64 m] w fun e w' => e = .returned (.bool false) ∧ w' = w :=
  (isIn n l m w).mono fun e w' ⟨he, hw⟩ => ⟨by rw [he, decide_eq_false h], hw⟩

/-- what the call has when the data was looked at -/
theorem begun (ao : Option Addr) (len cap : Nat) (hlen : len ≤ maxLen) (P : Nat → PartD) (da : Option Addr) (dlen dcap : Nat) (z : Nat → Int) (w : World) (hin : Parts w ao len P) (hd : Ints w da dlen z) (er : dataFault P len z dlen = 0) :
    Calls Tryd.prog 26 #[.agg #[.slice ao len cap], .slice da dlen dcap] ((w.alloc (.cells #[.slice ao len cap] 24)).alloc (.cells #[.int .i64 0, .int .i64 0, .slice none 0 0, .slice none 0 0, .slice none 0 0] 41)) fun e w' => e = .returned (.int .i64 0) ∧ Below w.heap.size w w' ∧ w'.cell? ⟨w.heap.size, 0, none⟩ = some (.slice ao len cap) ∧ w'.heap[w.heap.size + 1]? = some (.cells #[.int .i64 0, .int .i64 0, .slice none 0 0, .slice none 0 0, .slice none 0 0] 41) := by
  have hb0 := below2 w (.cells #[.slice ao len cap] 24) (.cells #[.int .i64 0, .int .i64 0, .slice none 0 0, .slice none 0 0, .slice none 0 0] 41)
  have hz := two_at w (.cells #[.slice ao len cap] 24) (.cells #[.int .i64 0, .int .i64 0, .slice none 0 0, .slice none 0 0, .slice none 0 0] 41)
  have hsz : w.heap.size + 1 < ((w.alloc (.cells #[.slice ao len cap] 24)).alloc (.cells #[.int .i64 0, .int .i64 0, .slice none 0 0, .slice none 0 0, .slice none 0 0] 41)).heap.size := by simp
  have hsz0 : w.heap.size < ((w.alloc (.cells #[.slice ao len cap] 24)).alloc (.cells #[.int .i64 0, .int .i64 0, .slice none 0 0, .slice none 0 0, .slice none 0 0] 41)).heap.size := by simp; omega
  refine (Data.ref ao len cap hlen P da dlen dcap z _ (Parts_below hin hb0) (Ints_below hd hb0)).mono fun e w' ⟨he, hb⟩ => ⟨by rw [he, er], hb0.trans (hb.mono hb0.size), ?_, (hb.block _ hsz).trans hz⟩
  refine (hb.cell (p := ⟨w.heap.size, 0, none⟩) hsz0).trans ?_
  rw [World.cell?_alloc_old _ _ _ (by simp)]
  simp

theorem partFault_sizes {p : PartD} {s : Int} (h : partFault p s = 0) : p.cl ≤ 1200 ∧ p.el ≤ 8 := by
  unfold partFault at h
  split at h
  · assumption
  · cases h

set_option maxRecDepth 100000 in
set_option maxHeartbeats 4000000 in
theorem no_part (ao : Option Addr) (len cap : Nat) (hlen : len ≤ maxLen) (P : Nat → PartD) (da : Option Addr) (dlen dcap : Nat) (z : Nat → Int) (aa : Option Addr) (alen acap : Nat) (p en : Int) (fuel : Int) (w : World) (hin : Parts w ao len P) (hd : Ints w da dlen z) (er : dataFault P len z dlen = 0) (hp : ¬ (0 ≤ p ∧ p < len)) :
    Calls Tryd.prog 15 #[.agg #[.slice ao len cap], .slice da dlen dcap, .int .i64 p, .int .i64 en, .slice aa alen acap, .int .i64 fuel] w fun e w' => e = .returned (.tuple #[.agg zero, .int .i64 5]) ∧ Below w.heap.size w w' := by
  have k8 := begun ao len cap hlen P da dlen dcap z w hin hd er
  have h5 : (len : Int) ≤ 5 := by have := (imageFault_zero (dataFault_zero er).1).1; omega
  rcases Nat.eq_zero_or_pos alen with rfl | hpos
  · clear er hin hd hlen
    · go_enter Tryd.func15, Tryd.ntmps15
      go_wp2_with (first
        | (go_at_call 26; refine k8.mono ?_; rintro e w1 ⟨rfl, hb2, q0, hz1⟩; have HZ1 : Hid _ := hz1; clear hz1)
        | (go_at_call 27; refine (isIn_yes _ _ _ _ (by omega) (by omega)).mono ?_; rintro e w' ⟨rfl, rfl⟩)
        | (go_at_call 27; refine (isIn_no _ _ _ _ (by omega)).mono ?_; rintro e w' ⟨rfl, rfl⟩))
      refine wp_loop_rounds 1 ?_
      rw [rounds_succ]
      go_wp2_with ((with_reducible show wpList _ _ _ ({ dst := none, op := _, type := _, pos := "low.go:256", after := _, guard := _ } :: _) _ _); refine wpList_store_row rfl 41 _ _ rfl (w.heap.size + 1) zero rfl rfl 41 _ HZ1.out size41 rfl zero_one ?_)
      refine bodyPost_ret (results5 _ _ (w.heap.size + 1) zero 41 (0, 0) _ rfl rfl (setRow_heap _ _ _ _ _ _ HZ1.out) rfl) rfl ?_
      exact ⟨rfl, below_row hb2 (by omega) _⟩
  · have hposI : (0 : Int) < alen := by omega
    clear er hin hd hlen
    · go_enter Tryd.func15, Tryd.ntmps15
      go_wp2_with (first
        | (go_at_call 26; refine k8.mono ?_; rintro e w1 ⟨rfl, hb2, q0, hz1⟩; have HZ1 : Hid _ := hz1; clear hz1)
        | (go_at_call 27; refine (isIn_yes _ _ _ _ (by omega) (by omega)).mono ?_; rintro e w' ⟨rfl, rfl⟩)
        | (go_at_call 27; refine (isIn_no _ _ _ _ (by omega)).mono ?_; rintro e w' ⟨rfl, rfl⟩))
      refine wp_loop_rounds 1 ?_
      rw [rounds_succ]
      go_wp2_with ((with_reducible show wpList _ _ _ ({ dst := none, op := _, type := _, pos := "low.go:256", after := _, guard := _ } :: _) _ _); refine wpList_store_row rfl 41 _ _ rfl (w.heap.size + 1) zero rfl rfl 41 _ HZ1.out size41 rfl zero_one ?_)
      refine bodyPost_ret (results5 _ _ (w.heap.size + 1) zero 41 (0, 0) _ rfl rfl (setRow_heap _ _ _ _ _ _ HZ1.out) rfl) rfl ?_
      exact ⟨rfl, below_row hb2 (by omega) _⟩

set_option maxRecDepth 100000 in
set_option maxHeartbeats 4000000 in
theorem no_entry (ao : Option Addr) (len cap : Nat) (hlen : len ≤ maxLen) (P : Nat → PartD) (da : Option Addr) (dlen dcap : Nat) (z : Nat → Int) (aa : Option Addr) (alen acap : Nat) (k : Nat) (en : Int) (fuel : Int) (w : World) (hin : Parts w ao len P) (hd : Ints w da dlen z) (er : dataFault P len z dlen = 0) (hk : k < len) (hen : ¬ (0 ≤ en ∧ en < (P k).el)) :
    Calls Tryd.prog 15 #[.agg #[.slice ao len cap], .slice da dlen dcap, .int .i64 k, .int .i64 en, .slice aa alen acap, .int .i64 fuel] w fun e w' => e = .returned (.tuple #[.agg zero, .int .i64 5]) ∧ Below w.heap.size w w' := by
  have k8 := begun ao len cap hlen P da dlen dcap z w hin hd er
  have h5 : (len : Int) ≤ 5 := by have := (imageFault_zero (dataFault_zero er).1).1; omega
  have hsz := partFault_sizes (first_zero (imageFault_zero (dataFault_zero er).1).2 k hk)
  have hel : ((P k).el : Int) ≤ 8 := by omega
  have hkI : (k : Int) < len := by omega
  have keep : ∀ w', Below w.heap.size w w' → Parts w' ao len P := fun w' hb => Parts_below hin hb
  obtain ⟨ea, eea⟩ : ∃ x, x = (P k).ea := ⟨_, rfl⟩
  obtain ⟨el, eel⟩ : ∃ x, x = (P k).el := ⟨_, rfl⟩
  obtain ⟨ec, eec⟩ : ∃ x, x = (P k).ec := ⟨_, rfl⟩
  rw [← eel] at hel
  have place : ∀ w', Below w.heap.size w w' → ∃ bl off, ao = some ⟨bl, off, none⟩ ∧ w'.cell? ⟨bl, off + k * 4 + 1, none⟩ = some (.slice ea el ec) := by
    intro w' hb
    obtain ⟨bl, off, e, _, _, t1, _, _⟩ := Parts_at (keep w' hb) hk
    rw [← eea, ← eel, ← eec] at t1
    exact ⟨bl, off, e, t1⟩
  rw [← eel] at hen
  clear eea eel eec keep
  rcases Nat.eq_zero_or_pos alen with rfl | hpos
  · clear er hin hd hlen
    · go_enter Tryd.func15, Tryd.ntmps15
      go_wp2_with (first
        | (go_at_call 26; refine k8.mono ?_; rintro e w1 ⟨rfl, hb2, q0, hz1⟩; have HZ1 : Hid _ := hz1; clear hz1; obtain ⟨bl, off, rfl, t1⟩ := place _ hb2)
        | (go_at_call 27; refine (isIn_yes _ _ _ _ (by omega) (by omega)).mono ?_; rintro e w' ⟨rfl, rfl⟩)
        | (go_at_call 27; refine (isIn_no _ _ _ _ (by omega)).mono ?_; rintro e w' ⟨rfl, rfl⟩))
      refine wp_loop_rounds 1 ?_
      rw [rounds_succ]
      go_wp2_with ((with_reducible show wpList _ _ _ ({ dst := none, op := _, type := _, pos := "low.go:256", after := _, guard := _ } :: _) _ _); refine wpList_store_row rfl 41 _ _ rfl (w.heap.size + 1) zero rfl rfl 41 _ HZ1.out size41 rfl zero_one ?_)
      refine bodyPost_ret (results5 _ _ (w.heap.size + 1) zero 41 (0, 0) _ rfl rfl (setRow_heap _ _ _ _ _ _ HZ1.out) rfl) rfl ?_
      exact ⟨rfl, below_row hb2 (by omega) _⟩
  · have hposI : (0 : Int) < alen := by omega
    clear er hin hd hlen
    · go_enter Tryd.func15, Tryd.ntmps15
      go_wp2_with (first
        | (go_at_call 26; refine k8.mono ?_; rintro e w1 ⟨rfl, hb2, q0, hz1⟩; have HZ1 : Hid _ := hz1; clear hz1; obtain ⟨bl, off, rfl, t1⟩ := place _ hb2)
        | (go_at_call 27; refine (isIn_yes _ _ _ _ (by omega) (by omega)).mono ?_; rintro e w' ⟨rfl, rfl⟩)
        | (go_at_call 27; refine (isIn_no _ _ _ _ (by omega)).mono ?_; rintro e w' ⟨rfl, rfl⟩))
      refine wp_loop_rounds 1 ?_
      rw [rounds_succ]
      go_wp2_with ((with_reducible show wpList _ _ _ ({ dst := none, op := _, type := _, pos := "low.go:256", after := _, guard := _ } :: _) _ _); refine wpList_store_row rfl 41 _ _ rfl (w.heap.size + 1) zero rfl rfl 41 _ HZ1.out size41 rfl zero_one ?_)
      refine bodyPost_ret (results5 _ _ (w.heap.size + 1) zero 41 (0, 0) _ rfl rfl (setRow_heap _ _ _ _ _ _ HZ1.out) rfl) rfl ?_
      exact ⟨rfl, below_row hb2 (by omega) _⟩

set_option maxRecDepth 100000 in
set_option maxHeartbeats 4000000 in
theorem few (ao : Option Addr) (len cap : Nat) (hlen : len ≤ maxLen) (P : Nat → PartD) (da : Option Addr) (dlen dcap : Nat) (z : Nat → Int) (aa : Option Addr) (alen acap : Nat) (k j : Nat) (fuel : Int) (w : World) (hin : Parts w ao len P) (hd : Ints w da dlen z) (er : dataFault P len z dlen = 0) (hk : k < len) (hj : j < (P k).el) (hn : (alen : Int) < (P k).prs j) :
    Calls Tryd.prog 15 #[.agg #[.slice ao len cap], .slice da dlen dcap, .int .i64 k, .int .i64 j, .slice aa alen acap, .int .i64 fuel] w fun e w' => e = .returned (.tuple #[.agg zero, .int .i64 7]) ∧ Below w.heap.size w w' := by
  have k8 := begun ao len cap hlen P da dlen dcap z w hin hd er
  have h5 : (len : Int) ≤ 5 := by have := (imageFault_zero (dataFault_zero er).1).1; omega
  have hsz := partFault_sizes (first_zero (imageFault_zero (dataFault_zero er).1).2 k hk)
  have hel : ((P k).el : Int) ≤ 8 := by omega
  have hkI : (k : Int) < len := by omega
  have keep : ∀ w', Below w.heap.size w w' → Parts w' ao len P := fun w' hb => Parts_below hin hb
  obtain ⟨ea, eea⟩ : ∃ x, x = (P k).ea := ⟨_, rfl⟩
  obtain ⟨el, eel⟩ : ∃ x, x = (P k).el := ⟨_, rfl⟩
  obtain ⟨ec, eec⟩ : ∃ x, x = (P k).ec := ⟨_, rfl⟩
  rw [← eel] at hel
  have place : ∀ w', Below w.heap.size w w' → ∃ bl off, ao = some ⟨bl, off, none⟩ ∧ w'.cell? ⟨bl, off + k * 4 + 1, none⟩ = some (.slice ea el ec) := by
    intro w' hb
    obtain ⟨bl, off, e, _, _, t1, _, _⟩ := Parts_at (keep w' hb) hk
    rw [← eea, ← eel, ← eec] at t1
    exact ⟨bl, off, e, t1⟩
  obtain ⟨pr, epr⟩ : ∃ x, x = (P k).prs j := ⟨_, rfl⟩
  have hjI : (j : Int) < el := by omega
  have spot : ∀ w', Below w.heap.size w w' → ∃ bl off, ea = some ⟨bl, off, none⟩ ∧ w'.cell? ⟨bl, off + j * 2 + 1, none⟩ = some (.int .i64 pr) := by
    intro w' hb
    obtain ⟨bl, off, e, _, t1⟩ := (keep w' hb k hk).2.2 j (by omega)
    rw [← epr] at t1
    exact ⟨bl, off, by rw [eea]; exact e, t1⟩
  rw [← epr] at hn
  clear eea eel eec keep epr
  rcases Nat.eq_zero_or_pos alen with rfl | hpos
  · clear er hin hd hlen
    · go_enter Tryd.func15, Tryd.ntmps15
      go_wp2_with (first
        | (go_at_call 26; refine k8.mono ?_; rintro e w1 ⟨rfl, hb2, q0, hz1⟩; have HZ1 : Hid _ := hz1; clear hz1; obtain ⟨bl, off, rfl, t1⟩ := place _ hb2; obtain ⟨bl2, off2, rfl, t2⟩ := spot _ hb2)
        | (go_at_call 27; refine (isIn_yes _ _ _ _ (by omega) (by omega)).mono ?_; rintro e w' ⟨rfl, rfl⟩)
        | (go_at_call 27; refine (isIn_no _ _ _ _ (by omega)).mono ?_; rintro e w' ⟨rfl, rfl⟩))
      refine wp_loop_rounds 1 ?_
      rw [rounds_succ]
      go_wp2_with ((with_reducible show wpList _ _ _ ({ dst := none, op := _, type := _, pos := "low.go:256", after := _, guard := _ } :: _) _ _); refine wpList_store_row rfl 41 _ _ rfl (w.heap.size + 1) zero rfl rfl 41 _ HZ1.out size41 rfl zero_one ?_)
      refine bodyPost_ret (results5 _ _ (w.heap.size + 1) zero 41 (0, 0) _ rfl rfl (setRow_heap _ _ _ _ _ _ HZ1.out) rfl) rfl ?_
      exact ⟨rfl, below_row hb2 (by omega) _⟩
  · have hposI : (0 : Int) < alen := by omega
    clear er hin hd hlen
    · go_enter Tryd.func15, Tryd.ntmps15
      go_wp2_with (first
        | (go_at_call 26; refine k8.mono ?_; rintro e w1 ⟨rfl, hb2, q0, hz1⟩; have HZ1 : Hid _ := hz1; clear hz1; obtain ⟨bl, off, rfl, t1⟩ := place _ hb2; obtain ⟨bl2, off2, rfl, t2⟩ := spot _ hb2)
        | (go_at_call 27; refine (isIn_yes _ _ _ _ (by omega) (by omega)).mono ?_; rintro e w' ⟨rfl, rfl⟩)
        | (go_at_call 27; refine (isIn_no _ _ _ _ (by omega)).mono ?_; rintro e w' ⟨rfl, rfl⟩))
      refine wp_loop_rounds 1 ?_
      rw [rounds_succ]
      go_wp2_with ((with_reducible show wpList _ _ _ ({ dst := none, op := _, type := _, pos := "low.go:256", after := _, guard := _ } :: _) _ _); refine wpList_store_row rfl 41 _ _ rfl (w.heap.size + 1) zero rfl rfl 41 _ HZ1.out size41 rfl zero_one ?_)
      refine bodyPost_ret (results5 _ _ (w.heap.size + 1) zero 41 (0, 0) _ rfl rfl (setRow_heap _ _ _ _ _ _ HZ1.out) rfl) rfl ?_
      exact ⟨rfl, below_row hb2 (by omega) _⟩

set_option maxRecDepth 100000 in
set_option maxHeartbeats 4000000 in
theorem many (ao : Option Addr) (len cap : Nat) (hlen : len ≤ maxLen) (P : Nat → PartD) (da : Option Addr) (dlen dcap : Nat) (z : Nat → Int) (aa : Option Addr) (alen acap : Nat) (k j : Nat) (fuel : Int) (w : World) (hin : Parts w ao len P) (hd : Ints w da dlen z) (er : dataFault P len z dlen = 0) (hk : k < len) (hj : j < (P k).el) (hn : (P k).prs j < (alen : Int)) :
    Calls Tryd.prog 15 #[.agg #[.slice ao len cap], .slice da dlen dcap, .int .i64 k, .int .i64 j, .slice aa alen acap, .int .i64 fuel] w fun e w' => e = .returned (.tuple #[.agg zero, .int .i64 7]) ∧ Below w.heap.size w w' := by
  have k8 := begun ao len cap hlen P da dlen dcap z w hin hd er
  have h5 : (len : Int) ≤ 5 := by have := (imageFault_zero (dataFault_zero er).1).1; omega
  have hsz := partFault_sizes (first_zero (imageFault_zero (dataFault_zero er).1).2 k hk)
  have hel : ((P k).el : Int) ≤ 8 := by omega
  have hkI : (k : Int) < len := by omega
  have keep : ∀ w', Below w.heap.size w w' → Parts w' ao len P := fun w' hb => Parts_below hin hb
  obtain ⟨ea, eea⟩ : ∃ x, x = (P k).ea := ⟨_, rfl⟩
  obtain ⟨el, eel⟩ : ∃ x, x = (P k).el := ⟨_, rfl⟩
  obtain ⟨ec, eec⟩ : ∃ x, x = (P k).ec := ⟨_, rfl⟩
  rw [← eel] at hel
  have place : ∀ w', Below w.heap.size w w' → ∃ bl off, ao = some ⟨bl, off, none⟩ ∧ w'.cell? ⟨bl, off + k * 4 + 1, none⟩ = some (.slice ea el ec) := by
    intro w' hb
    obtain ⟨bl, off, e, _, _, t1, _, _⟩ := Parts_at (keep w' hb) hk
    rw [← eea, ← eel, ← eec] at t1
    exact ⟨bl, off, e, t1⟩
  obtain ⟨pr, epr⟩ : ∃ x, x = (P k).prs j := ⟨_, rfl⟩
  have hjI : (j : Int) < el := by omega
  have spot : ∀ w', Below w.heap.size w w' → ∃ bl off, ea = some ⟨bl, off, none⟩ ∧ w'.cell? ⟨bl, off + j * 2 + 1, none⟩ = some (.int .i64 pr) := by
    intro w' hb
    obtain ⟨bl, off, e, _, t1⟩ := (keep w' hb k hk).2.2 j (by omega)
    rw [← epr] at t1
    exact ⟨bl, off, by rw [eea]; exact e, t1⟩
  rw [← epr] at hn
  clear eea eel eec keep epr
  rcases Nat.eq_zero_or_pos alen with rfl | hpos
  · clear er hin hd hlen
    · go_enter Tryd.func15, Tryd.ntmps15
      go_wp2_with (first
        | (go_at_call 26; refine k8.mono ?_; rintro e w1 ⟨rfl, hb2, q0, hz1⟩; have HZ1 : Hid _ := hz1; clear hz1; obtain ⟨bl, off, rfl, t1⟩ := place _ hb2; obtain ⟨bl2, off2, rfl, t2⟩ := spot _ hb2)
        | (go_at_call 27; refine (isIn_yes _ _ _ _ (by omega) (by omega)).mono ?_; rintro e w' ⟨rfl, rfl⟩)
        | (go_at_call 27; refine (isIn_no _ _ _ _ (by omega)).mono ?_; rintro e w' ⟨rfl, rfl⟩))
      refine wp_loop_rounds 1 ?_
      rw [rounds_succ]
      go_wp2_with ((with_reducible show wpList _ _ _ ({ dst := none, op := _, type := _, pos := "low.go:256", after := _, guard := _ } :: _) _ _); refine wpList_store_row rfl 41 _ _ rfl (w.heap.size + 1) zero rfl rfl 41 _ HZ1.out size41 rfl zero_one ?_)
      refine bodyPost_ret (results5 _ _ (w.heap.size + 1) zero 41 (0, 0) _ rfl rfl (setRow_heap _ _ _ _ _ _ HZ1.out) rfl) rfl ?_
      exact ⟨rfl, below_row hb2 (by omega) _⟩
  · have hposI : (0 : Int) < alen := by omega
    clear er hin hd hlen
    · go_enter Tryd.func15, Tryd.ntmps15
      go_wp2_with (first
        | (go_at_call 26; refine k8.mono ?_; rintro e w1 ⟨rfl, hb2, q0, hz1⟩; have HZ1 : Hid _ := hz1; clear hz1; obtain ⟨bl, off, rfl, t1⟩ := place _ hb2; obtain ⟨bl2, off2, rfl, t2⟩ := spot _ hb2)
        | (go_at_call 27; refine (isIn_yes _ _ _ _ (by omega) (by omega)).mono ?_; rintro e w' ⟨rfl, rfl⟩)
        | (go_at_call 27; refine (isIn_no _ _ _ _ (by omega)).mono ?_; rintro e w' ⟨rfl, rfl⟩))
      refine wp_loop_rounds 1 ?_
      rw [rounds_succ]
      go_wp2_with ((with_reducible show wpList _ _ _ ({ dst := none, op := _, type := _, pos := "low.go:256", after := _, guard := _ } :: _) _ _); refine wpList_store_row rfl 41 _ _ rfl (w.heap.size + 1) zero rfl rfl 41 _ HZ1.out size41 rfl zero_one ?_)
      refine bodyPost_ret (results5 _ _ (w.heap.size + 1) zero 41 (0, 0) _ rfl rfl (setRow_heap _ _ _ _ _ _ HZ1.out) rfl) rfl ?_
      exact ⟨rfl, below_row hb2 (by omega) _⟩

set_option maxRecDepth 100000 in
set_option maxHeartbeats 4000000 in
theorem no_fuel (ao : Option Addr) (len cap : Nat) (hlen : len ≤ maxLen) (P : Nat → PartD) (da : Option Addr) (dlen dcap : Nat) (z : Nat → Int) (aa : Option Addr) (alen acap : Nat) (k j : Nat) (fuel : Int) (w : World) (hin : Parts w ao len P) (hd : Ints w da dlen z) (er : dataFault P len z dlen = 0) (hk : k < len) (hj : j < (P k).el) (hn : (alen : Int) = (P k).prs j) (hfuel : ¬ (0 ≤ fuel ∧ fuel ≤ 100000)) :
    Calls Tryd.prog 15 #[.agg #[.slice ao len cap], .slice da dlen dcap, .int .i64 k, .int .i64 j, .slice aa alen acap, .int .i64 fuel] w fun e w' => e = .returned (.tuple #[.agg zero, .int .i64 2]) ∧ Below w.heap.size w w' := by
  have k8 := begun ao len cap hlen P da dlen dcap z w hin hd er
  have h5 : (len : Int) ≤ 5 := by have := (imageFault_zero (dataFault_zero er).1).1; omega
  have hsz := partFault_sizes (first_zero (imageFault_zero (dataFault_zero er).1).2 k hk)
  have hel : ((P k).el : Int) ≤ 8 := by omega
  have hkI : (k : Int) < len := by omega
  have keep : ∀ w', Below w.heap.size w w' → Parts w' ao len P := fun w' hb => Parts_below hin hb
  obtain ⟨ea, eea⟩ : ∃ x, x = (P k).ea := ⟨_, rfl⟩
  obtain ⟨el, eel⟩ : ∃ x, x = (P k).el := ⟨_, rfl⟩
  obtain ⟨ec, eec⟩ : ∃ x, x = (P k).ec := ⟨_, rfl⟩
  rw [← eel] at hel
  have place : ∀ w', Below w.heap.size w w' → ∃ bl off, ao = some ⟨bl, off, none⟩ ∧ w'.cell? ⟨bl, off + k * 4 + 1, none⟩ = some (.slice ea el ec) := by
    intro w' hb
    obtain ⟨bl, off, e, _, _, t1, _, _⟩ := Parts_at (keep w' hb) hk
    rw [← eea, ← eel, ← eec] at t1
    exact ⟨bl, off, e, t1⟩
  obtain ⟨pr, epr⟩ : ∃ x, x = (P k).prs j := ⟨_, rfl⟩
  have hjI : (j : Int) < el := by omega
  have spot : ∀ w', Below w.heap.size w w' → ∃ bl off, ea = some ⟨bl, off, none⟩ ∧ w'.cell? ⟨bl, off + j * 2 + 1, none⟩ = some (.int .i64 pr) := by
    intro w' hb
    obtain ⟨bl, off, e, _, t1⟩ := (keep w' hb k hk).2.2 j (by omega)
    rw [← epr] at t1
    exact ⟨bl, off, by rw [eea]; exact e, t1⟩
  rw [← epr] at hn
  subst hn
  clear eea eel eec keep epr
  rcases Nat.eq_zero_or_pos alen with rfl | hpos
  · clear er hin hd hlen
    · go_enter Tryd.func15, Tryd.ntmps15
      go_wp2_with (first
        | (go_at_call 26; refine k8.mono ?_; rintro e w1 ⟨rfl, hb2, q0, hz1⟩; have HZ1 : Hid _ := hz1; clear hz1; obtain ⟨bl, off, rfl, t1⟩ := place _ hb2; obtain ⟨bl2, off2, rfl, t2⟩ := spot _ hb2)
        | (go_at_call 27; refine (isIn_yes _ _ _ _ (by omega) (by omega)).mono ?_; rintro e w' ⟨rfl, rfl⟩)
        | (go_at_call 27; refine (isIn_no _ _ _ _ (by omega)).mono ?_; rintro e w' ⟨rfl, rfl⟩))
      refine wp_loop_rounds 1 ?_
      rw [rounds_succ]
      go_wp2_with ((with_reducible show wpList _ _ _ ({ dst := none, op := _, type := _, pos := "low.go:256", after := _, guard := _ } :: _) _ _); refine wpList_store_row rfl 41 _ _ rfl (w.heap.size + 1) zero rfl rfl 41 _ HZ1.out size41 rfl zero_one ?_)
      refine bodyPost_ret (results5 _ _ (w.heap.size + 1) zero 41 (0, 0) _ rfl rfl (setRow_heap _ _ _ _ _ _ HZ1.out) rfl) rfl ?_
      exact ⟨rfl, below_row hb2 (by omega) _⟩
  · have hposI : (0 : Int) < alen := by omega
    clear er hin hd hlen
    · go_enter Tryd.func15, Tryd.ntmps15
      go_wp2_with (first
        | (go_at_call 26; refine k8.mono ?_; rintro e w1 ⟨rfl, hb2, q0, hz1⟩; have HZ1 : Hid _ := hz1; clear hz1; obtain ⟨bl, off, rfl, t1⟩ := place _ hb2; obtain ⟨bl2, off2, rfl, t2⟩ := spot _ hb2)
        | (go_at_call 27; refine (isIn_yes _ _ _ _ (by omega) (by omega)).mono ?_; rintro e w' ⟨rfl, rfl⟩)
        | (go_at_call 27; refine (isIn_no _ _ _ _ (by omega)).mono ?_; rintro e w' ⟨rfl, rfl⟩))
      refine wp_loop_rounds 1 ?_
      rw [rounds_succ]
      go_wp2_with ((with_reducible show wpList _ _ _ ({ dst := none, op := _, type := _, pos := "low.go:256", after := _, guard := _ } :: _) _ _); refine wpList_store_row rfl 41 _ _ rfl (w.heap.size + 1) zero rfl rfl 41 _ HZ1.out size41 rfl zero_one ?_)
      refine bodyPost_ret (results5 _ _ (w.heap.size + 1) zero 41 (0, 0) _ rfl rfl (setRow_heap _ _ _ _ _ _ HZ1.out) rfl) rfl ?_
      exact ⟨rfl, below_row hb2 (by omega) _⟩

end Go.Proofs.YtmbbkabecipkaacDoor.RunNot
