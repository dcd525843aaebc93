/-
  WHAT mem.CheckData AND THE DOCUMENT'S ANSWER DataFault GIVE, for every image and every list of numbers: each call returns, and lays new memory alone.
  Conditions: the table 'code.bounds' lies there (for mem.CheckData), the image's parts and the numbers.
  WHAT THE DOCUMENT'S ANSWER RunOf GIVES where it refuses (P4.1): the call returns no outcome and the fault, and lays new memory alone.
  Conditions: the image's parts, the data and the words lie there.
-/
import Derived.Test.YtmbbkabecipkaacDoorWhole14
import Derived.Test.YtmbbkabecipkaacDoorWhole15
import Derived.Laws.ResultCell
import Derived.Laws.Rows
namespace Go.Proofs.YtmbbkabecipkaacDoor.Data
open Go.RowKit Tab Go.Proofs.YtmbbkabecipkaacDoor.Check Lists Go.Proofs.YtmbbkabecipkaacDoor.Read Img

theorem dataFault_bad {P : Nat → PartD} {len : Nat} {z : Nat → Int} {dlen : Nat} (h : imageFault P len ≠ 0) : dataFault P len z dlen = imageFault P len := if_neg h
theorem dataFault_form {P : Nat → PartD} {len : Nat} {z : Nat → Int} {dlen : Nat} (h : imageFault P len = 0) (h' : (dlen : Int) ≠ begins P len) : dataFault P len z dlen = 4 := by rw [dataFault, if_pos h, if_neg h']
theorem dataFault_some {P : Nat → PartD} {len : Nat} {z : Nat → Int} {dlen : Nat} (h : imageFault P len = 0) (h' : (dlen : Int) = begins P len) : dataFault P len z dlen = first (fun k => wordFault (z k)) dlen := by rw [dataFault, if_pos h, if_pos h']

theorem checkData (ao : Option Addr) (len cap : Nat) (hlen : len ≤ maxLen) (P : Nat → PartD) (da : Option Addr) (dlen dcap : Nat) (z : Nat → Int) (w : World) (hl : Lies w) (hin : Parts w ao len P) (hd : Ints w da dlen z) :
    Calls Tryd.prog 31 #[.agg #[.slice ao len cap], .slice da dlen dcap] w fun e w' => e = .returned (.int .i64 (dataFault P len z dlen)) ∧ Below w.heap.size w w' := by
  have k14 : ∀ w, Lies w → Parts w ao len P → _ := fun w h h' => Image.check ao len cap P w h h'
  have k28 : ∀ w, Parts w ao len P → _ := fun w h => Image.words ao len cap hlen P w h
  have DB : Hid (imageFault P len ≠ 0 → dataFault P len z dlen = imageFault P len) := dataFault_bad
  have DF : Hid (imageFault P len = 0 → (dlen : Int) ≠ begins P len → dataFault P len z dlen = 4) := dataFault_form
  have DS : Hid (imageFault P len = 0 → (dlen : Int) = begins P len → dataFault P len z dlen = first (fun k => wordFault (z k)) dlen) := dataFault_some
  have BL : Hid (imageFault P len = 0 → begins P len ≤ 250) := fun h => (begins_mono (imageFault_zero h).2 len (Nat.le_refl _)).2.2
  obtain ⟨r, er⟩ : ∃ r, r = imageFault P len := ⟨_, rfl⟩
  obtain ⟨n, en⟩ : ∃ n, n = begins P len := ⟨_, rfl⟩
  rw [← er] at k14 DB DF DS BL
  rw [← en] at k28 DF DS BL
  obtain ⟨v, ev⟩ : ∃ v, v = dataFault P len z dlen := ⟨_, rfl⟩
  rw [← ev] at DB DF DS ⊢
  have hb0 := below1 w (.cells #[.slice ao len cap] 24)
  have hl1 := Lies_below hl hb0
  have hin1 := Parts_below hin hb0
  clear er en ev hl hin hlen
  by_cases hr : r = 0
  · subst hr
    by_cases hn : (dlen : Int) = n
    · subst hn
      have h250 : (dlen : Int) ≤ 250 := BL.out rfl
      have V : Hid (v = first (fun k => wordFault (z k)) dlen) := DS.out rfl rfl
      clear DB DF DS BL
      go_enter Tryd.func31, Tryd.ntmps31
      go_wp2_with (first
        | (go_at_call 44; refine (k14 _ hl1 hin1).mono ?_; rintro e w1 ⟨rfl, hb1⟩; have q0 := box1 hb1; have hin2 := Parts_below hin1 hb1; have hb2 := hb0.trans (hb1.mono hb0.size); clear hb1)
        | (go_at_call 13; refine (k28 _ hin2).mono ?_; rintro e w2 ⟨rfl, hb3⟩; have hb4 := hb2.trans (hb3.mono hb2.size)))
      have hd4 := Ints_below hd hb4
      go_loop [20] (fun i => ∃ k : Nat, k ≤ dlen ∧ i = .int .i64 k ∧ first (fun k => wordFault (z k)) k = 0) (fun i => dlen - (intOf i).toNat)
      case atStart => exact ⟨0, Nat.zero_le _, rfl, rfl⟩
      case round =>
        obtain ⟨k, hk, rfl, hz⟩ := hrel
        have HZ : Hid (first (fun k => wordFault (z k)) k = 0) := hz
        clear hz
        by_cases hkl : k < dlen
        · obtain ⟨bl, off, rfl, t⟩ := hd4 k hkl
          have s0 := t k hkl
          obtain ⟨x, ex⟩ : ∃ x, x = z k := ⟨_, rfl⟩
          rw [← ex] at s0
          have EX : Hid (wordFault (z k) = wordFault x) := by rw [ex]; exact (rfl : wordFault (z k) = _)
          have hkI : (k : Int) < dlen := by omega
          clear ex t hd hd4
          by_cases hx : 0 ≤ x ∧ x ≤ 65535
          · have e2 : Hid (wordFault x = 0) := if_pos hx
            go_wp2_with (go_at_call 21; refine (is _ _).mono ?_; rintro e w' ⟨rfl, rfl⟩)
            go_round
            case rel => exact ⟨k + 1, by omega, by go_num, by rw [first_succ HZ.out, EX.out]; exact e2.out⟩
            case measure => simp [intOf]; omega
          · have e2 : Hid (wordFault x = 2) := if_neg hx
            have e3 : Hid (v = 2) := V.out.trans ((first_stops hkl HZ.out (by rw [EX.out, e2.out]; decide)).trans (EX.out.trans e2.out))
            have d : decide (0 ≤ x ∧ x ≤ 65535) = false := decide_eq_false hx
            clear hx
            go_wp2_with (go_at_call 21; refine (is _ _).mono ?_; rintro e w' ⟨rfl, rfl⟩)
            go_ret
            exact ⟨by rw [e3.out]; rfl, hb4⟩
        · obtain rfl : k = dlen := by omega
          clear hd hd4
          go_wp2
          go_ret
          exact ⟨by rw [V.out, HZ.out]; rfl, hb4⟩
    · have V : Hid (v = 4) := DF.out rfl hn
      rcases (show (dlen : Int) < n ∨ n < (dlen : Int) by omega) with c0 | c0
      all_goals
        clear DB DF DS BL hn hd
        go_enter Tryd.func31, Tryd.ntmps31
        go_wp2_with (first
          | (go_at_call 44; refine (k14 _ hl1 hin1).mono ?_; rintro e w1 ⟨rfl, hb1⟩; have q0 := box1 hb1; have hin2 := Parts_below hin1 hb1; have hb2 := hb0.trans (hb1.mono hb0.size); clear hb1)
          | (go_at_call 13; refine (k28 _ hin2).mono ?_; rintro e w2 ⟨rfl, hb3⟩; have hb4 := hb2.trans (hb3.mono hb2.size)))
        go_ret
        exact ⟨by rw [V.out]; rfl, hb4⟩
  · have V : Hid (v = r) := DB.out hr
    have hr2 : (r == 0) = false := by simpa using hr
    clear DB DF DS BL hd
    go_enter Tryd.func31, Tryd.ntmps31
    go_wp2_with (go_at_call 44; refine (k14 _ hl1 hin1).mono ?_; rintro e w1 ⟨rfl, hb1⟩; have hb2 := hb0.trans (hb1.mono hb0.size); clear hb1)
    go_ret
    exact ⟨by rw [V.out]; rfl, hb2⟩

theorem ref (ao : Option Addr) (len cap : Nat) (hlen : len ≤ maxLen) (P : Nat → PartD) (da : Option Addr) (dlen dcap : Nat) (z : Nat → Int) (w : World) (hin : Parts w ao len P) (hd : Ints w da dlen z) :
    Calls Tryd.prog 26 #[.agg #[.slice ao len cap], .slice da dlen dcap] w fun e w' => e = .returned (.int .i64 (dataFault P len z dlen)) ∧ Below w.heap.size w w' := by
  have k15 : ∀ w, Parts w ao len P → _ := fun w h => RefImage.ref ao len cap P w h
  have k30 : ∀ w, Parts w ao len P → _ := fun w h => Image.wordsOf ao len cap hlen P w h
  have DB : Hid (imageFault P len ≠ 0 → dataFault P len z dlen = imageFault P len) := dataFault_bad
  have DF : Hid (imageFault P len = 0 → (dlen : Int) ≠ begins P len → dataFault P len z dlen = 4) := dataFault_form
  have DS : Hid (imageFault P len = 0 → (dlen : Int) = begins P len → dataFault P len z dlen = first (fun k => wordFault (z k)) dlen) := dataFault_some
  have BL : Hid (imageFault P len = 0 → begins P len ≤ 250) := fun h => (begins_mono (imageFault_zero h).2 len (Nat.le_refl _)).2.2
  obtain ⟨r, er⟩ : ∃ r, r = imageFault P len := ⟨_, rfl⟩
  obtain ⟨n, en⟩ : ∃ n, n = begins P len := ⟨_, rfl⟩
  rw [← er] at k15 DB DF DS BL
  rw [← en] at k30 DF DS BL
  obtain ⟨v, ev⟩ : ∃ v, v = dataFault P len z dlen := ⟨_, rfl⟩
  rw [← ev] at DB DF DS ⊢
  have hb0 := below1 w (.cells #[.slice ao len cap] 24)
  have hin1 := Parts_below hin hb0
  clear er en ev hin hlen
  by_cases hr : r = 0
  · subst hr
    by_cases hn : (dlen : Int) = n
    · subst hn
      have h250 : (dlen : Int) ≤ 250 := BL.out rfl
      have V : Hid (v = first (fun k => wordFault (z k)) dlen) := DS.out rfl rfl
      clear DB DF DS BL
      go_enter Tryd.func26, Tryd.ntmps26
      go_wp2_with (first
        | (go_at_call 40; refine (k15 _ hin1).mono ?_; rintro e w1 ⟨rfl, hb1⟩; have q0 := box1 hb1; have hin2 := Parts_below hin1 hb1; have hb2 := hb0.trans (hb1.mono hb0.size); clear hb1)
        | (go_at_call 41; refine (k30 _ hin2).mono ?_; rintro e w2 ⟨rfl, hb3⟩; have hb4 := hb2.trans (hb3.mono hb2.size)))
      have hd4 := Ints_below hd hb4
      go_loop [6] (fun i => ∃ k : Nat, k ≤ dlen ∧ i = .int .i64 k ∧ first (fun k => wordFault (z k)) k = 0) (fun i => dlen - (intOf i).toNat)
      case atStart => exact ⟨0, Nat.zero_le _, rfl, rfl⟩
      case round =>
        obtain ⟨k, hk, rfl, hz⟩ := hrel
        have HZ : Hid (first (fun k => wordFault (z k)) k = 0) := hz
        clear hz
        by_cases hkl : k < dlen
        · obtain ⟨bl, off, rfl, t⟩ := hd4 k hkl
          have s0 := t k hkl
          obtain ⟨x, ex⟩ : ∃ x, x = z k := ⟨_, rfl⟩
          rw [← ex] at s0
          have EX : Hid (wordFault (z k) = wordFault x) := by rw [ex]; exact (rfl : wordFault (z k) = _)
          have hkI : (k : Int) < dlen := by omega
          clear ex t hd hd4
          by_cases hx : 0 ≤ x ∧ x ≤ 65535
          · have e2 : Hid (wordFault x = 0) := if_pos hx
            go_wp2_with (go_at_call 28; refine (isWord _ _).mono ?_; rintro e w' ⟨rfl, rfl⟩)
            go_round
            case rel => exact ⟨k + 1, by omega, by go_num, by rw [first_succ HZ.out, EX.out]; exact e2.out⟩
            case measure => simp [intOf]; omega
          · have e2 : Hid (wordFault x = 2) := if_neg hx
            have e3 : Hid (v = 2) := V.out.trans ((first_stops hkl HZ.out (by rw [EX.out, e2.out]; decide)).trans (EX.out.trans e2.out))
            have d : decide (0 ≤ x ∧ x ≤ 65535) = false := decide_eq_false hx
            clear hx
            go_wp2_with (go_at_call 28; refine (isWord _ _).mono ?_; rintro e w' ⟨rfl, rfl⟩)
            go_ret
            exact ⟨by rw [e3.out]; rfl, hb4⟩
        · obtain rfl : k = dlen := by omega
          clear hd hd4
          go_wp2
          go_ret
          exact ⟨by rw [V.out, HZ.out]; rfl, hb4⟩
    · have V : Hid (v = 4) := DF.out rfl hn
      rcases (show (dlen : Int) < n ∨ n < (dlen : Int) by omega) with c0 | c0
      all_goals
        clear DB DF DS BL hn hd
        go_enter Tryd.func26, Tryd.ntmps26
        go_wp2_with (first
          | (go_at_call 40; refine (k15 _ hin1).mono ?_; rintro e w1 ⟨rfl, hb1⟩; have q0 := box1 hb1; have hin2 := Parts_below hin1 hb1; have hb2 := hb0.trans (hb1.mono hb0.size); clear hb1)
          | (go_at_call 41; refine (k30 _ hin2).mono ?_; rintro e w2 ⟨rfl, hb3⟩; have hb4 := hb2.trans (hb3.mono hb2.size)))
        go_ret
        exact ⟨by rw [V.out]; rfl, hb4⟩
  · have V : Hid (v = r) := DB.out hr
    have hr2 : (r == 0) = false := by simpa using hr
    clear DB DF DS BL hd
    go_enter Tryd.func26, Tryd.ntmps26
    go_wp2_with (go_at_call 40; refine (k15 _ hin1).mono ?_; rintro e w1 ⟨rfl, hb1⟩; have hb2 := hb0.trans (hb1.mono hb0.size); clear hb1)
    go_ret
    exact ⟨by rw [V.out]; rfl, hb2⟩
end Go.Proofs.YtmbbkabecipkaacDoor.Data

namespace Go.Proofs.YtmbbkabecipkaacDoor.RunBad
open Go.RowKit Tab Go.Proofs.YtmbbkabecipkaacDoor.Check Lists Go.Proofs.YtmbbkabecipkaacDoor.Read Img

theorem size41 : (Tryd.prog.info? 41).map (·.size) = some 5 := by kernel_rfl
theorem results_is : Tryd.f15.results = #[.cell 12 41, .tmp 13] := by kernel_rfl

/-- an outcome that lies in the result's block is handed back -/
theorem results5 (tmps : Array Value) (w : World) (g : Nat) (cs : Array Value) (t : TypeId) (fr : Nat × Nat) (v : Value) (hp : tmps.getD 12 undef = .pointer (some ⟨g, 0, none⟩)) (hv : tmps.getD 13 undef = v) (hg : w.heap[g]? = some (.cells cs t fr)) (hs : cs.size = 5) :
    (results Tryd.f15 tmps).run Tryd.prog w = .ok (.tuple #[.agg cs, v]) w := by
  rw [results_cell_tmp results_is, hp, hv]
  have h := run_loadVar_row (P := Tryd.prog) w g t 41 cs fr _ hg Tryd.underlying41 rfl (by rw [size41, hs])
  simp [asAddr, h, Result.andThen]

/-- no outcome -/
def zero : Array Value := #[.int .i64 0, .int .i64 0, .slice none 0 0, .slice none 0 0, .slice none 0 0]

theorem zero_one : zero.all (·.oneCell') = true := by simp [zero, Value.oneCell']

theorem below_row {B g : Nat} {w0 w : World} (hb : Below B w0 w) (hBg : B ≤ g) (cs : Array Value) : Below B w0 (w.setRow g cs) :=
  hb.trans ⟨rfl, rfl, rfl, by simp [World.setRow], fun k hk => setRow_other w g k cs (by omega)⟩

theorem two_at (w : World) (o o' : Obj) : ((w.alloc o).alloc o').heap[w.heap.size + 1]? = some o' := heap_alloc2_new w o o'

set_option maxRecDepth 100000 in
set_option maxHeartbeats 2000000 in
theorem data_bad (ao : Option Addr) (len cap : Nat) (da : Option Addr) (dlen dcap : Nat) (p en : Int) (aa : Option Addr) (alen acap : Nat) (fuel : Int) (r : Int) (hr : (r == 0) = false) (w : World)
    (k8 : Calls Tryd.prog 26 #[.agg #[.slice ao len cap], .slice da dlen dcap] ((w.alloc (.cells #[.slice ao len cap] 24)).alloc (.cells #[.int .i64 0, .int .i64 0, .slice none 0 0, .slice none 0 0, .slice none 0 0] 41)) fun e w' => e = .returned (.int .i64 r) ∧ Below ((w.alloc (.cells #[.slice ao len cap] 24)).alloc (.cells #[.int .i64 0, .int .i64 0, .slice none 0 0, .slice none 0 0, .slice none 0 0] 41)).heap.size ((w.alloc (.cells #[.slice ao len cap] 24)).alloc (.cells #[.int .i64 0, .int .i64 0, .slice none 0 0, .slice none 0 0, .slice none 0 0] 41)) w') :
    Calls Tryd.prog 15 #[.agg #[.slice ao len cap], .slice da dlen dcap, .int .i64 p, .int .i64 en, .slice aa alen acap, .int .i64 fuel] w fun e w' => e = .returned (.tuple #[.agg zero, .int .i64 r]) ∧ Below w.heap.size w w' := by
  have hb0 := below2 w (.cells #[.slice ao len cap] 24) (.cells #[.int .i64 0, .int .i64 0, .slice none 0 0, .slice none 0 0, .slice none 0 0] 41)
  have hz := two_at w (.cells #[.slice ao len cap] 24) (.cells #[.int .i64 0, .int .i64 0, .slice none 0 0, .slice none 0 0, .slice none 0 0] 41)
  have hsz : w.heap.size + 1 < ((w.alloc (.cells #[.slice ao len cap] 24)).alloc (.cells #[.int .i64 0, .int .i64 0, .slice none 0 0, .slice none 0 0, .slice none 0 0] 41)).heap.size := by simp
  have HZ : Hid _ := hz
  clear hz
  rcases Nat.eq_zero_or_pos alen with rfl | hpos
  · go_enter Tryd.func15, Tryd.ntmps15
    go_wp2_with (go_at_call 26; refine k8.mono ?_; rintro e w1 ⟨rfl, hb1⟩; have hb2 := hb0.trans (hb1.mono hb0.size); have hz1 := (hb1.block _ hsz).trans HZ.out; have HZ1 : Hid _ := hz1; clear hz1 hb1)
    refine wp_loop_rounds 1 ?_
    rw [rounds_succ]
    go_wp2_with ((with_reducible show wpList _ _ _ ({ dst := none, op := _, type := _, pos := "low.go:256", after := _, guard := _ } :: _) _ _); refine wpList_store_row rfl 41 _ _ rfl (w.heap.size + 1) zero rfl rfl 41 _ HZ1.out size41 rfl zero_one ?_)
    refine bodyPost_ret (results5 _ _ (w.heap.size + 1) zero 41 (0, 0) _ rfl rfl (setRow_heap _ _ _ _ _ _ HZ1.out) rfl) rfl ?_
    exact ⟨rfl, below_row hb2 (by omega) _⟩
  · have hposI : (0 : Int) < alen := by omega
    go_enter Tryd.func15, Tryd.ntmps15
    go_wp2_with (go_at_call 26; refine k8.mono ?_; rintro e w1 ⟨rfl, hb1⟩; have hb2 := hb0.trans (hb1.mono hb0.size); have hz1 := (hb1.block _ hsz).trans HZ.out; have HZ1 : Hid _ := hz1; clear hz1 hb1)
    refine wp_loop_rounds 1 ?_
    rw [rounds_succ]
    go_wp2_with ((with_reducible show wpList _ _ _ ({ dst := none, op := _, type := _, pos := "low.go:256", after := _, guard := _ } :: _) _ _); refine wpList_store_row rfl 41 _ _ rfl (w.heap.size + 1) zero rfl rfl 41 _ HZ1.out size41 rfl zero_one ?_)
    refine bodyPost_ret (results5 _ _ (w.heap.size + 1) zero 41 (0, 0) _ rfl rfl (setRow_heap _ _ _ _ _ _ HZ1.out) rfl) rfl ?_
    exact ⟨rfl, below_row hb2 (by omega) _⟩
end Go.Proofs.YtmbbkabecipkaacDoor.RunBad
