/-
  WHAT mach.enter, mach.noted AND mach.gate GIVE, as the plain machine has it; a Call and a Gate that goes through.
  Conditions: the run lies there, with the words that were taken; the image may be.
-/
import Derived.Test.YtmbbkabecipkaacDoorWhole5
import Derived.Test.YtmbbkabecipkaacDoorWhole11
namespace Go.Proofs.YtmbbkabecipkaacDoor.Loud
open Go.RowKit Tab Go.Proofs.YtmbbkabecipkaacDoor.Check Lists Img Mach Own Go.Proofs.YtmbbkabecipkaacDoor.Inv Go.Proofs.YtmbbkabecipkaacDoor.Frame Take Go.Proofs.YtmbbkabecipkaacDoor.Went Go.Proofs.YtmbbkabecipkaacDoor.Entry ActE ActQ

/-- words that lie somewhere -/
structure SrcAt (w : World) (ao : Option Addr) (xs : List Int) : Prop where
  at_ : 0 < xs.length → ∃ ad : Addr, ao = some ad ∧ ad.block < w.heap.size ∧ ∀ j u, (ints xs)[j]? = some u → w.cell? (ad.add j) = some u

theorem add_block (ad : Addr) (j : Nat) : (ad.add j).block = ad.block := by unfold Addr.add; split <;> rfl

theorem lt_of_same {w w' : World} {b : Nat} (hl : b < w.heap.size) (h : w'.heap[b]? = w.heap[b]?) : b < w'.heap.size := by
  refine Nat.lt_of_not_le fun hn => ?_
  rw [Array.getElem?_eq_none hn, Array.getElem?_eq_getElem hl] at h
  cases h

theorem SrcAt.same {w w' : World} {ao : Option Addr} {xs : List Int} (h : SrcAt w ao xs) (hb : 0 < xs.length → ∀ ad : Addr, ao = some ad → w'.heap[ad.block]? = w.heap[ad.block]?) : SrcAt w' ao xs :=
  ⟨fun hp => by
    obtain ⟨ad, e, hl, hc⟩ := h.at_ hp
    exact ⟨ad, e, lt_of_same hl (hb hp ad e), fun j u hu => (World.cell?_of_block (by rw [add_block]; exact hb hp ad e)).trans (hc j u hu)⟩⟩

theorem SrcAt.below {w w' : World} {ao : Option Addr} {xs : List Int} (h : SrcAt w ao xs) (hb : Below w.heap.size w w') : SrcAt w' ao xs :=
  ⟨fun hp => by
    obtain ⟨ad, e, hl, hc⟩ := h.at_ hp
    exact ⟨ad, e, Nat.lt_of_lt_of_le hl hb.size, fun j u hu => (World.cell?_of_block (by rw [add_block]; exact hb.block _ hl)).trans (hc j u hu)⟩⟩

theorem SrcAt.src {w : World} {ao : Option Addr} {xs : List Int} (h : SrcAt w ao xs) : 0 < xs.length → ∃ ad, ao = some ad ∧ ∀ w', Below w.heap.size w w' → ∀ j u, (ints xs)[j]? = some u → w'.cell? (ad.add j) = some u := fun hp => by
  obtain ⟨ad, e, hl, hc⟩ := h.at_ hp
  exact ⟨ad, e, fun w' hb j u hu => (World.cell?_of_block (by rw [add_block]; exact hb.block _ hl)).trans (hc j u hu)⟩

/-- the words that were taken of a frame -/
theorem src_words {own : Nat → Tag} {w : World} {v tv : Value} {ws l : List Int} {t : Tag} (h : WordsAt own w v ws l t) (hc : Cut v tv l.length) : ∃ ao c, tv = .slice ao l.length c ∧ SrcAt w ao l ∧ (0 < l.length → ∀ ad : Addr, ao = some ad → own ad.block = t) := by
  obtain ⟨ao, c, e, hcell⟩ := h.cut hc
  refine ⟨ao, c, e, ⟨fun hp => ?_⟩, fun hp ad ha => ?_⟩
  · obtain ⟨g, rfl, c0⟩ := hcell 0 l[0] (List.getElem?_eq_getElem hp)
    refine ⟨_, rfl, World.block_lt_of_cell? w _ c0, fun j u hu => ?_⟩
    have hj : j < l.length := by have := (List.getElem?_eq_some_iff.1 hu).1; rwa [ints_length] at this
    obtain ⟨g', e', cj⟩ := hcell j l[j] (List.getElem?_eq_getElem hj)
    cases e'
    rw [show (⟨g, ws.length, none⟩ : Addr).add j = ⟨g, ws.length + j, none⟩ by unfold Addr.add; split <;> simp_all, cj, ← hu]
    simp [ints, List.getElem?_eq_getElem hj]
  · obtain ⟨ao', c', e', hcut⟩ := hc
    rw [e'] at e
    cases e
    obtain ⟨g, len, cap, hv, ha'⟩ := hcut hp
    rw [ha'] at ha
    cases ha
    rcases h with ⟨h, _⟩ | ⟨g', cap', cur, hv', ht, _⟩
    · rw [h] at hv; cases hv
    · rw [hv] at hv'
      cases hv'
      exact ht

section
variable {own : Nat → Tag} {w1 w w' : World} {R D g cap : Nat} {pS lS vF vT vC : Value} {fuel : Int} {f : Fr} {v tv : Value} {F : List (Fr × Value)} {l data told : List Int} {C : List (Rec × Value)} {gL len capL capP : Nat} {P : Nat → PartD} {ao : Option Addr}

theorem enter_any (h : Inv own w1 w R D pS lS vF vT vC fuel ((f, v) :: F) l data told C) (xs : List Int) (hx : xs.length ≤ 4) (part pc : Nat) (nt : Option Nat) (ta : Option Addr) (c : Nat) (hF : F.length + 1 ≤ 20) (src : SrcAt w ta xs) (rm : List Fr) :
    Calls Tryd.prog 24 #[.pointer (some ⟨R, 0, none⟩), .int .i64 part, .int .i64 pc, .slice ta xs.length c, .int .i64 (note nt)] w fun e w' => Went w1 R D pS lS fuel e w' (Mach.enter ⟨rm, data, told, C.map Prod.fst⟩ f (F.map Prod.fst) { part := part, pc := pc, locals := pad xs, words := [], noted := nt }) := by
  by_cases hlt : F.length + 1 < 20
  · refine (Enter.enter h xs hx part pc nt ta c (by simpa using hlt) src.src).mono ?_
    rintro e w' ⟨rfl, own', v', h'⟩
    rw [Mach.enter, if_pos (by simpa using hlt)]
    exact went_on h' rfl
  · have h20 : ((f, v) :: F).length = 20 := by simp; omega
    obtain ⟨aF, cF, rfl⟩ := owned_form h.frames
    have c2 := h.run.cell 2 (v := .slice aF ((f, v) :: F).length cF) rfl
    rw [h20] at c2
    refine (Enter.deep part pc (.slice ta xs.length c) (note nt) w R aF cF c2).mono ?_
    rintro e w' ⟨rfl, rfl⟩
    rw [Mach.enter, if_neg (by simpa using hlt)]
    exact went_end h.fin ⟨rfl, rfl, rfl⟩

set_option maxRecDepth 100000 in
set_option maxHeartbeats 1000000 in
theorem call_ (h : Inv own w1 w R D pS lS (.slice (some ⟨g, 0, none⟩) (F.length + 1) cap) vT vC fuel ((f, v) :: F) l data told C) (hc : Cut v tv l.length) (a b c : Int) (k : Nat) (ha : a = k) (hl : l.length ≤ 4) (hF : F.length + 1 ≤ 20) (rm : List Fr) :
    Calls Tryd.prog 39 #[.pointer (some ⟨R, 0, none⟩), .pointer (some ⟨g, F.length * 12, none⟩), .agg #[.int .i64 11, .int .i64 a, .int .i64 b, .int .i64 c], tv] w fun e w' => Went w1 R D pS lS fuel e w' (Mach.enter ⟨rm, data, told, C.map Prod.fst⟩ f (F.map Prod.fst) { part := f.part, pc := k, locals := pad l, words := [], noted := none }) := by
  have hI := h.alloc (.cells #[.int .i64 11, .int .i64 a, .int .i64 b, .int .i64 c] 27)
  obtain ⟨ta, tc, rfl, hsrc, _⟩ := src_words h.rooms.1.1 hc
  have c0 : ∀ o, (w.alloc o).cell? ⟨g, F.length * 12, none⟩ = some (.int .i64 f.part) := fun o => (h.alloc o).top_cell 0 rfl
  have k24 : ∀ W, Inv own w1 W R D pS lS (.slice (some ⟨g, 0, none⟩) (F.length + 1) cap) vT vC fuel ((f, v) :: F) l data told C → Below w.heap.size w W → _ := fun W hI hb => enter_any hI l hl f.part k none ta tc hF (hsrc.below hb) rm
  have hb0 := below1 w (.cells #[.int .i64 11, .int .i64 a, .int .i64 b, .int .i64 c] 27)
  subst ha
  obtain ⟨out, hout⟩ : ∃ o, o = Mach.enter ⟨rm, data, told, C.map Prod.fst⟩ f (F.map Prod.fst) { part := f.part, pc := k, locals := pad l, words := [], noted := none } := ⟨_, rfl⟩
  rw [← hout] at k24 ⊢
  obtain ⟨n, hn⟩ : ∃ n, n = l.length := ⟨_, rfl⟩
  obtain ⟨q, hq⟩ : ∃ q, q = f.part := ⟨_, rfl⟩
  rw [← hn, ← hq] at k24
  rw [← hn]
  rw [← hq] at c0
  have K24 : Hid _ := k24
  have HI : Hid _ := hI
  have HB0 : Hid _ := hb0
  clear h hI k24 hb0 hc hout hl hF hsrc hn hq
  go_enter Tryd.func39, Tryd.ntmps39
  go_wp2
  go_region_with ((go_at_call 24; refine (K24.out _ (by exact Inv.same HI.out rfl rfl rfl rfl) (by exact HB0.out.drew)).mono ?_; intro e w' hwent; obtain ⟨n', rfl⟩ := went_ret hwent))
  all_goals
    go_wp2
    go_ret
    exact hwent

/-- which note a call through a gate has, and what is noted then -/
def noteOf (calls : List Rec) (r : Rec) : Option Nat × List Rec := if calls.length < 100 then (some calls.length, calls ++ [r]) else (none, calls)

theorem noted_any (h : Inv own w1 w R D pS lS vF vT vC fuel F l data told C) (by_ pa en : Nat) (op c : Int) (xs : List Int) (hx : xs.length ≤ 4) (ta : Option Addr) (tc : Nat) (hF : F.length ≤ 20) (hC : C.length ≤ 100) (src : SrcAt w ta xs) :
    Calls Tryd.prog 54 #[.pointer (some ⟨R, 0, none⟩), .int .i64 by_, .agg #[.int .i64 op, .int .i64 pa, .int .i64 en, .int .i64 c], .slice ta xs.length tc] w fun e w' => e = .returned (.int .i64 (note (noteOf (C.map Prod.fst) { by_ := by_, part := pa, entry := en, args := xs, deep := F.length, done := false, value := 0 }).1)) ∧
      ∃ C' own' vC', Inv own' w1 w' R D pS lS vF vT vC' fuel F l data told C' ∧ C'.map Prod.fst = (noteOf (C.map Prod.fst) { by_ := by_, part := pa, entry := en, args := xs, deep := F.length, done := false, value := 0 }).2 ∧
      ∀ b, b < w.heap.size → own b ≠ (1, 0) → own b ≠ (5, 0) → w'.heap[b]? = w.heap[b]? := by
  by_cases hlt : C.length < 100
  · refine (Noted.noted h by_ pa en op c xs hx ta tc hF hlt src.src).mono ?_
    rintro e w' ⟨rfl, own', vC', va, h', hb⟩
    rw [noteOf, if_pos (by simpa using hlt)]
    exact ⟨by simp [note], _, _, _, h', by simp, hb⟩
  · obtain ⟨aC, cC, rfl⟩ := owned_form h.calls
    have c8 := h.run.cell 8 (v := .slice aC C.length cC) rfl
    rw [show C.length = 100 by omega] at c8
    refine (Noted.noted_full by_ op pa en c _ w R aC cC c8).mono ?_
    rintro e w' ⟨rfl, hb⟩
    rw [noteOf, if_neg (by simpa using hlt)]
    exact ⟨by simp [note], C, own, _, h.moves (Moves.below hb (fun _ _ => rfl) _), rfl, fun b hbw _ _ => hb.block b hbw⟩

theorem three_at (w : World) (a b c : Obj) : (((w.alloc a).alloc b).alloc c).drew.heap[w.heap.size]? = some a ∧ (((w.alloc a).alloc b).alloc c).drew.heap[w.heap.size + 1]? = some b ∧ (((w.alloc a).alloc b).alloc c).drew.heap[w.heap.size + 1 + 1]? = some c := by
  have e1 : (w.alloc a).heap.size = w.heap.size + 1 := by simp
  have e2 : ((w.alloc a).alloc b).heap.size = w.heap.size + 1 + 1 := by simp
  refine ⟨(Below.heap_alloc _ c _ (by omega)).trans ((Below.heap_alloc _ b _ (by omega)).trans (heap_alloc_new w a)), (Below.heap_alloc _ c _ (by omega)).trans ?_, ?_⟩
  · have := heap_alloc_new (w.alloc a) b
    rwa [e1] at this
  · have := heap_alloc_new ((w.alloc a).alloc b) c
    rwa [e2] at this

set_option maxRecDepth 100000 in
set_option maxHeartbeats 4000000 in
theorem gate_ok (h : Inv own w1 w R D (.slice ao len capP) lS (.slice (some ⟨g, 0, none⟩) (F.length + 1) cap) vT vC fuel ((f, v) :: F) l data told C) (hP : Kept w1 R D ao len P) (hlen : len ≤ 5) (by_ k i : Nat) (op : Int) (hk : k < len) (hi : i < (P k).el) (hel : (P k).el ≤ 8) (xs : List Int) (hx : xs.length ≤ 4) (hpr : (P k).prs i = xs.length) (at_ : Nat) (hat : (P k).ats i = at_) (ta : Option Addr) (tc : Nat) (src : SrcAt w ta xs) (stg : 0 < xs.length → ∀ ad : Addr, ta = some ad → own ad.block ≠ (1, 0) ∧ own ad.block ≠ (5, 0)) (hF : F.length + 1 ≤ 20) (hC : C.length ≤ 100) (rm : List Fr) :
    Calls Tryd.prog 49 #[.pointer (some ⟨R, 0, none⟩), .int .i64 by_, .agg #[.int .i64 op, .int .i64 k, .int .i64 i, .int .i64 xs.length], .slice ta xs.length tc] w fun e w' => Went w1 R D (.slice ao len capP) lS fuel e w'
      (Mach.enter ⟨rm, data, told, (noteOf (C.map Prod.fst) { by_ := by_, part := k, entry := i, args := xs, deep := F.length + 1, done := false, value := 0 }).2⟩ f (F.map Prod.fst) { part := k, pc := at_, locals := pad xs, words := [], noted := (noteOf (C.map Prod.fst) { by_ := by_, part := k, entry := i, args := xs, deep := F.length + 1, done := false, value := 0 }).1 }) := by
  have hin := parts_of h hP
  have hR : w.cell? ⟨R, 0, none⟩ = some (.slice ao len capP) := h.run.cell 0 rfl
  have k33 : ∀ w', Below w.heap.size w w' → _ := fun w' hb => entryOf_ok ao len capP hlen P k i hk hi hel w' (hin w' hb)
  rw [hat, hpr] at k33
  have hb0 := below1 w (.cells #[.int .i64 op, .int .i64 k, .int .i64 i, .int .i64 xs.length] 27)
  have hlt := World.block_lt_of_cell? w _ hR
  have hne : w.heap.size ≠ R := by simp at hlt; omega
  have u : ∀ o, (w.alloc o).cell? ⟨R, 0, none⟩ = some (.slice ao len capP) := fun o => (World.cell?_alloc_past o _ _ hlt).trans hR
  obtain ⟨no, hno⟩ : ∃ no, no = noteOf (C.map Prod.fst) { by_ := by_, part := k, entry := i, args := xs, deep := F.length + 1, done := false, value := 0 } := ⟨_, rfl⟩
  rw [← hno]
  have k54 : ∀ W, Below w.heap.size w W → Calls Tryd.prog 54 #[.pointer (some ⟨R, 0, none⟩), .int .i64 by_, .agg #[.int .i64 op, .int .i64 k, .int .i64 i, .int .i64 xs.length], .slice ta xs.length tc] W fun e w' => e = .returned (.int .i64 (note no.1)) ∧ Hid (∀ b, w.heap.size ≤ b → b < W.heap.size → w'.heap[b]? = W.heap[b]?) ∧
      Hid (∃ C' own' vC', Inv own' w1 w' R D (.slice ao len capP) lS (.slice (some ⟨g, 0, none⟩) (F.length + 1) cap) vT vC' fuel ((f, v) :: F) l data told C' ∧ C'.map Prod.fst = no.2 ∧ SrcAt w' ta xs) := by
    intro W hb
    have hI := h.moves (Moves.below (own' := fun b => if b < w.heap.size then own b else (9, 9)) hb (fun b hb => if_pos hb) (9, 9))
    refine (noted_any hI by_ k i op xs.length xs hx ta tc (by simpa using hF) hC (src.below hb)).mono ?_
    rw [List.length_cons, ← hno]
    rintro e w' ⟨rfl, C', own', vC', h', hC', hbk⟩
    refine ⟨rfl, fun b h1 h2 => hbk b h2 (by rw [if_neg (by omega)]; decide) (by rw [if_neg (by omega)]; decide), C', own', vC', h', hC', (src.below hb).same fun hp ad e => ?_⟩
    obtain ⟨ad', e', hl', _⟩ := src.at_ hp
    rw [e] at e'
    cases e'
    exact hbk _ (Nat.lt_of_lt_of_le hl' hb.size) (by rw [if_pos hl']; exact (stg hp ad e).1) (by rw [if_pos hl']; exact (stg hp ad e).2)
  have k24 : ∀ W, (∃ C' own' vC', Inv own' w1 W R D (.slice ao len capP) lS (.slice (some ⟨g, 0, none⟩) (F.length + 1) cap) vT vC' fuel ((f, v) :: F) l data told C' ∧ C'.map Prod.fst = no.2 ∧ SrcAt W ta xs) → Calls Tryd.prog 24 #[.pointer (some ⟨R, 0, none⟩), .int .i64 k, .int .i64 at_, .slice ta xs.length tc, .int .i64 (note no.1)] W fun e w' => Went w1 R D (.slice ao len capP) lS fuel e w' (Mach.enter ⟨rm, data, told, no.2⟩ f (F.map Prod.fst) { part := k, pc := at_, locals := pad xs, words := [], noted := no.1 }) := by
    rintro W ⟨C', own', vC', h', hC', hs⟩
    rw [← hC']
    exact enter_any h' xs hx k at_ no.1 ta tc hF hs rm
  obtain ⟨out, hout⟩ : ∃ o, o = Mach.enter ⟨rm, data, told, no.2⟩ f (F.map Prod.fst) { part := k, pc := at_, locals := pad xs, words := [], noted := no.1 } := ⟨_, rfl⟩
  rw [← hout] at k24 ⊢
  obtain ⟨q, hq⟩ : ∃ q, q = note no.1 := ⟨_, rfl⟩
  rw [← hq] at k24 k54
  obtain ⟨n, hn⟩ : ∃ n, n = xs.length := ⟨_, rfl⟩
  rw [← hn] at k33 hb0 k54 k24
  have K33 : Hid _ := k33
  have K54 : Hid _ := k54
  have K24 : Hid _ := k24
  have HB0 : Hid _ := hb0
  rw [← hn]
  clear k33 k54 k24 hb0 hin hel hn hq hout hno hx hpr hat src stg hF hC h hP hlen hi hk
  go_enter Tryd.func49, Tryd.ntmps49
  go_wp2
  go_region_held3 (fun w' => w'.cell? ⟨w.heap.size, 1, none⟩ = some (.int .i64 k) ∧ w'.cell? ⟨w.heap.size, 2, none⟩ = some (.int .i64 i) ∧ w'.cell? ⟨R, 0, none⟩ = some (.slice ao len capP)) (go_keep)
    (first | (go_at_call 33; refine (K33.out _ (by first | (with_reducible exact HB0.out.drew) | (with_reducible exact (HB0.out.alloc (by simp) _).drew))).mono ?_; rintro e w' ⟨rfl, rfl⟩))
  all_goals go_wp2
  · obtain ⟨W, hW⟩ : ∃ W, W = (((w.alloc (.cells #[.int .i64 op, .int .i64 k, .int .i64 i, .int .i64 n] 27)).alloc (.cells #[.int .i64 at_, .int .i64 n] 52)).alloc (.cells #[.int .i64 at_, .int .i64 n] 52)).drew := ⟨_, rfl⟩
    rw [← hW]
    have hbW : Below w.heap.size w W := by rw [hW]; exact (((below1 w _).alloc (by simp) _).alloc (by simp; omega) _).drew
    obtain ⟨t0, t1, t2⟩ := three_at w (.cells #[.int .i64 op, .int .i64 k, .int .i64 i, .int .i64 n] 27) (.cells #[.int .i64 at_, .int .i64 n] 52) (.cells #[.int .i64 at_, .int .i64 n] 52)
    rw [← hW] at t0 t1 t2
    have d := fun j => cell_of_row W w.heap.size j _ 27 (0, 0) t0
    have d0 : W.cell? ⟨w.heap.size, 0, none⟩ = some (.int .i64 op) := d 0
    have d1 : W.cell? ⟨w.heap.size, 1, none⟩ = some (.int .i64 k) := d 1
    have d2 : W.cell? ⟨w.heap.size, 2, none⟩ = some (.int .i64 i) := d 2
    have d3 : W.cell? ⟨w.heap.size, 3, none⟩ = some (.int .i64 n) := d 3
    have dy : W.cell? ⟨w.heap.size + 1 + 1, 0, none⟩ = some (.int .i64 at_) := cell_of_row W _ 0 _ 52 (0, 0) t2
    have l0 : w.heap.size < W.heap.size := (Array.getElem?_eq_some_iff.1 t0).1
    have l1 : w.heap.size + 1 + 1 < W.heap.size := (Array.getElem?_eq_some_iff.1 t2).1
    have HBW : Hid _ := hbW
    have L0 : Hid (w.heap.size < W.drew.heap.size) := l0
    have L1 : Hid (w.heap.size + 1 + 1 < W.drew.heap.size) := l1
    clear hW hbW l0 l1 t0 t1 t2 d
    go_region_with (first
      | (go_at_call 54; refine (K54.out _ (by exact HBW.out.drew)).mono ?_; rintro e w6 ⟨rfl, hbk, HR⟩; have q1 : w6.cell? ⟨w.heap.size, 1, none⟩ = some (.int .i64 k) := ((World.cell?_of_block (hbk.out _ (Nat.le_refl _) L0.out)).trans d1); have qy : w6.cell? ⟨w.heap.size + 1 + 1, 0, none⟩ = some (.int .i64 at_) := ((World.cell?_of_block (hbk.out _ (by show w.heap.size ≤ w.heap.size + 1 + 1; omega) L1.out)).trans dy); clear hbk)
      | (go_at_call 24; refine (K24.out _ HR.out).mono ?_; intro e w' hwent; obtain ⟨n', rfl⟩ := went_ret hwent))
    all_goals
      go_wp2
      go_ret
      exact hwent
  · obtain ⟨W, hW⟩ : ∃ W, W = (((w.alloc (.cells #[.int .i64 op, .int .i64 k, .int .i64 i, .int .i64 n] 27)).alloc (.cells #[.int .i64 at_, .int .i64 n] 52)).alloc (.cells #[.int .i64 at_, .int .i64 n] 52)).drew := ⟨_, rfl⟩
    rw [← hW]
    have hbW : Below w.heap.size w W := by rw [hW]; exact (((below1 w _).alloc (by simp) _).alloc (by simp; omega) _).drew
    obtain ⟨t0, t1, t2⟩ := three_at w (.cells #[.int .i64 op, .int .i64 k, .int .i64 i, .int .i64 n] 27) (.cells #[.int .i64 at_, .int .i64 n] 52) (.cells #[.int .i64 at_, .int .i64 n] 52)
    rw [← hW] at t0 t1 t2
    have d := fun j => cell_of_row W w.heap.size j _ 27 (0, 0) t0
    have d0 : W.cell? ⟨w.heap.size, 0, none⟩ = some (.int .i64 op) := d 0
    have d1 : W.cell? ⟨w.heap.size, 1, none⟩ = some (.int .i64 k) := d 1
    have d2 : W.cell? ⟨w.heap.size, 2, none⟩ = some (.int .i64 i) := d 2
    have d3 : W.cell? ⟨w.heap.size, 3, none⟩ = some (.int .i64 n) := d 3
    have dy : W.cell? ⟨w.heap.size + 1, 0, none⟩ = some (.int .i64 at_) := cell_of_row W _ 0 _ 52 (0, 0) t1
    have l0 : w.heap.size < W.heap.size := (Array.getElem?_eq_some_iff.1 t0).1
    have l1 : w.heap.size + 1 < W.heap.size := (Array.getElem?_eq_some_iff.1 t1).1
    have HBW : Hid _ := hbW
    have L0 : Hid (w.heap.size < W.drew.heap.size) := l0
    have L1 : Hid (w.heap.size + 1 < W.drew.heap.size) := l1
    clear hW hbW l0 l1 t0 t1 t2 d
    go_region_with (first
      | (go_at_call 54; refine (K54.out _ (by exact HBW.out.drew)).mono ?_; rintro e w6 ⟨rfl, hbk, HR⟩; have q1 : w6.cell? ⟨w.heap.size, 1, none⟩ = some (.int .i64 k) := ((World.cell?_of_block (hbk.out _ (Nat.le_refl _) L0.out)).trans d1); have qy : w6.cell? ⟨w.heap.size + 1, 0, none⟩ = some (.int .i64 at_) := ((World.cell?_of_block (hbk.out _ (by show w.heap.size ≤ w.heap.size + 1; omega) L1.out)).trans dy); clear hbk)
      | (go_at_call 24; refine (K24.out _ HR.out).mono ?_; intro e w' hwent; obtain ⟨n', rfl⟩ := went_ret hwent))
    all_goals
      go_wp2
      go_ret
      exact hwent
end
end Go.Proofs.YtmbbkabecipkaacDoor.Loud
