/-
  THE WALK OF THE LAW 'barbicankeep.TokensCut': at every text the call returns true, and lays new memory alone.
  Conditions: none.
-/
import Derived.Test.YtmmcpjmgindpkadCutWalk
import Derived.Test.YtmmcpjmgindpkadEqualTok
namespace Go.Proofs.Ytmmcpjmgindpkad.KeepWalk
open Go.RowKit Bytes Go.Proofs.Ytmmcpjmgindpkad.Cut RefCut SameTok Again EqualTok CutWalk

theorem info9 : (Try.prog.info? 9).map (fun i => (i.zero, i.size, i.bytes)) = some (some (.string ⟨#[]⟩), 1, 16) := by kernel_rfl

/-- a row of texts of one's own -/
structure Texts (w : World) (base : Nat) (v : Value) (n : Nat) (xs : List Value) : Prop where
  out : w.ownsRow base 9 1 v n xs

theorem one_news1 {w : World} {o : Obj} {v0 : Value} {t : TypeId} : ∀ (j : Nat) (u : Value), [v0][j]? = some u → ((w.alloc o).alloc (.cells #[v0] t)).cell? ((⟨w.heap.size + 1, 0, none⟩ : Addr).add j) = some u := by
  intro j u hj
  match j, hj with
  | 0, hj =>
    simp at hj
    subst hj
    have h := heap_alloc_new (w.alloc o) (.cells #[v0] t)
    rw [World.size_alloc] at h
    exact cell_of_heap h rfl

theorem one_one {b : ByteArray} : ∀ u ∈ [Value.string b], u.oneCell' = true := by
  intro u hu
  simp at hu
  subst hu
  rfl

theorem walk_great (s : ByteArray) (h3 : 3000 < s.size) (w : World) : Calls Try.prog 5 #[.string s] w fun e w' => e = .returned (.bool true) ∧ Below w.heap.size w w' := by
  have k8 : ∀ W, Calls Try.prog 8 #[.string s] W fun e w' => e = .returned (.tuple #[.slice none 0 0, .int .i64 1]) ∧ w' = W := fun W => Cut.great s h3 W
  go_enter Try.func5, Try.ntmps5
  go_wp2_with (go_at_call 8; refine (k8 _).mono ?_; rintro e w' ⟨rfl, rfl⟩)
  go_ret
  exact ⟨rfl, Below.refl _ _⟩

theorem walk_bad (s : ByteArray) (hs : s.size ≤ 3000) (hr : (cut s.data.toList (s.data.toList.length + 1) 0 []).2 ≠ 0) (w : World) : Calls Try.prog 5 #[.string s] w fun e w' => e = .returned (.bool true) ∧ Below w.heap.size w w' := by
  have h0 := cut_err s.data.toList _ _ _ hr
  obtain ⟨r, er⟩ : ∃ r, (cut s.data.toList (s.data.toList.length + 1) 0 []).2 = r := ⟨_, rfl⟩
  have k8 : ∀ W, Calls Try.prog 8 #[.string s] W fun e w' => Below W.heap.size W w' ∧ ∃ a c, e = .returned (.tuple #[.slice a 0 c, .int .i64 r]) := fun W => (cutGo s hs _ rfl W).mono fun e w' ⟨hb, v, he, ho⟩ => by
    rw [h0] at ho
    rcases form_of (l := []) ho with ⟨_, a, c, rfl⟩ | ⟨h1, _⟩
    · exact ⟨hb, a, c, by rw [he, er]⟩
    · simp at h1
  rw [er] at hr
  have hr2 : (r == 0) = false := beq_eq_false_iff_ne.2 hr
  clear hr er h0
  go_enter Try.func5, Try.ntmps5
  go_wp2_with (go_at_call 8; refine (k8 _).mono ?_; rintro e w' ⟨hb, a, c, rfl⟩)
  go_ret
  exact ⟨rfl, hb⟩

/-- what the second cut gives -/
theorem cut_wide (l : List (Int × List UInt8)) (hg : ∀ t ∈ l, Again.Good t) : cut (⟨(told l).toArray⟩ : ByteArray).data.toList ((⟨(told l).toArray⟩ : ByteArray).data.toList.length + 1) 0 [] = (l, 0) := by
  have e := cut_told l hg ((told l).length + 1) [] (by omega)
  rwa [List.nil_append] at e

/-- what is known of the tokens of a text -/
structure Known (s : ByteArray) (l : List (Int × List UInt8)) (wide : ByteArray) : Prop where
  good : ∀ t ∈ l, Again.Good t
  many : l.length ≤ 3000
  size : wide.size = (told l).length
  bound : wide.size ≤ 9000
  text : wide = ⟨(told l).toArray⟩

theorem known (s : ByteArray) (hs : s.size ≤ 3000) (l : List (Int × List UInt8)) (hr : cut s.data.toList (s.data.toList.length + 1) 0 [] = (l, 0)) : Known s l ⟨(told l).toArray⟩ := by
  have hlen : s.data.toList.length = s.size := by cases s; rfl
  have hl : l.length ≤ 3000 := by
    have h := cut_length s.data.toList (s.data.toList.length + 1) 0 [] (Nat.le_refl _) (Nat.zero_le _)
    rw [hr] at h
    exact Nat.le_trans h (by omega)
  have hby : EqualTok.bytes l ≤ 3000 := by
    have h := cut_bytes s.data.toList (s.data.toList.length + 1) 0 [] (Nat.le_refl _) (Nat.zero_le _)
    rw [hr] at h
    exact Nat.le_trans h (by omega)
  have htl := told_length l
  refine ⟨?_, hl, SignLen.size_mk _, by rw [SignLen.size_mk]; omega, rfl⟩
  have h := good_cut s.data.toList (s.data.toList.length + 1) 0 [] (fun t h => by simp at h)
  rw [hr] at h
  exact h

theorem constant (W : World) : Calls Try.prog 8 #[.string ⟨#[97, 32, 61, 49]⟩] W fun e w' => Below W.heap.size W w' ∧ ∃ a c, e = .returned (.tuple #[.slice a 3 c, .int .i64 0]) :=
  (cutGo ⟨#[97, 32, 61, 49]⟩ (by decide) _ three W).mono fun e w' ⟨hb, v, he, ho⟩ => by
    rcases form_of (l := [(1, [97]), (3, [61]), (2, [49])]) ho with ⟨h1, _⟩ | ⟨_, g, c, rfl⟩
    · simp at h1
    · exact ⟨hb, _, c, he⟩

theorem joined {s : ByteArray} {l : List (Int × List UInt8)} {wide : ByteArray} (hk : Known s l wide) (B : Nat) (W : World) (v : Value) (h : Texts W B v l.length (texts l l.length)) : Calls Try.prog 11 #[v, .string ⟨#[32, 10]⟩] W fun e w' => e = .returned (.string wide) ∧ Below W.heap.size W w' := by
  have ho := h.out
  rcases h.out.2 with ⟨rfl, h0⟩ | ⟨g, cap, cur, rfl, hb, hg, h1, h2, _⟩
  · have hw : wide = ⟨#[]⟩ := by rw [hk.text, List.eq_nil_of_length_eq_zero h0]; rfl
    rw [hw]
    exact (Try.strings_Join_none none 0 ⟨#[32, 10]⟩ W).mono fun e w' ⟨he, hw⟩ => ⟨he, by rw [hw]; exact Below.refl _ _⟩
  · have ht : texts l l.length = l.map fun t => Value.string ⟨t.2.toArray⟩ := by unfold texts; rw [List.take_length]
    have hx : (l.map fun t => (⟨t.2.toArray⟩ : ByteArray)).length = l.length := List.length_map _
    have hj : (l.map fun t => (⟨t.2.toArray⟩ : ByteArray)).map (fun x => x.data.toList) = l.map Prod.snd := by rw [List.map_map]; rfl
    have k := Try.strings_Join g 0 cap (l.map fun t => (⟨t.2.toArray⟩ : ByteArray)) ⟨#[32, 10]⟩ W (fun j x hjx => by
      have hjl : j < l.length := by
        have := (List.getElem?_eq_some_iff.1 hjx).1
        rwa [hx] at this
      rw [Nat.zero_add]
      refine (ho.cellAt j (by omega)).trans ?_
      rw [ht]
      rw [List.getElem?_map] at hjx ⊢
      rw [List.getElem?_eq_getElem hjl] at hjx ⊢
      simp only [Option.map_some, Option.some.injEq] at hjx ⊢
      rw [hjx]) (by have := ho.lt g rfl; exact this.2) (by rw [hx]; have := hk.many; omega) (by rw [hx]; omega) (by
        rw [hj]
        show (told l).length ≤ _
        have h1 := hk.size
        have h2 := hk.bound
        omega)
    rw [hx, hj] at k
    rw [hk.text]
    exact k

theorem again {s : ByteArray} {l : List (Int × List UInt8)} {wide : ByteArray} (hk : Known s l wide) (h : wide.size ≤ 3000) (W : World) : Calls Try.prog 8 #[.string wide] W fun e w' => Below W.heap.size W w' ∧ ∃ v, e = .returned (.tuple #[v, .int .i64 0]) ∧ Rowed w' W.heap.size v l.length (flat l) := by
  have hc := cut_wide l hk.good
  rw [← hk.text] at hc
  exact (cutGo wide h _ hc W).mono fun e w' ⟨hb, v, he, ho⟩ => ⟨hb, v, he, ⟨ho⟩⟩

theorem keeps {w1 w2 : World} {v : Value} {n : Nat} {xs : List Value} {B : Nat} (h : Rowed w1 B v n xs) (hb : Below w1.heap.size w1 w2) : Rowed w2 B v n xs := ⟨owns_below h.out hb⟩

theorem keeps2 {w1 w2 w3 : World} {v : Value} {n : Nat} {xs : List Value} {B : Nat} (h : Rowed w1 B v n xs) (hb : Below w1.heap.size w1 w2) (hb2 : Below w2.heap.size w2 w3) : Rowed w3 B v n xs := ⟨owns_below h.out (hb.trans (hb2.mono hb.size))⟩

theorem row_at {w1 w2 w3 : World} {l : List (Int × List UInt8)} {n g c B : Nat} (h : Rowed w1 B (.slice (some ⟨g, 0, none⟩) n c) n (flat l)) (en : n = l.length) (hb : Below w1.heap.size w1 w2) (hb2 : Below w2.heap.size w2 w3) (k : Nat) (hk : k < n) : w3.cell? ⟨g, k * 2, none⟩ = some (.int .i64 (kAt l k)) ∧ w3.cell? ⟨g, k * 2 + 1, none⟩ = some (.string (tAt l k)) := by
  subst en
  exact cells_at (keeps2 h hb hb2).out k hk

set_option maxRecDepth 100000 in
set_option maxHeartbeats 4000000 in
theorem walk_none (s : ByteArray) (hs : s.size ≤ 3000) (hr : cut s.data.toList (s.data.toList.length + 1) 0 [] = ([], 0)) (w : World) : Calls Try.prog 5 #[.string s] w fun e w' => e = .returned (.bool true) ∧ Below w.heap.size w w' := by
  have hk := known s hs [] hr
  obtain ⟨wide, ew⟩ : ∃ wide : ByteArray, wide = ⟨(told []).toArray⟩ := ⟨_, rfl⟩
  rw [← ew] at hk
  have hw0 : wide.size = 0 := hk.size
  have k8 : ∀ W, W = w → Calls Try.prog 8 #[.string s] W fun e w' => Below w.heap.size w w' ∧ ∃ a c, e = .returned (.tuple #[.slice a 0 c, .int .i64 0]) ∧ Rowed w' w.heap.size (.slice a 0 c) 0 (flat []) := fun W hW => by
    subst hW
    refine (cutGo s hs _ hr W).mono fun e w' ⟨hb, v, he, ho⟩ => ?_
    rcases form_of (l := []) ho with ⟨_, a, c, rfl⟩ | ⟨h1, _⟩
    · exact ⟨hb, a, c, he, ⟨ho⟩⟩
    · simp at h1
  have K8 : Hid _ := k8
  have K8C : Hid _ := constant
  have K8W : Hid _ := again hk (by omega)
  have K11 : Hid (∀ W, Calls Try.prog 11 #[.slice none 0 0, .string ⟨#[32, 10]⟩] W fun e w' => e = .returned (.string wide) ∧ Below W.heap.size W w') := fun W => joined hk 0 W _ ⟨World.ownsRow_nil _ _ _ _⟩
  have K12 : Hid (∀ B v v' W, Rowed W B v 0 (flat []) → Rowed W B v' 0 (flat []) → Calls Try.prog 12 #[v, v'] W fun e w' => e = .returned (.bool true) ∧ Below W.heap.size W w') := fun B v v' W h h' => equalTokens B [] (by decide) v v' W h.out h'.out
  have hwI : (wide.size : Int) = 0 := by omega
  clear k8 hk ew hw0 hr hs
  go_enter Try.func5, Try.ntmps5
  go_wp2_with (first
    | (go_at_call 8; refine (K8.out _ rfl).mono ?_; rintro e w1 ⟨hb1, a, c, rfl, ho1⟩; clear K8; have HB1 : Hid _ := hb1; clear hb1)
    | (go_at_call 8; refine (K8C.out _).mono ?_; rintro e w2 ⟨hb2, a2, c2, rfl⟩; clear K8C; have HB2 : Hid _ := hb2; clear hb2))
  refine wp_loop_rounds 1 ?_
  rw [rounds_succ]
  go_wp2_with (first
    | (go_at_call 11; refine (K11.out _).mono ?_; rintro e w3 ⟨rfl, hb3⟩; have HB3 : Hid _ := hb3; clear hb3)
    | (go_at_call 8; refine (K8W.out _).mono ?_; rintro e w4 ⟨hb4, v4, rfl, ho4⟩; have HB4 : Hid _ := hb4; clear hb4)
    | (go_at_call 12; refine (K12.out _ _ _ _ (keeps (keeps (keeps ho1 HB2.out) HB3.out) HB4.out) ⟨row_mono ho4.out (Nat.le_trans (Nat.le_trans HB1.out.size HB2.out.size) HB3.out.size)⟩).mono ?_; rintro e w5 ⟨rfl, hb5⟩; have HB5 : Hid _ := hb5; clear hb5))
  go_ret
  have e2 := HB1.out.trans (HB2.out.mono HB1.out.size)
  have e3 := e2.trans (HB3.out.mono e2.size)
  have e4 := e3.trans (HB4.out.mono e3.size)
  exact ⟨rfl, e4.trans (HB5.out.mono e4.size)⟩

set_option maxRecDepth 100000 in
set_option maxHeartbeats 4000000 in
theorem walk_big (s : ByteArray) (hs : s.size ≤ 3000) (l : List (Int × List UInt8)) (h0 : 0 < l.length) (hr : cut s.data.toList (s.data.toList.length + 1) 0 [] = (l, 0)) (wide : ByteArray) (hk : Known s l wide) (hbig : 3000 < wide.size) (w : World) : Calls Try.prog 5 #[.string s] w fun e w' => e = .returned (.bool true) ∧ Below w.heap.size w w' := by
  have k8 : ∀ W, W = w → Calls Try.prog 8 #[.string s] W fun e w' => Below w.heap.size w w' ∧ ∃ g c, e = .returned (.tuple #[.slice (some ⟨g, 0, none⟩) l.length c, .int .i64 0]) ∧ Rowed w' w.heap.size (.slice (some ⟨g, 0, none⟩) l.length c) l.length (flat l) := fun W hW => by
    subst hW
    refine (cutGo s hs _ hr W).mono fun e w' ⟨hb, v, he, ho⟩ => ?_
    rcases form_of (l := l) ho with ⟨h1, _⟩ | ⟨_, g, c, rfl⟩
    · omega
    · exact ⟨hb, g, c, he, ⟨ho⟩⟩
  have K8 : Hid _ := k8
  have K8C : Hid _ := constant
  have K11 : Hid (∀ B W v, Texts W B v l.length (texts l l.length) → Calls Try.prog 11 #[v, .string ⟨#[32, 10]⟩] W fun e w' => e = .returned (.string wide) ∧ Below W.heap.size W w') := fun B W v h => joined hk B W v h
  have K8W : Hid (∀ W, Calls Try.prog 8 #[.string wide] W fun e w' => e = .returned (.tuple #[.slice none 0 0, .int .i64 1]) ∧ w' = W) := fun W => Cut.great wide hbig W
  have hwI : (3000 : Int) < wide.size := by omega
  have hmany := hk.many
  obtain ⟨n, en⟩ : ∃ n, n = l.length := ⟨_, rfl⟩
  obtain ⟨i0, hi, hz0, hz1, hz2⟩ := info_parts info9
  rw [← en] at K8 K11 hmany
  have EN : Hid _ := en
  have hnI : (n : Int) ≤ 3000 := by omega
  clear k8 hk hr hs hbig en h0
  go_enter Try.func5, Try.ntmps5
  go_wp2_with (first
    | (go_at_call 8; refine (K8.out _ rfl).mono ?_; rintro e w1 ⟨hb1, g, c, rfl, ho1⟩; clear K8; have HB1 : Hid _ := hb1; clear hb1)
    | (go_at_call 8; refine (K8C.out _).mono ?_; rintro e w2 ⟨hb2, a2, c2, rfl⟩; clear K8C; have HB2 : Hid _ := hb2; clear hb2))
  go_loopw [7, 29] (fun v p wr => ∃ k : Nat, k ≤ n ∧ p = .int .i64 k ∧ Texts wr w2.heap.size v k (texts l k) ∧ Hid (Below w2.heap.size w2 wr)) (fun _ p _ => n - (intOf p).toNat)
  case atStart => exact ⟨0, Nat.zero_le _, rfl, ⟨World.ownsRow_nil _ _ _ _⟩, Below.refl _ _⟩
  case round =>
    obtain ⟨k, hk, rfl, HT, HB⟩ := hrel
    have hsz := HB.out.size
    by_cases hkn : k < n
    · have hkI : (k : Int) < n := by omega
      obtain ⟨c0, c1⟩ := row_at ho1 EN.out HB2.out HB.out k hkn
      obtain ⟨x, ex⟩ : ∃ x, kAt l k = x := ⟨_, rfl⟩
      obtain ⟨y, ey⟩ : ∃ y, tAt l k = y := ⟨_, rfl⟩
      rw [ex] at c0
      rw [ey] at c1
      have HX : Hid (texts l (k + 1) = texts l k ++ [.string y]) := by rw [← ey]; exact texts_next (by rw [← EN.out]; exact hkn)
      clear ex ey
      go_wp2_with (at_builtin; refine wpList_append_own _ rfl _ _ 30 rfl w2.heap.size 9 i0 (.string ⟨#[]⟩) 1 16 Try.underlying30 hi hz0 hz1 hz2 rfl (by decide) _ _ _ rfl ((HT.out.alloc _).alloc _) _ 1 1 [.string y] rfl rfl one_news1 one_one (by unfold maxLen; omega) (by omega) (by simp; omega) ?_; intro v' w4 hown4 hgrow4 _; have HO4 : Texts _ _ _ _ _ := ⟨hown4⟩; have HG4 : Hid _ := hgrow4; clear hown4 hgrow4)
      go_roundw
      case rel => exact ⟨k + 1, by omega, by go_num, by rw [HX.out]; exact HO4, ((HB.out.alloc hsz _).alloc (by simp; omega) _).grown HG4.out (by simp; omega) (fun g hg => (HT.out.lt g hg).1)⟩
      case measure => simp [intOf]; omega
    · obtain rfl : k = n := by omega
      go_wp2_with (first
        | (go_at_call 11; refine (K11.out _ _ _ HT).mono ?_; rintro e w3 ⟨rfl, hb3⟩; have HB3 : Hid _ := hb3; clear hb3)
        | (go_at_call 8; refine (K8W.out _).mono ?_; rintro e w4 ⟨rfl, rfl⟩))
      go_ret
      have e2 := HB1.out.trans (HB2.out.mono HB1.out.size)
      have e3 := e2.trans (HB.out.mono e2.size)
      exact ⟨rfl, e3.trans (HB3.out.mono e3.size)⟩

set_option maxRecDepth 100000 in
set_option maxHeartbeats 4000000 in
theorem walk_small (s : ByteArray) (hs : s.size ≤ 3000) (l : List (Int × List UInt8)) (h0 : 0 < l.length) (hr : cut s.data.toList (s.data.toList.length + 1) 0 [] = (l, 0)) (wide : ByteArray) (hk : Known s l wide) (hbig : wide.size ≤ 3000) (w : World) : Calls Try.prog 5 #[.string s] w fun e w' => e = .returned (.bool true) ∧ Below w.heap.size w w' := by
  have k8 : ∀ W, W = w → Calls Try.prog 8 #[.string s] W fun e w' => Below w.heap.size w w' ∧ ∃ g c, e = .returned (.tuple #[.slice (some ⟨g, 0, none⟩) l.length c, .int .i64 0]) ∧ Rowed w' w.heap.size (.slice (some ⟨g, 0, none⟩) l.length c) l.length (flat l) := fun W hW => by
    subst hW
    refine (cutGo s hs _ hr W).mono fun e w' ⟨hb, v, he, ho⟩ => ?_
    rcases form_of (l := l) ho with ⟨h1, _⟩ | ⟨_, g, c, rfl⟩
    · omega
    · exact ⟨hb, g, c, he, ⟨ho⟩⟩
  have K8 : Hid _ := k8
  have K8C : Hid _ := constant
  have K11 : Hid (∀ B W v, Texts W B v l.length (texts l l.length) → Calls Try.prog 11 #[v, .string ⟨#[32, 10]⟩] W fun e w' => e = .returned (.string wide) ∧ Below W.heap.size W w') := fun B W v h => joined hk B W v h
  have K8W : Hid _ := again hk hbig
  have K12 : Hid (∀ B v v' W, Rowed W B v l.length (flat l) → Rowed W B v' l.length (flat l) → Calls Try.prog 12 #[v, v'] W fun e w' => e = .returned (.bool true) ∧ Below W.heap.size W w') := fun B v v' W h h' => equalTokens B l hk.many v v' W h.out h'.out
  have hwI : (wide.size : Int) ≤ 3000 := by omega
  have hmany := hk.many
  obtain ⟨n, en⟩ : ∃ n, n = l.length := ⟨_, rfl⟩
  obtain ⟨i0, hi, hz0, hz1, hz2⟩ := info_parts info9
  rw [← en] at K8 K11 hmany K8W K12
  have EN : Hid _ := en
  have hnI : (n : Int) ≤ 3000 := by omega
  clear k8 hk hr hs hbig en h0
  go_enter Try.func5, Try.ntmps5
  go_wp2_with (first
    | (go_at_call 8; refine (K8.out _ rfl).mono ?_; rintro e w1 ⟨hb1, g, c, rfl, ho1⟩; clear K8; have HB1 : Hid _ := hb1; clear hb1)
    | (go_at_call 8; refine (K8C.out _).mono ?_; rintro e w2 ⟨hb2, a2, c2, rfl⟩; clear K8C; have HB2 : Hid _ := hb2; clear hb2))
  go_loopw [7, 29] (fun v p wr => ∃ k : Nat, k ≤ n ∧ p = .int .i64 k ∧ Texts wr w2.heap.size v k (texts l k) ∧ Hid (Below w2.heap.size w2 wr)) (fun _ p _ => n - (intOf p).toNat)
  case atStart => exact ⟨0, Nat.zero_le _, rfl, ⟨World.ownsRow_nil _ _ _ _⟩, Below.refl _ _⟩
  case round =>
    obtain ⟨k, hk, rfl, HT, HB⟩ := hrel
    have hsz := HB.out.size
    by_cases hkn : k < n
    · have hkI : (k : Int) < n := by omega
      obtain ⟨c0, c1⟩ := row_at ho1 EN.out HB2.out HB.out k hkn
      obtain ⟨x, ex⟩ : ∃ x, kAt l k = x := ⟨_, rfl⟩
      obtain ⟨y, ey⟩ : ∃ y, tAt l k = y := ⟨_, rfl⟩
      rw [ex] at c0
      rw [ey] at c1
      have HX : Hid (texts l (k + 1) = texts l k ++ [.string y]) := by rw [← ey]; exact texts_next (by rw [← EN.out]; exact hkn)
      clear ex ey
      go_wp2_with (at_builtin; refine wpList_append_own _ rfl _ _ 30 rfl w2.heap.size 9 i0 (.string ⟨#[]⟩) 1 16 Try.underlying30 hi hz0 hz1 hz2 rfl (by decide) _ _ _ rfl ((HT.out.alloc _).alloc _) _ 1 1 [.string y] rfl rfl one_news1 one_one (by unfold maxLen; omega) (by omega) (by simp; omega) ?_; intro v' w4 hown4 hgrow4 _; have HO4 : Texts _ _ _ _ _ := ⟨hown4⟩; have HG4 : Hid _ := hgrow4; clear hown4 hgrow4)
      go_roundw
      case rel => exact ⟨k + 1, by omega, by go_num, by rw [HX.out]; exact HO4, ((HB.out.alloc hsz _).alloc (by simp; omega) _).grown HG4.out (by simp; omega) (fun g hg => (HT.out.lt g hg).1)⟩
      case measure => simp [intOf]; omega
    · obtain rfl : k = n := by omega
      go_wp2_with (first
        | (go_at_call 11; refine (K11.out _ _ _ HT).mono ?_; rintro e w3 ⟨rfl, hb3⟩; have HB3 : Hid _ := hb3; clear hb3)
        | (go_at_call 8; refine (K8W.out _).mono ?_; rintro e w4 ⟨hb4, v4, rfl, ho4⟩; have HB4 : Hid _ := hb4; clear hb4)
        | (go_at_call 12; refine (K12.out _ _ _ _ (keeps (keeps (keeps2 ho1 HB2.out HB.out) HB3.out) HB4.out) ⟨row_mono ho4.out (Nat.le_trans (Nat.le_trans (Nat.le_trans HB1.out.size HB2.out.size) HB.out.size) HB3.out.size)⟩).mono ?_; rintro e w5 ⟨rfl, hb5⟩; have HB5 : Hid _ := hb5; clear hb5))
      go_ret
      have e2 := HB1.out.trans (HB2.out.mono HB1.out.size)
      have e3 := e2.trans (HB.out.mono e2.size)
      have e4 := e3.trans (HB3.out.mono e3.size)
      have e5 := e4.trans (HB4.out.mono e4.size)
      exact ⟨rfl, e5.trans (HB5.out.mono e5.size)⟩

theorem walk (s : ByteArray) (_hs : s.size ≤ maxLen) (w : World) : Calls Try.prog 5 #[.string s] w fun e w' => e = .returned (.bool true) ∧ Below w.heap.size w w' := by
  by_cases h3 : 3000 < s.size
  · exact walk_great s h3 w
  · by_cases hr : (cut s.data.toList (s.data.toList.length + 1) 0 []).2 = 0
    · obtain ⟨l, hl⟩ : ∃ l, l = (cut s.data.toList (s.data.toList.length + 1) 0 []).1 := ⟨_, rfl⟩
      have hc : cut s.data.toList (s.data.toList.length + 1) 0 [] = (l, 0) := by rw [hl, ← hr]
      rcases Nat.eq_zero_or_pos l.length with h0 | h0
      · obtain rfl := List.eq_nil_of_length_eq_zero h0
        exact walk_none s (by omega) hc w
      · have hk := known s (by omega) l hc
        by_cases hb : 3000 < (⟨(told l).toArray⟩ : ByteArray).size
        · exact walk_big s (by omega) l h0 hc _ hk hb w
        · exact walk_small s (by omega) l h0 hc _ hk (by omega) w
    · exact walk_bad s (by omega) hr w
end Go.Proofs.Ytmmcpjmgindpkad.KeepWalk
