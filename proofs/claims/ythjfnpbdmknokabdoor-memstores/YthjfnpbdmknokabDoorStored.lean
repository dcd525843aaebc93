/-
  A COPY OF A LIST OF NUMBERS, 'append([]int(nil), data...)', as one step of a region that draws its order; and the walk of the law MemStores.
  Conditions: each theorem's own hypotheses.
-/
import Derived.Test.YthjfnpbdmknokabDoorStore
import Derived.Test.YthjfnpbdmknokabDoorSame
import Derived.Deep.RegionLaw
namespace Go.Proofs.YthjfnpbdmknokabDoor.Stored
open Go.RowKit Tab Go.Proofs.YthjfnpbdmknokabDoor.Check Lists Go.Proofs.YthjfnpbdmknokabDoor.Read Img Go.Proofs.YthjfnpbdmknokabDoor.Store

/-- nothing appended to nothing is nothing -/
theorem append_none (w : World) (ty : TypeId) (i : TypeInfo) (hi : Tryd.prog.info? 3 = some i) (c : Nat) :
    (Builtin.append_ #[28, 28] ty #[.slice none 0 0, .slice none 0 c]).run Tryd.prog w = .ok (.slice none 0 0) w := by
  simp [Builtin.append_, Builtin.lenOf, Builtin.firstCells, run_underlying Tryd.underlying28, sizeOf, typeInfo, hi]

theorem step_copied {ops : Array Oper} {o : Oper} {a : Act} {w : World} {K : Act → World → Prop} {Q : Exit → Act → World → Prop} {E : Prop}
    (hg : o.guard = none) (s x : Operand) (hop : o.op = Op.call { callee := Callee.builtin Builtin.append, args := #[s, x], argTypes := #[28, 28] }) (hs : a.eval s = .slice none 0 0)
    (da : Option Addr) (dlen dcap : Nat) (z : Nat → Int) (hx : a.eval x = .slice da dlen dcap) (hd : Ints w da dlen z) (hmx : dlen ≤ maxLen) (hby : dlen * 8 ≤ 140737488355328) (base : Nat) (hbase : base ≤ w.heap.size)
    (h : ∀ v' w', w'.ownsRow base 3 1 v' dlen (row z dlen) → w.grownBy w' none → K (a.put o.dst v') w') :
    if Region.wanted o (yielded ops a.tmps) = true then Oper.wp Tryd.prog o a w K Q else E := by
  have hw : Region.wanted o (yielded ops a.tmps) = true := by simp [Region.wanted, hg]
  rw [if_pos hw]
  obtain ⟨i0, hi, hz0, hz1, hz2⟩ := info_parts info3
  cases da with
  | none =>
    obtain rfl : dlen = 0 := by
      rcases Nat.eq_zero_or_pos dlen with h0 | h0
      · exact h0
      · obtain ⟨_, _, e, _⟩ := hd 0 h0
        cases e
    have hrun := append_none w o.type i0 hi dcap
    unfold Oper.wp
    simp [execOp, hop, resolve, invoke, builtin, hs, hx, hrun, Result.andThen]
    exact h _ _ (World.ownsRow_nil _ _ _ _) (World.grownBy.refl _ _)
  | some ad =>
    refine wp_append_own w s x 28 hop base 3 i0 (.int .i64 0) 1 8 Tryd.underlying28 hi hz0 hz1 hz2 rfl (by decide) (.slice none 0 0) 0 [] hs (World.ownsRow_nil _ _ _ _) ad dlen dcap (row z dlen) hx (by rw [row_length]; omega) ?_ (row_one z dlen) (by omega) (by omega) hbase fun v' w' h2 h3 _ => h v' w' (by simpa using h2) h3
    intro j u hu
    have hj : j < dlen := by
      have := (List.getElem?_eq_some_iff.1 hu).1
      rwa [row_length] at this
    obtain ⟨bl, off, e, hc⟩ := hd j hj
    obtain rfl := Option.some.inj e
    exact row_cells hc j u hu

/-- a row of one's own holds its numbers -/
theorem owned_ints {w : World} {B dlen : Nat} {v : Value} {z : Nat → Int} (h : w.ownsRow B 3 1 v dlen (row z dlen)) : ∃ da dcap, v = .slice da dlen dcap ∧ Ints w da dlen z := by
  rcases Nat.eq_zero_or_pos dlen with rfl | hpos
  · obtain ⟨ao, cap, rfl⟩ : ∃ ao cap, v = .slice ao 0 cap := by rcases h.2 with ⟨rfl, _⟩ | ⟨g, cap, cur, rfl, _⟩ <;> exact ⟨_, _, rfl⟩
    exact ⟨ao, cap, rfl, fun k hk => absurd hk (by omega)⟩
  · obtain ⟨g, cap, rfl, _, _⟩ := own_form h hpos
    exact ⟨_, _, rfl, fun k hk => ⟨g, 0, rfl, fun j hj => by rw [Nat.zero_add]; exact (h.cellAt j (by omega)).trans (row_at z dlen j hj)⟩⟩

theorem owns_base {w : World} {base base' : Nat} {e : TypeId} {size n : Nat} {v : Value} {xs : List Value} (h : w.ownsRow base e size v n xs) (hb : base' ≤ base) : w.ownsRow base' e size v n xs := by
  refine ⟨h.1, ?_⟩
  rcases h.2 with hn | ⟨g, cap, cur, e, hg, rest⟩
  · exact .inl hn
  · exact .inr ⟨g, cap, cur, e, by omega, rest⟩

theorem set_at (z : Nat → Int) (n j : Nat) (x : Int) : ∀ i, i < n → ((row z n).set j (.int .i64 x))[i]? = some (.int .i64 (if i = j then x else z i)) := by
  intro i hi
  by_cases h : i = j
  · subst h
    rw [List.getElem?_set_self (by rw [row_length]; exact hi), if_pos rfl]
  · rw [List.getElem?_set_ne (fun e => h e.symm), if_neg h, row_at z n i hi]

set_option maxHeartbeats 1000000 in
theorem walk_bad (ao : Option Addr) (len cap : Nat) (hlen : len ≤ maxLen) (P : Nat → PartD) (da : Option Addr) (dlen dcap : Nat) (z : Nat → Int) (hby : dlen * 8 ≤ 140737488355328) (p t n : Int) (w : World) (hl : Lies w) (hin : Parts w ao len P) (hd : Ints w da dlen z) (hbad : storeFault P len z dlen p t n ≠ 0) :
    Calls Tryd.prog 7 #[.agg #[.slice ao len cap], .slice da dlen dcap, .int .i64 p, .int .i64 t, .int .i64 n] w fun e w' => e = .returned (.bool true) ∧ Below w.heap.size w w' := by
  have hb0 := below1 w (.cells #[.slice ao len cap] 27)
  have k20 : ∀ da dcap w, Lies w → Parts w ao len P → Ints w da dlen z → _ := fun da dcap w h h' h'' => store_bad ao len cap hlen P da dlen dcap z p t n w h h' h'' hbad
  have k21 : ∀ w, Parts w ao len P → Ints w da dlen z → _ := fun w h h' => storeOf_bad ao len cap hlen P da dlen dcap z p t n w h h' hbad
  obtain ⟨r, er⟩ : ∃ r, r = storeFault P len z dlen p t n := ⟨_, rfl⟩
  rw [← er] at k20 k21
  have hd1 : Ints (w.alloc (.cells #[.slice ao len cap] 27)).drew da dlen z := Ints_below hd hb0.drew
  have hmx : dlen ≤ maxLen := by unfold maxLen; omega
  have after : ∀ w', (w.alloc (.cells #[.slice ao len cap] 27)).drew.grownBy w' none → Below w.heap.size w w' ∧ w'.cell? ⟨w.heap.size, 0, none⟩ = some (.slice ao len cap) := by
    intro w' hg
    exact ⟨hb0.drew.grown hg hb0.size (by simp), box1 ((Below.refl _ (w.alloc (.cells #[.slice ao len cap] 27))).drew.grown hg (Nat.le_refl _) (by simp))⟩
  have keepL : ∀ w', Below w.heap.size w w' → Lies w' := fun w' hb => Lies_below hl hb
  have keepP : ∀ w', Below w.heap.size w w' → Parts w' ao len P := fun w' hb => Parts_below hin hb
  have keepI : ∀ w', Below w.heap.size w w' → Ints w' da dlen z := fun w' hb => Ints_below hd hb
  clear er hl hin hd hbad hlen
  go_enter Tryd.func7, Tryd.ntmps7
  go_wp2
  go_region_law (first
    | (refine step_copied rfl _ (.tmp 17) rfl rfl da dlen dcap z rfl hd1 hmx hby w.heap.size hb0.size ?_; intro v4 w4 hown4 hgrow4; obtain ⟨da4, dcap4, rfl, hd4⟩ := owned_ints hown4; obtain ⟨hb4, q4⟩ := after _ hgrow4; clear hgrow4 hown4)
    | (go_simp; go_at_call 20; refine (k20 _ _ _ (keepL _ hb4) (keepP _ hb4) hd4).mono ?_; rintro e w5 ⟨rfl, hb5⟩; have hb6 := hb4.trans (hb5.mono hb4.size); have q6 := (hb5.cell (World.block_lt_of_cell? w4 _ q4)).trans q4; clear hb5 q4))
  all_goals
    go_wp2_with (first
      | (go_at_call 21; refine (k21 _ (keepP _ hb6) (keepI _ hb6)).mono ?_; rintro e w7 ⟨rfl, hb7⟩; have hb8 := hb6.trans (hb7.mono hb6.size); clear hb7)
      | (go_at_call 22; refine (Same.sameInts 0 0 (by omega) _ _ (fun _ => 0) [] (fun i hi => absurd hi (by omega)) _ (World.ownsRow_nil _ _ _ _) (World.ownsRow_nil _ _ _ _)).mono ?_; rintro e w9 ⟨rfl, hb9⟩))
    go_ret
    exact ⟨rfl, hb8.trans (hb9.mono hb8.size)⟩

set_option maxHeartbeats 1000000 in
theorem walk_ok (ao : Option Addr) (len cap : Nat) (hlen : len ≤ maxLen) (P : Nat → PartD) (da : Option Addr) (dlen dcap : Nat) (z : Nat → Int) (hby : dlen * 8 ≤ 140737488355328) (k j : Nat) (n : Int) (w : World) (hl : Lies w) (hin : Parts w ao len P) (hd : Ints w da dlen z)
    (er : dataFault P len z dlen = 0) (hk : k < len) (ht : (P k).lo ≤ (j : Int) ∧ (j : Int) < (P k).hi) (hn : 0 ≤ n ∧ n ≤ 65535) :
    Calls Tryd.prog 7 #[.agg #[.slice ao len cap], .slice da dlen dcap, .int .i64 k, .int .i64 j, .int .i64 n] w fun e w' => e = .returned (.bool true) ∧ Below w.heap.size w w' := by
  have hb0 := below1 w (.cells #[.slice ao len cap] 27)
  have k20 : ∀ da dcap w, Lies w → Parts w ao len P → Ints w da dlen z → _ := fun da dcap w h h' h'' => store_ok ao len cap hlen P da dlen dcap z k j n w h h' h'' er hk ht hn
  have k21 : ∀ w, Parts w ao len P → Ints w da dlen z → _ := fun w h h' => storeOf_ok ao len cap hlen P da dlen dcap z k j n w h h' er hk ht hn
  have k22 : ∀ B v v' (w : World), w.ownsRow B 3 1 v dlen ((row z dlen).set j (.int .i64 n)) → w.ownsRow B 3 1 v' dlen ((row z dlen).set j (.int .i64 n)) → _ := fun B v v' w h h' => Same.sameInts B dlen (by have := inside er hk; omega) v v' _ _ (set_at z dlen j n) w h h'
  obtain ⟨R, hR⟩ : ∃ R, R = (row z dlen).set j (.int .i64 n) := ⟨_, rfl⟩
  rw [← hR] at k20 k21 k22
  have hd1 : Ints (w.alloc (.cells #[.slice ao len cap] 27)).drew da dlen z := Ints_below hd hb0.drew
  have hmx : dlen ≤ maxLen := by unfold maxLen; omega
  have after : ∀ w', (w.alloc (.cells #[.slice ao len cap] 27)).drew.grownBy w' none → Below w.heap.size w w' ∧ w'.cell? ⟨w.heap.size, 0, none⟩ = some (.slice ao len cap) := by
    intro w' hg
    exact ⟨hb0.drew.grown hg hb0.size (by simp), box1 ((Below.refl _ (w.alloc (.cells #[.slice ao len cap] 27))).drew.grown hg (Nat.le_refl _) (by simp))⟩
  have keepL : ∀ w', Below w.heap.size w w' → Lies w' := fun w' hb => Lies_below hl hb
  have keepP : ∀ w', Below w.heap.size w w' → Parts w' ao len P := fun w' hb => Parts_below hin hb
  have keepI : ∀ w', Below w.heap.size w w' → Ints w' da dlen z := fun w' hb => Ints_below hd hb
  clear er hl hin hd hlen ht hR
  go_enter Tryd.func7, Tryd.ntmps7
  go_wp2
  go_region_law (first
    | (refine step_copied rfl _ (.tmp 17) rfl rfl da dlen dcap z rfl hd1 hmx hby w.heap.size hb0.size ?_; intro v4 w4 hown4 hgrow4; obtain ⟨da4, dcap4, rfl, hd4⟩ := owned_ints hown4; obtain ⟨hb4, q4⟩ := after _ hgrow4; clear hgrow4 hown4)
    | (go_simp; go_at_call 20; refine (k20 _ _ _ (keepL _ hb4) (keepP _ hb4) hd4).mono ?_; rintro e w5 ⟨hb5, v5, rfl, hown5⟩; have hb6 := hb4.trans (hb5.mono hb4.size); have z5 := hb5.size; have q6 := (hb5.cell (World.block_lt_of_cell? w4 _ q4)).trans q4; clear hb5 q4))
  all_goals
    go_wp2_with (first
      | (go_at_call 21; refine (k21 _ (keepP _ hb6) (keepI _ hb6)).mono ?_; rintro e w7 ⟨hb7, v7, rfl, hown7⟩; have hb8 := hb6.trans (hb7.mono hb6.size); have hown8 := owns_below hown5 hb7; have hown9 := owns_base hown7 z5; clear hb7)
      | (go_at_call 22; refine (k22 _ _ _ _ hown8 hown9).mono ?_; rintro e w9 ⟨rfl, hb9⟩))
    go_ret
    exact ⟨rfl, hb8.trans (hb9.mono hb8.size)⟩
end Go.Proofs.YthjfnpbdmknokabDoor.Stored
