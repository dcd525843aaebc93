/-
  THE HELPERS OF 'barbicankeep.CodeBack': 'picked', slices.Clone at a list of numbers of the call's own, slices.Equal at two lists of instructions of the call's own: each call returns, and lays new memory alone.
  Conditions: each contract's own hypotheses.
-/
import Derived.Test.YtbddgcaobcpanabDoorLists
import Derived.OpenShut
import Derived.Deep.RegionLaw
import Derived.Deep.QuietTactic
import Derived.BigQuiet
namespace Go.Proofs.YtbddgcaobcpanabDoor.Parts
open Go.RowKit Tab Go.Proofs.YtbddgcaobcpanabDoor.Check Lists

/-- What 'picked' gives: some number below the bound, the same in every world. -/
theorem picked (n : Int) (wn : (Lit.int .i64 n).wf = true) (m : Int) (hm : 0 < m) (hm' : m ≤ 65536) :
    ∃ p : Nat, (p : Int) < m ∧ ∀ w, Calls Tryd.prog 8 #[.int .i64 n, .int .i64 m] w fun e w' => e = .returned (.int .i64 (p : Int)) ∧ w' = w := by
  have hb := bounds_i64 wn
  by_cases c : n < 0
  · have h1 := Int.emod_lt_of_pos (-(n + 1)) hm
    have h0 := Int.emod_nonneg (-(n + 1)) (show m ≠ 0 by omega)
    refine ⟨(-(n + 1) % m).toNat, by omega, fun w => ?_⟩
    have he : (((-(n + 1) % m).toNat : Nat) : Int) = -(n + 1) % m := Int.toNat_of_nonneg h0
    rw [he]
    clear he h0 h1
    go_enter Tryd.func8, Tryd.ntmps8
    go_wp2
    go_ret
    exact ⟨by simp; rw [← Int.neg_tmod]; exact Int.tmod_eq_emod_of_nonneg (by omega), rfl⟩
  · have h1 := Int.emod_lt_of_pos n hm
    have h0 := Int.emod_nonneg n (show m ≠ 0 by omega)
    refine ⟨(n % m).toNat, by omega, fun w => ?_⟩
    have he : (((n % m).toNat : Nat) : Int) = n % m := Int.toNat_of_nonneg h0
    rw [he]
    clear he h0 h1
    go_enter Tryd.func8, Tryd.ntmps8
    go_wp2
    go_ret
    exact ⟨by simp, rfl⟩

/-- A list of the call's own that has an element. -/
theorem own_form {w : World} {B : Nat} {e : TypeId} {size n : Nat} {v : Value} {xs : List Value} (h : w.ownsRow B e size v n xs) (hn : 0 < n) : ∃ g cap, v = .slice (some ⟨g, 0, none⟩) n cap ∧ B ≤ g ∧ g < w.heap.size := by
  rcases h.2 with ⟨_, h0⟩ | ⟨g, cap, cur, rfl, hb, hg, _⟩
  · omega
  · exact ⟨g, cap, rfl, hb, (Array.getElem?_eq_some_iff.1 hg).1⟩

theorem clone (B n : Nat) (hn : 0 < n) (hn' : n ≤ 100000) (v : Value) (xs : List Value) (h1 : ∀ u ∈ xs, u.oneCell' = true) (w : World) (h : w.ownsRow B 3 1 v n xs) :
    Calls Tryd.prog 7 #[v] w fun e w' => Below w.heap.size w w' ∧ ∃ v', e = .returned v' ∧ w'.ownsRow w.heap.size 3 1 v' n xs := by
  obtain ⟨i0, hi, hz0, hz1, hz2⟩ := info_parts info3
  obtain ⟨g, cap, rfl, _, hg⟩ := own_form h hn
  have made := World.ownsRow_made (base := w.heap.size) (e := 3) (size := 1) w #[] 0 (Nat.le_refl _) (by decide) (by simp)
  have hlen := h.1
  have hnews : ∀ j u, xs[j]? = some u → (w.alloc (.cells #[] 3)).cell? ((⟨g, 0, none⟩ : Addr).add j) = some u := fun j u hu => (h.alloc _).cells (g := g) rfl j u hu
  clear h
  have he : ∀ w : World, (binOp .eql 28 (.slice (some ⟨g, 0, none⟩) n cap) (.slice none 0 0)).run Tryd.prog w = .ok (.bool false) w := fun _ => rfl
  go_enter Tryd.func7, Tryd.ntmps7
  go_wp2_with (at_builtin; refine wpList_append_own _ rfl _ _ 28 rfl w.heap.size 3 i0 (.int .i64 0) 1 8 Tryd.underlying28 hi hz0 hz1 hz2 rfl (by decide) _ _ _ rfl made ⟨g, 0, none⟩ n cap xs rfl hlen hnews h1 (by unfold maxLen; omega) (by omega) (by simp) ?_; intro v' w4 hown4 hgrow4 _)
  go_ret
  refine ⟨(below1 w _).grown hgrow4 (by simp) (fun k hk => (made.lt k hk).1), _, rfl, ?_⟩
  simpa using hown4

theorem words_length (o a b c : Nat → Int) (n : Nat) : (words o a b c n).length = 4 * n := by
  induction n with
  | zero => rfl
  | succ n ih => simp [words, ih]; omega

theorem words_four (o a b c : Nat → Int) (n : Nat) : ∀ k, k < n → (words o a b c n)[k * 4]? = some (.int .i64 (o k)) ∧ (words o a b c n)[k * 4 + 1]? = some (.int .i64 (a k)) ∧ (words o a b c n)[k * 4 + 2]? = some (.int .i64 (b k)) ∧ (words o a b c n)[k * 4 + 3]? = some (.int .i64 (c k)) := by
  induction n with
  | zero => intro k hk; omega
  | succ n ih =>
    intro k hk
    have hl := words_length o a b c n
    by_cases h : k < n
    · rw [words, List.getElem?_append_left (by omega), List.getElem?_append_left (by omega), List.getElem?_append_left (by omega), List.getElem?_append_left (by omega)]
      exact ih k h
    · obtain rfl : k = n := by omega
      rw [words, List.getElem?_append_right (by omega), List.getElem?_append_right (by omega), List.getElem?_append_right (by omega), List.getElem?_append_right (by omega), hl]
      simp [show k * 4 - 4 * k = 0 by omega, show k * 4 + 1 - 4 * k = 1 by omega, show k * 4 + 2 - 4 * k = 2 by omega, show k * 4 + 3 - 4 * k = 3 by omega]

theorem equal (n : Nat) (hn : n ≤ 1000000) (g cap g' cap' : Nat) (o a b c : Nat → Int) (w : World)
    (q : ∀ i, i < n → w.cell? ⟨g, i * 4, none⟩ = some (.int .i64 (o i)) ∧ w.cell? ⟨g, i * 4 + 1, none⟩ = some (.int .i64 (a i)) ∧ w.cell? ⟨g, i * 4 + 2, none⟩ = some (.int .i64 (b i)) ∧ w.cell? ⟨g, i * 4 + 3, none⟩ = some (.int .i64 (c i)))
    (q' : ∀ i, i < n → w.cell? ⟨g', i * 4, none⟩ = some (.int .i64 (o i)) ∧ w.cell? ⟨g', i * 4 + 1, none⟩ = some (.int .i64 (a i)) ∧ w.cell? ⟨g', i * 4 + 2, none⟩ = some (.int .i64 (b i)) ∧ w.cell? ⟨g', i * 4 + 3, none⟩ = some (.int .i64 (c i))) :
    Calls Tryd.prog 9 #[.slice (some ⟨g, 0, none⟩) n cap, .slice (some ⟨g', 0, none⟩) n cap'] w fun e w' => e = .returned (.bool true) ∧ Below w.heap.size w w' := by
  have hn2 : (n : Int) ≤ 1000000 := by omega
  go_enter Tryd.func9, Tryd.ntmps9
  go_wp2
  go_loopw [13] (fun i wr => ∃ k : Nat, k ≤ n ∧ i = .int .i64 k ∧ Below w.heap.size w wr) (fun i _ => n - (intOf i).toNat)
  case atStart => exact ⟨0, Nat.zero_le _, rfl, Below.refl _ _⟩
  case round =>
    obtain ⟨k, hk, rfl, hbel⟩ := hrel
    by_cases hkn : k < n
    · have hkI : (k : Int) < n := by omega
      obtain ⟨t0, t1, t2, t3⟩ := q k hkn
      obtain ⟨r0, r1, r2, r3⟩ := q' k hkn
      have hg : g < w.heap.size := World.block_lt_of_cell? w _ t0
      have hg' : g' < w.heap.size := World.block_lt_of_cell? w _ r0
      have s0 := (hbel.cell (p := ⟨g, k * 4, none⟩) hg).trans t0
      have s1 := (hbel.cell (p := ⟨g, k * 4 + 1, none⟩) hg).trans t1
      have s2 := (hbel.cell (p := ⟨g, k * 4 + 2, none⟩) hg).trans t2
      have s3 := (hbel.cell (p := ⟨g, k * 4 + 3, none⟩) hg).trans t3
      have p0 := (hbel.cell (p := ⟨g', k * 4, none⟩) hg').trans r0
      have p1 := (hbel.cell (p := ⟨g', k * 4 + 1, none⟩) hg').trans r1
      have p2 := (hbel.cell (p := ⟨g', k * 4 + 2, none⟩) hg').trans r2
      have p3 := (hbel.cell (p := ⟨g', k * 4 + 3, none⟩) hg').trans r3
      clear t0 t1 t2 t3 r0 r1 r2 r3 q q'
      go_wp2
      go_quiet (fail)
      go_wp2
      go_roundw
      case rel => exact ⟨k + 1, by omega, by go_num, ⟨hbel.os, hbel.tape, hbel.output, hbel.size, hbel.block⟩⟩
      case measure => simp [intOf]; omega
    · obtain rfl : k = n := by omega
      clear q q'
      go_wp2
      go_ret
      exact ⟨rfl, hbel⟩

/-- append onto a slice that the call itself made, as one step of a region that draws its order -/
theorem step_append_own {P : Program} {ops : Array Oper} {o : Oper} {a : Act} {w : World} {K : Act → World → Prop} {Q : Exit → Act → World → Prop} {E : Prop}
    (hg : o.guard = none) (s x : Operand) (t : TypeId) (hop : o.op = Op.call { callee := Callee.builtin Builtin.append, args := #[s, x], argTypes := #[t, t] })
    (base : Nat) (e : TypeId) (i : TypeInfo) (z : Value) (size bytes : Nat) (ht : P.underlying t = some (.slice e)) (hi : P.info? e = some i) (hz : i.zero = some z)
    (hsize : i.size = size) (hby : i.bytes = bytes) (hzs : z.cells.size = size) (hsz : 0 < size)
    (v : Value) (n : Nat) (xs : List Value) (hs : a.eval s = v) (hown : w.ownsRow base e size v n xs)
    (ad : Addr) (m c : Nat) (news : List Value) (hx : a.eval x = .slice (some ad) m c) (hl : news.length = m * size) (hnews : ∀ j u, news[j]? = some u → w.cell? (ad.add j) = some u) (h1 : ∀ u ∈ news, u.oneCell' = true)
    (h63 : n + m ≤ maxLen) (hbytes : (n + m) * bytes ≤ 140737488355328) (hbase : base ≤ w.heap.size)
    (h : ∀ v' w', w'.ownsRow base e size v' (n + m) (xs ++ news) → w.grownBy w' v.ownBlock → K (a.put o.dst v') w') :
    if Region.wanted o (yielded ops a.tmps) = true then Oper.wp P o a w K Q else E := by
  have hw : Region.wanted o (yielded ops a.tmps) = true := by simp [Region.wanted, hg]
  rw [if_pos hw]
  exact wp_append_own w s x t hop base e i z size bytes ht hi hz hsize hby hzs hsz v n xs hs hown ad m c news hx hl hnews h1 h63 hbytes hbase fun v' w' h2 h3 _ => h v' w' h2 h3

end Go.Proofs.YtbddgcaobcpanabDoor.Parts
