/-
  WHAT THE DOCUMENT'S ANSWER CodeWords GIVES, for every list of instructions: the call returns, and lays new memory alone.
  Conditions: none.
-/
import Derived.Test.YtbddgcaobcpanaaDoorLists
import Derived.Deep.RegionLaw
namespace Go.Proofs.YtbddgcaobcpanaaDoor.Words
open Go.RowKit Tab Go.Proofs.YtbddgcaobcpanaaDoor.Check Lists

/-- append onto a slice that the call itself made, as one step of a region that draws its order -/
theorem step_append_own {P : Program} {ops : Array Oper} {o : Oper} {a : Act} {w : World} {K : Act → World → Prop} {Q : Exit → Act → World → Prop} {E : Prop}
    (hg : o.guard = none) (s x : Operand) (t : TypeId) (hop : o.op = Op.call { callee := Callee.builtin Builtin.append, args := #[s, x], argTypes := #[t, t] })
    (base : Nat) (e : TypeId) (i : TypeInfo) (z : Value) (size bytes : Nat) (ht : P.underlying t = some (.slice e)) (hi : P.info? e = some i) (hz : i.zero = some z)
    (hsize : i.size = size) (hby : i.bytes = bytes) (hzs : z.cells.size = size) (hsz : 0 < size)
    (v : Value) (n : Nat) (xs : List Value) (hs : a.eval s = v) (hown : w.ownsRow base e size v n xs)
    (ad : Addr) (m c : Nat) (news : List Value) (hx : a.eval x = .slice (some ad) m c) (hl : news.length = m * size) (hnews : ∀ j u, news[j]? = some u → w.cell? (ad.add j) = some u) (h1 : ∀ u ∈ news, u.oneCell' = true)
    (h63 : n + m ≤ maxLen) (hbytes : (n + m) * bytes ≤ 140737488355328) (hbase : base ≤ w.heap.size)
    (h : ∀ v' w', w'.ownsRow base e size v' (n + m) (xs ++ news) → w.grownBy w' v.ownBlock → K (a.put o.dst v') w') :
    if Region.wanted o (yielded ops a.tmps) = true then Oper.wp P o a w K Q else E := by
  have hw : Region.wanted o (yielded ops a.tmps) = true := by simp [Region.wanted, hg]
  rw [if_pos hw]
  exact wp_append_own w s x t hop base e i z size bytes ht hi hz hsize hby hzs hsz v n xs hs hown ad m c news hx hl hnews h1 h63 hbytes hbase fun v' w' h2 h3 _ => h v' w' h2 h3

theorem great (ao : Option Addr) (len cap : Nat) (h : 1200 < len) (w : World) :
    Calls Tryd.prog 9 #[.slice ao len cap] w fun e w' => e = .returned (.tuple #[.slice none 0 0, .int .i64 1]) ∧ w' = w := by
  have h2 : (1200 : Int) < len := by omega
  go_enter Tryd.func9, Tryd.ntmps9
  go_wp2
  go_ret2
  exact ⟨rfl, rfl⟩

set_option maxHeartbeats 4000000 in
theorem codeWords (ao : Option Addr) (len cap : Nat) (hlen : len ≤ 1200) (o a b c : Nat → Int) (w : World) (hin : Instrs w ao len o a b c) :
    Calls Tryd.prog 9 #[.slice ao len cap] w fun e w' => Below w.heap.size w w' ∧ ∃ v, e = .returned (.tuple #[v, .int .i64 (first (fun k => fault (o k) (a k) (b k) (c k)) len)]) ∧
      (first (fun k => fault (o k) (a k) (b k) (c k)) len = 0 → w'.ownsRow w.heap.size 3 1 v (4 * len) (words o a b c len)) ∧
      (first (fun k => fault (o k) (a k) (b k) (c k)) len ≠ 0 → v = .slice none 0 0) := by
  have h2 : (len : Int) ≤ 1200 := by omega
  obtain ⟨i0, hi, hz0, hz1, hz2⟩ := info_parts info3
  go_enter Tryd.func9, Tryd.ntmps9
  go_wp2
  go_loopw [4, 5] (fun v i wr => ∃ k : Nat, k ≤ len ∧ i = .int .i64 k ∧ first (fun k => fault (o k) (a k) (b k) (c k)) k = 0 ∧ wr.ownsRow w.heap.size 3 1 v (4 * k) (words o a b c k) ∧ Below w.heap.size w wr) (fun _ i _ => len - (intOf i).toNat)
  case atStart => exact ⟨0, Nat.zero_le _, rfl, rfl, World.ownsRow_nil _ _ _ _, Below.refl _ _⟩
  case round =>
    obtain ⟨k, hk, rfl, hf, hown, hbel⟩ := hrel
    by_cases hkl : k < len
    · obtain ⟨bl, off, rfl, t0, t1, t2, t3⟩ := hin k hkl
      have hbl := World.block_lt_of_cell? w _ t0
      have s0 := (hbel.cell (p := ⟨bl, off + k * 4, none⟩) hbl).trans t0
      have s1 := (hbel.cell (p := ⟨bl, off + k * 4 + 1, none⟩) hbl).trans t1
      have s2 := (hbel.cell (p := ⟨bl, off + k * 4 + 2, none⟩) hbl).trans t2
      have s3 := (hbel.cell (p := ⟨bl, off + k * 4 + 3, none⟩) hbl).trans t3
      have hw1 : words o a b c (k + 1) = words o a b c k ++ [.int .i64 (o k), .int .i64 (a k), .int .i64 (b k), .int .i64 (c k)] := rfl
      have k7 : ∀ w', _ := fun w' => Fault.ref (o k) (a k) (b k) (c k) w'
      obtain ⟨x0, e0⟩ : ∃ x, x = o k := ⟨_, rfl⟩
      obtain ⟨x1, e1⟩ : ∃ x, x = a k := ⟨_, rfl⟩
      obtain ⟨x2, e2⟩ : ∃ x, x = b k := ⟨_, rfl⟩
      obtain ⟨x3, e3⟩ : ∃ x, x = c k := ⟨_, rfl⟩
      obtain ⟨r, er⟩ : ∃ r, r = fault (o k) (a k) (b k) (c k) := ⟨_, rfl⟩
      rw [← er, ← e0, ← e1, ← e2, ← e3] at k7
      rw [← e0] at s0
      rw [← e1] at s1
      rw [← e2] at s2
      rw [← e3] at s3
      rw [← e0, ← e1, ← e2, ← e3] at hw1
      have HW : Hid (words o a b c (k + 1) = words o a b c k ++ [.int .i64 x0, .int .i64 x1, .int .i64 x2, .int .i64 x3]) := hw1
      have HF : Hid (first (fun k => fault (o k) (a k) (b k) (c k)) k = 0) := hf
      have ER : Hid (r = fault (o k) (a k) (b k) (c k)) := er
      have hsz := hbel.size
      clear t0 t1 t2 t3 e0 e1 e2 e3 er hin hw1 hf
      by_cases hr : r = 0
      · subst hr
        go_wp2_with (go_at_call 7; refine (k7 _).mono ?_; rintro e w3 ⟨rfl, hb1⟩; have hown3 := owns_below hown hb1; have hbel3 := hbel.trans (hb1.mono hsz); have hsz3 := hbel3.size; have z0 := (hb1.cell (p := ⟨bl, off + k * 4, none⟩) (Nat.lt_of_lt_of_le hbl hsz)).trans s0; have z1 := (hb1.cell (p := ⟨bl, off + k * 4 + 1, none⟩) (Nat.lt_of_lt_of_le hbl hsz)).trans s1; have z2 := (hb1.cell (p := ⟨bl, off + k * 4 + 2, none⟩) (Nat.lt_of_lt_of_le hbl hsz)).trans s2; have z3 := (hb1.cell (p := ⟨bl, off + k * 4 + 3, none⟩) (Nat.lt_of_lt_of_le hbl hsz)).trans s3; clear hb1 hown hbel s0 s1 s2 s3)
        have hkI : (k : Int) < len := by omega
        have hown4 := hown3.drew.alloc (.cells #[.int .i64 x0, .int .i64 x1, .int .i64 x2, .int .i64 x3] 3)
        have nw := four_news (w := w3.drew) (v0 := .int .i64 x0) (v1 := .int .i64 x1) (v2 := .int .i64 x2) (v3 := .int .i64 x3) (t := 3)
        have OW : Hid _ := hown4
        have NW : Hid _ := nw
        clear hown4 nw
        go_region_law (refine step_append_own rfl (.tmp 24) (.tmp 45) 28 rfl w.heap.size 3 i0 (.int .i64 0) 1 8 Tryd.underlying28 hi hz0 hz1 hz2 rfl (by decide) _ _ _ rfl OW.out ⟨w3.heap.size, 0, none⟩ 4 4 [.int .i64 x0, .int .i64 x1, .int .i64 x2, .int .i64 x3] rfl rfl NW.out four_one (by unfold maxLen; omega) (by omega) (by simp; omega) ?_; intro v' w4 hown4 hgrow4)
        all_goals go_wp2
        all_goals go_roundw
        all_goals first
          | exact ⟨k + 1, by omega, by go_num, by rw [first_succ HF.out]; exact ER.out.symm, by rw [HW.out]; exact hown4, (hbel3.drew.alloc hsz3 _).grown hgrow4 (by simp; omega) (fun g hg => (hown3.lt g hg).1)⟩
          | (simp [intOf]; omega)
      · have hr2 : (r == 0) = false := by simpa using hr
        go_wp2_with (go_at_call 7; refine (k7 _).mono ?_; rintro e w3 ⟨rfl, hb1⟩; have hbel3 := hbel.trans (hb1.mono hsz); clear hb1 hown hbel)
        have e1 := first_stops hkl HF.out (by rw [← ER.out]; exact hr)
        go_ret2
        refine ⟨hbel3, .slice none 0 0, by rw [e1, ← ER.out]; rfl, fun h => absurd (e1.symm.trans h) (by rw [← ER.out]; exact hr), fun _ => rfl⟩
    · obtain rfl : k = len := by omega
      clear hin
      have HF : Hid (first (fun k => fault (o k) (a k) (b k) (c k)) k = 0) := hf
      clear hf
      go_wp2
      go_ret2
      refine ⟨hbel, u4, by rw [HF.out]; rfl, fun _ => hown, fun h => absurd HF.out h⟩
end Go.Proofs.YtbddgcaobcpanaaDoor.Words
