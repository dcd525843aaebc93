/-
  MEMORY THAT IS OWNED, WITH A TAG A BLOCK: an append that tells whether its row is the same or new; what stays where one tag's blocks are written. No program.
  Conditions: none.
-/
import Derived.OwnWalk
import Derived.WalkSmall
import Derived.Laws.CopyOwn
namespace Go.Proofs.YtmmcpjmgindpkacDoor.Own
open Go.RowKit

/-- 'append' onto a row of one's own: the row behind it is the same block, or the next new one -/
theorem run_append_fresh {P : Program} (w : World) (base : Nat) (t ty e : TypeId) (i : TypeInfo) (z : Value) (size bytes : Nat) (ht : P.underlying t = some (.slice e)) (hi : P.info? e = some i) (hz : i.zero = some z)
    (hsize : i.size = size) (hby : i.bytes = bytes) (hzs : z.cells.size = size) (hsz : 0 < size)
    (v : Value) (n : Nat) (xs : List Value) (hown : w.ownsRow base e size v n xs)
    (a : Addr) (m c : Nat) (hm : 0 < m) (news : List Value) (hl : news.length = m * size) (hnews : ∀ j u, news[j]? = some u → w.cell? (a.add j) = some u) (h1 : ∀ u ∈ news, u.oneCell' = true)
    (h63 : n + m ≤ maxLen) (hbytes : (n + m) * bytes ≤ 140737488355328) (hbase : base ≤ w.heap.size) :
    ∃ v' w', (Builtin.append_ #[t, t] ty #[v, .slice (some a) m c]).run P w = .ok v' w' ∧ w'.ownsRow base e size v' (n + m) (xs ++ news) ∧ w.grownBy w' v.ownBlock ∧
      (v'.ownBlock = v.ownBlock ∨ v'.ownBlock = some w.heap.size) := by
  obtain ⟨v', w', hr, ho, hg, _⟩ := run_append_own (P := P) w base t ty e i z size bytes ht hi hz hsize hby hzs hsz v n xs hown a m c news hl hnews h1 h63 hbytes hbase
  refine ⟨v', w', hr, ho, hg, ?_⟩
  subst hsize
  subst hby
  have hsmall : n + m ≤ 9223372036854775807 := by simp only [maxLen] at h63; omega
  rcases hown.2 with ⟨rfl, rfl⟩ | ⟨g, cap, cur, rfl, hbg, hgg, hnc, hcm, hcs, htake⟩
  · have hr2 := run_append_nil (P := P) w t ty e i z ht hi hz a m c news hl hnews hm (by omega) (by have hb := hbytes; simp only [Nat.zero_add] at hb; omega)
    rw [hr] at hr2
    injection hr2 with e1 e2
    subst e1
    exact .inr rfl
  · by_cases hroom : n + m ≤ cap
    · have hfit : n * i.size + news.length ≤ cur.size := by rw [hl, hcs, ← Nat.add_mul]; exact Nat.mul_le_mul_right _ hroom
      have hr2 := run_append_room (P := P) w t ty e i ht hi g n cap cur hgg a m c news hl hnews h1 hroom hfit
      rw [hr] at hr2
      injection hr2 with e1 e2
      subst e1
      exact .inl rfl
    · have holds : ∀ j u, xs[j]? = some u → w.cell? ((⟨g, 0, none⟩ : Addr).add j) = some u := hown.cells (g := g) rfl
      have hr2 := run_append_grow (P := P) w t ty e i z ht hi hz ⟨g, 0, none⟩ n cap xs hown.1 holds a m c news hl hnews (by omega) (by omega) (growslice_fits (by omega) hbytes)
      rw [hr] at hr2
      injection hr2 with e1 e2
      subst e1
      exact .inr rfl

theorem wp_append_fresh {P : Program} (w : World) {o : Oper} {a : Act} {K : Act → World → Prop} {Q : Exit → Act → World → Prop} (s x : Operand) (t : TypeId)
    (ho : o.op = .call { callee := .builtin .append, args := #[s, x], argTypes := #[t, t] })
    (base : Nat) (e : TypeId) (i : TypeInfo) (z : Value) (size bytes : Nat) (ht : P.underlying t = some (.slice e)) (hi : P.info? e = some i) (hz : i.zero = some z)
    (hsize : i.size = size) (hby : i.bytes = bytes) (hzs : z.cells.size = size) (hsz : 0 < size)
    (v : Value) (n : Nat) (xs : List Value) (hs : a.eval s = v) (hown : w.ownsRow base e size v n xs)
    (ad : Addr) (m c : Nat) (hm : 0 < m) (news : List Value) (hx : a.eval x = .slice (some ad) m c) (hl : news.length = m * size) (hnews : ∀ j u, news[j]? = some u → w.cell? (ad.add j) = some u) (h1 : ∀ u ∈ news, u.oneCell' = true)
    (h63 : n + m ≤ maxLen) (hbytes : (n + m) * bytes ≤ 140737488355328) (hbase : base ≤ w.heap.size)
    (h : ∀ g' c' w', w'.ownsRow base e size (.slice (some ⟨g', 0, none⟩) (n + m) c') (n + m) (xs ++ news) → w.grownBy w' v.ownBlock → ((Value.slice (some ⟨g', 0, none⟩) (n + m) c').ownBlock = v.ownBlock ∨ (Value.slice (some ⟨g', 0, none⟩) (n + m) c').ownBlock = some w.heap.size) → K (a.put o.dst (.slice (some ⟨g', 0, none⟩) (n + m) c')) w') : o.wp P a w K Q := by
  obtain ⟨v', w', hr, h2, h3, h4⟩ := run_append_fresh (P := P) w base t o.type e i z size bytes ht hi hz hsize hby hzs hsz v n xs hown ad m c hm news hl hnews h1 h63 hbytes hbase
  unfold Oper.wp execOp
  simp only [ho, resolve, invoke, builtin, Sem.run_bind, Sem.run_pure, Result.andThen_ok, List.map_toArray, List.map_cons, List.map_nil, hs, hx, hr]
  rcases h2.2 with ⟨_, h0⟩ | ⟨g', c', cur, hv, _⟩
  · omega
  · subst hv
    exact h g' c' w' h2 h3 h4

theorem wpList_append_fresh {P : Program} (w : World) {ops : Array Oper} {rest : List Oper} {o : Oper} {a : Act} {Q : Exit → Act → World → Prop} (hgd : o.guard = none) (s x : Operand) (t : TypeId)
    (ho : o.op = .call { callee := .builtin .append, args := #[s, x], argTypes := #[t, t] })
    (base : Nat) (e : TypeId) (i : TypeInfo) (z : Value) (size bytes : Nat) (ht : P.underlying t = some (.slice e)) (hi : P.info? e = some i) (hz : i.zero = some z)
    (hsize : i.size = size) (hby : i.bytes = bytes) (hzs : z.cells.size = size) (hsz : 0 < size)
    (v : Value) (n : Nat) (xs : List Value) (hs : a.eval s = v) (hown : w.ownsRow base e size v n xs)
    (ad : Addr) (m c : Nat) (hm : 0 < m) (news : List Value) (hx : a.eval x = .slice (some ad) m c) (hl : news.length = m * size) (hnews : ∀ j u, news[j]? = some u → w.cell? (ad.add j) = some u) (h1 : ∀ u ∈ news, u.oneCell' = true)
    (h63 : n + m ≤ maxLen) (hbytes : (n + m) * bytes ≤ 140737488355328) (hbase : base ≤ w.heap.size)
    (h : ∀ g' c' w', w'.ownsRow base e size (.slice (some ⟨g', 0, none⟩) (n + m) c') (n + m) (xs ++ news) → w.grownBy w' v.ownBlock → ((Value.slice (some ⟨g', 0, none⟩) (n + m) c').ownBlock = v.ownBlock ∨ (Value.slice (some ⟨g', 0, none⟩) (n + m) c').ownBlock = some w.heap.size) → wpList P ops Q rest (a.put o.dst (.slice (some ⟨g', 0, none⟩) (n + m) c')) w') : wpList P ops Q (o :: rest) a w :=
  wpList_plain hgd fun _ hK => wp_append_fresh w s x t ho base e i z size bytes ht hi hz hsize hby hzs hsz v n xs hs hown ad m c hm news hx hl hnews h1 h63 hbytes hbase fun g' c' w' h2 h3 h4 => hK _ _ (h g' c' w' h2 h3 h4)

/-- .. as one step of a region that draws its order -/
theorem step_append_fresh {P : Program} {ops : Array Oper} {o : Oper} {a : Act} {w : World} {K : Act → World → Prop} {Q : Exit → Act → World → Prop} {E : Prop}
    (hg : o.guard = none) (s x : Operand) (t : TypeId) (hop : o.op = Op.call { callee := Callee.builtin Builtin.append, args := #[s, x], argTypes := #[t, t] })
    (base : Nat) (e : TypeId) (i : TypeInfo) (z : Value) (size bytes : Nat) (ht : P.underlying t = some (.slice e)) (hi : P.info? e = some i) (hz : i.zero = some z)
    (hsize : i.size = size) (hby : i.bytes = bytes) (hzs : z.cells.size = size) (hsz : 0 < size)
    (v : Value) (n : Nat) (xs : List Value) (hs : a.eval s = v) (hown : w.ownsRow base e size v n xs)
    (ad : Addr) (m c : Nat) (hm : 0 < m) (news : List Value) (hx : a.eval x = .slice (some ad) m c) (hl : news.length = m * size) (hnews : ∀ j u, news[j]? = some u → w.cell? (ad.add j) = some u) (h1 : ∀ u ∈ news, u.oneCell' = true)
    (h63 : n + m ≤ maxLen) (hbytes : (n + m) * bytes ≤ 140737488355328) (hbase : base ≤ w.heap.size)
    (h : ∀ g' c' w', w'.ownsRow base e size (.slice (some ⟨g', 0, none⟩) (n + m) c') (n + m) (xs ++ news) → w.grownBy w' v.ownBlock → ((Value.slice (some ⟨g', 0, none⟩) (n + m) c').ownBlock = v.ownBlock ∨ (Value.slice (some ⟨g', 0, none⟩) (n + m) c').ownBlock = some w.heap.size) → K (a.put o.dst (.slice (some ⟨g', 0, none⟩) (n + m) c')) w') :
    if Region.wanted o (yielded ops a.tmps) = true then Oper.wp P o a w K Q else E := by
  have hw : Region.wanted o (yielded ops a.tmps) = true := by simp [Region.wanted, hg]
  rw [if_pos hw]
  exact wp_append_fresh w s x t hop base e i z size bytes ht hi hz hsize hby hzs hsz v n xs hs hown ad m c hm news hx hl hnews h1 h63 hbytes hbase h

/-- whose a block is -/
abbrev Tag := Nat × Nat

/-- from w to w' the blocks of one tag alone may have turned, and new ones may be there -/
structure Moves (own own' : Nat → Tag) (w w' : World) (t : Tag) : Prop where
  os : w'.os = w.os
  tape : w'.tape = w.tape
  output : w'.output = w.output
  size : w.heap.size ≤ w'.heap.size
  block : ∀ k, k < w.heap.size → own k ≠ t → w'.heap[k]? = w.heap[k]?
  tags : ∀ k, k < w.heap.size → own' k = own k

theorem Moves.refl (own : Nat → Tag) (w : World) (t : Tag) : Moves own own w w t := ⟨rfl, rfl, rfl, Nat.le_refl _, fun _ _ _ => rfl, fun _ _ => rfl⟩

theorem Moves.trans {own own' own'' : Nat → Tag} {w w' w'' : World} {t : Tag} (h : Moves own own' w w' t) (k : Moves own' own'' w' w'' t) : Moves own own'' w w'' t :=
  ⟨k.os.trans h.os, k.tape.trans h.tape, k.output.trans h.output, Nat.le_trans h.size k.size,
    fun i hi ht => (k.block i (Nat.lt_of_lt_of_le hi h.size) (by rw [h.tags i hi]; exact ht)).trans (h.block i hi ht), fun i hi => (k.tags i (Nat.lt_of_lt_of_le hi h.size)).trans (h.tags i hi)⟩

theorem Moves.alloc (own : Nat → Tag) (w : World) (o : Obj) (t : Tag) : Moves own own w (w.alloc o) t :=
  ⟨rfl, rfl, rfl, by simp, fun k hk _ => Below.heap_alloc w o k hk, fun _ _ => rfl⟩

theorem Moves.drew (own : Nat → Tag) (w : World) (t : Tag) : Moves own own w w.drew t := ⟨rfl, rfl, rfl, Nat.le_refl _, fun _ _ _ => rfl, fun _ _ => rfl⟩

theorem Moves.setCell (own : Nat → Tag) (w : World) (g j : Nat) (u : Value) {t : Tag} (h : own g = t) : Moves own own w (w.setCell ⟨g, j, none⟩ u) t :=
  ⟨rfl, rfl, rfl, by simp [World.setCell], fun k _ ht => Below.heap_setCell _ _ _ _ (fun e => ht (by rw [← h]; exact congrArg own e)), fun _ _ => rfl⟩

theorem Moves.setRow (own : Nat → Tag) (w : World) (g : Nat) (cs : Array Value) {t : Tag} (h : own g = t) : Moves own own w (w.setRow g cs) t :=
  ⟨rfl, rfl, rfl, by simp, fun k _ ht => setRow_other w g k _ (fun e => ht (by rw [← h, e])), fun _ _ => rfl⟩

/-- a new block for a tag -/
def also (own : Nat → Tag) (n : Nat) (t : Tag) : Nat → Tag := fun k => if k = n then t else own k

theorem Moves.grown {own : Nat → Tag} {w w' : World} {v : Value} {t : Tag} (hv : ∀ g, v.ownBlock = some g → own g = t) (hg : w.grownBy w' v.ownBlock) : Moves own (also own w.heap.size t) w w' t :=
  ⟨hg.os, hg.tape, hg.output, hg.size, fun k hk ht => hg.block k hk (fun e => ht (hv k e.symm)), fun k hk => by unfold also; rw [if_neg (by omega)]⟩

theorem also_tag {own : Nat → Tag} {w : World} {v v' : Value} {t : Tag} (hv : ∀ g, v.ownBlock = some g → own g = t) (h : v'.ownBlock = v.ownBlock ∨ v'.ownBlock = some w.heap.size) : ∀ g, v'.ownBlock = some g → also own w.heap.size t g = t := by
  intro g hg
  unfold also
  split
  · rfl
  · rename_i hne
    rcases h with h | h
    · exact hv g (by rw [← h]; exact hg)
    · rw [hg] at h
      exact absurd (Option.some.inj h) hne

/-- a row that is owned, with its tag -/
structure Owned (own : Nat → Tag) (w : World) (e : TypeId) (size : Nat) (v : Value) (n : Nat) (xs : List Value) (t : Tag) : Prop where
  row : w.ownsRow 0 e size v n xs
  tag : ∀ g, v.ownBlock = some g → own g = t

theorem Owned.moves {own own' : Nat → Tag} {w w' : World} {e : TypeId} {size : Nat} {v : Value} {n : Nat} {xs : List Value} {t t' : Tag} (h : Owned own w e size v n xs t) (m : Moves own own' w w' t') (hne : t ≠ t') : Owned own' w' e size v n xs t := by
  refine ⟨⟨h.row.1, ?_⟩, fun g hg => (m.tags g (h.row.lt g hg).2).trans (h.tag g hg)⟩
  rcases h.row.2 with hn | ⟨g, cap, cur, rfl, hb, hgg, rest⟩
  · exact .inl hn
  · refine .inr ⟨g, cap, cur, rfl, hb, ?_, rest⟩
    rw [m.block g (Array.getElem?_eq_some_iff.1 hgg).1 (by rw [h.tag g rfl]; exact hne)]
    exact hgg

theorem Owned.nil (own : Nat → Tag) (w : World) (e : TypeId) (size : Nat) (t : Tag) : Owned own w e size (.slice none 0 0) 0 [] t := ⟨World.ownsRow_nil _ _ _ _, fun g hg => by simp [Value.ownBlock] at hg⟩

/-- a block that is known whole, with its tag -/
structure Block (own : Nat → Tag) (w : World) (g : Nat) (cs : Array Value) (e : TypeId) (t : Tag) : Prop where
  heap : w.heap[g]? = some (.cells cs e (0, 0))
  tag : own g = t

theorem Block.lt {own : Nat → Tag} {w : World} {g : Nat} {cs : Array Value} {e : TypeId} {t : Tag} (h : Block own w g cs e t) : g < w.heap.size := (Array.getElem?_eq_some_iff.1 h.heap).1

theorem Block.moves {own own' : Nat → Tag} {w w' : World} {g : Nat} {cs : Array Value} {e : TypeId} {t t' : Tag} (h : Block own w g cs e t) (m : Moves own own' w w' t') (hne : t ≠ t') : Block own' w' g cs e t :=
  ⟨(m.block g h.lt (by rw [h.tag]; exact hne)).trans h.heap, (m.tags g h.lt).trans h.tag⟩

theorem Block.cell {own : Nat → Tag} {w : World} {g : Nat} {cs : Array Value} {e : TypeId} {t : Tag} (h : Block own w g cs e t) (j : Nat) {v : Value} (hv : cs[j]? = some v) : w.cell? ⟨g, j, none⟩ = some v := (cell_of_row w g j cs e (0, 0) h.heap).trans hv
theorem Block.frozen {own : Nat → Tag} {w : World} {g : Nat} {cs : Array Value} {e : TypeId} {t : Tag} (h : Block own w g cs e t) (j : Nat) : w.frozen? ⟨g, j, none⟩ = false := frozen_of_row w g j cs e h.heap

theorem Block.set {own : Nat → Tag} {w : World} {g : Nat} {cs : Array Value} {e : TypeId} {t : Tag} (h : Block own w g cs e t) (j : Nat) (u : Value) : Block own (w.setCell ⟨g, j, none⟩ u) g (cs.setIfInBounds j u) e t :=
  ⟨heap_setCell_same w g j cs e u h.heap, h.tag⟩

/-- cells of a row that is owned: what a store does -/
theorem Owned.form {own : Nat → Tag} {w : World} {e : TypeId} {size : Nat} {v : Value} {n : Nat} {xs : List Value} {t : Tag} (h : Owned own w e size v n xs t) (hn : 0 < n) : ∃ g cap, v = .slice (some ⟨g, 0, none⟩) n cap ∧ own g = t ∧ n ≤ cap ∧ cap ≤ maxLen := by
  rcases h.row.2 with ⟨_, h0⟩ | ⟨g, cap, cur, rfl, _, _, hc, hm, _⟩
  · omega
  · exact ⟨g, cap, rfl, h.tag g rfl, hc, hm⟩

theorem Owned.cell {own : Nat → Tag} {w : World} {e : TypeId} {size g cap : Nat} {n : Nat} {xs : List Value} {t : Tag} (h : Owned own w e size (.slice (some ⟨g, 0, none⟩) n cap) n xs t) (j : Nat) {u : Value} (hu : xs[j]? = some u) : w.cell? ⟨g, j, none⟩ = some u := by
  have := h.row.cells (g := g) rfl j u hu
  rwa [show (⟨g, 0, none⟩ : Addr).add j = ⟨g, j, none⟩ by unfold Addr.add; split <;> simp_all] at this

theorem Owned.frozen {own : Nat → Tag} {w : World} {e : TypeId} {size g cap : Nat} {n : Nat} {xs : List Value} {t : Tag} (h : Owned own w e size (.slice (some ⟨g, 0, none⟩) n cap) n xs t) (j : Nat) : w.frozen? ⟨g, j, none⟩ = false := by
  rcases h.row.2 with ⟨h0, _⟩ | ⟨g', cap', cur, hv, _, hh, _⟩
  · cases h0
  · cases hv
    exact frozen_of_row w g j cur e hh

theorem Owned.set {own : Nat → Tag} {w : World} {e : TypeId} {size g cap : Nat} {n : Nat} {xs : List Value} {t : Tag} (h : Owned own w e size (.slice (some ⟨g, 0, none⟩) n cap) n xs t) (j : Nat) (u : Value) : Owned own (w.setCell ⟨g, j, none⟩ u) e size (.slice (some ⟨g, 0, none⟩) n cap) n (xs.set j u) t := by
  refine ⟨⟨by rw [List.length_set]; exact h.row.1, ?_⟩, h.tag⟩
  rcases h.row.2 with ⟨h0, _⟩ | ⟨g', cap', cur, hv, hb, hh, hn, hm, hs, ht⟩
  · cases h0
  · cases hv
    refine .inr ⟨g, cap, _, rfl, hb, heap_setCell_same w g j cur e u hh, hn, hm, by simpa using hs, ?_⟩
    rw [← ht, Array.toList_setIfInBounds, List.take_set]
end Go.Proofs.YtmmcpjmgindpkacDoor.Own
