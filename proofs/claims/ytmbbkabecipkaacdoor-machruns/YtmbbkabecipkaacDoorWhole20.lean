/-
  WHAT mach.lookAs AND mach.start GIVE.
  Conditions: the image's parts and the data lie there.
-/
import Derived.Test.YtmbbkabecipkaacDoorWhole19
namespace Go.Proofs.YtmbbkabecipkaacDoor.Start
open Go.RowKit Tab Go.Proofs.YtmbbkabecipkaacDoor.Check Lists Img Mach Own Go.Proofs.YtmbbkabecipkaacDoor.Inv Go.Proofs.YtmbbkabecipkaacDoor.Frame Take Go.Proofs.YtmbbkabecipkaacDoor.Went Go.Proofs.YtmbbkabecipkaacDoor.Entry ActE ActQ

theorem info82 : (Tryd.prog.info? 82).map (fun i => (i.zero, i.size, i.bytes)) = some (some .nilFunc, 1, 8) := by kernel_rfl

theorem lookAs (v0 v1 v2 v3 : Value) (da : Option Addr) (n c : Nat) (w : World) :
    Calls Tryd.prog 35 #[.agg #[v0, v1, v2, v3], .slice da n c] w fun e w' => e = .returned (.func (.func 45) #[] #[.pointer (some ⟨w.heap.size, 0, none⟩), .pointer (some ⟨w.heap.size + 1, 0, none⟩)]) ∧ w' = (w.alloc (.cells #[v0, v1, v2, v3] 55)).alloc (.cells #[.slice da n c] 29) := by
  have hmf : ∀ (fn : Fn) (first cap : Array Value) (w : World), (Instr.makeFunc fn first cap).run Tryd.prog w = .ok (.func fn first cap) w := fun _ _ _ _ => rfl
  go_enter Tryd.func35, Tryd.ntmps35
  go_wp2
  go_ret
  exact ⟨rfl, rfl⟩

/-- a look, and where what it caught lies -/
def clo (p : Nat × Nat) : Value := .func (.func 45) #[] #[.pointer (some ⟨p.1, 0, none⟩), .pointer (some ⟨p.2, 0, none⟩)]
def partCells (p : PartD) : Array Value := #[.slice p.ca p.cl p.cc, .slice p.ea p.el p.ec, .int .i64 p.lo, .int .i64 p.hi]

/-- how a run that begins lies there when k looks are made -/
structure Rel (w : World) (R D : Nat) (ao : Option Addr) (len cap : Nat) (fuel : Int) (data : List Int) (P : Nat → PartD) (own : Nat → Tag) (lS : Value) (bs : List (Nat × Nat)) (wr : World) : Prop where
  below : Below w.heap.size w wr
  lowR : w.heap.size ≤ R
  lowL : ∀ k, lS.ownBlock = some k → w.heap.size ≤ k
  run : Block own wr R #[.slice ao len cap, lS, .slice none 0 0, .int .i64 fuel, .int .i64 0, .int .i64 0, .slice none 0 0, .slice (some ⟨D, 0, none⟩) data.length data.length, .slice none 0 0] 68 (1, 0)
  dat : Owned own wr 3 1 (.slice (some ⟨D, 0, none⟩) data.length data.length) data.length (ints data) (2, 0)
  looks : Owned own wr 82 1 lS bs.length (bs.map clo) (8, 0)
  boxes : ∀ i b0 b1, bs[i]? = some (b0, b1) → Block own wr b0 (partCells (P i)) 55 (0, 0) ∧ Block own wr b1 #[.slice (some ⟨D, 0, none⟩) data.length data.length] 29 (0, 0)

/-- a look more: W: behind the box of the part, the two boxes of the look and the look's own new cell; w': behind the append -/
theorem Rel.more {w : World} {R D : Nat} {ao : Option Addr} {len cap : Nat} {fuel : Int} {data : List Int} {P : Nat → PartD} {own : Nat → Tag} {lS : Value} {bs : List (Nat × Nat)} {wr W w' : World} (h : Rel w R D ao len cap fuel data P own lS bs wr) {k : Nat} (hk : bs.length = k) {g' c' n : Nat} (hn : n = wr.heap.size) {o : Obj} {o2 : Obj}
    (hW : W.os = wr.os ∧ W.tape = wr.tape ∧ W.output = wr.output ∧ W.heap = ((((wr.alloc o).alloc (.cells (partCells (P k)) 55)).alloc (.cells #[.slice (some ⟨D, 0, none⟩) data.length data.length] 29)).alloc o2).heap)
    (hg : W.grownBy w' lS.ownBlock) (hnew : (Value.slice (some ⟨g', 0, none⟩) (k + 1) c').ownBlock = lS.ownBlock ∨ (Value.slice (some ⟨g', 0, none⟩) (k + 1) c').ownBlock = some W.heap.size)
    (ho : w'.ownsRow 0 82 1 (.slice (some ⟨g', 0, none⟩) (k + 1) c') (k + 1) (bs.map clo ++ [clo (n + 1, n + 1 + 1)])) :
    ∃ own', Rel w R D ao len cap fuel data P own' (.slice (some ⟨g', 0, none⟩) (k + 1) c') (bs ++ [(n + 1, n + 1 + 1)]) (w'.setCell ⟨R, 1, none⟩ (.slice (some ⟨g', 0, none⟩) (k + 1) c')) := by
  subst hn
  subst hk
  obtain ⟨q0, q1, q2, q3⟩ := hW
  have sz : W.heap.size = wr.heap.size + 1 + 1 + 1 + 1 := by rw [q3]; simp
  -- the new blocks of the look are kept ones
  obtain ⟨own1, e1⟩ : ∃ o : Nat → Tag, o = fun k => if wr.heap.size ≤ k then (0, 0) else own k := ⟨_, rfl⟩
  have m1 : Moves own own1 wr W (9, 9) := by
    refine ⟨q0, q1, q2, by omega, fun k hk _ => ?_, fun k hk => by rw [e1]; simp; omega⟩
    rw [q3, Below.heap_alloc _ _ _ (by simp; omega), Below.heap_alloc _ _ _ (by simp; omega), Below.heap_alloc _ _ _ (by simp; omega), Below.heap_alloc _ _ _ hk]
  have hb1 : Block own1 W (wr.heap.size + 1) (partCells (P bs.length)) 55 (0, 0) := by
    refine ⟨?_, by rw [e1]; simp⟩
    rw [q3, Below.heap_alloc _ _ _ (by simp), Below.heap_alloc _ _ _ (by simp)]
    have := heap_alloc_new (wr.alloc o) (.cells (partCells (P bs.length)) 55)
    simpa using this
  have hb2 : Block own1 W (wr.heap.size + 1 + 1) #[.slice (some ⟨D, 0, none⟩) data.length data.length] 29 (0, 0) := by
    refine ⟨?_, by rw [e1]; simp; omega⟩
    rw [q3, Below.heap_alloc _ _ _ (by simp)]
    have := heap_alloc_new ((wr.alloc o).alloc (.cells (partCells (P bs.length)) 55)) (.cells #[.slice (some ⟨D, 0, none⟩) data.length data.length] 29)
    simpa using this
  have l1 := h.looks.moves m1 (by decide)
  have m2 := Moves.grown (t := (8, 0)) l1.tag hg
  have r2 := (h.run.moves m1 (by decide)).moves m2 (by decide)
  have m3 := Moves.setCell (also own1 W.heap.size (8, 0)) w' R 1 (.slice (some ⟨g', 0, none⟩) (bs.length + 1) c') r2.tag
  refine ⟨also own1 W.heap.size (8, 0), ?_, h.lowR, ?_, r2.set 1 _, ((h.dat.moves m1 (by decide)).moves m2 (by decide)).moves m3 (by decide), ?_, ?_⟩
  · have b1 : Below w.heap.size w W := h.below.trans ⟨q0, q1, q2, m1.size, fun k hk => by
      have hk2 := Nat.lt_of_lt_of_le hk h.below.size
      rw [q3, Below.heap_alloc _ _ _ (by simp; omega), Below.heap_alloc _ _ _ (by simp; omega), Below.heap_alloc _ _ _ (by simp; omega), Below.heap_alloc _ _ _ hk2]⟩
    exact (b1.grown hg (by have := h.below.size; omega) h.lowL).setCell h.lowR _
  · intro k hk
    rcases hnew with e | e
    · exact h.lowL k (by rw [← e]; exact hk)
    · rw [hk] at e
      have := Option.some.inj e
      have := h.below.size
      omega
  · have : Owned (also own1 W.heap.size (8, 0)) w' 82 1 (.slice (some ⟨g', 0, none⟩) (bs.length + 1) c') (bs ++ [(wr.heap.size + 1, wr.heap.size + 1 + 1)]).length ((bs ++ [(wr.heap.size + 1, wr.heap.size + 1 + 1)]).map clo) (8, 0) := ⟨by simpa using ho, also_tag l1.tag hnew⟩
    exact this.moves m3 (by decide)
  · intro i b0 b1 hi
    by_cases hlt : i < bs.length
    · rw [List.getElem?_append_left hlt] at hi
      have := h.boxes i b0 b1 hi
      exact ⟨((this.1.moves m1 (by decide)).moves m2 (by decide)).moves m3 (by decide), ((this.2.moves m1 (by decide)).moves m2 (by decide)).moves m3 (by decide)⟩
    · have h1 := (List.getElem?_eq_some_iff.1 hi).1
      simp only [List.length_append, List.length_cons, List.length_nil] at h1
      obtain rfl : i = bs.length := by omega
      simp only [List.getElem?_concat_length, Option.some.injEq, Prod.mk.injEq] at hi
      obtain ⟨rfl, rfl⟩ := hi
      exact ⟨(hb1.moves m2 (by decide)).moves m3 (by decide), (hb2.moves m2 (by decide)).moves m3 (by decide)⟩
/-- .. and the run's own block is as it was -/
theorem Rel.held {w : World} {R D : Nat} {ao : Option Addr} {len cap : Nat} {fuel : Int} {data : List Int} {P : Nat → PartD} {own : Nat → Tag} {lS : Value} {bs : List (Nat × Nat)} {wr W w' : World} (h : Rel w R D ao len cap fuel data P own lS bs wr) {o o1 o2 o3 : Obj}
    (hW : W.heap = ((((wr.alloc o).alloc o1).alloc o2).alloc o3).heap) (hg : W.grownBy w' lS.ownBlock) : w'.cell? ⟨R, 1, none⟩ = some lS ∧ w'.frozen? ⟨R, 1, none⟩ = false := by
  have hlt := h.run.lt
  have e : w'.heap[R]? = wr.heap[R]? := by
    rw [hg.block R (by rw [hW]; simp; omega) (fun e => by have a := h.looks.tag R e.symm; rw [h.run.tag] at a; cases a), hW, Below.heap_alloc _ _ _ (by simp; omega), Below.heap_alloc _ _ _ (by simp; omega), Below.heap_alloc _ _ _ (by simp; omega), Below.heap_alloc _ _ _ hlt]
  exact ⟨(World.cell?_of_block (w := wr) (a := ⟨R, 1, none⟩) e).trans (h.run.cell 1 rfl), (World.frozen?_of_block (w := wr) (a := ⟨R, 1, none⟩) e).trans (h.run.frozen 1)⟩

theorem Rel.row {w : World} {R D : Nat} {ao : Option Addr} {len cap : Nat} {fuel : Int} {data : List Int} {P : Nat → PartD} {own : Nat → Tag} {lS : Value} {bs : List (Nat × Nat)} {wr W : World} (h : Rel w R D ao len cap fuel data P own lS bs wr) {k : Nat} (hk : bs.length = k) {o o1 o2 o3 : Obj}
    (hW : W.heap = ((((wr.alloc o).alloc o1).alloc o2).alloc o3).heap) : W.ownsRow 0 82 1 lS k (bs.map clo) := by
  subst hk
  have := ((((h.looks.row.alloc o).alloc o1).alloc o2).alloc o3)
  exact ⟨this.1, by rw [hW]; exact this.2⟩

theorem rel0 {w w4 : World} {om : Obj} {ao : Option Addr} {len cap : Nat} {fuel : Int} {data : List Int} {P : Nat → PartD} {W : World} (hW : W = (w.alloc om).alloc (.cells #[.slice ao len cap, .slice none 0 0, .slice none 0 0, .int .i64 fuel, .int .i64 0, .int .i64 0, .slice none 0 0, .slice none 0 0, .slice none 0 0] 68))
    (hb : Below W.heap.size W w4) (ho : w4.ownsRow W.heap.size 3 1 (.slice (some ⟨W.heap.size, 0, none⟩) data.length data.length) data.length (ints data)) :
    ∃ own, Rel w (w.heap.size + 1) (w.heap.size + 1 + 1) ao len cap fuel data P own (.slice none 0 0) [] (w4.setCell ⟨w.heap.size + 1, 7, none⟩ (.slice (some ⟨w.heap.size + 1 + 1, 0, none⟩) data.length data.length)) ∧
      w4.cell? ⟨w.heap.size + 1, 7, none⟩ = some (.slice none 0 0) ∧ w4.frozen? ⟨w.heap.size + 1, 7, none⟩ = false := by
  have sz : W.heap.size = w.heap.size + 1 + 1 := by rw [hW]; simp
  rw [sz] at ho
  have hr : w4.heap[w.heap.size + 1]? = some (.cells #[.slice ao len cap, .slice none 0 0, .slice none 0 0, .int .i64 fuel, .int .i64 0, .int .i64 0, .slice none 0 0, .slice none 0 0, .slice none 0 0] 68 (0, 0)) := by
    rw [hb.block _ (by omega), hW]
    have := heap_alloc_new (w.alloc om) (.cells #[.slice ao len cap, .slice none 0 0, .slice none 0 0, .int .i64 fuel, .int .i64 0, .int .i64 0, .slice none 0 0, .slice none 0 0, .slice none 0 0] 68)
    simpa using this
  obtain ⟨own, eo⟩ : ∃ o : Nat → Tag, o = fun k => if k = w.heap.size + 1 then (1, 0) else if k = w.heap.size + 1 + 1 then (2, 0) else (0, 0) := ⟨_, rfl⟩
  have hB : Block own w4 (w.heap.size + 1) _ 68 (1, 0) := ⟨hr, by rw [eo]; simp⟩
  have hD : Owned own w4 3 1 (.slice (some ⟨w.heap.size + 1 + 1, 0, none⟩) data.length data.length) data.length (ints data) (2, 0) := by
    refine ⟨⟨ho.1, ?_⟩, fun g hg => by simp [Value.ownBlock] at hg; rw [eo, ← hg]; simp⟩
    rcases ho.2 with h | ⟨g, cap, cur, hv, _, r⟩
    · exact .inl h
    · exact .inr ⟨g, cap, cur, hv, Nat.zero_le _, r⟩
  have m := Moves.setCell own w4 (w.heap.size + 1) 7 (.slice (some ⟨w.heap.size + 1 + 1, 0, none⟩) data.length data.length) hB.tag
  have b0 : Below w.heap.size w W := by rw [hW]; exact below2 w _ _
  exact ⟨own, ⟨(b0.trans (hb.mono (by omega))).setCell (by simp) _, by omega, fun k hk => by simp [Value.ownBlock] at hk, hB.set 7 _, hD.moves m (by decide), Owned.nil _ _ _ _ _, fun i b0 b1 hi => by simp at hi⟩, hB.cell 7 rfl, hB.frozen 7⟩

set_option maxRecDepth 100000 in
set_option maxHeartbeats 2000000 in
theorem start (ao : Option Addr) (len cap : Nat) (hlen : len ≤ 5) (P : Nat → PartD) (data : List Int) (hdl : data.length ≤ 250) (da : Option Addr) (dc : Nat) (fuel : Int) (w : World) (hin : Parts w ao len P)
    (src : 0 < data.length → ∃ ad, da = some ad ∧ ∀ w', Below w.heap.size w w' → ∀ j u, (ints data)[j]? = some u → w'.cell? (ad.add j) = some u) :
    Calls Tryd.prog 23 #[.agg #[.slice ao len cap], .slice da data.length dc, .int .i64 fuel] w fun e w' => e = .returned (.pointer (some ⟨w.heap.size + 1, 0, none⟩)) ∧ ∃ own lS bs, bs.length = len ∧ Rel w (w.heap.size + 1) (w.heap.size + 1 + 1) ao len cap fuel data P own lS bs w' := by
  have k34 : ∀ W, Below w.heap.size w W → _ := fun W hW => copied data hdl da dc W (fun hp => (src hp).imp fun ad hd => ⟨hd.1, fun w' hb => hd.2 w' (hW.trans (hb.mono hW.size))⟩)
  have r0 := fun w4 => rel0 (w := w) (w4 := w4) (om := .cells #[.slice ao len cap] 24) (ao := ao) (len := len) (cap := cap) (fuel := fuel) (data := data) (P := P) rfl
  have bm : ∀ w4, Below w.heap.size w w4 → True := fun _ _ => trivial
  obtain ⟨i1, gi, gz0, gz1, gz2⟩ := info_parts info82
  have hlI : (len : Int) ≤ 5 := by omega
  have keep : ∀ w', Below w.heap.size w w' → Parts w' ao len P := fun w' hb => Parts_below hin hb
  obtain ⟨nd, hnd⟩ : ∃ n, n = data.length := ⟨_, rfl⟩
  rw [← hnd] at k34 ⊢
  have K34 : Hid _ := k34
  have R0 : Hid _ := r0
  have KEEP : Hid _ := keep
  have HND : Hid _ := hnd
  clear k34 r0 keep src hin hnd bm
  go_enter Tryd.func23, Tryd.ntmps23
  go_wp2_with (go_at_call 34; refine (K34.out _ (below2 w _ _)).mono ?_; rintro e w4 ⟨rfl, hb4, own4⟩; obtain ⟨own0, rel, c7, z7⟩ := R0.out w4 hb4 (by rw [← HND.out]; exact own4); have cm := (hb4.cell (p := ⟨w.heap.size, 0, none⟩) (by simp; omega)).trans ((World.cell?_alloc_past _ _ _ (by simp)).trans (by simp : (w.alloc (.cells #[.slice ao len cap] 24)).cell? ⟨w.heap.size, 0, none⟩ = some (.slice ao len cap))); have REL : Hid _ := rel; clear rel own4 hb4)
  go_loopw [24] (fun i wr => ∃ k : Nat, k ≤ len ∧ i = .int .i64 k ∧ ∃ own lS bs, bs.length = k ∧ Rel w (w.heap.size + 1) (w.heap.size + 1 + 1) ao len cap fuel data P own lS bs wr) (fun i _ => len - (intOf i).toNat)
  case atStart => exact ⟨0, Nat.zero_le _, rfl, _, _, [], rfl, by have := REL.out; rw [← HND.out] at this; exact this⟩
  case round =>
    obtain ⟨k, hk, rfl, own, lS, bs, hbs, hR⟩ := hrel
    by_cases hkl : k < len
    · obtain ⟨bl, off, rfl, hbl, t0, t1, t2, t3⟩ := Parts_at (KEEP.out _ hR.below) hkl
      obtain ⟨aL, cL, rfl⟩ := owned_form hR.looks
      rw [hbs] at hR
      have hkI : (k : Int) < len := by omega
      have c1 := hR.run.cell 1 (v := .slice aL k cL) rfl
      have d7 := hR.run.cell 7 (v := .slice (some ⟨w.heap.size + 1 + 1, 0, none⟩) data.length data.length) rfl
      have hRl : w.heap.size + 1 < wr.heap.size := hR.run.lt
      have hne : w.heap.size + 1 ≠ wr.heap.size := by omega
      rw [← HND.out] at d7
      have u1 : ∀ o, (wr.alloc o).cell? ⟨w.heap.size + 1, 1, none⟩ = some (.slice aL k cL) := fun o => (World.cell?_alloc_past o _ _ hRl).trans c1
      have u1b : ∀ o o' o2, (((wr.alloc o).alloc o').alloc o2).cell? ⟨w.heap.size + 1, 1, none⟩ = some (.slice aL k cL) := fun o o' o2 => (World.cell?_alloc_past o2 _ _ (by simp; omega)).trans ((World.cell?_alloc_past o' _ _ (by simp; omega)).trans (u1 o))
      have u1c : ∀ o o' o2 o3, ((((wr.alloc o).alloc o').alloc o2).alloc o3).cell? ⟨w.heap.size + 1, 1, none⟩ = some (.slice aL k cL) := fun o o' o2 o3 => (World.cell?_alloc_past o3 _ _ (by simp; omega)).trans (u1b o o' o2)
      have u7 : ∀ o, (wr.alloc o).cell? ⟨w.heap.size + 1, 7, none⟩ = some (.slice (some ⟨w.heap.size + 1 + 1, 0, none⟩) nd nd) := fun o => (World.cell?_alloc_past o _ _ hRl).trans d7
      obtain ⟨ca, eca⟩ : ∃ x, x = (P k).ca := ⟨_, rfl⟩
      obtain ⟨cl, ecl⟩ : ∃ x, x = (P k).cl := ⟨_, rfl⟩
      obtain ⟨cc, ecc⟩ : ∃ x, x = (P k).cc := ⟨_, rfl⟩
      obtain ⟨ea, eea⟩ : ∃ x, x = (P k).ea := ⟨_, rfl⟩
      obtain ⟨el, eel⟩ : ∃ x, x = (P k).el := ⟨_, rfl⟩
      obtain ⟨ec, eec⟩ : ∃ x, x = (P k).ec := ⟨_, rfl⟩
      obtain ⟨lo, elo⟩ : ∃ x, x = (P k).lo := ⟨_, rfl⟩
      obtain ⟨hi, ehi⟩ : ∃ x, x = (P k).hi := ⟨_, rfl⟩
      have hpc : Hid (partCells (P k) = #[.slice ca cl cc, .slice ea el ec, .int .i64 lo, .int .i64 hi]) := by rw [eca, ecl, ecc, eea, eel, eec, elo, ehi]; exact (rfl : partCells (P k) = _)
      rw [← eca, ← ecl, ← ecc] at t0
      rw [← eea, ← eel, ← eec] at t1
      rw [← elo] at t2
      rw [← ehi] at t3
      have HR : Hid _ := hR
      have HBS : Hid _ := hbs
      clear hR hbs eca ecl ecc eea eel eec elo ehi c1 d7 cm c7 z7 REL
      go_wp2
      have ONE : Hid (∀ u ∈ [clo (wr.heap.size + 1, wr.heap.size + 1 + 1)], u.oneCell' = true) := by simp [Hid, Value.oneCell', clo]
      have NEW : ∀ W : World, W.heap.size = wr.heap.size + 1 + 1 + 1 → Hid (∀ j u, [clo (wr.heap.size + 1, wr.heap.size + 1 + 1)][j]? = some u → (W.alloc (.cells #[clo (wr.heap.size + 1, wr.heap.size + 1 + 1)] 82)).cell? ((⟨wr.heap.size + 1 + 1 + 1, 0, none⟩ : Addr).add j) = some u) := by
        intro W hW
        rw [← hW]
        intro j u hj
        match j, hj with
        | 0, hj => simp at hj; subst hj; simp [Addr.add]
        | j + 1, hj => simp at hj
      have NEWH : Hid _ := NEW
      clear NEW
      go_region_law (first
        | (refine step_append_fresh (by rfl) (.tmp 32) (.tmp 40) 65 (by rfl) 0 82 i1 _ 1 8 Tryd.underlying65 gi gz0 gz1 gz2 (by rfl) (by decide) (.slice aL k cL) k (bs.map clo) (by rfl) (by exact HR.out.row HBS.out rfl) ⟨wr.heap.size + 1 + 1 + 1, 0, none⟩ 1 1 (by decide) [clo (wr.heap.size + 1, wr.heap.size + 1 + 1)] (by rfl) (by rfl) (by exact (NEWH.out _ (by simp)).out) ONE.out (by unfold maxLen; omega) (by omega) (Nat.zero_le _) ?_; intro g' c' w6 ho hg hn; obtain ⟨q0, q1⟩ := HR.out.held (by exact rfl) hg; have HG : Hid _ := hg; have HO : Hid _ := ho; have HN : Hid _ := hn; clear hg ho hn)
        | (go_simp; go_at_call 35; refine (lookAs _ _ _ _ _ _ _ _).mono ?_; rintro e w' ⟨rfl, rfl⟩))
      all_goals
        go_wp2
        go_roundw
        case rel =>
          obtain ⟨own', h'⟩ := HR.out.more (W := ((((wr.alloc (.cells #[.slice ca cl cc, .slice ea el ec, .int .i64 lo, .int .i64 hi] 55)).alloc (.cells #[.slice ca cl cc, .slice ea el ec, .int .i64 lo, .int .i64 hi] 55)).alloc (.cells #[.slice (some ⟨w.heap.size + 1 + 1, 0, none⟩) nd nd] 29)).alloc (.cells #[clo (wr.heap.size + 1, wr.heap.size + 1 + 1)] 82)).drew) HBS.out (n := wr.heap.size) rfl (o := .cells #[.slice ca cl cc, .slice ea el ec, .int .i64 lo, .int .i64 hi] 55) (o2 := .cells #[clo (wr.heap.size + 1, wr.heap.size + 1 + 1)] 82) ⟨rfl, rfl, rfl, by rw [hpc.out, ← HND.out]; rfl⟩ HG.out HN.out HO.out
          exact ⟨k + 1, by omega, by go_num, own', _, bs ++ [(wr.heap.size + 1, wr.heap.size + 1 + 1)], by simp [HBS.out], h'⟩
        case measure => simp [intOf]; omega
    · obtain rfl : k = len := by omega
      have HR : Hid _ := hR
      clear hR
      go_wp2
      go_ret
      exact ⟨rfl, own, lS, bs, hbs, HR.out⟩
end Go.Proofs.YtmbbkabecipkaacDoor.Start
