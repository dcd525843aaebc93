/-
  A REGION THAT DRAWS ITS ORDER, WHOSE OPERATIONS EACH GIVE A VALUE, AND A TAIL BEHIND THEM ALL: each operation is walked once, by what the values mean that it reads.
  Conditions: what each value means is kept by new memory.
-/
import Derived.Test.YtgjemlhnlpglbaaDoorR22
namespace Go.Proofs.YtgjemlhnlpglbaaDoor.PGather
open Go.RowKit PRegion

/-- it comes behind that one -/
def edgeB (o : Oper) (i : Nat) : Bool := o.after.toList.any fun e => Region.binds .any e && e.on == i

/-- the form: n operations that each give a value, into the slots from lo on, each of them read further on; k behind them, one behind the other -/
def gatherOk (ops : Array Oper) (lo n k : Nat) : Bool :=
  ops.size == n + k && (List.range ops.size).all fun i => match ops[i]? with
    | none => false
    | some o => o.guard.isNone && (o.after.toList.all (fun e => decide (e.on < i)) && (if i < n then o.dst == some (lo + i) && (List.range (n + 1)).any (fun m => decide (i < m) && (ops[m]?).any (edgeB · i)) else (i == n || edgeB o (i - 1))))

variable {P : Program} {ops : Array Oper} {Q : Exit → Act → World → Prop}

/-- what holds at every state -/
def Base (lo n : Nat) (a0 : Act) (w0 : World) (a : Act) (w : World) : Prop :=
  Below w0.heap.size w0 w ∧ a.defers = a0.defers ∧ a.tmps.size = a0.tmps.size ∧ ∀ j, j < lo ∨ lo + n ≤ j → a.tmps[j]? = a0.tmps[j]?

/-- the tail -/
def chain (P : Program) (ops : Array Oper) (Q : Exit → Act → World → Prop) : Nat → Nat → Act → World → Prop
  | 0, _, a, w => Q .normal a w
  | k + 1, i, a, w => wpOp P ops Q i (chain P ops Q k (i + 1)) a w

/-- an operation's step -/
def StepOf (P : Program) (Q : Exit → Act → World → Prop) (lo n : Nat) (G : Nat → Value → World → Prop) (a0 : Act) (w0 : World) (i : Nat) (o : Oper) : Prop :=
  ∀ (a : Act) (w : World) (K : Act → World → Prop), Base lo n a0 w0 a w → (∀ j, edgeB o j = true → G j (a.tmps[lo + j]?.getD undef) w) → (∀ v w', G i v w' → Below w.heap.size w w' → K (a.put (some (lo + i)) v) w') → o.wp P a w K Q

/-- so many steps -/
def Steps (P : Program) (Q : Exit → Act → World → Prop) (lo n : Nat) (G : Nat → Value → World → Prop) (a0 : Act) (w0 : World) : Nat → List Oper → Nat → Prop
  | 0, _, _ => True
  | _ + 1, [], _ => True
  | m + 1, o :: l, i => StepOf P Q lo n G a0 w0 i o ∧ Steps P Q lo n G a0 w0 m l (i + 1)

theorem steps_get {lo n : Nat} {G : Nat → Value → World → Prop} {a0 : Act} {w0 : World} : ∀ (m : Nat) (l : List Oper) (i : Nat), Steps P Q lo n G a0 w0 m l i → ∀ j o, j < m → l[j]? = some o → StepOf P Q lo n G a0 w0 (i + j) o
  | 0, _, _, _, j, _, h, _ => by omega
  | m + 1, [], _, _, j, o, _, h => by simp at h
  | m + 1, x :: l, i, hs, 0, o, _, h => by
    simp at h
    subst h
    exact hs.1
  | m + 1, x :: l, i, hs, j + 1, o, hj, h => by
    have := steps_get m l (i + 1) hs.2 j o (by omega) (by simpa using h)
    rwa [show i + 1 + j = i + (j + 1) by omega] at this

theorem gather_parts {lo n k : Nat} (h : gatherOk ops lo n k = true) : ops.size = n + k ∧ ∀ i o, ops[i]? = some o → o.guard = none ∧ (∀ e ∈ o.after, e.on < i) ∧ (i < n → o.dst = some (lo + i) ∧ ∃ m o', i < m ∧ m ≤ n ∧ ops[m]? = some o' ∧ edgeB o' i = true) ∧ (n < i → edgeB o (i - 1) = true) := by
  simp only [gatherOk, Bool.and_eq_true, beq_iff_eq, List.all_eq_true, List.mem_range] at h
  refine ⟨h.1, fun i o ho => ?_⟩
  have hi := (Array.getElem?_eq_some_iff.1 ho).1
  have h2 := h.2 i hi
  rw [ho] at h2
  simp only [Bool.and_eq_true] at h2
  obtain ⟨hg, ha, hc⟩ := h2
  refine ⟨by simpa using hg, fun e he => ?_, fun hn => ?_, fun hn => ?_⟩
  · rw [List.all_eq_true] at ha
    simpa using ha e (by simpa using he)
  · rw [if_pos hn] at hc
    simp only [Bool.and_eq_true, beq_iff_eq, List.any_eq_true, List.mem_range, decide_eq_true_eq] at hc
    obtain ⟨hd, m, hm, him, hx⟩ := hc
    refine ⟨hd, ?_⟩
    cases hom : ops[m]? with
    | none => rw [hom] at hx; simp at hx
    | some o' => rw [hom] at hx; exact ⟨m, o', him, by omega, hom, by simpa using hx⟩
  · rw [if_neg (by omega)] at hc
    simp only [Bool.or_eq_true, beq_iff_eq] at hc
    rcases hc with hc | hc
    · omega
    · exact hc

theorem edge_mem {o : Oper} {i : Nat} (h : edgeB o i = true) : ∃ e ∈ o.after, Region.binds .any e = true ∧ e.on = i := by
  unfold edgeB at h
  obtain ⟨e, he, hx⟩ := List.any_eq_true.1 h
  simp only [Bool.and_eq_true, beq_iff_eq] at hx
  exact ⟨e, by simpa using he, hx.1, hx.2⟩

theorem getD_set {listed : Array Bool} {i j : Nat} : (listed.setIfInBounds i true).getD j false = true ↔ (listed.getD j false = true ∨ (j = i ∧ i < listed.size)) := by
  by_cases e : j = i
  · subst e
    by_cases hb : j < listed.size
    · simp [Array.getD_eq_getD_getElem?, hb]
    · simp [Array.getD_eq_getD_getElem?, hb]
  · simp [Array.getD_eq_getD_getElem?, Array.getElem?_setIfInBounds_ne (Ne.symm e), e]

theorem getD_lt {listed : Array Bool} {i : Nat} (h : listed.getD i true = false) : i < listed.size := by
  rcases Nat.lt_or_ge i listed.size with h' | h'
  · exact h'
  · simp [Array.getD, Nat.not_lt.2 h'] at h
theorem getD_no {listed : Array Bool} {i : Nat} (h : listed.getD i true = false) : listed.getD i false = false := by
  have := getD_lt h
  simp [Array.getD, this] at h ⊢
  exact h
theorem getD_tf {listed : Array Bool} {i : Nat} (hi : i < listed.size) (h : listed.getD i false ≠ true) : listed.getD i true = false := by
  simp [Array.getD, hi] at h ⊢
  exact h

/-- IN WHATEVER ORDER -/
theorem region_gather {id : Nat} {a0 : Act} {w0 : World} (hm : P.follows .mixedOrders = true) (lo n k : Nat) (chk : gatherOk ops lo n k = true) (hsz : lo + n ≤ a0.tmps.size)
    (G : Nat → Value → World → Prop) (hG : ∀ i v w w', G i v w → Below w.heap.size w w' → G i v w')
    (hs : Steps P Q lo n G a0 w0 n ops.toList 0)
    (htail : ∀ a w, Base lo n a0 w0 a w → (∀ i, i < n → G i (a.tmps[lo + i]?.getD undef) w) → chain P ops Q k n a w) : (Code.region id ops true).wp P Q a0 w0 := by
  obtain ⟨hsize, hpart⟩ := gather_parts chk
  have all_of_ready : ∀ listed : Array Bool, listed.size = ops.size → Region.ready .any ops listed = [] → ∀ i, i < ops.size → listed.getD i false = true := by
    intro listed hls hr i
    induction i using Nat.strongRecOn with
    | _ i ih =>
      intro hi
      rcases Decidable.em (listed.getD i false = true) with h | h
      · exact h
      · exfalso
        have hm : i ∈ Region.ready .any ops listed := mem_ready.2 ⟨getD_tf (by omega) h, ops[i], by simp [hi], fun e he _ => by
          have := (hpart i ops[i] (by simp [hi])).2.1 e he
          exact ih e.on this (by omega)⟩
        rw [hr] at hm
        cases hm
  let I : Array Bool → Act → World → Prop := fun listed a w =>
    listed.size = ops.size ∧
    (((∀ j, n ≤ j → listed.getD j false = false) ∧ Base lo n a0 w0 a w ∧ (∀ j, j < n → listed.getD j false = true → G j (a.tmps[lo + j]?.getD undef) w) ∧
        (∀ j o, ops[j]? = some o → listed.getD j false = true → ∀ e ∈ o.after, Region.binds .any e = true → listed.getD e.on false = true)) ∨
     (∃ t, 1 ≤ t ∧ t ≤ k ∧ (∀ j, j < n + t → listed.getD j false = true) ∧ (∀ j, n + t ≤ j → listed.getD j false = false) ∧ chain P ops Q (k - t) (n + t) a w))
  have hall : ∀ listed : Array Bool, (∀ j o, ops[j]? = some o → listed.getD j false = true → ∀ e ∈ o.after, Region.binds .any e = true → listed.getD e.on false = true) →
      ∀ o, ops[n]? = some o → (∀ e ∈ o.after, Region.binds .any e = true → listed.getD e.on false = true) → ∀ i, i < n → listed.getD i false = true := by
    intro listed hc on hon hpre
    suffices ∀ r i, i + r = n → 0 < r → listed.getD i false = true from fun i hi => this (n - i) i (by omega) (by omega)
    intro r
    induction r using Nat.strongRecOn with
    | _ r ih =>
      intro i hi hr
      have hi2 : i < ops.size := by have := (Array.getElem?_eq_some_iff.1 hon).1; omega
      obtain ⟨_, m, o', him, hmn, hom, he⟩ := (hpart i ops[i] (by simp [hi2])).2.2.1 (by omega)
      obtain ⟨e, hmem, hb, rfl⟩ := edge_mem he
      rcases Nat.lt_or_ge m n with h | h
      · exact hc m o' hom (ih (n - m) (by omega) m (by omega) (by omega)) e hmem hb
      · obtain rfl : m = n := by omega
        rw [hon] at hom
        injection hom with hom
        subst hom
        exact hpre e hmem hb
  have hk0 : k = 0 → ∀ a w, Base lo n a0 w0 a w → (∀ i, i < n → G i (a.tmps[lo + i]?.getD undef) w) → Q .normal a w := fun h a w h1 h2 => by
    have := htail a w h1 h2
    rw [h] at this
    exact this
  refine wp_region_inv hm I ⟨by simp, .inl ⟨fun j _ => ?_, ⟨(Below.refl _ _).drew, rfl, rfl, fun _ _ => rfl⟩, fun j _ h => ?_, fun j o _ h => ?_⟩⟩ ?_ ?_
  · simp [Array.getD_eq_getD_getElem?, Array.getElem?_replicate]; split <;> rfl
  · exfalso; revert h; simp [Array.getD_eq_getD_getElem?, Array.getElem?_replicate]; split <;> simp
  · exfalso; revert h; simp [Array.getD_eq_getD_getElem?, Array.getElem?_replicate]; split <;> simp
  · rintro listed a w ⟨hls, hI⟩ i o ho hi hpre
    have hno := getD_no hi
    have hlt := getD_lt hi
    obtain ⟨hg, hlow, hfirst, hlast⟩ := hpart i o ho
    have hw : Region.wanted o (yielded ops a.tmps) = true := by simp [Region.wanted, hg]
    rcases hI with ⟨hlate, hbase, hGs, hclosed⟩ | ⟨t, ht1, ht2, hyes, hnot, hch⟩
    · rcases Nat.lt_or_ge i n with hin | hin
      · unfold wpOp
        rw [ho]
        simp only [hw, if_true]
        refine .inl ?_
        have hst := steps_get n ops.toList 0 hs i o hin (by simpa using ho)
        rw [Nat.zero_add] at hst
        refine hst a w _ hbase (fun j hj => ?_) fun v w' hv hb => ⟨by simpa using hls, .inl ⟨fun j hj => ?_, ?_, fun j hj hl => ?_, fun j o' ho' hl e he hbd => ?_⟩⟩
        · obtain ⟨e, hmem, hbd, rfl⟩ := edge_mem hj
          exact hGs e.on (by have := hlow e hmem; omega) (hpre e hmem hbd)
        · have h1 := hlate j hj
          rcases h2 : (listed.setIfInBounds i true).getD j false with _ | _
          · rfl
          · rcases getD_set.1 h2 with h3 | ⟨h3, _⟩
            · rw [h1] at h3; cases h3
            · omega
        · obtain ⟨b1, b2, b3, b4⟩ := hbase
          exact ⟨b1.trans (hb.mono b1.size), b2, by simpa [Act.put] using b3, fun j hj => by
            rw [← b4 j hj]
            simp [Act.put, Array.getElem?_setIfInBounds_ne (show lo + i ≠ j by omega)]⟩
        · have hsz2 : lo + i < a.tmps.size := by rw [hbase.2.2.1]; omega
          by_cases e : j = i
          · subst e
            simpa [Act.put, hsz2] using hv
          · rcases getD_set.1 hl with h3 | ⟨h3, _⟩
            · have := hG _ _ _ _ (hGs j hj h3) hb
              simpa [Act.put, Array.getElem?_setIfInBounds_ne (show lo + i ≠ lo + j by omega)] using this
            · exact absurd h3 e
        · rw [getD_set]
          rcases getD_set.1 hl with h3 | ⟨h3, _⟩
          · exact .inl (hclosed j o' ho' h3 e he hbd)
          · subst h3
            rw [ho] at ho'
            injection ho' with ho'
            subst ho'
            exact .inl (hpre e he hbd)
      · have hin2 : i = n := by
          rcases Nat.lt_or_ge n i with h | h
          · obtain ⟨e, hmem, hbd, he⟩ := edge_mem (hlast h)
            have h1 := hpre e hmem hbd
            rw [he] at h1
            rw [hlate (i - 1) (by omega)] at h1
            cases h1
          · omega
        subst hin2
        have hyes := hall listed hclosed o ho hpre
        have hch := htail a w hbase fun j hj => hGs j hj (hyes j hj)
        obtain ⟨k', rfl⟩ : ∃ k', k = k' + 1 := ⟨k - 1, by have := (Array.getElem?_eq_some_iff.1 ho).1; omega⟩
        refine wpOp_mono (fun a' w' hc => ⟨by simpa using hls, .inr ⟨1, Nat.le_refl _, by omega, fun j hj => ?_, fun j hj => ?_, by simpa using hc⟩⟩) hch
        · rw [getD_set]
          rcases Nat.lt_or_ge j i with h | h
          · exact .inl (hyes j h)
          · exact .inr ⟨by omega, hlt⟩
        · have h1 := hlate j (by omega)
          rcases h2 : (listed.setIfInBounds i true).getD j false with _ | _
          · rfl
          · rcases getD_set.1 h2 with h3 | ⟨h3, _⟩
            · rw [h1] at h3; cases h3
            · omega
    · have hge : n + t ≤ i := by
        rcases Nat.lt_or_ge i (n + t) with h | h
        · rw [hyes i h] at hno; cases hno
        · exact h
      have hio : i = n + t := by
        rcases Nat.lt_or_ge (n + t) i with h | h
        · obtain ⟨e, hmem, hbd, he⟩ := edge_mem (hlast (by omega))
          have h1 := hpre e hmem hbd
          rw [he] at h1
          rw [hnot (i - 1) (by omega)] at h1
          cases h1
        · omega
      subst hio
      obtain ⟨r, hr⟩ : ∃ r, k - t = r + 1 := ⟨k - t - 1, by have := (Array.getElem?_eq_some_iff.1 ho).1; omega⟩
      rw [hr] at hch
      refine wpOp_mono (fun a' w' hc => ⟨by simpa using hls, .inr ⟨t + 1, by omega, by omega, fun j hj => ?_, fun j hj => ?_, by rw [show k - (t + 1) = r by omega]; exact hc⟩⟩) hch
      · rw [getD_set]
        rcases Nat.lt_or_ge j (n + t) with h | h
        · exact .inl (hyes j h)
        · exact .inr ⟨by omega, hlt⟩
      · have h1 := hnot j (by omega)
        rcases h2 : (listed.setIfInBounds (n + t) true).getD j false with _ | _
        · rfl
        · rcases getD_set.1 h2 with h3 | ⟨h3, _⟩
          · rw [h1] at h3; cases h3
          · omega
  · rintro listed a w ⟨hls, hI⟩ hr
    have hyes := all_of_ready listed hls hr
    rcases hI with ⟨hlate, hbase, hGs, _⟩ | ⟨t, ht1, ht2, _, hnot, hch⟩
    · have hk : k = 0 := by
        rcases Nat.eq_zero_or_pos k with h | h
        · exact h
        · have h1 := hyes n (by omega)
          rw [hlate n (Nat.le_refl _)] at h1
          cases h1
      exact hk0 hk a w hbase fun i hi => hGs i hi (hyes i (by omega))
    · have ht : t = k := by
        rcases Nat.lt_or_ge t k with h | h
        · have h1 := hyes (n + t) (by omega)
          rw [hnot (n + t) (Nat.le_refl _)] at h1
          cases h1
        · omega
      subst ht
      rw [Nat.sub_self] at hch
      exact hch

/-- the frame, with other values from lo to hi -/
def mkL (u : Nat → Value) (lo hi : Nat) : Nat → List Value → List Value
  | _, [] => []
  | i, v :: l => (if lo ≤ i ∧ i < hi then u i else v) :: mkL u lo hi (i + 1) l
theorem mkL_length (u : Nat → Value) (lo hi : Nat) : ∀ (l : List Value) (i : Nat), (mkL u lo hi i l).length = l.length
  | [], _ => rfl
  | v :: l, i => by simp [mkL, mkL_length u lo hi l (i + 1)]
theorem mkL_get (u : Nat → Value) (lo hi : Nat) : ∀ (l : List Value) (i j : Nat), j < l.length → (mkL u lo hi i l)[j]? = some (if lo ≤ i + j ∧ i + j < hi then u (i + j) else l[j]?.getD undef)
  | [], _, j, h => by simp at h
  | v :: l, i, 0, h => by simp [mkL]
  | v :: l, i, j + 1, h => by
    have := mkL_get u lo hi l (i + 1) j (by simpa using h)
    rw [show i + 1 + j = i + (j + 1) by omega] at this
    simpa [mkL] using this

theorem frame_of {lo n : Nat} {a0 a : Act} {w0 w : World} (h : Base lo n a0 w0 a w) : a = ⟨(mkL (fun j => a.tmps[j]?.getD undef) lo (lo + n) 0 a0.tmps.toList).toArray, a0.defers⟩ := by
  obtain ⟨_, hd, hz, hs⟩ := h
  obtain ⟨t, d⟩ := a
  dsimp only at hd hz hs
  subst hd
  have e : t = (mkL (fun j => t[j]?.getD undef) lo (lo + n) 0 a0.tmps.toList).toArray := by
    apply Array.ext_getElem?
    intro j
    have hl : a0.tmps.toList.length = a0.tmps.size := by simp
    have ht : ((mkL (fun j => t[j]?.getD undef) lo (lo + n) 0 a0.tmps.toList).toArray)[j]? = (mkL (fun j => t[j]?.getD undef) lo (lo + n) 0 a0.tmps.toList)[j]? := by simp
    rw [ht]
    rcases Nat.lt_or_ge j a0.tmps.size with hj | hj
    · rw [mkL_get _ _ _ _ _ _ (by omega), Nat.zero_add]
      split
      · simp [show j < t.size by omega]
      · rename_i hn
        rw [hs j (by omega)]
        simp [hj]
    · rw [Array.getElem?_eq_none (by omega), List.getElem?_eq_none (by rw [mkL_length]; omega)]
  exact congrArg (fun x => Act.mk x a0.defers) e

theorem chain_list : ∀ (k i : Nat), i + k = ops.size → ∀ a w, wpList P ops Q (ops.toList.drop i) a w → chain P ops Q k i a w
  | 0, i, h, a, w, hl => by
    rw [List.drop_eq_nil_of_le (by simp; omega)] at hl
    exact hl
  | k + 1, i, h, a, w, hl => by
    have hi : i < ops.size := by omega
    rw [List.drop_eq_getElem_cons (by simpa using hi)] at hl
    have ho : ops[i]? = some ops[i] := by simp [hi]
    have hm : ∀ a w, wpList P ops Q (ops.toList.drop (i + 1)) a w → chain P ops Q k (i + 1) a w := chain_list k (i + 1) (by omega)
    show wpOp P ops Q i (chain P ops Q k (i + 1)) a w
    refine wpOp_mono hm ?_
    unfold wpOp
    rw [ho]
    simpa [wpList] using hl

/-- IN WHATEVER ORDER; the tail as a plain region's -/
theorem region_gathered {id : Nat} {a0 : Act} {w0 : World} (hm : P.follows .mixedOrders = true) (lo n k : Nat) (chk : gatherOk ops lo n k = true) (hsz : lo + n ≤ a0.tmps.size)
    (G : Nat → Value → World → Prop) (hG : ∀ i v w w', G i v w → Below w.heap.size w w' → G i v w')
    (hs : Steps P Q lo n G a0 w0 n ops.toList 0)
    (htail : ∀ (u : Nat → Value) w, Below w0.heap.size w0 w → (∀ i, i < n → G i (u (lo + i)) w) → wpList P ops Q (ops.toList.drop n) ⟨(mkL u lo (lo + n) 0 a0.tmps.toList).toArray, a0.defers⟩ w) : (Code.region id ops true).wp P Q a0 w0 :=
  region_gather hm lo n k chk hsz G hG hs fun a w hB hg => by
    rw [frame_of hB]
    exact chain_list k n (gather_parts chk).1.symm _ _ (htail _ w hB.1 hg)
end Go.Proofs.YtgjemlhnlpglbaaDoor.PGather
