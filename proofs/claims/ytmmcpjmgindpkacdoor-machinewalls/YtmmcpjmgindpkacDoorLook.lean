/-
  WHAT mach.load AND mach.store GIVE.
  Conditions: the run lies there, and the looks of its parts.
-/
import Derived.Test.YtmmcpjmgindpkacDoorWent
namespace Go.Proofs.YtmmcpjmgindpkacDoor.Look
open Go.RowKit Tab Go.Proofs.YtmmcpjmgindpkacDoor.Check Lists Img Mach Own Go.Proofs.YtmmcpjmgindpkacDoor.Inv Go.Proofs.YtmmcpjmgindpkacDoor.Frame Take Go.Proofs.YtmmcpjmgindpkacDoor.Went

/-- the looks of the parts, and what they caught -/
def Looks (w1 : World) (R D gL len dlen : Nat) (P : Nat → PartD) : Prop :=
  ∀ k, k < len → ∃ b0 b1, w1.cell? ⟨gL, k, none⟩ = some (.func (.func 45) #[] #[.pointer (some ⟨b0, 0, none⟩), .pointer (some ⟨b1, 0, none⟩)]) ∧ w1.cell? ⟨b0, 2, none⟩ = some (.int .i64 (P k).lo) ∧ w1.cell? ⟨b0, 3, none⟩ = some (.int .i64 (P k).hi) ∧
    w1.cell? ⟨b1, 0, none⟩ = some (.slice (some ⟨D, 0, none⟩) dlen dlen) ∧ (gL ≠ R ∧ gL ≠ D) ∧ (b0 ≠ R ∧ b0 ≠ D) ∧ (b1 ≠ R ∧ b1 ≠ D)

section
variable {own : Nat → Tag} {w1 w w' : World} {R D g cap : Nat} {pS vF vT vC : Value} {fuel : Int} {f : Fr} {v : Value} {F : List (Fr × Value)} {l data told : List Int} {C : List (Rec × Value)} {gL len capL : Nat} {P : Nat → PartD}

theorem part_of (h : Inv own w1 w R D pS (.slice (some ⟨gL, 0, none⟩) len capL) (.slice (some ⟨g, 0, none⟩) (F.length + 1) cap) vT vC fuel ((f, v) :: F) l data told C) (hL : Looks w1 R D gL len data.length P) (hp : f.part < len) :
    ∃ b0 b1, w.cell? ⟨R, 1, none⟩ = some (.slice (some ⟨gL, 0, none⟩) len capL) ∧ w.cell? ⟨g, F.length * 12, none⟩ = some (.int .i64 f.part) ∧ w.cell? ⟨gL, f.part, none⟩ = some (.func (.func 45) #[] #[.pointer (some ⟨b0, 0, none⟩), .pointer (some ⟨b1, 0, none⟩)]) ∧
      w.cell? ⟨b0, 2, none⟩ = some (.int .i64 (P f.part).lo) ∧ w.cell? ⟨b0, 3, none⟩ = some (.int .i64 (P f.part).hi) ∧ w.cell? ⟨b1, 0, none⟩ = some (.slice (some ⟨D, 0, none⟩) data.length data.length) := by
  obtain ⟨b0, b1, h0, h1, h2, h3, n0, n1, n2⟩ := hL f.part hp
  exact ⟨b0, b1, h.run.cell 1 rfl, h.top_cell 0 rfl, h.base.cell h0 n0.1 n0.2, h.base.cell h1 n1.1 n1.2, h.base.cell h2 n1.1 n1.2, h.base.cell h3 n2.1 n2.2⟩

theorem load_edge (h : Inv own w1 w R D pS (.slice (some ⟨gL, 0, none⟩) len capL) (.slice (some ⟨g, 0, none⟩) (F.length + 1) cap) vT vC fuel ((f, v) :: F) l data told C) (hL : Looks w1 R D gL len data.length P) (hp : f.part < len) (hlen : len ≤ 5)
    (x : Int) (hx : ¬ ((P f.part).lo ≤ x ∧ x < (P f.part).hi)) :
    Calls Tryd.prog 47 #[.pointer (some ⟨R, 0, none⟩), .pointer (some ⟨g, F.length * 12, none⟩), .int .i64 x] w fun e w' => e = .returned (.int .i64 4) ∧ ∃ j, w' = w.drewN j := by
  obtain ⟨b0, b1, c0, c1, c2, c3, c4, c5⟩ := part_of h hL hp
  have k45 := fun w h0 h1 => look_edge x (P f.part).lo (P f.part).hi b0 (.pointer (some ⟨b1, 0, none⟩)) w h0 h1 hx
  have hpI : (f.part : Int) < len := by omega
  have hlI : (len : Int) ≤ 5 := by omega
  obtain ⟨k, hk⟩ : ∃ k, k = f.part := ⟨_, rfl⟩
  rw [← hk] at c1 c2 hpI
  have K45 : Hid _ := k45
  clear h hL hp hlen hx hk k45
  go_enter Tryd.func47, Tryd.ntmps47
  go_wp2
  go_quiet ((go_at_call 45; exact Calls.quiet_of_same (K45.out _ (by simpa using c3) (by simpa using c4))))
  go_wp2
  go_ret
  exact ⟨rfl, _, rfl⟩

theorem load_ok (h : Inv own w1 w R D pS (.slice (some ⟨gL, 0, none⟩) len capL) (.slice (some ⟨g, 0, none⟩) (F.length + 1) cap) vT vC fuel ((f, v) :: F) l data told C) (hL : Looks w1 R D gL len data.length P) (hp : f.part < len) (hlen : len ≤ 5) (hw : f.words.length ≤ 40)
    (k : Nat) (y : Int) (hk : data[k]? = some y) (hx : (P f.part).lo ≤ (k : Int) ∧ (k : Int) < (P f.part).hi) (rm : List Fr) :
    Calls Tryd.prog 47 #[.pointer (some ⟨R, 0, none⟩), .pointer (some ⟨g, F.length * 12, none⟩), .int .i64 k] w fun e w' => Went w1 R D pS (.slice (some ⟨gL, 0, none⟩) len capL) fuel e w' (puts ⟨rm, data, told, C.map Prod.fst⟩ f (F.map Prod.fst) [y]) := by
  obtain ⟨b0, b1, c0, c1, c2, c3, c4, c5⟩ := part_of h hL hp
  have hkl := (List.getElem?_eq_some_iff.1 hk).1
  have k45 := fun w h0 h1 h2 => look_ok k data.length b0 b1 D (P f.part).lo (P f.part).hi w h0 h1 h2 hx.1 hx.2 (by omega)
  have cD := h.dat.cell k (u := .int .i64 y) (by simp [ints, hk])
  have hpI : (f.part : Int) < len := by omega
  have hlI : (len : Int) ≤ 5 := by omega
  have k46 := fun j => Went.put ((Inv.drew_n h j).alloc (.cells #[.int .i64 y] 3)) w.heap.size [y] 1 rfl (by simp) (by simp) hw (one_new (w := w.drewN j) y) rm
  obtain ⟨q, hq⟩ : ∃ q, q = f.part := ⟨_, rfl⟩
  rw [← hq] at c1 c2 hpI
  obtain ⟨out, hout⟩ : ∃ o, o = puts ⟨rm, data, told, C.map Prod.fst⟩ f (F.map Prod.fst) [y] := ⟨_, rfl⟩
  rw [← hout] at k46 ⊢
  have K45 : Hid _ := k45
  have K46 : Hid _ := k46
  clear h hL hp hlen hx hq k45 k46 hk hkl hw hout
  go_enter Tryd.func47, Tryd.ntmps47
  go_wp2
  go_quiet ((go_at_call 45; exact Calls.quiet_of_same (K45.out _ (by simpa using c3) (by simpa using c4) (by simpa using c5))))
  go_wp2_with (go_at_call 46; refine (K46.out _).mono ?_; intro e w' hwent; obtain ⟨n', rfl⟩ := went_ret hwent)
  go_ret
  exact hwent

theorem load (h : Inv own w1 w R D pS (.slice (some ⟨gL, 0, none⟩) len capL) (.slice (some ⟨g, 0, none⟩) (F.length + 1) cap) vT vC fuel ((f, v) :: F) l data told C) (hL : Looks w1 R D gL len data.length P) (hp : f.part < len) (hlen : len ≤ 5) (hw : f.words.length ≤ 40)
    (hin : 0 ≤ (P f.part).lo ∧ (P f.part).hi ≤ data.length) (x : Int) (rm : List Fr) :
    Calls Tryd.prog 47 #[.pointer (some ⟨R, 0, none⟩), .pointer (some ⟨g, F.length * 12, none⟩), .int .i64 x] w fun e w' => Went w1 R D pS (.slice (some ⟨gL, 0, none⟩) len capL) fuel e w'
      (if (P f.part).lo ≤ x ∧ x < (P f.part).hi then puts ⟨rm, data, told, C.map Prod.fst⟩ f (F.map Prod.fst) [data.getD x.toNat 0] else ends 4 0 ⟨rm, data, told, C.map Prod.fst⟩) := by
  by_cases hx : (P f.part).lo ≤ x ∧ x < (P f.part).hi
  · obtain ⟨k, rfl⟩ : ∃ k : Nat, x = k := ⟨x.toNat, by omega⟩
    rw [if_pos hx, Int.toNat_natCast]
    have hk : k < data.length := by omega
    exact load_ok h hL hp hlen hw k _ (by rw [List.getD_eq_getElem?_getD, List.getElem?_eq_getElem hk]; rfl) hx rm
  · rw [if_neg hx]
    refine (load_edge h hL hp hlen x hx).mono ?_
    rintro e w' ⟨rfl, j, rfl⟩
    exact went_end (Inv.drew_n h j).fin ⟨rfl, rfl, rfl⟩

theorem store_edge (h : Inv own w1 w R D pS (.slice (some ⟨gL, 0, none⟩) len capL) (.slice (some ⟨g, 0, none⟩) (F.length + 1) cap) vT vC fuel ((f, v) :: F) l data told C) (hL : Looks w1 R D gL len data.length P) (hp : f.part < len) (hlen : len ≤ 5)
    (x n : Int) (hx : ¬ ((P f.part).lo ≤ x ∧ x < (P f.part).hi)) :
    Calls Tryd.prog 48 #[.pointer (some ⟨R, 0, none⟩), .pointer (some ⟨g, F.length * 12, none⟩), .int .i64 x, .int .i64 n] w fun e w' => e = .returned (.int .i64 4) ∧ ∃ j, w' = w.drewN j := by
  obtain ⟨b0, b1, c0, c1, c2, c3, c4, c5⟩ := part_of h hL hp
  have k45 := fun w h0 h1 => look_edge x (P f.part).lo (P f.part).hi b0 (.pointer (some ⟨b1, 0, none⟩)) w h0 h1 hx
  have hpI : (f.part : Int) < len := by omega
  have hlI : (len : Int) ≤ 5 := by omega
  obtain ⟨k, hk⟩ : ∃ k, k = f.part := ⟨_, rfl⟩
  rw [← hk] at c1 c2 hpI
  have K45 : Hid _ := k45
  clear h hL hp hlen hx hk k45
  go_enter Tryd.func48, Tryd.ntmps48
  go_wp2
  go_quiet ((go_at_call 45; exact Calls.quiet_of_same (K45.out _ (by simpa using c3) (by simpa using c4))))
  go_wp2
  go_ret
  exact ⟨rfl, _, rfl⟩

theorem store_ok (h : Inv own w1 w R D pS (.slice (some ⟨gL, 0, none⟩) len capL) (.slice (some ⟨g, 0, none⟩) (F.length + 1) cap) vT vC fuel ((f, v) :: F) l data told C) (hL : Looks w1 R D gL len data.length P) (hp : f.part < len) (hlen : len ≤ 5)
    (k : Nat) (n : Int) (hkl : k < data.length) (hx : (P f.part).lo ≤ (k : Int) ∧ (k : Int) < (P f.part).hi) :
    Calls Tryd.prog 48 #[.pointer (some ⟨R, 0, none⟩), .pointer (some ⟨g, F.length * 12, none⟩), .int .i64 k, .int .i64 n] w fun e w' => e = .returned (.int .i64 0) ∧ Inv own w1 w' R D pS (.slice (some ⟨gL, 0, none⟩) len capL) (.slice (some ⟨g, 0, none⟩) (F.length + 1) cap) vT vC fuel ((f, v) :: F) l (data.set k n) told C := by
  obtain ⟨b0, b1, c0, c1, c2, c3, c4, c5⟩ := part_of h hL hp
  have k45 := fun w h0 h1 h2 => look_ok k data.length b0 b1 D (P f.part).lo (P f.part).hi w h0 h1 h2 hx.1 hx.2 (by omega)
  have cD := h.dat.cell k (u := .int .i64 data[k]) (by simp [ints, hkl])
  have zD := h.dat.frozen k
  have hpI : (f.part : Int) < len := by omega
  have hlI : (len : Int) ≤ 5 := by omega
  have key := fun j => Inv.data_set (k := k) (x := n) (Inv.drew_n h j)
  obtain ⟨y, hy⟩ : ∃ y, y = data[k] := ⟨_, rfl⟩
  obtain ⟨q, hq⟩ : ∃ q, q = f.part := ⟨_, rfl⟩
  rw [← hq] at c1 c2 hpI
  rw [← hy] at cD
  have K45 : Hid _ := k45
  have KEY : Hid _ := key
  clear h hL hp hlen hx hq k45 key hkl hy
  go_enter Tryd.func48, Tryd.ntmps48
  go_wp2
  go_quiet ((go_at_call 45; exact Calls.quiet_of_same (K45.out _ (by simpa using c3) (by simpa using c4) (by simpa using c5))))
  go_wp2
  go_ret
  exact ⟨rfl, KEY.out _⟩

theorem store (h : Inv own w1 w R D pS (.slice (some ⟨gL, 0, none⟩) len capL) (.slice (some ⟨g, 0, none⟩) (F.length + 1) cap) vT vC fuel ((f, v) :: F) l data told C) (hL : Looks w1 R D gL len data.length P) (hp : f.part < len) (hlen : len ≤ 5) (hw : f.words.length ≤ 40)
    (hin : 0 ≤ (P f.part).lo ∧ (P f.part).hi ≤ data.length) (x n : Int) (rm : List Fr) :
    Calls Tryd.prog 48 #[.pointer (some ⟨R, 0, none⟩), .pointer (some ⟨g, F.length * 12, none⟩), .int .i64 x, .int .i64 n] w fun e w' => Went w1 R D pS (.slice (some ⟨gL, 0, none⟩) len capL) fuel e w'
      (if (P f.part).lo ≤ x ∧ x < (P f.part).hi then puts ⟨rm, data.set x.toNat n, told, C.map Prod.fst⟩ f (F.map Prod.fst) [] else ends 4 0 ⟨rm, data, told, C.map Prod.fst⟩) := by
  by_cases hx : (P f.part).lo ≤ x ∧ x < (P f.part).hi
  · obtain ⟨k, rfl⟩ : ∃ k : Nat, x = k := ⟨x.toNat, by omega⟩
    rw [if_pos hx, Int.toNat_natCast]
    have hk : k < data.length := by omega
    refine (store_ok h hL hp hlen k n hk hx).mono ?_
    rintro e w' ⟨rfl, h'⟩
    exact put_none h' hw rm
  · rw [if_neg hx]
    refine (store_edge h hL hp hlen x n hx).mono ?_
    rintro e w' ⟨rfl, j, rfl⟩
    exact went_end (Inv.drew_n h j).fin ⟨rfl, rfl, rfl⟩
end
end Go.Proofs.YtmmcpjmgindpkacDoor.Look
