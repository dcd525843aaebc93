/-
  WHAT COMES OF AN INSTRUCTION, IN MEMORY AND PLAIN; and mach.put so.
  Conditions: each contract's own hypotheses.
-/
import Derived.Test.YtmmcpjmgindpkacDoorEnter
namespace Go.Proofs.YtmmcpjmgindpkacDoor.Went
open Go.RowKit Tab Go.Proofs.YtmmcpjmgindpkacDoor.Check Lists Img Mach Own Go.Proofs.YtmmcpjmgindpkacDoor.Inv Go.Proofs.YtmmcpjmgindpkacDoor.Frame Take

/-- what came of it: it goes on, and the run lies there; or it has ended -/
structure Went (w1 : World) (R D : Nat) (pS lS : Value) (fuel : Int) (e : Ending) (w' : World) (o : (Int × Int × St) ⊕ St) : Prop where
  out : (∃ (s : St) (own : Nat → Tag) (vF vT vC : Value) (F : List (Fr × Value)) (C : List (Rec × Value)), Inv own w1 w' R D pS lS vF vT vC fuel F [] s.data s.told C ∧ F.map Prod.fst = s.rooms ∧ C.map Prod.fst = s.calls ∧ e = .returned (.int .i64 0) ∧ o = .inr s) ∨
    (∃ (n val : Int) (s : St) (own : Nat → Tag) (vT vC : Value) (C : List (Rec × Value)), Fin own w1 w' R D pS lS vT vC val s.data s.told C ∧ C.map Prod.fst = s.calls ∧ e = .returned (.int .i64 n) ∧ o = .inl (n, val, s))

theorem Went.goes {w1 : World} {R D : Nat} {pS lS : Value} {fuel : Int} {w' : World} {s : St} {own : Nat → Tag} {vF vT vC : Value} {F : List (Fr × Value)} {C : List (Rec × Value)} (h : Inv own w1 w' R D pS lS vF vT vC fuel F [] s.data s.told C) (h1 : F.map Prod.fst = s.rooms) (h2 : C.map Prod.fst = s.calls) : Went w1 R D pS lS fuel (.returned (.int .i64 0)) w' (.inr s) :=
  ⟨.inl ⟨s, own, vF, vT, vC, F, C, h, h1, h2, rfl, rfl⟩⟩

theorem Went.stops {w1 : World} {R D : Nat} {pS lS : Value} {fuel : Int} {w' : World} {n val : Int} {s : St} {own : Nat → Tag} {vT vC : Value} {C : List (Rec × Value)} (h : Fin own w1 w' R D pS lS vT vC val s.data s.told C) (h2 : C.map Prod.fst = s.calls) : Went w1 R D pS lS fuel (.returned (.int .i64 n)) w' (.inl (n, val, s)) :=
  ⟨.inr ⟨n, val, s, own, vT, vC, C, h, h2, rfl, rfl⟩⟩

section
variable {own : Nat → Tag} {w1 w w' : World} {R D g cap : Nat} {pS lS vF vT vC : Value} {fuel : Int} {f : Fr} {v : Value} {F : List (Fr × Value)} {l data told : List Int} {C : List (Rec × Value)}

theorem went_on {s : St} (h : Inv own w1 w R D pS lS vF vT vC fuel F [] data told C) (h1 : s = ⟨F.map Prod.fst, data, told, C.map Prod.fst⟩) : Went w1 R D pS lS fuel (.returned (.int .i64 0)) w (.inr s) := by
  subst h1
  exact .goes h rfl rfl

theorem went_end {s : St} {n val : Int} (h : Fin own w1 w R D pS lS vT vC val data told C) (h1 : s.data = data ∧ s.told = told ∧ s.calls = C.map Prod.fst) : Went w1 R D pS lS fuel (.returned (.int .i64 n)) w (ends n val s) := by
  obtain ⟨r, d, t, c⟩ := s
  obtain ⟨h1, h2, h3⟩ := h1
  dsimp only at h1 h2 h3
  subst h1 h2 h3
  exact .stops h rfl

/-- it returned some number -/
theorem went_ret {e : Ending} {o : (Int × Int × St) ⊕ St} (h : Went w1 R D pS lS fuel e w o) : ∃ n, e = .returned (.int .i64 n) := by
  rcases h.out with ⟨_, _, _, _, _, _, _, _, _, _, he, _⟩ | ⟨n, _, _, _, _, _, _, _, _, he, _⟩
  · exact ⟨0, he⟩
  · exact ⟨n, he⟩

theorem Inv.drew_n (h : Inv own w1 w R D pS lS vF vT vC fuel F l data told C) (j : Nat) : Inv own w1 (w.drewN j) R D pS lS vF vT vC fuel F l data told C :=
  h.moves ⟨rfl, rfl, rfl, Nat.le_refl _, fun _ _ _ => rfl, fun _ _ => rfl⟩

/-- the tape alone has moved -/
theorem Inv.same (h : Inv own w1 w R D pS lS vF vT vC fuel F l data told C) (h0 : w'.os = w.os) (h1 : w'.tape = w.tape) (h2 : w'.output = w.output) (h3 : w'.heap = w.heap) : Inv own w1 w' R D pS lS vF vT vC fuel F l data told C :=
  h.moves ⟨h0, h1, h2, Nat.le_of_eq (by rw [h3]), fun k _ _ => by rw [h3], fun _ _ => rfl⟩

theorem Fin.same {val : Int} (h : Fin own w1 w R D pS lS vT vC val data told C) (h0 : w'.os = w.os) (h1 : w'.tape = w.tape) (h2 : w'.output = w.output) (h3 : w'.heap = w.heap) : Fin own w1 w' R D pS lS vT vC val data told C := by
  have m : Moves own own w w' (9, 9) := ⟨h0, h1, h2, Nat.le_of_eq (by rw [h3]), fun k _ _ => by rw [h3], fun _ _ => rfl⟩
  obtain ⟨fv, fu, hr⟩ := h.run
  exact ⟨h.base.moves m (by decide), ⟨fv, fu, hr.moves m (by decide)⟩, h.dat.moves m (by decide), h.told.moves m (by decide), h.calls.moves m (by decide), h.notes.moves m (fun k _ e => by simp at e)⟩

theorem one_at {w : World} {b : Nat} (hb : b = w.heap.size) (n : Int) {t : TypeId} : ∀ (j : Nat) (u : Value), (ints [n])[j]? = some u → (w.alloc (.cells #[.int .i64 n] t)).cell? ((⟨b, 0, none⟩ : Addr).add j) = some u := by
  subst hb
  exact one_new n

/-- 'put' of one or two words that were laid just before -/
theorem put (h : Inv own w1 w R D pS lS (.slice (some ⟨g, 0, none⟩) (F.length + 1) cap) vT vC fuel ((f, v) :: F) l data told C) (b : Nat) (news : List Int) (n : Nat) (hn : n = news.length) (hm0 : 0 < news.length) (hm : news.length ≤ 2) (hw : f.words.length ≤ 40)
    (hb : ∀ j u, (ints news)[j]? = some u → w.cell? ((⟨b, 0, none⟩ : Addr).add j) = some u) (rm : List Fr) :
    Calls Tryd.prog 46 #[.pointer (some ⟨g, F.length * 12, none⟩), .slice (some ⟨b, 0, none⟩) n n] w fun e w' => Went w1 R D pS lS fuel e w' (puts ⟨rm, data, told, C.map Prod.fst⟩ f (F.map Prod.fst) news) := by
  subst hn
  by_cases hf : f.words.length + news.length ≤ 40
  · refine (Frame.put h b news hm0 hm hw hf hb).mono ?_
    rintro e w' ⟨rfl, own', v', h'⟩
    rw [puts, if_pos hf]
    exact went_on h' rfl
  · refine (put_full h b news.length hm hw hf).mono ?_
    rintro e w' ⟨rfl, rfl⟩
    rw [puts, if_neg hf]
    exact went_end h.fin ⟨rfl, rfl, rfl⟩

/-- nothing is put -/
theorem put_none (h : Inv own w1 w R D pS lS vF vT vC fuel ((f, v) :: F) l data told C) (hw : f.words.length ≤ 40) (rm : List Fr) : Went w1 R D pS lS fuel (.returned (.int .i64 0)) w (puts ⟨rm, data, told, C.map Prod.fst⟩ f (F.map Prod.fst) []) := by
  rw [puts, if_pos (by simpa using hw)]
  refine went_on (own := own) (F := (f, v) :: F) (C := C) (vF := vF) (vT := vT) (vC := vC) ⟨h.base, h.run, h.dat, h.frames, h.told, h.calls, ⟨⟨h.rooms.1.1.less, h.rooms.1.2⟩, h.rooms.2⟩, h.notes⟩ ?_
  simp
end
end Go.Proofs.YtmmcpjmgindpkacDoor.Went
