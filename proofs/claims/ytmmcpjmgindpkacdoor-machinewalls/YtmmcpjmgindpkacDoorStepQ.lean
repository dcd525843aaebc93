/-
  A STEP OF mach IS A STEP OF THE PLAIN MACHINE, at every instruction but Call and a Gate that goes through; what holds between steps stays.
  Conditions: the run lies there; the image may be.
-/
import Derived.Test.YtmmcpjmgindpkacDoorStep
namespace Go.Proofs.YtmmcpjmgindpkacDoor.StepQ
open Go.RowKit Tab Go.Proofs.YtmmcpjmgindpkacDoor.Check Lists Img Mach Own Go.Proofs.YtmmcpjmgindpkacDoor.Inv Go.Proofs.YtmmcpjmgindpkacDoor.Frame Take Go.Proofs.YtmmcpjmgindpkacDoor.Went ActE ActQ Step

/-- no Call, and no Gate that goes through -/
def Quiet (P : Nat → PartD) (len : Nat) : Prop := ∀ k, k < len → ∀ j, j < (P k).cl → (P k).o j ≠ 11 ∧ ((P k).o j = 12 → ¬ ((P k).a j < len ∧ (P k).b j < (P ((P k).a j).toNat).el ∧ (P ((P k).a j).toNat).prs ((P k).b j).toNat = (P k).c j))

theorem enter_fit {len : Nat} {s s' : St} {f g : Fr} {rest : List Fr} (h : enter s f rest g = .inr s') (hf : f.part < len ∧ ∀ k, f.noted = some k → k < s.calls.length) (hw : f.words.length ≤ 40) (hr : ∀ g ∈ rest, g.part < len ∧ g.words.length ≤ 40 ∧ ∀ k, g.noted = some k → k < s.calls.length)
    (hg : g.part < len) (hgw : g.words = []) (hgn : ∀ k, g.noted = some k → k < s.calls.length) (hl : rest.length + 1 ≤ 20) (ht : s.told.length ≤ 500) (hc : s.calls.length ≤ 100) : Fit len s' := by
  unfold enter at h
  split at h
  · injection h with h
    subst h
    refine ⟨by simp, by simp; omega, fun x hx => ?_, ht, hc⟩
    rcases List.mem_cons.1 hx with rfl | hx
    · exact ⟨hg, by simp [hgw], hgn⟩
    · rcases List.mem_cons.1 hx with rfl | hx
      · exact ⟨hf.1, hw, hf.2⟩
      · exact hr x hx
  · cases h

theorem le_row {k : Nat} {a : Int} (h : (row k).1 ≤ a) : 0 ≤ a := by
  have : 0 ≤ (row k).1 := by
    by_cases hk : k < 16
    · have : ∀ i : Fin 16, 0 ≤ (row i).1 := by decide
      exact this ⟨k, hk⟩
    · simp only [row, rows]
      rw [List.getD_eq_getElem?_getD, List.getElem?_eq_none (by simp; omega)]
      decide
  omega

theorem act_fit {wdo : Int → Int → Int → Int} {P : Nat → PartD} {len : Nat} {s s' : St} {f : Fr} {rest : List Fr} {op a b c : Int} {l : List Int} (h : act wdo P len s f rest op a b c l = .inr s') (ha : 0 ≤ a)
    (hf : f.part < len ∧ ∀ k, f.noted = some k → k < s.calls.length) (hw : f.words.length ≤ 40) (hr : ∀ g ∈ rest, g.part < len ∧ g.words.length ≤ 40 ∧ ∀ k, g.noted = some k → k < s.calls.length) (hl : rest.length + 1 ≤ 20) (ht : s.told.length ≤ 500) (hc : s.calls.length ≤ 100) : Fit len s' := by
  unfold act at h
  by_cases e1 : op = 1
  · rw [if_pos e1] at h
    exact puts_good h hf hr hl ht hc
  rw [if_neg e1] at h
  by_cases e2 : op = 2
  · rw [if_pos e2] at h
    exact puts_good h hf hr hl ht hc
  rw [if_neg e2] at h
  by_cases e3 : op = 3
  · rw [if_pos e3] at h
    exact puts_good h hf hr hl ht hc
  rw [if_neg e3] at h
  by_cases e4 : op = 4
  · rw [if_pos e4] at h
    exact puts_good h hf hr hl ht hc
  rw [if_neg e4] at h
  by_cases e5 : op = 5
  · rw [if_pos e5] at h
    exact puts_good h hf hr hl ht hc
  rw [if_neg e5] at h
  by_cases e6 : op = 6
  · rw [if_pos e6] at h
    by_cases c1 : (P f.part).lo ≤ l.getD 0 0 ∧ l.getD 0 0 < (P f.part).hi
    · rw [if_pos c1] at h
      exact puts_good h hf hr hl ht hc
    · rw [if_neg c1] at h
      cases h
  rw [if_neg e6] at h
  by_cases e7 : op = 7
  · rw [if_pos e7] at h
    by_cases c1 : (P f.part).lo ≤ l.getD 0 0 ∧ l.getD 0 0 < (P f.part).hi
    · rw [if_pos c1] at h
      exact puts_good h hf hr hl ht hc
    · rw [if_neg c1] at h
      cases h
  rw [if_neg e7] at h
  by_cases e8 : op = 8
  · rw [if_pos e8] at h
    exact puts_good h hf hr hl ht hc
  rw [if_neg e8] at h
  by_cases e9 : op = 9
  · rw [if_pos e9] at h
    exact puts_good h hf hr hl ht hc
  rw [if_neg e9] at h
  by_cases e10 : op = 10
  · rw [if_pos e10] at h
    by_cases c1 : l.getD 0 0 = 0
    · rw [if_pos c1] at h
      exact puts_good h hf hr hl ht hc
    · rw [if_neg c1] at h
      exact puts_good h hf hr hl ht hc
  rw [if_neg e10] at h
  by_cases e11 : op = 11
  · rw [if_pos e11] at h
    exact enter_fit h hf hw hr hf.1 rfl (fun _ e => by cases e) hl ht hc
  rw [if_neg e11] at h
  by_cases e12 : op = 12
  · rw [if_pos e12] at h
    by_cases c1 : a < len ∧ b < (P a.toNat).el ∧ (P a.toNat).prs b.toNat = c
    · rw [if_pos c1] at h
      have hlt : a.toNat < len := by have := c1.1; omega
      by_cases c2 : s.calls.length < 100
      · rw [if_pos c2] at h
        exact enter_fit h ⟨hf.1, fun k e => by have := hf.2 k e; simp; omega⟩ hw (fun g hg => ⟨(hr g hg).1, (hr g hg).2.1, fun k e => by have := (hr g hg).2.2 k e; simp; omega⟩) hlt rfl (fun k e => by cases e; simp) hl ht (by simp; omega)
      · rw [if_neg c2] at h
        exact enter_fit h hf hw hr hlt rfl (fun _ e => by cases e) hl ht hc
    · rw [if_neg c1] at h
      cases h
  rw [if_neg e12] at h
  by_cases e13 : op = 13
  · rw [if_pos e13] at h
    match rest, h, hr, hl with
    | [], h, _, _ => cases h
    | g :: rest', h, hr, hl =>
      have hg := hr g (by simp)
      cases hno : f.noted with
      | none =>
        rw [hno] at h
        exact puts_good h ⟨hg.1, hg.2.2⟩ (fun x hx => hr x (by simp [hx])) (by simp at hl; omega) ht hc
      | some q =>
        rw [hno] at h
        exact puts_good h ⟨hg.1, fun k e => by have := hg.2.2 k e; simpa using this⟩ (fun x hx => by have := hr x (by simp [hx]); exact ⟨this.1, this.2.1, fun k e => by have := this.2.2 k e; simpa using this⟩) (by simp at hl; omega) ht (by simpa using hc)
  rw [if_neg e13] at h
  by_cases e14 : op = 14
  · rw [if_pos e14] at h
    by_cases c1 : s.told.length < 500
    · rw [if_pos c1] at h
      exact puts_good h hf hr hl (by simp; omega) hc
    · rw [if_neg c1] at h
      cases h
  rw [if_neg e14] at h
  cases h

theorem step_fit {wdo : Int → Int → Int → Int} {P : Nat → PartD} {len : Nat} {s s' : St} (h : Mach.step wdo P len s = .inr s') (hs : Fit len s) (hcode : ∀ k, k < len → ∀ j, j < (P k).cl → fault ((P k).o j) ((P k).a j) ((P k).b j) ((P k).c j) = 0) : Fit len s' := by
  obtain ⟨rooms, data, told, calls⟩ := s
  match rooms, h, hs with
  | [], h, hs => exact absurd rfl hs.room
  | f :: rest, h, hs =>
    have hf := hs.fr f (by simp)
    simp only [Mach.step] at h
    split at h
    · rename_i hpc
      split at h
      · have := (fault_zero (hcode _ hf.1 _ hpc)).2.1.1
        refine act_fit h (le_row this) ⟨hf.1, hf.2.2⟩ (by simp; have := hf.2.1; omega) (fun g hg => hs.fr g (by simp [hg])) (by have := hs.few; simpa using this) hs.told hs.calls
      · cases h
    · cases h

section
variable {own : Nat → Tag} {w1 w : World} {R D : Nat} {vF vT vC : Value} {F : List (Fr × Value)} {data told : List Int} {C : List (Rec × Value)} {gL len capL capP : Nat} {P : Nat → PartD} {ao : Option Addr}

theorem stepped (n : Nat) (hn : n ≤ 100000) (h : Inv own w1 w R D (.slice ao len capP) (.slice (some ⟨gL, 0, none⟩) len capL) vF vT vC ((n : Int) + 1) F [] data told C) (hS : Sure w1 R D ao gL len data.length P) (hq : Quiet P len) (hfit : Fit len ⟨F.map Prod.fst, data, told, C.map Prod.fst⟩) :
    Calls Tryd.prog 25 #[.pointer (some ⟨R, 0, none⟩)] w fun e w' => Went w1 R D (.slice ao len capP) (.slice (some ⟨gL, 0, none⟩) len capL) n e w' (Mach.step wdoT P len ⟨F.map Prod.fst, data, told, C.map Prod.fst⟩) := by
  match F, h, hfit with
  | [], _, hfit => exact absurd rfl hfit.room
  | (f, v) :: F, h, hfit =>
    obtain ⟨g, cap, rfl, _, _⟩ := h.frames_form
    have hf := hfit.fr f (by simp)
    have hF : F.length + 1 ≤ 20 := by have := hfit.few; simpa using this
    have hws : ∀ p ∈ F, p.1.words.length ≤ 40 := fun p hp => (hfit.fr p.1 (by simp; exact .inr ⟨p.2, hp⟩)).2.1
    have hnt : ∀ k, f.noted = some k → k < C.length := fun k e => by have := hf.2.2 k e; simpa using this
    have hC : C.length ≤ 100 := by have := hfit.calls; simpa using this
    by_cases hpc : f.pc < (P f.part).cl
    · have e1 : Mach.step wdoT P len ⟨((f, v) :: F).map Prod.fst, data, told, C.map Prod.fst⟩ = if needs ((P f.part).o f.pc) ((P f.part).b f.pc) ((P f.part).c f.pc) ≤ f.words.length then
          act wdoT P len ⟨((f, v) :: F).map Prod.fst, data, told, C.map Prod.fst⟩ { f with pc := f.pc + 1, words := f.words.take (f.words.length - needs ((P f.part).o f.pc) ((P f.part).b f.pc) ((P f.part).c f.pc)) } (F.map Prod.fst) ((P f.part).o f.pc) ((P f.part).a f.pc) ((P f.part).b f.pc) ((P f.part).c f.pc) (f.words.drop (f.words.length - needs ((P f.part).o f.pc) ((P f.part).b f.pc) ((P f.part).c f.pc)))
          else ends 4 0 ⟨((f, v) :: F).map Prod.fst, data, told, C.map Prod.fst⟩ := by
        simp only [Mach.step, List.map_cons, if_pos hpc]
      rw [e1]
      refine few n hn h hS hf.1 hF hpc hf.2.1 _ (fun hno own' w' v' h' => ?_) (fun hyes W tv v' hcut h' => ?_)
      · rw [if_neg hno]
        exact went_end h'.fin ⟨rfl, rfl, rfl⟩
      · rw [if_pos hyes]
        have hfz := hS.code _ hf.1 _ hpc
        refine (quiet h' (by rw [List.length_drop]; rwa [show f.words.length - (f.words.length - needs ((P f.part).o f.pc) ((P f.part).b f.pc) ((P f.part).c f.pc)) = needs ((P f.part).o f.pc) ((P f.part).b f.pc) ((P f.part).c f.pc) by omega]) hS (by simp; have := hf.2.1; omega) hf.1 hfit.told hF hws hnt hC _ _ _ _ hfz (by rw [List.length_drop]; omega) (hq _ hf.1 _ hpc) (((f, v) :: F).map Prod.fst)).mono ?_
        intro e w' hwent
        exact ⟨went_ret hwent, hwent⟩
    · rw [show Mach.step wdoT P len ⟨((f, v) :: F).map Prod.fst, data, told, C.map Prod.fst⟩ = ends 4 0 ⟨((f, v) :: F).map Prod.fst, data, told, C.map Prod.fst⟩ by simp only [Mach.step, List.map_cons, if_neg hpc]]
      refine (behind n hn h hS hf.1 hF hpc).mono ?_
      rintro e w' ⟨rfl, own', h'⟩
      exact went_end h'.fin ⟨rfl, rfl, rfl⟩
end
end Go.Proofs.YtmmcpjmgindpkacDoor.StepQ
