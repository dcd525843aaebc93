/-
  A STEP OF mach IS A STEP OF THE PLAIN MACHINE, where the run stands at no Call and at no Gate that goes through, with the words that it takes.
  Conditions: the run lies there; the image may be.
-/
import Derived.Test.YtmmcpjmgindpkacDoorStepQ
namespace Go.Proofs.YtmmcpjmgindpkacDoor.StepS
open Go.RowKit Tab Go.Proofs.YtmmcpjmgindpkacDoor.Check Lists Img Mach Own Go.Proofs.YtmmcpjmgindpkacDoor.Inv Go.Proofs.YtmmcpjmgindpkacDoor.Frame Take Go.Proofs.YtmmcpjmgindpkacDoor.Went ActE ActQ Step StepQ

/-- it stands at no Call, and at no Gate that goes through -/
def QuietAt (P : Nat → PartD) (len : Nat) (s : St) : Prop := ∀ f rest, s.rooms = f :: rest → f.part < len → f.pc < (P f.part).cl → needs ((P f.part).o f.pc) ((P f.part).b f.pc) ((P f.part).c f.pc) ≤ f.words.length → (P f.part).o f.pc ≠ 11 ∧ ((P f.part).o f.pc = 12 → ¬ ((P f.part).a f.pc < len ∧ (P f.part).b f.pc < (P ((P f.part).a f.pc).toNat).el ∧ (P ((P f.part).a f.pc).toNat).prs ((P f.part).b f.pc).toNat = (P f.part).c f.pc))

/-- it comes to none of these with so much fuel -/
def QuietFor (P : Nat → PartD) (len : Nat) : Nat → St → Prop
  | 0, _ => True
  | n + 1, s => QuietAt P len s ∧ ∀ s', Mach.step wdoT P len s = .inr s' → QuietFor P len n s'

theorem quietFor {P : Nat → PartD} {len : Nat} (h : Quiet P len) : ∀ n s, QuietFor P len n s := by
  intro n
  induction n with
  | zero => intro s; exact True.intro
  | succ n ih => intro s; exact ⟨fun f _ _ hp hc _ => h f.part hp f.pc hc, fun s' _ => ih s'⟩

section
variable {own : Nat → Tag} {w1 w : World} {R D : Nat} {vF vT vC : Value} {F : List (Fr × Value)} {data told : List Int} {C : List (Rec × Value)} {gL len capL capP : Nat} {P : Nat → PartD} {ao : Option Addr}

theorem steppedS (n : Nat) (hn : n ≤ 100000) (h : Inv own w1 w R D (.slice ao len capP) (.slice (some ⟨gL, 0, none⟩) len capL) vF vT vC ((n : Int) + 1) F [] data told C) (hS : Sure w1 R D ao gL len data.length P) (hq : QuietAt P len ⟨F.map Prod.fst, data, told, C.map Prod.fst⟩) (hfit : Fit len ⟨F.map Prod.fst, data, told, C.map Prod.fst⟩) :
    Calls Tryd.prog 25 #[.pointer (some ⟨R, 0, none⟩)] w fun e w' => Went w1 R D (.slice ao len capP) (.slice (some ⟨gL, 0, none⟩) len capL) n e w' (Mach.step wdoT P len ⟨F.map Prod.fst, data, told, C.map Prod.fst⟩) := by
  match F, h, hq, hfit with
  | [], _, _, hfit => exact absurd rfl hfit.room
  | (f, v) :: F, h, hq, hfit =>
    obtain ⟨g, cap, rfl, _, _⟩ := h.frames_form
    have hf := hfit.fr f (by simp)
    have hF : F.length + 1 ≤ 20 := by have := hfit.few; simpa using this
    have hws : ∀ p ∈ F, p.1.words.length ≤ 40 := fun p hp => (hfit.fr p.1 (by simp; exact .inr ⟨p.2, hp⟩)).2.1
    have hnt : ∀ k, f.noted = some k → k < C.length := fun k e => by have := hf.2.2 k e; simpa using this
    have hC : C.length ≤ 100 := by have := hfit.calls; simpa using this
    by_cases hpc : f.pc < (P f.part).cl
    · have e1 : Mach.step wdoT P len ⟨((f, v) :: F).map Prod.fst, data, told, C.map Prod.fst⟩ = if needs ((P f.part).o f.pc) ((P f.part).b f.pc) ((P f.part).c f.pc) ≤ f.words.length then
          act wdoT P len ⟨((f, v) :: F).map Prod.fst, data, told, C.map Prod.fst⟩ { f with pc := f.pc + 1, words := f.words.take (f.words.length - needs ((P f.part).o f.pc) ((P f.part).b f.pc) ((P f.part).c f.pc)) } (F.map Prod.fst) ((P f.part).o f.pc) ((P f.part).a f.pc) ((P f.part).b f.pc) ((P f.part).c f.pc) (f.words.drop (f.words.length - needs ((P f.part).o f.pc) ((P f.part).b f.pc) ((P f.part).c f.pc)))
          else ends 4 0 ⟨((f, v) :: F).map Prod.fst, data, told, C.map Prod.fst⟩ := by
        simp only [Mach.step, List.map_cons, if_pos hpc]
      rw [e1]
      refine few n hn h hS hf.1 hF hpc hf.2.1 _ (fun hno own' w' v' h' => ?_) (fun hyes W tv v' hcut h' => ?_)
      · rw [if_neg hno]
        exact went_end h'.fin ⟨rfl, rfl, rfl⟩
      · rw [if_pos hyes]
        have hfz := hS.code _ hf.1 _ hpc
        refine (quiet h' (by rw [List.length_drop]; rwa [show f.words.length - (f.words.length - needs ((P f.part).o f.pc) ((P f.part).b f.pc) ((P f.part).c f.pc)) = needs ((P f.part).o f.pc) ((P f.part).b f.pc) ((P f.part).c f.pc) by omega]) hS (by simp; have := hf.2.1; omega) hf.1 hfit.told hF hws hnt hC _ _ _ _ hfz (by rw [List.length_drop]; omega) (hq f (F.map Prod.fst) rfl hf.1 hpc hyes) (((f, v) :: F).map Prod.fst)).mono ?_
        intro e w' hwent
        exact ⟨went_ret hwent, hwent⟩
    · rw [show Mach.step wdoT P len ⟨((f, v) :: F).map Prod.fst, data, told, C.map Prod.fst⟩ = ends 4 0 ⟨((f, v) :: F).map Prod.fst, data, told, C.map Prod.fst⟩ by simp only [Mach.step, List.map_cons, if_neg hpc]]
      refine (behind n hn h hS hf.1 hF hpc).mono ?_
      rintro e w' ⟨rfl, own', h'⟩
      exact went_end h'.fin ⟨rfl, rfl, rfl⟩
end
end Go.Proofs.YtmmcpjmgindpkacDoor.StepS
