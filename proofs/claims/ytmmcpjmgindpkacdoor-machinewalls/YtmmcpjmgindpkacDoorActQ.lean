/-
  WHAT mach.do GIVES, every instruction but Call and a Gate that goes through: what the plain machine does.
  Conditions: the run lies there, with the words that were taken; the image may be.
-/
import Derived.Test.YtmmcpjmgindpkacDoorActB
import Derived.Test.YtmmcpjmgindpkacDoorActC
import Derived.Test.YtmmcpjmgindpkacDoorActD
import Derived.Test.YtmmcpjmgindpkacDoorActE
import Derived.Test.YtmmcpjmgindpkacDoorDo
namespace Go.Proofs.YtmmcpjmgindpkacDoor.ActQ
open Go.RowKit Tab Go.Proofs.YtmmcpjmgindpkacDoor.Check Lists Img Mach Own Go.Proofs.YtmmcpjmgindpkacDoor.Inv Go.Proofs.YtmmcpjmgindpkacDoor.Frame Take Go.Proofs.YtmmcpjmgindpkacDoor.Went ActA ActB ActC ActD ActE

/-- word.Do's first answer, whatever it is handed -/
def wdoT (op a b : Int) : Int := if (0 ≤ a ∧ a ≤ 65535) ∧ (0 ≤ b ∧ b ≤ 65535) then Plain.wdo op a b else 0

theorem did (op a b : Int) (h1 : 1 ≤ op) (h2 : op ≤ 10) (w : World) : Calls Tryd.prog 18 #[.int .i64 op, .int .i64 a, .int .i64 b] w fun e w' => ∃ r, e = .returned (.tuple #[.int .i64 (wdoT op a b), .int .i64 r]) ∧ w' = w := by
  by_cases h : (0 ≤ a ∧ a ≤ 65535) ∧ (0 ≤ b ∧ b ≤ 65535)
  · rw [wdoT, if_pos h]
    refine (Do.ok op a b h1 h2 h.1.1 h.1.2 h.2.1 h.2.2 w).mono ?_
    rintro e w' ⟨rfl, rfl⟩
    exact ⟨_, rfl, rfl⟩
  · rw [wdoT, if_neg h]
    refine (Do.range op a b h1 h2 h w).mono ?_
    rintro e w' ⟨rfl, rfl⟩
    exact ⟨_, rfl, rfl⟩

theorem fault_zero {op a b c : Int} (h : fault op a b c = 0) : (1 ≤ op ∧ op ≤ 15) ∧ ((row op.toNat).1 ≤ a ∧ a ≤ (row op.toNat).2.1) ∧ (0 ≤ b ∧ b ≤ (row op.toNat).2.2.1) ∧ (0 ≤ c ∧ c ≤ (row op.toNat).2.2.2) := by
  unfold fault at h
  split at h
  · split at h
    · exact ⟨by assumption, by assumption⟩
    · cases h
  · cases h

theorem two_of {l : List Int} (h : l.length = 2) : ∃ x y, l = [x, y] := by
  match l, h with
  | [x, y], _ => exact ⟨x, y, rfl⟩

/-- what is known of an image that may be, and of where it lies -/
structure Sure (w1 : World) (R D : Nat) (ao : Option Addr) (gL len dlen : Nat) (P : Nat → PartD) : Prop where
  kept : Kept w1 R D ao len P
  looks : Go.Proofs.YtmmcpjmgindpkacDoor.Look.Looks w1 R D gL len dlen P
  len5 : len ≤ 5
  el8 : ∀ k, k < len → (P k).el ≤ 8
  cl1200 : ∀ k, k < len → (P k).cl ≤ 1200
  code : ∀ k, k < len → ∀ j, j < (P k).cl → fault ((P k).o j) ((P k).a j) ((P k).b j) ((P k).c j) = 0
  own : ∀ k, k < len → 0 ≤ (P k).lo ∧ (P k).hi ≤ dlen
  entries : ∀ k, k < len → ∀ j, j < (P k).el → (0 ≤ (P k).ats j ∧ (P k).ats j < (P k).cl) ∧ (0 ≤ (P k).prs j ∧ (P k).prs j ≤ 4)

section
variable {own : Nat → Tag} {w1 w w' : World} {R D g cap : Nat} {lS vF vT vC : Value} {fuel : Int} {f : Fr} {v tv : Value} {F : List (Fr × Value)} {l data told : List Int} {C : List (Rec × Value)} {gL len capL capP : Nat} {P : Nat → PartD} {ao : Option Addr}

set_option maxHeartbeats 1000000 in
theorem quiet (h : Inv own w1 w R D (.slice ao len capP) (.slice (some ⟨gL, 0, none⟩) len capL) (.slice (some ⟨g, 0, none⟩) (F.length + 1) cap) vT vC fuel ((f, v) :: F) l data told C) (hc : Cut v tv l.length) (hS : Sure w1 R D ao gL len data.length P)
    (hw : f.words.length ≤ 40) (hp : f.part < len) (ht : told.length ≤ 500) (hF : F.length + 1 ≤ 20) (hws : ∀ p ∈ F, p.1.words.length ≤ 40) (hn : ∀ k, f.noted = some k → k < C.length) (hC : C.length ≤ 100)
    (op a b c : Int) (hf : fault op a b c = 0) (hl : l.length = needs op b c) (hq : op ≠ 11 ∧ (op = 12 → ¬ (a < len ∧ b < (P a.toNat).el ∧ (P a.toNat).prs b.toNat = c))) (rm : List Fr) :
    Calls Tryd.prog 39 #[.pointer (some ⟨R, 0, none⟩), .pointer (some ⟨g, F.length * 12, none⟩), .agg #[.int .i64 op, .int .i64 a, .int .i64 b, .int .i64 c], tv] w fun e w' => Went w1 R D (.slice ao len capP) (.slice (some ⟨gL, 0, none⟩) len capL) fuel e w' (Mach.act wdoT P len ⟨rm, data, told, C.map Prod.fst⟩ f (F.map Prod.fst) op a b c l) := by
  obtain ⟨⟨o1, o15⟩, ⟨a0, a1⟩, ⟨b0, b1⟩, ⟨c0, c1⟩⟩ := fault_zero hf
  rcases (show op = 1 ∨ op = 2 ∨ op = 3 ∨ op = 4 ∨ op = 5 ∨ op = 6 ∨ op = 7 ∨ op = 8 ∨ op = 9 ∨ op = 10 ∨ op = 12 ∨ op = 13 ∨ op = 14 ∨ op = 15 by have := hq.1; omega) with rfl | rfl | rfl | rfl | rfl | rfl | rfl | rfl | rfl | rfl | rfl | rfl | rfl | rfl
  · obtain rfl : l = [] := List.eq_nil_of_length_eq_zero (by rw [hl]; simp [needs])
    rw [show Mach.act wdoT P len ⟨rm, data, told, C.map Prod.fst⟩ f (F.map Prod.fst) 1 a b c [] = puts ⟨rm, data, told, C.map Prod.fst⟩ f (F.map Prod.fst) [a] by simp [Mach.act]]
    exact push h hc hw a b c rm
  · obtain ⟨x, rfl⟩ := List.length_eq_one_iff.1 (by rw [hl]; simp [needs] : l.length = 1)
    rw [show Mach.act wdoT P len ⟨rm, data, told, C.map Prod.fst⟩ f (F.map Prod.fst) 2 a b c [x] = puts ⟨rm, data, told, C.map Prod.fst⟩ f (F.map Prod.fst) [] by simp [Mach.act]]
    exact drop x h hc hw a b c rm
  · obtain ⟨x, rfl⟩ := List.length_eq_one_iff.1 (by rw [hl]; simp [needs] : l.length = 1)
    rw [show Mach.act wdoT P len ⟨rm, data, told, C.map Prod.fst⟩ f (F.map Prod.fst) 3 a b c [x] = puts ⟨rm, data, told, C.map Prod.fst⟩ f (F.map Prod.fst) [x, x] by simp [Mach.act]]
    exact dup x h hc hw a b c rm
  · obtain rfl : l = [] := List.eq_nil_of_length_eq_zero (by rw [hl]; simp [needs])
    obtain ⟨j, rfl⟩ : ∃ j : Nat, a = j := ⟨a.toNat, by simp [row, rows] at a0; omega⟩
    rw [show Mach.act wdoT P len ⟨rm, data, told, C.map Prod.fst⟩ f (F.map Prod.fst) 4 j b c [] = puts ⟨rm, data, told, C.map Prod.fst⟩ f (F.map Prod.fst) [f.locals.getD j 0] by simp [Mach.act]]
    exact get h hc hw j b c j (by simp [row, rows] at a1; omega) rfl rm
  · obtain ⟨x, rfl⟩ := List.length_eq_one_iff.1 (by rw [hl]; simp [needs] : l.length = 1)
    obtain ⟨j, rfl⟩ : ∃ j : Nat, a = j := ⟨a.toNat, by simp [row, rows] at a0; omega⟩
    rw [show Mach.act wdoT P len ⟨rm, data, told, C.map Prod.fst⟩ f (F.map Prod.fst) 5 j b c [x] = puts ⟨rm, data, told, C.map Prod.fst⟩ { f with locals := f.locals.set j x } (F.map Prod.fst) [] by simp [Mach.act]]
    exact put_ x h hc hw j b c j (by simp [row, rows] at a1; omega) rfl rm
  · obtain ⟨x, rfl⟩ := List.length_eq_one_iff.1 (by rw [hl]; simp [needs] : l.length = 1)
    rw [show Mach.act wdoT P len ⟨rm, data, told, C.map Prod.fst⟩ f (F.map Prod.fst) 6 a b c [x] = if (P f.part).lo ≤ x ∧ x < (P f.part).hi then puts ⟨rm, data, told, C.map Prod.fst⟩ f (F.map Prod.fst) [data.getD x.toNat 0] else ends 4 0 ⟨rm, data, told, C.map Prod.fst⟩ by simp [Mach.act]]
    exact load_ x h hc hw a b c hS.looks hp hS.len5 (hS.own _ hp) rm
  · obtain ⟨x, y, rfl⟩ := two_of (by rw [hl]; simp [needs] : l.length = 2)
    rw [show Mach.act wdoT P len ⟨rm, data, told, C.map Prod.fst⟩ f (F.map Prod.fst) 7 a b c [x, y] = if (P f.part).lo ≤ x ∧ x < (P f.part).hi then puts ⟨rm, data.set x.toNat y, told, C.map Prod.fst⟩ f (F.map Prod.fst) [] else ends 4 0 ⟨rm, data, told, C.map Prod.fst⟩ by simp [Mach.act]]
    exact store_ x y h hc hw a b c hS.looks hp hS.len5 (hS.own _ hp) rm
  · obtain ⟨x, y, rfl⟩ := two_of (by rw [hl]; simp [needs] : l.length = 2)
    rw [show Mach.act wdoT P len ⟨rm, data, told, C.map Prod.fst⟩ f (F.map Prod.fst) 8 a b c [x, y] = puts ⟨rm, data, told, C.map Prod.fst⟩ f (F.map Prod.fst) [wdoT a x y] by simp [Mach.act]]
    exact do_ x y h hc hw a b c _ (fun w => did a x y (by simp [row, rows] at a0; omega) (by simp [row, rows] at a1; omega) w) rm
  · obtain rfl : l = [] := List.eq_nil_of_length_eq_zero (by rw [hl]; simp [needs])
    obtain ⟨j, rfl⟩ : ∃ j : Nat, a = j := ⟨a.toNat, by simp [row, rows] at a0; omega⟩
    rw [show Mach.act wdoT P len ⟨rm, data, told, C.map Prod.fst⟩ f (F.map Prod.fst) 9 j b c [] = puts ⟨rm, data, told, C.map Prod.fst⟩ { f with pc := j } (F.map Prod.fst) [] by simp [Mach.act]]
    exact jump h hc hw j b c j rfl rm
  · obtain ⟨x, rfl⟩ := List.length_eq_one_iff.1 (by rw [hl]; simp [needs] : l.length = 1)
    obtain ⟨j, rfl⟩ : ∃ j : Nat, a = j := ⟨a.toNat, by simp [row, rows] at a0; omega⟩
    rw [show Mach.act wdoT P len ⟨rm, data, told, C.map Prod.fst⟩ f (F.map Prod.fst) 10 j b c [x] = puts ⟨rm, data, told, C.map Prod.fst⟩ (if x = 0 then { f with pc := j } else f) (F.map Prod.fst) [] by simp [Mach.act]]
    exact jz x h hc hw j b c j rfl rm
  · rw [show Mach.act wdoT P len ⟨rm, data, told, C.map Prod.fst⟩ f (F.map Prod.fst) 12 a b c l = ends 4 0 ⟨rm, data, told, C.map Prod.fst⟩ by
      unfold Mach.act
      rw [if_neg (by decide), if_neg (by decide), if_neg (by decide), if_neg (by decide), if_neg (by decide), if_neg (by decide), if_neg (by decide), if_neg (by decide), if_neg (by decide), if_neg (by decide), if_neg (by decide), if_pos rfl, if_neg (hq.2 rfl)]]
    exact gate_ h hc a b c hS.kept hS.len5 hS.el8 (by simp [row, rows] at a0; omega) b0 (by rw [hl]; simp [needs]; omega) (hq.2 rfl) rm
  · obtain ⟨x, rfl⟩ := List.length_eq_one_iff.1 (by rw [hl]; simp [needs] : l.length = 1)
    rw [show Mach.act wdoT P len ⟨rm, data, told, C.map Prod.fst⟩ f (F.map Prod.fst) 13 a b c [x] = back ⟨rm, data, told, C.map Prod.fst⟩ f (F.map Prod.fst) x by
      unfold Mach.act
      rw [if_neg (by decide), if_neg (by decide), if_neg (by decide), if_neg (by decide), if_neg (by decide), if_neg (by decide), if_neg (by decide), if_neg (by decide), if_neg (by decide), if_neg (by decide), if_neg (by decide), if_neg (by decide), if_pos rfl]
      cases F <;> rfl]
    exact ret_ x h hc hw a b c hF hws hn hC rm
  · obtain ⟨x, rfl⟩ := List.length_eq_one_iff.1 (by rw [hl]; simp [needs] : l.length = 1)
    rw [show Mach.act wdoT P len ⟨rm, data, told, C.map Prod.fst⟩ f (F.map Prod.fst) 14 a b c [x] = if told.length < 500 then puts ⟨rm, data, told ++ [x], C.map Prod.fst⟩ f (F.map Prod.fst) [] else ends 6 0 ⟨rm, data, told, C.map Prod.fst⟩ by simp [Mach.act]]
    exact tell_ x h hc hw a b c ht rm
  · obtain rfl : l = [] := List.eq_nil_of_length_eq_zero (by rw [hl]; simp [needs])
    rw [show Mach.act wdoT P len ⟨rm, data, told, C.map Prod.fst⟩ f (F.map Prod.fst) 15 a b c [] = ends 2 0 ⟨rm, data, told, C.map Prod.fst⟩ by simp [Mach.act]]
    exact trap h hc hw a b c rm
end

/-- what holds of a run between two steps -/
structure Fit (len : Nat) (s : St) : Prop where
  room : s.rooms ≠ []
  few : s.rooms.length ≤ 20
  fr : ∀ f ∈ s.rooms, f.part < len ∧ f.words.length ≤ 40 ∧ ∀ k, f.noted = some k → k < s.calls.length
  told : s.told.length ≤ 500
  calls : s.calls.length ≤ 100

theorem puts_good {len : Nat} {s s' : St} {f : Fr} {rest : List Fr} {back : List Int} (h : puts s f rest back = .inr s') (hf : f.part < len ∧ ∀ k, f.noted = some k → k < s.calls.length) (hr : ∀ g ∈ rest, g.part < len ∧ g.words.length ≤ 40 ∧ ∀ k, g.noted = some k → k < s.calls.length) (hl : rest.length + 1 ≤ 20) (ht : s.told.length ≤ 500) (hc : s.calls.length ≤ 100) : Fit len s' := by
  unfold puts at h
  split at h
  · injection h with h
    subst h
    refine ⟨by simp, by simpa using hl, fun g hg => ?_, ht, hc⟩
    rcases List.mem_cons.1 hg with rfl | hg
    · exact ⟨hf.1, by simpa using ‹_›, hf.2⟩
    · exact hr g hg
  · cases h
end Go.Proofs.YtmmcpjmgindpkacDoor.ActQ
