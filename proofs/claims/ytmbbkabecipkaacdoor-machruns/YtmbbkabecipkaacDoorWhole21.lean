/-
  WHAT mach.check GIVES where it refuses nothing; and how a run lies there when it begins.
  Conditions: the table 'code.bounds' lies there, the image's parts, the data and the words.
  WHAT mach.Run GIVES where it refuses nothing, of an image with no Call and no Gate that goes through: what the plain machine gives.
  Conditions: the table 'code.bounds' lies there, the image's parts, the data and the words.
  A STEP OF mach IS A STEP OF THE PLAIN MACHINE, where the run stands at no Call and at no Gate that goes through, with the words that it takes.
  Conditions: the run lies there; the image may be.
  WHAT mach.do GIVES, every instruction: what the plain machine does; and a step so.
  Conditions: the run lies there, with the words that were taken; the image may be.
-/
import Derived.Test.YtmbbkabecipkaacDoorWhole20
import Derived.Test.YtmbbkabecipkaacDoorWhole16
import Derived.Test.YtmbbkabecipkaacDoorWhole19
import Derived.Test.YtmbbkabecipkaacDoorWhole12
namespace Go.Proofs.YtmbbkabecipkaacDoor.MCheck
open Go.RowKit Tab Go.Proofs.YtmbbkabecipkaacDoor.Check Lists Go.Proofs.YtmbbkabecipkaacDoor.Read Img Mach Own Go.Proofs.YtmbbkabecipkaacDoor.Inv Go.Proofs.YtmbbkabecipkaacDoor.Frame Take Go.Proofs.YtmbbkabecipkaacDoor.Went Go.Proofs.YtmbbkabecipkaacDoor.Entry ActE ActQ Go.Proofs.YtmbbkabecipkaacDoor.Start

theorem part_sure {p : PartD} {s : Int} (h : partFault p s = 0) : p.cl ≤ 1200 ∧ p.el ≤ 8 ∧ codeFault p = 0 ∧ entriesFault p = 0 := by
  unfold partFault at h
  split at h
  · split at h
    · split at h
      · exact ⟨by omega, by omega, by assumption, by assumption⟩
      · contradiction
    · contradiction
  · cases h

theorem entry_sure {n : Nat} {t r : Int} (h : entryFault n t r = 0) : (0 ≤ t ∧ t < n) ∧ (0 ≤ r ∧ r ≤ 4) := by
  unfold entryFault at h
  split at h
  · assumption
  · cases h

set_option maxRecDepth 100000 in
set_option maxHeartbeats 1000000 in
theorem check_ok (ao : Option Addr) (len cap : Nat) (hlen : len ≤ maxLen) (P : Nat → PartD) (da : Option Addr) (dlen dcap : Nat) (z : Nat → Int) (aa : Option Addr) (alen acap : Nat) (az : Nat → Int) (k j : Nat) (fuel : Int) (w : World) (hl : Lies w) (hin : Parts w ao len P) (hd : Ints w da dlen z) (ha : Ints w aa alen az) (er : dataFault P len z dlen = 0)
    (hk : k < len) (hj : j < (P k).el) (hn : (alen : Int) = (P k).prs j) (hf0 : 0 ≤ fuel) (hf1 : fuel ≤ 100000) (hw : first (fun i => wordFault (az i)) alen = 0) :
    Calls Tryd.prog 22 #[.agg #[.slice ao len cap], .slice da dlen dcap, .int .i64 k, .int .i64 j, .slice aa alen acap, .int .i64 fuel] w fun e w' => e = .returned (.int .i64 0) ∧ Below w.heap.size w w' := by
  have h5 := (imageFault_zero (dataFault_zero er).1).1
  have hp := part_sure (first_zero (imageFault_zero (dataFault_zero er).1).2 k hk)
  have he := entry_sure (first_zero hp.2.2.2 j hj)
  have hal : alen ≤ 4 := by omega
  have hb0 := below1 w (.cells #[.slice ao len cap] 24)
  have k31 : ∀ W, Below w.heap.size w W → _ := fun W hb => Data.checkData ao len cap hlen P da dlen dcap z W (Lies_below hl hb) (Parts_below hin hb) (Ints_below hd hb)
  rw [er] at k31
  have k33 : ∀ W, Below w.heap.size w W → _ := fun W hb => entryOf_ok ao len cap h5 P k j hk hj hp.2.1 W (Parts_below hin hb)
  have keepA : ∀ w', Below w.heap.size w w' → Ints w' aa alen az := fun w' hb => Ints_below ha hb
  have word : ∀ i, i < alen → 0 ≤ az i ∧ az i ≤ 65535 := by
    intro i hi
    have := first_zero hw i hi
    simp only [wordFault] at this
    split at this
    · assumption
    · cases this
  obtain ⟨at_, eat⟩ : ∃ x, x = (P k).ats j := ⟨_, rfl⟩
  obtain ⟨pr, epr⟩ : ∃ x, x = (P k).prs j := ⟨_, rfl⟩
  rw [← eat, ← epr] at k33
  rw [← epr] at hn
  subst hn
  have halI : (alen : Int) ≤ 4 := by omega
  have K31 : Hid _ := k31
  have K33 : Hid _ := k33
  have KA : Hid _ := keepA
  have WD : Hid _ := word
  have HB0 : Hid _ := hb0
  clear k31 k33 keepA word hb0 hl hin hd ha er hk hj hw hp he eat epr hlen h5 hal
  go_enter Tryd.func22, Tryd.ntmps22
  go_wp2_with (first
    | (go_at_call 31; refine (K31.out _ HB0.out).mono ?_; rintro e w1 ⟨rfl, hb1⟩; have q0 := box1 hb1; have hb2 := HB0.out.trans (hb1.mono HB0.out.size); have HB2 : Hid _ := hb2; clear hb1 hb2)
    | (go_at_call 33; refine (K33.out _ HB2.out).mono ?_; rintro e w2 ⟨rfl, rfl⟩))
  go_loopw [47] (fun i wr => ∃ m : Nat, m ≤ alen ∧ i = .int .i64 m ∧ Below w.heap.size w wr) (fun i _ => alen - (intOf i).toNat)
  case atStart => exact ⟨0, Nat.zero_le _, rfl, by first | exact (HB2.out.alloc HB2.out.size _).alloc (by have := HB2.out.size; simp; omega) _ | exact HB2.out.alloc HB2.out.size _⟩
  case round =>
    obtain ⟨m, hm, rfl, hbr⟩ := hrel
    have HBR : Hid _ := hbr
    by_cases hml : m < alen
    · obtain ⟨bl, off, rfl, t⟩ := KA.out _ hbr m hml
      have s0 := t m hml
      obtain ⟨x, ex⟩ : ∃ x, x = az m := ⟨_, rfl⟩
      rw [← ex] at s0
      have hx := WD.out m hml
      rw [← ex] at hx
      obtain ⟨hx0, hx1⟩ := hx
      have hmI : (m : Int) < alen := by omega
      have d : decide (0 ≤ x ∧ x ≤ 65535) = true := decide_eq_true ⟨hx0, hx1⟩
      clear ex t hbr
      go_wp2_with (go_at_call 21; refine (is _ _).mono ?_; rintro e w' ⟨rfl, rfl⟩)
      go_roundw
      case rel => exact ⟨m + 1, by omega, by go_num, HBR.out⟩
      case measure => simp [intOf]; omega
    · obtain rfl : m = alen := by omega
      clear hbr
      go_wp2
      go_ret
      exact ⟨rfl, HBR.out⟩

/-- a run that begins, with its looks -/
theorem begins {w wr : World} {R D : Nat} {ao : Option Addr} {len cap : Nat} {fuel : Int} {data : List Int} {P : Nat → PartD} {own : Nat → Tag} {lS : Value} {bs : List (Nat × Nat)} (h : Rel w R D ao len cap fuel data P own lS bs wr) (hbs : bs.length = len) (hlen : 0 < len) (_hD : w.heap.size ≤ D) (hRD : R ≠ D) :
    ∃ gL capL own', lS = .slice (some ⟨gL, 0, none⟩) len capL ∧ Inv own' wr wr R D (.slice ao len cap) (.slice (some ⟨gL, 0, none⟩) len capL) (.slice none 0 0) (.slice none 0 0) (.slice none 0 0) fuel [] [] data [] [] ∧ Go.Proofs.YtmbbkabecipkaacDoor.Look.Looks wr R D gL len data.length P := by
  obtain ⟨gL, capL, rfl, tL, _⟩ := h.looks.form (by omega)
  rw [hbs] at h ⊢
  obtain ⟨own', eo⟩ : ∃ o : Nat → Tag, o = fun k => if k = R then (1, 0) else if k = D then (2, 0) else (0, 0) := ⟨_, rfl⟩
  refine ⟨gL, capL, own', rfl, ⟨⟨rfl, rfl, rfl, Nat.le_refl _, fun b _ hR hD => ⟨by rw [eo]; simp [hR, hD], rfl⟩⟩, ⟨h.run.heap, by rw [eo]; simp⟩, ⟨h.dat.row, fun g hg => by simp [Value.ownBlock] at hg; rw [eo, ← hg]; simp [Ne.symm hRD]⟩, Owned.nil _ _ _ _ _, Owned.nil _ _ _ _ _, Owned.nil _ _ _ _ _, rfl, fun k r v hk => by simp at hk⟩, ?_⟩
  have nR := h.run.tag
  have nD := h.dat.tag D rfl
  intro k hk
  obtain ⟨b0, b1, hb⟩ : ∃ b0 b1, bs[k]? = some (b0, b1) := ⟨bs[k].1, bs[k].2, by rw [List.getElem?_eq_getElem (by omega)]⟩
  obtain ⟨hb0, hb1⟩ := h.boxes k b0 b1 hb
  have hl := h.looks
  rw [hbs] at hl
  refine ⟨b0, b1, hl.cell k (by simp [hb, clo]), hb0.cell 2 rfl, hb0.cell 3 rfl, hb1.cell 0 rfl, ⟨fun e => ?_, fun e => ?_⟩, ⟨fun e => ?_, fun e => ?_⟩, ⟨fun e => ?_, fun e => ?_⟩⟩
  · rw [e, nR] at tL; cases tL
  · rw [e, nD] at tL; cases tL
  · have := hb0.tag; rw [e, nR] at this; cases this
  · have := hb0.tag; rw [e, nD] at this; cases this
  · have := hb1.tag; rw [e, nR] at this; cases this
  · have := hb1.tag; rw [e, nD] at this; cases this

theorem sure {w w1 : World} {R D : Nat} {ao : Option Addr} {gL len : Nat} {P : Nat → PartD} {z : Nat → Int} {dlen : Nat} (hin : Parts w ao len P) (hb : Below w.heap.size w w1) (hR : w.heap.size ≤ R) (hD : w.heap.size ≤ D) (er : dataFault P len z dlen = 0) (hL : Go.Proofs.YtmbbkabecipkaacDoor.Look.Looks w1 R D gL len dlen P) : Sure w1 R D ao gL len dlen P := by
  have hi := imageFault_zero (dataFault_zero er).1
  have hp := fun k hk => part_sure (first_zero hi.2 k hk)
  refine ⟨?_, hL, hi.1, fun k hk => (hp k hk).2.1, fun k hk => (hp k hk).1, fun k hk j hj => first_zero (hp k hk).2.2.1 j hj, fun k hk => ⟨(inside er hk).1, (inside er hk).2.1⟩, fun k hk j hj => entry_sure (first_zero (hp k hk).2.2.2 j hj)⟩
  intro w' h
  have hc : ∀ a : Addr, ∀ v, w.cell? a = some v → w'.cell? a = some v := by
    intro a v hv
    have hlt := World.block_lt_of_cell? w a hv
    exact (World.cell?_of_block (w := w) ((h a.block (Nat.lt_of_lt_of_le hlt hb.size) (by omega) (by omega)).trans (hb.block a.block hlt))).trans hv
  intro k hk
  obtain ⟨⟨bl, off, e, t0, t1, t2, t3⟩, hI, hE⟩ := hin k hk
  refine ⟨⟨bl, off, e, hc _ _ t0, hc _ _ t1, hc _ _ t2, hc _ _ t3⟩, fun j hj => ?_, fun j hj => ?_⟩
  · obtain ⟨bl, off, e, t0, t1, t2, t3⟩ := hI j hj
    exact ⟨bl, off, e, hc _ _ t0, hc _ _ t1, hc _ _ t2, hc _ _ t3⟩
  · obtain ⟨bl, off, e, t0, t1⟩ := hE j hj
    exact ⟨bl, off, e, hc _ _ t0, hc _ _ t1⟩
end Go.Proofs.YtmbbkabecipkaacDoor.MCheck

namespace Go.Proofs.YtmbbkabecipkaacDoor.MRun
open Go.RowKit Tab Go.Proofs.YtmbbkabecipkaacDoor.Check Lists Go.Proofs.YtmbbkabecipkaacDoor.Read Img Mach Own Go.Proofs.YtmbbkabecipkaacDoor.Inv Go.Proofs.YtmbbkabecipkaacDoor.Frame Take Go.Proofs.YtmbbkabecipkaacDoor.Went Go.Proofs.YtmbbkabecipkaacDoor.Entry ActE ActQ StepQ Go.Proofs.YtmbbkabecipkaacDoor.Start MCheck

/-- what came out, as it lies there -/
structure Out (B : Nat) (w' : World) (vT vD vC : Value) (s : St) : Prop where
  told : w'.ownsRow B 3 1 vT s.told.length (ints s.told)
  data : w'.ownsRow B 3 1 vD s.data.length (ints s.data)
  calls : ∃ C : List (Rec × Value), C.map Prod.fst = s.calls ∧ w'.ownsRow B 76 7 vC C.length (flatC C) ∧ ∀ (k : Nat) (r : Rec) (v : Value), C[k]? = some (r, v) → w'.ownsRow B 3 1 v r.args.length (ints r.args)

/-- how much there is to do -/
def left (R : Nat) (e : Value) (w : World) : Nat := if intOf e = 0 then (intOf ((w.cell? ⟨R, 3, none⟩).getD undef)).toNat + 2 else 1

/-- how it stands between two rounds of Run's loop -/
structure Stands (w3 : World) (R D : Nat) (pS lS : Value) (P : Nat → PartD) (len dlen : Nat) (r : Int × Int × St) (e : Value) (wr : World) : Prop where
  out : (∃ (n : Nat) (s : St) (own : Nat → Tag) (vF vT vC : Value) (F : List (Fr × Value)) (C : List (Rec × Value)), n ≤ 100000 ∧ Inv own w3 wr R D pS lS vF vT vC n F [] s.data s.told C ∧ F.map Prod.fst = s.rooms ∧ C.map Prod.fst = s.calls ∧ Fit len s ∧ s.data.length = dlen ∧ run wdoT P len n s = r ∧ e = .int .i64 0) ∨
    (∃ (own : Nat → Tag) (vT vC : Value) (C : List (Rec × Value)), Fin own w3 wr R D pS lS vT vC r.2.1 r.2.2.data r.2.2.told C ∧ C.map Prod.fst = r.2.2.calls ∧ r.1 ≠ 0 ∧ (-10 ≤ r.1 ∧ r.1 ≤ 10) ∧ e = .int .i64 r.1)

theorem Stands.goes {w3 : World} {R D : Nat} {pS lS : Value} {P : Nat → PartD} {len dlen : Nat} {r : Int × Int × St} {wr : World} {n : Nat} {s : St} {own : Nat → Tag} {vF vT vC : Value} {F : List (Fr × Value)} {C : List (Rec × Value)} (hn : n ≤ 100000) (h : Inv own w3 wr R D pS lS vF vT vC n F [] s.data s.told C) (h1 : F.map Prod.fst = s.rooms) (h2 : C.map Prod.fst = s.calls) (hf : Fit len s) (hd : s.data.length = dlen) (hr : run wdoT P len n s = r) : Stands w3 R D pS lS P len dlen r (.int .i64 0) wr :=
  ⟨.inl ⟨n, s, own, vF, vT, vC, F, C, hn, h, h1, h2, hf, hd, hr, rfl⟩⟩

theorem Stands.stops {w3 : World} {R D : Nat} {pS lS : Value} {P : Nat → PartD} {len dlen : Nat} {r : Int × Int × St} {wr : World} {own : Nat → Tag} {vT vC : Value} {C : List (Rec × Value)} (h : Fin own w3 wr R D pS lS vT vC r.2.1 r.2.2.data r.2.2.told C) (h2 : C.map Prod.fst = r.2.2.calls) (hn : r.1 ≠ 0) (h8 : -10 ≤ r.1 ∧ r.1 ≤ 10) : Stands w3 R D pS lS P len dlen r (.int .i64 r.1) wr :=
  ⟨.inr ⟨own, vT, vC, C, h, h2, hn, h8, rfl⟩⟩

theorem act_data {wdo : Int → Int → Int → Int} {P : Nat → PartD} {len : Nat} {s : St} {f : Fr} {rest : List Fr} {op a b c : Int} {l : List Int} : (∀ s', act wdo P len s f rest op a b c l = .inr s' → s'.data.length = s.data.length) ∧ ∀ r, act wdo P len s f rest op a b c l = .inl r → r.1 ≠ 0 ∧ (-10 ≤ r.1 ∧ r.1 ≤ 10) := by
  have hp : ∀ (s1 : St) (f : Fr) (rest : List Fr) (back : List Int), s1.data.length = s.data.length → (∀ s', puts s1 f rest back = .inr s' → s'.data.length = s.data.length) ∧ ∀ r, puts s1 f rest back = .inl r → r.1 ≠ 0 ∧ (-10 ≤ r.1 ∧ r.1 ≤ 10) := by
    intro s1 f rest back hs
    unfold puts
    by_cases h : f.words.length + back.length ≤ 40
    · rw [if_pos h]
      exact ⟨fun s' e => (by injection e with e; subst e; exact hs), fun r e => (by cases e)⟩
    · rw [if_neg h]
      exact ⟨fun s' e => (by cases e), fun r e => (by injection e with e; subst e; simp)⟩
  have he : ∀ (s1 : St) (f : Fr) (rest : List Fr) (g : Fr), s1.data.length = s.data.length → (∀ s', enter s1 f rest g = .inr s' → s'.data.length = s.data.length) ∧ ∀ r, enter s1 f rest g = .inl r → r.1 ≠ 0 ∧ (-10 ≤ r.1 ∧ r.1 ≤ 10) := by
    intro s1 f rest g hs
    unfold enter
    by_cases h : rest.length + 1 < 20
    · rw [if_pos h]
      exact ⟨fun s' e => (by injection e with e; subst e; exact hs), fun r e => (by cases e)⟩
    · rw [if_neg h]
      exact ⟨fun s' e => (by cases e), fun r e => (by injection e with e; subst e; simp)⟩
  have hx : ∀ (n v : Int) (s1 : St), n ≠ 0 ∧ (-10 ≤ n ∧ n ≤ 10) → (∀ s', ends n v s1 = .inr s' → s'.data.length = s.data.length) ∧ ∀ r, ends n v s1 = .inl r → r.1 ≠ 0 ∧ (-10 ≤ r.1 ∧ r.1 ≤ 10) := by
    intro n v s1 hn
    exact ⟨fun s' e => (by cases e), fun r e => (by injection e with e; subst e; exact hn)⟩
  unfold act
  by_cases e1 : op = 1
  · rw [if_pos e1]
    exact hp _ _ _ _ rfl
  rw [if_neg e1]
  by_cases e2 : op = 2
  · rw [if_pos e2]
    exact hp _ _ _ _ rfl
  rw [if_neg e2]
  by_cases e3 : op = 3
  · rw [if_pos e3]
    exact hp _ _ _ _ rfl
  rw [if_neg e3]
  by_cases e4 : op = 4
  · rw [if_pos e4]
    exact hp _ _ _ _ rfl
  rw [if_neg e4]
  by_cases e5 : op = 5
  · rw [if_pos e5]
    exact hp _ _ _ _ rfl
  rw [if_neg e5]
  by_cases e6 : op = 6
  · rw [if_pos e6]
    by_cases c1 : (P f.part).lo ≤ l.getD 0 0 ∧ l.getD 0 0 < (P f.part).hi
    · rw [if_pos c1]
      exact hp _ _ _ _ rfl
    · rw [if_neg c1]
      exact hx _ _ _ (by decide)
  rw [if_neg e6]
  by_cases e7 : op = 7
  · rw [if_pos e7]
    by_cases c1 : (P f.part).lo ≤ l.getD 0 0 ∧ l.getD 0 0 < (P f.part).hi
    · rw [if_pos c1]
      exact hp _ _ _ _ (by simp)
    · rw [if_neg c1]
      exact hx _ _ _ (by decide)
  rw [if_neg e7]
  by_cases e8 : op = 8
  · rw [if_pos e8]
    exact hp _ _ _ _ rfl
  rw [if_neg e8]
  by_cases e9 : op = 9
  · rw [if_pos e9]
    exact hp _ _ _ _ rfl
  rw [if_neg e9]
  by_cases e10 : op = 10
  · rw [if_pos e10]
    exact hp _ _ _ _ rfl
  rw [if_neg e10]
  by_cases e11 : op = 11
  · rw [if_pos e11]
    exact he _ _ _ _ rfl
  rw [if_neg e11]
  by_cases e12 : op = 12
  · rw [if_pos e12]
    by_cases c1 : a < len ∧ b < (P a.toNat).el ∧ (P a.toNat).prs b.toNat = c
    · rw [if_pos c1]
      by_cases c2 : s.calls.length < 100
      · rw [if_pos c2]
        exact he _ _ _ _ rfl
      · rw [if_neg c2]
        exact he _ _ _ _ rfl
    · rw [if_neg c1]
      exact hx _ _ _ (by decide)
  rw [if_neg e12]
  by_cases e13 : op = 13
  · rw [if_pos e13]
    cases hno : f.noted with
    | none =>
      cases rest with
      | nil => exact hx _ _ _ (by decide)
      | cons g rest => exact hp _ _ _ _ rfl
    | some q =>
      cases rest with
      | nil => exact hx _ _ _ (by decide)
      | cons g rest => exact hp _ _ _ _ rfl
  rw [if_neg e13]
  by_cases e14 : op = 14
  · rw [if_pos e14]
    by_cases c1 : s.told.length < 500
    · rw [if_pos c1]
      exact hp _ _ _ _ rfl
    · rw [if_neg c1]
      exact hx _ _ _ (by decide)
  rw [if_neg e14]
  exact hx _ _ _ (by decide)

theorem step_data {wdo : Int → Int → Int → Int} {P : Nat → PartD} {len : Nat} {s : St} : (∀ s', Mach.step wdo P len s = .inr s' → s'.data.length = s.data.length) ∧ ∀ r, Mach.step wdo P len s = .inl r → r.1 ≠ 0 ∧ (-10 ≤ r.1 ∧ r.1 ≤ 10) := by
  obtain ⟨rooms, data, told, calls⟩ := s
  cases rooms with
  | nil => exact ⟨fun s' e => (by cases e), fun r e => (by injection e with e; subst e; simp)⟩
  | cons f rest =>
    simp only [Mach.step]
    by_cases h1 : f.pc < (P f.part).cl
    · rw [if_pos h1]
      by_cases h2 : needs ((P f.part).o f.pc) ((P f.part).b f.pc) ((P f.part).c f.pc) ≤ f.words.length
      · rw [if_pos h2]
        exact act_data
      · rw [if_neg h2]
        exact ⟨fun s' e => (by cases e), fun r e => (by injection e with e; subst e; simp)⟩
    · rw [if_neg h1]
      exact ⟨fun s' e => (by cases e), fun r e => (by injection e with e; subst e; simp)⟩

/-- a round of Run's loop -/
theorem round {w3 wr : World} {R D : Nat} {ao : Option Addr} {len capP gL capL : Nat} {P : Nat → PartD} {dlen : Nat} {r : Int × Int × St} (h : Stands w3 R D (.slice ao len capP) (.slice (some ⟨gL, 0, none⟩) len capL) P len dlen r (.int .i64 0) wr) (hS : Sure w3 R D ao gL len dlen P) (hq : Quiet P len) :
    Calls Tryd.prog 25 #[.pointer (some ⟨R, 0, none⟩)] wr fun e w' => ∃ v, e = .returned v ∧ Stands w3 R D (.slice ao len capP) (.slice (some ⟨gL, 0, none⟩) len capL) P len dlen r v w' ∧ left R v w' < left R (.int .i64 0) wr := by
  have hout := h.out
  clear h
  rcases hout with ⟨n, s, own, vF, vT, vC, F, C, hn, h, h1, h2, hf, hd, hr, _⟩ | ⟨_, _, _, _, _, _, hn, _, e0⟩
  rotate_left
  · injection e0 with _ e0
    exact absurd e0.symm hn
  · skip
    obtain ⟨rooms, data, told, calls⟩ := s
    try dsimp only at h h1 h2 hd
    subst h1 h2 hd
    have c3 : wr.cell? ⟨R, 3, none⟩ = some (.int .i64 n) := h.run.cell 3 rfl
    have hl0 : left R (.int .i64 0) wr = n + 2 := by simp [left, c3, intOf]
    rw [hl0]
    cases n with
    | zero =>
      refine (Step.spent (by simpa using h)).mono ?_
      rintro e w' ⟨rfl, rfl⟩
      subst hr
      refine ⟨_, rfl, .stops (r := (3, 0, _)) h.fin rfl (by simp) (by simp), ?_⟩
      simp [left, intOf]
    | succ n =>
      refine (stepped n (by omega) (by simpa using h) hS hq hf).mono ?_
      intro e w' hwent
      generalize eo : Mach.step wdoT P len ⟨F.map Prod.fst, data, told, C.map Prod.fst⟩ = o at hwent
      rcases hwent.out with ⟨s', own', vF', vT', vC', F', C', h', g1, g2, rfl, rfl⟩ | ⟨n', val, s', own', vT', vC', C', h', g2, rfl, rfl⟩
      ·
        have c3' : w'.cell? ⟨R, 3, none⟩ = some (.int .i64 n) := h'.run.cell 3 rfl
        exact ⟨_, rfl, .goes (by omega) h' g1 g2 (step_fit eo hf hS.code) (step_data.1 _ eo) (by rw [← hr, run_next eo]), by simp [left, c3', intOf]⟩
      ·
        have hb := step_data.2 _ eo
        have hr' : r = (n', val, s') := by rw [← hr, run_ends eo]
        subst hr'
        refine ⟨_, rfl, .stops (r := (n', val, s')) h' g2 hb.1 hb.2, ?_⟩
        have : n' ≠ 0 := hb.1
        simp [left, intOf, this]

theorem src_of {w W : World} {aa : Option Addr} {l : List Int} (h : Ints w aa l.length (fun i => l.getD i 0)) (hb : Below w.heap.size w W) : 0 < l.length → ∃ ad, aa = some ad ∧ ∀ w', Below W.heap.size W w' → ∀ j u, (ints l)[j]? = some u → w'.cell? (ad.add j) = some u := by
  intro hp
  obtain ⟨bl, off, e, hc⟩ := h 0 hp
  refine ⟨_, e, fun w' hb' j u hj => ?_⟩
  have hlt := (List.getElem?_eq_some_iff.1 hj).1
  rw [ints_length] at hlt
  have h1 := hc j hlt
  have hbl := World.block_lt_of_cell? w _ h1
  rw [show (⟨bl, off, none⟩ : Addr).add j = ⟨bl, off + j, none⟩ by unfold Addr.add; split <;> simp_all]
  refine (hb'.cell (p := ⟨bl, off + j, none⟩) (Nat.lt_of_lt_of_le hbl hb.size)).trans ((hb.cell (p := ⟨bl, off + j, none⟩) hbl).trans (h1.trans ?_))
  dsimp only
  rw [← hj, ints, List.getElem?_map, List.getElem?_eq_getElem hlt, List.getD_eq_getElem?_getD, List.getElem?_eq_getElem hlt]
  rfl

theorem boxes2 {w w2 : World} {v : Value} {cs : Array Value} {t t' : TypeId} (hb : Below ((w.alloc (.cells #[v] t)).alloc (.cells cs t')).heap.size ((w.alloc (.cells #[v] t)).alloc (.cells cs t')) w2) :
    w2.cell? ⟨w.heap.size, 0, none⟩ = some v ∧ w2.heap[w.heap.size + 1]? = some (.cells cs t' (0, 0)) := by
  refine ⟨(hb.cell (show (⟨w.heap.size, 0, none⟩ : Addr).block < _ by simp; omega)).trans ((World.cell?_alloc_past _ _ _ (by simp)).trans (by simp)), ?_⟩
  rw [hb.block _ (by simp)]
  have := heap_alloc_new (w.alloc (.cells #[v] t)) (.cells cs t')
  simpa using this

theorem stands_ways {w3 wr : World} {R D : Nat} {pS lS : Value} {P : Nat → PartD} {len dlen : Nat} {r : Int × Int × St} {v : Value} (h : Stands w3 R D pS lS P len dlen r v wr) : (v = .int .i64 0 ∧ Stands w3 R D pS lS P len dlen r (.int .i64 0) wr) ∨
    (v = .int .i64 r.1 ∧ r.1 ≠ 0 ∧ (-10 ≤ r.1 ∧ r.1 ≤ 10) ∧ ∃ own vT vC C, Fin own w3 wr R D pS lS vT vC r.2.1 r.2.2.data r.2.2.told C ∧ C.map Prod.fst = r.2.2.calls) := by
  rcases h.out with ⟨n, s, own, vF, vT, vC, F, C, hn, h, h1, h2, hf, hd, hr, he⟩ | ⟨own, vT, vC, C, h, h2, hn, h8, he⟩
  · exact .inl ⟨he, .goes hn h h1 h2 hf hd hr⟩
  · exact .inr ⟨he, hn, h8, own, vT, vC, C, h, h2⟩

/-- what a run gives, in memory -/
def Gave (w : World) (r : Int × Int × St) (e : Ending) (w' : World) : Prop := Below w.heap.size w w' ∧ ∃ vT vD vC, e = .returned (.tuple #[.agg #[.int .i64 r.1, .int .i64 r.2.1, vT, vD, vC], .int .i64 0]) ∧ Out w.heap.size w' vT vD vC r.2.2

theorem gave {w w2 w3 wr : World} {pS lS : Value} {own : Nat → Tag} {aT aC : Option Addr} {cT cC : Nat} {r : Int × Int × St} {C : List (Rec × Value)} (hA3 : Below w.heap.size w w3) (hB : Below w2.heap.size w2 w3)
    (h : Fin own w3 wr (w2.heap.size + 1) (w2.heap.size + 1 + 1) pS lS (.slice aT r.2.2.told.length cT) (.slice aC C.length cC) r.2.1 r.2.2.data r.2.2.told C) (hC : C.map Prod.fst = r.2.2.calls) (hlt : w.heap.size + 1 < w2.heap.size) (u0 u1 u2 u3 u4 u5 : Value) :
    Gave w r (.returned (.tuple #[.agg #[.int .i64 r.1, .int .i64 r.2.1, .slice aT r.2.2.told.length cT, .slice (some ⟨w2.heap.size + 1 + 1, 0, none⟩) r.2.2.data.length r.2.2.data.length, .slice aC C.length cC], .int .i64 0]))
      ((((((wr.setCell ⟨w2.heap.size + 1, 4, none⟩ u0).setCell ⟨w.heap.size + 1, 0, none⟩ u1).setCell ⟨w.heap.size + 1, 1, none⟩ u2).setCell ⟨w.heap.size + 1, 2, none⟩ u3).setCell ⟨w.heap.size + 1, 3, none⟩ u4).setCell ⟨w.heap.size + 1, 4, none⟩ u5) := by
  obtain ⟨fv, fu, hrun⟩ := h.run
  have htag := (h.base.kept (w.heap.size + 1) (Nat.lt_of_lt_of_le hlt hB.size) (by omega) (by omega)).1
  have m1 := Moves.setCell own wr (w2.heap.size + 1) 4 u0 hrun.tag
  have m2 := ((((Moves.setCell own (wr.setCell ⟨w2.heap.size + 1, 4, none⟩ u0) (w.heap.size + 1) 0 u1 htag).trans (Moves.setCell own _ (w.heap.size + 1) 1 u2 htag)).trans (Moves.setCell own _ (w.heap.size + 1) 2 u3 htag)).trans (Moves.setCell own _ (w.heap.size + 1) 3 u4 htag)).trans (Moves.setCell own _ (w.heap.size + 1) 4 u5 htag)
  have hbw : Below w.heap.size w wr := by
    refine hA3.trans ⟨h.base.os, h.base.tape, h.base.output, h.base.size, fun k hk => (h.base.kept k ?_ ?_ ?_).2⟩
    · exact Nat.lt_of_lt_of_le hk hA3.size
    · omega
    · omega
  have low : ∀ {W : World} {e : TypeId} {size n : Nat} {v : Value} {xs : List Value} {t : Tag}, Owned own W e size v n xs t → t ≠ (0, 0) → W.ownsRow w.heap.size e size v n xs := by
    intro W e size n v xs t ho ht
    refine ⟨ho.row.1, ?_⟩
    rcases ho.row.2 with h0 | ⟨g, cap, cur, hv, _, rest⟩
    · exact .inl h0
    · refine .inr ⟨g, cap, cur, hv, ?_, rest⟩
      by_cases hg : w.heap.size ≤ g
      · exact hg
      · have h1 := (h.base.kept g (Nat.lt_of_lt_of_le (by omega) hA3.size) (by omega) (by omega)).1
        have h2 := ho.tag g (by rw [hv]; rfl)
        rw [h1] at h2
        exact absurd h2.symm ht
  refine ⟨((((((hbw.setCell (p := ⟨w2.heap.size + 1, 4, none⟩) (by simp; omega) _).setCell (p := ⟨w.heap.size + 1, 0, none⟩) (by simp) _).setCell (p := ⟨w.heap.size + 1, 1, none⟩) (by simp) _).setCell (p := ⟨w.heap.size + 1, 2, none⟩) (by simp) _).setCell (p := ⟨w.heap.size + 1, 3, none⟩) (by simp) _).setCell (p := ⟨w.heap.size + 1, 4, none⟩) (by simp) _), _, _, _, rfl, ?_, ?_, C, hC, ?_, ?_⟩
  · exact low ((h.told.moves m1 (by decide)).moves m2 (by decide)) (by decide)
  · exact low ((h.dat.moves m1 (by decide)).moves m2 (by decide)) (by decide)
  · exact low ((h.calls.moves m1 (by decide)).moves m2 (by decide)) (by decide)
  · intro k r v hk
    exact low (((h.notes k r v hk).moves m1 (by simp)).moves m2 (by simp)) (by simp)

set_option maxRecDepth 100000 in
set_option maxHeartbeats 2000000 in
theorem mrun (ao : Option Addr) (len cap : Nat) (hlen : len ≤ maxLen) (P : Nat → PartD) (da : Option Addr) (data : List Int) (dcap : Nat) (aa : Option Addr) (args : List Int) (acap : Nat) (k j fuel pc : Nat) (w : World) (hl : Lies w) (hin : Parts w ao len P) (hd : Ints w da data.length (fun i => data.getD i 0)) (ha : Ints w aa args.length (fun i => args.getD i 0))
    (er : dataFault P len (fun i => data.getD i 0) data.length = 0) (hk : k < len) (hj : j < (P k).el) (hn : (args.length : Int) = (P k).prs j) (hf : fuel ≤ 100000) (hw : first (fun i => wordFault (args.getD i 0)) args.length = 0) (hpc : (P k).ats j = pc) (hq : Quiet P len) :
    Calls Tryd.prog 14 #[.agg #[.slice ao len cap], .slice da data.length dcap, .int .i64 k, .int .i64 j, .slice aa args.length acap, .int .i64 fuel] w (Gave w (run wdoT P len fuel ⟨[⟨k, pc, pad args, [], none⟩], data, [], []⟩)) := by
  have h5 := (imageFault_zero (dataFault_zero er).1).1
  have hp := part_sure (first_zero (imageFault_zero (dataFault_zero er).1).2 k hk)
  have hen := entry_sure (first_zero hp.2.2.2 j hj)
  have hal : args.length ≤ 4 := by omega
  have hdl : data.length ≤ 250 := (inside er hk).2.2
  have hb0 := below2 w (.cells #[.slice ao len cap] 24) (.cells #[.int .i64 0, .int .i64 0, .slice none 0 0, .slice none 0 0, .slice none 0 0] 41)
  have k22 : ∀ W, Below w.heap.size w W → _ := fun W hb => check_ok ao len cap hlen P da data.length dcap (fun i => data.getD i 0) aa args.length acap (fun i => args.getD i 0) k j fuel W (Lies_below hl hb) (Parts_below hin hb) (Ints_below hd hb) (Ints_below ha hb) er hk hj hn (by omega) (by omega) hw
  have k23 : ∀ W, Below w.heap.size w W → _ := fun W hb => Start.start ao len cap h5 P data hdl da dcap (fuel : Int) W (Parts_below hin hb) (src_of hd hb)
  have kbeg : ∀ w2 w3 own lS bs, Below w.heap.size w w2 → bs.length = len → Rel w2 (w2.heap.size + 1) (w2.heap.size + 1 + 1) ao len cap fuel data P own lS bs w3 → _ := fun w2 w3 own lS bs hA hbs hrel => begins hrel hbs (by omega) (by omega) (by omega)
  have ksure : ∀ w2 w3 gL, Below w.heap.size w w2 → Below w2.heap.size w2 w3 → Go.Proofs.YtmbbkabecipkaacDoor.Look.Looks w3 (w2.heap.size + 1) (w2.heap.size + 1 + 1) gL len data.length P → Sure w3 (w2.heap.size + 1) (w2.heap.size + 1 + 1) ao gL len data.length P := fun w2 w3 gL hA hB hL => sure hin (hA.trans (hB.mono hA.size)) (by have := hA.size; omega) (by have := hA.size; omega) er hL
  have k24 : ∀ own w1 W R D pS lS fuel data, Inv own w1 W R D pS lS (.slice none 0 0) (.slice none 0 0) (.slice none 0 0) fuel [] [] data [] [] → Below w.heap.size w W → _ := fun own w1 W R D pS lS fuel data h hb => Enter.enter h args hal k pc none aa acap (by simp) (src_of ha hb)
  obtain ⟨⟨bl, off, rfl, _, t1, _, _⟩, _, hE⟩ := hin k hk
  obtain ⟨bl2, off2, e2, t2, _⟩ := hE j hj
  rw [e2] at t1
  rw [hpc] at t2
  have hbl := World.block_lt_of_cell? w _ t1
  have hbl2 := World.block_lt_of_cell? w _ t2
  have u1 : ∀ W, Below w.heap.size w W → W.cell? ⟨bl, off + k * 4 + 1, none⟩ = some (.slice (some ⟨bl2, off2, none⟩) (P k).el (P k).ec) := fun W hb => (hb.cell (p := ⟨bl, off + k * 4 + 1, none⟩) hbl).trans t1
  have u2 : ∀ W, Below w.heap.size w W → W.cell? ⟨bl2, off2 + j * 2, none⟩ = some (.int .i64 pc) := fun W hb => (hb.cell (p := ⟨bl2, off2 + j * 2, none⟩) hbl2).trans t2
  have hkI : (k : Int) < len := by omega
  have hlI : (len : Int) ≤ 5 := by omega
  have hjI : (j : Int) < (P k).el := by omega
  have heI : ((P k).el : Int) ≤ 8 := by omega
  have hfit0 : Fit len ⟨[⟨k, pc, pad args, [], none⟩], data, [], []⟩ := ⟨by simp, by simp, fun f hf => by simp at hf; subst hf; exact ⟨hk, by simp, fun q e => by cases e⟩, by simp, by simp⟩
  obtain ⟨el, eel⟩ : ∃ x, x = (P k).el := ⟨_, rfl⟩
  obtain ⟨ec, eec⟩ : ∃ x, x = (P k).ec := ⟨_, rfl⟩
  rw [← eel, ← eec] at u1
  rw [← eel] at hjI heI
  obtain ⟨r, er'⟩ : ∃ r, r = run wdoT P len fuel ⟨[⟨k, pc, pad args, [], none⟩], data, [], []⟩ := ⟨_, rfl⟩
  rw [← er']
  obtain ⟨nd, hnd⟩ : ∃ n, n = data.length := ⟨_, rfl⟩
  obtain ⟨na, hna⟩ : ∃ n, n = args.length := ⟨_, rfl⟩
  rw [← hnd] at k22 k23 ksure ⊢
  rw [← hna] at k22 k24 ⊢
  have K22 : Hid _ := k22
  have K23 : Hid _ := k23
  have K24 : Hid _ := k24
  have KBEG : Hid _ := kbeg
  have KSURE : Hid _ := ksure
  have U1 : Hid _ := u1
  have U2 : Hid _ := u2
  have FIT0 : Hid _ := hfit0
  have ER : Hid _ := er'
  have HND : Hid _ := hnd
  have HQ : Hid _ := hq
  have HF : Hid _ := hf
  have HB0 : Hid _ := hb0
  clear k22 k23 k24 kbeg ksure u1 u2 hfit0 er' hnd hna hq hb0 hl hd ha er hk hj hn hw hpc h5 hp hen hal hdl t1 t2 hbl hbl2 e2 hE eel eec hlen
  go_enter Tryd.func14, Tryd.ntmps14
  go_wp2_with (first
    | (go_at_call 22; refine (K22.out _ HB0.out).mono ?_; rintro e w2 ⟨rfl, hb2⟩; obtain ⟨qm, qo⟩ := boxes2 hb2; have hA := HB0.out.trans (hb2.mono HB0.out.size); have HA : Hid _ := hA; have QO : Hid _ := qo; clear hb2 hA qo)
    | (go_at_call 23; refine (K23.out _ HA.out).mono ?_; rintro e w3 ⟨rfl, own, lS, bs, hbs, hrel⟩; obtain ⟨gL, capL, own', rfl, hI, hL⟩ := KBEG.out _ _ _ _ _ HA.out hbs hrel; have hB := hrel.below; have hA3 := HA.out.trans (hB.mono HA.out.size); have c1 := U1.out _ hA3; have c2 := U2.out _ hA3; have qm3 := (hB.cell (p := ⟨w.heap.size, 0, none⟩) (World.block_lt_of_cell? _ _ qm)).trans qm; have hS := KSURE.out _ _ _ HA.out hB (by rw [HND.out]; exact hL); have HS : Hid _ := hS; have HI : Hid _ := hI; have HB : Hid _ := hB; have HA3 : Hid _ := hA3; clear hS hI hB hA3 hrel hbs hL qm)
    | (go_at_call 24; refine (K24.out _ _ _ _ _ _ _ _ _ HI.out HA3.out).mono ?_; rintro e w4 ⟨rfl, own4, v4, hI4⟩; have HI4 : Hid _ := hI4; clear hI4))
  have k25 : ∀ W, Stands w3 (w2.heap.size + 1) (w2.heap.size + 1 + 1) (.slice (some ⟨bl, off, none⟩) len cap) (.slice (some ⟨gL, 0, none⟩) len capL) P len nd r (.int .i64 0) W → _ := fun W h => round h HS.out HQ.out
  have K25 : Hid _ := k25
  clear k25 c1 c2 qm3
  go_loopw [16] (fun e wr => Stands w3 (w2.heap.size + 1) (w2.heap.size + 1 + 1) (.slice (some ⟨bl, off, none⟩) len cap) (.slice (some ⟨gL, 0, none⟩) len capL) P len nd r e wr) (fun e wr => left (w2.heap.size + 1) e wr)
  case atStart => exact .goes (n := fuel) (s := ⟨[⟨k, pc, pad args, [], none⟩], data, [], []⟩) HF.out HI4.out rfl rfl FIT0.out HND.out.symm ER.out.symm
  case round =>
    rcases stands_ways hrel with ⟨rfl, hst⟩ | ⟨rfl, hn0, hb8, own5, vT, vC, C, hfin, hC⟩
    · have HST : Hid _ := hst
      clear hst hrel
      go_wp2_with (go_at_call 25; refine (K25.out _ HST.out).mono ?_; rintro e w' ⟨v, rfl, hst', hlt⟩; have HST' : Hid _ := hst'; have HLT : Hid _ := hlt; clear hst' hlt)
      go_roundw
      case rel => exact HST'.out
      case measure => exact HLT.out
    · obtain ⟨aT, cT, rfl⟩ := owned_form hfin.told
      obtain ⟨aC, cC, rfl⟩ := owned_form hfin.calls
      obtain ⟨fv, fu, hrun⟩ := hfin.run
      have x4 := hrun.cell 4 (v := .int .i64 0) rfl
      have x5 := hrun.cell 5 (v := .int .i64 r.2.1) rfl
      have x6 := hrun.cell 6 (v := .slice aT r.2.2.told.length cT) rfl
      have x7 := hrun.cell 7 (v := .slice (some ⟨w2.heap.size + 1 + 1, 0, none⟩) r.2.2.data.length r.2.2.data.length) rfl
      have x8 := hrun.cell 8 (v := .slice aC C.length cC) rfl
      have y4 := hrun.frozen 4
      have hA2 := HA.out.size
      have ho : wr.heap[w.heap.size + 1]? = some (.cells #[.int .i64 0, .int .i64 0, .slice none 0 0, .slice none 0 0, .slice none 0 0] 41 (0, 0)) := by
        have h1 : w.heap.size + 1 < w2.heap.size := (Array.getElem?_eq_some_iff.1 QO.out).1
        have h2 := (hfin.base.kept (w.heap.size + 1) (Nat.lt_of_lt_of_le h1 HB.out.size) (by omega) (by omega)).2
        rw [h2, HB.out.block _ h1]
        exact QO.out
      have o := fun i => cell_of_row wr (w.heap.size + 1) i _ 41 (0, 0) ho
      have o0 : wr.cell? ⟨w.heap.size + 1, 0, none⟩ = some (.int .i64 0) := o 0
      have o1 : wr.cell? ⟨w.heap.size + 1, 1, none⟩ = some (.int .i64 0) := o 1
      have o2 : wr.cell? ⟨w.heap.size + 1, 2, none⟩ = some (.slice none 0 0) := o 2
      have o3 : wr.cell? ⟨w.heap.size + 1, 3, none⟩ = some (.slice none 0 0) := o 3
      have o4 : wr.cell? ⟨w.heap.size + 1, 4, none⟩ = some (.slice none 0 0) := o 4
      have p0 := frozen_of_row wr (w.heap.size + 1) 0 _ 41 ho
      have p1 := frozen_of_row wr (w.heap.size + 1) 1 _ 41 ho
      have p2 := frozen_of_row wr (w.heap.size + 1) 2 _ 41 ho
      have p3 := frozen_of_row wr (w.heap.size + 1) 3 _ 41 ho
      have p4 := frozen_of_row wr (w.heap.size + 1) 4 _ 41 ho
      have hne1 : w.heap.size + 1 ≠ w2.heap.size + 1 := by have h1 : w.heap.size + 1 < w2.heap.size := (Array.getElem?_eq_some_iff.1 QO.out).1; omega
      have hne2 : w2.heap.size + 1 ≠ w.heap.size + 1 := Ne.symm hne1
      have hn1 : (r.1 == 0) = false := by simpa using hn0
      obtain ⟨n1, en1⟩ : ∃ n, n = r.1 := ⟨_, rfl⟩
      obtain ⟨v1, ev1⟩ : ∃ n, n = r.2.1 := ⟨_, rfl⟩
      obtain ⟨nT, enT⟩ : ∃ n, n = r.2.2.told.length := ⟨_, rfl⟩
      obtain ⟨nD, enD⟩ : ∃ n, n = r.2.2.data.length := ⟨_, rfl⟩
      obtain ⟨nC, enC⟩ : ∃ n, n = C.length := ⟨_, rfl⟩
      rw [← en1] at hn1 ⊢
      rw [← ev1] at x5
      rw [← enT] at x6
      rw [← enD] at x7
      rw [← enC] at x8
      have E1 : Hid _ := en1
      have E2 : Hid _ := ev1
      have E3 : Hid _ := enT
      have E4 : Hid _ := enD
      have E5 : Hid _ := enC
      have FIN : Hid _ := hfin
      have HCC : Hid _ := hC
      clear en1 ev1 enT enD enC hfin hC hrun ho o hrel hn0 hb8 hA2
      go_wp2
      refine bodyPost_ret (v := .tuple #[.agg #[.int .i64 n1, .int .i64 v1, .slice aT nT cT, .slice (some ⟨w2.heap.size + 1 + 1, 0, none⟩) nD nD, .slice aC nC cC], .int .i64 0]) (by simp [results, Tryd.results14, go_sem, *]) rfl ?_
      rw [E1.out, E2.out, E3.out, E4.out, E5.out]
      exact gave HA3.out HB.out FIN.out HCC.out (by have h1 : w.heap.size + 1 < w2.heap.size := (Array.getElem?_eq_some_iff.1 QO.out).1; omega) _ _ _ _ _ _
end Go.Proofs.YtmbbkabecipkaacDoor.MRun

namespace Go.Proofs.YtmbbkabecipkaacDoor.StepS
open Go.RowKit Tab Go.Proofs.YtmbbkabecipkaacDoor.Check Lists Img Mach Own Go.Proofs.YtmbbkabecipkaacDoor.Inv Go.Proofs.YtmbbkabecipkaacDoor.Frame Take Go.Proofs.YtmbbkabecipkaacDoor.Went ActE ActQ Step StepQ

/-- it stands at no Call, and at no Gate that goes through -/
def QuietAt (P : Nat → PartD) (len : Nat) (s : St) : Prop := ∀ f rest, s.rooms = f :: rest → f.part < len → f.pc < (P f.part).cl → needs ((P f.part).o f.pc) ((P f.part).b f.pc) ((P f.part).c f.pc) ≤ f.words.length → (P f.part).o f.pc ≠ 11 ∧ ((P f.part).o f.pc = 12 → ¬ ((P f.part).a f.pc < len ∧ (P f.part).b f.pc < (P ((P f.part).a f.pc).toNat).el ∧ (P ((P f.part).a f.pc).toNat).prs ((P f.part).b f.pc).toNat = (P f.part).c f.pc))

/-- it comes to none of these with so much fuel -/
def QuietFor (P : Nat → PartD) (len : Nat) : Nat → St → Prop
  | 0, _ => True
  | n + 1, s => QuietAt P len s ∧ ∀ s', Mach.step wdoT P len s = .inr s' → QuietFor P len n s'

theorem quietFor {P : Nat → PartD} {len : Nat} (h : Quiet P len) : ∀ n s, QuietFor P len n s := by
  intro n
  induction n with
  | zero => intro s; exact True.intro
  | succ n ih => intro s; exact ⟨fun f _ _ hp hc _ => h f.part hp f.pc hc, fun s' _ => ih s'⟩

section
variable {own : Nat → Tag} {w1 w : World} {R D : Nat} {vF vT vC : Value} {F : List (Fr × Value)} {data told : List Int} {C : List (Rec × Value)} {gL len capL capP : Nat} {P : Nat → PartD} {ao : Option Addr}

theorem steppedS (n : Nat) (hn : n ≤ 100000) (h : Inv own w1 w R D (.slice ao len capP) (.slice (some ⟨gL, 0, none⟩) len capL) vF vT vC ((n : Int) + 1) F [] data told C) (hS : Sure w1 R D ao gL len data.length P) (hq : QuietAt P len ⟨F.map Prod.fst, data, told, C.map Prod.fst⟩) (hfit : Fit len ⟨F.map Prod.fst, data, told, C.map Prod.fst⟩) :
    Calls Tryd.prog 25 #[.pointer (some ⟨R, 0, none⟩)] w fun e w' => Went w1 R D (.slice ao len capP) (.slice (some ⟨gL, 0, none⟩) len capL) n e w' (Mach.step wdoT P len ⟨F.map Prod.fst, data, told, C.map Prod.fst⟩) := by
  match F, h, hq, hfit with
  | [], _, _, hfit => exact absurd rfl hfit.room
  | (f, v) :: F, h, hq, hfit =>
    obtain ⟨g, cap, rfl, _, _⟩ := h.frames_form
    have hf := hfit.fr f (by simp)
    have hF : F.length + 1 ≤ 20 := by have := hfit.few; simpa using this
    have hws : ∀ p ∈ F, p.1.words.length ≤ 40 := fun p hp => (hfit.fr p.1 (by simp; exact .inr ⟨p.2, hp⟩)).2.1
    have hnt : ∀ k, f.noted = some k → k < C.length := fun k e => by have := hf.2.2 k e; simpa using this
    have hC : C.length ≤ 100 := by have := hfit.calls; simpa using this
    by_cases hpc : f.pc < (P f.part).cl
    · have e1 : Mach.step wdoT P len ⟨((f, v) :: F).map Prod.fst, data, told, C.map Prod.fst⟩ = if needs ((P f.part).o f.pc) ((P f.part).b f.pc) ((P f.part).c f.pc) ≤ f.words.length then
          act wdoT P len ⟨((f, v) :: F).map Prod.fst, data, told, C.map Prod.fst⟩ { f with pc := f.pc + 1, words := f.words.take (f.words.length - needs ((P f.part).o f.pc) ((P f.part).b f.pc) ((P f.part).c f.pc)) } (F.map Prod.fst) ((P f.part).o f.pc) ((P f.part).a f.pc) ((P f.part).b f.pc) ((P f.part).c f.pc) (f.words.drop (f.words.length - needs ((P f.part).o f.pc) ((P f.part).b f.pc) ((P f.part).c f.pc)))
          else ends 4 0 ⟨((f, v) :: F).map Prod.fst, data, told, C.map Prod.fst⟩ := by
        simp only [Mach.step, List.map_cons, if_pos hpc]
      rw [e1]
      refine few n hn h hS hf.1 hF hpc hf.2.1 _ (fun hno own' w' v' h' => ?_) (fun hyes W tv v' hcut h' => ?_)
      · rw [if_neg hno]
        exact went_end h'.fin ⟨rfl, rfl, rfl⟩
      · rw [if_pos hyes]
        have hfz := hS.code _ hf.1 _ hpc
        refine (quiet h' (by rw [List.length_drop]; rwa [show f.words.length - (f.words.length - needs ((P f.part).o f.pc) ((P f.part).b f.pc) ((P f.part).c f.pc)) = needs ((P f.part).o f.pc) ((P f.part).b f.pc) ((P f.part).c f.pc) by omega]) hS (by simp; have := hf.2.1; omega) hf.1 hfit.told hF hws hnt hC _ _ _ _ hfz (by rw [List.length_drop]; omega) (hq f (F.map Prod.fst) rfl hf.1 hpc hyes) (((f, v) :: F).map Prod.fst)).mono ?_
        intro e w' hwent
        exact ⟨went_ret hwent, hwent⟩
    · rw [show Mach.step wdoT P len ⟨((f, v) :: F).map Prod.fst, data, told, C.map Prod.fst⟩ = ends 4 0 ⟨((f, v) :: F).map Prod.fst, data, told, C.map Prod.fst⟩ by simp only [Mach.step, List.map_cons, if_neg hpc]]
      refine (behind n hn h hS hf.1 hF hpc).mono ?_
      rintro e w' ⟨rfl, own', h'⟩
      exact went_end h'.fin ⟨rfl, rfl, rfl⟩
end
end Go.Proofs.YtmbbkabecipkaacDoor.StepS

namespace Go.Proofs.YtmbbkabecipkaacDoor.ActL
open Go.RowKit Tab Go.Proofs.YtmbbkabecipkaacDoor.Check Lists Img Mach Own Go.Proofs.YtmbbkabecipkaacDoor.Inv Go.Proofs.YtmbbkabecipkaacDoor.Frame Take Go.Proofs.YtmbbkabecipkaacDoor.Went Go.Proofs.YtmbbkabecipkaacDoor.Entry ActE ActQ Step StepQ Loud

section
variable {own : Nat → Tag} {w1 w w' : World} {R D g cap : Nat} {pS lS vF vT vC : Value} {fuel : Int} {f : Fr} {v tv : Value} {F : List (Fr × Value)} {l data told : List Int} {C : List (Rec × Value)} {gL len capL capP : Nat} {P : Nat → PartD} {ao : Option Addr}

set_option maxRecDepth 100000 in
set_option maxHeartbeats 1000000 in
theorem gate_go (h : Inv own w1 w R D (.slice ao len capP) lS (.slice (some ⟨g, 0, none⟩) (F.length + 1) cap) vT vC fuel ((f, v) :: F) l data told C) (hc : Cut v tv l.length) (hP : Kept w1 R D ao len P) (hlen : len ≤ 5) (k i : Nat) (hk : k < len) (hi : i < (P k).el) (hel : (P k).el ≤ 8) (hl : l.length ≤ 4) (hpr : (P k).prs i = l.length) (at_ : Nat) (hat : (P k).ats i = at_) (hF : F.length + 1 ≤ 20) (hC : C.length ≤ 100) (rm : List Fr) :
    Calls Tryd.prog 39 #[.pointer (some ⟨R, 0, none⟩), .pointer (some ⟨g, F.length * 12, none⟩), .agg #[.int .i64 12, .int .i64 k, .int .i64 i, .int .i64 l.length], tv] w fun e w' => Went w1 R D (.slice ao len capP) lS fuel e w' (Mach.enter ⟨rm, data, told, (noteOf (C.map Prod.fst) { by_ := f.part, part := k, entry := i, args := l, deep := F.length + 1, done := false, value := 0 }).2⟩ f (F.map Prod.fst) { part := k, pc := at_, locals := pad l, words := [], noted := (noteOf (C.map Prod.fst) { by_ := f.part, part := k, entry := i, args := l, deep := F.length + 1, done := false, value := 0 }).1 }) := by
  have hI := h.alloc (.cells #[.int .i64 12, .int .i64 k, .int .i64 i, .int .i64 l.length] 27)
  obtain ⟨ta, tc, rfl, hsrc, htag⟩ := src_words h.rooms.1.1 hc
  have c0 : ∀ o, (w.alloc o).cell? ⟨g, F.length * 12, none⟩ = some (.int .i64 f.part) := fun o => (h.alloc o).top_cell 0 rfl
  have k49 : ∀ W, Inv own w1 W R D (.slice ao len capP) lS (.slice (some ⟨g, 0, none⟩) (F.length + 1) cap) vT vC fuel ((f, v) :: F) l data told C → Below w.heap.size w W → _ := fun W hI hb => gate_ok hI hP hlen f.part k i 12 hk hi hel l hl hpr at_ hat ta tc (hsrc.below hb) (fun hp ad e => by rw [htag hp ad e]; exact ⟨by simp, by simp⟩) hF hC rm
  have hb0 := below1 w (.cells #[.int .i64 12, .int .i64 k, .int .i64 i, .int .i64 l.length] 27)
  obtain ⟨out, hout⟩ : ∃ o, o = Mach.enter ⟨rm, data, told, (noteOf (C.map Prod.fst) { by_ := f.part, part := k, entry := i, args := l, deep := F.length + 1, done := false, value := 0 }).2⟩ f (F.map Prod.fst) { part := k, pc := at_, locals := pad l, words := [], noted := (noteOf (C.map Prod.fst) { by_ := f.part, part := k, entry := i, args := l, deep := F.length + 1, done := false, value := 0 }).1 } := ⟨_, rfl⟩
  rw [← hout] at k49 ⊢
  obtain ⟨n, hn⟩ : ∃ n, n = l.length := ⟨_, rfl⟩
  obtain ⟨q, hq⟩ : ∃ q, q = f.part := ⟨_, rfl⟩
  rw [← hn, ← hq] at k49
  rw [← hn] at hI hb0 ⊢
  rw [← hq] at c0
  have K49 : Hid _ := k49
  have HI : Hid _ := hI
  have HB0 : Hid _ := hb0
  clear h hI k49 hb0 hc hout hl hF hsrc htag hn hq hP hlen hk hi hel hpr hat hC
  go_enter Tryd.func39, Tryd.ntmps39
  go_wp2
  go_region_with ((go_at_call 49; refine (K49.out _ (by exact Inv.same HI.out rfl rfl rfl rfl) (by exact HB0.out.drew)).mono ?_; intro e w' hwent; obtain ⟨n', rfl⟩ := went_ret hwent))
  all_goals
    go_wp2
    go_ret
    exact hwent

theorem loud (h : Inv own w1 w R D (.slice ao len capP) (.slice (some ⟨gL, 0, none⟩) len capL) (.slice (some ⟨g, 0, none⟩) (F.length + 1) cap) vT vC fuel ((f, v) :: F) l data told C) (hc : Cut v tv l.length) (hS : Sure w1 R D ao gL len data.length P)
    (hw : f.words.length ≤ 40) (hp : f.part < len) (ht : told.length ≤ 500) (hF : F.length + 1 ≤ 20) (hws : ∀ p ∈ F, p.1.words.length ≤ 40) (hn : ∀ k, f.noted = some k → k < C.length) (hC : C.length ≤ 100)
    (op a b c : Int) (hf : fault op a b c = 0) (hl : l.length = needs op b c) (rm : List Fr) :
    Calls Tryd.prog 39 #[.pointer (some ⟨R, 0, none⟩), .pointer (some ⟨g, F.length * 12, none⟩), .agg #[.int .i64 op, .int .i64 a, .int .i64 b, .int .i64 c], tv] w fun e w' => Went w1 R D (.slice ao len capP) (.slice (some ⟨gL, 0, none⟩) len capL) fuel e w' (Mach.act wdoT P len ⟨rm, data, told, C.map Prod.fst⟩ f (F.map Prod.fst) op a b c l) := by
  by_cases hq : op ≠ 11 ∧ (op = 12 → ¬ (a < len ∧ b < (P a.toNat).el ∧ (P a.toNat).prs b.toNat = c))
  · exact quiet h hc hS hw hp ht hF hws hn hC op a b c hf hl hq rm
  obtain ⟨⟨o1, o15⟩, ⟨a0, a1⟩, ⟨b0, b1⟩, ⟨c0, c1⟩⟩ := fault_zero hf
  by_cases e11 : op = 11
  · subst e11
    obtain ⟨j, rfl⟩ : ∃ j : Nat, a = j := ⟨a.toNat, by simp [row, rows] at a0; omega⟩
    rw [show Mach.act wdoT P len ⟨rm, data, told, C.map Prod.fst⟩ f (F.map Prod.fst) 11 j b c l = Mach.enter ⟨rm, data, told, C.map Prod.fst⟩ f (F.map Prod.fst) { part := f.part, pc := j, locals := pad l, words := [], noted := none } by simp [Mach.act]]
    exact call_ h hc j b c j rfl (by rw [hl]; simp [needs]; simp [row, rows] at b1; omega) hF rm
  · obtain ⟨e12, hg⟩ : op = 12 ∧ (a < len ∧ b < (P a.toNat).el ∧ (P a.toNat).prs b.toNat = c) := by
      by_cases e12 : op = 12
      · exact ⟨e12, Classical.byContradiction fun hh => hq ⟨e11, fun _ => hh⟩⟩
      · exact absurd ⟨e11, fun e => absurd e e12⟩ hq
    subst e12
    obtain ⟨j, rfl⟩ : ∃ j : Nat, a = j := ⟨a.toNat, by simp [row, rows] at a0; omega⟩
    obtain ⟨i, rfl⟩ : ∃ i : Nat, b = i := ⟨b.toNat, by omega⟩
    have hcl : c = l.length := by rw [hl]; simp [needs]; omega
    subst hcl
    obtain ⟨g1, g2, g3⟩ := hg
    simp only [Int.toNat_natCast] at g2 g3
    have hj : j < len := by omega
    have hi : i < (P j).el := by omega
    have hat := (hS.entries j hj i hi).1
    have hpr := (hS.entries j hj i hi).2
    rw [show Mach.act wdoT P len ⟨rm, data, told, C.map Prod.fst⟩ f (F.map Prod.fst) 12 j i l.length l = Mach.enter ⟨rm, data, told, (noteOf (C.map Prod.fst) { by_ := f.part, part := j, entry := i, args := l, deep := F.length + 1, done := false, value := 0 }).2⟩ f (F.map Prod.fst) { part := j, pc := ((P j).ats i).toNat, locals := pad l, words := [], noted := (noteOf (C.map Prod.fst) { by_ := f.part, part := j, entry := i, args := l, deep := F.length + 1, done := false, value := 0 }).1 } by
      unfold Mach.act
      rw [if_neg (by decide), if_neg (by decide), if_neg (by decide), if_neg (by decide), if_neg (by decide), if_neg (by decide), if_neg (by decide), if_neg (by decide), if_neg (by decide), if_neg (by decide), if_neg (by decide), if_pos rfl, if_pos (by simp only [Int.toNat_natCast]; exact ⟨g1, g2, g3⟩)]
      unfold noteOf
      simp only [Int.toNat_natCast, List.length_map]
      by_cases hlt : C.length < 100
      · rw [if_pos hlt, if_pos hlt]
      · rw [if_neg hlt, if_neg hlt]]
    exact gate_go h hc hS.kept hS.len5 j i hj hi (hS.el8 j hj) (by omega) g3 _ (by omega) hF hC rm
end

section
variable {own : Nat → Tag} {w1 w : World} {R D : Nat} {vF vT vC : Value} {F : List (Fr × Value)} {data told : List Int} {C : List (Rec × Value)} {gL len capL capP : Nat} {P : Nat → PartD} {ao : Option Addr}

theorem steppedL (n : Nat) (hn : n ≤ 100000) (h : Inv own w1 w R D (.slice ao len capP) (.slice (some ⟨gL, 0, none⟩) len capL) vF vT vC ((n : Int) + 1) F [] data told C) (hS : Sure w1 R D ao gL len data.length P) (hfit : Fit len ⟨F.map Prod.fst, data, told, C.map Prod.fst⟩) :
    Calls Tryd.prog 25 #[.pointer (some ⟨R, 0, none⟩)] w fun e w' => Went w1 R D (.slice ao len capP) (.slice (some ⟨gL, 0, none⟩) len capL) n e w' (Mach.step wdoT P len ⟨F.map Prod.fst, data, told, C.map Prod.fst⟩) := by
  match F, h, hfit with
  | [], _, hfit => exact absurd rfl hfit.room
  | (f, v) :: F, h, hfit =>
    obtain ⟨g, cap, rfl, _, _⟩ := h.frames_form
    have hf := hfit.fr f (by simp)
    have hF : F.length + 1 ≤ 20 := by have := hfit.few; simpa using this
    have hws : ∀ p ∈ F, p.1.words.length ≤ 40 := fun p hp => (hfit.fr p.1 (by simp; exact .inr ⟨p.2, hp⟩)).2.1
    have hnt : ∀ k, f.noted = some k → k < C.length := fun k e => by have := hf.2.2 k e; simpa using this
    have hC : C.length ≤ 100 := by have := hfit.calls; simpa using this
    by_cases hpc : f.pc < (P f.part).cl
    · have e1 : Mach.step wdoT P len ⟨((f, v) :: F).map Prod.fst, data, told, C.map Prod.fst⟩ = if needs ((P f.part).o f.pc) ((P f.part).b f.pc) ((P f.part).c f.pc) ≤ f.words.length then
          act wdoT P len ⟨((f, v) :: F).map Prod.fst, data, told, C.map Prod.fst⟩ { f with pc := f.pc + 1, words := f.words.take (f.words.length - needs ((P f.part).o f.pc) ((P f.part).b f.pc) ((P f.part).c f.pc)) } (F.map Prod.fst) ((P f.part).o f.pc) ((P f.part).a f.pc) ((P f.part).b f.pc) ((P f.part).c f.pc) (f.words.drop (f.words.length - needs ((P f.part).o f.pc) ((P f.part).b f.pc) ((P f.part).c f.pc)))
          else ends 4 0 ⟨((f, v) :: F).map Prod.fst, data, told, C.map Prod.fst⟩ := by
        simp only [Mach.step, List.map_cons, if_pos hpc]
      rw [e1]
      refine few n hn h hS hf.1 hF hpc hf.2.1 _ (fun hno own' w' v' h' => ?_) (fun hyes W tv v' hcut h' => ?_)
      · rw [if_neg hno]
        exact went_end h'.fin ⟨rfl, rfl, rfl⟩
      · rw [if_pos hyes]
        have hfz := hS.code _ hf.1 _ hpc
        refine (loud h' (by rw [List.length_drop]; rwa [show f.words.length - (f.words.length - needs ((P f.part).o f.pc) ((P f.part).b f.pc) ((P f.part).c f.pc)) = needs ((P f.part).o f.pc) ((P f.part).b f.pc) ((P f.part).c f.pc) by omega]) hS (by simp; have := hf.2.1; omega) hf.1 hfit.told hF hws hnt hC _ _ _ _ hfz (by rw [List.length_drop]; omega) (((f, v) :: F).map Prod.fst)).mono ?_
        intro e w' hwent
        exact ⟨went_ret hwent, hwent⟩
    · rw [show Mach.step wdoT P len ⟨((f, v) :: F).map Prod.fst, data, told, C.map Prod.fst⟩ = ends 4 0 ⟨((f, v) :: F).map Prod.fst, data, told, C.map Prod.fst⟩ by simp only [Mach.step, List.map_cons, if_neg hpc]]
      refine (behind n hn h hS hf.1 hF hpc).mono ?_
      rintro e w' ⟨rfl, own', h'⟩
      exact went_end h'.fin ⟨rfl, rfl, rfl⟩
end
end Go.Proofs.YtmbbkabecipkaacDoor.ActL
