/-
  WHAT THE DOCUMENT'S RunOf REFUSES: what mach.Run refuses, with the same number; and that both give the same (P4.1).
  Conditions: the image's parts, the data and the words lie there (and the table 'code.bounds', for mach.Run).
  THE WALK OF THE LAW MachRuns: mach.Run and the document's RunOf answer the same, and the data that was handed in stays as it was.
  Conditions: the image's parts, the data, the words and the table 'code.bounds' lie there.
  AN IMAGE AND A LIST OF NUMBERS THAT ARE HANDED IN, OPENED: each part, instruction, entry and number lies where it is looked for.
  Conditions: the argument reads as its type says.
-/
import Derived.Test.YtmbbkabecipkaacDoorWhole50
import Derived.Test.YtmbbkabecipkaacDoorWhole51
import Derived.Test.YtmbbkabecipkaacDoorWhole22
import Derived.Test.YtmbbkabecipkaacDoorWhole18
import Derived.Deep.OwnRows
import Derived.Test.YtmbbkabecipkaacDoorWhole52
import Derived.Test.YtmbbkabecipkaacDoorWhole2
import Derived.Deep.Slices
import Derived.Lib.SmallJoins
import Derived.OpenShut
namespace Go.Proofs.YtmbbkabecipkaacDoor.RunRef
open Go.RowKit Tab Go.Proofs.YtmbbkabecipkaacDoor.Check Lists Go.Proofs.YtmbbkabecipkaacDoor.Read Img Mach Own Go.Proofs.YtmbbkabecipkaacDoor.Inv RunBad RunNot MRun ActQ RStart

theorem ref_bad (ao : Option Addr) (len cap : Nat) (hlen : len ≤ maxLen) (P : Nat → PartD) (da : Option Addr) (dlen dcap : Nat) (z : Nat → Int) (aa : Option Addr) (alen acap : Nat) (az : Nat → Int) (p en fuel : Int) (w : World) (hin : Parts w ao len P) (hd : Ints w da dlen z) (ha : Ints w aa alen az) (hr : MBad.runFault P len z dlen p en az alen fuel ≠ 0) :
    Calls Tryd.prog 15 #[.agg #[.slice ao len cap], .slice da dlen dcap, .int .i64 p, .int .i64 en, .slice aa alen acap, .int .i64 fuel] w fun e w' => e = .returned (.tuple #[.agg zero, .int .i64 (MBad.runFault P len z dlen p en az alen fuel)]) ∧ Below w.heap.size w w' := by
  unfold MBad.runFault at hr ⊢
  by_cases er : dataFault P len z dlen = 0
  · rw [if_pos er] at hr ⊢
    by_cases hno : (0 ≤ p ∧ p < len) ∧ (0 ≤ en ∧ en < (P p.toNat).el)
    · rw [if_pos hno] at hr ⊢
      obtain ⟨k, rfl⟩ : ∃ k : Nat, p = k := ⟨p.toNat, by omega⟩
      obtain ⟨j, rfl⟩ : ∃ j : Nat, en = j := ⟨en.toNat, by omega⟩
      simp only [Int.toNat_natCast] at hno hr ⊢
      have hk : k < len := by omega
      have hj : j < (P k).el := by omega
      by_cases hn : (alen : Int) = (P k).prs j
      · rw [if_pos hn] at hr ⊢
        by_cases hf : 0 ≤ fuel ∧ fuel ≤ 100000
        · rw [if_pos hf] at hr ⊢
          by_cases hw : first (fun i => wordFault (az i)) alen = 0
          · rw [if_pos hw] at hr
            exact absurd rfl hr
          · rw [if_neg hw]
            have hs := MCheck.part_sure (first_zero (imageFault_zero (dataFault_zero er).1).2 k hk)
            have he := MCheck.entry_sure (first_zero hs.2.2.2 j hj)
            exact RunInit.no_word ao len cap hlen P da dlen dcap z aa alen acap az k j fuel w hin hd ha er hk hj hn hf.1 hf.2 (by omega) hw
        · rw [if_neg hf]
          exact no_fuel ao len cap hlen P da dlen dcap z aa alen acap k j fuel w hin hd er hk hj hn hf
      · rw [if_neg hn]
        rcases (show (alen : Int) < (P k).prs j ∨ (P k).prs j < (alen : Int) by omega) with c | c
        · exact few ao len cap hlen P da dlen dcap z aa alen acap k j fuel w hin hd er hk hj c
        · exact many ao len cap hlen P da dlen dcap z aa alen acap k j fuel w hin hd er hk hj c
    · rw [if_neg hno]
      by_cases hp : 0 ≤ p ∧ p < len
      · obtain ⟨k, rfl⟩ : ∃ k : Nat, p = k := ⟨p.toNat, by omega⟩
        simp only [Int.toNat_natCast] at hno
        exact no_entry ao len cap hlen P da dlen dcap z aa alen acap k en fuel w hin hd er (by omega) (fun h => hno ⟨hp, h⟩)
      · exact no_part ao len cap hlen P da dlen dcap z aa alen acap p en fuel w hin hd er hp
  · rw [if_neg er]
    have hb0 := below2 w (.cells #[.slice ao len cap] 24) (.cells #[.int .i64 0, .int .i64 0, .slice none 0 0, .slice none 0 0, .slice none 0 0] 41)
    exact data_bad ao len cap da dlen dcap p en aa alen acap fuel _ (by simpa using er) w (Data.ref ao len cap hlen P da dlen dcap z _ (Parts_below hin hb0) (Ints_below hd hb0))

/-- what a run answers: an outcome and an error -/
structure Ans (w : World) (n v f : Int) (s : St) (e : Ending) (w' : World) : Prop where
  below : Below w.heap.size w w'
  out : ∃ vT vD vC, e = .returned (.tuple #[.agg #[.int .i64 n, .int .i64 v, vT, vD, vC], .int .i64 f]) ∧ Out w.heap.size w' vT vD vC s

theorem Ans.bad {w w' : World} {f : Int} (hb : Below w.heap.size w w') : Ans w 0 0 f ⟨[], [], [], []⟩ (.returned (.tuple #[.agg #[.int .i64 0, .int .i64 0, .slice none 0 0, .slice none 0 0, .slice none 0 0], .int .i64 f])) w' :=
  ⟨hb, _, _, _, rfl, World.ownsRow_nil _ _ _ _, World.ownsRow_nil _ _ _ _, [], rfl, World.ownsRow_nil _ _ _ _, fun k r v h => by simp at h⟩

theorem Ans.good {w w' : World} {r : Int × Int × St} {e : Ending} (h : Gave w r e w') : Ans w r.1 r.2.1 0 r.2.2 e w' := ⟨h.1, h.2⟩

theorem both (ao : Option Addr) (len cap : Nat) (hlen : len ≤ maxLen) (P : Nat → PartD) (data args : List Int) (aa : Option Addr) (acap : Nat) (hal : args.length ≤ maxLen) (p en fuel : Int) :
    ∃ (n v f : Int) (s : St), ∀ (da : Option Addr) (dcap : Nat) (w : World), Parts w ao len P → Ints w da data.length (fun i => data.getD i 0) → Ints w aa args.length (fun i => args.getD i 0) →
      (Lies w → Calls Tryd.prog 14 #[.agg #[.slice ao len cap], .slice da data.length dcap, .int .i64 p, .int .i64 en, .slice aa args.length acap, .int .i64 fuel] w (Ans w n v f s)) ∧
      Calls Tryd.prog 15 #[.agg #[.slice ao len cap], .slice da data.length dcap, .int .i64 p, .int .i64 en, .slice aa args.length acap, .int .i64 fuel] w (Ans w n v f s) := by
  by_cases hr : MBad.runFault P len (fun i => data.getD i 0) data.length p en (fun i => args.getD i 0) args.length fuel = 0
  · have hr' := hr
    unfold MBad.runFault at hr'
    by_cases er : dataFault P len (fun i => data.getD i 0) data.length = 0
    · rw [if_pos er] at hr'
      by_cases hno : (0 ≤ p ∧ p < len) ∧ (0 ≤ en ∧ en < (P p.toNat).el)
      · rw [if_pos hno] at hr'
        by_cases hn : (args.length : Int) = (P p.toNat).prs en.toNat
        · rw [if_pos hn] at hr'
          by_cases hf : 0 ≤ fuel ∧ fuel ≤ 100000
          · rw [if_pos hf] at hr'
            by_cases hw : first (fun i => wordFault (args.getD i 0)) args.length = 0
            · obtain ⟨k, rfl⟩ : ∃ k : Nat, p = k := ⟨p.toNat, by omega⟩
              obtain ⟨j, rfl⟩ : ∃ j : Nat, en = j := ⟨en.toNat, by omega⟩
              obtain ⟨m, rfl⟩ : ∃ m : Nat, fuel = m := ⟨fuel.toNat, by omega⟩
              simp only [Int.toNat_natCast] at hno hn
              have hk : k < len := by omega
              have hj : j < (P k).el := by omega
              have hs := MCheck.part_sure (first_zero (imageFault_zero (dataFault_zero er).1).2 k hk)
              have he := MCheck.entry_sure (first_zero hs.2.2.2 j hj)
              obtain ⟨pc, hpc⟩ : ∃ pc : Nat, (P k).ats j = pc := ⟨((P k).ats j).toNat, by omega⟩
              refine ⟨(run wdoT P len m ⟨[⟨k, pc, pad args, [], none⟩], data, [], []⟩).1, (run wdoT P len m ⟨[⟨k, pc, pad args, [], none⟩], data, [], []⟩).2.1, 0, (run wdoT P len m ⟨[⟨k, pc, pad args, [], none⟩], data, [], []⟩).2.2, fun da dcap w hin hd ha => ⟨fun hl => ?_, ?_⟩⟩
              · exact (MRunL.mrunL ao len cap hlen P da data dcap aa args acap k j m pc w hl hin hd ha er hk hj hn (by omega) hw hpc).mono fun e w' h => .good h
              · exact (runOf ao len cap hlen P da data dcap aa args acap k j m pc w hin hd ha er hk hj hn (by omega) hw hpc).mono fun e w' h => .good h
            · rw [if_neg hw] at hr'
              cases hr'
          · rw [if_neg hf] at hr'
            cases hr'
        · rw [if_neg hn] at hr'
          cases hr'
      · rw [if_neg hno] at hr'
        cases hr'
    · rw [if_neg er] at hr'
      exact absurd hr' er
  · refine ⟨0, 0, MBad.runFault P len (fun i => data.getD i 0) data.length p en (fun i => args.getD i 0) args.length fuel, ⟨[], [], [], []⟩, fun da dcap w hin hd ha => ⟨fun hl => ?_, ?_⟩⟩
    · refine (MBad.run_bad ao len cap hlen P da data.length dcap _ aa args.length acap _ p en fuel w hl hin hd ha hal _ rfl (by simpa using hr)).mono ?_
      rintro e w' ⟨rfl, hb⟩
      exact .bad hb
    · refine (ref_bad ao len cap hlen P da data.length dcap _ aa args.length acap _ p en fuel w hin hd ha hr).mono ?_
      rintro e w' ⟨rfl, hb⟩
      exact .bad hb

theorem row_form {w : World} {B : Nat} {e : TypeId} {size n : Nat} {v : Value} {xs : List Value} (h : w.ownsRow B e size v n xs) : ∃ a m c, v = .slice a m c := by
  rcases h.2 with ⟨h0, _⟩ | ⟨g, cap, cur, hv, _⟩
  · exact ⟨_, _, _, h0⟩
  · exact ⟨_, _, _, hv⟩

theorem calls_form {w : World} {B : Nat} {vT vD vC : Value} {s : St} (h : Out B w vT vD vC s) : ∃ a m c, vC = .slice a m c := by
  obtain ⟨C, _, h1, _⟩ := h.calls
  exact row_form h1

theorem row_mono {w : World} {B B' : Nat} {e : TypeId} {size n : Nat} {v : Value} {xs : List Value} (h : w.ownsRow B e size v n xs) (hB : B' ≤ B) : w.ownsRow B' e size v n xs := by
  refine ⟨h.1, ?_⟩
  rcases h.2 with h0 | ⟨g, cap, cur, hv, hg, rest⟩
  · exact .inl h0
  · exact .inr ⟨g, cap, cur, hv, Nat.le_trans hB hg, rest⟩

theorem out_mono {w : World} {B B' : Nat} {vT vD vC : Value} {s : St} (h : Out B w vT vD vC s) (hB : B' ≤ B) : Out B' w vT vD vC s := by
  obtain ⟨C, h1, h2, h3⟩ := h.calls
  exact ⟨row_mono h.told hB, row_mono h.data hB, C, h1, row_mono h2 hB, fun k r v hk => row_mono (h3 k r v hk) hB⟩

theorem out_alloc {w : World} {B : Nat} {vT vD vC : Value} {s : St} (h : Out B w vT vD vC s) (o : Obj) : Out B (w.alloc o) vT vD vC s := by
  obtain ⟨C, h1, h2, h3⟩ := h.calls
  exact ⟨h.told.alloc o, h.data.alloc o, C, h1, h2.alloc o, fun k r v hk => (h3 k r v hk).alloc o⟩

theorem out_below {B : Nat} {w w' : World} {vT vD vC : Value} {s : St} (h : Out B w vT vD vC s) (hb : Below w.heap.size w w') : Out B w' vT vD vC s := by
  obtain ⟨C, e, o, n⟩ := h.calls
  exact ⟨owns_below h.told hb, owns_below h.data hb, C, e, owns_below o hb, fun k r v hk => owns_below (n k r v hk) hb⟩

/-- a row of one's own holds its numbers -/
theorem copied_ints {w : World} {B dlen : Nat} {v : Value} {z : Nat → Int} (h : w.ownsRow B 3 1 v dlen (row z dlen)) : ∃ da dcap, v = .slice da dlen dcap ∧ Ints w da dlen z := by
  rcases h.2 with ⟨rfl, h0⟩ | ⟨g, cap, cur, rfl, _⟩
  · exact ⟨none, 0, by rw [h0], fun k hk => absurd hk (by omega)⟩
  · exact ⟨_, _, rfl, fun k hk => ⟨g, 0, rfl, fun j hj => by rw [Nat.zero_add]; exact (h.cellAt j (by omega)).trans (row_at z dlen j hj)⟩⟩
end Go.Proofs.YtmbbkabecipkaacDoor.RunRef

namespace Go.Proofs.YtmbbkabecipkaacDoor.MachWalk
open Go.RowKit Tab Go.Proofs.YtmbbkabecipkaacDoor.Check Lists Go.Proofs.YtmbbkabecipkaacDoor.Read Img Mach Own Go.Proofs.YtmbbkabecipkaacDoor.Inv RunBad RunNot MRun ActQ RStart Go.Proofs.YtmbbkabecipkaacDoor.Outcome RunRef

theorem box5 {w w' : World} {v0 v1 v2 v3 v4 : Value} {t : TypeId} (hb : Below (w.alloc (.cells #[v0, v1, v2, v3, v4] t)).heap.size (w.alloc (.cells #[v0, v1, v2, v3, v4] t)) w') :
    w'.cell? ⟨w.heap.size, 0, none⟩ = some v0 ∧ w'.cell? ⟨w.heap.size, 1, none⟩ = some v1 ∧ w'.cell? ⟨w.heap.size, 2, none⟩ = some v2 ∧ w'.cell? ⟨w.heap.size, 3, none⟩ = some v3 ∧ w'.cell? ⟨w.heap.size, 4, none⟩ = some v4 := by
  have h : ∀ i : Nat, (⟨w.heap.size, i, none⟩ : Addr).block < (w.alloc (.cells #[v0, v1, v2, v3, v4] t)).heap.size := fun i => by simp
  exact ⟨(hb.cell (h 0)).trans (by simp), (hb.cell (h 1)).trans (by simp), (hb.cell (h 2)).trans (by simp), (hb.cell (h 3)).trans (by simp), (hb.cell (h 4)).trans (by simp)⟩

theorem past5 {w : World} {b : Nat} {v0 v1 v2 v3 v4 : Value} (h : w.cell? ⟨b, 0, none⟩ = some v0 ∧ w.cell? ⟨b, 1, none⟩ = some v1 ∧ w.cell? ⟨b, 2, none⟩ = some v2 ∧ w.cell? ⟨b, 3, none⟩ = some v3 ∧ w.cell? ⟨b, 4, none⟩ = some v4) :
    (∀ o, (w.alloc o).cell? ⟨b, 0, none⟩ = some v0) ∧ (∀ o, (w.alloc o).cell? ⟨b, 1, none⟩ = some v1) ∧ (∀ o, (w.alloc o).cell? ⟨b, 2, none⟩ = some v2) ∧ (∀ o, (w.alloc o).cell? ⟨b, 3, none⟩ = some v3) ∧ (∀ o, (w.alloc o).cell? ⟨b, 4, none⟩ = some v4) := by
  have past : ∀ (i : Nat) (v : Value), w.cell? ⟨b, i, none⟩ = some v → ∀ o, (w.alloc o).cell? ⟨b, i, none⟩ = some v := fun i v h o => (World.cell?_alloc_past o _ _ (World.block_lt_of_cell? w _ h)).trans h
  exact ⟨past 0 _ h.1, past 1 _ h.2.1, past 2 _ h.2.2.1, past 3 _ h.2.2.2.1, past 4 _ h.2.2.2.2⟩

set_option maxRecDepth 100000 in
set_option maxHeartbeats 4000000 in
theorem walk (ao : Option Addr) (len cap : Nat) (hlen : len ≤ maxLen) (P : Nat → PartD) (da : Option Addr) (data : List Int) (dcap : Nat) (hby : data.length * 8 ≤ 140737488355328) (p en : Int) (aa : Option Addr) (args : List Int) (acap : Nat) (hal : args.length ≤ maxLen) (fuel : Int) (w : World) (hl : Lies w) (hin : Parts w ao len P) (hd : Ints w da data.length (fun i => data.getD i 0)) (ha : Ints w aa args.length (fun i => args.getD i 0)) :
    Calls Tryd.prog 4 #[.agg #[.slice ao len cap], .slice da data.length dcap, .int .i64 p, .int .i64 en, .slice aa args.length acap, .int .i64 fuel] w fun e w' => e = .returned (.bool true) ∧ Below w.heap.size w w' := by
  obtain ⟨n, v, f, s, K⟩ := both ao len cap hlen P data args aa acap hal p en fuel
  have k14 : ∀ W da dcap, Below w.heap.size w W → Ints W da data.length (fun i => data.getD i 0) → Calls Tryd.prog 14 #[.agg #[.slice ao len cap], .slice da data.length dcap, .int .i64 p, .int .i64 en, .slice aa args.length acap, .int .i64 fuel] W (Ans W n v f s) := fun W da dcap hb h => (K da dcap W (Parts_below hin hb) h (Ints_below ha hb)).1 (Lies_below hl hb)
  have k15 : ∀ W, Below w.heap.size w W → Calls Tryd.prog 15 #[.agg #[.slice ao len cap], .slice da data.length dcap, .int .i64 p, .int .i64 en, .slice aa args.length acap, .int .i64 fuel] W (Ans W n v f s) := fun W hb => (K da dcap W (Parts_below hin hb) (Ints_below hd hb) (Ints_below ha hb)).2
  have hb0 := below1 w (.cells #[.slice ao len cap] 24)
  have hd0 : Ints (w.alloc (.cells #[.slice ao len cap] 24)) da data.length (fun i => data.getD i 0) := Ints_below hd hb0
  have hmx : data.length ≤ maxLen := by unfold maxLen; omega
  obtain ⟨dlen, edl⟩ : ∃ n, n = data.length := ⟨_, rfl⟩
  obtain ⟨alen, eal⟩ : ∃ n, n = args.length := ⟨_, rfl⟩
  obtain ⟨z, ez⟩ : ∃ z : Nat → Int, z = fun i => data.getD i 0 := ⟨_, rfl⟩
  rw [← edl, ← eal, ← ez] at k14
  rw [← edl, ← eal] at k15 ⊢
  rw [← edl] at hby hmx
  rw [← edl, ← ez] at hd hd0
  have k17 : ∀ W ao' c', Below w.heap.size w W → Ints W ao' dlen z → _ := fun W ao' c' hb h => same W ao' da dlen c' dcap z hmx h (Ints_below hd hb)
  have K14 : Hid _ := k14
  have K15 : Hid _ := k15
  have K17 : Hid _ := k17
  have HB0 : Hid _ := hb0
  have HD0 : Hid _ := hd0
  clear K k14 k15 k17 hb0 hl hin hd hd0 ha hlen edl eal ez hal
  go_enter Tryd.func4, Tryd.ntmps4
  go_wp2_with (first
    | (at_builtin; refine wpList_copied rfl _ (.tmp 18) rfl rfl da dlen dcap z rfl HD0.out hmx hby w.heap.size HB0.out.size ?_; intro v3 w3 own3 grow3; have hb3 := HB0.out.grown grow3 HB0.out.size (by simp); have q3 : w3.cell? ⟨w.heap.size, 0, none⟩ = some (.slice ao len cap) := box1 ((Below.refl _ (w.alloc (.cells #[.slice ao len cap] 24))).grown grow3 (Nat.le_refl _) (by simp)); obtain ⟨vo, vcap, rfl, i3⟩ := copied_ints own3; have HB3 : Hid _ := hb3; have I3 : Hid _ := i3; clear hb3 i3 own3 grow3)
    | (go_at_call 14; refine (K14.out _ _ _ HB3.out I3.out).mono ?_; rintro e w5 ⟨hb5, vT, vD, vC, rfl, o5⟩; obtain ⟨aT, nT, cT, rfl⟩ := row_form o5.told; obtain ⟨aD, nD, cD, rfl⟩ := row_form o5.data; obtain ⟨aC, nC, cC, rfl⟩ := calls_form o5; have q5 := (hb5.cell (World.block_lt_of_cell? w3 _ q3)).trans q3; have q6 := fun o => (World.cell?_alloc_past o _ _ (World.block_lt_of_cell? w5 _ q5)).trans q5; have hb6 := (HB3.out.trans (hb5.mono HB3.out.size)).alloc (Nat.le_trans HB3.out.size hb5.size) (.cells #[.int .i64 n, .int .i64 v, .slice aT nT cT, .slice aD nD cD, .slice aC nC cC] 41); have HB6 : Hid _ := hb6; have HB5 : Hid _ := hb5; have O5 : Hid _ := o5; clear hb5 o5 q3 q5 hb6)
    | (go_at_call 15; refine (K15.out _ HB6.out).mono ?_; rintro e w7 ⟨hb7, vT', vD', vC', rfl, o7⟩; obtain ⟨aT', nT', cT', rfl⟩ := row_form o7.told; obtain ⟨aD', nD', cD', rfl⟩ := row_form o7.data; obtain ⟨aC', nC', cC', rfl⟩ := calls_form o7; obtain ⟨r0, r1, r2, r3, r4⟩ := past5 (box5 hb7); have hb8 := (HB6.out.trans (hb7.mono HB6.out.size)).alloc (Nat.le_trans HB6.out.size hb7.size) (.cells #[.int .i64 n, .int .i64 v, .slice aT' nT' cT', .slice aD' nD' cD', .slice aC' nC' cC'] 41); have HB8 : Hid _ := hb8; have O7 : Hid (Out w.heap.size w7 _ _ _ s) := out_mono o7 HB6.out.size; have O6 : Hid (Out w.heap.size w7 _ _ _ s) := out_mono (out_below (out_alloc O5.out (.cells #[.int .i64 n, .int .i64 v, .slice aT nT cT, .slice aD nD cD, .slice aC nC cC] 41)) hb7) HB3.out.size; have HB7 : Hid (Below w3.heap.size w3 (w7.alloc (.cells #[.int .i64 n, .int .i64 v, .slice aT' nT' cT', .slice aD' nD' cD', .slice aC' nC' cC'] 41))) := ((HB5.out.alloc HB5.out.size (.cells #[.int .i64 n, .int .i64 v, .slice aT nT cT, .slice aD nD cD, .slice aC nC cC] 41)).trans (hb7.mono (Nat.le_trans HB5.out.size (by simp)))).alloc (Nat.le_trans HB5.out.size (Nat.le_trans (by simp) hb7.size)) (.cells #[.int .i64 n, .int .i64 v, .slice aT' nT' cT', .slice aD' nD' cD', .slice aC' nC' cC'] 41); clear hb7 o7 q6 hb8)
    | (go_at_call 16; refine (sameOutcome w.heap.size n v _ _ _ _ _ _ s _ (out_alloc O6.out _) (out_alloc O7.out _)).mono ?_; rintro e w9 ⟨rfl, hb9⟩; have HB9 : Hid _ := hb9; clear hb9)
    | (go_at_call 17; refine (K17.out _ _ _ (HB8.out.trans (HB9.out.mono HB8.out.size)) (Ints_below I3.out (HB7.out.trans (HB9.out.mono HB7.out.size)))).mono ?_; rintro e w11 ⟨rfl, hb11⟩; have HB11 : Hid _ := hb11; clear hb11))
  go_ret
  exact ⟨rfl, (HB8.out.trans (HB9.out.mono HB8.out.size)).trans (HB11.out.mono (Nat.le_trans HB8.out.size HB9.out.size))⟩
end Go.Proofs.YtmbbkabecipkaacDoor.MachWalk

namespace Go.Proofs.YtmbbkabecipkaacDoor.Open
open Go.ChangeShapes Go.WideShapes Go.ChangeAt Go.RowKit Go.Joins Tab Go.Proofs.YtmbbkabecipkaacDoor.Check Lists Go.Proofs.YtmbbkabecipkaacDoor.Read Img

theorem own : ownKnob Tryd.prog.godebug = none := by kernel_rfl
theorem cells38 : Tryd.prog.cellsOf 27 = 4 := by kernel_rfl
theorem cells56 : Tryd.prog.cellsOf 52 = 2 := by kernel_rfl
theorem cells54 : Tryd.prog.cellsOf 55 = 4 := by kernel_rfl
theorem cells23 : Tryd.prog.cellsOf 28 = 1 := by kernel_rfl
theorem cells52 : Tryd.prog.cellsOf 53 = 1 := by kernel_rfl
theorem cells25 : Tryd.prog.cellsOf 22 = 1 := by kernel_rfl
theorem cells27 : Tryd.prog.cellsOf 24 = 1 := by kernel_rfl
theorem laidOut : laidOutB Tryd.prog = true := by kernel_rfl

theorem cut (l : List Value) (j : Nat) (v : Value) (hl : (l.drop j).take 1 = [v]) : l[j]? = some v := by
  have := congrArg (·[0]?) hl
  simpa [List.getElem?_drop] using this

section
variable {H : Type} {enc : TypeId × Value → H} {W : World} {spare : Nat → Bool} {held : Bool}

theorem numbers {fuel : Nat} {cs : List Value} {x : DataW H × List MemPlace} (h : DataW.trod enc Tryd.prog W 0 spare held fuel 29 cs = some x) :
    ∃ (ao : Option Addr) (len cap : Nat) (z : Nat → Int), cs = [.slice ao len cap] ∧ len ≤ maxLen ∧ Ints W ao len z := by
  rcases Go.Deep.open_slice1 Tryd.underlying29 cells3 h with ⟨rfl, _⟩ | ⟨ad, len, cap, m, n, V, D, Pl, rfl, _, hle, hcap, hm, _, hel⟩
  · exact ⟨none, 0, 0, fun _ => 0, rfl, Nat.zero_le _, fun k hk => absurd hk (by omega)⟩
  · have each : ∀ i, i < len → ∃ q : Int, W.cell? (ad.add i) = some (.int .i64 q) := by
      intro i hi
      obtain ⟨h1, h2⟩ := hel i (by rw [hm]; split <;> omega)
      obtain ⟨z0, a0, _, _⟩ := DataW.trod_int Tryd.underlying3 h2
      simp at a0
      exact ⟨z0, by rw [h1, a0]⟩
    obtain ⟨z, hz⟩ := Go.Deep.choose_lt each
    refine ⟨some ad, len, cap, z, rfl, by omega, fun k hk => ?_⟩
    obtain ⟨bl, off, spot⟩ := ad
    have hspot : spot = none := by simpa [Addr.add] using World.cell?_spot (hz 0 (by omega))
    subst hspot
    exact ⟨bl, off, rfl, fun j hj => by rw [← Go.WideShapes.add_plain]; exact hz j hj⟩

theorem instrs {fuel : Nat} {cs : List Value} {x : DataW H × List MemPlace} (h : DataW.trod enc Tryd.prog W 0 spare held fuel 28 cs = some x) :
    ∃ (ao : Option Addr) (len cap : Nat) (o a b c : Nat → Int), cs = [.slice ao len cap] ∧ Instrs W ao len o a b c := by
  rcases Go.Deep.open_slice Tryd.underlying28 h with ⟨rfl, _⟩ | ⟨ad, len, cap, m, n, D, Pl, rfl, _, hle, _, hm, _, hel⟩
  · exact ⟨none, 0, 0, fun _ => 0, fun _ => 0, fun _ => 0, fun _ => 0, rfl, fun k hk => absurd hk (by omega)⟩
  · have look : ∀ i, i < len → ∃ q : Int × Int × Int × Int, W.cell? (ad.add (i * 4 + 0)) = some (.int .i64 q.1) ∧ W.cell? (ad.add (i * 4 + 1)) = some (.int .i64 q.2.1) ∧
        W.cell? (ad.add (i * 4 + 2)) = some (.int .i64 q.2.2.1) ∧ W.cell? (ad.add (i * 4 + 3)) = some (.int .i64 q.2.2.2) := by
      intro i hi
      obtain ⟨cs', h1, h2⟩ := hel i (by rw [hm]; split <;> omega)
      rw [cells38] at h1
      obtain ⟨_, hlen, hcell⟩ := World.cells?_some h1
      obtain ⟨y0, y1, y2, y3, n', hx, _, g0, g1, g2, g3⟩ := trod_struct4 Tryd.underlying27 h2
      obtain ⟨z0, a0, _, _⟩ := DataW.trod_int Tryd.underlying3 g0
      obtain ⟨z1, a1, _, _⟩ := DataW.trod_int Tryd.underlying3 g1
      obtain ⟨z2, a2, _, _⟩ := DataW.trod_int Tryd.underlying3 g2
      obtain ⟨z3, a3, _, _⟩ := DataW.trod_int Tryd.underlying3 g3
      simp only [cells3] at a0 a1 a2 a3
      have k0 := hcell 0 (by omega)
      have k1 := hcell 1 (by omega)
      have k2 := hcell 2 (by omega)
      have k3 := hcell 3 (by omega)
      rw [Go.Deep.add_add] at k0 k1 k2 k3
      exact ⟨(z0, z1, z2, z3), k0.trans (cut _ _ _ a0), k1.trans (cut _ _ _ a1), k2.trans (cut _ _ _ a2), k3.trans (cut _ _ _ a3)⟩
    have each : ∀ i, i < len → ∃ q : Int × Int × Int × Int, ∃ bl off, ad = ⟨bl, off, none⟩ ∧ W.cell? ⟨bl, off + i * 4, none⟩ = some (.int .i64 q.1) ∧ W.cell? ⟨bl, off + i * 4 + 1, none⟩ = some (.int .i64 q.2.1) ∧
        W.cell? ⟨bl, off + i * 4 + 2, none⟩ = some (.int .i64 q.2.2.1) ∧ W.cell? ⟨bl, off + i * 4 + 3, none⟩ = some (.int .i64 q.2.2.2) := by
      intro i hi
      obtain ⟨q0, t0, _⟩ := look 0 (by omega)
      obtain ⟨bl, off, spot⟩ := ad
      have hspot : spot = none := by simpa [Addr.add] using World.cell?_spot t0
      subst hspot
      obtain ⟨q, u0, u1, u2, u3⟩ := look i hi
      rw [Go.WideShapes.add_plain] at u0 u1 u2 u3
      exact ⟨q, bl, off, rfl, u0, u1, u2, u3⟩
    obtain ⟨q, hq⟩ := Go.Deep.choose_lt each
    refine ⟨some ad, len, cap, fun i => (q i).1, fun i => (q i).2.1, fun i => (q i).2.2.1, fun i => (q i).2.2.2, rfl, fun k hk => ?_⟩
    obtain ⟨bl, off, rfl, t⟩ := hq k hk
    exact ⟨bl, off, rfl, t⟩

theorem entries {fuel : Nat} {cs : List Value} {x : DataW H × List MemPlace} (h : DataW.trod enc Tryd.prog W 0 spare held fuel 53 cs = some x) :
    ∃ (ao : Option Addr) (len cap : Nat) (t r : Nat → Int), cs = [.slice ao len cap] ∧ Entries W ao len t r := by
  rcases Go.Deep.open_slice Tryd.underlying53 h with ⟨rfl, _⟩ | ⟨ad, len, cap, m, n, D, Pl, rfl, _, hle, _, hm, _, hel⟩
  · exact ⟨none, 0, 0, fun _ => 0, fun _ => 0, rfl, fun k hk => absurd hk (by omega)⟩
  · have look : ∀ i, i < len → ∃ q : Int × Int, W.cell? (ad.add (i * 2 + 0)) = some (.int .i64 q.1) ∧ W.cell? (ad.add (i * 2 + 1)) = some (.int .i64 q.2) := by
      intro i hi
      obtain ⟨cs', h1, h2⟩ := hel i (by rw [hm]; split <;> omega)
      rw [cells56] at h1
      obtain ⟨_, hlen, hcell⟩ := World.cells?_some h1
      obtain ⟨y0, y1, n', hx, _, g0, g1⟩ := trod_struct2 Tryd.underlying52 h2
      obtain ⟨z0, a0, _, _⟩ := DataW.trod_int Tryd.underlying3 g0
      obtain ⟨z1, a1, _, _⟩ := DataW.trod_int Tryd.underlying3 g1
      simp only [cells3] at a0 a1
      have k0 := hcell 0 (by omega)
      have k1 := hcell 1 (by omega)
      rw [Go.Deep.add_add] at k0 k1
      exact ⟨(z0, z1), k0.trans (cut _ _ _ a0), k1.trans (cut _ _ _ a1)⟩
    have each : ∀ i, i < len → ∃ q : Int × Int, ∃ bl off, ad = ⟨bl, off, none⟩ ∧ W.cell? ⟨bl, off + i * 2, none⟩ = some (.int .i64 q.1) ∧ W.cell? ⟨bl, off + i * 2 + 1, none⟩ = some (.int .i64 q.2) := by
      intro i hi
      obtain ⟨q0, t0, _⟩ := look 0 (by omega)
      obtain ⟨bl, off, spot⟩ := ad
      have hspot : spot = none := by simpa [Addr.add] using World.cell?_spot t0
      subst hspot
      obtain ⟨q, u0, u1⟩ := look i hi
      rw [Go.WideShapes.add_plain] at u0 u1
      exact ⟨q, bl, off, rfl, u0, u1⟩
    obtain ⟨q, hq⟩ := Go.Deep.choose_lt each
    refine ⟨some ad, len, cap, fun i => (q i).1, fun i => (q i).2, rfl, fun k hk => ?_⟩
    obtain ⟨bl, off, rfl, t⟩ := hq k hk
    exact ⟨bl, off, rfl, t⟩

def noPart : PartD := ⟨none, 0, 0, fun _ => 0, fun _ => 0, fun _ => 0, fun _ => 0, none, 0, 0, fun _ => 0, fun _ => 0, 0, 0⟩

theorem parts {fuel : Nat} {cs : List Value} {x : DataW H × List MemPlace} (h : DataW.trod enc Tryd.prog W 0 spare held fuel 22 cs = some x) :
    ∃ (ao : Option Addr) (len cap : Nat) (P : Nat → PartD), cs = [.slice ao len cap] ∧ len ≤ maxLen ∧ Parts W ao len P := by
  rcases Go.Deep.open_slice Tryd.underlying22 h with ⟨rfl, _⟩ | ⟨ad, len, cap, m, n, D, Pl, rfl, _, hle, hcap, hm, _, hel⟩
  · exact ⟨none, 0, 0, fun _ => noPart, rfl, Nat.zero_le _, fun k hk => absurd hk (by omega)⟩
  · have look : ∀ i, i < len → ∃ q : PartD, (W.cell? (ad.add (i * 4 + 0)) = some (.slice q.ca q.cl q.cc) ∧ W.cell? (ad.add (i * 4 + 1)) = some (.slice q.ea q.el q.ec) ∧
        W.cell? (ad.add (i * 4 + 2)) = some (.int .i64 q.lo) ∧ W.cell? (ad.add (i * 4 + 3)) = some (.int .i64 q.hi)) ∧ PartLies W q := by
      intro i hi
      obtain ⟨cs', h1, h2⟩ := hel i (by rw [hm]; split <;> omega)
      rw [cells54] at h1
      obtain ⟨_, hlen, hcell⟩ := World.cells?_some h1
      obtain ⟨y0, y1, y2, y3, n', hx, _, g0, g1, g2, g3⟩ := trod_struct4 Tryd.underlying55 h2
      obtain ⟨ca, cl, cc, o, a, b, c, a0, b0⟩ := instrs g0
      obtain ⟨ea, el, ec, t, r, a1, b1⟩ := entries g1
      obtain ⟨z2, a2, _, _⟩ := DataW.trod_int Tryd.underlying3 g2
      obtain ⟨z3, a3, _, _⟩ := DataW.trod_int Tryd.underlying3 g3
      simp only [cells3, cells23, cells52] at a0 a1 a2 a3
      have k0 := hcell 0 (by omega)
      have k1 := hcell 1 (by omega)
      have k2 := hcell 2 (by omega)
      have k3 := hcell 3 (by omega)
      rw [Go.Deep.add_add] at k0 k1 k2 k3
      exact ⟨⟨ca, cl, cc, o, a, b, c, ea, el, ec, t, r, z2, z3⟩, ⟨k0.trans (cut _ _ _ a0), k1.trans (cut _ _ _ a1), k2.trans (cut _ _ _ a2), k3.trans (cut _ _ _ a3)⟩, b0, b1⟩
    have each : ∀ i, i < len → ∃ q : PartD, (∃ bl off, some ad = some ⟨bl, off, none⟩ ∧ W.cell? ⟨bl, off + i * 4, none⟩ = some (.slice q.ca q.cl q.cc) ∧ W.cell? ⟨bl, off + i * 4 + 1, none⟩ = some (.slice q.ea q.el q.ec) ∧
        W.cell? ⟨bl, off + i * 4 + 2, none⟩ = some (.int .i64 q.lo) ∧ W.cell? ⟨bl, off + i * 4 + 3, none⟩ = some (.int .i64 q.hi)) ∧ PartLies W q := by
      intro i hi
      obtain ⟨q0, ⟨t0, _⟩, _⟩ := look 0 (by omega)
      obtain ⟨bl, off, spot⟩ := ad
      have hspot : spot = none := by simpa [Addr.add] using World.cell?_spot t0
      subst hspot
      obtain ⟨q, ⟨u0, u1, u2, u3⟩, hq⟩ := look i hi
      rw [Go.WideShapes.add_plain] at u0 u1 u2 u3
      exact ⟨q, ⟨bl, off, rfl, u0, u1, u2, u3⟩, hq⟩
    have : Inhabited PartD := ⟨noPart⟩
    obtain ⟨q, hq⟩ := Go.Deep.choose_lt each
    exact ⟨some ad, len, cap, q, rfl, by omega, hq⟩

set_option maxRecDepth 100000 in
/-- an image, by value -/
theorem image {b0 : Nat} {v : Value} {d : DataW H} {p : List MemPlace} (hv : Value.okWide Tryd.prog W .any b0 24 v) (h : DataW.Trod enc Tryd.prog W 0 spare held 24 v d p) :
    ∃ (ao : Option Addr) (len cap : Nat) (P : Nat → PartD), v = .agg #[.slice ao len cap] ∧ len ≤ maxLen ∧ Parts W ao len P := by
  obtain ⟨cs, rfl, hsz⟩ := okWide_struct Tryd.underlying24 hv
  rw [cells27] at hsz
  obtain ⟨c0, rfl⟩ : ∃ c0, cs = #[c0] := by
    obtain ⟨l⟩ := cs
    match l, hsz with
    | [c0], _ => exact ⟨c0, rfl⟩
  obtain ⟨fuel, hf⟩ := h
  obtain ⟨y0, n, _, _, g0⟩ := trod_struct1 Tryd.underlying24 hf
  obtain ⟨ao, len, cap, P, hcs, hl, hP⟩ := parts g0
  simp [Value.cells, cells25] at hcs
  exact ⟨ao, len, cap, P, by rw [hcs], hl, hP⟩
end
end Go.Proofs.YtmbbkabecipkaacDoor.Open
