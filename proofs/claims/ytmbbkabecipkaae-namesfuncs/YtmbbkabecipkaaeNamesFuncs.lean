/-
  THE LAW 'barbicanlaw.NamesFuncs' IS TRUE AT EVERY INPUT: names.Func answers what the document says of it (P7.1), for every unit and every text; the call returns true and all arguments read as they did.
  Conditions: none beyond the row's own.
-/
import Derived.Test.YtmbbkabecipkaaeNOpen
import Derived.Test.YtmbbkabecipkaaeRows
import Derived.ChangeMaps5
namespace Go.Proofs.Ytmbbkabecipkaae.NamesFuncs
open Go.ChangeShapes Go.WideShapes Go.ChangeAt Go.RowKit Go.Joins NUnits NPlace
open Go.ChangeMaps (open_string shut_string)

theorem box4 {w w' : World} {v0 v1 v2 v3 : Value} {t : TypeId} (hb : Below (w.alloc (.cells #[v0, v1, v2, v3] t)).heap.size (w.alloc (.cells #[v0, v1, v2, v3] t)) w') :
    w'.cell? ⟨w.heap.size, 0, none⟩ = some v0 ∧ w'.cell? ⟨w.heap.size, 1, none⟩ = some v1 ∧ w'.cell? ⟨w.heap.size, 2, none⟩ = some v2 ∧ w'.cell? ⟨w.heap.size, 3, none⟩ = some v3 := by
  have h : ∀ i : Nat, (⟨w.heap.size, i, none⟩ : Addr).block < (w.alloc (.cells #[v0, v1, v2, v3] t)).heap.size := fun i => by simp
  exact ⟨(hb.cell (h 0)).trans (by simp), (hb.cell (h 1)).trans (by simp), (hb.cell (h 2)).trans (by simp), (hb.cell (h 3)).trans (by simp)⟩

theorem walk (y0 y1 y2 : Value) (ao : Option Addr) (len cap : Nat) (z : Nat → ByteArray) (hl : len ≤ maxLen) (s : ByteArray) (w : World) (h : Heads w ao len z) :
    Calls Try.prog 4 #[.agg #[y0, y1, y2, .slice ao len cap], .string s] w fun e w' => e = .returned (.bool true) ∧ Below w.heap.size w w' := by
  have hb0 : Below w.heap.size w (w.alloc (.cells #[y0, y1, y2, .slice ao len cap] 29)) := (Below.refl _ _).alloc (Nat.le_refl _) _
  have ku : ∀ W, Below w.heap.size w W → _ := fun W hb => func W len cap ao z s hl (Heads_below hb h) y0 y1 y2
  have ka : ∀ W, Below w.heap.size w W → _ := fun W hb => funcAt W len cap ao z s hl (Heads_below hb h) y0 y1 y2
  generalize placeFrom z s 0 len = r at ku ka
  have KU : Hid _ := ku
  have KA : Hid _ := ka
  have HB0 : Hid _ := hb0
  clear h hl ku ka hb0
  go_enter Try.func4, Try.ntmps4
  go_wp2_with (first
    | (go_at_call 8; refine (KU.out _ HB0.out).mono ?_; rintro e w1 ⟨rfl, hb1⟩; obtain ⟨q0, q1, q2, q3⟩ := box4 hb1; have hb2 := HB0.out.trans (hb1.mono HB0.out.size); have HB2 : Hid _ := hb2; clear hb1 hb2)
    | (go_at_call 9; refine (KA.out _ HB2.out).mono ?_; rintro e w2 ⟨rfl, hb3⟩; have HB3 : Hid _ := hb3; clear hb3))
  go_ret
  exact ⟨rfl, HB2.out.trans (HB3.out.mono HB2.out.size)⟩

set_option maxRecDepth 100000 in
theorem lifted (os : Os) (started : os.Started) (H : Type) (enc : TypeId × Value → H) :
    ReturnsInHanded {} Try.checked os 4 .any (Rows.namesFuncsSpec.pre6 enc Try.prog Try.f4 Rows.namesFuncsRow.domain false) (Rows.namesFuncsSpec.post enc Try.prog Try.f4 false true false false) := by
  refine returnsInHanded_of_change (C := Try.checked) NOpen.own started (by kernel_rfl) Try.func4
    (ChangeSpec.witness6 (enc := enc) (C := Try.checked) false ⟨#[], #[.agg #[.string ⟨#[97]⟩, .slice none 0 0, .slice none 0 0, .slice none 0 0], .string ⟨#[97]⟩], []⟩ 8 (by kernel_rfl) (by kernel_rfl) (by kernel_rfl) (by kernel_rfl)) ?_
  intro W base args ds gs before hval0 hW hcnd _
  have hval : ∀ (j : Nat) t v, Try.f4.params[j]? = some t → args[j]? = some v → Value.okWide Try.prog W .any base t v := hval0
  have hW' := hW
  obtain ⟨p, q, hA0, hV, rfl, hfz, hnd⟩ := hW
  have hA : DataW.TrodAll enc Try.prog W 0 (fun _ => true) true Try.f4.params.toList args.toList ds p := hA0
  rw [Try.params4] at hA hval
  obtain ⟨v0, vs0, d0, ds0, p0, q0, hargs, rfl, rfl, h0, r0⟩ := trodAll_cons hA
  obtain ⟨v1, vs1, d1, ds1, p1, q1, rfl, rfl, rfl, h1, r1⟩ := trodAll_cons r0
  obtain ⟨rfl, rfl, rfl⟩ := trodAll_nil r1
  obtain rfl : args = #[v0, v1] := by cases args; simp_all
  obtain ⟨rfl, rfl⟩ := trodVars_none hV
  obtain ⟨fuel0, hf0⟩ := id h0
  obtain ⟨y0, y1, y2, ao, len, cap, z, rfl, hl, hz⟩ := NOpen.unit (hval 0 29 v0 rfl rfl) h0
  obtain ⟨s, rfl, rfl, rfl, hs⟩ := open_string Try.underlying9 (hval 1 9 v1 rfl rfl) h1
  clear hA0 hval0
  simp only [List.append_nil] at hW'
  refine (walk y0 y1 y2 ao len cap z hl s W hz).mono fun e W' ⟨he, hb⟩ => ?_
  subst he
  exact ⟨_, rfl, _, _, _, [], _, [], hW', trodAll_mk1 (shut_bool Try.underlying4 _), (trodAll_cons_mk (Below.trod NOpen.laidOut (by kernel_rfl) (of_decide_eq_true (by kernel_rfl)) h0 hb (DataW.trod_lt fuel0 _ _ _ hf0)) (trodAll_cons_mk (shut_string Try.underlying9 hs) trodAll_mk0)), rfl, hb.frame _, fun h => by cases h⟩

theorem over : Rows.namesFuncsRow.holds Try.pinned (OpenSpec.ofChange Rows.namesFuncsSpec) :=
  OpenClaim.holds_of_wide 4 Try.f4 rfl rfl rfl rfl rfl rfl rfl ⟨rfl, rfl, rfl, rfl, rfl⟩ rfl rfl rfl rfl rfl (by kernel_rfl) Try.func4 (by kernel_rfl)
    (of_decide_eq_true (by kernel_rfl)) (by unfold Func.isWrapper; first | (rw [if_pos (by decide +kernel)]; kernel_rfl) | (rw [if_neg (by decide +kernel)]; exact ⟨rfl, rfl⟩))
    (fun os started H enc _ => lifted os started H enc)
end Go.Proofs.Ytmbbkabecipkaae.NamesFuncs
namespace Go.Proofs.Ytmbbkabecipkaae
/-- THE STATEMENT -/
theorem namesFuncs_holds : Rows.NamesFuncsSaid := NamesFuncs.over
#print axioms namesFuncs_holds
end Go.Proofs.Ytmbbkabecipkaae
