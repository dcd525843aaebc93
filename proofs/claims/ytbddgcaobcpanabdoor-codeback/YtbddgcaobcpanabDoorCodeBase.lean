/-
  WHAT THE WAYS OF A ROUND OF 'barbicankeep.Code' SHARE: 'picked' as one function; the last instruction of a list of the call's own; the loop's body, taken out of the function's own.
  Conditions: none.
-/
import Derived.Test.YtbddgcaobcpanabDoorGood
namespace Go.Proofs.YtbddgcaobcpanabDoor.Code
open Go.RowKit Tab Go.Proofs.YtbddgcaobcpanabDoor.Check Lists Parts Go.Proofs.YtbddgcaobcpanabDoor.Good

/-- 'picked', as one function of its two numbers -/
theorem picks : ∃ pk : Int → Int → Nat, ∀ n m, (Lit.int .i64 n).wf = true → 0 < m → m ≤ 65536 → (pk n m : Int) < m ∧ ∀ w, Calls Tryd.prog 8 #[.int .i64 n, .int .i64 m] w fun e w' => e = .returned (.int .i64 (pk n m : Int)) ∧ w' = w := by
  have h : ∀ n m : Int, ∃ p : Nat, (Lit.int .i64 n).wf = true → 0 < m → m ≤ 65536 → (p : Int) < m ∧ ∀ w, Calls Tryd.prog 8 #[.int .i64 n, .int .i64 m] w fun e w' => e = .returned (.int .i64 (p : Int)) ∧ w' = w := by
    intro n m
    by_cases hw : (Lit.int .i64 n).wf = true ∧ 0 < m ∧ m ≤ 65536
    · obtain ⟨p, hp⟩ := picked n hw.1 m hw.2.1 hw.2.2
      exact ⟨p, fun _ _ _ => hp⟩
    · exact ⟨0, fun h1 h2 h3 => absurd ⟨h1, h2, h3⟩ hw⟩
  exact ⟨fun n m => Classical.choose (h n m), fun n m => Classical.choose_spec (h n m)⟩

theorem owns_base {w : World} {base base' : Nat} {e : TypeId} {size n : Nat} {v : Value} {xs : List Value} (h : w.ownsRow base e size v n xs) (hb : base' ≤ base) : w.ownsRow base' e size v n xs := by
  refine ⟨h.1, ?_⟩
  rcases h.2 with hn | ⟨g, cap, cur, e, hg, rest⟩
  · exact .inl hn
  · exact .inr ⟨g, cap, cur, e, by omega, rest⟩

/-- the last instruction of a list of the call's own: its first two numbers -/
theorem last0 {w : World} {B g cp : Nat} {l : List Q} {v0 v1 v2 v3 : Value} (h : w.ownsRow B 38 4 (.slice (some ⟨g, 0, none⟩) (l.length + 1) cp) (l.length + 1) (flat l ++ [v0, v1, v2, v3])) : w.cell? ⟨g, l.length * 4, none⟩ = some v0 := by
  rw [h.cellAt _ (by omega), List.getElem?_append_right (by rw [flat_length]; omega), flat_length]
  simp
theorem last1 {w : World} {B g cp : Nat} {l : List Q} {v0 v1 v2 v3 : Value} (h : w.ownsRow B 38 4 (.slice (some ⟨g, 0, none⟩) (l.length + 1) cp) (l.length + 1) (flat l ++ [v0, v1, v2, v3])) : w.cell? ⟨g, l.length * 4 + 1, none⟩ = some v1 := by
  rw [h.cellAt _ (by omega), List.getElem?_append_right (by rw [flat_length]; omega), flat_length]
  simp
/-- .. and its second number set -/
theorem set_last {w : World} {B g cp : Nat} {l : List Q} {v0 v1 v2 v3 u : Value} (h : w.ownsRow B 38 4 (.slice (some ⟨g, 0, none⟩) (l.length + 1) cp) (l.length + 1) (flat l ++ [v0, v1, v2, v3])) :
    (w.setCell ⟨g, l.length * 4 + 1, none⟩ u).ownsRow B 38 4 (.slice (some ⟨g, 0, none⟩) (l.length + 1) cp) (l.length + 1) (flat l ++ [v0, u, v2, v3]) := by
  have h1 := (h.stored (l.length * 4 + 1) u).1
  rw [List.set_append_right _ _ (by rw [flat_length]; omega), flat_length] at h1
  simpa using h1
/-- the raw thing's own block, behind the append -/
theorem box_kept {wr w4 : World} {W v : Nat} {u : Value} {o : Obj} {v0 v1 v2 v3 : Value} (hlt : ∀ g, u.ownBlock = some g → W ≤ g ∧ g < wr.heap.size) (hg : ((wr.alloc (.cells #[v0, v1, v2, v3] v)).alloc o).grownBy w4 u.ownBlock) :
    w4.cell? ⟨wr.heap.size, 2, none⟩ = some v2 := by
  refine hg.cell (a := ⟨wr.heap.size, 2, none⟩) ?_ ?_
  · rw [World.cell?_alloc_old _ _ _ (by simp)]
    simp
  · intro e
    have := (hlt _ e.symm).2
    simp only at this
    omega

/-- the first loop's body of some code -/
def firstLoop : Go.Code → Option Go.Code
  | .loop c => some c
  | .seq a b => match firstLoop a with
    | some c => some c
    | none => firstLoop b
  | .block _ c => firstLoop c
  | _ => none

set_option maxRecDepth 1000000 in
/-- what holds at each round's head -/
def Head (ao : Option Addr) (len cap : Nat) (w W1 : World) (a' : Act) (w' : World) : Prop :=
  ∃ u7 u8 u9 u10 u11 u12 u13 u14 u15 u16 u17 u18 u19 u20 u21 u22 u23 u24 u25 u26 u27 u28 u29 u30 u31 u32 u33 u34 u35 u36 u37 u38 u39 u40 u41 u42 u43 u44 u45 u46 u47 u48 u49 u50 u51 u52 u53 u54 u55 u56 u57 u58 u59 u60 u61 u62 u63 u64 u65 u66 u67 u68 u69 u70 u71 u72 u73 u74 u75 u76 u77 u78 u79 u80 u81 u82 u83 u84 u85 u86 u87 u88 u89 u90 u91 u92 u93 u94 u95 u96 u97 u98 u99 u100 u101 u102 u103 u104 u105 u106 u107 u108 u109 u110 u111 u112 u113 u114 u115 u116 u117 u118 u119 u120 u121 u122 u123 u124 u125 u126 u127 u128 u129 u130 u131 u132 u133 u134 u135 u136 u137 u138 u139 u140 u141 u142 u143 u144 u145 u146 u147 u148 u149 u150 u151 u152 u153 u154 u155 u156 u157 u158 u159 u160 u161 u162 u163 u164 u165 u166 u167 u168 u169 u170 u171 u172 u173 u174 u175 u176 u177 u178 u179 u180 u181 u182 u183 u184 u185 u186 u187 u188 u189 u190 u191 u192 u193 u194 u195 u196 u197 u198 : Value, (∃ (k : Nat) (l : List Q), k ≤ 30 ∧ u8 = .int .i64 k ∧ l.length ≤ 4 * k ∧ Ok l ∧ w'.ownsRow W1.heap.size 38 4 u7 l.length (flat l) ∧ Below W1.heap.size W1 w') ∧ a' = ⟨#[.slice ao len cap, .agg #[.slice none 0 0], .int .i64 0, undef, .pointer (some ⟨w.heap.size, 0, none⟩), undef, .slice none 0 0, u7, u8, u9, u10, u11, u12, u13, u14, u15, u16, u17, u18, u19, u20, u21, u22, u23, u24, u25, u26, u27, u28, u29, u30, u31, u32, u33, u34, u35, u36, u37, u38, u39, u40, u41, u42, u43, u44, u45, u46, u47, u48, u49, u50, u51, u52, u53, u54, u55, u56, u57, u58, u59, u60, u61, u62, u63, u64, u65, u66, u67, u68, u69, u70, u71, u72, u73, u74, u75, u76, u77, u78, u79, u80, u81, u82, u83, u84, u85, u86, u87, u88, u89, u90, u91, u92, u93, u94, u95, u96, u97, u98, u99, u100, u101, u102, u103, u104, u105, u106, u107, u108, u109, u110, u111, u112, u113, u114, u115, u116, u117, u118, u119, u120, u121, u122, u123, u124, u125, u126, u127, u128, u129, u130, u131, u132, u133, u134, u135, u136, u137, u138, u139, u140, u141, u142, u143, u144, u145, u146, u147, u148, u149, u150, u151, u152, u153, u154, u155, u156, u157, u158, u159, u160, u161, u162, u163, u164, u165, u166, u167, u168, u169, u170, u171, u172, u173, u174, u175, u176, u177, u178, u179, u180, u181, u182, u183, u184, u185, u186, u187, u188, u189, u190, u191, u192, u193, u194, u195, u196, u197, u198, undef, undef, undef, undef, undef], []⟩
end Go.Proofs.YtbddgcaobcpanabDoor.Code
