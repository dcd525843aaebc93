/-
  SOME WAYS OF A ROUND OF 'barbicankeep.Code' (kinds 3 to 6): each leaves a list of instructions that may be.
  Conditions: each theorem's own hypotheses.
-/
import Derived.Test.YtbddgcaobcpanabDoorCodeBase
namespace Go.Proofs.YtbddgcaobcpanabDoor.Code
open Go.RowKit Tab Go.Proofs.YtbddgcaobcpanabDoor.Check Lists Parts Go.Proofs.YtbddgcaobcpanabDoor.Good
set_option linter.unusedVariables false

set_option maxRecDepth 1000000 in
set_option maxHeartbeats 4000000 in
theorem case2 {ao : Option Addr} {len cap : Nat} {w W1 wr : World} {k : Nat} {l : List Q} {bl off : Nat} {x0 x1 x2 x3 : Int} {i0 : TypeInfo} {pk : Int → Int → Nat} {u7 u9 u10 u11 u12 u13 u14 u15 u16 u17 u18 u19 u20 u21 u22 u23 u24 u25 u26 u27 u28 u29 u30 u31 u32 u33 u34 u35 u36 u37 u38 u39 u40 u41 u42 u43 u44 u45 u46 u47 u48 u49 u50 u51 u52 u53 u54 u55 u56 u57 u58 u59 u60 u61 u62 u63 u64 u65 u66 u67 u68 u69 u70 u71 u72 u73 u74 u75 u76 u77 u78 u79 u80 u81 u82 u83 u84 u85 u86 u87 u88 u89 u90 u91 u92 u93 u94 u95 u96 u97 u98 u99 u100 u101 u102 u103 u104 u105 u106 u107 u108 u109 u110 u111 u112 u113 u114 u115 u116 u117 u118 u119 u120 u121 u122 u123 u124 u125 u126 u127 u128 u129 u130 u131 u132 u133 u134 u135 u136 u137 u138 u139 u140 u141 u142 u143 u144 u145 u146 u147 u148 u149 u150 u151 u152 u153 u154 u155 u156 u157 u158 u159 u160 u161 u162 u163 u164 u165 u166 u167 u168 u169 u170 u171 u172 u173 u174 u175 u176 u177 u178 u179 u180 u181 u182 u183 u184 u185 u186 u187 u188 u189 u190 u191 u192 u193 u194 u195 u196 u197 u198 : Value} {Q0 : Exit → Act → World → Prop}
    (hao : ao = some ⟨bl, off, none⟩) (hlen : len ≤ 9223372036854775807) (hi : Tryd.prog.info? 38 = some i0) (hz0 : i0.zero = some (.agg #[.int .i64 0, .int .i64 0, .int .i64 0, .int .i64 0])) (hz1 : i0.size = 4) (hz2 : i0.bytes = 32)
    (hpk : ∀ n m, (Lit.int .i64 n).wf = true → 0 < m → m ≤ 65536 → (pk n m : Int) < m ∧ ∀ w, Calls Tryd.prog 8 #[.int .i64 n, .int .i64 m] w fun e w' => e = .returned (.int .i64 (pk n m : Int)) ∧ w' = w)
    (hll : l.length ≤ 4 * k) (hok : Ok l) (h1 : k < len) (h2 : k < 30)
    (s0 : wr.cell? ⟨bl, off + k * 4, none⟩ = some (.int .i64 x0)) (s1 : wr.cell? ⟨bl, off + k * 4 + 1, none⟩ = some (.int .i64 x1)) (s2 : wr.cell? ⟨bl, off + k * 4 + 2, none⟩ = some (.int .i64 x2)) (s3 : wr.cell? ⟨bl, off + k * 4 + 3, none⟩ = some (.int .i64 x3))
    (f0 : (Lit.int .i64 x0).wf = true) (f1 : (Lit.int .i64 x1).wf = true) (f2 : (Lit.int .i64 x2).wf = true)
    (hmr : ∀ o, (wr.alloc o).cell? ⟨w.heap.size, 0, none⟩ = some (.slice none 0 0))
    (hown2 : (wr.alloc (.cells #[.int .i64 x0, .int .i64 x1, .int .i64 x2, .int .i64 x3] 41)).ownsRow W1.heap.size 38 4 u7 l.length (flat l))
    (hbel2 : Below W1.heap.size W1 (wr.alloc (.cells #[.int .i64 x0, .int .i64 x1, .int .i64 x2, .int .i64 x3] 41))) (hszr : W1.heap.size ≤ wr.heap.size)
    (hlt : ∀ g, u7.ownBlock = some g → W1.heap.size ≤ g ∧ g < wr.heap.size) (hK : 3 ≤ pk x0 16) (hK' : pk x0 16 < 5) :
    Go.Code.wp Tryd.prog ((Tryd.f4.body.bind firstLoop).getD .skip) (Exit.then (fun a' w' => Head ao len cap w W1 a' w' ∧ 30 - (intOf (a'.tmps.getD 8 undef)).toNat < 30 - k) Q0) ⟨#[.slice ao len cap, .agg #[.slice none 0 0], .int .i64 0, undef, .pointer (some ⟨w.heap.size, 0, none⟩), undef, .slice none 0 0, u7, .int .i64 k, u9, u10, u11, u12, u13, u14, u15, u16, u17, u18, u19, u20, u21, u22, u23, u24, u25, u26, u27, u28, u29, u30, u31, u32, u33, u34, u35, u36, u37, u38, u39, u40, u41, u42, u43, u44, u45, u46, u47, u48, u49, u50, u51, u52, u53, u54, u55, u56, u57, u58, u59, u60, u61, u62, u63, u64, u65, u66, u67, u68, u69, u70, u71, u72, u73, u74, u75, u76, u77, u78, u79, u80, u81, u82, u83, u84, u85, u86, u87, u88, u89, u90, u91, u92, u93, u94, u95, u96, u97, u98, u99, u100, u101, u102, u103, u104, u105, u106, u107, u108, u109, u110, u111, u112, u113, u114, u115, u116, u117, u118, u119, u120, u121, u122, u123, u124, u125, u126, u127, u128, u129, u130, u131, u132, u133, u134, u135, u136, u137, u138, u139, u140, u141, u142, u143, u144, u145, u146, u147, u148, u149, u150, u151, u152, u153, u154, u155, u156, u157, u158, u159, u160, u161, u162, u163, u164, u165, u166, u167, u168, u169, u170, u171, u172, u173, u174, u175, u176, u177, u178, u179, u180, u181, u182, u183, u184, u185, u186, u187, u188, u189, u190, u191, u192, u193, u194, u195, u196, u197, u198, undef, undef, undef, undef, undef], []⟩ wr := by
  subst hao
  have h1I : (k : Int) < len := by omega
  have h2I : (k : Int) < 30 := by omega
  have hsz2 := hbel2.size
  have bK : (pk x0 16 : Int) < 16 := (hpk x0 16 f0 (by decide) (by decide)).1
  have bA4 : (pk x1 4 : Int) < 4 := (hpk x1 4 f1 (by decide) (by decide)).1
  have bA250 : (pk x1 250 : Int) < 250 := (hpk x1 250 f1 (by decide) (by decide)).1
  have bB4 : (pk x2 4 : Int) < 4 := (hpk x2 4 f2 (by decide) (by decide)).1
  conv => arg 2; whnf
  have c0 : (3 : Int) ≤ pk x0 16 := by omega
  have c1 : (pk x0 16 : Int) < 5 := by omega
  by_cases hp : pk x2 12 = 0
  · go_wp2_with (first
      | (go_at_call 8; refine ((hpk _ _ (by assumption) (by decide) (by decide)).2 _).mono ?_; rintro e w' ⟨rfl, rfl⟩)
      | (at_builtin; refine wpList_append_own _ rfl (.tmp 69) (.tmp 77) 23 rfl W1.heap.size 38 i0 (.agg #[.int .i64 0, .int .i64 0, .int .i64 0, .int .i64 0]) 4 32 Tryd.underlying23 hi hz0 hz1 hz2 rfl (by decide) _ _ _ rfl (hown2.alloc _) ⟨wr.heap.size + 1, 0, none⟩ 3 3 [.int .i64 1, .int .i64 (pk x1 250 : Int), .int .i64 0, .int .i64 0, .int .i64 4, .int .i64 (pk x2 4 : Int), .int .i64 0, .int .i64 0, .int .i64 7, .int .i64 0, .int .i64 0, .int .i64 0] rfl rfl news_at2 (flat_one [(1, (pk x1 250 : Int), 0, 0), (4, (pk x2 4 : Int), 0, 0), (7, 0, 0, 0)]) (by unfold maxLen; omega) (by omega) (by simp; omega) ?_; intro v' w4 hown4 hgrow4 _))
    refine ⟨?_, by simp [intOf]; omega⟩
    unfold Head
    refine ⟨_, _, _, _, _, _, _, _, _, _, _, _, _, _, _, _, _, _, _, _, _, _, _, _, _, _, _, _, _, _, _, _, _, _, _, _, _, _, _, _, _, _, _, _, _, _, _, _, _, _, _, _, _, _, _, _, _, _, _, _, _, _, _, _, _, _, _, _, _, _, _, _, _, _, _, _, _, _, _, _, _, _, _, _, _, _, _, _, _, _, _, _, _, _, _, _, _, _, _, _, _, _, _, _, _, _, _, _, _, _, _, _, _, _, _, _, _, _, _, _, _, _, _, _, _, _, _, _, _, _, _, _, _, _, _, _, _, _, _, _, _, _, _, _, _, _, _, _, _, _, _, _, _, _, _, _, _, _, _, _, _, _, _, _, _, _, _, _, _, _, _, _, _, _, _, _, _, _, _, _, _, _, _, _, _, _, _, _, _, _, _, _, ?_, rfl⟩
    exact ⟨k + 1, l ++ [(1, (pk x1 250 : Int), 0, 0), (4, (pk x2 4 : Int), 0, 0), (7, 0, 0, 0)], by omega, by go_num, by simp; omega, Ok_append hok (Ok_cons (q := (1, (pk x1 250 : Int), 0, 0)) (push_ok (pk x1 250 : Int) (by omega) (by omega)) (Ok_cons (q := (4, (pk x2 4 : Int), 0, 0)) (get_ok (pk x2 4 : Int) (by omega) (by omega)) (Ok_cons (q := (7, 0, 0, 0)) (store_ok) (Ok_nil)))), by rw [List.length_append, flat_append]; exact hown4, (hbel2.alloc hsz2 _).grown hgrow4 (by simp; omega) (fun g hg => (hlt g hg).1)⟩
  · have hp2 : ((pk x2 12 : Int) == 0) = false := by simpa using hp
    go_wp2_with (first
      | (go_at_call 8; refine ((hpk _ _ (by assumption) (by decide) (by decide)).2 _).mono ?_; rintro e w' ⟨rfl, rfl⟩)
      | (at_builtin; refine wpList_append_own _ rfl (.tmp 69) (.tmp 77) 23 rfl W1.heap.size 38 i0 (.agg #[.int .i64 0, .int .i64 0, .int .i64 0, .int .i64 0]) 4 32 Tryd.underlying23 hi hz0 hz1 hz2 rfl (by decide) _ _ _ rfl (hown2.alloc _) ⟨wr.heap.size + 1, 0, none⟩ 3 3 [.int .i64 1, .int .i64 (pk x1 4 : Int), .int .i64 0, .int .i64 0, .int .i64 4, .int .i64 (pk x2 4 : Int), .int .i64 0, .int .i64 0, .int .i64 7, .int .i64 0, .int .i64 0, .int .i64 0] rfl rfl news_at2 (flat_one [(1, (pk x1 4 : Int), 0, 0), (4, (pk x2 4 : Int), 0, 0), (7, 0, 0, 0)]) (by unfold maxLen; omega) (by omega) (by simp; omega) ?_; intro v' w4 hown4 hgrow4 _))
    refine ⟨?_, by simp [intOf]; omega⟩
    unfold Head
    refine ⟨_, _, _, _, _, _, _, _, _, _, _, _, _, _, _, _, _, _, _, _, _, _, _, _, _, _, _, _, _, _, _, _, _, _, _, _, _, _, _, _, _, _, _, _, _, _, _, _, _, _, _, _, _, _, _, _, _, _, _, _, _, _, _, _, _, _, _, _, _, _, _, _, _, _, _, _, _, _, _, _, _, _, _, _, _, _, _, _, _, _, _, _, _, _, _, _, _, _, _, _, _, _, _, _, _, _, _, _, _, _, _, _, _, _, _, _, _, _, _, _, _, _, _, _, _, _, _, _, _, _, _, _, _, _, _, _, _, _, _, _, _, _, _, _, _, _, _, _, _, _, _, _, _, _, _, _, _, _, _, _, _, _, _, _, _, _, _, _, _, _, _, _, _, _, _, _, _, _, _, _, _, _, _, _, _, _, _, _, _, _, _, _, ?_, rfl⟩
    exact ⟨k + 1, l ++ [(1, (pk x1 4 : Int), 0, 0), (4, (pk x2 4 : Int), 0, 0), (7, 0, 0, 0)], by omega, by go_num, by simp; omega, Ok_append hok (Ok_cons (q := (1, (pk x1 4 : Int), 0, 0)) (push_ok (pk x1 4 : Int) (by omega) (by omega)) (Ok_cons (q := (4, (pk x2 4 : Int), 0, 0)) (get_ok (pk x2 4 : Int) (by omega) (by omega)) (Ok_cons (q := (7, 0, 0, 0)) (store_ok) (Ok_nil)))), by rw [List.length_append, flat_append]; exact hown4, (hbel2.alloc hsz2 _).grown hgrow4 (by simp; omega) (fun g hg => (hlt g hg).1)⟩

set_option maxRecDepth 1000000 in
set_option maxHeartbeats 4000000 in
theorem case3 {ao : Option Addr} {len cap : Nat} {w W1 wr : World} {k : Nat} {l : List Q} {bl off : Nat} {x0 x1 x2 x3 : Int} {i0 : TypeInfo} {pk : Int → Int → Nat} {u7 u9 u10 u11 u12 u13 u14 u15 u16 u17 u18 u19 u20 u21 u22 u23 u24 u25 u26 u27 u28 u29 u30 u31 u32 u33 u34 u35 u36 u37 u38 u39 u40 u41 u42 u43 u44 u45 u46 u47 u48 u49 u50 u51 u52 u53 u54 u55 u56 u57 u58 u59 u60 u61 u62 u63 u64 u65 u66 u67 u68 u69 u70 u71 u72 u73 u74 u75 u76 u77 u78 u79 u80 u81 u82 u83 u84 u85 u86 u87 u88 u89 u90 u91 u92 u93 u94 u95 u96 u97 u98 u99 u100 u101 u102 u103 u104 u105 u106 u107 u108 u109 u110 u111 u112 u113 u114 u115 u116 u117 u118 u119 u120 u121 u122 u123 u124 u125 u126 u127 u128 u129 u130 u131 u132 u133 u134 u135 u136 u137 u138 u139 u140 u141 u142 u143 u144 u145 u146 u147 u148 u149 u150 u151 u152 u153 u154 u155 u156 u157 u158 u159 u160 u161 u162 u163 u164 u165 u166 u167 u168 u169 u170 u171 u172 u173 u174 u175 u176 u177 u178 u179 u180 u181 u182 u183 u184 u185 u186 u187 u188 u189 u190 u191 u192 u193 u194 u195 u196 u197 u198 : Value} {Q0 : Exit → Act → World → Prop}
    (hao : ao = some ⟨bl, off, none⟩) (hlen : len ≤ 9223372036854775807) (hi : Tryd.prog.info? 38 = some i0) (hz0 : i0.zero = some (.agg #[.int .i64 0, .int .i64 0, .int .i64 0, .int .i64 0])) (hz1 : i0.size = 4) (hz2 : i0.bytes = 32)
    (hpk : ∀ n m, (Lit.int .i64 n).wf = true → 0 < m → m ≤ 65536 → (pk n m : Int) < m ∧ ∀ w, Calls Tryd.prog 8 #[.int .i64 n, .int .i64 m] w fun e w' => e = .returned (.int .i64 (pk n m : Int)) ∧ w' = w)
    (hll : l.length ≤ 4 * k) (hok : Ok l) (h1 : k < len) (h2 : k < 30)
    (s0 : wr.cell? ⟨bl, off + k * 4, none⟩ = some (.int .i64 x0)) (s1 : wr.cell? ⟨bl, off + k * 4 + 1, none⟩ = some (.int .i64 x1)) (s2 : wr.cell? ⟨bl, off + k * 4 + 2, none⟩ = some (.int .i64 x2)) (s3 : wr.cell? ⟨bl, off + k * 4 + 3, none⟩ = some (.int .i64 x3))
    (f0 : (Lit.int .i64 x0).wf = true) (f1 : (Lit.int .i64 x1).wf = true) (f2 : (Lit.int .i64 x2).wf = true)
    (hmr : ∀ o, (wr.alloc o).cell? ⟨w.heap.size, 0, none⟩ = some (.slice none 0 0))
    (hown2 : (wr.alloc (.cells #[.int .i64 x0, .int .i64 x1, .int .i64 x2, .int .i64 x3] 41)).ownsRow W1.heap.size 38 4 u7 l.length (flat l))
    (hbel2 : Below W1.heap.size W1 (wr.alloc (.cells #[.int .i64 x0, .int .i64 x1, .int .i64 x2, .int .i64 x3] 41))) (hszr : W1.heap.size ≤ wr.heap.size)
    (hlt : ∀ g, u7.ownBlock = some g → W1.heap.size ≤ g ∧ g < wr.heap.size) (hK : 5 ≤ pk x0 16) (hK' : pk x0 16 < 7) :
    Go.Code.wp Tryd.prog ((Tryd.f4.body.bind firstLoop).getD .skip) (Exit.then (fun a' w' => Head ao len cap w W1 a' w' ∧ 30 - (intOf (a'.tmps.getD 8 undef)).toNat < 30 - k) Q0) ⟨#[.slice ao len cap, .agg #[.slice none 0 0], .int .i64 0, undef, .pointer (some ⟨w.heap.size, 0, none⟩), undef, .slice none 0 0, u7, .int .i64 k, u9, u10, u11, u12, u13, u14, u15, u16, u17, u18, u19, u20, u21, u22, u23, u24, u25, u26, u27, u28, u29, u30, u31, u32, u33, u34, u35, u36, u37, u38, u39, u40, u41, u42, u43, u44, u45, u46, u47, u48, u49, u50, u51, u52, u53, u54, u55, u56, u57, u58, u59, u60, u61, u62, u63, u64, u65, u66, u67, u68, u69, u70, u71, u72, u73, u74, u75, u76, u77, u78, u79, u80, u81, u82, u83, u84, u85, u86, u87, u88, u89, u90, u91, u92, u93, u94, u95, u96, u97, u98, u99, u100, u101, u102, u103, u104, u105, u106, u107, u108, u109, u110, u111, u112, u113, u114, u115, u116, u117, u118, u119, u120, u121, u122, u123, u124, u125, u126, u127, u128, u129, u130, u131, u132, u133, u134, u135, u136, u137, u138, u139, u140, u141, u142, u143, u144, u145, u146, u147, u148, u149, u150, u151, u152, u153, u154, u155, u156, u157, u158, u159, u160, u161, u162, u163, u164, u165, u166, u167, u168, u169, u170, u171, u172, u173, u174, u175, u176, u177, u178, u179, u180, u181, u182, u183, u184, u185, u186, u187, u188, u189, u190, u191, u192, u193, u194, u195, u196, u197, u198, undef, undef, undef, undef, undef], []⟩ wr := by
  subst hao
  have h1I : (k : Int) < len := by omega
  have h2I : (k : Int) < 30 := by omega
  have hsz2 := hbel2.size
  have bK : (pk x0 16 : Int) < 16 := (hpk x0 16 f0 (by decide) (by decide)).1
  have bA4 : (pk x1 4 : Int) < 4 := (hpk x1 4 f1 (by decide) (by decide)).1
  have bA250 : (pk x1 250 : Int) < 250 := (hpk x1 250 f1 (by decide) (by decide)).1
  have bB4 : (pk x2 4 : Int) < 4 := (hpk x2 4 f2 (by decide) (by decide)).1
  conv => arg 2; whnf
  have c0 : (5 : Int) ≤ pk x0 16 := by omega
  have c1 : (pk x0 16 : Int) < 7 := by omega
  by_cases hp : pk x2 12 = 0
  · go_wp2_with (first
      | (go_at_call 8; refine ((hpk _ _ (by assumption) (by decide) (by decide)).2 _).mono ?_; rintro e w' ⟨rfl, rfl⟩)
      | (at_builtin; refine wpList_append_own _ rfl (.tmp 82) (.tmp 90) 23 rfl W1.heap.size 38 i0 (.agg #[.int .i64 0, .int .i64 0, .int .i64 0, .int .i64 0]) 4 32 Tryd.underlying23 hi hz0 hz1 hz2 rfl (by decide) _ _ _ rfl (hown2.alloc _) ⟨wr.heap.size + 1, 0, none⟩ 3 3 [.int .i64 1, .int .i64 (pk x1 250 : Int), .int .i64 0, .int .i64 0, .int .i64 6, .int .i64 0, .int .i64 0, .int .i64 0, .int .i64 5, .int .i64 (pk x2 4 : Int), .int .i64 0, .int .i64 0] rfl rfl news_at2 (flat_one [(1, (pk x1 250 : Int), 0, 0), (6, 0, 0, 0), (5, (pk x2 4 : Int), 0, 0)]) (by unfold maxLen; omega) (by omega) (by simp; omega) ?_; intro v' w4 hown4 hgrow4 _))
    refine ⟨?_, by simp [intOf]; omega⟩
    unfold Head
    refine ⟨_, _, _, _, _, _, _, _, _, _, _, _, _, _, _, _, _, _, _, _, _, _, _, _, _, _, _, _, _, _, _, _, _, _, _, _, _, _, _, _, _, _, _, _, _, _, _, _, _, _, _, _, _, _, _, _, _, _, _, _, _, _, _, _, _, _, _, _, _, _, _, _, _, _, _, _, _, _, _, _, _, _, _, _, _, _, _, _, _, _, _, _, _, _, _, _, _, _, _, _, _, _, _, _, _, _, _, _, _, _, _, _, _, _, _, _, _, _, _, _, _, _, _, _, _, _, _, _, _, _, _, _, _, _, _, _, _, _, _, _, _, _, _, _, _, _, _, _, _, _, _, _, _, _, _, _, _, _, _, _, _, _, _, _, _, _, _, _, _, _, _, _, _, _, _, _, _, _, _, _, _, _, _, _, _, _, _, _, _, _, _, _, ?_, rfl⟩
    exact ⟨k + 1, l ++ [(1, (pk x1 250 : Int), 0, 0), (6, 0, 0, 0), (5, (pk x2 4 : Int), 0, 0)], by omega, by go_num, by simp; omega, Ok_append hok (Ok_cons (q := (1, (pk x1 250 : Int), 0, 0)) (push_ok (pk x1 250 : Int) (by omega) (by omega)) (Ok_cons (q := (6, 0, 0, 0)) (load_ok) (Ok_cons (q := (5, (pk x2 4 : Int), 0, 0)) (put_ok (pk x2 4 : Int) (by omega) (by omega)) (Ok_nil)))), by rw [List.length_append, flat_append]; exact hown4, (hbel2.alloc hsz2 _).grown hgrow4 (by simp; omega) (fun g hg => (hlt g hg).1)⟩
  · have hp2 : ((pk x2 12 : Int) == 0) = false := by simpa using hp
    go_wp2_with (first
      | (go_at_call 8; refine ((hpk _ _ (by assumption) (by decide) (by decide)).2 _).mono ?_; rintro e w' ⟨rfl, rfl⟩)
      | (at_builtin; refine wpList_append_own _ rfl (.tmp 82) (.tmp 90) 23 rfl W1.heap.size 38 i0 (.agg #[.int .i64 0, .int .i64 0, .int .i64 0, .int .i64 0]) 4 32 Tryd.underlying23 hi hz0 hz1 hz2 rfl (by decide) _ _ _ rfl (hown2.alloc _) ⟨wr.heap.size + 1, 0, none⟩ 3 3 [.int .i64 1, .int .i64 (pk x1 4 : Int), .int .i64 0, .int .i64 0, .int .i64 6, .int .i64 0, .int .i64 0, .int .i64 0, .int .i64 5, .int .i64 (pk x2 4 : Int), .int .i64 0, .int .i64 0] rfl rfl news_at2 (flat_one [(1, (pk x1 4 : Int), 0, 0), (6, 0, 0, 0), (5, (pk x2 4 : Int), 0, 0)]) (by unfold maxLen; omega) (by omega) (by simp; omega) ?_; intro v' w4 hown4 hgrow4 _))
    refine ⟨?_, by simp [intOf]; omega⟩
    unfold Head
    refine ⟨_, _, _, _, _, _, _, _, _, _, _, _, _, _, _, _, _, _, _, _, _, _, _, _, _, _, _, _, _, _, _, _, _, _, _, _, _, _, _, _, _, _, _, _, _, _, _, _, _, _, _, _, _, _, _, _, _, _, _, _, _, _, _, _, _, _, _, _, _, _, _, _, _, _, _, _, _, _, _, _, _, _, _, _, _, _, _, _, _, _, _, _, _, _, _, _, _, _, _, _, _, _, _, _, _, _, _, _, _, _, _, _, _, _, _, _, _, _, _, _, _, _, _, _, _, _, _, _, _, _, _, _, _, _, _, _, _, _, _, _, _, _, _, _, _, _, _, _, _, _, _, _, _, _, _, _, _, _, _, _, _, _, _, _, _, _, _, _, _, _, _, _, _, _, _, _, _, _, _, _, _, _, _, _, _, _, _, _, _, _, _, _, ?_, rfl⟩
    exact ⟨k + 1, l ++ [(1, (pk x1 4 : Int), 0, 0), (6, 0, 0, 0), (5, (pk x2 4 : Int), 0, 0)], by omega, by go_num, by simp; omega, Ok_append hok (Ok_cons (q := (1, (pk x1 4 : Int), 0, 0)) (push_ok (pk x1 4 : Int) (by omega) (by omega)) (Ok_cons (q := (6, 0, 0, 0)) (load_ok) (Ok_cons (q := (5, (pk x2 4 : Int), 0, 0)) (put_ok (pk x2 4 : Int) (by omega) (by omega)) (Ok_nil)))), by rw [List.length_append, flat_append]; exact hown4, (hbel2.alloc hsz2 _).grown hgrow4 (by simp; omega) (fun g hg => (hlt g hg).1)⟩
end Go.Proofs.YtbddgcaobcpanabDoor.Code
