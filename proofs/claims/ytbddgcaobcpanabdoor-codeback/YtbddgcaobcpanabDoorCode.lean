/-
  WHAT 'barbicankeep.Code' GIVES of raw things, with no part ahead: a list of instructions that may be; the call returns, and lays new memory alone.
  Conditions: none.
-/
import Derived.Test.YtbddgcaobcpanabDoorCodeA
import Derived.Test.YtbddgcaobcpanabDoorCodeB
import Derived.Test.YtbddgcaobcpanabDoorCodeC
import Derived.Test.YtbddgcaobcpanabDoorCodeD
import Derived.Test.YtbddgcaobcpanabDoorCodeE
namespace Go.Proofs.YtbddgcaobcpanabDoor.Code
open Go.RowKit Tab Go.Proofs.YtbddgcaobcpanabDoor.Check Lists Parts Go.Proofs.YtbddgcaobcpanabDoor.Good

set_option maxRecDepth 1000000 in
set_option maxHeartbeats 4000000 in
theorem code (ao : Option Addr) (len cap : Nat) (hlen : len ≤ 9223372036854775807) (x : Nat → Q) (w : World) (hin : Raws w ao len x) :
    Calls Tryd.prog 4 #[.slice ao len cap, .agg #[.slice none 0 0], .int .i64 0] w fun e w' => Below w.heap.size w w' ∧ ∃ v l, e = .returned v ∧ 2 ≤ l.length ∧ l.length ≤ 122 ∧ Ok l ∧ w'.ownsRow w.heap.size 38 4 v l.length (flat l) := by
  obtain ⟨i0, hi, hz0, hz1, hz2⟩ := info_parts info38
  obtain ⟨pk, hpk⟩ := picks
  go_enter Tryd.func4, Tryd.ntmps4
  go_wp2
  generalize hW1 : World.alloc w _ = W1
  have hm1 : W1.cell? ⟨w.heap.size, 0, none⟩ = some (.slice none 0 0) := by rw [← hW1]; simp
  have hbel1 : Below w.heap.size w W1 := by rw [← hW1]; exact below1 _ _
  have HS : Hid (W1.heap.size = w.heap.size + 1) := show _ = _ by rw [← hW1]; simp
  clear hW1
  refine wp_loop (Head ao len cap w W1) (fun a _ => 30 - (intOf (a.tmps.getD 8 undef)).toNat) ?_ ?_
  · unfold Head
    exact ⟨_, _, _, _, _, _, _, _, _, _, _, _, _, _, _, _, _, _, _, _, _, _, _, _, _, _, _, _, _, _, _, _, _, _, _, _, _, _, _, _, _, _, _, _, _, _, _, _, _, _, _, _, _, _, _, _, _, _, _, _, _, _, _, _, _, _, _, _, _, _, _, _, _, _, _, _, _, _, _, _, _, _, _, _, _, _, _, _, _, _, _, _, _, _, _, _, _, _, _, _, _, _, _, _, _, _, _, _, _, _, _, _, _, _, _, _, _, _, _, _, _, _, _, _, _, _, _, _, _, _, _, _, _, _, _, _, _, _, _, _, _, _, _, _, _, _, _, _, _, _, _, _, _, _, _, _, _, _, _, _, _, _, _, _, _, _, _, _, _, _, _, _, _, _, _, _, _, _, _, _, _, _, _, _, _, _, _, _, _, _, _, _, ⟨0, [], by omega, rfl, by simp, Ok_nil, World.ownsRow_nil _ _ _ _, Below.refl _ _⟩, rfl⟩
  · intro a' wr hI
    unfold Head at hI
    obtain ⟨u7, hI⟩ := hI
    obtain ⟨u8, hI⟩ := hI
    obtain ⟨u9, hI⟩ := hI
    obtain ⟨u10, hI⟩ := hI
    obtain ⟨u11, hI⟩ := hI
    obtain ⟨u12, hI⟩ := hI
    obtain ⟨u13, hI⟩ := hI
    obtain ⟨u14, hI⟩ := hI
    obtain ⟨u15, hI⟩ := hI
    obtain ⟨u16, hI⟩ := hI
    obtain ⟨u17, hI⟩ := hI
    obtain ⟨u18, hI⟩ := hI
    obtain ⟨u19, hI⟩ := hI
    obtain ⟨u20, hI⟩ := hI
    obtain ⟨u21, hI⟩ := hI
    obtain ⟨u22, hI⟩ := hI
    obtain ⟨u23, hI⟩ := hI
    obtain ⟨u24, hI⟩ := hI
    obtain ⟨u25, hI⟩ := hI
    obtain ⟨u26, hI⟩ := hI
    obtain ⟨u27, hI⟩ := hI
    obtain ⟨u28, hI⟩ := hI
    obtain ⟨u29, hI⟩ := hI
    obtain ⟨u30, hI⟩ := hI
    obtain ⟨u31, hI⟩ := hI
    obtain ⟨u32, hI⟩ := hI
    obtain ⟨u33, hI⟩ := hI
    obtain ⟨u34, hI⟩ := hI
    obtain ⟨u35, hI⟩ := hI
    obtain ⟨u36, hI⟩ := hI
    obtain ⟨u37, hI⟩ := hI
    obtain ⟨u38, hI⟩ := hI
    obtain ⟨u39, hI⟩ := hI
    obtain ⟨u40, hI⟩ := hI
    obtain ⟨u41, hI⟩ := hI
    obtain ⟨u42, hI⟩ := hI
    obtain ⟨u43, hI⟩ := hI
    obtain ⟨u44, hI⟩ := hI
    obtain ⟨u45, hI⟩ := hI
    obtain ⟨u46, hI⟩ := hI
    obtain ⟨u47, hI⟩ := hI
    obtain ⟨u48, hI⟩ := hI
    obtain ⟨u49, hI⟩ := hI
    obtain ⟨u50, hI⟩ := hI
    obtain ⟨u51, hI⟩ := hI
    obtain ⟨u52, hI⟩ := hI
    obtain ⟨u53, hI⟩ := hI
    obtain ⟨u54, hI⟩ := hI
    obtain ⟨u55, hI⟩ := hI
    obtain ⟨u56, hI⟩ := hI
    obtain ⟨u57, hI⟩ := hI
    obtain ⟨u58, hI⟩ := hI
    obtain ⟨u59, hI⟩ := hI
    obtain ⟨u60, hI⟩ := hI
    obtain ⟨u61, hI⟩ := hI
    obtain ⟨u62, hI⟩ := hI
    obtain ⟨u63, hI⟩ := hI
    obtain ⟨u64, hI⟩ := hI
    obtain ⟨u65, hI⟩ := hI
    obtain ⟨u66, hI⟩ := hI
    obtain ⟨u67, hI⟩ := hI
    obtain ⟨u68, hI⟩ := hI
    obtain ⟨u69, hI⟩ := hI
    obtain ⟨u70, hI⟩ := hI
    obtain ⟨u71, hI⟩ := hI
    obtain ⟨u72, hI⟩ := hI
    obtain ⟨u73, hI⟩ := hI
    obtain ⟨u74, hI⟩ := hI
    obtain ⟨u75, hI⟩ := hI
    obtain ⟨u76, hI⟩ := hI
    obtain ⟨u77, hI⟩ := hI
    obtain ⟨u78, hI⟩ := hI
    obtain ⟨u79, hI⟩ := hI
    obtain ⟨u80, hI⟩ := hI
    obtain ⟨u81, hI⟩ := hI
    obtain ⟨u82, hI⟩ := hI
    obtain ⟨u83, hI⟩ := hI
    obtain ⟨u84, hI⟩ := hI
    obtain ⟨u85, hI⟩ := hI
    obtain ⟨u86, hI⟩ := hI
    obtain ⟨u87, hI⟩ := hI
    obtain ⟨u88, hI⟩ := hI
    obtain ⟨u89, hI⟩ := hI
    obtain ⟨u90, hI⟩ := hI
    obtain ⟨u91, hI⟩ := hI
    obtain ⟨u92, hI⟩ := hI
    obtain ⟨u93, hI⟩ := hI
    obtain ⟨u94, hI⟩ := hI
    obtain ⟨u95, hI⟩ := hI
    obtain ⟨u96, hI⟩ := hI
    obtain ⟨u97, hI⟩ := hI
    obtain ⟨u98, hI⟩ := hI
    obtain ⟨u99, hI⟩ := hI
    obtain ⟨u100, hI⟩ := hI
    obtain ⟨u101, hI⟩ := hI
    obtain ⟨u102, hI⟩ := hI
    obtain ⟨u103, hI⟩ := hI
    obtain ⟨u104, hI⟩ := hI
    obtain ⟨u105, hI⟩ := hI
    obtain ⟨u106, hI⟩ := hI
    obtain ⟨u107, hI⟩ := hI
    obtain ⟨u108, hI⟩ := hI
    obtain ⟨u109, hI⟩ := hI
    obtain ⟨u110, hI⟩ := hI
    obtain ⟨u111, hI⟩ := hI
    obtain ⟨u112, hI⟩ := hI
    obtain ⟨u113, hI⟩ := hI
    obtain ⟨u114, hI⟩ := hI
    obtain ⟨u115, hI⟩ := hI
    obtain ⟨u116, hI⟩ := hI
    obtain ⟨u117, hI⟩ := hI
    obtain ⟨u118, hI⟩ := hI
    obtain ⟨u119, hI⟩ := hI
    obtain ⟨u120, hI⟩ := hI
    obtain ⟨u121, hI⟩ := hI
    obtain ⟨u122, hI⟩ := hI
    obtain ⟨u123, hI⟩ := hI
    obtain ⟨u124, hI⟩ := hI
    obtain ⟨u125, hI⟩ := hI
    obtain ⟨u126, hI⟩ := hI
    obtain ⟨u127, hI⟩ := hI
    obtain ⟨u128, hI⟩ := hI
    obtain ⟨u129, hI⟩ := hI
    obtain ⟨u130, hI⟩ := hI
    obtain ⟨u131, hI⟩ := hI
    obtain ⟨u132, hI⟩ := hI
    obtain ⟨u133, hI⟩ := hI
    obtain ⟨u134, hI⟩ := hI
    obtain ⟨u135, hI⟩ := hI
    obtain ⟨u136, hI⟩ := hI
    obtain ⟨u137, hI⟩ := hI
    obtain ⟨u138, hI⟩ := hI
    obtain ⟨u139, hI⟩ := hI
    obtain ⟨u140, hI⟩ := hI
    obtain ⟨u141, hI⟩ := hI
    obtain ⟨u142, hI⟩ := hI
    obtain ⟨u143, hI⟩ := hI
    obtain ⟨u144, hI⟩ := hI
    obtain ⟨u145, hI⟩ := hI
    obtain ⟨u146, hI⟩ := hI
    obtain ⟨u147, hI⟩ := hI
    obtain ⟨u148, hI⟩ := hI
    obtain ⟨u149, hI⟩ := hI
    obtain ⟨u150, hI⟩ := hI
    obtain ⟨u151, hI⟩ := hI
    obtain ⟨u152, hI⟩ := hI
    obtain ⟨u153, hI⟩ := hI
    obtain ⟨u154, hI⟩ := hI
    obtain ⟨u155, hI⟩ := hI
    obtain ⟨u156, hI⟩ := hI
    obtain ⟨u157, hI⟩ := hI
    obtain ⟨u158, hI⟩ := hI
    obtain ⟨u159, hI⟩ := hI
    obtain ⟨u160, hI⟩ := hI
    obtain ⟨u161, hI⟩ := hI
    obtain ⟨u162, hI⟩ := hI
    obtain ⟨u163, hI⟩ := hI
    obtain ⟨u164, hI⟩ := hI
    obtain ⟨u165, hI⟩ := hI
    obtain ⟨u166, hI⟩ := hI
    obtain ⟨u167, hI⟩ := hI
    obtain ⟨u168, hI⟩ := hI
    obtain ⟨u169, hI⟩ := hI
    obtain ⟨u170, hI⟩ := hI
    obtain ⟨u171, hI⟩ := hI
    obtain ⟨u172, hI⟩ := hI
    obtain ⟨u173, hI⟩ := hI
    obtain ⟨u174, hI⟩ := hI
    obtain ⟨u175, hI⟩ := hI
    obtain ⟨u176, hI⟩ := hI
    obtain ⟨u177, hI⟩ := hI
    obtain ⟨u178, hI⟩ := hI
    obtain ⟨u179, hI⟩ := hI
    obtain ⟨u180, hI⟩ := hI
    obtain ⟨u181, hI⟩ := hI
    obtain ⟨u182, hI⟩ := hI
    obtain ⟨u183, hI⟩ := hI
    obtain ⟨u184, hI⟩ := hI
    obtain ⟨u185, hI⟩ := hI
    obtain ⟨u186, hI⟩ := hI
    obtain ⟨u187, hI⟩ := hI
    obtain ⟨u188, hI⟩ := hI
    obtain ⟨u189, hI⟩ := hI
    obtain ⟨u190, hI⟩ := hI
    obtain ⟨u191, hI⟩ := hI
    obtain ⟨u192, hI⟩ := hI
    obtain ⟨u193, hI⟩ := hI
    obtain ⟨u194, hI⟩ := hI
    obtain ⟨u195, hI⟩ := hI
    obtain ⟨u196, hI⟩ := hI
    obtain ⟨u197, hI⟩ := hI
    obtain ⟨u198, hI⟩ := hI
    obtain ⟨⟨k, l, hk, rfl, hll, hok, hown, hbel⟩, rfl⟩ := hI
    have hkI : (k : Int) ≤ 30 := by omega
    by_cases hc : k < len ∧ k < 30
    · obtain ⟨h1, h2⟩ := hc
      obtain ⟨⟨bl, off, hao, t0, t1, t2, t3⟩, f0, f1, f2, f3⟩ := hin k h1
      have hbl : bl < w.heap.size := World.block_lt_of_cell? w _ t0
      have hbw : bl < W1.heap.size := by rw [HS.out]; omega
      have s0 := (hbel.cell (p := ⟨bl, off + k * 4, none⟩) hbw).trans ((hbel1.cell (p := ⟨bl, off + k * 4, none⟩) hbl).trans t0)
      have s1 := (hbel.cell (p := ⟨bl, off + k * 4 + 1, none⟩) hbw).trans ((hbel1.cell (p := ⟨bl, off + k * 4 + 1, none⟩) hbl).trans t1)
      have s2 := (hbel.cell (p := ⟨bl, off + k * 4 + 2, none⟩) hbw).trans ((hbel1.cell (p := ⟨bl, off + k * 4 + 2, none⟩) hbl).trans t2)
      have s3 := (hbel.cell (p := ⟨bl, off + k * 4 + 3, none⟩) hbw).trans ((hbel1.cell (p := ⟨bl, off + k * 4 + 3, none⟩) hbl).trans t3)
      have hmr : ∀ o, (wr.alloc o).cell? ⟨w.heap.size, 0, none⟩ = some (.slice none 0 0) := fun o =>
        (World.cell?_alloc_old wr o ⟨w.heap.size, 0, none⟩ (by have := hbel.size; have := HS.out; simp only; omega)).trans ((hbel.cell (p := ⟨w.heap.size, 0, none⟩) (by have := HS.out; simp only; omega)).trans hm1)
      have hown2 := hown.alloc (.cells #[.int .i64 (x k).1, .int .i64 (x k).2.1, .int .i64 (x k).2.2.1, .int .i64 (x k).2.2.2] 41)
      have hbel2 := hbel.alloc hbel.size (.cells #[.int .i64 (x k).1, .int .i64 (x k).2.1, .int .i64 (x k).2.2.1, .int .i64 (x k).2.2.2] 41)
      have hlt : ∀ g, u7.ownBlock = some g → W1.heap.size ≤ g ∧ g < wr.heap.size := hown.lt
      have bK : (pk (x k).1 16 : Int) < 16 := (hpk (x k).1 16 f0 (by decide) (by decide)).1
      rcases (show pk (x k).1 16 < 3 ∨ (3 ≤ pk (x k).1 16 ∧ pk (x k).1 16 < 5) ∨ (5 ≤ pk (x k).1 16 ∧ pk (x k).1 16 < 7) ∨ (7 ≤ pk (x k).1 16 ∧ pk (x k).1 16 < 13) ∨ pk (x k).1 16 = 13 ∨ pk (x k).1 16 = 14 ∨ pk (x k).1 16 = 15 by omega) with hK | ⟨hK, hK'⟩ | ⟨hK, hK'⟩ | ⟨hK, hK'⟩ | hK | hK | hK
      · exact case1 hao hlen hi hz0 hz1 hz2 hpk hll hok h1 h2 s0 s1 s2 s3 f0 f1 f2 hmr hown2 hbel2 hbel.size hlt hK
      · exact case2 hao hlen hi hz0 hz1 hz2 hpk hll hok h1 h2 s0 s1 s2 s3 f0 f1 f2 hmr hown2 hbel2 hbel.size hlt hK hK'
      · exact case3 hao hlen hi hz0 hz1 hz2 hpk hll hok h1 h2 s0 s1 s2 s3 f0 f1 f2 hmr hown2 hbel2 hbel.size hlt hK hK'
      · exact case4 hao hlen hi hz0 hz1 hz2 hpk hll hok h1 h2 s0 s1 s2 s3 f0 f1 f2 hmr hown2 hbel2 hbel.size hlt hK hK'
      · exact case5 hao hlen hi hz0 hz1 hz2 hpk hll hok h1 h2 s0 s1 s2 s3 f0 f1 f2 hmr hown2 hbel2 hbel.size hlt hK
      · exact case6 hao hlen hi hz0 hz1 hz2 hpk hll hok h1 h2 s0 s1 s2 s3 f0 f1 f2 hmr hown2 hbel2 hbel.size hlt hK
      · exact case7 hao hlen hi hz0 hz1 hz2 hpk hll hok h1 h2 s0 s1 s2 s3 f0 f1 f2 hmr hown2 hbel2 hbel.size hlt hK
    · have hfin := HS.out
      have hszr := hbel.size
      clear hin hm1 HS
      by_cases hk1 : k < len
      · have hk30I : (30 : Int) ≤ k := by omega
        have hk1I : (k : Int) < len := by omega
        go_wp2_with (at_builtin; refine wpList_append_own _ rfl (.tmp 199) (.tmp 202) 23 rfl W1.heap.size 38 i0 (.agg #[.int .i64 0, .int .i64 0, .int .i64 0, .int .i64 0]) 4 32 Tryd.underlying23 hi hz0 hz1 hz2 rfl (by decide) _ _ _ rfl (hown.alloc _) ⟨wr.heap.size, 0, none⟩ 2 2 [.int .i64 4, .int .i64 0, .int .i64 0, .int .i64 0, .int .i64 13, .int .i64 0, .int .i64 0, .int .i64 0] rfl rfl news_at (flat_one [(4, 0, 0, 0), (13, 0, 0, 0)]) (by unfold maxLen; omega) (by omega) (by simp; omega) ?_; intro v' w4 hown4 hgrow4 _)
        go_ret
        exact ⟨hbel1.trans (((hbel.alloc hbel.size _).grown hgrow4 (by simp; omega) (fun g hg => (hown.lt g hg).1)).mono (by omega)), v', l ++ [(4, 0, 0, 0), (13, 0, 0, 0)], rfl, by simp, by simp; omega, Ok_append hok (Ok_cons (q := (4, 0, 0, 0)) (get_ok 0 (by omega) (by omega)) (Ok_cons (q := (13, 0, 0, 0)) (ret_ok) (Ok_nil))), by rw [List.length_append, flat_append]; exact owns_base hown4 (by omega)⟩
      · have hk1I : (len : Int) ≤ k := by omega
        go_wp2_with (at_builtin; refine wpList_append_own _ rfl (.tmp 199) (.tmp 202) 23 rfl W1.heap.size 38 i0 (.agg #[.int .i64 0, .int .i64 0, .int .i64 0, .int .i64 0]) 4 32 Tryd.underlying23 hi hz0 hz1 hz2 rfl (by decide) _ _ _ rfl (hown.alloc _) ⟨wr.heap.size, 0, none⟩ 2 2 [.int .i64 4, .int .i64 0, .int .i64 0, .int .i64 0, .int .i64 13, .int .i64 0, .int .i64 0, .int .i64 0] rfl rfl news_at (flat_one [(4, 0, 0, 0), (13, 0, 0, 0)]) (by unfold maxLen; omega) (by omega) (by simp; omega) ?_; intro v' w4 hown4 hgrow4 _)
        go_ret
        exact ⟨hbel1.trans (((hbel.alloc hbel.size _).grown hgrow4 (by simp; omega) (fun g hg => (hown.lt g hg).1)).mono (by omega)), v', l ++ [(4, 0, 0, 0), (13, 0, 0, 0)], rfl, by simp, by simp; omega, Ok_append hok (Ok_cons (q := (4, 0, 0, 0)) (get_ok 0 (by omega) (by omega)) (Ok_cons (q := (13, 0, 0, 0)) (ret_ok) (Ok_nil))), by rw [List.length_append, flat_append]; exact owns_base hown4 (by omega)⟩
end Go.Proofs.YtbddgcaobcpanabDoor.Code
