/-
  HOW THE DOCUMENT'S ANSWER RunOf BEGINS: the words are looked at; then its first frame lies there.
  Conditions: the image's parts, the data and the words lie there.
  RunOf's FRAME OF 548 SLOTS: which of them are known between its pieces; the others stand behind one letter.
  Conditions: none.
-/
import Derived.Test.YtmbbkabecipkaacDoorWhole17
import Derived.Laws.CopyOwn
import Derived.OwnWalk
import Derived.Test.YtmbbkabecipkaacDoorWhole13
namespace Go.Proofs.YtmbbkabecipkaacDoor.RunInit
open Go.RowKit Tab Go.Proofs.YtmbbkabecipkaacDoor.Check Lists Go.Proofs.YtmbbkabecipkaacDoor.Read Img RunBad RunNot

set_option maxRecDepth 100000 in
set_option maxHeartbeats 4000000 in
theorem no_word (ao : Option Addr) (len cap : Nat) (hlen : len ≤ maxLen) (P : Nat → PartD) (da : Option Addr) (dlen dcap : Nat) (z : Nat → Int) (aa : Option Addr) (alen acap : Nat) (az : Nat → Int) (k j : Nat) (fuel : Int) (w : World) (hin : Parts w ao len P) (hd : Ints w da dlen z) (ha : Ints w aa alen az) (er : dataFault P len z dlen = 0)
    (hk : k < len) (hj : j < (P k).el) (hn : (alen : Int) = (P k).prs j) (hf0 : 0 ≤ fuel) (hf1 : fuel ≤ 100000) (hal : alen ≤ 4) (hw : first (fun i => wordFault (az i)) alen ≠ 0) :
    Calls Tryd.prog 15 #[.agg #[.slice ao len cap], .slice da dlen dcap, .int .i64 k, .int .i64 j, .slice aa alen acap, .int .i64 fuel] w fun e w' => e = .returned (.tuple #[.agg zero, .int .i64 2]) ∧ Below w.heap.size w w' := by
  have k8 := RunNot.begun ao len cap hlen P da dlen dcap z w hin hd er
  have h5 : (len : Int) ≤ 5 := by have := (imageFault_zero (dataFault_zero er).1).1; omega
  have hsz := partFault_sizes (first_zero (imageFault_zero (dataFault_zero er).1).2 k hk)
  have hel : ((P k).el : Int) ≤ 8 := by omega
  have hkI : (k : Int) < len := by omega
  have keep : ∀ w', Below w.heap.size w w' → Parts w' ao len P := fun w' hb => Parts_below hin hb
  have keepA : ∀ w', Below w.heap.size w w' → Ints w' aa alen az := fun w' hb => Ints_below ha hb
  obtain ⟨ea, eea⟩ : ∃ x, x = (P k).ea := ⟨_, rfl⟩
  obtain ⟨el, eel⟩ : ∃ x, x = (P k).el := ⟨_, rfl⟩
  obtain ⟨ec, eec⟩ : ∃ x, x = (P k).ec := ⟨_, rfl⟩
  rw [← eel] at hel
  have place : ∀ w', Below w.heap.size w w' → ∃ bl off, ao = some ⟨bl, off, none⟩ ∧ w'.cell? ⟨bl, off + k * 4 + 1, none⟩ = some (.slice ea el ec) := by
    intro w' hb
    obtain ⟨bl, off, e, _, _, t1, _, _⟩ := Parts_at (keep w' hb) hk
    rw [← eea, ← eel, ← eec] at t1
    exact ⟨bl, off, e, t1⟩
  obtain ⟨pr, epr⟩ : ∃ x, x = (P k).prs j := ⟨_, rfl⟩
  have hjI : (j : Int) < el := by omega
  have spot : ∀ w', Below w.heap.size w w' → ∃ bl off, ea = some ⟨bl, off, none⟩ ∧ w'.cell? ⟨bl, off + j * 2 + 1, none⟩ = some (.int .i64 pr) := by
    intro w' hb
    obtain ⟨bl, off, e, _, t1⟩ := (keep w' hb k hk).2.2 j (by omega)
    rw [← epr] at t1
    exact ⟨bl, off, by rw [eea]; exact e, t1⟩
  rw [← epr] at hn
  subst hn
  obtain ⟨f, ef⟩ : ∃ f : Nat → Int, f = fun i => wordFault (az i) := ⟨_, rfl⟩
  rw [← ef] at hw
  have HW : Hid (first f alen ≠ 0) := hw
  have hfw : ∀ i, Hid (f i = wordFault (az i)) := fun i => by rw [ef]; exact (rfl : wordFault (az i) = _)
  have halI : (alen : Int) ≤ 4 := by omega
  clear eea eel eec keep epr er hin hd hlen ha ef hw hsz
  go_enter Tryd.func15, Tryd.ntmps15
  go_wp2_with (first
    | (go_at_call 26; refine k8.mono ?_; rintro e w1 ⟨rfl, hb2, q0, hz1⟩; have HZ1 : Hid _ := hz1; clear hz1; obtain ⟨bl, off, rfl, t1⟩ := place _ hb2; obtain ⟨bl2, off2, rfl, t2⟩ := spot _ hb2)
    | (go_at_call 27; refine (isIn_yes _ _ _ _ (by omega) (by omega)).mono ?_; rintro e w' ⟨rfl, rfl⟩))
  have hA1 := keepA _ hb2
  go_loop [14, 15] (fun e i => ∃ k : Nat, k ≤ alen ∧ i = .int .i64 k ∧ ((e = .int .i64 0 ∧ first f k = 0) ∨ (e = .int .i64 2 ∧ 0 < k))) (fun _ i => alen - (intOf i).toNat)
  case atStart => exact ⟨0, Nat.zero_le _, rfl, .inl ⟨rfl, rfl⟩⟩
  case round =>
    obtain ⟨m, hm, rfl, he⟩ := hrel
    rcases he with ⟨rfl, hz⟩ | ⟨rfl, hpos⟩
    · have HZ : Hid (first f m = 0) := hz
      clear hz
      by_cases hml : m < alen
      · obtain ⟨bl3, off3, rfl, t⟩ := hA1 m hml
        have s0 := t m hml
        obtain ⟨x, ex⟩ : ∃ x, x = az m := ⟨_, rfl⟩
        rw [← ex] at s0
        have EX : Hid (f m = wordFault x) := by rw [(hfw m).out, ex]; exact (rfl : wordFault (az m) = _)
        have hmI : (m : Int) < alen := by omega
        clear ex t hA1 keepA hfw
        by_cases hx : 0 ≤ x ∧ x ≤ 65535
        · have e2 : Hid (wordFault x = 0) := if_pos hx
          go_wp2_with (go_at_call 28; refine (isWord _ _).mono ?_; rintro e w' ⟨rfl, rfl⟩)
          go_round
          case rel => exact ⟨m + 1, by omega, by go_num, .inl ⟨rfl, by rw [first_succ HZ.out, EX.out]; exact e2.out⟩⟩
          case measure => simp [intOf]; omega
        · have d : decide (0 ≤ x ∧ x ≤ 65535) = false := decide_eq_false hx
          clear hx
          go_wp2_with (go_at_call 28; refine (isWord _ _).mono ?_; rintro e w' ⟨rfl, rfl⟩)
          go_round
          case rel => exact ⟨m + 1, by omega, by go_num, .inr ⟨rfl, by omega⟩⟩
          case measure => simp [intOf]; omega
      · obtain rfl : m = alen := by omega
        exact absurd HZ.out HW.out
    · clear hA1 keepA hfw
      by_cases hml : m < alen
      · have hmI : (m : Int) < alen := by omega
        go_wp2_with ((with_reducible show wpList _ _ _ ({ dst := none, op := _, type := _, pos := "low.go:256", after := _, guard := _ } :: _) _ _); refine wpList_store_row rfl 41 _ _ rfl (w.heap.size + 1) zero rfl rfl 41 _ HZ1.out size41 rfl zero_one ?_)
        refine bodyPost_ret (results5 _ _ (w.heap.size + 1) zero 41 (0, 0) _ rfl rfl (setRow_heap _ _ _ _ _ _ HZ1.out) rfl) rfl ?_
        exact ⟨rfl, below_row hb2 (by omega) _⟩
      · obtain rfl : m = alen := by omega
        go_wp2_with ((with_reducible show wpList _ _ _ ({ dst := none, op := _, type := _, pos := "low.go:256", after := _, guard := _ } :: _) _ _); refine wpList_store_row rfl 41 _ _ rfl (w.heap.size + 1) zero rfl rfl 41 _ HZ1.out size41 rfl zero_one ?_)
        refine bodyPost_ret (results5 _ _ (w.heap.size + 1) zero 41 (0, 0) _ rfl rfl (setRow_heap _ _ _ _ _ _ HZ1.out) rfl) rfl ?_
        exact ⟨rfl, below_row hb2 (by omega) _⟩
end Go.Proofs.YtmbbkabecipkaacDoor.RunInit

namespace Go.Proofs.YtmbbkabecipkaacDoor.RSlot
open Go.RowKit

structure Sl (A : Array Value) (fuel : Int) (bM bR bO : Nat) (vR v19 v20 v21 v22 v23 v24 v25 v28 : Value) : Prop where
  size : A.size = 548
  s5 : A.getD 5 undef = .int .i64 fuel
  s6 : A.getD 6 undef = .pointer (some ⟨bM, 0, none⟩)
  s12 : A.getD 12 undef = .pointer (some ⟨bR, 0, none⟩)
  s13 : A.getD 13 undef = .int .i64 0
  s16 : A.getD 16 undef = .pointer (some ⟨bO, 0, none⟩)
  s18 : A.getD 18 undef = vR
  s19 : A.getD 19 undef = v19
  s20 : A.getD 20 undef = v20
  s21 : A.getD 21 undef = v21
  s22 : A.getD 22 undef = v22
  s23 : A.getD 23 undef = v23
  s24 : A.getD 24 undef = v24
  s25 : A.getD 25 undef = v25
  s28 : A.getD 28 undef = v28

set_option maxRecDepth 1000000 in
set_option maxHeartbeats 4000000 in
theorem fold {A : Array Value} {fuel : Int} {bM bR bO : Nat} {vR v19 v20 v21 v22 v23 v24 v25 v28 : Value} (h : Sl A fuel bM bR bO vR v19 v20 v21 v22 v23 v24 v25 v28) : ∃ u : Nat → Value, A = #[u 0, u 1, u 2, u 3, u 4, .int .i64 fuel, .pointer (some ⟨bM, 0, none⟩), u 7, u 8, u 9, u 10, u 11, .pointer (some ⟨bR, 0, none⟩), .int .i64 0, u 14, u 15, .pointer (some ⟨bO, 0, none⟩), u 17, vR, v19, v20, v21, v22, v23, v24, v25, u 26, u 27, v28, u 29, u 30, u 31, u 32, u 33, u 34, u 35, u 36, u 37, u 38, u 39, u 40, u 41, u 42, u 43, u 44, u 45, u 46, u 47, u 48, u 49, u 50, u 51, u 52, u 53, u 54, u 55, u 56, u 57, u 58, u 59, u 60, u 61, u 62, u 63, u 64, u 65, u 66, u 67, u 68, u 69, u 70, u 71, u 72, u 73, u 74, u 75, u 76, u 77, u 78, u 79, u 80, u 81, u 82, u 83, u 84, u 85, u 86, u 87, u 88, u 89, u 90, u 91, u 92, u 93, u 94, u 95, u 96, u 97, u 98, u 99, u 100, u 101, u 102, u 103, u 104, u 105, u 106, u 107, u 108, u 109, u 110, u 111, u 112, u 113, u 114, u 115, u 116, u 117, u 118, u 119, u 120, u 121, u 122, u 123, u 124, u 125, u 126, u 127, u 128, u 129, u 130, u 131, u 132, u 133, u 134, u 135, u 136, u 137, u 138, u 139, u 140, u 141, u 142, u 143, u 144, u 145, u 146, u 147, u 148, u 149, u 150, u 151, u 152, u 153, u 154, u 155, u 156, u 157, u 158, u 159, u 160, u 161, u 162, u 163, u 164, u 165, u 166, u 167, u 168, u 169, u 170, u 171, u 172, u 173, u 174, u 175, u 176, u 177, u 178, u 179, u 180, u 181, u 182, u 183, u 184, u 185, u 186, u 187, u 188, u 189, u 190, u 191, u 192, u 193, u 194, u 195, u 196, u 197, u 198, u 199, u 200, u 201, u 202, u 203, u 204, u 205, u 206, u 207, u 208, u 209, u 210, u 211, u 212, u 213, u 214, u 215, u 216, u 217, u 218, u 219, u 220, u 221, u 222, u 223, u 224, u 225, u 226, u 227, u 228, u 229, u 230, u 231, u 232, u 233, u 234, u 235, u 236, u 237, u 238, u 239, u 240, u 241, u 242, u 243, u 244, u 245, u 246, u 247, u 248, u 249, u 250, u 251, u 252, u 253, u 254, u 255, u 256, u 257, u 258, u 259, u 260, u 261, u 262, u 263, u 264, u 265, u 266, u 267, u 268, u 269, u 270, u 271, u 272, u 273, u 274, u 275, u 276, u 277, u 278, u 279, u 280, u 281, u 282, u 283, u 284, u 285, u 286, u 287, u 288, u 289, u 290, u 291, u 292, u 293, u 294, u 295, u 296, u 297, u 298, u 299, u 300, u 301, u 302, u 303, u 304, u 305, u 306, u 307, u 308, u 309, u 310, u 311, u 312, u 313, u 314, u 315, u 316, u 317, u 318, u 319, u 320, u 321, u 322, u 323, u 324, u 325, u 326, u 327, u 328, u 329, u 330, u 331, u 332, u 333, u 334, u 335, u 336, u 337, u 338, u 339, u 340, u 341, u 342, u 343, u 344, u 345, u 346, u 347, u 348, u 349, u 350, u 351, u 352, u 353, u 354, u 355, u 356, u 357, u 358, u 359, u 360, u 361, u 362, u 363, u 364, u 365, u 366, u 367, u 368, u 369, u 370, u 371, u 372, u 373, u 374, u 375, u 376, u 377, u 378, u 379, u 380, u 381, u 382, u 383, u 384, u 385, u 386, u 387, u 388, u 389, u 390, u 391, u 392, u 393, u 394, u 395, u 396, u 397, u 398, u 399, u 400, u 401, u 402, u 403, u 404, u 405, u 406, u 407, u 408, u 409, u 410, u 411, u 412, u 413, u 414, u 415, u 416, u 417, u 418, u 419, u 420, u 421, u 422, u 423, u 424, u 425, u 426, u 427, u 428, u 429, u 430, u 431, u 432, u 433, u 434, u 435, u 436, u 437, u 438, u 439, u 440, u 441, u 442, u 443, u 444, u 445, u 446, u 447, u 448, u 449, u 450, u 451, u 452, u 453, u 454, u 455, u 456, u 457, u 458, u 459, u 460, u 461, u 462, u 463, u 464, u 465, u 466, u 467, u 468, u 469, u 470, u 471, u 472, u 473, u 474, u 475, u 476, u 477, u 478, u 479, u 480, u 481, u 482, u 483, u 484, u 485, u 486, u 487, u 488, u 489, u 490, u 491, u 492, u 493, u 494, u 495, u 496, u 497, u 498, u 499, u 500, u 501, u 502, u 503, u 504, u 505, u 506, u 507, u 508, u 509, u 510, u 511, u 512, u 513, u 514, u 515, u 516, u 517, u 518, u 519, u 520, u 521, u 522, u 523, u 524, u 525, u 526, u 527, u 528, u 529, u 530, u 531, u 532, u 533, u 534, u 535, u 536, u 537, u 538, u 539, u 540, u 541, u 542, u 543, u 544, u 545, u 546, u 547] := by
  refine ⟨fun k => A.getD k undef, ?_⟩
  have e : ∀ u : Nat → Value, (#[u 0, u 1, u 2, u 3, u 4, .int .i64 fuel, .pointer (some ⟨bM, 0, none⟩), u 7, u 8, u 9, u 10, u 11, .pointer (some ⟨bR, 0, none⟩), .int .i64 0, u 14, u 15, .pointer (some ⟨bO, 0, none⟩), u 17, vR, v19, v20, v21, v22, v23, v24, v25, u 26, u 27, v28, u 29, u 30, u 31, u 32, u 33, u 34, u 35, u 36, u 37, u 38, u 39, u 40, u 41, u 42, u 43, u 44, u 45, u 46, u 47, u 48, u 49, u 50, u 51, u 52, u 53, u 54, u 55, u 56, u 57, u 58, u 59, u 60, u 61, u 62, u 63, u 64, u 65, u 66, u 67, u 68, u 69, u 70, u 71, u 72, u 73, u 74, u 75, u 76, u 77, u 78, u 79, u 80, u 81, u 82, u 83, u 84, u 85, u 86, u 87, u 88, u 89, u 90, u 91, u 92, u 93, u 94, u 95, u 96, u 97, u 98, u 99, u 100, u 101, u 102, u 103, u 104, u 105, u 106, u 107, u 108, u 109, u 110, u 111, u 112, u 113, u 114, u 115, u 116, u 117, u 118, u 119, u 120, u 121, u 122, u 123, u 124, u 125, u 126, u 127, u 128, u 129, u 130, u 131, u 132, u 133, u 134, u 135, u 136, u 137, u 138, u 139, u 140, u 141, u 142, u 143, u 144, u 145, u 146, u 147, u 148, u 149, u 150, u 151, u 152, u 153, u 154, u 155, u 156, u 157, u 158, u 159, u 160, u 161, u 162, u 163, u 164, u 165, u 166, u 167, u 168, u 169, u 170, u 171, u 172, u 173, u 174, u 175, u 176, u 177, u 178, u 179, u 180, u 181, u 182, u 183, u 184, u 185, u 186, u 187, u 188, u 189, u 190, u 191, u 192, u 193, u 194, u 195, u 196, u 197, u 198, u 199, u 200, u 201, u 202, u 203, u 204, u 205, u 206, u 207, u 208, u 209, u 210, u 211, u 212, u 213, u 214, u 215, u 216, u 217, u 218, u 219, u 220, u 221, u 222, u 223, u 224, u 225, u 226, u 227, u 228, u 229, u 230, u 231, u 232, u 233, u 234, u 235, u 236, u 237, u 238, u 239, u 240, u 241, u 242, u 243, u 244, u 245, u 246, u 247, u 248, u 249, u 250, u 251, u 252, u 253, u 254, u 255, u 256, u 257, u 258, u 259, u 260, u 261, u 262, u 263, u 264, u 265, u 266, u 267, u 268, u 269, u 270, u 271, u 272, u 273, u 274, u 275, u 276, u 277, u 278, u 279, u 280, u 281, u 282, u 283, u 284, u 285, u 286, u 287, u 288, u 289, u 290, u 291, u 292, u 293, u 294, u 295, u 296, u 297, u 298, u 299, u 300, u 301, u 302, u 303, u 304, u 305, u 306, u 307, u 308, u 309, u 310, u 311, u 312, u 313, u 314, u 315, u 316, u 317, u 318, u 319, u 320, u 321, u 322, u 323, u 324, u 325, u 326, u 327, u 328, u 329, u 330, u 331, u 332, u 333, u 334, u 335, u 336, u 337, u 338, u 339, u 340, u 341, u 342, u 343, u 344, u 345, u 346, u 347, u 348, u 349, u 350, u 351, u 352, u 353, u 354, u 355, u 356, u 357, u 358, u 359, u 360, u 361, u 362, u 363, u 364, u 365, u 366, u 367, u 368, u 369, u 370, u 371, u 372, u 373, u 374, u 375, u 376, u 377, u 378, u 379, u 380, u 381, u 382, u 383, u 384, u 385, u 386, u 387, u 388, u 389, u 390, u 391, u 392, u 393, u 394, u 395, u 396, u 397, u 398, u 399, u 400, u 401, u 402, u 403, u 404, u 405, u 406, u 407, u 408, u 409, u 410, u 411, u 412, u 413, u 414, u 415, u 416, u 417, u 418, u 419, u 420, u 421, u 422, u 423, u 424, u 425, u 426, u 427, u 428, u 429, u 430, u 431, u 432, u 433, u 434, u 435, u 436, u 437, u 438, u 439, u 440, u 441, u 442, u 443, u 444, u 445, u 446, u 447, u 448, u 449, u 450, u 451, u 452, u 453, u 454, u 455, u 456, u 457, u 458, u 459, u 460, u 461, u 462, u 463, u 464, u 465, u 466, u 467, u 468, u 469, u 470, u 471, u 472, u 473, u 474, u 475, u 476, u 477, u 478, u 479, u 480, u 481, u 482, u 483, u 484, u 485, u 486, u 487, u 488, u 489, u 490, u 491, u 492, u 493, u 494, u 495, u 496, u 497, u 498, u 499, u 500, u 501, u 502, u 503, u 504, u 505, u 506, u 507, u 508, u 509, u 510, u 511, u 512, u 513, u 514, u 515, u 516, u 517, u 518, u 519, u 520, u 521, u 522, u 523, u 524, u 525, u 526, u 527, u 528, u 529, u 530, u 531, u 532, u 533, u 534, u 535, u 536, u 537, u 538, u 539, u 540, u 541, u 542, u 543, u 544, u 545, u 546, u 547] : Array Value) = ((List.range 548).map fun k => if k = 5 then .int .i64 fuel else if k = 6 then .pointer (some ⟨bM, 0, none⟩) else if k = 12 then .pointer (some ⟨bR, 0, none⟩) else if k = 13 then .int .i64 0 else if k = 16 then .pointer (some ⟨bO, 0, none⟩) else if k = 18 then vR else if k = 19 then v19 else if k = 20 then v20 else if k = 21 then v21 else if k = 22 then v22 else if k = 23 then v23 else if k = 24 then v24 else if k = 25 then v25 else if k = 28 then v28 else u k).toArray := fun u => by kernel_rfl
  refine Eq.trans ?_ (e (fun k => A.getD k undef)).symm
  refine Array.ext (by rw [h.size]; simp) fun i h1 h2 => ?_
  have hi : A[i] = A.getD i undef := by simp [Array.getD, h1]
  rw [hi]
  simp only [List.getElem_toArray, List.getElem_map, List.getElem_range]
  by_cases e5 : i = 5
  · subst e5
    exact h.s5
  rw [if_neg e5]
  by_cases e6 : i = 6
  · subst e6
    exact h.s6
  rw [if_neg e6]
  by_cases e12 : i = 12
  · subst e12
    exact h.s12
  rw [if_neg e12]
  by_cases e13 : i = 13
  · subst e13
    exact h.s13
  rw [if_neg e13]
  by_cases e16 : i = 16
  · subst e16
    exact h.s16
  rw [if_neg e16]
  by_cases e18 : i = 18
  · subst e18
    exact h.s18
  rw [if_neg e18]
  by_cases e19 : i = 19
  · subst e19
    exact h.s19
  rw [if_neg e19]
  by_cases e20 : i = 20
  · subst e20
    exact h.s20
  rw [if_neg e20]
  by_cases e21 : i = 21
  · subst e21
    exact h.s21
  rw [if_neg e21]
  by_cases e22 : i = 22
  · subst e22
    exact h.s22
  rw [if_neg e22]
  by_cases e23 : i = 23
  · subst e23
    exact h.s23
  rw [if_neg e23]
  by_cases e24 : i = 24
  · subst e24
    exact h.s24
  rw [if_neg e24]
  by_cases e25 : i = 25
  · subst e25
    exact h.s25
  rw [if_neg e25]
  by_cases e28 : i = 28
  · subst e28
    exact h.s28
  rw [if_neg e28]

theorem upto_seq {P : Program} {n : Nat} {x y : Code} {R : Act → World → Prop} {Q : Exit → Act → World → Prop} {a : Act} {w : World} (h : x.wp P (Exit.then (RInv.upto P n y R Q) Q) a w) : RInv.upto P (n + 1) (.seq x y) R Q a w := h
end Go.Proofs.YtmbbkabecipkaacDoor.RSlot
