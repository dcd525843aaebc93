/-
  WHAT barbicankeep.Stmts GIVES: its rounds.
  Conditions: the raw things, the params and the units' names lie there; the contract one depth below.
-/
import Derived.Test.YtgjemlhnlpglbaaDoorR25
import Derived.Deep.RegionHeld3
import Derived.Deep.CutRange
import Derived.Deep.CutBlock
import Derived.Deep.AppendLies
namespace Go.Proofs.YtgjemlhnlpglbaaDoor.PStmts
open Go.RowKit PPlain PRaw PNumber PExprBase PStmtBase PWhileBase PWhile Trees
open Go.Proofs.YtgjemlhnlpglbaaDoor.Bytes (cell_of_heap)

set_option maxRecDepth 100000 in
set_option maxHeartbeats 4000000 in
theorem stmts {many d : Nat} (hmany : 1 ≤ many ∧ many ≤ 3) (EX : EC 12 many) (IH : SC d many) : SC (d + 1) many := by
  intro dep w la pa ln lc pl pc h1 h3 hdd hl hp hpl hn
  have h0 : Head w many pl d dep ln (.slice la ln lc) (.slice none 0 0) (.int .i64 0) w := ⟨0, la, ln, lc, 0, fun _ _ => ⟨0, .empty, none, 0, 0, fun _ _ => ⟨0, 0, .empty, .empty, none, 0, 0⟩, none, 0, 0, none, 0, 0⟩, rfl, rfl, by omega, hl, Below.refl _ _, ORow_nil _ _ _ _ _ _, Nat.zero_le _, fun _ => .inl rfl, Nat.zero_le _, Nat.le_refl _⟩
  have H0 : Hid _ := h0
  have kp : ∀ (n m : Int) (W : World), _ := picked
  have KP : Hid _ := kp
  have PE : Hid (EC 12 many) := EX
  have PS : Hid (SC d many) := IH
  have HP : Hid (PPar w pa pl ∧ pl ≤ 2 ∧ Names w ∧ (1 ≤ many ∧ many ≤ 3) ∧ 5 ≤ dep + (d + 1)) := ⟨hp, hpl, hn, hmany, hdd⟩
  have hlm := hl.2.1
  have hlI : (ln : Int) ≤ 140737488355328 := by omega
  clear h0 kp EX IH hp hpl hn hmany hdd hl hlm
  go_enter Tryd.func14, Tryd.ntmps14
  go_wp2
  go_loopw [0, 9, 10] (fun l v n wr => Hid (Head w many pl d dep ln l v n wr)) (fun _ _ n _ => 4 - (intOf n).toNat)
  case atStart => exact H0
  case round =>
    clear H0 hlI
    revert wr
    intro wr hrel
    obtain ⟨k, la1, ln1, lc1, nS, L, rfl, rfl, hk, hR, hB, hO, hC, hS, hN, hLN⟩ := hrel.out
    obtain ⟨hp, hpl, hn, hmany, hdd⟩ := HP.out
    by_cases hk4 : k < 4
    case neg =>
      have hk4b : decide ((k : Int) < 4) = false := decide_eq_false (by omega)
      clear hR hB hO hC hS hN hLN hp hpl hn hmany hdd
      rcases ln1 with _ | m
      · go_wp2
        go_ret
        exact head_out hrel.out
      · have hl0 : decide ((0 : Int) < (m : Int) + 1) = true := decide_eq_true (by omega)
        go_wp2
        go_ret
        exact head_out hrel.out
    rcases ln1 with _ | m
    · clear hR hB hO hC hS hN hLN hp hpl hn hmany hdd
      go_wp2
      go_ret
      exact head_out hrel.out
    have hl0 : decide ((0 : Int) < (m : Int) + 1) = true := decide_eq_true (by omega)
    have hk4b : decide ((k : Int) < 4) = true := decide_eq_true (by omega)
    obtain ⟨hlc, hlm, R, hRR⟩ := Raws_below hB hR
    obtain ⟨⟨bl, off, ea, t0, t1, t2, t3⟩, hr⟩ := hRR 0 (by omega)
    rw [Nat.zero_mul, Nat.add_zero] at t0 t1 t2 t3
    subst ea
    obtain ⟨c, rfl⟩ : ∃ c, lc1 = c + 1 := ⟨lc1 - 1, by omega⟩
    generalize R 0 = r at *
    clear hRR
    have hmI : (m : Int) + 1 ≤ 140737488355328 := by omega
    obtain ⟨W6, e6⟩ : ∃ W6, W6 = wr.alloc (.cells #[.int .i64 r.k, .int .i64 r.a, .int .i64 r.b, .int .i64 r.c] 44) := ⟨_, rfl⟩
    have b6 : Below wr.heap.size wr W6 := by rw [e6]; exact below_a wr _
    have B6 : Hid (Below wr.heap.size wr W6) := b6
    have g6 : W6.heap[wr.heap.size]? = some (.cells #[.int .i64 r.k, .int .i64 r.a, .int .i64 r.b, .int .i64 r.c] 44) := by rw [e6]; exact got1 wr _
    have G6 : Hid _ := g6
    have FT : Hid r.fits := hr
    have HR : Hid (Raws w (some ⟨bl, off, none⟩) (m + 1) (c + 1)) := hR
    have HB : Hid (Below w.heap.size w wr) := hB
    have HO : Hid (ORow w.heap.size wr u9 nS L many pl d) := hO
    have HC : Hid (sum (fun i => cnt d (L i)) nS ≤ per dep * k ∧ (ln ≤ 6 → k = 0 ∨ (k ≤ 1 ∧ m + 1 = 0)) ∧ nS ≤ 2 * k ∧ k < 4 ∧ m + 1 ≤ ln) := ⟨hC, hS, hN, hk4, hLN⟩
    have HM : Hid (m ≤ c ∧ m + 1 ≤ 140737488355328) := ⟨by omega, hlm⟩
    have hmc : (m : Int) ≤ c := by omega
    clear b6 g6 hr hR hB hO hC hS hN hLN hk4 hp hpl hn hmany hdd hlc hlm hk
    go_upto_region 6 with fail
    rw [← e6]
    clear e6 t0 t1 t2 t3
    go_cut [12] from 20 to 155 (fun s12 wx => W6 = wx ∧ PartOk w s12)
    case first =>
      by_cases h7 : (7 : Int) < (m : Int) + 1
      · have S1 : ∀ W, _ := fun W => slice_mid W (some ⟨bl, off, none⟩) (m + 1) (c + 1) 1 7 1 7 rfl rfl (by omega) (by omega)
        have hr1 := Raws_part HR.out 1 (7 - 1) (by omega)
        generalize from_ (some ⟨bl, off, none⟩) (c + 1) 1 = l1 at *
        have HR1 : Hid _ := hr1
        clear hr1
        go_wp2_with fail
        go_meet
        exact ⟨rfl, _, _, _, rfl, HR1.out, by omega⟩
      · have h7b : (if (7 : Int) < (m : Int) + 1 then (7 : Int) else (m : Int) + 1) = (m : Int) + 1 := if_neg h7
        have S1 : ∀ W, _ := fun W => slice_mid W (some ⟨bl, off, none⟩) (m + 1) (c + 1) 1 (m + 1) 1 ((m : Int) + 1) rfl rfl (by omega) (by omega)
        have hr1 := Raws_part HR.out 1 (m + 1 - 1) (by omega)
        have hm6 : m + 1 - 1 ≤ 6 := by omega
        generalize from_ (some ⟨bl, off, none⟩) (c + 1) 1 = l1 at *
        simp only [Nat.add_sub_cancel] at S1 hr1 hm6
        have HR1 : Hid _ := hr1
        have HM6 : Hid (m ≤ 6) := hm6
        clear hr1 hm6
        go_wp2_with fail
        go_meet
        exact ⟨rfl, _, _, _, rfl, HR1.out, HM6.out⟩
    case rest =>
    obtain ⟨rfl, l1, n1, c1, rfl, hr1, hn6⟩ := hcut
    have R1 : Hid (Raws w l1 n1 c1) := hr1
    have N6 : Hid (n1 ≤ 6) := hn6
    clear hr1 hn6
    go_upto_region 7 with fail
    go_cut [0] from 20 to 155 (fun s0 wx => W6 = wx ∧ RestOk w m s0)
    case first =>
      by_cases h7 : (7 : Int) < (m : Int) + 1
      · have S1 : ∀ W, _ := fun W => slice_from W (some ⟨bl, off, none⟩) (m + 1) (c + 1) 7 7 rfl (by omega)
        have hr1 := Raws_part HR.out 7 (m + 1 - 7) (by omega)
        have h8 : m + 1 ≤ 7 → m + 1 - 7 = 0 := by omega
        generalize from_ (some ⟨bl, off, none⟩) (c + 1) 7 = l2 at *
        have HR2 : Hid _ := hr1
        have H8 : Hid _ := h8
        clear hr1 h8
        go_wp2_with fail
        go_meet
        exact ⟨rfl, _, _, _, rfl, HR2.out, H8.out, by omega⟩
      · have h7b : (if (7 : Int) < (m : Int) + 1 then (7 : Int) else (m : Int) + 1) = (m : Int) + 1 := if_neg h7
        have S1 : ∀ W, _ := fun W => slice_from W (some ⟨bl, off, none⟩) (m + 1) (c + 1) (m + 1) ((m : Int) + 1) rfl (by omega)
        have hr1 := Raws_part HR.out (m + 1) (m + 1 - (m + 1)) (by omega)
        generalize from_ (some ⟨bl, off, none⟩) (c + 1) (m + 1) = l2 at *
        simp only [Nat.sub_self, Nat.add_sub_add_right] at S1 hr1
        have HR2 : Hid _ := hr1
        clear hr1
        go_wp2_with fail
        go_meet
        exact ⟨rfl, _, _, _, rfl, HR2.out, fun _ => rfl, by omega⟩
    case rest =>
    obtain ⟨rfl, l2, n2, c2, rfl, hr2, hn2⟩ := hcut
    have R2 : Hid (Raws w l2 n2 c2 ∧ (m + 1 ≤ 7 → n2 = 0) ∧ n2 ≤ m + 1) := ⟨hr2, hn2⟩
    clear hr2 hn2 HR
    have hp6 := PPar_below (HB.out.trans (B6.out.mono HB.out.size)) HP.out.1
    go_upto_region 8 with fail
    go_cut [13] from 20 to 155 (fun s13 wx => VarsOk W6 pl s13 wx)
    case first =>
      have hpl := HP.out.2.1
      obtain ⟨i0, gi, gz0, gz1, gz2⟩ := info_parts infoStr
      have I0 : Hid _ := And.intro gi (And.intro gz0 (And.intro gz1 gz2))
      have OW : Hid _ := vars_owns W6
      clear gi gz0 gz1 gz2
      obtain rfl | rfl | rfl : pl = 0 ∨ pl = 1 ∨ pl = 2 := by omega
      · clear hp6 hpl
        go_wp2_with (at_builtin; refine wpList_append_zero rfl _ _ rfl W6.heap.size rfl pa pc rfl ?_)
        go_meet
        exact vars0
      all_goals
        obtain ⟨pb, po, ep, hsrc⟩ := par_src (PPar_below (below_a W6 (.cells #[.string ⟨#[120]⟩, .string ⟨#[121]⟩] 9)) hp6) (by decide)
        subst ep
        have SRC : Hid _ := hsrc
        clear hsrc hp6 hpl
        go_wp2_with (at_builtin; refine wpList_append_own _ rfl _ _ 35 rfl W6.heap.size 9 i0 (.string ⟨#[]⟩) 1 16 Tryd.underlying35 I0.out.1 I0.out.2.1 I0.out.2.2.1 I0.out.2.2.2 rfl (by decide) _ _ _ rfl OW.out ⟨pb, po, none⟩ _ pc (pars _) rfl rfl SRC.out (pars_one _) (by unfold maxLen; decide) (by decide) (by simp) ?_; intro v' w9 ho' hg' _; have V9 : Hid (VarsOk W6 _ v' w9) := varsN ho' hg'; clear ho' hg')
        go_meet
        exact V9.out
    case rest =>
    revert wc
    intro W8 hcut
    obtain ⟨hb8, g, cg, rfl, hg8, hv8⟩ := hcut
    have up6 := HB.out.trans (B6.out.mono HB.out.size)
    have up8 := up6.trans (hb8.mono up6.size)
    have hpl := HP.out.2.1
    have ke : True → _ := fun _ => PE.out 1 _ l1 pa n1 c1 pl pc (by decide) (by decide) (by decide) (Raws_below up8 R1.out) (PPar_below up8 HP.out.1) hpl (Names_below up8 HP.out.2.2.1)
    have KE : Hid _ := ke
    have UP8 : Hid (Below w.heap.size w W8) := up8
    have B8 : Hid (Below W6.heap.size W6 W8) := hb8
    have V8 : Hid (g < W8.heap.size ∧ ∀ k, k < 2 + pl → W8.cell? ⟨g, k, none⟩ = some (.string (vz k))) := ⟨hg8, hv8⟩
    have hka := pk_bd r.a ((2 + pl : Nat) : Int) (by omega)
    obtain ⟨kk, hkk⟩ : ∃ kk : Nat, pk r.a ((2 + pl : Nat) : Int) = kk := ⟨(pk r.a ((2 + pl : Nat) : Int)).toNat, by omega⟩
    have hk1 : kk < 2 + pl := by omega
    have hkI : (kk : Int) < 2 + (pl : Int) := by omega
    have hk0 : (0 : Int) ≤ (kk : Int) := by omega
    have hkk2 : pk r.a (2 + (pl : Int)) = kk := by rw [← hkk]; simp
    have hplI : (pl : Int) ≤ 2 := by omega
    have hpl0 : (0 : Int) ≤ (pl : Int) := by omega
    have cv := hv8 kk hk1
    generalize hvk : vz kk = vk at cv
    have VK : Hid (kk < 2 + pl ∧ vz kk = vk) := ⟨hk1, hvk⟩
    have CV : Hid _ := cv
    clear hb8 hg8 hv8 up6 up8 hpl ke hka hkk hk1 hvk cv
    go_upto_region 10 with (go_at_call 32; refine (KE.out ⟨⟩).mono ?_; rintro e w9 ⟨hb9, x9, T9, rfl, hx9, hok9, hs9⟩; obtain ⟨xk, xn, xof, xs, xao, xlen, xcap⟩ := x9; have B9 : Hid (Below W8.heap.size W8 w9) := hb9; have X9 : Hid (T9 [] = ⟨xk, xn, xof, xs, xao, xlen, xcap⟩) := hx9; have O9 : Hid (okE many pl 12 T9) := hok9; have S9 : Hid (ESafe W8.heap.size w9 12 T9) := hs9; clear hb9 hx9 hok9 hs9)
    obtain ⟨W10, e10⟩ : ∃ W10, W10 = w9.alloc (.cells #[.int .i64 xk, .int .i64 xn, .string xof, .string xs, .slice xao xlen xcap] 29) := ⟨_, rfl⟩
    have b10 : Below w9.heap.size w9 W10 := by rw [e10]; exact below_a w9 _
    have B10 : Hid (Below w9.heap.size w9 W10) := b10
    have z10 : W10.heap.size = w9.heap.size + 1 := by rw [e10]; simp
    have Z10 : Hid (W10.heap.size = w9.heap.size + 1) := z10
    have G14 : Hid (W10.heap[w9.heap.size]? = some (.cells #[.int .i64 xk, .int .i64 xn, .string xof, .string xs, .slice xao xlen xcap] 29)) := by rw [e10]; exact got1 w9 _
    have all10 : ∀ W, Below W10.heap.size W10 W → W.cell? ⟨wr.heap.size, 1, none⟩ = some (.int .i64 r.a) ∧ W.cell? ⟨g, kk, none⟩ = some (.string vk) ∧ W.cell? ⟨w9.heap.size, 0, none⟩ = some (.int .i64 xk) ∧ W.cell? ⟨w9.heap.size, 1, none⟩ = some (.int .i64 xn) ∧ W.cell? ⟨w9.heap.size, 2, none⟩ = some (.string xof) ∧ W.cell? ⟨w9.heap.size, 3, none⟩ = some (.string xs) ∧ W.cell? ⟨w9.heap.size, 4, none⟩ = some (.slice xao xlen xcap) := by
      intro W hW
      have h69 := B8.out.trans (B9.out.mono B8.out.size)
      have h610 := h69.trans (b10.mono h69.size)
      have h910 := B9.out.trans (b10.mono B9.out.size)
      have hl6 : wr.heap.size < W6.heap.size := (Array.getElem?_eq_some_iff.1 G6.out).1
      have hw6 := (h610.trans (hW.mono h610.size)).block wr.heap.size hl6
      have hg14 := (hW.block w9.heap.size (by omega)).trans G14.out
      refine ⟨cell_of_heap (hw6.trans G6.out) rfl, ((h910.trans (hW.mono h910.size)).cell (p := ⟨g, kk, none⟩) V8.out.1).trans CV.out, cell_of_heap hg14 rfl, cell_of_heap hg14 rfl, cell_of_heap hg14 rfl, cell_of_heap hg14 rfl, cell_of_heap hg14 rfl⟩
    have ALL : Hid _ := all10
    have hpk := fun W => KP.out r.a (2 + (pl : Int)) W FT.out.2.1 (by omega) (by omega)
    have HPK : Hid _ := hpk
    rw [← e10]
    clear b10 z10 all10 hpk e10
    go_cut [15] from 20 to 155 (fun s15 wx => Made W10 w9.heap.size xk xn xof xs xao xlen xcap vk s15 wx)
    case first =>
      go_region_held3 (fun W => W.cell? ⟨wr.heap.size, 1, none⟩ = some (.int .i64 r.a) ∧ W.cell? ⟨g, kk, none⟩ = some (.string vk) ∧ W.cell? ⟨w9.heap.size, 0, none⟩ = some (.int .i64 xk) ∧ W.cell? ⟨w9.heap.size, 1, none⟩ = some (.int .i64 xn) ∧ W.cell? ⟨w9.heap.size, 2, none⟩ = some (.string xof) ∧ W.cell? ⟨w9.heap.size, 3, none⟩ = some (.string xs) ∧ W.cell? ⟨w9.heap.size, 4, none⟩ = some (.slice xao xlen xcap))
        ((refine ALL.out _ ?_; (repeat (first | (with_reducible exact Below.refl _ _) | (with_reducible refine Below.drew ?_) | (with_reducible refine Below.alloc ?_ (by first | omega | (simp; omega) | simp) _) | (with_reducible refine Below.setCell ?_ (by first | omega | (simp; omega) | simp) _)))))
        (first | (go_at_call 8; refine (HPK.out _).mono ?_; rintro e w5 ⟨rfl, rfl⟩))
      all_goals
        go_wp2_with fail
        go_meet
        first
          | (with_reducible exact made_eb)
          | (with_reducible exact made_be)
    case rest =>
    revert wc
    intro W11 hcut
    obtain ⟨hb11, b15, be, rfl, hb15, hbe, hne, hg15, hge⟩ := hcut
    have B11 : Hid (Below W10.heap.size W10 W11) := hb11
    have G15 : Hid _ := hg15
    have GE : Hid _ := hge
    have N15 : Hid (W10.heap.size ≤ b15 ∧ W10.heap.size ≤ be ∧ b15 ≠ be) := ⟨hb15, hbe, hne⟩
    have kc : ∀ W, Below W10.heap.size W10 W → _ := fun W hW => (ALL.out W hW).1
    have hl6 : wr.heap.size < W6.heap.size := (Array.getElem?_eq_some_iff.1 G6.out).1
    have c0 : W11.cell? ⟨wr.heap.size, 0, none⟩ = some (.int .i64 r.k) := by
      have h69 := B8.out.trans (B9.out.mono B8.out.size)
      have h610 := h69.trans (B10.out.mono h69.size)
      exact cell_of_heap (((h610.trans (hb11.mono h610.size)).block wr.heap.size hl6).trans G6.out) rfl
    have hpk := fun W => KP.out r.k 12 W FT.out.1 (by decide) (by decide)
    have HPK2 : Hid _ := hpk
    clear hb11 hg15 hge hb15 hbe hne kc hl6 hpk
    go_upto_block 2 with (go_at_call 8; refine (HPK2.out _).mono ?_; rintro e w5 ⟨rfl, hw5⟩; rw [hw5]; clear hw5 w5)
    have own9 : ∀ g, u9.ownBlock = some g → w.heap.size ≤ g ∧ g < wr.heap.size := fun g e => by
      obtain ⟨xs', ho', _⟩ := HO.out
      exact ⟨(ho'.lt g e).1, (ho'.lt g e).2⟩
    have z6 := B6.out.size
    have z8 := B8.out.size
    have z9 := B9.out.size
    have z10 := Z10.out
    have z11 := B11.out.size
    have n15 := N15.out
    have br : Below wr.heap.size wr W11 := by
      have h68 := B6.out.trans (B8.out.mono z6)
      have h69 := h68.trans (B9.out.mono (by omega))
      have h610 := h69.trans (B10.out.mono (by omega))
      exact h610.trans (B11.out.mono (by omega))
    have b9c : Below w9.heap.size w9 W11 := B10.out.trans (B11.out.mono (by omega))
    have BR : Hid (Below wr.heap.size wr W11) := br
    have ZZ : Hid (wr.heap.size ≤ W6.heap.size ∧ W6.heap.size ≤ W8.heap.size ∧ W8.heap.size ≤ w9.heap.size ∧ W10.heap.size = w9.heap.size + 1 ∧ W10.heap.size ≤ W11.heap.size ∧ W10.heap.size ≤ b15 ∧ W10.heap.size ≤ be ∧ b15 ≠ be) := ⟨z6, z8, z9, z10, z11, n15.1, n15.2.1, n15.2.2⟩
    have t9 : ∀ (W : World) (v : Value), Below w9.heap.size w9 W → (v = u9 ∨ ∀ g, v.ownBlock = some g → g < wr.heap.size ∨ w9.heap.size ≤ g) → ∀ W', AgreeX w.heap.size W v W' → ELies W' 12 T9 := fun W v hW hv W' hA => by
      have hup := UP8.out.size
      refine S9.out W' fun i h1 h2 => (hA i (by omega) (by have := hW.size; omega) ?_).trans (hW.block i h2)
      intro e
      rcases hv with rfl | hv
      · have := (own9 i e).2; omega
      · rcases hv i e with h | h <;> omega
    have TN : Hid _ := t9
    have own15 : u9.ownBlock ≠ some b15 := fun e => by have := (own9 b15 e).2; omega
    have ownbe : ∀ b, wr.heap.size ≤ b → u9.ownBlock ≠ some b := fun b hb e => by have := (own9 b e).2; omega
    have OWN : Hid (u9.ownBlock ≠ some b15 ∧ ∀ b, wr.heap.size ≤ b → u9.ownBlock ≠ some b) := ⟨own15, ownbe⟩
    have B9C : Hid (Below w9.heap.size w9 W11) := b9c
    have hdd := HP.out.2.2.2.2
    have DD : Hid (1 ≤ d ∧ 5 ≤ dep + (d + 1)) := ⟨by omega, hdd⟩
    have S15 : Hid (∀ W, Below wr.heap.size wr W → ORow w.heap.size W u9 nS L many pl d) := fun W hW => ORow_below HO.out hW
    have vsz : vk.size ≤ maxLen := by rw [← VK.out.2]; exact vz_size kk
    have VS : Hid (vk.size ≤ maxLen) := vsz
    clear own9 z6 z8 z9 z10 z11 n15 br b9c t9 own15 ownbe hdd vsz
    generalize hq : pk r.k 12 = q at *
    go_cut [9] from 17 to 155 (fun s9 wx => Done_ w many pl d dep k b15 s9 wx)
    case first =>
      have dset : Done_ w many pl d dep k b15 u9 W11 := by
        have zz := ZZ.out
        exact done_leaf (x := ⟨1, vk, some ⟨be, 0, none⟩, 1, 1, one1 T9, none, 0, 0, none, 0, 0⟩) (HB.out.trans (BR.out.mono HB.out.size)) (S15.out _ BR.out) HC.out.1 HC.out.2.2.1 DD.out.1 G15.out OWN.out.1 (by have := HB.out.size; omega) rfl rfl ⟨.inl ⟨rfl, by rw [← VK.out.2]; exact vz_ok VK.out.1, rfl, rfl, rfl⟩, fun j _ => O9.out⟩ ⟨VS.out, le1⟩
          (rowX (by have := HB.out.size; omega) GE.out (OWN.out.2 be (by omega)) (five_one X9.out) (fun _ _ => O9.out) fun _ _ W' hA => TN.out W11 u9 B9C.out (.inl rfl) W' hA)
      have DSET : Hid _ := dset
      clear dset
      by_cases q2 : q < 2
      · have f2 : decide (q < 2) = true := decide_eq_true q2
        have hl6 : wr.heap.size < W6.heap.size := (Array.getElem?_eq_some_iff.1 G6.out).1
        have zz := ZZ.out
        have hw6 : W11.heap[wr.heap.size]? = some (.cells #[.int .i64 r.k, .int .i64 r.a, .int .i64 r.b, .int .i64 r.c] 44) := by
          have h69 := B8.out.trans (B9.out.mono B8.out.size)
          have h610 := h69.trans (B10.out.mono h69.size)
          exact ((h610.trans (B11.out.mono h610.size)).block wr.heap.size hl6).trans G6.out
        have all11 : ∀ W, Below W11.heap.size W11 W → (W.cell? ⟨wr.heap.size, 0, none⟩ = some (.int .i64 r.k) ∧ W.cell? ⟨wr.heap.size, 1, none⟩ = some (.int .i64 r.a) ∧ W.cell? ⟨wr.heap.size, 2, none⟩ = some (.int .i64 r.b) ∧ W.cell? ⟨wr.heap.size, 3, none⟩ = some (.int .i64 r.c)) ∧ W.cell? ⟨w9.heap.size, 0, none⟩ = some (.int .i64 xk) ∧ W.cell? ⟨w9.heap.size, 1, none⟩ = some (.int .i64 xn) ∧ W.cell? ⟨w9.heap.size, 2, none⟩ = some (.string xof) ∧ W.cell? ⟨w9.heap.size, 3, none⟩ = some (.string xs) ∧ W.cell? ⟨w9.heap.size, 4, none⟩ = some (.slice xao xlen xcap) := fun W hW => by
          have hh := (hW.block wr.heap.size (by omega)).trans hw6
          exact ⟨⟨cell_of_heap hh rfl, cell_of_heap hh rfl, cell_of_heap hh rfl, cell_of_heap hh rfl⟩, (ALL.out W (B11.out.trans (hW.mono B11.out.size))).2.2⟩
        have A11 : Hid _ := all11
        have kn : ∀ W, _ := fun W => number r FT.out W
        have KN : Hid _ := kn
        clear q2 hl6 zz hw6 all11 kn
        go_upto_region 13 with fail
        go_region_held3 (fun W => (W.cell? ⟨wr.heap.size, 0, none⟩ = some (.int .i64 r.k) ∧ W.cell? ⟨wr.heap.size, 1, none⟩ = some (.int .i64 r.a) ∧ W.cell? ⟨wr.heap.size, 2, none⟩ = some (.int .i64 r.b) ∧ W.cell? ⟨wr.heap.size, 3, none⟩ = some (.int .i64 r.c)) ∧ W.cell? ⟨w9.heap.size, 0, none⟩ = some (.int .i64 xk) ∧ W.cell? ⟨w9.heap.size, 1, none⟩ = some (.int .i64 xn) ∧ W.cell? ⟨w9.heap.size, 2, none⟩ = some (.string xof) ∧ W.cell? ⟨w9.heap.size, 3, none⟩ = some (.string xs) ∧ W.cell? ⟨w9.heap.size, 4, none⟩ = some (.slice xao xlen xcap))
          (first
            | (with_reducible exact A11.out _ (Below.refl _ _).drew)
            | (with_reducible exact A11.out _ (Below.refl _ _))
            | (with_reducible exact A11.out _ hk12)
            | (with_reducible exact A11.out _ (hk12.alloc hz12 _))
            | (exact ⟨⟨five_keep (A11.out _ (hk12.alloc hz12 _)).1.1 ne1, five_keep (A11.out _ (hk12.alloc hz12 _)).1.2.1 ne1, five_keep (A11.out _ (hk12.alloc hz12 _)).1.2.2.1 ne1, five_keep (A11.out _ (hk12.alloc hz12 _)).1.2.2.2 ne1⟩, five_keep (A11.out _ (hk12.alloc hz12 _)).2.1 ne2, five_keep (A11.out _ (hk12.alloc hz12 _)).2.2.1 ne2, five_keep (A11.out _ (hk12.alloc hz12 _)).2.2.2.1 ne2, five_keep (A11.out _ (hk12.alloc hz12 _)).2.2.2.2.1 ne2, five_keep (A11.out _ (hk12.alloc hz12 _)).2.2.2.2.2 ne2⟩))
          (first | (go_at_call 33; refine (KN.out _).mono ?_; rintro e w12 ⟨⟨v, rfl, n9, h9, rfl⟩, hb12⟩; have N9 : Hid (0 ≤ n9 ∧ n9 ≤ 65535) := h9; have hk12 : Below W11.heap.size W11 w12 := (Below.refl _ W11).drew.trans hb12; have hz12 := hk12.size; have R2' : ∀ o, (w12.alloc o).heap[b15]? = _ := (fun o => got_old _ _ ((hk12.block b15 (Array.getElem?_eq_some_iff.1 G15.out).1).trans G15.out)); have RC0 := (fun o => (five_cells (R2' o)).1); have RC1 := (fun o => (five_cells (R2' o)).2.1); have RC2 := (fun o => (five_cells (R2' o)).2.2.1); have RC3 := (fun o => (five_cells (R2' o)).2.2.2.1); have RC4 := (fun o => (five_cells (R2' o)).2.2.2.2.1); have RF := (fun o => (five_cells (R2' o)).2.2.2.2.2); have ne1 : wr.heap.size ≠ b15 := (by have := ZZ.out; omega); have ne2 : w9.heap.size ≠ b15 := (by have := ZZ.out; omega); clear h9 hb12))
        go_wp2_with fail
        go_meet
        have zz := ZZ.out
        exact boxed2 HB.out BR.out hk12 (by omega) G15.out OWN.out.2 S15.out HC.out.1 HC.out.2.2.1 DD.out.1 X9.out O9.out N9.out fun W h1 h2 W' hA => S9.out W' fun i h3 h4 => (hA i (by have := UP8.out.size; omega) (by omega) (OWN.out.2 i (by omega))).trans ((h1 i (by omega) (by omega) (by omega)).trans (B9C.out.block i h4))
      have f2 : decide (q < 2) = false := decide_eq_false q2
      by_cases e2 : q = 2
      · have g2 : (q == 2) = true := by rw [e2]; rfl
        obtain ⟨_, _, x0, x1, x2, x3, x4⟩ := ALL.out W11 B11.out
        clear q2
        go_wp2_with ((with_reducible show wpList _ _ _ ({ dst := none, op := Op.store 34 _ _, type := _, pos := _, after := _, guard := _ } :: _) _ _); refine wpList_store_row rfl 34 _ _ rfl b15 #[.int .i64 6, .string ⟨#[]⟩, .slice (some ⟨W11.heap.size, 0, none⟩) 1 1, .slice none 0 0, .slice none 0 0] rfl rfl 34 _ (got_old _ _ G15.out) sizeStmt rfl (by simp [Value.oneCell']) ?_)
        go_meet
        have zz := ZZ.out
        exact boxed HB.out BR.out (by omega) G15.out OWN.out.2 S15.out HC.out.1 HC.out.2.2.1 DD.out.1 X9.out O9.out (by decide) fun cs W' hA => TN.out _ _ (setRow_below (B9C.out.alloc (by omega) _) (by omega)) (.inl rfl) W' hA
      have g2 : (q == 2) = false := beq_eq_false_iff_ne.2 e2
      by_cases e3 : q = 3
      · have g3 : (q == 3) = true := by rw [e3]; rfl
        obtain ⟨_, _, x0, x1, x2, x3, x4⟩ := ALL.out W11 B11.out
        clear q2
        go_wp2_with ((with_reducible show wpList _ _ _ ({ dst := none, op := Op.store 34 _ _, type := _, pos := _, after := _, guard := _ } :: _) _ _); refine wpList_store_row rfl 34 _ _ rfl b15 #[.int .i64 5, .string ⟨#[]⟩, .slice (some ⟨W11.heap.size, 0, none⟩) 1 1, .slice none 0 0, .slice none 0 0] rfl rfl 34 _ (got_old _ _ G15.out) sizeStmt rfl (by simp [Value.oneCell']) ?_)
        go_meet
        have zz := ZZ.out
        exact boxed HB.out BR.out (by omega) G15.out OWN.out.2 S15.out HC.out.1 HC.out.2.2.1 DD.out.1 X9.out O9.out (by decide) fun cs W' hA => TN.out _ _ (setRow_below (B9C.out.alloc (by omega) _) (by omega)) (.inl rfl) W' hA
      have g3 : (q == 3) = false := beq_eq_false_iff_ne.2 e3
      by_cases q6 : q < 6
      · have f6 : decide (q < 6) = true := decide_eq_true q6
        by_cases hd3 : dep < 3
        · have fd3 : decide (dep < 3) = true := decide_eq_true hd3
          have S2 : ∀ W, _ := fun W => slice_to W l1 n1 c1 (n1 / 2) ((n1 : Int) / 2) (by omega) (by have := R1.out.1; omega)
          have tq : Int.tdiv (n1 : Int) 2 = ((n1 / 2 : Nat) : Int) := by rw [Int.tdiv_eq_ediv_of_nonneg (by omega)]; omega
          have wq : IntKind.i64.wrap ((n1 : Int) / 2) = ((n1 / 2 : Nat) : Int) := by have := N6.out; rw [IntKind.wrap_i64]; omega
          have wt : IntKind.i64.wrap (Int.tdiv (n1 : Int) 2) = ((n1 / 2 : Nat) : Int) := by have := N6.out; rw [tq, IntKind.wrap_i64]; omega
          have S2b : ∀ W, _ := fun W => slice_to W l1 n1 c1 (n1 / 2) (Int.tdiv (n1 : Int) 2) tq (by have := R1.out.1; omega)
          have S2c : ∀ W, _ := fun W => slice_to W l1 n1 c1 (n1 / 2) (IntKind.i64.wrap ((n1 : Int) / 2)) wq (by have := R1.out.1; omega)
          have S2d : ∀ W, _ := fun W => slice_to W l1 n1 c1 (n1 / 2) (IntKind.i64.wrap (Int.tdiv (n1 : Int) 2)) wt (by have := R1.out.1; omega)
          have S2e : ∀ W, _ := fun W => slice_to W l1 n1 c1 (n1 / 2) ((n1 / 2 : Nat) : Int) rfl (by have := R1.out.1; omega)
          have S3b : ∀ W, _ := fun W => slice_from W l1 n1 c1 (n1 / 2) (Int.tdiv (n1 : Int) 2) tq (by omega)
          have S3c : ∀ W, _ := fun W => slice_from W l1 n1 c1 (n1 / 2) (IntKind.i64.wrap ((n1 : Int) / 2)) wq (by omega)
          have S3d : ∀ W, _ := fun W => slice_from W l1 n1 c1 (n1 / 2) (IntKind.i64.wrap (Int.tdiv (n1 : Int) 2)) wt (by omega)
          have S3e : ∀ W, _ := fun W => slice_from W l1 n1 c1 (n1 / 2) ((n1 / 2 : Nat) : Int) rfl (by omega)
          clear tq wq wt
          have hlA := Raws_part R1.out 0 (n1 / 2) (by omega)
          rw [Nat.sub_zero] at hlA
          have S3 : ∀ W, _ := fun W => slice_from W l1 n1 c1 (n1 / 2) ((n1 : Int) / 2) (by omega) (by omega)
          have hlB := Raws_part R1.out (n1 / 2) (n1 - n1 / 2) (by omega)
          generalize from_ l1 c1 0 = lA at *
          generalize from_ l1 c1 (n1 / 2) = lB at *
          have hn6 := N6.out
          have hnI : (n1 : Int) ≤ 6 := by omega
          have ks : ∀ la ln lc W, Raws w la ln lc → Below w.heap.size w W → Calls Tryd.prog 14 #[.slice la ln lc, .slice pa pl pc, .int .i64 many, .int .i64 (dep + 1)] W fun e w' => SOut W many pl d (bnd (dep + 1) ln) e w' := fun la ln lc W hR hb =>
            PS.out (dep + 1) W la pa ln lc pl pc (by omega) (by omega) (by have := DD.out.2; omega) (Raws_below hb hR) (PPar_below hb HP.out.1) HP.out.2.1 (Names_below hb HP.out.2.2.1)
          have KS : Hid _ := ks
          have PI : Hid _ := per_if h1 hd3 hn6
          have RA : Hid _ := hlA
          have RB : Hid _ := hlB
          have up11 : Below w.heap.size w W11 := HB.out.trans (BR.out.mono HB.out.size)
          have UP11 : Hid _ := up11
          have z11 := up11.size
          have HWR : Hid (IntKind.i64.wrap (dep + 1) = dep + 1) := (by rw [IntKind.wrap_i64]; omega : IntKind.i64.wrap (dep + 1) = dep + 1)
          have all11 : ∀ W, Below W11.heap.size W11 W → W.cell? ⟨w9.heap.size, 0, none⟩ = some (.int .i64 xk) ∧ W.cell? ⟨w9.heap.size, 1, none⟩ = some (.int .i64 xn) ∧ W.cell? ⟨w9.heap.size, 2, none⟩ = some (.string xof) ∧ W.cell? ⟨w9.heap.size, 3, none⟩ = some (.string xs) ∧ W.cell? ⟨w9.heap.size, 4, none⟩ = some (.slice xao xlen xcap) := fun W hW => (ALL.out W (B11.out.trans (hW.mono B11.out.size))).2.2
          have A11 : Hid _ := all11
          clear q2 e2 e3 q6 hd3 hlA hlB ks up11 all11 hn6
          go_upto_region 19 with fail
          go_region_held3 (fun W => W.cell? ⟨w9.heap.size, 0, none⟩ = some (.int .i64 xk) ∧ W.cell? ⟨w9.heap.size, 1, none⟩ = some (.int .i64 xn) ∧ W.cell? ⟨w9.heap.size, 2, none⟩ = some (.string xof) ∧ W.cell? ⟨w9.heap.size, 3, none⟩ = some (.string xs) ∧ W.cell? ⟨w9.heap.size, 4, none⟩ = some (.slice xao xlen xcap))
            (first
              | (refine A11.out _ ?_; (repeat (first | (with_reducible exact Below.refl _ _) | (with_reducible exact hkB) | (with_reducible exact hkA) | (with_reducible refine Below.drew ?_) | (with_reducible refine Below.alloc ?_ (by first | omega | (simp; omega) | simp) _))); done)
              | (exact ⟨five_keep (A11.out _ hkB).1 ne2, five_keep (A11.out _ hkB).2.1 ne2, five_keep (A11.out _ hkB).2.2.1 ne2, five_keep (A11.out _ hkB).2.2.2.1 ne2, five_keep (A11.out _ hkB).2.2.2.2 ne2⟩)
              | (exact ⟨five_keep (A11.out _ (hkB.alloc hzB _)).1 ne2, five_keep (A11.out _ (hkB.alloc hzB _)).2.1 ne2, five_keep (A11.out _ (hkB.alloc hzB _)).2.2.1 ne2, five_keep (A11.out _ (hkB.alloc hzB _)).2.2.2.1 ne2, five_keep (A11.out _ (hkB.alloc hzB _)).2.2.2.2 ne2⟩))
            (first
              | (go_at_call 14; have hpre := HA1.out; clear hpre; (try rw [HWR.out]); refine (KS.out _ _ _ _ RB.out (by first | (with_reducible exact UP11.out.trans (hkA.mono z11)) | (with_reducible exact (UP11.out.trans (hkA.mono z11)).alloc (by omega) _))).mono ?_; rintro e wB ⟨hbB, aB, nB, cB, LB, rfl, hnB, hokB, hcB, hsB, _⟩; have hkB : Below W11.heap.size W11 wB := (by first | (with_reducible exact hkA.trans (hbB.mono hzA)) | (exact (hkA.alloc hzA _).trans (hbB.mono (by simp; omega)))); have hzB := hkB.size; have HB1 : Hid _ := hbB; have OB : Hid (okS many pl d nB LB ∧ count d nB LB ≤ _ ∧ nB ≤ 1000) := ⟨hokB, hcB, hnB⟩; have SB : Hid _ := hsB; have g15 := (hkB.block b15 (Array.getElem?_eq_some_iff.1 G15.out).1).trans G15.out; have RG := g15; have RC0 := (five_cells g15).1; have RC1 := (five_cells g15).2.1; have RC2 := (five_cells g15).2.2.1; have RC3 := (five_cells g15).2.2.2.1; have RC4 := (five_cells g15).2.2.2.2.1; have RF := (five_cells g15).2.2.2.2.2; have RD0 := (fun o => (five_cells (got_old wB o g15)).1); have RD1 := (fun o => (five_cells (got_old wB o g15)).2.1); have RD2 := (fun o => (five_cells (got_old wB o g15)).2.2.1); have RD3 := (fun o => (five_cells (got_old wB o g15)).2.2.2.1); have RD4 := (fun o => (five_cells (got_old wB o g15)).2.2.2.2.1); have RDF := (fun o => (five_cells (got_old wB o g15)).2.2.2.2.2); clear hnB hokB hcB hsB hbB)
              | (go_at_call 14; (try rw [HWR.out]); refine (KS.out _ _ _ _ RA.out (by first | (with_reducible exact UP11.out.drew) | (with_reducible exact (UP11.out.alloc z11 _).drew) | (with_reducible exact UP11.out.drew.alloc z11 _))).mono ?_; rintro e wA ⟨hbA, aA, nA, cA, LA, rfl, hnA, hokA, hcA, hsA, _⟩; have hkA : Below W11.heap.size W11 wA := (by first | (exact (Below.refl _ W11).drew.trans hbA) | (exact ((below_a W11 _).drew).trans (hbA.mono (below_a W11 _).size))); have hzA := hkA.size; have HA1 : Hid _ := hbA; have OA : Hid (okS many pl d nA LA ∧ count d nA LA ≤ _ ∧ nA ≤ 1000) := ⟨hokA, hcA, hnA⟩; have SA : Hid _ := hsA; have ne2 : w9.heap.size ≠ b15 := (by have := ZZ.out; omega); clear hnA hokA hcA hsA hbA))
          all_goals
            go_wp2_with fail
            go_meet
            have zz := ZZ.out
          · exact boxedIf HB.out BR.out hkB (by omega) G15.out OWN.out.2 S15.out HC.out.1 HC.out.2.2.1 X9.out O9.out (fun W h1 h2 W' hA => S9.out W' fun i h3 h4 => (hA i (by have := UP8.out.size; omega) (by omega) (OWN.out.2 i (by omega))).trans ((h1 i (by omega) (by omega) (by omega)).trans (B9C.out.block i h4))) (Nat.le_refl _) ((HB1.out.block W11.heap.size (by have := (below_a W11 (.cells #[.int .i64 xk, .int .i64 xn, .string xof, .string xs, .slice xao xlen xcap] 29)).size; have := HA1.out.size; have hq1 : (W11.alloc (.cells #[.int .i64 xk, .int .i64 xn, .string xof, .string xs, .slice xao xlen xcap] 29)).heap.size = W11.heap.size + 1 := (by simp); have hq2 : (W11.alloc (.cells #[.int .i64 xk, .int .i64 xn, .string xof, .string xs, .slice xao xlen xcap] 29)).heap.size ≤ wA.heap.size := HA1.out.size; omega)).trans ((HA1.out.block W11.heap.size (by show _ < (W11.alloc _).heap.size; simp)).trans (got1 W11 _))) OA.out SA.out (below_a W11 _).size HB1.out OB.out SB.out hzA (Below.refl _ _) PI.out
          · exact boxedIf HB.out BR.out hkB (by omega) G15.out OWN.out.2 S15.out HC.out.1 HC.out.2.2.1 X9.out O9.out (fun W h1 h2 W' hA => S9.out W' fun i h3 h4 => (hA i (by have := UP8.out.size; omega) (by omega) (OWN.out.2 i (by omega))).trans ((h1 i (by omega) (by omega) (by omega)).trans (B9C.out.block i h4))) hzA ((HB1.out.block wA.heap.size (by simp)).trans (got1 wA _)) OA.out SA.out (Nat.le_refl _) ((below_a wA _).trans (HB1.out.mono (below_a wA _).size)) OB.out SB.out (Nat.le_trans hzA (below_a wA _).size) (Below.refl _ _) PI.out
          · exact boxedIf HB.out BR.out (hkB.trans ((below_a wB _).mono hzB)) (by omega) G15.out OWN.out.2 S15.out HC.out.1 HC.out.2.2.1 X9.out O9.out (fun W h1 h2 W' hA => S9.out W' fun i h3 h4 => (hA i (by have := UP8.out.size; omega) (by omega) (OWN.out.2 i (by omega))).trans ((h1 i (by omega) (by omega) (by omega)).trans (B9C.out.block i h4))) hzB (got1 wB _) OA.out SA.out (Nat.le_refl _) (HB1.out.trans ((below_a wB _).mono HB1.out.size)) OB.out SB.out hzA (below_a wB _) PI.out
        · have fd3 : decide (dep < 3) = false := decide_eq_false hd3
          have g6 : (q == 6) = false := beq_eq_false_iff_ne.2 (by omega)
          clear q2 e2 e3 q6 hd3
          go_wp2_with fail
          go_meet
          exact DSET.out
      · have f6 : decide (q < 6) = false := decide_eq_false q6
        by_cases e6 : q = 6
        · by_cases hd2 : dep < 2
          · obtain rfl : dep = 1 := by omega
            have g6 : (q == 6) = true := by rw [e6]; rfl
            obtain ⟨d', rfl⟩ : ∃ d', d = d' + 1 := ⟨d - 1, by have := DD.out; omega⟩
            have hraw : W11.heap[wr.heap.size]? = some (.cells #[.int .i64 r.k, .int .i64 r.a, .int .i64 r.b, .int .i64 r.c] 44) := by
              have hl6 : wr.heap.size < W6.heap.size := (Array.getElem?_eq_some_iff.1 G6.out).1
              have h69 := B8.out.trans (B9.out.mono B8.out.size)
              have h610 := h69.trans (B10.out.mono h69.size)
              exact ((h610.trans (B11.out.mono h610.size)).block wr.heap.size hl6).trans G6.out
            have HRAW : Hid _ := hraw
            have n15 : wr.heap.size ≤ b15 := by have := ZZ.out; omega
            clear q2 e2 e3 q6 hd2 e6 hraw
            go_upto_if 113 with fail
            refine while_way (J := ?J) ?hc HP.out.1 HP.out.2.1 HP.out.2.2.1 PS.out FT.out HB.out BR.out HO.out HC.out.1 HC.out.2.2.1 HC.out.2.2.2.1 G15.out n15 R1.out N6.out DD.out HRAW.out ?hK ?_
            case hc => rfl
            case hK => assumption
            intros
            go_step
            (repeat apply Exists.intro)
            exact ⟨‹Done_ _ _ _ _ _ _ _ _ _›, rfl⟩
          · have fd2 : decide (dep < 2) = false := decide_eq_false hd2
            have g6 : (q == 6) = true := by rw [e6]; rfl
            clear q2 e2 e3 q6 hd2
            go_wp2_with fail
            go_meet
            exact DSET.out
        · have g6 : (q == 6) = false := beq_eq_false_iff_ne.2 e6
          clear q2 e2 e3 q6 e6
          go_wp2_with fail
          go_meet
          exact DSET.out
    case rest =>
    revert wc
    intro W12 hcut
    obtain ⟨hb12, nS2, L2, T2, ⟨xs2, ho2, hx2, hokL, hsL⟩, hsum2, hn2, hg2, hv2, hb2, hok2, hs2⟩ := hcut
    obtain ⟨x2, ex2⟩ : ∃ x2, x2 = T2 [] := ⟨_, rfl⟩
    rw [← ex2] at hg2
    obtain ⟨kind, s2, ea, el, ec, ex, ba, bl2, bc, la2, ll, lc2⟩ := x2
    have c0 : W12.cell? ⟨b15, 0, none⟩ = some (.int .i64 kind) := cell_of_heap hg2 rfl
    have c1' : W12.cell? ⟨b15, 1, none⟩ = some (.string s2) := cell_of_heap hg2 rfl
    have c2' : W12.cell? ⟨b15, 2, none⟩ = some (.slice ea el ec) := cell_of_heap hg2 rfl
    have c3' : W12.cell? ⟨b15, 3, none⟩ = some (.slice ba bl2 bc) := cell_of_heap hg2 rfl
    have c4' : W12.cell? ⟨b15, 4, none⟩ = some (.slice la2 ll lc2) := cell_of_heap hg2 rfl
    have e5 : fiveS (T2 []) = [.int .i64 kind, .string s2, .slice ea el ec, .slice ba bl2 bc, .slice la2 ll lc2] := by rw [← ex2]; rfl
    obtain ⟨i0, gi, gz0, gz1, gz2⟩ := info_parts infoStmt
    have I0 : Hid _ := And.intro gi (And.intro gz0 (And.intro gz1 gz2))
    have OW : Hid (World.ownsRow (W12.alloc (.cells #[.int .i64 kind, .string s2, .slice ea el ec, .slice ba bl2 bc, .slice la2 ll lc2] 34)) w.heap.size 34 5 u9 nS2 xs2) := ho2.alloc _
    have NEW : Hid _ := five_news W12 (.int .i64 kind) (.string s2) (.slice ea el ec) (.slice ba bl2 bc) (.slice la2 ll lc2) 34
    have ONE : Hid (∀ v ∈ ([.int .i64 kind, .string s2, .slice ea el ec, .slice ba bl2 bc, .slice la2 ll lc2] : List Value), v.oneCell' = true) := by simp [Hid, Value.oneCell']
    have NB : Hid (w.heap.size ≤ (W12.alloc (.cells #[.int .i64 kind, .string s2, .slice ea el ec, .slice ba bl2 bc, .slice la2 ll lc2] 34)).heap.size) := by have := hb12.size; simp [Hid]; omega
    have FIN : Hid (∀ (w4 : World) (g' c' : Nat), w4.ownsRow w.heap.size 34 5 (.slice (some ⟨g', 0, none⟩) (nS2 + 1) c') (nS2 + 1) (xs2 ++ [.int .i64 kind, .string s2, .slice ea el ec, .slice ba bl2 bc, .slice la2 ll lc2]) → World.grownBy (W12.alloc (.cells #[.int .i64 kind, .string s2, .slice ea el ec, .slice ba bl2 bc, .slice la2 ll lc2] 34)) w4 u9.ownBlock → (u9.ownBlock = some g' ∨ g' = (W12.alloc (.cells #[.int .i64 kind, .string s2, .slice ea el ec, .slice ba bl2 bc, .slice la2 ll lc2] 34)).heap.size) → Head w many pl d dep ln (.slice l2 n2 c2) (.slice (some ⟨g', 0, none⟩) (nS2 + 1) c') (.int .i64 ((k : Int) + 1)) w4) := fun w4 g' c' ho' hg' hat => by
      have hc := HC.out
      have hr2 := R2.out
      refine head_next (T := T2) rfl hr2.1 hb12 ho2 hx2 hokL hsL hok2 hs2 (by rw [e5]; exact ho') hg' hat hg'.size hsum2 hn2 hc.2.2.2.1 (fun h => ?_) (by have := hr2.2.2; have := hc.2.2.2.2; omega)
      have h1 := hc.2.1 h
      have h2 := hc.2.2.2.2
      exact ⟨by omega, hr2.2.1 (by omega)⟩
    have K4 : Hid (k < 4) := HC.out.2.2.2.1
    have hn9 : nS2 ≤ 9 := by have := K4.out; omega
    have hkI4 : (k : Int) < 4 := by have := K4.out; omega
    have hkI0 : (0 : Int) ≤ k := by omega
    clear hb12 ho2 hx2 hokL hsL hsum2 hn2 hg2 hv2 hb2 hok2 hs2 ex2 gi gz0 gz1 gz2 e5 hq
    go_wp2_with (at_builtin; refine wpList_append_lies _ rfl _ _ 32 rfl w.heap.size 34 i0 (.agg #[.int .i64 0, .string ⟨#[]⟩, .slice none 0 0, .slice none 0 0, .slice none 0 0]) 5 96 Tryd.underlying32 I0.out.1 I0.out.2.1 I0.out.2.2.1 I0.out.2.2.2 rfl (by decide) _ _ _ rfl OW.out ⟨W12.heap.size, 0, none⟩ 1 1 [.int .i64 kind, .string s2, .slice ea el ec, .slice ba bl2 bc, .slice la2 ll lc2] rfl rfl NEW.out ONE.out (by decide) (by unfold maxLen; omega) (by omega) NB.out _ rfl ?_; intro g' c' w4 ho' hg' hat _; have H4 : Hid _ := FIN.out w4 g' c' ho' hg' hat; clear ho' hg' hat)
    go_roundw
    case rel => exact H4.out
    case measure => have := K4.out; simp [intOf]; omega
end Go.Proofs.YtgjemlhnlpglbaaDoor.PStmts
