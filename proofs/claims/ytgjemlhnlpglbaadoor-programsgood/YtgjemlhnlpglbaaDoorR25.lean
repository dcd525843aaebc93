/-
  barbicankeep.Stmts, ITS WAY While: what is laid from 'y = 0' on, till the statement lies in its box.
  Conditions: those of the round that comes there.
-/
import Derived.Test.YtgjemlhnlpglbaaDoorR20
import Derived.Test.YtgjemlhnlpglbaaDoorR23
import Derived.Deep.RegionHeld3
import Derived.Deep.CutRange
import Derived.Deep.CutBlock
import Derived.Deep.AppendLies
namespace Go.Proofs.YtgjemlhnlpglbaaDoor.PWhile
open Go.RowKit PPlain PRaw PNumber PExprBase PStmtBase PWhileBase PGather Trees
open Go.Proofs.YtgjemlhnlpglbaaDoor.Bytes (cell_of_heap)

set_option maxRecDepth 100000 in
set_option maxHeartbeats 4000000 in
theorem while_way {u0 u4 u5 u6 u7 u8 u9 u10 u13 u14 u16 u17 u18 u19 u20 u21 u22 u23 u24 u25 u26 u27 u28 u29 u30 u31 u32 u33 u34 u35 u36 u37 u38 u39 u40 u41 u42 u43 u44 u45 u46 u47 u48 u49 u50 u51 u52 u53 u54 u55 u56 u57 u58 u59 u60 u61 u62 u63 u64 u65 u66 u67 u68 u69 u70 u71 u72 u73 u74 u75 u76 u77 u78 u79 u80 u81 u82 u83 u84 u85 u86 u87 u88 u89 u90 u91 u92 u93 u94 u95 u96 u97 u98 u99 u100 u101 u102 u103 u104 u105 u106 u107 u108 u109 u110 u111 u112 u114 u115 u116 u117 u118 u119 u120 u121 u122 u123 u124 u125 u126 u127 u128 u129 u130 u131 u132 u133 u134 u135 u136 u137 u138 u139 u140 u141 u142 u143 u144 u145 u146 u147 u148 u149 u150 u151 u152 u153 u154 u155 u156 : Value} {ds : List Deferred} {w wr W11 : World} {many pl pc d' k nS b15 n1 c1 : Nat} {l1 pa : Option Addr} {r : RawD} {L : Nat → STree} {o0 o1 o2 o3 o4 : Value} {J K : Act → World → Prop} {Q' : Exit → Act → World → Prop}
    {code : Code} (hcode : code = (codeAt 21 (Tryd.f14.body.getD .skip)).getD .skip) (hp : PPar w pa pl) (hpl : pl ≤ 2) (hn : Names w) (ps : SC (d' + 1) many) (hr : r.fits) (hB : Below w.heap.size w wr) (br : Below wr.heap.size wr W11) (hO : ORow w.heap.size wr u9 nS L many pl (d' + 1)) (hsum : sum (fun i => cnt (d' + 1) (L i)) nS ≤ per 1 * k) (hnS : nS ≤ 2 * k) (hk4 : k < 4)
    (g15 : W11.heap[b15]? = some (.cells #[o0, o1, o2, o3, o4] 34)) (n15 : wr.heap.size ≤ b15) (r1 : Raws w l1 n1 c1) (n6 : n1 ≤ 6) (hdd : 1 ≤ d' + 1 ∧ 5 ≤ (1 : Int) + ((d' + 1 : Nat) + 1)) (hraw : W11.heap[wr.heap.size]? = some (.cells #[.int .i64 r.k, .int .i64 r.a, .int .i64 r.b, .int .i64 r.c] 44))
    (hK : ∀ a' w', Met J a' w' → K a' w') (hJ : ∀ (v9 v17 v18 v19 z20 z21 z22 z23 z24 z25 z26 z27 z28 z29 z30 z31 z32 z33 z34 z35 z36 z37 z38 z39 z40 z41 z42 z43 z44 z45 z46 z47 z48 z49 z50 z51 z52 z53 z54 z55 z56 z57 z58 z59 z60 z61 z62 z63 z64 z65 z66 z67 z68 z69 z70 z71 z72 z73 z74 z75 z76 z77 z78 z79 z80 z81 z82 z83 z84 z85 z86 z87 z88 z89 z90 z91 z92 z93 z94 z95 z96 z97 z98 z99 z100 z101 z102 z103 z104 z105 z106 z107 z108 z109 z110 z111 z112 z113 z114 z115 z116 z117 z118 z119 z120 z121 z122 z123 z124 z125 z126 z127 z128 z129 z130 z131 z132 z133 z134 z135 z136 z137 z138 z139 z140 z141 z142 z143 z144 z145 z146 z147 z148 z149 z150 z151 z152 z153 z154 z155 : Value) (W : World), Done_ w many pl (d' + 1) 1 k b15 v9 W → J ⟨(u0 :: .slice pa pl pc :: .int .i64 many :: .int .i64 1 :: u4 :: u5 :: u6 :: u7 :: u8 :: v9 :: u10 :: .pointer (some ⟨wr.heap.size, 0, none⟩) :: .slice l1 n1 c1 :: u13 :: u14 :: .pointer (some ⟨b15, 0, none⟩) :: u16 :: v17 :: v18 :: v19 :: z20 :: z21 :: z22 :: z23 :: z24 :: z25 :: z26 :: z27 :: z28 :: z29 :: z30 :: z31 :: z32 :: z33 :: z34 :: z35 :: z36 :: z37 :: z38 :: z39 :: z40 :: z41 :: z42 :: z43 :: z44 :: z45 :: z46 :: z47 :: z48 :: z49 :: z50 :: z51 :: z52 :: z53 :: z54 :: z55 :: z56 :: z57 :: z58 :: z59 :: z60 :: z61 :: z62 :: z63 :: z64 :: z65 :: z66 :: z67 :: z68 :: z69 :: z70 :: z71 :: z72 :: z73 :: z74 :: z75 :: z76 :: z77 :: z78 :: z79 :: z80 :: z81 :: z82 :: z83 :: z84 :: z85 :: z86 :: z87 :: z88 :: z89 :: z90 :: z91 :: z92 :: z93 :: z94 :: z95 :: z96 :: z97 :: z98 :: z99 :: z100 :: z101 :: z102 :: z103 :: z104 :: z105 :: z106 :: z107 :: z108 :: z109 :: z110 :: z111 :: z112 :: z113 :: z114 :: z115 :: z116 :: z117 :: z118 :: z119 :: z120 :: z121 :: z122 :: z123 :: z124 :: z125 :: z126 :: z127 :: z128 :: z129 :: z130 :: z131 :: z132 :: z133 :: z134 :: z135 :: z136 :: z137 :: z138 :: z139 :: z140 :: z141 :: z142 :: z143 :: z144 :: z145 :: z146 :: z147 :: z148 :: z149 :: z150 :: z151 :: z152 :: z153 :: z154 :: z155 :: u156 :: []).toArray, ds⟩ W) :
    (Code.cond (.tmp 113) code .skip).wp Tryd.prog (Exit.inBlock 2 (Exit.then K Q')) ⟨(u0 :: .slice pa pl pc :: .int .i64 many :: .int .i64 1 :: u4 :: u5 :: u6 :: u7 :: u8 :: u9 :: u10 :: .pointer (some ⟨wr.heap.size, 0, none⟩) :: .slice l1 n1 c1 :: u13 :: u14 :: .pointer (some ⟨b15, 0, none⟩) :: u16 :: u17 :: u18 :: u19 :: u20 :: u21 :: u22 :: u23 :: u24 :: u25 :: u26 :: u27 :: u28 :: u29 :: u30 :: u31 :: u32 :: u33 :: u34 :: u35 :: u36 :: u37 :: u38 :: u39 :: u40 :: u41 :: u42 :: u43 :: u44 :: u45 :: u46 :: u47 :: u48 :: u49 :: u50 :: u51 :: u52 :: u53 :: u54 :: u55 :: u56 :: u57 :: u58 :: u59 :: u60 :: u61 :: u62 :: u63 :: u64 :: u65 :: u66 :: u67 :: u68 :: u69 :: u70 :: u71 :: u72 :: u73 :: u74 :: u75 :: u76 :: u77 :: u78 :: u79 :: u80 :: u81 :: u82 :: u83 :: u84 :: u85 :: u86 :: u87 :: u88 :: u89 :: u90 :: u91 :: u92 :: u93 :: u94 :: u95 :: u96 :: u97 :: u98 :: u99 :: u100 :: u101 :: u102 :: u103 :: u104 :: u105 :: u106 :: u107 :: u108 :: u109 :: u110 :: u111 :: u112 :: .bool true :: u114 :: u115 :: u116 :: u117 :: u118 :: u119 :: u120 :: u121 :: u122 :: u123 :: u124 :: u125 :: u126 :: u127 :: u128 :: u129 :: u130 :: u131 :: u132 :: u133 :: u134 :: u135 :: u136 :: u137 :: u138 :: u139 :: u140 :: u141 :: u142 :: u143 :: u144 :: u145 :: u146 :: u147 :: u148 :: u149 :: u150 :: u151 :: u152 :: u153 :: u154 :: u155 :: u156 :: []).toArray, ds⟩ W11 := by
  subst hcode
  have HP : Hid (PPar w pa pl ∧ pl ≤ 2 ∧ Names w) := ⟨hp, hpl, hn⟩
  have PS : Hid (SC (d' + 1) many) := ps
  have kp : ∀ (n m : Int) (W : World), _ := picked
  have KP : Hid _ := kp
  have FT : Hid r.fits := hr
  have HB : Hid (Below w.heap.size w wr) := hB
  have BR : Hid (Below wr.heap.size wr W11) := br
  have HSUM : Hid (sum (fun i => cnt (d' + 1) (L i)) nS ≤ per 1 * k) := hsum
  have HNS : Hid (nS ≤ 2 * k) := hnS
  have G15 : Hid _ := g15
  have N15 : Hid (wr.heap.size ≤ b15) := n15
  have R1 : Hid (Raws w l1 n1 c1) := r1
  have N6 : Hid (n1 ≤ 6) := n6
  have DD : Hid (1 ≤ d' + 1 ∧ 5 ≤ (1 : Int) + ((d' + 1 : Nat) + 1)) := hdd
  have HRAW : Hid _ := hraw
  have HJ : Hid _ := hJ
  obtain ⟨xs, ho, hx, hokL, hsL⟩ := hO
  have HD : Hid (1 ≤ d') := (by omega : 1 ≤ d')
  obtain ⟨i0, gi, gz0, gz1, gz2⟩ := info_parts infoStmt
  have I0 : Hid _ := And.intro gi (And.intro gz0 (And.intro gz1 gz2))
  have l15 : b15 < W11.heap.size := (Array.getElem?_eq_some_iff.1 G15.out).1
  have OW : Hid (World.ownsRow ((W11.alloc (.cells #[.int .i64 1, .int .i64 0, .string ⟨#[]⟩, .string ⟨#[]⟩, .slice none 0 0] 29)).alloc (.cells #[.int .i64 1, .string ⟨#[121]⟩, .slice (some ⟨W11.heap.size, 0, none⟩) 1 1, .slice none 0 0, .slice none 0 0] 34)) w.heap.size 34 5 u9 nS xs) := ((owns_below ho BR.out).alloc _).alloc _
  have NEW : Hid (∀ (j : Nat) (v : Value), ([.int .i64 1, .string ⟨#[121]⟩, .slice (some ⟨W11.heap.size, 0, none⟩) 1 1, .slice none 0 0, .slice none 0 0] : List Value)[j]? = some v → ((W11.alloc (.cells #[.int .i64 1, .int .i64 0, .string ⟨#[]⟩, .string ⟨#[]⟩, .slice none 0 0] 29)).alloc (.cells #[.int .i64 1, .string ⟨#[121]⟩, .slice (some ⟨W11.heap.size, 0, none⟩) 1 1, .slice none 0 0, .slice none 0 0] 34)).cell? ((⟨W11.heap.size + 1, 0, none⟩ : Addr).add j) = some v) := fun j v hj => by
    have := five_news (W11.alloc (.cells #[.int .i64 1, .int .i64 0, .string ⟨#[]⟩, .string ⟨#[]⟩, .slice none 0 0] 29)) (.int .i64 1) (.string ⟨#[121]⟩) (.slice (some ⟨W11.heap.size, 0, none⟩) 1 1) (.slice none 0 0) (.slice none 0 0) 34 j v hj
    rw [show (W11.alloc (.cells #[.int .i64 1, .int .i64 0, .string ⟨#[]⟩, .string ⟨#[]⟩, .slice none 0 0] 29)).heap.size = W11.heap.size + 1 by simp] at this
    exact this
  have ONE : Hid (∀ v ∈ ([.int .i64 1, .string ⟨#[121]⟩, .slice (some ⟨W11.heap.size, 0, none⟩) 1 1, .slice none 0 0, .slice none 0 0] : List Value), v.oneCell' = true) := by simp [Hid, Value.oneCell']
  have NB : Hid (w.heap.size ≤ ((W11.alloc (.cells #[.int .i64 1, .int .i64 0, .string ⟨#[]⟩, .string ⟨#[]⟩, .slice none 0 0] 29)).alloc (.cells #[.int .i64 1, .string ⟨#[121]⟩, .slice (some ⟨W11.heap.size, 0, none⟩) 1 1, .slice none 0 0, .slice none 0 0] 34)).heap.size) := by have := HB.out.size; simp [Hid]; omega
  have FIN : Hid (∀ (w4 : World) (g' c' : Nat), w4.ownsRow w.heap.size 34 5 (.slice (some ⟨g', 0, none⟩) (nS + 1) c') (nS + 1) (xs ++ [.int .i64 1, .string ⟨#[121]⟩, .slice (some ⟨W11.heap.size, 0, none⟩) 1 1, .slice none 0 0, .slice none 0 0]) → World.grownBy ((W11.alloc (.cells #[.int .i64 1, .int .i64 0, .string ⟨#[]⟩, .string ⟨#[]⟩, .slice none 0 0] 29)).alloc (.cells #[.int .i64 1, .string ⟨#[121]⟩, .slice (some ⟨W11.heap.size, 0, none⟩) 1 1, .slice none 0 0, .slice none 0 0] 34)) w4 u9.ownBlock → (u9.ownBlock = some g' ∨ g' = ((W11.alloc (.cells #[.int .i64 1, .int .i64 0, .string ⟨#[]⟩, .string ⟨#[]⟩, .slice none 0 0] 29)).alloc (.cells #[.int .i64 1, .string ⟨#[121]⟩, .slice (some ⟨W11.heap.size, 0, none⟩) 1 1, .slice none 0 0, .slice none 0 0] 34)).heap.size) → AtY w wr W11 many pl (d' + 1) k nS b15 1 (.slice (some ⟨g', 0, none⟩) (nS + 1) c') w4) := fun w4 g' c' ho' hg' hat =>
    atY HB.out BR.out ho hx hokL hsL n15 l15 DD.out.1 HSUM.out rfl ho' hg' hat
  have hn9 : nS ≤ 9 := by omega
  clear hp hpl hn ps kp hr hB br hsum hnS hk4 g15 n15 r1 n6 hdd hraw hJ ho hx hokL hsL gi gz0 gz1 gz2 l15
  conv => arg 2; arg 2; whnf
  go_upto_region 21 with fail
  go_cut [9] from 20 to 155 (fun s9 wx => AtY w wr W11 many pl (d' + 1) k nS b15 1 s9 wx)
  case first =>
    go_wp2_with (at_builtin; refine wpList_append_lies _ rfl _ _ 32 rfl w.heap.size 34 i0 (.agg #[.int .i64 0, .string ⟨#[]⟩, .slice none 0 0, .slice none 0 0, .slice none 0 0]) 5 96 Tryd.underlying32 I0.out.1 I0.out.2.1 I0.out.2.2.1 I0.out.2.2.2 rfl (by decide) _ _ _ rfl OW.out ⟨W11.heap.size + 1, 0, none⟩ 1 1 [.int .i64 1, .string ⟨#[121]⟩, .slice (some ⟨W11.heap.size, 0, none⟩) 1 1, .slice none 0 0, .slice none 0 0] rfl rfl NEW.out ONE.out (by decide) (by unfold maxLen; omega) (by omega) NB.out _ rfl ?_; intro g' c' w4 ho' hg' hat _; have H4 : Hid _ := FIN.out w4 g' c' ho' hg' hat; clear ho' hg' hat)
    go_meet
    exact H4.out
  case rest =>
  revert wc
  intro wA hcut
  have HA : Hid _ := hcut
  have cr : ∀ W, Below wA.heap.size wA W → W.cell? ⟨wr.heap.size, 2, none⟩ = some (.int .i64 r.b) := fun W hW => by
    have hw6 := HRAW.out
    have hwA := (hcut.2.1 wr.heap.size (Nat.le_refl _) (Array.getElem?_eq_some_iff.1 hw6).1).trans hw6
    exact cell_of_heap (kept hW hwA) rfl
  have CR : Hid _ := cr
  clear hcut cr OW NEW ONE NB FIN
  go_upto_region 22 with fail
  go_cut [17] from 20 to 155 (fun s17 wx => YBox wA 1 1 s17 wx)
  case first =>
    go_wp2_with fail
    go_meet
    exact ybox
  case rest =>
  revert wc
  intro wB hcut
  obtain ⟨hbB, b17, b2, rfl, hb17, hb2, hg17, hg2⟩ := hcut
  have HBB : Hid (Below wA.heap.size wA wB) := hbB
  have G17 : Hid _ := hg17
  have G2 : Hid _ := hg2
  have L17 : Hid (wA.heap.size ≤ b17 ∧ wA.heap.size ≤ b2) := ⟨hb17, hb2⟩
  have c2 := CR.out wB hbB
  have hpk3 := fun W => KP.out r.b 6 W FT.out.2.2.1 (by decide) (by decide)
  have HPK3 : Hid _ := hpk3
  have PKB : Hid (0 ≤ pk r.b 6 ∧ pk r.b 6 ≤ 65535) := by have := pk_bd r.b 6 (by decide); exact ⟨by omega, by omega⟩
  clear hbB hb17 hb2 hg17 hg2 hpk3
  go_upto_region 23 with fail
  go_cut [18] from 20 to 155 (fun s18 wx => ∃ n, (0 ≤ n ∧ n ≤ 65535) ∧ YBox wB 7 n s18 wx)
  case first =>
    go_wp2_with (go_at_call 8; refine (HPK3.out _).mono ?_; rintro e w5 ⟨rfl, hw5⟩; rw [hw5]; clear hw5 w5)
    go_meet
    exact ⟨_, PKB.out, ybox⟩
  case rest =>
  revert wc
  intro wC hcut
  obtain ⟨n7, h07, hbC, b18, b3, rfl, hb18, hb3, hg18, hg3⟩ := hcut
  have HBC : Hid (Below wB.heap.size wB wC) := hbC
  have N7 : Hid (0 ≤ n7 ∧ n7 ≤ 65535) := h07
  have G18 : Hid _ := hg18
  have G3 : Hid _ := hg3
  have L18 : Hid (wB.heap.size ≤ b18 ∧ wB.heap.size ≤ b3) := ⟨hb18, hb3⟩
  have bAC : Below wA.heap.size wA wC := HBB.out.trans (hbC.mono HBB.out.size)
  have BAC : Hid (Below wA.heap.size wA wC) := bAC
  have g17c : wC.heap[b17]? = _ := kept hbC G17.out
  have g2c : wC.heap[b2]? = _ := kept hbC G2.out
  have G17C : Hid _ := g17c
  have G2C : Hid _ := g2c
  have ks : ∀ W, Below wC.heap.size wC W → Calls Tryd.prog 14 #[.slice l1 n1 c1, .slice pa pl pc, .int .i64 many, .int .i64 3] W fun e w' => SOut W many pl (d' + 1) (bnd 3 n1) e w' := fun W hb => by
    have hz := HA.out.1.size
    have hb1 : Below w.heap.size w W := (HA.out.1.trans (BAC.out.mono hz)).trans (hb.mono (by have := BAC.out.size; omega))
    exact PS.out 3 W l1 pa n1 c1 pl pc (by decide) (by decide) (by have := DD.out.2; omega) (Raws_below hb1 R1.out) (PPar_below hb1 HP.out.1) HP.out.2.1 (Names_below hb1 HP.out.2.2)
  have KS : Hid _ := ks
  clear h07 hbC hb18 hb3 hg18 hg3 bAC g17c g2c ks c2
  go_upto_region 24 with fail
  go_cut [19] from 20 to 155 (fun s19 wx => Below wC.heap.size wC wx ∧ BodyY wA many pl (d' + 1) 1 s19 wx)
  case first =>
    refine region_gathered (by kernel_rfl) 137 10 2 (by kernel_rfl) (by simp) (GW wC l1 pa n1 c1 pl pc many d' b2) (GW_below wC l1 pa n1 c1 pl pc many d' b2) ?_ ?_
    · refine ⟨?_, ?_, ?_, ?_, ?_, ?_, ?_, ?_, ?_, ?_, trivial⟩
      · intro a W K hB hk hK
        have e : a.tmps[12]?.getD undef = .slice l1 n1 c1 := by rw [hB.2.2.2 12 (by omega)]; rfl
        go_simp
        exact hK _ _ rfl (Below.refl _ _)
      · intro a W K hB hk hK
        have e : a.tmps[1]?.getD undef = .slice pa pl pc := by rw [hB.2.2.2 1 (by omega)]; rfl
        go_simp
        exact hK _ _ rfl (Below.refl _ _)
      · intro a W K hB hk hK
        have e : a.tmps[2]?.getD undef = .int .i64 many := by rw [hB.2.2.2 2 (by omega)]; rfl
        go_simp
        exact hK _ _ rfl (Below.refl _ _)
      · intro a W K hB hk hK
        have e : a.tmps[3]?.getD undef = .int .i64 1 := by rw [hB.2.2.2 3 (by omega)]; rfl
        go_simp
        exact hK _ _ rfl (Below.refl _ _)
      · intro a W K hB hk hK
        have e : a.tmps[140]?.getD undef = .int .i64 1 := hk 3 (by kernel_rfl)
        go_simp
        exact hK _ _ rfl (Below.refl _ _)
      · intro a W K hB hk hK
        have e0 : a.tmps[137]?.getD undef = .slice l1 n1 c1 := hk 0 (by kernel_rfl)
        have e1 : a.tmps[138]?.getD undef = .slice pa pl pc := hk 1 (by kernel_rfl)
        have e2 : a.tmps[139]?.getD undef = .int .i64 many := hk 2 (by kernel_rfl)
        have e3 : a.tmps[141]?.getD undef = .int .i64 3 := hk 4 (by kernel_rfl)
        have HBW : Hid (Below wC.heap.size wC W) := hB.1
        have HK : Hid _ := hK
        clear hB hk hK
        go_simp
        go_at_call 14
        refine (KS.out _ HBW.out).mono ?_
        rintro e w' ⟨hb, ao, nn, cap, L5, rfl, hn5, _, hc5, _, d5, hd5, ho5⟩
        obtain rfl : d' = d5 := by omega
        rw [count_cnt, bnd3 N6.out] at hc5
        exact HK.out _ _ ⟨ao, nn, cap, L5, rfl, hn5, ORow_less ho5 HBW.out.size, hc5⟩ hb
      · intro a W K hB hk hK
        have e : a.tmps[17]?.getD undef = .pointer (some ⟨b17, 0, none⟩) := by rw [hB.2.2.2 17 (by omega)]; rfl
        obtain ⟨x0, x1, x2, x3, x4, _⟩ := five_cells (kept hB.1 G17C.out)
        go_simp
        exact hK _ _ rfl (Below.refl _ _)
      · intro a W K hB hk hK
        have e : a.tmps[143]?.getD undef = .agg #[.int .i64 5, .int .i64 1, .string ⟨#[]⟩, .string ⟨#[]⟩, .slice (some ⟨b2, 0, none⟩) 2 2] := hk 6 (by kernel_rfl)
        have hz := hB.1.size
        go_simp
        exact hK _ _ ⟨W.heap.size, rfl, hz, got1 W _⟩ (below_a W _)
      · intro a W K hB hk hK
        obtain ⟨bx, e, h1, h2⟩ : GW wC l1 pa n1 c1 pl pc many d' b2 7 (a.tmps[144]?.getD undef) W := hk 7 (by kernel_rfl)
        go_simp
        exact hK _ _ ⟨bx, rfl, h1, h2⟩ (Below.refl _ _)
      · intro a W K hB hk hK
        obtain ⟨bx, e, h1, h2⟩ : GW wC l1 pa n1 c1 pl pc many d' b2 8 (a.tmps[145]?.getD undef) W := hk 8 (by kernel_rfl)
        rw [setC] at e
        go_simp
        exact hK _ _ ⟨bx, W.heap.size, rfl, h1, kept (below_a W _) h2, got1 W _⟩ (below_a W _)
    · intro u w2 hb hg
      have hn5 : 5 < 10 := by decide
      have hn9' : 9 < 10 := by decide
      have g5 := hg 5 hn5
      have g9 := hg 9 hn9'
      obtain ⟨nb, bx, bs, xs5, e9, hnb, ho5, hnew, hfin⟩ := tailW BAC.out hb g5 g9 HD.out G2C.out L17.out.2
      have OW5 : Hid _ := ho5
      have NEW5 : Hid _ := hnew
      have FIN5 : Hid _ := hfin
      have E9 : Hid _ := e9
      have HNB : Hid (nb ≤ 1000) := hnb
      have NB5 : Hid (wC.heap.size ≤ w2.heap.size) := hb.size
      clear hg e9 ho5 hnew hfin hb hnb g5 g9 hn5 hn9'
      simp only [mkL, Nat.reduceLeDiff, Nat.reduceLT, Nat.reduceAdd, and_true, and_false, if_true, if_false, List.drop_succ_cons, List.drop_zero]
      refine wpList_append_lies _ rfl (.tmp 142) (.tmp 146) 32 rfl wC.heap.size 34 i0 (.agg #[.int .i64 0, .string ⟨#[]⟩, .slice none 0 0, .slice none 0 0, .slice none 0 0]) 5 96 Tryd.underlying32 I0.out.1 I0.out.2.1 I0.out.2.2.1 I0.out.2.2.2 rfl (by decide) (u 142) nb xs5 rfl OW5.out ⟨bs, 0, none⟩ 1 1 [.int .i64 1, .string ⟨#[121]⟩, .slice (some ⟨bx, 0, none⟩) 1 1, .slice none 0 0, .slice none 0 0] E9.out rfl NEW5.out (one5 bx) (by decide) (by have := HNB.out; unfold maxLen; omega) (by have := HNB.out; omega) NB5.out _ rfl ?_
      intro g' c' w4 ho' hg' hat _
      have H4 : Hid _ := FIN5.out w4 g' c' ho' hg' hat
      clear ho' hg' hat
      go_wp2_with fail
      go_meet
      exact H4.out
  case rest =>
  revert wc
  intro wD hcut
  obtain ⟨hbD, hBY⟩ := hcut
  have hBY2 := hBY
  obtain ⟨hbD2, ab, nb, cb, _, e19, _⟩ := hBY2
  subst e19
  have HBY : Hid _ := hBY
  have HBD : Hid (Below wC.heap.size wC wD) := hbD
  have h15 : wD.heap[b15]? = _ := kept hbD2 ((HA.out.2.1 b15 N15.out (Array.getElem?_eq_some_iff.1 G15.out).1).trans G15.out)
  have H15 : Hid _ := h15
  obtain ⟨x0, x1, x2, x3, x4, _⟩ := five_cells (kept hbD G18.out)
  clear hBY hbD hbD2 h15
  go_wp2_with ((with_reducible show wpList _ _ _ ({ dst := none, op := Op.store 34 _ _, type := _, pos := _, after := _, guard := _ } :: _) _ _); refine wpList_store_row rfl 34 _ _ rfl b15 #[.int .i64 4, .string ⟨#[]⟩, .slice (some ⟨wD.heap.size, 0, none⟩) 1 1, .slice ab nb cb, .slice none 0 0] rfl rfl 34 _ (got_old _ _ H15.out) sizeStmt rfl (by simp [Value.oneCell']) ?_)
  refine Met.intro (HJ.out _ _ _ _ _ _ _ _ _ _ _ _ _ _ _ _ _ _ _ _ _ _ _ _ _ _ _ _ _ _ _ _ _ _ _ _ _ _ _ _ _ _ _ _ _ _ _ _ _ _ _ _ _ _ _ _ _ _ _ _ _ _ _ _ _ _ _ _ _ _ _ _ _ _ _ _ _ _ _ _ _ _ _ _ _ _ _ _ _ _ _ _ _ _ _ _ _ _ _ _ _ _ _ _ _ _ _ _ _ _ _ _ _ _ _ _ _ _ _ _ _ _ _ _ _ _ _ _ _ _ _ _ _ _ _ _ _ _ _ _ _ ?_)
  exact boxedW HB.out BR.out N15.out G15.out HA.out HNS.out rfl HBY.out (Nat.le_refl _) DD.out.1 N7.out (kept HBD.out G3.out) (by have := L18.out; have := HBB.out.size; omega)
end Go.Proofs.YtgjemlhnlpglbaaDoor.PWhile
