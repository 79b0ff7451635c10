import Derived.Test.YticpdlgnaphnkaaKB
import Derived.Test.YticpdlgnaphnkaaSC
namespace Go.Proofs.Yticpdlgnaphnkaa
open Go Go.RowKit Go.Pan

set_option maxHeartbeats 1600000 in
set_option maxRecDepth 100000 in
theorem MiddleStacks_any (v : Value) (xs : List Int) (u : Value) (ys : List Int) (w : World) (hv : OwnI w v xs) (hn : xs.length ≤ 1048576) (hu : OwnI w u ys) (hm : ys.length ≤ 1048576) :
    Calls Try.prog 60 #[v, u] w fun e w' => e = .returned (.tuple #[.int .i64 (mMiddleStacks xs ys), .bool (twoB xs ys)]) ∧ Below w.heap.size w w' := by
  cases hg : twoB xs ys with
  | true =>
    have HM := Lib.hid (show mMiddleStacks xs ys = (midL xs.length xs ys (far2 xs ys) : Int) from if_pos hg)
    obtain ⟨hG, h7, hH, hl⟩ := twoB_iff.1 hg
    have hle : far2 xs ys ≤ 2 * xs.length := (far_spec hG.st ⟨hH, hl.symm⟩).2.1
    have h9 := hG.le9
    have c := wayBetween_yes _ _ xs ys w hv hn hu hm hg
    have HC := Lib.hid hG.cnt
    have HS := Lib.hid hG.st
    obtain ⟨ad, cap, rfl, _, _, _⟩ := hv.shape
    obtain ⟨ad2, cap2, rfl, _, _, _⟩ := hu.shape
    obtain ⟨d, hd⟩ : ∃ d, far2 xs ys = d := ⟨_, rfl⟩
    rw [hd] at c HM hle
    obtain ⟨m, hmm⟩ : ∃ m, d + 1 = m := ⟨_, rfl⟩
    have HMM := Lib.hid hmm
    rw [hmm] at c
    clear hG hg hd hH hl hmm
    go_enter Try.func60, Try.ntmps60
    go_wp2_with fail
    refine c.mono ?_
    rintro e w1 ⟨g, cap3, ms, rfl, hW, hb1⟩
    clear c
    have hml : ms.length = m := by rw [hW.len, wayP_length, HMM.out]
    have hne : ms ≠ [] := by rintro rfl; have := HMM.out; simp at hml; omega
    obtain ⟨gg, cc, hsh, _, hgl, _, hcl⟩ := hW.shape hne
    simp only [Value.slice.injEq, Option.some.injEq, Addr.mk.injEq, and_true] at hsh
    obtain ⟨rfl, hlx, rfl⟩ := hsh
    have HML := Lib.hid hml
    have HCL := Lib.hid hcl
    have HW := Lib.hid hW
    have hfl := fact_le (n := xs.length) (by omega)
    have hm0 := midTo_zero xs.length xs ys d
    have HM0 := Lib.hid hm0
    have hm1 : m ≤ 1048576 := by have := HMM.out; omega
    clear hlx hml hne hcl hW hm0
    go_wp2
    go_loopw [8, 10, 19] (fun cv _ iv' wr => ∃ i : Nat, i ≤ m ∧ iv' = .int .i64 i ∧ cv = .int .i64 (midTo xs.length xs ys d i : Nat) ∧ wr = w1) (fun _ _ i _ => m - (intOf i).toNat)
    case atStart => exact ⟨0, Nat.zero_le _, rfl, by rw [HM0.out]; rfl, rfl⟩
    case round =>
      obtain ⟨i, hi, rfl, rfl, rfl⟩ := hrel
      by_cases hlt : i < m
      · have hlt' : (i : Int) < m := by omega
        obtain ⟨bj, hbj⟩ : ∃ x, ms[i]? = some x := ⟨_, List.getElem?_eq_getElem (by rw [HML.out]; exact hlt)⟩
        have hly := (HW.out.lay i bj _ hbj (wayP_get _ _ _ d d i (by have := HMM.out; omega))).1
        have hcell := HCL.out i bj hbj
        obtain ⟨D, hown, hL⟩ := hly
        have HSZ := Lib.hid (show midTo xs.length xs ys d (i + 1) = midTo xs.length xs ys d i + Maps.size D by
          rw [midTo_succ HC.out HS.out (by have := HMM.out; omega), hL.size HC.out (hown.canon keyd)])
        have hle2 := midTo_le xs.length xs ys d (i + 1)
        rw [HSZ.out] at hle2
        obtain ⟨a, ha⟩ : ∃ a, midTo xs.length xs ys d i = a := ⟨_, rfl⟩
        obtain ⟨z, hz⟩ : ∃ z, Maps.size D = z := ⟨_, rfl⟩
        have HA := Lib.hid ha
        have HZ := Lib.hid hz
        rw [ha, hz] at hle2
        rw [ha]
        have hs1 := IntWalk.i64_in ((a : Int) + z) (by omega)
        clear hbj hL ha hz
        go_wp2_with (first | (at_len; refine wpList_len_own _ rfl _ 68 rfl 54 3 Try.underlying68 _ bj (fact xs.length) D rfl hown ?_; rw [HZ.out]))
        go_roundw
        case rel => exact ⟨i + 1, by omega, by go_num, by rw [HSZ.out, HA.out, HZ.out]; go_num, by first | rfl | trivial⟩
        case measure => simp [intOf] <;> omega
      · obtain rfl : i = m := by omega
        have hge : (i : Int) ≤ i := Int.le_refl _
        have HE := Lib.hid (show midTo xs.length xs ys d i = midL xs.length xs ys d by rw [← HMM.out]; exact midTo_all _ _ _ _)
        go_wp2
        go_ret2
        exact ⟨by rw [HM.out, HE.out]; rfl, hb1⟩
  | false =>
    have HM := Lib.hid (show mMiddleStacks xs ys = 0 from if_neg (by rw [hg]; exact Bool.false_ne_true))
    have c := wayBetween_no _ _ xs ys w hv hn hu hm hg
    obtain ⟨ad, cap, rfl, _, _, _⟩ := hv.shape
    obtain ⟨ad2, cap2, rfl, _, _, _⟩ := hu.shape
    clear hg
    go_enter Try.func60, Try.ntmps60
    go_wp2_with fail
    refine c.mono ?_
    rintro e w1 ⟨rfl, hb1⟩
    clear c
    go_wp2
    go_loopw [8, 10, 19] (fun cv _ iv' wr => iv' = .int .i64 0 ∧ cv = .int .i64 0 ∧ wr = w1) (fun _ _ i _ => 0)
    case atStart => exact ⟨rfl, rfl, rfl⟩
    case round =>
      obtain ⟨rfl, rfl, rfl⟩ := hrel
      go_wp2
      go_ret2
      exact ⟨by rw [HM.out]; rfl, hb1⟩

/-- 's[:h]' of whatever -/
theorem wpList_upto {P : Program} {w : World} {ops : Array Oper} {rest : List Oper} {o : Oper} {a : Act} {Q : Exit → Act → World → Prop}
    (hg : o.guard = none) (x hi : Operand) (t e : TypeId) (hop : o.op = .slice t x none (some hi) none) (i : TypeInfo) (hu : P.underlying t = some (.slice e)) (hi' : P.info? e = some i) (hs1 : i.size = 1)
    (g n cap h : Nat) (hx : a.eval x = .slice (some ⟨g, 0, none⟩) n cap) (H : Int) (hh : a.eval hi = .int .i64 H) (hH : H = (h : Int)) (hle : h ≤ cap) (h0 : 0 < cap)
    (hK : wpList P ops Q rest (a.put o.dst (.slice (some ⟨g, 0, none⟩) h cap)) w) :
    wpList P ops Q (o :: rest) a w := by
  subst hH
  have he : P.elem t = e := by simp [Program.elem, hu]
  have hc : ¬ cap = 0 := by omega
  have hrun : (Instr.sliceAt t (.slice (some ⟨g, 0, none⟩) n cap) none (some (.int .i64 h)) none).run P w = .ok (.slice (some ⟨g, 0, none⟩) h cap) w := by
    rw [run_sliceAt_slice w t _ _ _ _ (by rw [he]; exact hu), run_slice_h w t (some ⟨g, 0, none⟩) n cap (by rw [he]; exact hu) .i64 h (by omega) (by omega)]
    simp [sizeOf, typeInfo, he, hi', hs1, sliced, Result.andThen, hc, Addr.add]
  refine wpList_plain hg fun K' hK' => ?_
  unfold Oper.wp
  simp [execOp, hop, hx, hh, hrun, Result.andThen]
  exact hK' _ _ hK

set_option maxHeartbeats 4000000 in
set_option maxRecDepth 100000 in
theorem wholeWave_any (n : Nat) (w : World) (hn : Hid (Cnt n)) (h7 : n ≤ 7) :
    Calls Try.prog 86 #[.int .i64 n] w fun e w' => ∃ g cap ms, e = .returned (.slice (some ⟨g, 0, none⟩) (ecc n + 1) cap) ∧ Wv n w' w.heap.size (.slice (some ⟨g, 0, none⟩) (ecc n + 1 + 1) cap) ms (nearL n (ramp 1 n) (ecc n + 1)) ∧ Below w.heap.size w w' := by
  have h9 : n ≤ 9 := by omega
  have HS := Lib.hid hn.out.home
  have heb := ecc_le hn.out
  obtain ⟨E, hE⟩ : ∃ E, ecc n = E := ⟨_, rfl⟩
  have HP := Lib.hid (show ∀ e, 0 < byN n e ↔ e ≤ E from fun e => by rw [← hE]; exact byN_pos hn.out e)
  rw [hE] at heb ⊢
  have hfl := fact_le (n := n) (by omega)
  obtain ⟨iL, hI, hI0, hI1, hI2⟩ := info_parts Try.infoLy
  have HI := Lib.hid hI
  have HI1 := Lib.hid hI1
  clear hE hI hI0 hI1 hI2
  go_enter Try.func86, Try.ntmps86
  go_wp2_with fail
  refine (sortedTower_any n w h9).mono ?_
  rintro e w1 ⟨rfl, hb1⟩
  go_wp2_with fail
  refine (waveFrom_any n (ramp 1 n) w1 hn HS.out).mono ?_
  rintro e w2 ⟨v, b, rfl, hv, hb2⟩
  have hB2 := hb1.trans (hb2.mono hb1.size)
  have hW2 := (oneL HS.out hv).mono hb1.size
  clear hb1 hb2 hv
  go_wp2
  go_loopw [3] (fun v3 wr => ∃ (a : Nat) (ms : List Nat), a ≤ E + 1 ∧ Wv n wr w.heap.size v3 ms (nearL n (ramp 1 n) a) ∧ Below w.heap.size w wr) (fun v3 _ => 20 - wlen v3)
  case atStart => exact ⟨0, [b], Nat.zero_le _, hW2, hB2⟩
  case round =>
    obtain ⟨a, ms, ha, hW, hB⟩ := hrel
    clear hW2 hB2
    have hml : ms.length = a + 1 := by rw [hW.len, nearL_length]
    have hne : ms ≠ [] := by rintro rfl; simp at hml
    obtain ⟨g, cap, rfl, hg, hgl, hcap, _⟩ := hW.shape hne
    obtain ⟨ba, hba⟩ : ∃ x, ms[a]? = some x := ⟨_, List.getElem?_eq_getElem (by omega)⟩
    have HLAST := Lib.hid (show ms.getLast? = some ba by rw [List.getLast?_eq_getElem?, hml]; exact hba)
    obtain ⟨D, hown, hL⟩ := (hW.lay a ba _ hba (nearL_get n (ramp 1 n) a a (Nat.le_refl _))).1
    have HSZ := Lib.hid (show Maps.size D = byN n a from hL.size hn.out (hown.canon keyd))
    have hzb := byN_le n a
    have hzp := HP.out a
    obtain ⟨z, hz⟩ : ∃ z, byN n a = z := ⟨_, rfl⟩
    rw [hz] at hzb hzp HSZ
    have HZP := Lib.hid hzp
    obtain ⟨len, hlen⟩ : ∃ l, ms.length = l := ⟨_, rfl⟩
    have hla1 : len ≤ a + 1 := by omega
    have hla2 : a + 1 ≤ len := by omega
    have HLEN := Lib.hid hlen
    have hl2 : ms.length ≤ 1048576 := by omega
    rw [hlen] at hW hcap ⊢
    clear hml hba hL hz hzp hlen
    have c1 := wlast_any n _ _ ms _ ba wr hW HLAST.out hl2
    go_wp2_with fail
    refine c1.mono ?_
    rintro e w3 ⟨rfl, rfl⟩
    clear c1
    by_cases hle : a ≤ E
    · have hz0 : (0 : Int) < (z : Int) := by have := HZP.out.2 hle; omega
      have c2 := wgrown_any n w.heap.size (.slice (some ⟨g, 0, none⟩) len cap) ms (ramp 1 n) a wr hn h7 HS hW (by omega) hB.size
      rw [HLEN.out] at c2
      go_wp2_with (at_len; refine wpList_len_own _ rfl _ 68 rfl 54 3 Try.underlying68 _ ba (fact n) D rfl hown ?_; rw [HSZ.out])
      refine c2.mono ?_
      rintro e w4 ⟨g4, cap4, b4, rfl, hW4, hg4, _, _⟩
      clear c2
      have hB4 := hB.grown hg4 hB.size (by intro k hk; exact (hW.low (.inl hk)).2)
      go_wp2
      go_roundw
      case rel => exact ⟨a + 1, ms ++ [b4], by omega, hW4, hB4⟩
      case measure => simp [wlen] <;> omega
    · have hz0 : (z : Int) ≤ 0 := by
        have h1 := HZP.out
        have h2 : ¬ 0 < z := fun h => hle (h1.1 h)
        omega
      have hlE : (len : Int) - 1 = ((E + 1 : Nat) : Int) := by omega
      have HLE := Lib.hid hlE
      have hlE2 : len = E + 1 + 1 := by omega
      have haE : a = E + 1 := by omega
      have HAE := Lib.hid haE
      have HLE2 := Lib.hid hlE2
      have hcE : E + 1 ≤ cap := by omega
      have hc0 : 0 < cap := by omega
      clear hlE hlE2 haE
      go_upto_region 4 with (at_len; refine wpList_len_own _ rfl _ 68 rfl 54 3 Try.underlying68 _ ba (fact n) D rfl hown ?_; rw [HSZ.out])
      go_wp2_with (first | (refine wpList_upto rfl _ _ 61 68 rfl iL Try.underlying61 HI.out HI1.out g len cap (E + 1) rfl _ rfl HLE.out hcE hc0 ?_))
      go_ret
      exact ⟨g, cap, ms, rfl, by rw [← HLE2.out, ← HAE.out]; exact hW, hB⟩

theorem WorstDistance_any (n : Int) (w : World) :
    Calls Try.prog 41 #[.int .i64 n] w fun e w' => e = .returned (.tuple #[.int .i64 (mWorstDistance n), .bool (inB n 1 7)]) ∧ Below w.heap.size w w' := by
  have c := isSearchedCount_any n w
  cases hg : inB n 1 7 with
  | true =>
    have HM := Lib.hid (show mWorstDistance n = (ecc n.toNat : Int) from if_pos hg)
    obtain ⟨m, rfl, hm, h7⟩ := inB_nat hg
    rw [hg] at c
    have HC := Lib.hid hm
    have heb := ecc_le hm
    have c1 := wholeWave_any m w HC h7
    rw [Int.toNat_natCast] at HM
    obtain ⟨E, hE⟩ : ∃ E, ecc m = E := ⟨_, rfl⟩
    rw [hE] at c1 heb HM
    have hE2 : E + 1 ≤ 1048576 := by omega
    clear hg hm hE
    go_enter Try.func41, Try.ntmps41
    go_wp2_with fail
    refine c.mono ?_
    rintro e w0 ⟨rfl, rfl⟩
    clear c
    go_wp2_with fail
    refine c1.mono ?_
    rintro e w1 ⟨g, cap, ms, rfl, _, hb1⟩
    clear c1
    have c2 := wturns_any (some ⟨g, 0, none⟩) (E + 1) cap w1 hE2
    rw [Nat.add_sub_cancel] at c2
    go_wp2_with fail
    refine c2.mono ?_
    rintro e w2 ⟨rfl, rfl⟩
    go_wp2
    go_ret2
    exact ⟨by rw [HM.out]; rfl, hb1⟩
  | false =>
    have HM := Lib.hid (show mWorstDistance n = 0 from if_neg (by rw [hg]; exact Bool.false_ne_true))
    rw [hg] at c
    clear hg
    go_enter Try.func41, Try.ntmps41
    go_wp2_with fail
    refine c.mono ?_
    rintro e w0 ⟨rfl, rfl⟩
    go_wp2
    go_ret2
    exact ⟨by rw [HM.out]; rfl, Below.refl _ _⟩

set_option maxHeartbeats 4000000 in
set_option maxRecDepth 100000 in
theorem CountByTurns_any (n : Int) (w : World) :
    Calls Try.prog 39 #[.int .i64 n] w fun e w' => ∃ r, e = .returned (.tuple #[r, .bool (inB n 1 7)]) ∧ OwnI w' r (mCountByTurns n) ∧ From w.heap.size r ∧ Below w.heap.size w w' := by
  have c := isSearchedCount_any n w
  cases hg : inB n 1 7 with
  | true =>
    have HM := Lib.hid (show mCountByTurns n = byL n.toNat from if_pos hg)
    obtain ⟨m, rfl, hm, h7⟩ := inB_nat hg
    rw [hg] at c
    have HC := Lib.hid hm
    have heb := ecc_le hm
    have c1 := wholeWave_any m w HC h7
    rw [Int.toNat_natCast] at HM
    obtain ⟨i0, hi, hz0, hz1, hz2⟩ := info_parts Try.info3
    have HI0 := Lib.hid hi
    have HZ0 := Lib.hid hz0
    have HZ1 := Lib.hid hz1
    have HZ2 := Lib.hid hz2
    obtain ⟨L, hL⟩ : ∃ L, ecc m + 1 = L := ⟨_, rfl⟩
    have HL := Lib.hid hL
    have hLb : L ≤ 15 := by omega
    have hL1 : 1 ≤ L := by omega
    rw [hL] at c1
    have hfl := fact_le (n := m) (by omega)
    clear hg hm hL hi hz0 hz1 hz2 heb
    go_enter Try.func39, Try.ntmps39
    go_wp2_with fail
    refine c.mono ?_
    rintro e w0 ⟨rfl, rfl⟩
    clear c
    go_wp2_with fail
    refine c1.mono ?_
    rintro e w1 ⟨g, cap, ms, rfl, hW, hb1⟩
    clear c1
    have hml : ms.length = L + 1 := by rw [hW.len, nearL_length]
    have hne : ms ≠ [] := by rintro rfl; simp at hml
    obtain ⟨gg, cc, hsh, _, hgl, _, hcl⟩ := hW.shape hne
    simp only [Value.slice.injEq, Option.some.injEq, Addr.mk.injEq, and_true] at hsh
    obtain ⟨rfl, hlx, rfl⟩ := hsh
    have HML := Lib.hid hml
    have HCL := Lib.hid hcl
    have HW := Lib.hid hW
    clear hlx hml hne hcl hW
    go_wp2_with (at_make; refine wpList_make_full _ rfl _ _ 25 rfl w1.heap.size 3 i0 (.int .i64 0) 1 Try.underlying25 HI0.out HZ0.out HZ1.out _ _ _ _ L rfl rfl rfl rfl ?b1 ?b2 ?b3 ?_)
    case b1 => rw [HZ2.out]; omega
    case b2 => unfold maxLen; omega
    case b3 => exact Nat.le_refl _
    intro w2 hown hgrow
    have ho0 : OwnI w2 (.slice (some ⟨w1.heap.size, 0, none⟩) L L) (byTo m 0) := by
      rw [byTo_zero, HL.out]
      exact OwnI.of_made hown
    have hb12 : Below w1.heap.size w1 w2 := (Below.refl _ _).grown hgrow (Nat.le_refl _) (by intro k hk; cases hk)
    clear hown hgrow
    have hz12 := hb1.size
    go_wp2
    go_loopw [6, 7, 18] (fun _ _ iv' wr => ∃ i : Nat, i ≤ L ∧ iv' = .int .i64 i ∧ OwnI wr (.slice (some ⟨w1.heap.size, 0, none⟩) L L) (byTo m i) ∧ Below w1.heap.size w1 wr) (fun _ _ i _ => L - (intOf i).toNat)
    case atStart => exact ⟨0, Nat.zero_le _, rfl, ho0, hb12⟩
    case round =>
      obtain ⟨i, hi, rfl, ho, hbr⟩ := hrel
      clear ho0 hb12
      by_cases hlt : i < L
      · have hlt' : (i : Int) < L := by omega
        obtain ⟨bi, hbi⟩ : ∃ x, ms[i]? = some x := ⟨_, List.getElem?_eq_getElem (by rw [HML.out]; omega)⟩
        have hly := (HW.out.lay i bi _ hbi (nearL_get m (ramp 1 m) L i (by omega))).1
        have hcell : wr.cell? ⟨g, i, none⟩ = some (mv bi) := (hbr.cell (p := ⟨g, i, none⟩) hgl).trans (HCL.out i bi hbi)
        obtain ⟨D, hown, hL'⟩ := hly.below hbr (Nat.le_refl _)
        have HSZ := Lib.hid (show Maps.size D = byN m i from hL'.size HC.out (hown.canon keyd))
        obtain ⟨hd, hfd, hst⟩ := OwnI.cellAt ho i (by rw [byTo_length, HL.out]; exact hlt)
        have hst := hst (byN m i : Int)
        rw [byTo_set (by have := HL.out; omega)] at hst
        have hb2 := hbr.setCell (p := ⟨w1.heap.size, i, none⟩) (Nat.le_refl _) (iv (byN m i : Int))
        have hil : i < L := hlt
        clear hbi hly hL' ho hbr
        go_wp2_with (at_len; refine wpList_len_own _ rfl _ 68 rfl 54 3 Try.underlying68 _ bi (fact m) D rfl hown ?_; rw [HSZ.out])
        go_roundw
        case rel => exact ⟨i + 1, by omega, by go_num, hst, hb2⟩
        case measure => simp [intOf] <;> omega
      · obtain rfl : i = L := by omega
        have HE := Lib.hid (show byTo m i = byL m by rw [← HL.out]; exact byTo_all m)
        have hge : (i : Int) ≤ i := Int.le_refl _
        go_wp2
        go_ret2
        exact ⟨_, rfl, by rw [HM.out, ← HE.out]; exact ho, From.at _ _ _ _ _ hz12, hb1.trans (hbr.mono hz12)⟩
  | false =>
    have HM := Lib.hid (show mCountByTurns n = [] from if_neg (by rw [hg]; exact Bool.false_ne_true))
    rw [hg] at c
    clear hg
    go_enter Try.func39, Try.ntmps39
    go_wp2_with fail
    refine c.mono ?_
    rintro e w0 ⟨rfl, rfl⟩
    go_wp2
    go_ret2
    exact ⟨_, rfl, by rw [HM.out]; exact OwnI.nil _, From.nil _ _ _, Below.refl _ _⟩
end Go.Proofs.Yticpdlgnaphnkaa
