import Derived.Test.YtakgmcfpdbeajaaI22
import Derived.IntWalk
namespace Go.Proofs.Ytakgmcfpdbeajaa
open Go Go.RowKit Go.Pan

set_option maxHeartbeats 400000 in
theorem SlEqual_any (v u : Value) (xs ys : List Int) (w : World) (hv : OwnI w v xs) (hn : xs.length ≤ 1048576) (hu : OwnI w u ys) (_hm : ys.length ≤ 1048576) :
    Calls Try.prog 112 #[v, u] w fun e w' => e = .returned (.bool (decide (xs = ys))) ∧ Below w.heap.size w w' := by
  obtain ⟨ad, cap, rfl, hc, _, _⟩ := hv.shape
  obtain ⟨bd, cbp, rfl, hc', _, _⟩ := hu.shape
  by_cases hl : xs.length = ys.length
  · have hu2 : Own w 1 (.slice bd xs.length cbp) xs.length (ys.map iv) := by rw [hl]; exact hu
    rw [← hl]
    have HL := Lib.hid hl
    clear hl hu
    go_enter Try.func112, Try.ntmps112
    go_wp2
    go_loopw [13] (fun i wr => ∃ k : Nat, k ≤ xs.length ∧ i = .int .i64 k ∧ xs.take k = ys.take k ∧ Below w.heap.size w wr) (fun i _ => xs.length - (intOf i).toNat)
    case atStart => exact ⟨0, Nat.zero_le _, rfl, by simp, Below.refl _ _⟩
    case round =>
      obtain ⟨k, hk, rfl, he, hbr⟩ := hrel
      have HE := Lib.hid he
      clear he
      by_cases hlt : k < xs.length
      · have hlt2 : k < ys.length := by have := HL.out; omega
        obtain ⟨b, off, rfl, hbl, hcell, _⟩ := hv.at (by omega)
        obtain ⟨b', off', rfl, hbl', hcell', _⟩ := hu2.at (by omega)
        have hk1 := hcell k (by omega)
        have hk2 := hcell' k (by omega)
        rw [List.getElem?_map, List.getElem?_eq_getElem hlt] at hk1
        rw [List.getElem?_map, List.getElem?_eq_getElem hlt2] at hk2
        have hc1 := (hbr.cell (p := ⟨b, off + k, none⟩) hbl).trans hk1
        have hc2 := (hbr.cell (p := ⟨b', off' + k, none⟩) hbl').trans hk2
        clear hv hu2 hcell hcell' hk1 hk2
        by_cases hx : xs[k] = ys[k]
        · have hq : ((xs[k] : Int) != ys[k]) = false := by simp [hx]
          have HX := Lib.hid hx
          clear hx
          go_wp2
          go_quiet (fail)
          go_wp2
          go_roundw
          case rel => exact ⟨k + 1, by omega, by go_num, eq_take_succ xs ys k HL.out hlt HE.out HX.out, hbr.drewN _⟩
          case measure => simp [intOf] <;> omega
        · have hq : ((xs[k] : Int) != ys[k]) = true := by simp [hx]
          have HX := Lib.hid hx
          clear hx
          go_wp2
          go_quiet (fail)
          go_wp2
          go_ret
          exact ⟨by rw [show decide (xs = ys) = false from decide_eq_false fun e => HX.out (by simp [e])]; rfl, hbr.drewN _⟩
      · obtain rfl : k = xs.length := by omega
        clear hv hu2
        go_wp2
        go_ret
        have h := HE.out
        rw [List.take_length, HL.out, List.take_length] at h
        exact ⟨by rw [show decide (xs = ys) = true from decide_eq_true h]; rfl, hbr⟩
  · have hq : (((xs.length : Nat) : Int) != (ys.length : Int)) = true := by simp; omega
    have HL := Lib.hid hl
    clear hl
    go_enter Try.func112, Try.ntmps112
    go_wp2
    go_ret
    exact ⟨by rw [show decide (xs = ys) = false from decide_eq_false fun e => HL.out (by rw [e])]; rfl, Below.refl _ _⟩

theorem halv_bd {xs : List Int} (hg : Pan.Good xs) : ∀ x ∈ halvL xs, -9 ≤ x ∧ x ≤ 9 := by
  intro x hx
  obtain ⟨i, hi, rfl⟩ := List.getElem_of_mem hx
  rw [halvL_length] at hi
  rw [halvL_at xs i hi]
  have ha := hg.bd (show 2 * i < xs.length by omega)
  have hb := hg.bd (show 2 * i + 1 < xs.length by omega)
  have h9 := hg.2.1
  by_cases h : xs.getD (2 * i + 1) 0 < xs.getD (2 * i) 0
  · rw [halv_hi h (by omega)]; omega
  · rw [halv_lo h]; omega
theorem wf_small {xs : List Int} (h : ∀ x ∈ xs, -9 ≤ x ∧ x ≤ 9) : Wf64 xs := fun x hx => WalkArith.wf_i64 (by have := h x hx; omega)

set_option maxRecDepth 100000 in
set_option maxHeartbeats 1600000 in
theorem HalveStack_any (v : Value) (xs : List Int) (w : World) (hv : OwnI w v xs) (hn : xs.length ≤ 1048576) :
    Calls Try.prog 63 #[v] w fun e w' => ∃ r, e = .returned (.tuple #[r, .bool (okHalve xs)]) ∧ OwnI w' r (mHalveStack xs) ∧ From w.heap.size r ∧ Below w.heap.size w w' := by
  obtain ⟨ad, cap, rfl, hc, _, _⟩ := hv.shape
  cases hg : goodB xs with
  | true =>
    have hG := goodB_iff.1 hg
    have h9 := hG.le9
    have HG := Lib.hid hg
    have HX := Lib.hid (show ∀ x ∈ xs, 1 ≤ x ∧ x ≤ 9 from fun x hx => by have := hG.2.2.1 x hx; omega)
    have HOK := Lib.hid (half_ok hg)
    have HWF := Lib.hid (wf_small (halv_bd hG))
    obtain ⟨h, hh⟩ : ∃ h, xs.length / 2 = h := ⟨_, rfl⟩
    have hdiv : (xs.length : Int) / 2 = (h : Int) := by omega
    have hh9 : h ≤ 4 := by omega
    have hh2 : 2 * h ≤ xs.length := by omega
    have HH := Lib.hid hh
    have HL := Lib.hid (show (halvL xs).length = h by rw [halvL_length, hh])
    obtain ⟨i0, hi, hz0, hz1, hz2⟩ := info_parts Try.info3
    clear hG hg hh
    go_enter Try.func63, Try.ntmps63
    go_wp2_with fail
    refine (IsStack_any _ _ _ hv hn).mono ?_
    rintro e w0 ⟨rfl, hb⟩
    rw [HG.out]
    go_wp2_with (at_make; refine wpList_make_full _ rfl _ _ 25 rfl w0.heap.size 3 i0 (.int .i64 0) 1 Try.underlying25 hi hz0 hz1 _ _ _ _ h rfl rfl rfl rfl ?b1 ?b2 ?b3 ?_)
    case b1 => rw [hz2]; omega
    case b2 => unfold maxLen; omega
    case b3 => exact Nat.le_refl _
    intro w1 hown hgrow
    have ho0 : Hid (OwnI w1 (.slice (some ⟨w0.heap.size, 0, none⟩) h h) (fillTo (halvL xs) 0)) := Lib.hid (by rw [fillTo_zero, HL.out]; exact OwnI.of_made hown)
    have hb0 : Below w.heap.size w w1 := hb.grown hgrow hb.size (by intro k hk; cases hk)
    have hs0 := hb.size
    clear hi hz0 hz1 hz2 hgrow hown hb hdiv
    go_wp2
    go_loopw [5, 6, 7, 19] (fun _ _ _ i wr => ∃ k : Nat, k ≤ h ∧ i = .int .i64 k ∧ Hid (OwnI wr (.slice (some ⟨w0.heap.size, 0, none⟩) h h) (fillTo (halvL xs) k)) ∧ Below w.heap.size w wr) (fun _ _ _ i _ => h - (intOf i).toNat)
    case atStart => exact ⟨0, Nat.zero_le _, rfl, ho0, hb0⟩
    case round =>
      obtain ⟨k, hk, rfl, ho, hbr⟩ := hrel
      have hvr := hv.below hbr (Nat.le_refl _)
      clear hv ho0 hb0
      by_cases hlt : k < h
      · obtain ⟨m, hm⟩ : ∃ m, 2 * k = m := ⟨_, rfl⟩
        have hml : m < xs.length := by omega
        have hml2 : m + 1 < xs.length := by omega
        obtain ⟨g, off, rfl, hgl, hcell, hfz⟩ := hvr.at (by omega)
        obtain ⟨a, ha⟩ : ∃ a, xs[m] = a := ⟨_, rfl⟩
        obtain ⟨b, hb'⟩ : ∃ b, xs[m + 1] = b := ⟨_, rfl⟩
        have hck := hcell m (by omega)
        rw [List.getElem?_map, List.getElem?_eq_getElem hml, ha] at hck
        have hck2 := hcell (m + 1) (by omega)
        rw [List.getElem?_map, List.getElem?_eq_getElem hml2, hb'] at hck2
        have hx := HX.out _ (List.getElem_mem hml)
        have hy := HX.out _ (List.getElem_mem hml2)
        rw [ha] at hx
        rw [hb'] at hy
        have hx1 := hx.1
        have hx2 := hx.2
        have hy1 := hy.1
        have hy2 := hy.2
        have HV := Lib.hid (show (halvL xs)[k]'(by rw [HL.out]; exact hlt) = halv a b by
          rw [halvL_at xs k (by rw [HH.out]; exact hlt), hm, getD_eq hml, getD_eq hml2, ha, hb'])
        have hm1 : (m : Int) + 1 < xs.length := by omega
        have hmi : (m : Int) < xs.length := by omega
        have hnn : (0 : Int) ≤ (m : Int) + 1 := by omega
        have HMK := Lib.hid (show IntKind.i64.wrap (2 * (k : Int)) = (m : Int) by rw [IntWalk.i64_in _ (by omega)]; omega)
        have HMK2 := Lib.hid (show 2 * (k : Int) = (m : Int) by omega)
        have HSUM := Lib.hid (show IntKind.i64.wrap ((m : Int) + 1) = (m : Int) + 1 from IntWalk.i64_in _ (by omega))
        have HTN := Lib.hid (show ((m : Int) + 1).toNat = m + 1 by omega)
        have hwg : w0.heap.size < wr.heap.size := Own.lt ho.out _ rfl
        clear hcell hfz hvr hx hy ha hb' hm
        have hmk := HMK.out
        have hmk2 := HMK2.out
        have hsum := HSUM.out
        have htn := HTN.out
        go_wp2_with fail
        go_quiet (fail)
        clear hmk hmk2 hsum htn
        have ho1 : OwnI (wr.drewN nq) (.slice (some ⟨w0.heap.size, 0, none⟩) h h) (fillTo (halvL xs) k) := Own.kept ho.out (fun _ _ => rfl)
        have hkl : k < (fillTo (halvL xs) k).length := by rw [fillTo_length _ _ (by rw [HL.out]; omega), HL.out]; exact hlt
        obtain ⟨hd, hfd, hst⟩ := OwnI.cellAt ho1 k hkl
        have hst := hst (b / 2)
        have hb2 := (hbr.drewN nq).setCell (p := ⟨w0.heap.size, k, none⟩) hs0 (iv (b / 2))
        by_cases hab : b < a
        · obtain ⟨hd2, hfd2, hst2⟩ := OwnI.cellAt hst k (by rw [List.length_set]; exact hkl)
          have hst2 := hst2 (-(a / 2))
          rw [List.set_set, fillTo_step (halvL xs) k (by rw [HL.out]; exact hlt) (-(a / 2)) (by rw [HV.out, halv_hi hab (by omega)])] at hst2
          have HST := Lib.hid hst2
          have hb3 := hb2.setCell (p := ⟨w0.heap.size, k, none⟩) hs0 (iv (-(a / 2)))
          have hwr : wrap64 (-a.tdiv 2) = -(a / 2) := by
            rw [Int.tdiv_eq_ediv_of_nonneg (by omega)]
            exact IntWalk.wrap64_in _ (by omega)
          clear ho ho1 hbr hst hst2 hb2
          go_wp2
          go_roundw
          case rel => exact ⟨k + 1, by omega, by go_num, HST, hb3⟩
          case measure => simp [intOf] <;> omega
        · rw [fillTo_step (halvL xs) k (by rw [HL.out]; exact hlt) (b / 2) (by rw [HV.out, halv_lo hab])] at hst
          have HST := Lib.hid hst
          have hab2 : a ≤ b := by omega
          clear ho ho1 hbr hst hab
          go_wp2
          go_roundw
          case rel => exact ⟨k + 1, by omega, by go_num, HST, hb2⟩
          case measure => simp [intOf] <;> omega
      · obtain rfl : k = h := by omega
        have he : fillTo (halvL xs) k = halvL xs := by have := fillTo_all (halvL xs); rwa [HL.out] at this
        have ho2 : OwnI wr (.slice (some ⟨w0.heap.size, 0, none⟩) k k) (halvL xs) := by have h := ho.out; rw [he] at h; exact h
        have hll : (halvL xs).length ≤ 1048576 := by rw [HL.out]; omega
        clear ho he
        go_wp2_with fail
        refine (DoubleStack_any _ _ _ ho2 hll HWF.out).mono ?_
        rintro e w2 ⟨r, rfl, hor, hfr, hb2⟩
        have ho3 := ho2.same hb2
        have hv3 := hvr.same hb2
        have hB2 := hbr.trans (hb2.mono hbr.size)
        clear ho2 hvr hb2 hbr
        go_wp2_with fail
        refine (SlEqual_any _ _ _ _ _ hor (len_mDoubleStack _) hv3 hn).mono ?_
        rintro e w3 ⟨rfl, hb3⟩
        rw [HOK.out]
        have ho4 := Lib.hid (ho3.same hb3)
        have hB3 := hB2.trans (hb3.mono hB2.size)
        clear ho3 hv3 hor hb3 hB2
        cases hok : okHalve xs with
        | true =>
          have HM := Lib.hid (show mHalveStack xs = halvL xs from if_pos hok)
          have HK := Lib.hid hok
          clear hok
          go_wp2
          go_ret2
          exact ⟨_, by rw [HK.out]; rfl, by rw [HM.out]; exact ho4.out, From.at _ _ _ _ _ hs0, hB3⟩
        | false =>
          have HM := Lib.hid (show mHalveStack xs = [] from if_neg (by rw [hok]; exact Bool.false_ne_true))
          have HK := Lib.hid hok
          clear hok
          go_wp2
          go_ret2
          exact ⟨_, by rw [HK.out]; rfl, by rw [HM.out]; exact OwnI.nil _, From.nil _ _ _, hB3⟩
  | false =>
    have HNO := Lib.hid (show okHalve xs = false by unfold okHalve; rw [hg]; rfl)
    have HM := Lib.hid (show mHalveStack xs = [] from if_neg (by rw [HNO.out]; exact Bool.false_ne_true))
    have HG := Lib.hid hg
    clear hg
    go_enter Try.func63, Try.ntmps63
    go_wp2_with fail
    refine (IsStack_any _ _ _ hv hn).mono ?_
    rintro e w1 ⟨rfl, hb⟩
    rw [HG.out]
    go_wp2
    go_ret2
    exact ⟨_, by rw [HNO.out]; rfl, by rw [HM.out]; exact OwnI.nil _, From.nil _ _ _, hb⟩
end Go.Proofs.Ytakgmcfpdbeajaa
