import Derived.Test.YtlhagdldmpnbfaaPA
namespace Go.Proofs.Ytlhagdldmpnbfaa
open Go Go.RowKit Go.Pan

set_option maxHeartbeats 1600000 in
set_option maxRecDepth 100000 in
theorem LeastPlan_any (v : Value) (xs : List Int) (w : World) (hv : OwnI w v xs) (hn : xs.length ≤ 1048576) :
    Calls Try.prog 44 #[v] w fun e w' => ∃ r, e = .returned (.tuple #[r, .bool (farB xs)]) ∧ OwnI w' r (mLeastPlan xs) ∧ From w.heap.size r ∧ Below w.heap.size w w' := by
  cases hg : farB xs with
  | true =>
    have HM := Lib.hid (show mLeastPlan xs = ggoL (pG xs.length) (ramp 1 xs.length) (farS xs) xs from (show mLeastPlan xs = goL xs.length (ramp 1 xs.length) (farS xs) xs from if_pos hg).trans (pgoL _ _ _ _).symm)
    have hG := (farB_iff.1 hg).1
    have hle := farS_le hG
    have h9 := hG.le9
    have c := wayHome_yes _ xs w hv hn hg
    have h7 := (farB_iff.1 hg).2
    have HC := Lib.hid (pG_ok hG.cnt h7)
    have HS := Lib.hid (show (pG xs.length).St xs from hG.st)
    have HH := Lib.hid (show (pG xs.length).St (ramp 1 xs.length) from hG.home)
    have HPP := Lib.hid (plain_GP hG.1 h7)
    have hks : (pG xs.length).ks.length ≤ 9 := by rw [pks_length]; omega
    have HD := Lib.hid (show gfar (pG xs.length) xs (ramp 1 xs.length) = farS xs from pfar _ _ _)
    obtain ⟨ad, cap, rfl, _, _, _⟩ := hv.shape
    obtain ⟨d, hd⟩ : ∃ d, farS xs = d := ⟨_, rfl⟩
    rw [hd] at c HM hle HD
    have hd2 : d + 1 ≤ 1048576 := by omega
    clear hG hg hd
    go_enter Try.func44, Try.ntmps44
    go_wp2_with fail
    refine c.mono ?_
    rintro e w1 ⟨g, cap2, ms, rfl, hW, hb1⟩
    clear c
    go_wp2_with fail
    refine (towerOf_any _ xs w1 (hv.same hb1) h9).mono ?_
    rintro e w2 ⟨rfl, hb2⟩
    have hW2 := hW.below hb2 (Nat.le_refl _)
    have hB2 := hb1.trans (hb2.mono hb1.size)
    have c3 := firstPlan_any (pG xs.length) _ _ _ _ d _ g cap2 ms xs (ramp 1 xs.length) w2 HC HPP hks HS HH HD hd2 hW2
    clear hW hW2
    go_wp2_with fail
    refine c3.mono ?_
    rintro e w3 ⟨r, rfl, ho, hf, hb3⟩
    go_wp2
    go_ret2
    exact ⟨_, rfl, by rw [HM.out]; exact ho, hf.mono hB2.size, hB2.trans (hb3.mono hB2.size)⟩
  | false =>
    have HM := Lib.hid (show mLeastPlan xs = [] from if_neg (by rw [hg]; exact Bool.false_ne_true))
    have c := wayHome_no _ xs w hv hn hg
    obtain ⟨ad, cap, rfl, _, _, _⟩ := hv.shape
    clear hg
    go_enter Try.func44, Try.ntmps44
    go_wp2_with fail
    refine c.mono ?_
    rintro e w1 ⟨rfl, hb1⟩
    clear c
    go_wp2
    go_ret2
    exact ⟨_, rfl, by rw [HM.out]; exact OwnI.nil _, From.nil _ _ _, hb1⟩

set_option maxHeartbeats 1600000 in
set_option maxRecDepth 100000 in
theorem PlanBetween_any (v : Value) (xs : List Int) (u : Value) (ys : List Int) (w : World) (hv : OwnI w v xs) (hn : xs.length ≤ 1048576) (hu : OwnI w u ys) (hm : ys.length ≤ 1048576) :
    Calls Try.prog 56 #[v, u] w fun e w' => ∃ r, e = .returned (.tuple #[r, .bool (twoB xs ys)]) ∧ OwnI w' r (mPlanBetween xs ys) ∧ From w.heap.size r ∧ Below w.heap.size w w' := by
  cases hg : twoB xs ys with
  | true =>
    have HM := Lib.hid (show mPlanBetween xs ys = ggoL (pG xs.length) ys (far2 xs ys) xs from (show mPlanBetween xs ys = goL xs.length ys (far2 xs ys) xs from if_pos hg).trans (pgoL _ _ _ _).symm)
    obtain ⟨hG, h7, hH, hl⟩ := twoB_iff.1 hg
    have hle : far2 xs ys ≤ 2 * xs.length := (far_spec hG.st ⟨hH, hl.symm⟩).2.1
    have h9 := hG.le9
    have c := wayBetween_yes _ _ xs ys w hv hn hu hm hg
    have HC := Lib.hid (pG_ok hG.cnt h7)
    have HS := Lib.hid (show (pG xs.length).St xs from hG.st)
    have HH := Lib.hid (show (pG xs.length).St ys from ⟨hH, hl.symm⟩)
    have HPP := Lib.hid (plain_GP hG.1 h7)
    have hks : (pG xs.length).ks.length ≤ 9 := by rw [pks_length]; omega
    have HD := Lib.hid (show gfar (pG xs.length) xs ys = far2 xs ys from pfar _ _ _)
    obtain ⟨ad, cap, rfl, _, _, _⟩ := hv.shape
    obtain ⟨ad2, cap2, rfl, _, _, _⟩ := hu.shape
    obtain ⟨d, hd⟩ : ∃ d, far2 xs ys = d := ⟨_, rfl⟩
    rw [hd] at c HM hle HD
    have hd2 : d + 1 ≤ 1048576 := by omega
    clear hG hg hd hH hl
    go_enter Try.func56, Try.ntmps56
    go_wp2_with fail
    refine c.mono ?_
    rintro e w1 ⟨g, cap3, ms, rfl, hW, hb1⟩
    clear c
    go_wp2_with fail
    refine (towerOf_any _ xs w1 (hv.same hb1) h9).mono ?_
    rintro e w2 ⟨rfl, hb2⟩
    have hW2 := hW.below hb2 (Nat.le_refl _)
    have hB2 := hb1.trans (hb2.mono hb1.size)
    have c3 := firstPlan_any (pG xs.length) _ _ _ _ d _ g cap3 ms xs ys w2 HC HPP hks HS HH HD hd2 hW2
    clear hW hW2
    go_wp2_with fail
    refine c3.mono ?_
    rintro e w3 ⟨r, rfl, ho, hf, hb3⟩
    go_wp2
    go_ret2
    exact ⟨_, rfl, by rw [HM.out]; exact ho, hf.mono hB2.size, hB2.trans (hb3.mono hB2.size)⟩
  | false =>
    have HM := Lib.hid (show mPlanBetween xs ys = [] from if_neg (by rw [hg]; exact Bool.false_ne_true))
    have c := wayBetween_no _ _ xs ys w hv hn hu hm hg
    obtain ⟨ad, cap, rfl, _, _, _⟩ := hv.shape
    obtain ⟨ad2, cap2, rfl, _, _, _⟩ := hu.shape
    clear hg
    go_enter Try.func56, Try.ntmps56
    go_wp2_with fail
    refine c.mono ?_
    rintro e w1 ⟨rfl, hb1⟩
    clear c
    go_wp2
    go_ret2
    exact ⟨_, rfl, by rw [HM.out]; exact OwnI.nil _, From.nil _ _ _, hb1⟩

set_option maxHeartbeats 1600000 in
set_option maxRecDepth 100000 in
theorem CloserTurns_any (v : Value) (xs : List Int) (w : World) (hv : OwnI w v xs) (hn : xs.length ≤ 1048576) :
    Calls Try.prog 48 #[v] w fun e w' => ∃ r, e = .returned (.tuple #[r, .bool (farB xs)]) ∧ OwnI w' r (mCloserTurns xs) ∧ From w.heap.size r ∧ Below w.heap.size w w' := by
  cases hg : farB xs with
  | true =>
    have HM := Lib.hid (show mCloserTurns xs = pickL (clo xs.length (ramp 1 xs.length) xs) xs.length from if_pos hg)
    have hG := (farB_iff.1 hg).1
    have hle := farS_le hG
    have h9 := hG.le9
    have c := wayHome_yes _ xs w hv hn hg
    have h7 := (farB_iff.1 hg).2
    have HC := Lib.hid (pG_ok hG.cnt h7)
    have HS := Lib.hid (show (pG xs.length).St xs from hG.st)
    have HH := Lib.hid (show (pG xs.length).St (ramp 1 xs.length) from hG.home)
    have HPP := Lib.hid (plain_GP hG.1 h7)
    have hks : (pG xs.length).ks.length ≤ 9 := by rw [pks_length]; omega
    have HD := Lib.hid (show far xs.length xs (ramp 1 xs.length) = farS xs from rfl)
    have HS0 := Lib.hid hG.st
    have HH0 := Lib.hid hG.home
    obtain ⟨ad, cap, rfl, _, _, _⟩ := hv.shape
    obtain ⟨d, hd⟩ : ∃ d, farS xs = d := ⟨_, rfl⟩
    rw [hd] at c hle HD
    have hd2 : d + 1 ≤ 1048576 := by omega
    clear hG hg hd
    cases d with
    | zero =>
      have HN := Lib.hid (show mCloserTurns xs = [] by
        rw [HM.out]
        have h : ∀ k ∈ ks xs.length, clo xs.length (ramp 1 xs.length) xs k = (fun _ => false) k := fun k _ => by
          unfold clo
          rw [HD.out]
          simp
        rw [pickL_congr h]
        simp [pickL])
      go_enter Try.func48, Try.ntmps48
      go_wp2_with fail
      refine c.mono ?_
      rintro e w1 ⟨g, cap2, ms, rfl, hW, hb1⟩
      clear c
      go_wp2_with fail
      refine (wturns_any _ (0 + 1) _ w1 hd2).mono ?_
      rintro e w2 ⟨rfl, rfl⟩
      go_wp2
      go_ret2
      exact ⟨_, rfl, by rw [HN.out]; exact OwnI.nil _, From.nil _ _ _, hb1⟩
    | succ d =>
      have HP := Lib.hid (show gpickL (pG xs.length) (fun k => decide (0 < gwayC (pG xs.length) xs (ramp 1 xs.length) 1 (d + 1 - 1) ((pG xs.length).mv xs k))) = mCloserTurns xs by
        rw [HM.out, pwayC, ppickL]
        exact pickL_congr (fun k hk => layer_clo (i := 0) (d := d) HS0.out HH0.out HS0.out ((far_zero HS0.out HS0.out).2 rfl) (by rw [HD.out]) (by rw [HD.out]; omega) hk))
      have hd1 : ((d + 1 : Nat) : Int) ≠ 0 := by omega
      obtain ⟨m, hm⟩ : ∃ m, d + 1 + 1 = m := ⟨_, rfl⟩
      have HMD := Lib.hid hm
      rw [hm] at c hd2
      have hl2 : (1 : Int) < (m : Int) := by omega
      have hl2n : 1 < m := by omega
      clear hm
      go_enter Try.func48, Try.ntmps48
      go_wp2_with fail
      refine c.mono ?_
      rintro e w1 ⟨g, cap2, ms, rfl, hW, hb1⟩
      clear c
      have c2 := wturns_any (some ⟨g, 0, none⟩) m cap2 w1 hd2
      rw [show m - 1 = d + 1 by have := HMD.out; omega] at c2
      go_wp2_with fail
      refine c2.mono ?_
      rintro e w2 ⟨rfl, rfl⟩
      clear c2
      have hml : ms.length = d + 1 + 1 := by rw [hW.len, wayP_length]
      obtain ⟨b1, hb⟩ : ∃ x, ms[1]? = some x := ⟨_, List.getElem?_eq_getElem (by omega)⟩
      have hly := (hW.lay 1 b1 _ hb (wayP_get _ _ _ (d + 1) (d + 1) 1 (by omega))).1
      have hne : ms ≠ [] := by rintro rfl; simp at hml
      obtain ⟨gg, cc, hsh, _, hgl, _, hcl⟩ := hW.shape hne
      simp only [Value.slice.injEq, Option.some.injEq, Addr.mk.injEq, and_true] at hsh
      obtain ⟨rfl, hlx, rfl⟩ := hsh
      have hc1 := hcl 1 b1 hb
      clear hlx
      have hv1 : OwnI w1 (.slice ad xs.length cap) xs := (show OwnI w (.slice ad xs.length cap) xs from hv).same hb1
      clear hW hcl hml hb hne
      go_wp2_with fail
      go_region_held3 (fun w' => w'.cell? ⟨g, 1, none⟩ = some (mv b1)) (first | exact hc1 | exact k1)
        (first
          | (go_at_call 70; refine (towerOf_any _ xs _ (hv1.same (Below.refl _ _).drew) h9).mono ?_; rintro e w3 ⟨rfl, hb3⟩; have k1 := (hb3.cell (p := ⟨g, 1, none⟩) hgl).trans hc1)
          | (go_at_call 99; refine (turnsInto_any (pG xs.length) _ _ _ _ b1 _ xs w3 HC HPP hks (hly.below ((Below.refl _ _).drew.trans hb3) (Nat.le_refl _)) HS).mono ?_; rintro e w4 ⟨r, rfl, ho, hf, hb4⟩; have k1 := (hb4.cell (p := ⟨g, 1, none⟩) (Nat.lt_of_lt_of_le hgl hb3.size)).trans k1))
      have hz3 := (Below.refl w1.heap.size w1).drew.trans hb3
      have hB3 := hb1.trans (hz3.mono hb1.size)
      go_wp2
      go_ret2
      exact ⟨_, rfl, by rw [← HP.out]; exact ho, hf.mono hB3.size, hB3.trans (hb4.mono hB3.size)⟩
  | false =>
    have HM := Lib.hid (show mCloserTurns xs = [] from if_neg (by rw [hg]; exact Bool.false_ne_true))
    have c := wayHome_no _ xs w hv hn hg
    obtain ⟨ad, cap, rfl, _, _, _⟩ := hv.shape
    clear hg
    go_enter Try.func48, Try.ntmps48
    go_wp2_with fail
    refine c.mono ?_
    rintro e w1 ⟨rfl, hb1⟩
    clear c
    go_wp2_with fail
    refine (wturns_any _ 0 _ w1 (Nat.zero_le _)).mono ?_
    rintro e w2 ⟨rfl, rfl⟩
    go_wp2
    go_ret2
    exact ⟨_, rfl, by rw [HM.out]; exact OwnI.nil _, From.nil _ _ _, hb1⟩

end Go.Proofs.Ytlhagdldmpnbfaa

