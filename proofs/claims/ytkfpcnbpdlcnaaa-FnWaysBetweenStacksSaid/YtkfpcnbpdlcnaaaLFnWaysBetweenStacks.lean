import Derived.Test.YtkfpcnbpdlcnaaaPCx
import Derived.Test.YtkfpcnbpdlcnaaaI4
import Derived.Test.YtkfpcnbpdlcnaaaDw
namespace Go.Pan
theorem nodup_sub_leW {α : Type} [DecidableEq α] : ∀ {l m : List α}, l.Nodup → (∀ x ∈ l, x ∈ m) → l.length ≤ m.length
  | [], _, _, _ => Nat.zero_le _
  | a :: l, m, h, hs => by
    obtain ⟨h1, h2⟩ := List.nodup_cons.1 h
    have h3 := hs a (by simp)
    have h4 := nodup_sub_leW (l := l) (m := m.erase a) h2 (fun x hx => (List.mem_erase_of_ne (by rintro rfl; exact h1 hx)).2 (hs x (by simp [hx])))
    have h5 := List.length_pos_of_mem h3
    rw [List.length_erase_of_mem h3] at h4
    simp only [List.length_cons]
    omega
section
variable {n : Nat} {s t q : List Int}
/-- the plan along least ways leads there, turn by turn -/
theorem goL_plan (ht : St n t) (e : Nat) (q : List Int) (hq : St n q) (h : far n q t = e) : playL q (goL n t e q) = t ∧ ∀ k ∈ goL n t e q, 1 ≤ k ∧ k ≤ (n : Int) := by
  induction e generalizing q with
  | zero => exact ⟨(far_zero hq ht).1 h, by simp [goL]⟩
  | succ e ih =>
    obtain ⟨h1, h2⟩ := firK_spec hq ht h
    obtain ⟨i1, i2⟩ := ih _ (hq.turn _) h2
    refine ⟨?_, ?_⟩
    · show playL (turnL q ((firK n t q : Int)).toNat) _ = t
      rw [Int.toNat_natCast]
      exact i1
    · intro k hk
      rcases List.mem_cons.1 (show k ∈ (firK n t q : Int) :: goL n t e (turnL q (firK n t q)) from hk) with rfl | hk
      · exact ⟨by omega, by omega⟩
      · exact i2 k hk
/-- on a least way there is a stack at each distance -/
theorem midL_gt (hs : St n s) (ht : St n t) (h1 : 1 ≤ n) (h9 : n ≤ 9) : far n s t + 1 ≤ midL n s t (far n s t) := by
  have hex : ∀ i : Nat, ∃ u, i ≤ far n s t → St n u ∧ far n s u = i ∧ far n u t = far n s t - i := by
    intro i
    by_cases hi : i ≤ far n s t
    · obtain ⟨u, h⟩ := far_mid (a := i) (b := far n s t - i) hs ht (by omega)
      exact ⟨u, fun _ => h⟩
    · exact ⟨[], fun h => absurd h hi⟩
  obtain ⟨f, hf⟩ := Classical.axiomOfChoice hex
  have h2 := nodup_sub_leW (l := (List.range (far n s t + 1)).map f) (m := (allS n).filter (midB n s t (far n s t)))
    (by
      refine List.pairwise_map.2 (List.nodup_range.imp_of_mem ?_)
      intro a b ha hb hab e
      have ha := List.mem_range.1 ha
      have hb := List.mem_range.1 hb
      have h3 := (hf a (by omega)).2.1
      have h4 := (hf b (by omega)).2.1
      rw [e] at h3
      omega)
    (fun u hu => by
      obtain ⟨i, hi, rfl⟩ := List.mem_map.1 hu
      have hi := List.mem_range.1 hi
      obtain ⟨h3, h4, h5⟩ := hf i (by omega)
      refine List.mem_filter.2 ⟨(mem_allS h1 h9).2 h3, ?_⟩
      unfold midB
      rw [decide_eq_true_iff]
      omega)
  unfold midL
  rw [List.countP_eq_length_filter]
  simpa using h2
end
/-- what FnWaysBetweenStacks asks of two stacks -/
structure WaysB (xs ys : List Int) : Prop where
  okp : okPlay xs (mPlanBetween xs ys) = true
  ends : mPlayPlan xs (mPlanBetween xs ys) = ys
  len : ((mPlanBetween xs ys).length : Int) = mDistanceBetween xs ys
  back : twoB ys xs = true
  bd : mDistanceBetween ys xs = mDistanceBetween xs ys
  fa : farB xs = true
  fb : farB ys = true
  tri1 : mDistanceBetween xs ys ≤ mStackDistance xs + mStackDistance ys
  tri2 : mStackDistance xs ≤ mDistanceBetween xs ys + mStackDistance ys
  lb : leastB xs (mPlanBetween xs ys) = true
  ls : mIsLeastPlan xs (mPlanBetween xs ys) = true
  mid1 : 1 ≤ mMiddleStacks xs ys
  mid2 : mDistanceBetween xs ys + 1 ≤ mMiddleStacks xs ys
  zero : mDistanceBetween xs ys = 0 ↔ xs = ys
  small : 0 ≤ mDistanceBetween xs ys ∧ mDistanceBetween xs ys ≤ 14
  sa : 0 ≤ mStackDistance xs ∧ mStackDistance xs ≤ 14
  sb : 0 ≤ mStackDistance ys ∧ mStackDistance ys ≤ 14
theorem waysB_of {xs ys : List Int} (h : twoB xs ys = true) : WaysB xs ys := by
  obtain ⟨h1, h2, h3, h4⟩ := twoB_iff.1 h
  have hP : mPlanBetween xs ys = goL xs.length ys (far2 xs ys) xs := if_pos h
  have hD : mDistanceBetween xs ys = (far2 xs ys : Int) := if_pos h
  have hM : mMiddleStacks xs ys = (midL xs.length xs ys (far2 xs ys) : Int) := if_pos h
  have hs : St xs.length xs := h1.st
  have ht : St xs.length ys := ⟨h3, h4.symm⟩
  have hr := h1.home
  have hc := h1.cnt
  have hfa : farB xs = true := farB_iff.2 ⟨h1, h2⟩
  have hfb : farB ys = true := farB_iff.2 ⟨h3, by omega⟩
  have hSx : mStackDistance xs = (farS xs : Int) := if_pos hfa
  have hSy : mStackDistance ys = (farS ys : Int) := if_pos hfb
  have hb : twoB ys xs = true := twoB_iff.2 ⟨h3, by omega, h1, h4.symm⟩
  have hDb : mDistanceBetween ys xs = (far2 ys xs : Int) := if_pos hb
  have hsym : far2 ys xs = far2 xs ys := by
    unfold far2
    rw [← h4]
    exact far_symm ht hs
  obtain ⟨g1, g2⟩ := goL_plan ht (far2 xs ys) xs hs rfl
  have hle : far2 xs ys ≤ 2 * xs.length := (far_spec hs ht).2.1
  have hlx : farS xs ≤ 2 * xs.length := farS_le h1
  have hly : farS ys ≤ 2 * ys.length := farS_le h3
  have hlen := goL_length xs.length ys (far2 xs ys) xs
  have hplan : Plan xs.length (mPlanBetween xs ys) := by
    refine ⟨⟨by have := hc.1; omega, by omega⟩, by rw [hP, hlen]; omega, ?_⟩
    rw [hP]
    exact g2
  have hok : okPlay xs (mPlanBetween xs ys) = true := okPlay_iff.2 ⟨h1, hplan⟩
  have hfSx : farS xs = far xs.length xs (ramp 1 xs.length) := rfl
  have hfSy : farS ys = far xs.length ys (ramp 1 xs.length) := by unfold farS; rw [← h4]
  have hf2 : far2 xs ys = far xs.length xs ys := rfl
  have hlb : leastB xs (mPlanBetween xs ys) = true := leastB_iff.2 ⟨⟨h1, h2⟩, hplan⟩
  have hplay : playL xs (mPlanBetween xs ys) = ys := by rw [hP]; exact g1
  have hmid := midL_gt hs ht hc.1 hc.2
  have ht1 := far_tri hs hr ht
  have ht2 := far_tri hs ht hr
  have hry := far_symm ht hr
  rw [← hf2] at hmid
  exact {
    okp := hok
    ends := by unfold mPlayPlan; rw [if_pos hok, hplay]
    len := by rw [hP, hlen, hD]
    back := hb
    bd := by rw [hDb, hD, hsym]
    fa := hfa
    fb := hfb
    tri1 := by rw [hD, hSx, hSy]; omega
    tri2 := by rw [hD, hSx, hSy]; omega
    lb := hlb
    ls := by
      unfold mIsLeastPlan
      rw [hlb, hplay, hP, hlen]
      simp
    mid1 := by rw [hM]; omega
    mid2 := by rw [hM, hD]; omega
    zero := by
      rw [hD, ← far_zero hs ht, ← hf2]
      omega
    small := by rw [hD]; omega
    sa := by rw [hSx]; omega
    sb := by rw [hSy]; omega }
end Go.Pan

namespace Go.Proofs.Ytkfpcnbpdlcnaaa
open Go Go.RowKit Go.Pan

set_option maxRecDepth 100000 in
set_option maxHeartbeats 4000000 in
theorem walk_FnWaysBetweenStacks (a0 : Option Addr) (n0 c0 : Nat) (a1 : Option Addr) (n1 c1 : Nat) (w : World) (h0 : Byts w (.slice a0 n0 c0) n0 w.heap.size) (hn0 : n0 ≤ maxLen) (_h1 : Byts w (.slice a1 n1 c1) n1 w.heap.size) (hn1 : n1 ≤ maxLen) :
    Calls Try.prog 3 #[.slice a0 n0 c0, .slice a1 n1 c1] w fun e w' => e = .returned (.bool true) ∧ Below w.heap.size w w' := by
  go_enter Try.func3, Try.ntmps3
  go_wp2_with fail
  refine (big_any a0 a1 n0 n1 c0 c1 w hn0 hn1).mono ?_
  rintro e w' ⟨b, rfl, rfl⟩
  cases b with
  | true =>
    go_wp2
    go_ret
    exact ⟨rfl, Below.refl _ _⟩
  | false =>
  have B0 : Below w'.heap.size w' w' := Below.refl _ _
  go_wp2_with fail
  refine (DrawPlanBetween_any a0 n0 c0 w' h0 hn0).mono ?_
  rintro e w1 ⟨s, t, rfl, xs, ys, hs, ht, hxl, hyl, B1⟩
  clear B0 h0
  have hx6 : xs.length ≤ 1048576 := by omega
  have hy6 : ys.length ≤ 1048576 := by omega
  clear hxl hyl
  obtain ⟨g, hg⟩ : ∃ g, twoB xs ys = g := ⟨_, rfl⟩
  obtain ⟨P, hP⟩ : ∃ P, mPlanBetween xs ys = P := ⟨_, rfl⟩
  obtain ⟨D, hD⟩ : ∃ D, mDistanceBetween xs ys = D := ⟨_, rfl⟩
  obtain ⟨M, hM⟩ : ∃ M, mMiddleStacks xs ys = M := ⟨_, rfl⟩
  have HP6 := Lib.hid (show P.length ≤ 1048576 by rw [← hP]; exact len_mPlanBetween _ _)
  have c2 := PlanBetween_any s xs t ys w1 hs hx6 ht hy6
  rw [hP, hg] at c2
  go_wp2_with fail
  refine c2.mono ?_
  rintro e w2 ⟨p, rfl, hp, _, b2⟩
  clear c2
  replace hs := Own.same hs b2
  replace ht := Own.same ht b2
  have B2 := B1.trans (b2.mono B1.size)
  clear B1
  have c3 := sPlanBetween_any s xs t ys w2 hs hx6 ht hy6
  rw [hP, hg] at c3
  go_wp2_with fail
  refine c3.mono ?_
  rintro e w3 ⟨q, rfl, hq, _, b3⟩
  clear c3
  replace hs := Own.same hs b3
  replace ht := Own.same ht b3
  replace hp := Own.same hp b3
  have B3 := B2.trans (b3.mono B2.size)
  clear B2
  have c4 := DistanceBetween_any s xs t ys w3 hs hx6 ht hy6
  rw [hD, hg] at c4
  go_wp2_with fail
  refine c4.mono ?_
  rintro e w4 ⟨rfl, b4⟩
  clear c4
  replace hs := Own.same hs b4
  replace ht := Own.same ht b4
  replace hp := Own.same hp b4
  replace hq := Own.same hq b4
  have B4 := B3.trans (b4.mono B3.size)
  clear B3
  have c5 := sDistanceBetween_any s xs t ys w4 hs hx6 ht hy6
  rw [hD, hg] at c5
  go_wp2_with fail
  refine c5.mono ?_
  rintro e w5 ⟨rfl, b5⟩
  clear c5
  replace hs := Own.same hs b5
  replace ht := Own.same ht b5
  replace hp := Own.same hp b5
  replace hq := Own.same hq b5
  have B5 := B4.trans (b5.mono B4.size)
  clear B4
  have c6 := MiddleStacks_any s xs t ys w5 hs hx6 ht hy6
  rw [hM, hg] at c6
  go_wp2_with fail
  refine c6.mono ?_
  rintro e w6 ⟨rfl, b6⟩
  clear c6
  replace hs := Own.same hs b6
  replace ht := Own.same ht b6
  replace hp := Own.same hp b6
  replace hq := Own.same hq b6
  have B6 := B5.trans (b6.mono B5.size)
  clear B5
  have c7 := sMiddleStacks_any s xs t ys w6 hs hx6 ht hy6
  rw [hM, hg] at c7
  go_wp2_with fail
  refine c7.mono ?_
  rintro e w7 ⟨rfl, b7⟩
  clear c7
  replace hs := Own.same hs b7
  replace ht := Own.same ht b7
  replace hp := Own.same hp b7
  replace hq := Own.same hq b7
  have B7 := B6.trans (b7.mono B6.size)
  clear B6
  cases g with
  | false =>
    go_wp2_with fail
    refine (fSame_any p q P P w7 (OwnI.ints hp) (OwnI.ints hq) HP6.out HP6.out).mono ?_
    rintro e w8 ⟨rfl, b8⟩
    replace hs := Own.same hs b8
    replace ht := Own.same ht b8
    replace hp := Own.same hp b8
    replace hq := Own.same hq b8
    have B8 := B7.trans (b8.mono B7.size)
    clear B7
    clear hs ht hp hq
    go_wp2
    go_ret
    exact ⟨rfl, B8⟩
  | true =>
    go_wp2_with fail
    refine (fSame_any p q P P w7 (OwnI.ints hp) (OwnI.ints hq) HP6.out HP6.out).mono ?_
    rintro e w8 ⟨rfl, b8⟩
    replace hs := Own.same hs b8
    replace ht := Own.same ht b8
    replace hp := Own.same hp b8
    replace hq := Own.same hq b8
    have B8 := B7.trans (b8.mono B7.size)
    clear B7
    have V := waysB_of hg
    obtain ⟨v1, v2, v3, v4, v5, v6, v7, v8, v9, v10, v11, v12, v13, v14, v15, v16, v17⟩ := V
    rw [hP] at v1 v2 v3 v10 v11
    rw [hD] at v3 v5 v8 v9 v13 v14 v15
    rw [hM] at v12 v13
    obtain ⟨A, hA⟩ : ∃ A, mStackDistance xs = A := ⟨_, rfl⟩
    obtain ⟨B, hB⟩ : ∃ B, mStackDistance ys = B := ⟨_, rfl⟩
    rw [hA] at v8 v9 v16
    rw [hB] at v8 v9 v17
    have c9 := PlayPlan_any s xs p P w8 hs hx6 hp HP6.out
    rw [v1, v2] at c9
    go_wp2_with fail
    refine c9.mono ?_
    rintro e w9 ⟨r, rfl, hr, _, b9⟩
    clear c9
    replace hs := Own.same hs b9
    replace ht := Own.same ht b9
    replace hp := Own.same hp b9
    replace hq := Own.same hq b9
    have B9 := B8.trans (b9.mono B8.size)
    clear B8
    have c10 := DistanceBetween_any t ys s xs w9 ht hy6 hs hx6
    rw [v5, v4] at c10
    go_wp2_with fail
    refine c10.mono ?_
    rintro e w10 ⟨rfl, b10⟩
    clear c10
    replace hs := Own.same hs b10
    replace ht := Own.same ht b10
    replace hp := Own.same hp b10
    replace hq := Own.same hq b10
    replace hr := Own.same hr b10
    have B10 := B9.trans (b10.mono B9.size)
    clear B9
    have c11 := StackDistance_any s xs w10 hs hx6
    rw [hA, v6] at c11
    go_wp2_with fail
    refine c11.mono ?_
    rintro e w11 ⟨rfl, b11⟩
    clear c11
    replace hs := Own.same hs b11
    replace ht := Own.same ht b11
    replace hp := Own.same hp b11
    replace hq := Own.same hq b11
    replace hr := Own.same hr b11
    have B11 := B10.trans (b11.mono B10.size)
    clear B10
    have c12 := StackDistance_any t ys w11 ht hy6
    rw [hB, v7] at c12
    go_wp2_with fail
    refine c12.mono ?_
    rintro e w12 ⟨rfl, b12⟩
    clear c12
    replace hs := Own.same hs b12
    replace ht := Own.same ht b12
    replace hp := Own.same hp b12
    replace hq := Own.same hq b12
    replace hr := Own.same hr b12
    have B12 := B11.trans (b12.mono B11.size)
    clear B11
    have c13 := IsLeastPlan_any s xs p P w12 hs hx6 hp HP6.out
    rw [v11, v10] at c13
    go_wp2_with fail
    refine c13.mono ?_
    rintro e w13 ⟨rfl, b13⟩
    clear c13
    replace hs := Own.same hs b13
    replace ht := Own.same ht b13
    replace hp := Own.same hp b13
    replace hq := Own.same hq b13
    replace hr := Own.same hr b13
    have B13 := B12.trans (b13.mono B12.size)
    clear B12
    go_wp2_with fail
    refine (fSame_any r t ys ys w13 (OwnI.ints hr) (OwnI.ints ht) hy6 hy6).mono ?_
    rintro e w14 ⟨rfl, b14⟩
    replace hs := Own.same hs b14
    replace ht := Own.same ht b14
    replace hp := Own.same hp b14
    replace hq := Own.same hq b14
    replace hr := Own.same hr b14
    have B14 := B13.trans (b14.mono B13.size)
    clear B13
    subst v3
    have f1 : decide (A + B < (P.length : Int)) = false := decide_eq_false (by omega)
    have f2 : decide ((P.length : Int) + B < A) = false := decide_eq_false (by omega)
    have f3 : decide (M < 1) = false := decide_eq_false (by omega)
    have f4 : decide (M < (P.length : Int) + 1) = false := decide_eq_false (by omega)
    obtain ⟨v15a, v15b⟩ := v15
    obtain ⟨v16a, v16b⟩ := v16
    obtain ⟨v17a, v17b⟩ := v17
    obtain ⟨pa, pc, rfl, _, _, _⟩ := hp.shape
    have cS := fSame_any s t xs ys w14 (OwnI.ints hs) (OwnI.ints ht) hx6 hy6
    have HB := Lib.hid B14
    clear B14
    clear hs ht hp hq hr v1 v2 v4 v5 v6 v7 v10 v11 hP hD hM hg hA hB v8 v9 v12 v13 HP6
    by_cases he : xs = ys
    · have hz2 : P.length = 0 := by have := v14.2 he; omega
      have hz3 : P = [] := List.eq_nil_of_length_eq_zero hz2
      rw [decide_eq_true he] at cS
      have g1 : decide (A + B < 0) = false := decide_eq_false (by omega)
      have g2 : decide (B < A) = false := decide_eq_false (by have := of_decide_eq_false f2; omega)
      clear v14 he hz2 f1 f2 f4 v15a v15b
      subst hz3
      go_wp2_with fail
      refine cS.mono ?_
      rintro e w15 ⟨rfl, b15⟩
      have B15 := HB.out.trans (b15.mono HB.out.size)
      go_wp2
      go_ret
      exact ⟨rfl, B15⟩
    · have hz : 0 < (P.length : Int) := by have := mt v14.1 he; omega
      have hz1 : ((P.length : Int) == 0) = false := beq_eq_false_iff_ne.2 (by omega)
      rw [decide_eq_false he] at cS
      clear v14 he
      go_wp2_with fail
      refine cS.mono ?_
      rintro e w15 ⟨rfl, b15⟩
      have B15 := HB.out.trans (b15.mono HB.out.size)
      go_wp2
      go_ret
      exact ⟨rfl, B15⟩
end Go.Proofs.Ytkfpcnbpdlcnaaa
