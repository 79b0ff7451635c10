import Derived.Test.YticpdlgnaphnkaaK12
namespace Go.Proofs.Yticpdlgnaphnkaa
open Go Go.RowKit Go.Pan

set_option maxHeartbeats 1600000 in
set_option maxRecDepth 100000 in
theorem IsLeastPlan_any (v : Value) (xs : List Int) (u : Value) (ys : List Int) (w : World) (hv : OwnI w v xs) (hn : xs.length ≤ 1048576) (hu : OwnI w u ys) (hm : ys.length ≤ 1048576) :
    Calls Try.prog 56 #[v, u] w fun e w' => e = .returned (.tuple #[.bool (mIsLeastPlan xs ys), .bool (leastB xs ys)]) ∧ Below w.heap.size w w' := by
  have c := isSearched_any _ xs w hv hn
  cases hg : farB xs with
  | true =>
    cases hh : planB xs.length ys with
    | true =>
      obtain ⟨hG, h7⟩ := farB_iff.1 hg
      have hL : leastB xs ys = true := by unfold leastB; rw [hg, hh]; rfl
      have HL := Lib.hid hL
      have HM := Lib.hid (show mIsLeastPlan xs ys = (((far2 xs (playL xs ys) + 1 - 1 : Nat) : Int) == (ys.length : Int)) by unfold mIsLeastPlan; rw [hL, Bool.eq_iff_iff]; simp; omega)
      have HP := Lib.hid (planB_iff.1 hh).2.2
      have HO := Lib.hid (show okPlay xs ys = true by unfold okPlay; rw [goodB_iff.2 hG, hh]; rfl)
      have HC := Lib.hid hG.cnt
      have HS := Lib.hid hG.st
      have HT := Lib.hid (show St xs.length (playL xs ys) from ⟨playL_good hG ys, playL_length xs ys⟩)
      have hle : far2 xs (playL xs ys) ≤ 2 * xs.length := (far_spec HS.out HT.out).2.1
      have h9 := hG.le9
      rw [hg] at c
      obtain ⟨ad, cap, rfl, _, _, _⟩ := hv.shape
      obtain ⟨ad2, cap2, rfl, _, _, _⟩ := hu.shape
      obtain ⟨d, hd⟩ : ∃ d, far2 xs (playL xs ys) = d := ⟨_, rfl⟩
      have HD := Lib.hid hd
      rw [hd] at HM hle
      have hd2 : d + 1 ≤ 1048576 := by omega
      have hut := Try.underlying54
      have hs9 : (twl xs).length = 9 := twl_length _ h9
      have hsz : (Try.prog.info? 54).map (·.size) = some (twl xs).length := by rw [Try.infoT, hs9]
      clear hG hg hL hh hd hs9
      go_enter Try.func56, Try.ntmps56
      go_wp2_with fail
      refine c.mono ?_
      rintro e w1 ⟨rfl, hb1⟩
      clear c
      have c2 := isPlanFor_any _ _ xs ys w1 (hv.same hb1) hn (hu.same hb1) hm
      rw [HO.out] at c2
      go_wp2_with fail
      refine c2.mono ?_
      rintro e w2 ⟨rfl, hb2⟩
      clear c2
      have hB2 := hb1.trans (hb2.mono hb1.size)
      go_wp2_with fail
      refine (towerOf_any _ xs w2 (hv.same hB2) h9).mono ?_
      rintro e w3 ⟨rfl, hb3⟩
      have hB3 := hB2.trans (hb3.mono hB2.size)
      clear hb1 hb2 hb3 hB2
      have hz : Blk (w3.alloc (.cells (twl []).toArray 54)) w3.heap.size 54 (twl []) := Blk.new _ _ (twl []) _ rfl
      go_upto_region 4 with (refine wpList_store_tower rfl _ _ rfl w3.heap.size [] xs (by simp) h9 rfl rfl hz ?_; intro w4 hbx hg4)
      have hB4 := (hB3.alloc hB3.size (.cells (twl []).toArray 54)).grown hg4 (by simp; exact Nat.le_succ_of_le hB3.size) (by intro k hk; cases hk; exact hB3.size)
      have hu4 := hu.same hB4.drew
      have hlt := hbx.lt
      have hr := hbx.range
      have HP2 := Lib.hid HP.out
      clear hz hg4 hB3 hbx
      refine wp_region_held_drew (S := (fun w' => w'.rangeAt w3.heap.size 0 (twl xs))) (by kernel_rfl) (hr) (fun hHeld => ?_)
      refine wpAnyH_take (i := 0) rfl (by kernel_rfl) (by kernel_rfl) (by kernel_rfl) (fun _ _ _ h => h) (yieldsIf_load_mid (by rfl) _ _ rfl _ _ rfl _ _ (fun w hw => hw) hut rfl hsz) (by assumption) ?_
      try simp only [List.getElem_toArray, List.getElem_cons_zero, List.getElem_cons_succ, Act.put, List.setIfInBounds_toArray, List.set_cons_zero, List.set_cons_succ]
      refine wpAnyH_take (i := 1) rfl (by kernel_rfl) (by kernel_rfl) (by kernel_rfl) (fun _ _ _ h => h) (yieldsIf_load_mid (by rfl) _ _ rfl _ _ rfl _ _ (fun w hw => hw) hut rfl hsz) (by assumption) ?_
      try simp only [List.getElem_toArray, List.getElem_cons_zero, List.getElem_cons_succ, Act.put, List.setIfInBounds_toArray, List.set_cons_zero, List.set_cons_succ]
      refine wpAnyH_take (i := 2) (v := ?_) rfl (by kernel_rfl) (by kernel_rfl) (by kernel_rfl) (fun _ _ _ h => h) (Or.inl ⟨by rfl, ?_⟩) (by assumption) ?_
      rotate_left
      · intro w _; go_simp; with_reducible rfl
      try simp only [List.getElem_toArray, List.getElem_cons_zero, List.getElem_cons_succ, Act.put, List.setIfInBounds_toArray, List.set_cons_zero, List.set_cons_succ]
      refine wpAnyH_take (i := 4) (v := ?_) rfl (by kernel_rfl) (by kernel_rfl) (by kernel_rfl) (fun _ _ _ h => h) (Or.inl ⟨by rfl, ?_⟩) (by assumption) ?_
      rotate_left
      · intro w _; go_simp; with_reducible rfl
      try simp only [List.getElem_toArray, List.getElem_cons_zero, List.getElem_cons_succ, Act.put, List.setIfInBounds_toArray, List.set_cons_zero, List.set_cons_succ]
      refine wpAnyH_take (i := 5) (v := ?_) rfl (by kernel_rfl) (by kernel_rfl) (by kernel_rfl) (fun _ _ _ h => h) (Or.inl ⟨by rfl, ?_⟩) (by assumption) ?_
      rotate_left
      · intro w _; go_simp; with_reducible rfl
      try simp only [List.getElem_toArray, List.getElem_cons_zero, List.getElem_cons_succ, Act.put, List.setIfInBounds_toArray, List.set_cons_zero, List.set_cons_succ]
      refine wpAnyH_take (i := 8) (v := ?_) rfl (by kernel_rfl) (by kernel_rfl) (by kernel_rfl) (fun _ _ _ h => h) (Or.inl ⟨by rfl, ?_⟩) (by assumption) ?_
      rotate_left
      · intro w _; go_simp; with_reducible rfl
      try simp only [List.getElem_toArray, List.getElem_cons_zero, List.getElem_cons_succ, Act.put, List.setIfInBounds_toArray, List.set_cons_zero, List.set_cons_succ]
      refine wpAnyH_take (i := 9) (v := ?_) rfl (by kernel_rfl) (by kernel_rfl) (by kernel_rfl) (fun _ _ _ h => h) (Or.inl ⟨by rfl, ?_⟩) (by assumption) ?_
      rotate_left
      · intro w _; go_simp; with_reducible rfl
      try simp only [List.getElem_toArray, List.getElem_cons_zero, List.getElem_cons_succ, Act.put, List.setIfInBounds_toArray, List.set_cons_zero, List.set_cons_succ]
      refine wpAnyH_ready (rs := [3]) (by kernel_rfl) (by simp) ?_
      refine AllReadyH.cons rfl (fun K hK => ?_) AllReadyH.nil
      go_simp
      refine (played_any _ xs ys _ h9 hu4 HP2 hm).mono ?_
      rintro e w5 ⟨rfl, hb5⟩
      go_wp2_with fail
      refine hK.out _ _ (range_below hHeld hb5 hlt) (fun hHeld => ?_)
      clear hK K
      try simp only [List.getElem_toArray, List.getElem_cons_zero, List.getElem_cons_succ, Act.put, List.setIfInBounds_toArray, List.set_cons_zero, List.set_cons_succ]
      have hlt5 := Nat.lt_of_lt_of_le hlt hb5.size
      refine wpAnyH_ready (rs := [6]) (by kernel_rfl) (by simp) ?_
      refine AllReadyH.cons rfl (fun K hK => ?_) AllReadyH.nil
      go_simp
      refine (way_any xs.length xs (playL xs ys) w5 HC h7 HS HT).mono ?_
      rintro e w6 ⟨g, cap3, ms, rfl, _, hb6⟩
      go_wp2_with fail
      refine hK.out _ _ (range_below hHeld hb6 hlt5) (fun hHeld => ?_)
      clear hK K
      try simp only [List.getElem_toArray, List.getElem_cons_zero, List.getElem_cons_succ, Act.put, List.setIfInBounds_toArray, List.set_cons_zero, List.set_cons_succ]
      rw [show far xs.length xs (playL xs ys) = d from HD.out]
      refine wpAnyH_ready (rs := [7]) (by kernel_rfl) (by simp) ?_
      refine AllReadyH.cons rfl (fun K hK => ?_) AllReadyH.nil
      go_simp
      refine (wturns_any _ (d + 1) _ w6 hd2).mono ?_
      rintro e w7 ⟨rfl, rfl⟩
      go_wp2_with fail
      refine hK.out _ _ (hHeld) (fun hHeld => ?_)
      clear hK K
      try simp only [List.getElem_toArray, List.getElem_cons_zero, List.getElem_cons_succ, Act.put, List.setIfInBounds_toArray, List.set_cons_zero, List.set_cons_succ]
      refine wpAnyH_take (i := 10) (v := ?_) rfl (by kernel_rfl) (by kernel_rfl) (by kernel_rfl) (fun _ _ _ h => h) (Or.inl ⟨by rfl, ?_⟩) (by assumption) ?_
      rotate_left
      · intro w _; go_simp; with_reducible rfl
      try simp only [List.getElem_toArray, List.getElem_cons_zero, List.getElem_cons_succ, Act.put, List.setIfInBounds_toArray, List.set_cons_zero, List.set_cons_succ]
      refine wpAnyH_take (i := 11) (v := ?_) rfl (by kernel_rfl) (by kernel_rfl) (by kernel_rfl) (fun _ _ _ h => h) (Or.inl ⟨by rfl, ?_⟩) (by assumption) ?_
      rotate_left
      · intro w _; go_simp; with_reducible rfl
      try simp only [List.getElem_toArray, List.getElem_cons_zero, List.getElem_cons_succ, Act.put, List.setIfInBounds_toArray, List.set_cons_zero, List.set_cons_succ]
      refine wpAnyH_take (i := 12) (v := ?_) rfl (by kernel_rfl) (by kernel_rfl) (by kernel_rfl) (fun _ _ _ h => h) (Or.inl ⟨by rfl, ?_⟩) (by assumption) ?_
      rotate_left
      · intro w _; go_simp; with_reducible rfl
      try simp only [List.getElem_toArray, List.getElem_cons_zero, List.getElem_cons_succ, Act.put, List.setIfInBounds_toArray, List.set_cons_zero, List.set_cons_succ]
      refine wpAnyH_done (by kernel_rfl) ?_ _
      go_wp2
      go_ret2
      have hB5 := hB4.drew.trans (hb5.mono hB4.size)
      exact ⟨by rw [HM.out, HL.out]; rfl, hB5.trans (hb6.mono hB5.size)⟩
    | false =>
      have HL := Lib.hid (show leastB xs ys = false by unfold leastB; rw [hg, hh]; rfl)
      have HM := Lib.hid (show mIsLeastPlan xs ys = false by unfold mIsLeastPlan leastB; rw [hg, hh]; rfl)
      have HO := Lib.hid (show okPlay xs ys = false by unfold okPlay; rw [hh]; simp)
      rw [hg] at c
      obtain ⟨ad, cap, rfl, _, _, _⟩ := hv.shape
      obtain ⟨ad2, cap2, rfl, _, _, _⟩ := hu.shape
      clear hg hh
      go_enter Try.func56, Try.ntmps56
      go_wp2_with fail
      refine c.mono ?_
      rintro e w1 ⟨rfl, hb1⟩
      clear c
      have c2 := isPlanFor_any _ _ xs ys w1 (hv.same hb1) hn (hu.same hb1) hm
      rw [HO.out] at c2
      go_wp2_with fail
      refine c2.mono ?_
      rintro e w2 ⟨rfl, hb2⟩
      clear c2
      go_wp2
      go_ret2
      exact ⟨by rw [HM.out, HL.out]; rfl, hb1.trans (hb2.mono hb1.size)⟩
  | false =>
    have HL := Lib.hid (show leastB xs ys = false by unfold leastB; rw [hg]; rfl)
    have HM := Lib.hid (show mIsLeastPlan xs ys = false by unfold mIsLeastPlan leastB; rw [hg]; rfl)
    rw [hg] at c
    obtain ⟨ad, cap, rfl, _, _, _⟩ := hv.shape
    obtain ⟨ad2, cap2, rfl, _, _, _⟩ := hu.shape
    clear hg
    go_enter Try.func56, Try.ntmps56
    go_wp2_with fail
    refine c.mono ?_
    rintro e w1 ⟨rfl, hb1⟩
    clear c
    go_wp2
    go_ret2
    exact ⟨by rw [HM.out, HL.out]; rfl, hb1⟩
end Go.Proofs.Yticpdlgnaphnkaa
