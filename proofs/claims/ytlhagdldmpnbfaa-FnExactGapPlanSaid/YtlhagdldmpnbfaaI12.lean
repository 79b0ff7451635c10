import Derived.Test.YtlhagdldmpnbfaaI10
import Derived.Test.YtlhagdldmpnbfaaS10
namespace Go.Proofs.Ytlhagdldmpnbfaa
open Go Go.RowKit Go.Pan

set_option maxRecDepth 100000 in
theorem ownBlock_cut (ad : Option Addr) (n m c : Nat) : (Value.slice ad m c).ownBlock = (Value.slice ad n c).ownBlock := by cases ad <;> rfl

set_option maxHeartbeats 800000 in
set_option maxRecDepth 100000 in
theorem gapStep_any (ys : List Int) (w : World) (hg : Hid (Go.Pan.Good ys)) :
    Calls Try.prog 79 #[tw ys, .int .i64 ys.length] w fun e w' => ∃ ad c, e = .returned (.slice ad (stepL ys).length c) ∧ OwnI w' (.slice ad (stepL ys).length c) (stepL ys) ∧ From w.heap.size (.slice ad (stepL ys).length c) ∧ Below w.heap.size w w' := by
  have hl9 := hg.out.le9
  have hbx : Blk (w.alloc (.cells (twl ys).toArray 43)) w.heap.size 43 (twl ys) := Blk.new w _ (twl ys) _ rfl
  have hb0 := below_new w (.cells (twl ys).toArray 43)
  have HT := Lib.hid (twl_length ys hl9)
  have htl := turnsL_length ys
  have hgl := greedyL_length ys
  go_enter Try.func79, Try.ntmps79
  go_wp2_with (first | (refine wpList_load_tower rfl _ rfl w.heap.size ys hl9 rfl hbx ?_))
  refine (gapTurns_any _ _ hg).mono ?_
  rintro e w1 ⟨r, rfl, ho, hf, hb⟩
  obtain ⟨ad, cap, rfl, hcap, _⟩ := ho.shape
  have hB1 := hb0.trans (hb.mono hb0.size)
  have hbx1 := hbx.below hb (by simp)
  clear hbx
  by_cases ht : turnsL ys = []
  · have hti : ((turnsL ys).length : Int) ≤ 0 := by rw [ht]; simp
    have HS := Lib.hid (show stepL ys = (greedyL ys).take 2 from if_pos ht)
    clear ht ho hb hb0
    go_wp2_with (first | (refine wpList_load_tower rfl _ rfl w.heap.size ys hl9 rfl hbx1 ?_))
    refine (greedy_any _ _ hg).mono ?_
    rintro e w2 ⟨r2, rfl, ho2, hf2, hb2⟩
    obtain ⟨ad2, cap2, rfl, hcap2, _⟩ := ho2.shape
    have hB2 := hB1.trans (hb2.mono hB1.size)
    have hs1 := hB1.size
    have hSl : (stepL ys).length = min 2 (greedyL ys).length := by rw [HS.out, List.length_take]
    have hfin : OwnI w2 (.slice ad2 (stepL ys).length cap2) (stepL ys) := by
      rw [hSl, HS.out]
      by_cases h2 : 2 ≤ (greedyL ys).length
      · rw [Nat.min_eq_left h2]; exact OwnI.take ho2 h2
      · rw [Nat.min_eq_right (by omega), List.take_of_length_le (by omega)]; exact ho2
    have hff : From w.heap.size (.slice ad2 (stepL ys).length cap2) := fun g hg => Nat.le_trans hs1 (hf2 g (by rw [ownBlock_cut _ (stepL ys).length]; exact hg))
    clear hb2 hB1 hbx1 ho2
    by_cases h2 : 2 < (greedyL ys).length
    · have h2i : (2 : Int) < ((greedyL ys).length : Int) := by omega
      have h2c : (2 : Int) ≤ cap2 := by omega
      have HL := Lib.hid (show (stepL ys).length = 2 by rw [hSl]; omega)
      clear hSl
      go_wp2
      go_ret
      exact ⟨ad2, cap2, by rw [HL.out]; rfl, hfin, hff, hB2⟩
    · have h2i : ((greedyL ys).length : Int) ≤ 2 := by omega
      have HL := Lib.hid (show (stepL ys).length = (greedyL ys).length by rw [hSl]; omega)
      clear hSl
      go_wp2
      all_goals
        go_ret
        refine ⟨ad2, cap2, ?_, hfin, hff, hB2⟩
        rw [HL.out]
        first | rfl | (rw [show (greedyL ys).length = 2 by omega]; rfl)
  · have hti : (0 : Int) < ((turnsL ys).length : Int) := by have := List.length_pos_iff.2 ht; omega
    have HS := Lib.hid (show stepL ys = (turnsL ys).take 1 from if_neg ht)
    have h1c : (1 : Int) ≤ cap := by have := List.length_pos_iff.2 ht; omega
    have HL := Lib.hid (show (stepL ys).length = 1 by have := List.length_pos_iff.2 ht; rw [HS.out, List.length_take]; omega)
    have hfin : OwnI w1 (.slice ad (stepL ys).length cap) (stepL ys) := by rw [HL.out, HS.out]; exact OwnI.take ho (by omega)
    have hs0 := hb0.size
    have hff : From w.heap.size (.slice ad (stepL ys).length cap) := fun g hg => Nat.le_trans hs0 (hf g (by rw [ownBlock_cut _ (stepL ys).length]; exact hg))
    clear ht ho hb hb0 hbx1
    go_wp2
    go_ret
    exact ⟨ad, cap, by rw [HL.out]; rfl, hfin, hff, hB1⟩

set_option maxHeartbeats 1600000 in
set_option maxRecDepth 100000 in
theorem GapPlan_any (v : Value) (xs : List Int) (w : World) (hv : OwnI w v xs) (hn : xs.length ≤ 1048576) :
    Calls Try.prog 36 #[v] w fun e w' => ∃ r, e = .returned (.tuple #[r, .bool (okGapPlan xs)]) ∧ OwnI w' r (mGapPlan xs) ∧ From w.heap.size r ∧ Below w.heap.size w w' := by
  obtain ⟨ad, cap, rfl, hc, _, _⟩ := hv.shape
  cases hg : goodB xs with
  | true =>
    have HG := Lib.hid (goodB_iff.1 hg)
    have HM := Lib.hid (show mGapPlan xs = (gapRes xs []).getD [] from if_pos hg)
    have HO := Lib.hid (show okGapPlan xs = (gapRes xs []).isSome by unfold okGapPlan; rw [hg]; rfl)
    have hl9 := HG.out.le9
    have hut := Try.underlying43
    go_enter Try.func36, Try.ntmps36
    go_wp2_with fail
    refine (IsStack_any _ _ _ hv hn).mono ?_
    rintro e w1 ⟨rfl, hb⟩
    go_wp2_with fail
    refine (towerOf_any _ _ _ (hv.same hb) hl9).mono ?_
    rintro e w2 ⟨rfl, hb2⟩
    have hz : Blk (w2.alloc (.cells (twl []).toArray 43)) w2.heap.size 43 (twl []) := Blk.new w2 _ (twl []) _ rfl
    have hB2 := hb.trans (hb2.mono hb.size)
    have hs2 := hB2.size
    have hB3 := hB2.alloc hB2.size (.cells (twl []).toArray 43)
    clear hb hb2 hv
    go_wp2_with (first | (refine wpList_store_tower rfl _ _ rfl w2.heap.size [] xs (by simp) hl9 rfl rfl hz ?_; intro w3 hbT hgr))
    have hB4 := hB3.grown hgr hB3.size (fun k hk => by simp at hk; omega)
    have hs3 : w2.heap.size + 1 ≤ w3.heap.size := hbT.lt
    clear hz hB2 hB3 hgr
    go_wp2_with fail
    refine (planOf_any _ [] _ (OwnI.nil _) (by simp)).mono ?_
    rintro e w4 ⟨r0, rfl, ho0, hf0, hb4⟩
    have hbT4 := hbT.below hb4 hbT.lt
    have hB5 := hB4.trans (hb4.mono hB4.size)
    have hf0' : From (w2.heap.size + 1) r0 := hf0.mono hs3
    clear hbT hB4 hb4 hf0
    go_wp2
    go_loopg [6, 7] 42 (fun gk o _ wr => ∃ ys out : List Int, Blk wr w2.heap.size 43 (twl ys) ∧ OwnI wr o out ∧ From (w2.heap.size + 1) o ∧ Hid (GapAt xs ys out) ∧ out.length ≤ 40 ∧ 41 ≤ gk + out.length ∧ Below w.heap.size w wr)
    case atStart => exact ⟨xs, [], hbT4, ho0, hf0', GapAt.start HG.out, by simp, by simp, hB5⟩
    case round =>
      obtain ⟨ys, out, hbT, ho, hf, hat, h40, hgk, hbr⟩ := hrel
      have hly := hat.out.2.1
      have HGY := Lib.hid hat.out.1
      have HY := Lib.hid hly
      have hly9 : ys.length ≤ 9 := by omega
      have hs9 : (twl ys).length = 9 := twl_length _ hly9
      have hsz : (Try.prog.info? 43).map (·.size) = some (twl ys).length := by rw [Try.infoT, hs9]
      have heq := tower_eq ys (ramp 1 xs.length) hly9 (by rw [ramp_length]; exact hly)
      have hlT := hbT.lt
      have hlo := ho.lt
      have hra := hbT.range
      have HS9 := Lib.hid hs9
      obtain ⟨ado, capo, rfl, _⟩ := ho.shape
      clear hly hs9 hbT4 ho0 hf0' hB5
      by_cases hsort : ys = ramp 1 xs.length
      · have hde : decide (ys = ramp 1 xs.length) = true := decide_eq_true hsort
        have HD := Lib.hid (hat.out.done h40 (by rw [HY.out]; exact hsort))
        rw [hde] at heq
        clear hsort hde
        go_wp2_with fail
        refine wp_region_held_drew (S := (fun w' => w'.rangeAt w2.heap.size 0 (twl ys))) (by kernel_rfl) (hra) (fun hHeld => ?_)
        refine wpAnyH_take (i := 0) rfl (by kernel_rfl) (by kernel_rfl) (by kernel_rfl) (fun _ _ _ h => h) (yieldsIf_load_mid (by rfl) _ _ rfl _ _ rfl _ _ (fun w hw => hw) hut rfl hsz) (by assumption) ?_
        refine wpAnyH_take (i := 1) (v := ?_) rfl (by kernel_rfl) (by kernel_rfl) (by kernel_rfl) (fun _ _ _ h => h) (Or.inl ⟨by rfl, ?_⟩) (by assumption) ?_
        rotate_left
        · intro w _; go_simp; with_reducible rfl
        refine wpAnyH_ready (rs := [2]) (by kernel_rfl) (by simp) ?_
        refine AllReadyH.cons rfl (fun K hK => ?_) AllReadyH.nil
        go_simp
        refine (sortedTower_any _ _ hl9).mono ?_
        rintro e w6 ⟨rfl, hb6⟩
        go_wp2_with fail
        refine hK.out _ _ (range_below hHeld hb6 hlT) (fun hHeld => ?_)
        clear hK K
        refine wpAnyH_take (i := 3) (v := ?_) rfl (by kernel_rfl) (by kernel_rfl) (by kernel_rfl) (fun _ _ _ h => h) (Or.inl ⟨by rfl, ?_⟩) (by assumption) ?_
        rotate_left
        · intro w _; go_simp; with_reducible rfl
        refine wpAnyH_done (by kernel_rfl) ?_ _
        have ho6 := (ho.drew).same hb6
        have hB6 := hbr.drew.trans (hb6.mono hbr.size)
        clear ho hra hbT
        go_wp2_with fail
        refine (Clip_any _ _ _ ho6).mono ?_
        rintro e w7 ⟨r, rfl, hor, hrb, rfl⟩
        have hfr : From w.heap.size r := fun b hb => Nat.le_trans hs2 (Nat.le_of_succ_le (hf b (by rw [← hrb]; exact hb)))
        clear hrb
        go_wp2
        go_ret2
        exact ⟨_, by rw [HO.out, HD.out]; rfl, by rw [HM.out, HD.out]; exact hor, hfr, hB6⟩
      · have hde : decide (ys = ramp 1 xs.length) = false := decide_eq_false hsort
        have hsort2 : ys ≠ ramp 1 ys.length := by rw [HY.out]; exact hsort
        have HST := Lib.hid (hat.out.step h40 hsort2)
        have hsl := stepL_length ys
        have HB := Lib.hid (stepL_bd HGY.out)
        have hsp := List.length_pos_iff.2 (stepL_ne HGY.out hsort2)
        have HLA := Lib.hid (show (out ++ stepL ys).length = out.length + (stepL ys).length from List.length_append)
        have HFL := Lib.hid (show 40 < out.length + (stepL ys).length → gapRes xs [] = none from fun h => by
          rcases hat.out.2.2 with ⟨h1, h2⟩ | ⟨h1, h2⟩
          · rw [← h2]; exact gapRes_fail hsort2 h40 (by rw [HLA.out]; exact h)
          · exact h2)
        rw [hde] at heq
        clear hsort hde hsort2
        go_wp2_with fail
        refine wp_region_held_drew (S := (fun w' => w'.rangeAt w2.heap.size 0 (twl ys))) (by kernel_rfl) (hra) (fun hHeld => ?_)
        refine wpAnyH_take (i := 0) rfl (by kernel_rfl) (by kernel_rfl) (by kernel_rfl) (fun _ _ _ h => h) (yieldsIf_load_mid (by rfl) _ _ rfl _ _ rfl _ _ (fun w hw => hw) hut rfl hsz) (by assumption) ?_
        refine wpAnyH_take (i := 1) (v := ?_) rfl (by kernel_rfl) (by kernel_rfl) (by kernel_rfl) (fun _ _ _ h => h) (Or.inl ⟨by rfl, ?_⟩) (by assumption) ?_
        rotate_left
        · intro w _; go_simp; with_reducible rfl
        refine wpAnyH_ready (rs := [2]) (by kernel_rfl) (by simp) ?_
        refine AllReadyH.cons rfl (fun K hK => ?_) AllReadyH.nil
        go_simp
        refine (sortedTower_any _ _ hl9).mono ?_
        rintro e w6 ⟨rfl, hb6⟩
        go_wp2_with fail
        refine hK.out _ _ (range_below hHeld hb6 hlT) (fun hHeld => ?_)
        clear hK K
        refine wpAnyH_take (i := 3) (v := ?_) rfl (by kernel_rfl) (by kernel_rfl) (by kernel_rfl) (fun _ _ _ h => h) (Or.inl ⟨by rfl, ?_⟩) (by assumption) ?_
        rotate_left
        · intro w _; go_simp; with_reducible rfl
        refine wpAnyH_done (by kernel_rfl) ?_ _
        have ho6 := (ho.drew).same hb6
        have hbT6 := (hbT.drew).below hb6 hlT
        have hB6 := hbr.drew.trans (hb6.mono hbr.size)
        have hlT6 := hbT6.lt
        clear ho hra hbT
        go_wp2_with (first | (refine wpList_load_tower rfl _ rfl w2.heap.size ys hly9 rfl hbT6 ?_))
        have cg := gapStep_any ys
        rw [HY.out] at cg
        refine (cg _ HGY).mono ?_
        rintro e w7 ⟨adp, capp, rfl, hop, hfp, hb7⟩
        have ho7 := ho6.same hb7
        have hbT7 := hbT6.below hb7 hlT6
        have hB7 := hB6.trans (hb7.mono hB6.size)
        have hapart := apart_gt hfp ho6.lt
        clear ho6 hbT6 hB6 hb7 cg
        by_cases hfit : out.length + (stepL ys).length ≤ 40
        · have hfi : (out.length : Int) + (stepL ys).length ≤ 40 := by omega
          have hsrc := Own.src hop
          have hs7 : w2.heap.size + 1 ≤ w7.heap.size := hbT7.lt
          go_wp2_with (at_builtin; refine wpList_appI Try.intSl rfl _ _ rfl _ out rfl ho7 (w2.heap.size + 1) hf adp _ capp (stepL ys) rfl rfl hsrc w7 (Below.refl _ _) hs7 (by omega) (by omega) ?_)
          intro v8 w8 ho8 hf8 hb8 hgr8
          have hop8 := hop.grown hgr8 (fun g hg e => hapart g hg e)
          have hbT8 := hbT7.below hb8 (by omega)
          have hB8 := hB7.trans (hb8.mono (by omega))
          have hz8 := hbT8.lt
          clear ho7 hbT7 hB7 hop hb8 hgr8 hsrc
          go_wp2_with (first | (refine wpList_load_tower rfl _ rfl w2.heap.size ys hly9 rfl hbT8 ?_))
          refine (played_any _ ys (stepL ys) _ hly9 hop8 HB (by omega)).mono ?_
          rintro e w9 ⟨rfl, hb9⟩
          have ho9 := ho8.same hb9
          have hbT9 := hbT8.below hb9 hz8
          have hB9 := hB8.trans (hb9.mono hB8.size)
          have h9p : (playL ys (stepL ys)).length ≤ 9 := by rw [playL_length]; exact hly9
          clear ho8 hbT8 hB8 hb9 hop8
          go_wp2_with (first | (refine wpList_store_tower rfl _ _ rfl w2.heap.size ys (playL ys (stepL ys)) hly9 h9p rfl rfl hbT9 ?_; intro w10 hbT10 hgr10))
          have ho10 := ho9.grown hgr10 (fun g hg e => by simp at e; have := hf8 g hg; omega)
          have hB10 := hB9.grown hgr10 hB9.size (fun k hk => by simp at hk; omega)
          clear ho9 hB9 hgr10 hbT9
          go_wp2
          go_roundg (gk - 1)
          case measure => omega
          case rel => exact ⟨playL ys (stepL ys), out ++ stepL ys, hbT10, ho10, hf8, HST.out, by rw [HLA.out]; omega, by rw [HLA.out]; omega, hB10⟩
        · have hfi : (40 : Int) < (out.length : Int) + (stepL ys).length := by omega
          have HF := Lib.hid (HFL.out (by omega))
          go_wp2
          go_ret2
          exact ⟨_, by rw [HO.out, HF.out]; rfl, by rw [HM.out, HF.out]; exact OwnI.nil _, From.nil _ _ _, hB7⟩
  | false =>
    have HM := Lib.hid (show mGapPlan xs = [] from if_neg (by rw [hg]; exact Bool.false_ne_true))
    have HO := Lib.hid (show okGapPlan xs = false by unfold okGapPlan; rw [hg]; rfl)
    go_enter Try.func36, Try.ntmps36
    go_wp2_with fail
    refine (IsStack_any _ _ _ hv hn).mono ?_
    rintro e w1 ⟨rfl, hb⟩
    go_wp2
    go_ret2
    exact ⟨_, by rw [HO.out]; rfl, by rw [HM.out]; exact OwnI.nil _, From.nil _ _ _, hb⟩

end Go.Proofs.Ytlhagdldmpnbfaa

