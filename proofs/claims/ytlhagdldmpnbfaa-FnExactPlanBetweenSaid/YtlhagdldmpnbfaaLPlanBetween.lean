import Derived.Test.YtlhagdldmpnbfaaPB
import Derived.Test.YtlhagdldmpnbfaaSB
namespace Go.Proofs.Ytlhagdldmpnbfaa
open Go Go.RowKit Go.Pan

set_option maxHeartbeats 1600000 in
theorem walk_FnExactPlanBetween (a0 : Option Addr) (cap0 : Nat) (xs0 : List Int) (a1 : Option Addr) (cap1 : Nat) (xs1 : List Int) (w : World) (hi0 : Ints w (.slice a0 xs0.length cap0) xs0) (hi1 : Ints w (.slice a1 xs1.length cap1) xs1) :
    Calls Try.prog 17 #[.slice a0 xs0.length cap0, .slice a1 xs1.length cap1] w fun e w' => e = .returned (.bool true) ∧ Below w.heap.size w w' := by
  by_cases hb0 : xs0.length ≤ 1048576
  case neg =>
    go_enter Try.func17, Try.ntmps17
    go_wp2
    go_ret
    exact ⟨rfl, Below.refl _ _⟩
  by_cases hb1 : xs1.length ≤ 1048576
  case neg =>
    go_enter Try.func17, Try.ntmps17
    go_wp2
    go_ret
    exact ⟨rfl, Below.refl _ _⟩
  go_enter Try.func17, Try.ntmps17
  have hB0 : Below w.heap.size w w := Below.refl _ _
  go_wp2_with fail
  refine (toIntS_any _ xs0 _ (hi0.below hB0 (Nat.le_refl _)) hb0).mono ?_
  rintro e w1 ⟨s_0, rfl, ho_s_0, hf_s_0, hb1_⟩
  have hB1 := hB0.trans (hb1_.mono hB0.size)
  have hl_s_0 := ho_s_0.lt
  have hs_s_0 : w.heap.size ≤ w.heap.size := hB0.size
  have hz1 : w.heap.size ≤ w1.heap.size := hb1_.size
  go_wp2_with fail
  refine (toIntS_any _ xs1 _ (hi1.below hB1 (Nat.le_refl _)) hb1).mono ?_
  rintro e w2 ⟨s_1, rfl, ho_s_1, hf_s_1, hb2_⟩
  replace ho_s_0 := Own.same ho_s_0 hb2_
  have hB2 := hB1.trans (hb2_.mono hB1.size)
  have hl_s_1 := ho_s_1.lt
  have hs_s_1 : w.heap.size ≤ w1.heap.size := hB1.size
  have hz2 : w1.heap.size ≤ w2.heap.size := hb2_.size
  go_wp2_with fail
  refine (sPlanBetween_any _ xs0 _ xs1 _ ho_s_0 hb0 ho_s_1 hb1).mono ?_
  rintro e w3 ⟨w_0, rfl, ho_w_0, hf_w_0, hb3_⟩
  replace ho_s_0 := Own.same ho_s_0 hb3_
  replace ho_s_1 := Own.same ho_s_1 hb3_
  have hB3 := hB2.trans (hb3_.mono hB2.size)
  have hl_w_0 := ho_w_0.lt
  have hs_w_0 : w.heap.size ≤ w2.heap.size := hB2.size
  have hz3 : w2.heap.size ≤ w3.heap.size := hb3_.size
  go_wp2_with fail
  refine (toIntS_any _ xs0 _ (hi0.below hB3 (Nat.le_refl _)) hb0).mono ?_
  rintro e w4 ⟨x_0, rfl, ho_x_0, hf_x_0, hb4_⟩
  replace ho_w_0 := Own.same ho_w_0 hb4_
  have hB4 := hB3.trans (hb4_.mono hB3.size)
  have hl_x_0 := ho_x_0.lt
  have hs_x_0 : w.heap.size ≤ w3.heap.size := hB3.size
  have hz4 : w3.heap.size ≤ w4.heap.size := hb4_.size
  go_wp2_with fail
  refine (toIntS_any _ xs1 _ (hi1.below hB4 (Nat.le_refl _)) hb1).mono ?_
  rintro e w5 ⟨x_1, rfl, ho_x_1, hf_x_1, hb5_⟩
  replace ho_w_0 := Own.same ho_w_0 hb5_
  replace ho_x_0 := Own.same ho_x_0 hb5_
  have hB5 := hB4.trans (hb5_.mono hB4.size)
  have hl_x_1 := ho_x_1.lt
  have hs_x_1 : w.heap.size ≤ w4.heap.size := hB4.size
  have hz5 : w4.heap.size ≤ w5.heap.size := hb5_.size
  go_wp2_with fail
  refine (PlanBetween_any _ xs0 _ xs1 _ ho_x_0 hb0 ho_x_1 hb1).mono ?_
  rintro e w6 ⟨g_0, rfl, ho_g_0, hf_g_0, hb6_⟩
  replace ho_w_0 := Own.same ho_w_0 hb6_
  replace ho_x_0 := Own.same ho_x_0 hb6_
  replace ho_x_1 := Own.same ho_x_1 hb6_
  have hB6 := hB5.trans (hb6_.mono hB5.size)
  have hl_g_0 := ho_g_0.lt
  have hs_g_0 : w.heap.size ≤ w5.heap.size := hB5.size
  have hz6 : w5.heap.size ≤ w6.heap.size := hb6_.size
  go_wp2_with fail
  refine (eqIntS_any _ _ _ _ _ (OwnI.ints ho_g_0) (OwnI.ints ho_w_0) (len_mPlanBetween _ _) (len_mPlanBetween _ _)).mono ?_
  rintro e w7 ⟨rfl, hb7_⟩
  replace ho_w_0 := Own.same ho_w_0 hb7_
  replace ho_x_0 := Own.same ho_x_0 hb7_
  replace ho_x_1 := Own.same ho_x_1 hb7_
  replace ho_g_0 := Own.same ho_g_0 hb7_
  have hB7 := hB6.trans (hb7_.mono hB6.size)
  have hz7 : w6.heap.size ≤ w7.heap.size := hb7_.size
  go_wp2_with fail
  refine (toIntS_any _ xs0 _ (hi0.below hB7 (Nat.le_refl _)) hb0).mono ?_
  rintro e w8 ⟨y_0, rfl, ho_y_0, hf_y_0, hb8_⟩
  replace ho_w_0 := Own.same ho_w_0 hb8_
  replace ho_x_0 := Own.same ho_x_0 hb8_
  replace ho_x_1 := Own.same ho_x_1 hb8_
  replace ho_g_0 := Own.same ho_g_0 hb8_
  have hB8 := hB7.trans (hb8_.mono hB7.size)
  have hl_y_0 := ho_y_0.lt
  have hs_y_0 : w.heap.size ≤ w7.heap.size := hB7.size
  have hz8 : w7.heap.size ≤ w8.heap.size := hb8_.size
  go_wp2_with fail
  refine (eqIntS_any _ _ _ _ _ (OwnI.ints ho_x_0) (OwnI.ints ho_y_0) hb0 hb0).mono ?_
  rintro e w9 ⟨rfl, hb9_⟩
  replace ho_w_0 := Own.same ho_w_0 hb9_
  replace ho_x_0 := Own.same ho_x_0 hb9_
  replace ho_x_1 := Own.same ho_x_1 hb9_
  replace ho_g_0 := Own.same ho_g_0 hb9_
  replace ho_y_0 := Own.same ho_y_0 hb9_
  have hB9 := hB8.trans (hb9_.mono hB8.size)
  have hz9 : w8.heap.size ≤ w9.heap.size := hb9_.size
  go_wp2_with fail
  refine (toIntS_any _ xs1 _ (hi1.below hB9 (Nat.le_refl _)) hb1).mono ?_
  rintro e w10 ⟨y_1, rfl, ho_y_1, hf_y_1, hb10_⟩
  replace ho_w_0 := Own.same ho_w_0 hb10_
  replace ho_x_0 := Own.same ho_x_0 hb10_
  replace ho_x_1 := Own.same ho_x_1 hb10_
  replace ho_g_0 := Own.same ho_g_0 hb10_
  have hB10 := hB9.trans (hb10_.mono hB9.size)
  have hl_y_1 := ho_y_1.lt
  have hs_y_1 : w.heap.size ≤ w9.heap.size := hB9.size
  have hz10 : w9.heap.size ≤ w10.heap.size := hb10_.size
  go_wp2_with fail
  refine (eqIntS_any _ _ _ _ _ (OwnI.ints ho_x_1) (OwnI.ints ho_y_1) hb1 hb1).mono ?_
  rintro e w11 ⟨rfl, hb11_⟩
  replace ho_w_0 := Own.same ho_w_0 hb11_
  replace ho_x_0 := Own.same ho_x_0 hb11_
  replace ho_x_1 := Own.same ho_x_1 hb11_
  replace ho_g_0 := Own.same ho_g_0 hb11_
  replace ho_y_1 := Own.same ho_y_1 hb11_
  have hB11 := hB10.trans (hb11_.mono hB10.size)
  have hz11 : w10.heap.size ≤ w11.heap.size := hb11_.size
  go_wp2_with fail
  refine (markIntS_any _ _ _ _ _ ho_x_0 (by exact hb0) (by omega) (by omega)).mono ?_
  rintro e w12 ⟨rfl, hn_x_0, hg12⟩
  replace ho_w_0 := Own.grown ho_w_0 hg12 (apart_lt hl_w_0 (From.mono hf_x_0 (by omega)))
  replace ho_x_1 := Own.grown ho_x_1 hg12 (apart_gt (From.mono hf_x_1 (by omega)) hl_x_0)
  replace ho_g_0 := Own.grown ho_g_0 hg12 (apart_gt (From.mono hf_g_0 (by omega)) hl_x_0)
  replace ho_x_0 := hn_x_0
  clear hn_x_0
  have hB12 := hB11.grown hg12 hB11.size (fun k hk => From.mono hf_x_0 (by exact hs_x_0) k hk)
  have hz12 : w11.heap.size ≤ w12.heap.size := hg12.size
  go_wp2_with fail
  refine (markIntS_any _ _ _ _ _ ho_x_1 (by exact hb1) (by omega) (by omega)).mono ?_
  rintro e w13 ⟨rfl, hn_x_1, hg13⟩
  replace ho_w_0 := Own.grown ho_w_0 hg13 (apart_lt hl_w_0 (From.mono hf_x_1 (by omega)))
  replace ho_g_0 := Own.grown ho_g_0 hg13 (apart_gt (From.mono hf_g_0 (by omega)) hl_x_1)
  replace ho_x_1 := hn_x_1
  clear hn_x_1
  have hB13 := hB12.grown hg13 hB12.size (fun k hk => From.mono hf_x_1 (by exact hs_x_1) k hk)
  have hz13 : w12.heap.size ≤ w13.heap.size := hg13.size
  go_wp2_with fail
  refine (eqIntS_any _ _ _ _ _ (OwnI.ints ho_g_0) (OwnI.ints ho_w_0) (len_mPlanBetween _ _) (len_mPlanBetween _ _)).mono ?_
  rintro e w14 ⟨rfl, hb14_⟩
  replace ho_w_0 := Own.same ho_w_0 hb14_
  replace ho_g_0 := Own.same ho_g_0 hb14_
  have hB14 := hB13.trans (hb14_.mono hB13.size)
  have hz14 : w13.heap.size ≤ w14.heap.size := hb14_.size
  go_wp2_with fail
  refine (markIntS_any _ _ _ _ _ ho_g_0 (by exact (len_mPlanBetween _ _)) (by omega) (by omega)).mono ?_
  rintro e w15 ⟨rfl, hn_g_0, hg15⟩
  replace ho_w_0 := Own.grown ho_w_0 hg15 (apart_lt hl_w_0 (From.mono hf_g_0 (by omega)))
  replace ho_g_0 := hn_g_0
  clear hn_g_0
  have hB15 := hB14.grown hg15 hB14.size (fun k hk => From.mono hf_g_0 (by exact hs_g_0) k hk)
  have hz15 : w14.heap.size ≤ w15.heap.size := hg15.size
  go_wp2_with fail
  refine (heldIntS_any _ _ _ _ ho_g_0 (len_mPlanBetween _ _) (by omega) (by omega)).mono ?_
  rintro e w16 ⟨rfl, hb16_⟩
  replace ho_w_0 := Own.same ho_w_0 hb16_
  replace ho_g_0 := Own.same ho_g_0 hb16_
  have hB16 := hB15.trans (hb16_.mono hB15.size)
  have hz16 : w15.heap.size ≤ w16.heap.size := hb16_.size
  go_wp2_with fail
  refine (toIntS_any _ xs0 _ (hi0.below hB16 (Nat.le_refl _)) hb0).mono ?_
  rintro e w17 ⟨z_0, rfl, ho_z_0, hf_z_0, hb17_⟩
  replace ho_w_0 := Own.same ho_w_0 hb17_
  replace ho_g_0 := Own.same ho_g_0 hb17_
  have hB17 := hB16.trans (hb17_.mono hB16.size)
  have hl_z_0 := ho_z_0.lt
  have hs_z_0 : w.heap.size ≤ w16.heap.size := hB16.size
  have hz17 : w16.heap.size ≤ w17.heap.size := hb17_.size
  go_wp2_with fail
  refine (toIntS_any _ xs1 _ (hi1.below hB17 (Nat.le_refl _)) hb1).mono ?_
  rintro e w18 ⟨z_1, rfl, ho_z_1, hf_z_1, hb18_⟩
  replace ho_w_0 := Own.same ho_w_0 hb18_
  replace ho_g_0 := Own.same ho_g_0 hb18_
  replace ho_z_0 := Own.same ho_z_0 hb18_
  have hB18 := hB17.trans (hb18_.mono hB17.size)
  have hl_z_1 := ho_z_1.lt
  have hs_z_1 : w.heap.size ≤ w17.heap.size := hB17.size
  have hz18 : w17.heap.size ≤ w18.heap.size := hb18_.size
  go_wp2_with fail
  refine (PlanBetween_any _ xs0 _ xs1 _ ho_z_0 hb0 ho_z_1 hb1).mono ?_
  rintro e w19 ⟨h_0, rfl, ho_h_0, hf_h_0, hb19_⟩
  replace ho_w_0 := Own.same ho_w_0 hb19_
  replace ho_g_0 := Own.same ho_g_0 hb19_
  replace ho_z_0 := Own.same ho_z_0 hb19_
  replace ho_z_1 := Own.same ho_z_1 hb19_
  have hB19 := hB18.trans (hb19_.mono hB18.size)
  have hl_h_0 := ho_h_0.lt
  have hs_h_0 : w.heap.size ≤ w18.heap.size := hB18.size
  have hz19 : w18.heap.size ≤ w19.heap.size := hb19_.size
  go_wp2_with fail
  refine (eqIntS_any _ _ _ _ _ (OwnI.ints ho_h_0) (OwnI.ints ho_w_0) (len_mPlanBetween _ _) (len_mPlanBetween _ _)).mono ?_
  rintro e w20 ⟨rfl, hb20_⟩
  replace ho_w_0 := Own.same ho_w_0 hb20_
  replace ho_g_0 := Own.same ho_g_0 hb20_
  replace ho_h_0 := Own.same ho_h_0 hb20_
  have hB20 := hB19.trans (hb20_.mono hB19.size)
  have hz20 : w19.heap.size ≤ w20.heap.size := hb20_.size
  go_wp2_with fail
  refine (heldIntS_any _ _ _ _ ho_g_0 (len_mPlanBetween _ _) (by omega) (by omega)).mono ?_
  rintro e w21 ⟨rfl, hb21_⟩
  replace ho_w_0 := Own.same ho_w_0 hb21_
  replace ho_g_0 := Own.same ho_g_0 hb21_
  replace ho_h_0 := Own.same ho_h_0 hb21_
  have hB21 := hB20.trans (hb21_.mono hB20.size)
  have hz21 : w20.heap.size ≤ w21.heap.size := hb21_.size
  go_wp2
  go_ret
  exact ⟨rfl, hB21⟩
end Go.Proofs.Ytlhagdldmpnbfaa
