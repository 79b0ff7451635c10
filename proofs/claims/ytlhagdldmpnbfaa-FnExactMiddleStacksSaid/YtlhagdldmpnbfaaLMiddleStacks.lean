import Derived.Test.YtlhagdldmpnbfaaPCx
namespace Go.Proofs.Ytlhagdldmpnbfaa
open Go Go.RowKit Go.Pan

set_option maxHeartbeats 1600000 in
theorem walk_FnExactMiddleStacks (a0 : Option Addr) (cap0 : Nat) (xs0 : List Int) (a1 : Option Addr) (cap1 : Nat) (xs1 : List Int) (w : World) (hi0 : Ints w (.slice a0 xs0.length cap0) xs0) (hi1 : Ints w (.slice a1 xs1.length cap1) xs1) :
    Calls Try.prog 22 #[.slice a0 xs0.length cap0, .slice a1 xs1.length cap1] w fun e w' => e = .returned (.bool true) ∧ Below w.heap.size w w' := by
  by_cases hb0 : xs0.length ≤ 1048576
  case neg =>
    go_enter Try.func22, Try.ntmps22
    go_wp2
    go_ret
    exact ⟨rfl, Below.refl _ _⟩
  by_cases hb1 : xs1.length ≤ 1048576
  case neg =>
    go_enter Try.func22, Try.ntmps22
    go_wp2
    go_ret
    exact ⟨rfl, Below.refl _ _⟩
  go_enter Try.func22, Try.ntmps22
  have hB0 : Below w.heap.size w w := Below.refl _ _
  go_wp2_with fail
  refine (toIntS_any _ xs0 _ (hi0.below hB0 (Nat.le_refl _)) hb0).mono ?_
  rintro e w1 ⟨s_0, rfl, ho_s_0, hf_s_0, hb1_⟩
  have hB1 := hB0.trans (hb1_.mono hB0.size)
  have hl_s_0 := ho_s_0.lt
  have hs_s_0 : w.heap.size ≤ w.heap.size := hB0.size
  have hz1 : w.heap.size ≤ w1.heap.size := hb1_.size
  go_wp2_with fail
  refine (toIntS_any _ xs1 _ (hi1.below hB1 (Nat.le_refl _)) hb1).mono ?_
  rintro e w2 ⟨s_1, rfl, ho_s_1, hf_s_1, hb2_⟩
  replace ho_s_0 := Own.same ho_s_0 hb2_
  have hB2 := hB1.trans (hb2_.mono hB1.size)
  have hl_s_1 := ho_s_1.lt
  have hs_s_1 : w.heap.size ≤ w1.heap.size := hB1.size
  have hz2 : w1.heap.size ≤ w2.heap.size := hb2_.size
  go_wp2_with fail
  refine (sMiddleStacks_any _ xs0 _ xs1 _ ho_s_0 hb0 ho_s_1 hb1).mono ?_
  rintro e w3 ⟨rfl, hb3_⟩
  replace ho_s_0 := Own.same ho_s_0 hb3_
  replace ho_s_1 := Own.same ho_s_1 hb3_
  have hB3 := hB2.trans (hb3_.mono hB2.size)
  have hz3 : w2.heap.size ≤ w3.heap.size := hb3_.size
  go_wp2_with fail
  refine (toIntS_any _ xs0 _ (hi0.below hB3 (Nat.le_refl _)) hb0).mono ?_
  rintro e w4 ⟨x_0, rfl, ho_x_0, hf_x_0, hb4_⟩
  have hB4 := hB3.trans (hb4_.mono hB3.size)
  have hl_x_0 := ho_x_0.lt
  have hs_x_0 : w.heap.size ≤ w3.heap.size := hB3.size
  have hz4 : w3.heap.size ≤ w4.heap.size := hb4_.size
  go_wp2_with fail
  refine (toIntS_any _ xs1 _ (hi1.below hB4 (Nat.le_refl _)) hb1).mono ?_
  rintro e w5 ⟨x_1, rfl, ho_x_1, hf_x_1, hb5_⟩
  replace ho_x_0 := Own.same ho_x_0 hb5_
  have hB5 := hB4.trans (hb5_.mono hB4.size)
  have hl_x_1 := ho_x_1.lt
  have hs_x_1 : w.heap.size ≤ w4.heap.size := hB4.size
  have hz5 : w4.heap.size ≤ w5.heap.size := hb5_.size
  go_wp2_with fail
  refine (MiddleStacks_any _ xs0 _ xs1 _ ho_x_0 hb0 ho_x_1 hb1).mono ?_
  rintro e w6 ⟨rfl, hb6_⟩
  replace ho_x_0 := Own.same ho_x_0 hb6_
  replace ho_x_1 := Own.same ho_x_1 hb6_
  have hB6 := hB5.trans (hb6_.mono hB5.size)
  have hz6 : w5.heap.size ≤ w6.heap.size := hb6_.size
  go_wp2_with fail
  refine (toIntS_any _ xs0 _ (hi0.below hB6 (Nat.le_refl _)) hb0).mono ?_
  rintro e w7 ⟨y_0, rfl, ho_y_0, hf_y_0, hb7_⟩
  replace ho_x_0 := Own.same ho_x_0 hb7_
  replace ho_x_1 := Own.same ho_x_1 hb7_
  have hB7 := hB6.trans (hb7_.mono hB6.size)
  have hl_y_0 := ho_y_0.lt
  have hs_y_0 : w.heap.size ≤ w6.heap.size := hB6.size
  have hz7 : w6.heap.size ≤ w7.heap.size := hb7_.size
  go_wp2_with fail
  refine (eqIntS_any _ _ _ _ _ (OwnI.ints ho_x_0) (OwnI.ints ho_y_0) hb0 hb0).mono ?_
  rintro e w8 ⟨rfl, hb8_⟩
  replace ho_x_0 := Own.same ho_x_0 hb8_
  replace ho_x_1 := Own.same ho_x_1 hb8_
  replace ho_y_0 := Own.same ho_y_0 hb8_
  have hB8 := hB7.trans (hb8_.mono hB7.size)
  have hz8 : w7.heap.size ≤ w8.heap.size := hb8_.size
  go_wp2_with fail
  refine (toIntS_any _ xs1 _ (hi1.below hB8 (Nat.le_refl _)) hb1).mono ?_
  rintro e w9 ⟨y_1, rfl, ho_y_1, hf_y_1, hb9_⟩
  replace ho_x_0 := Own.same ho_x_0 hb9_
  replace ho_x_1 := Own.same ho_x_1 hb9_
  have hB9 := hB8.trans (hb9_.mono hB8.size)
  have hl_y_1 := ho_y_1.lt
  have hs_y_1 : w.heap.size ≤ w8.heap.size := hB8.size
  have hz9 : w8.heap.size ≤ w9.heap.size := hb9_.size
  go_wp2_with fail
  refine (eqIntS_any _ _ _ _ _ (OwnI.ints ho_x_1) (OwnI.ints ho_y_1) hb1 hb1).mono ?_
  rintro e w10 ⟨rfl, hb10_⟩
  replace ho_x_0 := Own.same ho_x_0 hb10_
  replace ho_x_1 := Own.same ho_x_1 hb10_
  replace ho_y_1 := Own.same ho_y_1 hb10_
  have hB10 := hB9.trans (hb10_.mono hB9.size)
  have hz10 : w9.heap.size ≤ w10.heap.size := hb10_.size
  go_wp2
  go_ret
  exact ⟨rfl, hB10⟩
end Go.Proofs.Ytlhagdldmpnbfaa
