import Derived.Test.YtfcbaegkppkfkaaRwO
import Derived.Test.YtfcbaegkppkfkaaHS
namespace Go.Proofs.Ytfcbaegkppkfkaa
open Go Go.RowKit Go.Pan

set_option maxHeartbeats 1600000 in
theorem walk_FnExactShapeOf (a0 : Option Addr) (cap0 : Nat) (xs0 : List Int) (w : World) (hi0 : Ints w (.slice a0 xs0.length cap0) xs0) :
    Calls Try.prog 6 #[.slice a0 xs0.length cap0] w fun e w' => e = .returned (.bool true) ∧ Below w.heap.size w w' := by
  by_cases hb0 : xs0.length ≤ 1048576
  case neg =>
    go_enter Try.func6, Try.ntmps6
    go_wp2
    go_ret
    exact ⟨rfl, Below.refl _ _⟩
  go_enter Try.func6, Try.ntmps6
  have hB0 : Below w.heap.size w w := Below.refl _ _
  go_wp2_with fail
  refine (toIntS_any _ xs0 _ (hi0.below hB0 (Nat.le_refl _)) hb0).mono ?_
  rintro e w1 ⟨s_0, rfl, ho_s_0, hf_s_0, hb1_⟩
  have hB1 := hB0.trans (hb1_.mono hB0.size)
  have hl_s_0 := ho_s_0.lt
  have hs_s_0 : w.heap.size ≤ w.heap.size := hB0.size
  have hz1 : w.heap.size ≤ w1.heap.size := hb1_.size
  go_wp2_with fail
  refine (sShapeOf_any _ xs0 _ ho_s_0 hb0).mono ?_
  rintro e w2 ⟨w_0, rfl, ho_w_0, hf_w_0, hb2_⟩
  replace ho_s_0 := Own.same ho_s_0 hb2_
  have hB2 := hB1.trans (hb2_.mono hB1.size)
  have hl_w_0 := ho_w_0.lt
  have hs_w_0 : w.heap.size ≤ w1.heap.size := hB1.size
  have hz2 : w1.heap.size ≤ w2.heap.size := hb2_.size
  go_wp2_with fail
  refine (toIntS_any _ xs0 _ (hi0.below hB2 (Nat.le_refl _)) hb0).mono ?_
  rintro e w3 ⟨x_0, rfl, ho_x_0, hf_x_0, hb3_⟩
  replace ho_w_0 := Own.same ho_w_0 hb3_
  have hB3 := hB2.trans (hb3_.mono hB2.size)
  have hl_x_0 := ho_x_0.lt
  have hs_x_0 : w.heap.size ≤ w2.heap.size := hB2.size
  have hz3 : w2.heap.size ≤ w3.heap.size := hb3_.size
  go_wp2_with fail
  refine (ShapeOf_any _ xs0 _ ho_x_0 hb0).mono ?_
  rintro e w4 ⟨g_0, rfl, ho_g_0, hf_g_0, hb4_⟩
  replace ho_w_0 := Own.same ho_w_0 hb4_
  replace ho_x_0 := Own.same ho_x_0 hb4_
  have hB4 := hB3.trans (hb4_.mono hB3.size)
  have hl_g_0 := ho_g_0.lt
  have hs_g_0 : w.heap.size ≤ w3.heap.size := hB3.size
  have hz4 : w3.heap.size ≤ w4.heap.size := hb4_.size
  go_wp2_with fail
  refine (eqIntS_any _ _ _ _ _ (OwnI.ints ho_g_0) (OwnI.ints ho_w_0) (len_mShapeOf _) (len_mShapeOf _)).mono ?_
  rintro e w5 ⟨rfl, hb5_⟩
  replace ho_w_0 := Own.same ho_w_0 hb5_
  replace ho_x_0 := Own.same ho_x_0 hb5_
  replace ho_g_0 := Own.same ho_g_0 hb5_
  have hB5 := hB4.trans (hb5_.mono hB4.size)
  have hz5 : w4.heap.size ≤ w5.heap.size := hb5_.size
  go_wp2_with fail
  refine (toIntS_any _ xs0 _ (hi0.below hB5 (Nat.le_refl _)) hb0).mono ?_
  rintro e w6 ⟨y_0, rfl, ho_y_0, hf_y_0, hb6_⟩
  replace ho_w_0 := Own.same ho_w_0 hb6_
  replace ho_x_0 := Own.same ho_x_0 hb6_
  replace ho_g_0 := Own.same ho_g_0 hb6_
  have hB6 := hB5.trans (hb6_.mono hB5.size)
  have hl_y_0 := ho_y_0.lt
  have hs_y_0 : w.heap.size ≤ w5.heap.size := hB5.size
  have hz6 : w5.heap.size ≤ w6.heap.size := hb6_.size
  go_wp2_with fail
  refine (eqIntS_any _ _ _ _ _ (OwnI.ints ho_x_0) (OwnI.ints ho_y_0) hb0 hb0).mono ?_
  rintro e w7 ⟨rfl, hb7_⟩
  replace ho_w_0 := Own.same ho_w_0 hb7_
  replace ho_x_0 := Own.same ho_x_0 hb7_
  replace ho_g_0 := Own.same ho_g_0 hb7_
  replace ho_y_0 := Own.same ho_y_0 hb7_
  have hB7 := hB6.trans (hb7_.mono hB6.size)
  have hz7 : w6.heap.size ≤ w7.heap.size := hb7_.size
  go_wp2_with fail
  refine (markIntS_any _ _ _ _ _ ho_x_0 (by exact hb0) (by omega) (by omega)).mono ?_
  rintro e w8 ⟨rfl, hn_x_0, hg8⟩
  replace ho_w_0 := Own.grown ho_w_0 hg8 (apart_lt hl_w_0 (From.mono hf_x_0 (by omega)))
  replace ho_g_0 := Own.grown ho_g_0 hg8 (apart_gt (From.mono hf_g_0 (by omega)) hl_x_0)
  replace ho_x_0 := hn_x_0
  clear hn_x_0
  have hB8 := hB7.grown hg8 hB7.size (fun k hk => From.mono hf_x_0 (by exact hs_x_0) k hk)
  have hz8 : w7.heap.size ≤ w8.heap.size := hg8.size
  go_wp2_with fail
  refine (eqIntS_any _ _ _ _ _ (OwnI.ints ho_g_0) (OwnI.ints ho_w_0) (len_mShapeOf _) (len_mShapeOf _)).mono ?_
  rintro e w9 ⟨rfl, hb9_⟩
  replace ho_w_0 := Own.same ho_w_0 hb9_
  replace ho_g_0 := Own.same ho_g_0 hb9_
  have hB9 := hB8.trans (hb9_.mono hB8.size)
  have hz9 : w8.heap.size ≤ w9.heap.size := hb9_.size
  go_wp2_with fail
  refine (markIntS_any _ _ _ _ _ ho_g_0 (by exact (len_mShapeOf _)) (by omega) (by omega)).mono ?_
  rintro e w10 ⟨rfl, hn_g_0, hg10⟩
  replace ho_w_0 := Own.grown ho_w_0 hg10 (apart_lt hl_w_0 (From.mono hf_g_0 (by omega)))
  replace ho_g_0 := hn_g_0
  clear hn_g_0
  have hB10 := hB9.grown hg10 hB9.size (fun k hk => From.mono hf_g_0 (by exact hs_g_0) k hk)
  have hz10 : w9.heap.size ≤ w10.heap.size := hg10.size
  go_wp2_with fail
  refine (heldIntS_any _ _ _ _ ho_g_0 (len_mShapeOf _) (by omega) (by omega)).mono ?_
  rintro e w11 ⟨rfl, hb11_⟩
  replace ho_w_0 := Own.same ho_w_0 hb11_
  replace ho_g_0 := Own.same ho_g_0 hb11_
  have hB11 := hB10.trans (hb11_.mono hB10.size)
  have hz11 : w10.heap.size ≤ w11.heap.size := hb11_.size
  go_wp2_with fail
  refine (toIntS_any _ xs0 _ (hi0.below hB11 (Nat.le_refl _)) hb0).mono ?_
  rintro e w12 ⟨z_0, rfl, ho_z_0, hf_z_0, hb12_⟩
  replace ho_w_0 := Own.same ho_w_0 hb12_
  replace ho_g_0 := Own.same ho_g_0 hb12_
  have hB12 := hB11.trans (hb12_.mono hB11.size)
  have hl_z_0 := ho_z_0.lt
  have hs_z_0 : w.heap.size ≤ w11.heap.size := hB11.size
  have hz12 : w11.heap.size ≤ w12.heap.size := hb12_.size
  go_wp2_with fail
  refine (ShapeOf_any _ xs0 _ ho_z_0 hb0).mono ?_
  rintro e w13 ⟨h_0, rfl, ho_h_0, hf_h_0, hb13_⟩
  replace ho_w_0 := Own.same ho_w_0 hb13_
  replace ho_g_0 := Own.same ho_g_0 hb13_
  replace ho_z_0 := Own.same ho_z_0 hb13_
  have hB13 := hB12.trans (hb13_.mono hB12.size)
  have hl_h_0 := ho_h_0.lt
  have hs_h_0 : w.heap.size ≤ w12.heap.size := hB12.size
  have hz13 : w12.heap.size ≤ w13.heap.size := hb13_.size
  go_wp2_with fail
  refine (eqIntS_any _ _ _ _ _ (OwnI.ints ho_h_0) (OwnI.ints ho_w_0) (len_mShapeOf _) (len_mShapeOf _)).mono ?_
  rintro e w14 ⟨rfl, hb14_⟩
  replace ho_w_0 := Own.same ho_w_0 hb14_
  replace ho_g_0 := Own.same ho_g_0 hb14_
  replace ho_h_0 := Own.same ho_h_0 hb14_
  have hB14 := hB13.trans (hb14_.mono hB13.size)
  have hz14 : w13.heap.size ≤ w14.heap.size := hb14_.size
  go_wp2_with fail
  refine (heldIntS_any _ _ _ _ ho_g_0 (len_mShapeOf _) (by omega) (by omega)).mono ?_
  rintro e w15 ⟨rfl, hb15_⟩
  replace ho_w_0 := Own.same ho_w_0 hb15_
  replace ho_g_0 := Own.same ho_g_0 hb15_
  replace ho_h_0 := Own.same ho_h_0 hb15_
  have hB15 := hB14.trans (hb15_.mono hB14.size)
  have hz15 : w14.heap.size ≤ w15.heap.size := hb15_.size
  go_wp2
  go_ret
  exact ⟨rfl, hB15⟩
end Go.Proofs.Ytfcbaegkppkfkaa
