import Derived.Test.YtlhagdldmpnbfaaPA
import Derived.Test.YtlhagdldmpnbfaaS24
namespace Go.Proofs.Ytlhagdldmpnbfaa
open Go Go.RowKit Go.Pan

set_option maxHeartbeats 1600000 in
theorem walk_FnExactGreedyExcess (a0 : Option Addr) (cap0 : Nat) (xs0 : List Int) (w : World) (hi0 : Ints w (.slice a0 xs0.length cap0) xs0) :
    Calls Try.prog 19 #[.slice a0 xs0.length cap0] w fun e w' => e = .returned (.bool true) ∧ Below w.heap.size w w' := by
  by_cases hb0 : xs0.length ≤ 1048576
  case neg =>
    go_enter Try.func19, Try.ntmps19
    go_wp2
    go_ret
    exact ⟨rfl, Below.refl _ _⟩
  go_enter Try.func19, Try.ntmps19
  have hB0 : Below w.heap.size w w := Below.refl _ _
  go_wp2_with fail
  refine (toIntS_any _ xs0 _ (hi0.below hB0 (Nat.le_refl _)) hb0).mono ?_
  rintro e w1 ⟨s_0, rfl, ho_s_0, hf_s_0, hb1_⟩
  have hB1 := hB0.trans (hb1_.mono hB0.size)
  have hl_s_0 := ho_s_0.lt
  have hs_s_0 : w.heap.size ≤ w.heap.size := hB0.size
  have hz1 : w.heap.size ≤ w1.heap.size := hb1_.size
  go_wp2_with fail
  refine (sGreedyExcess_any _ xs0 _ ho_s_0 hb0).mono ?_
  rintro e w2 ⟨rfl, hb2_⟩
  replace ho_s_0 := Own.same ho_s_0 hb2_
  have hB2 := hB1.trans (hb2_.mono hB1.size)
  have hz2 : w1.heap.size ≤ w2.heap.size := hb2_.size
  go_wp2_with fail
  refine (toIntS_any _ xs0 _ (hi0.below hB2 (Nat.le_refl _)) hb0).mono ?_
  rintro e w3 ⟨x_0, rfl, ho_x_0, hf_x_0, hb3_⟩
  have hB3 := hB2.trans (hb3_.mono hB2.size)
  have hl_x_0 := ho_x_0.lt
  have hs_x_0 : w.heap.size ≤ w2.heap.size := hB2.size
  have hz3 : w2.heap.size ≤ w3.heap.size := hb3_.size
  go_wp2_with fail
  refine (GreedyExcess_any _ xs0 _ ho_x_0 hb0).mono ?_
  rintro e w4 ⟨rfl, hb4_⟩
  replace ho_x_0 := Own.same ho_x_0 hb4_
  have hB4 := hB3.trans (hb4_.mono hB3.size)
  have hz4 : w3.heap.size ≤ w4.heap.size := hb4_.size
  go_wp2_with fail
  refine (toIntS_any _ xs0 _ (hi0.below hB4 (Nat.le_refl _)) hb0).mono ?_
  rintro e w5 ⟨y_0, rfl, ho_y_0, hf_y_0, hb5_⟩
  replace ho_x_0 := Own.same ho_x_0 hb5_
  have hB5 := hB4.trans (hb5_.mono hB4.size)
  have hl_y_0 := ho_y_0.lt
  have hs_y_0 : w.heap.size ≤ w4.heap.size := hB4.size
  have hz5 : w4.heap.size ≤ w5.heap.size := hb5_.size
  go_wp2_with fail
  refine (eqIntS_any _ _ _ _ _ (OwnI.ints ho_x_0) (OwnI.ints ho_y_0) hb0 hb0).mono ?_
  rintro e w6 ⟨rfl, hb6_⟩
  replace ho_x_0 := Own.same ho_x_0 hb6_
  replace ho_y_0 := Own.same ho_y_0 hb6_
  have hB6 := hB5.trans (hb6_.mono hB5.size)
  have hz6 : w5.heap.size ≤ w6.heap.size := hb6_.size
  go_wp2
  go_ret
  exact ⟨rfl, hB6⟩
end Go.Proofs.Ytlhagdldmpnbfaa
