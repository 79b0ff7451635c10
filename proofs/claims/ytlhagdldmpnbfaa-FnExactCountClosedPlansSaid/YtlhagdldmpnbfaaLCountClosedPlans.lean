import Derived.Test.YtlhagdldmpnbfaaPDx
namespace Go.Proofs.Ytlhagdldmpnbfaa
open Go Go.RowKit Go.Pan

set_option maxHeartbeats 1600000 in
theorem walk_FnExactCountClosedPlans (x0 : Int) (x1 : Int) (w : World)  :
    Calls Try.prog 21 #[.int .i64 x0, .int .i64 x1] w fun e w' => e = .returned (.bool true) ∧ Below w.heap.size w w' := by
  go_enter Try.func21, Try.ntmps21
  have hB0 : Below w.heap.size w w := Below.refl _ _
  go_wp2_with fail
  refine (sCountClosedPlans_any _ _ _).mono ?_
  rintro e w1 ⟨rfl, hb1_⟩
  have hB1 := hB0.trans (hb1_.mono hB0.size)
  have hz1 : w.heap.size ≤ w1.heap.size := hb1_.size
  go_wp2_with fail
  refine (CountClosedPlans_any _ _ _).mono ?_
  rintro e w2 ⟨rfl, hb2_⟩
  have hB2 := hB1.trans (hb2_.mono hB1.size)
  have hz2 : w1.heap.size ≤ w2.heap.size := hb2_.size
  go_wp2
  go_ret
  exact ⟨rfl, hB2⟩
end Go.Proofs.Ytlhagdldmpnbfaa
