import Derived.Test.YtlhagdldmpnbfaaPCx
namespace Go.Proofs.Ytlhagdldmpnbfaa
open Go Go.RowKit Go.Pan

set_option maxHeartbeats 1600000 in
theorem walk_FnExactWorstDistance (x0 : Int) (w : World)  :
    Calls Try.prog 15 #[.int .i64 x0] w fun e w' => e = .returned (.bool true) ∧ Below w.heap.size w w' := by
  go_enter Try.func15, Try.ntmps15
  have hB0 : Below w.heap.size w w := Below.refl _ _
  go_wp2_with fail
  refine (sWorstDistance_any _ _).mono ?_
  rintro e w1 ⟨rfl, hb1_⟩
  have hB1 := hB0.trans (hb1_.mono hB0.size)
  have hz1 : w.heap.size ≤ w1.heap.size := hb1_.size
  go_wp2_with fail
  refine (WorstDistance_any _ _).mono ?_
  rintro e w2 ⟨rfl, hb2_⟩
  have hB2 := hB1.trans (hb2_.mono hB1.size)
  have hz2 : w1.heap.size ≤ w2.heap.size := hb2_.size
  go_wp2
  go_ret
  exact ⟨rfl, hB2⟩
end Go.Proofs.Ytlhagdldmpnbfaa
