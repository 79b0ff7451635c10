import Derived.Test.YtkeenoklghkonaaV16
import Derived.Test.YtkeenoklghkonaaTEx
namespace Go.Proofs.Ytkeenoklghkonaa
open Go Go.RowKit Go.Pan

set_option maxRecDepth 100000 in
set_option maxHeartbeats 1600000 in
theorem walk_FnExactIsExchange (x0 : Int) (x1 : Int × Int × Int × Int) (w : World)  :
    Calls Try.prog 16 #[.int .i64 x0, .agg #[.int .i64 x1.1, .int .i64 x1.2.1, .int .i64 x1.2.2.1, .int .i64 x1.2.2.2]] w fun e w' => e = .returned (.bool true) ∧ Below w.heap.size w w' := by
  obtain ⟨w0, hw0⟩ : ∃ x, w.alloc (.cells #[.int .i64 x1.1, .int .i64 x1.2.1, .int .i64 x1.2.2.1, .int .i64 x1.2.2.2] 61) = x := ⟨_, rfl⟩
  have hZ : Blk w0 w.heap.size 61 [.int .i64 x1.1, .int .i64 x1.2.1, .int .i64 x1.2.2.1, .int .i64 x1.2.2.2] := by rw [← hw0]; exact Blk.new w _ _ _ rfl
  have hB0 : Below w.heap.size w w0 := by rw [← hw0]; exact below_new w _
  have hz0 := hZ.lt
  have HW0 := Lib.hid hw0
  clear hw0
  go_enter Try.func16, Try.ntmps16
  go_wp2_with fail
  rw [HW0.out]
  refine (toExchange_any x1 _).mono ?_
  rintro e w1 ⟨rfl, hb1_⟩
  replace hZ := hZ.below hb1_ hZ.lt
  have hB1 := hB0.trans (hb1_.mono hB0.size)
  have hz1 : w0.heap.size ≤ w1.heap.size := hb1_.size
  go_wp2_with fail
  refine (sIsExchange_any _ x1 _).mono ?_
  rintro e w2 ⟨rfl, hb2_⟩
  replace hZ := hZ.below hb2_ hZ.lt
  have hB2 := hB1.trans (hb2_.mono hB1.size)
  have hz2 : w1.heap.size ≤ w2.heap.size := hb2_.size
  have hk_0 : w2.cell? ⟨w.heap.size, 0, none⟩ = some (.int .i64 x1.1) := hZ.cell 0
  have hk_1 : w2.cell? ⟨w.heap.size, 1, none⟩ = some (.int .i64 x1.2.1) := hZ.cell 1
  have hk_2 : w2.cell? ⟨w.heap.size, 2, none⟩ = some (.int .i64 x1.2.2.1) := hZ.cell 2
  have hk_3 : w2.cell? ⟨w.heap.size, 3, none⟩ = some (.int .i64 x1.2.2.2) := hZ.cell 3
  go_wp2_with fail
  clear hk_0 hk_1 hk_2 hk_3
  refine (toExchange_any x1 _).mono ?_
  rintro e w3 ⟨rfl, hb3_⟩
  replace hZ := hZ.below hb3_ hZ.lt
  have hB3 := hB2.trans (hb3_.mono hB2.size)
  have hz3 : w2.heap.size ≤ w3.heap.size := hb3_.size
  go_wp2_with fail
  refine (IsExchange_any _ x1 _).mono ?_
  rintro e w4 ⟨rfl, hb4_⟩
  replace hZ := hZ.below hb4_ hZ.lt
  have hB4 := hB3.trans (hb4_.mono hB3.size)
  have hz4 : w3.heap.size ≤ w4.heap.size := hb4_.size
  go_wp2
  go_ret
  exact ⟨rfl, hB4⟩
end Go.Proofs.Ytkeenoklghkonaa
