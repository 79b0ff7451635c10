import Derived.Test.YtmlikchhkblohaaWbX2
import Derived.Test.YtmlikchhkblohaaHS
namespace Go.Proofs.Ytmlikchhkblohaa
open Go Go.RowKit Go.Pan

set_option maxHeartbeats 1600000 in
theorem walk_FnExactWorstBurnt (x0 : Int) (w : World)  :
    Calls Try.prog 22 #[.int .i64 x0] w fun e w' => e = .returned (.bool true) ∧ Below w.heap.size w w' := by
  go_enter Try.func22, Try.ntmps22
  have hB0 : Below w.heap.size w w := Below.refl _ _
  go_wp2_with fail
  refine (sWorstBurnt_any _ _).mono ?_
  rintro e w1 ⟨w_0, q_w_0, rfl, ho_w_0, hb1_⟩
  have hB1 := hB0.trans (hb1_.mono hB0.size)
  have hs_w_0 : w.heap.size ≤ w.heap.size := hB0.size
  have hz1 : w.heap.size ≤ w1.heap.size := hb1_.size
  go_wp2_with fail
  refine (WorstBurnt_any _ _).mono ?_
  rintro e w2 ⟨g_0, q_g_0, rfl, ho_g_0, hb2_⟩
  replace ho_w_0 := SS.below ho_w_0 hb2_ (by omega)
  have hB2 := hB1.trans (hb2_.mono hB1.size)
  have hs_g_0 : w.heap.size ≤ w1.heap.size := hB1.size
  have hz2 : w1.heap.size ≤ w2.heap.size := hb2_.size
  go_wp2_with fail
  refine (eqIntSS_any _ _ _ _ _ _ _ _ _ _ ho_g_0 (by omega) ho_w_0 (by omega) (len_mWorstBurnt _) (rows_mWorstBurnt _)).mono ?_
  rintro e w3 ⟨rfl, hb3_⟩
  replace ho_w_0 := SS.below ho_w_0 hb3_ (by omega)
  replace ho_g_0 := SS.below ho_g_0 hb3_ (by omega)
  have hB3 := hB2.trans (hb3_.mono hB2.size)
  have hz3 : w2.heap.size ≤ w3.heap.size := hb3_.size
  go_wp2_with fail
  refine (markIntSS_any _ _ _ _ _ _ _ ho_g_0 (len_mWorstBurnt _) (rows_mWorstBurnt _) (tot_mWorstBurnt _) (by omega) (by omega) (by omega)).mono ?_
  rintro e w4 ⟨rfl, hn_g_0, hg4⟩
  replace ho_w_0 := SS.below ho_w_0 hg4 (by omega)
  replace ho_g_0 := hn_g_0
  clear hn_g_0
  have hB4 := hB3.trans (hg4.mono (by omega))
  have hz4 : w3.heap.size ≤ w4.heap.size := hg4.size
  go_wp2_with fail
  refine (heldIntSS_any _ _ _ _ _ _ _ ho_g_0 (by omega) (len_mWorstBurnt _) (rows_mWorstBurnt _) (tot_mWorstBurnt _) (by omega) (by omega)).mono ?_
  rintro e w5 ⟨rfl, hb5_⟩
  replace ho_w_0 := SS.below ho_w_0 hb5_ (by omega)
  replace ho_g_0 := SS.below ho_g_0 hb5_ (by omega)
  have hB5 := hB4.trans (hb5_.mono hB4.size)
  have hz5 : w4.heap.size ≤ w5.heap.size := hb5_.size
  go_wp2_with fail
  refine (WorstBurnt_any _ _).mono ?_
  rintro e w6 ⟨h_0, q_h_0, rfl, ho_h_0, hb6_⟩
  replace ho_w_0 := SS.below ho_w_0 hb6_ (by omega)
  replace ho_g_0 := SS.below ho_g_0 hb6_ (by omega)
  have hB6 := hB5.trans (hb6_.mono hB5.size)
  have hs_h_0 : w.heap.size ≤ w5.heap.size := hB5.size
  have hz6 : w5.heap.size ≤ w6.heap.size := hb6_.size
  go_wp2_with fail
  refine (eqIntSS_any _ _ _ _ _ _ _ _ _ _ ho_h_0 (by omega) ho_w_0 (by omega) (len_mWorstBurnt _) (rows_mWorstBurnt _)).mono ?_
  rintro e w7 ⟨rfl, hb7_⟩
  replace ho_w_0 := SS.below ho_w_0 hb7_ (by omega)
  replace ho_g_0 := SS.below ho_g_0 hb7_ (by omega)
  replace ho_h_0 := SS.below ho_h_0 hb7_ (by omega)
  have hB7 := hB6.trans (hb7_.mono hB6.size)
  have hz7 : w6.heap.size ≤ w7.heap.size := hb7_.size
  go_wp2_with fail
  refine (heldIntSS_any _ _ _ _ _ _ _ ho_g_0 (by omega) (len_mWorstBurnt _) (rows_mWorstBurnt _) (tot_mWorstBurnt _) (by omega) (by omega)).mono ?_
  rintro e w8 ⟨rfl, hb8_⟩
  replace ho_w_0 := SS.below ho_w_0 hb8_ (by omega)
  replace ho_g_0 := SS.below ho_g_0 hb8_ (by omega)
  replace ho_h_0 := SS.below ho_h_0 hb8_ (by omega)
  have hB8 := hB7.trans (hb8_.mono hB7.size)
  have hz8 : w7.heap.size ≤ w8.heap.size := hb8_.size
  go_wp2
  go_ret
  exact ⟨rfl, hB8⟩
end Go.Proofs.Ytmlikchhkblohaa
