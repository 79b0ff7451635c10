import Derived.Test.YtfbadpabefdleabFb
namespace Go.Proofs.Ytfbadpabefdleab
open Go Go.RowKit Go.Pan

set_option maxRecDepth 100000 in
set_option maxHeartbeats 1600000 in
theorem walk_FnExactIsFallingStrip (a0 : Option Addr) (cap0 : Nat) (xs0 : List Int) (x1 : Int × Int) (w : World) (hi0 : Ints w (.slice a0 xs0.length cap0) xs0) :
    Calls Try.prog 3 #[.slice a0 xs0.length cap0, .agg #[.int .i64 x1.1, .int .i64 x1.2]] w fun e w' => e = .returned (.bool true) ∧ Below w.heap.size w w' := by
  by_cases hb0 : xs0.length ≤ 1048576
  case neg =>
    go_enter Try.func3, Try.ntmps3
    go_wp2
    go_ret
    exact ⟨rfl, below_new w _⟩
  obtain ⟨w0, hw0⟩ : ∃ x, w.alloc (.cells #[.int .i64 x1.1, .int .i64 x1.2] 24) = x := ⟨_, rfl⟩
  have hZ : Blk w0 w.heap.size 24 [.int .i64 x1.1, .int .i64 x1.2] := by rw [← hw0]; exact Blk.new w _ _ _ rfl
  have hB0 : Below w.heap.size w w0 := by rw [← hw0]; exact below_new w _
  have hz0 := hZ.lt
  have HW0 := Lib.hid hw0
  clear hw0
  go_enter Try.func3, Try.ntmps3
  go_wp2_with fail
  rw [HW0.out]
  have hut := Try.underlying24
  have hsz : (Try.prog.info? 24).map (·.size) = some ([.int .i64 x1.1, .int .i64 x1.2] : List Value).length := infoSegmentW
  refine wp_region_held_drew (S := fun w' => w'.rangeAt w.heap.size 0 [.int .i64 x1.1, .int .i64 x1.2]) (by kernel_rfl) hZ.range (fun hHeld => ?_)
  obtain ⟨w1, hwd1⟩ : ∃ x, w0.drew = x := ⟨_, rfl⟩
  have hb1_ : Below w0.heap.size w0 w1 := by rw [← hwd1]; exact (Below.refl _ _).drew
  rw [hwd1] at hHeld ⊢
  clear hwd1
  replace hZ := hZ.below hb1_ hZ.lt
  have hB1 := hB0.trans (hb1_.mono hB0.size)
  have hz1 : w0.heap.size ≤ w1.heap.size := hb1_.size
  refine wpAnyH_take (i := 0) (v := ?_) rfl (by kernel_rfl) (by kernel_rfl) (by kernel_rfl) (fun _ _ _ h => h) (Or.inl ⟨by rfl, ?_⟩) (by assumption) ?_
  rotate_left
  · intro w _; go_simp; with_reducible rfl
  try simp only [List.getElem_toArray, List.getElem_cons_zero, List.getElem_cons_succ, Act.put, List.setIfInBounds_toArray, List.set_cons_zero, List.set_cons_succ]
  refine wpAnyH_take (i := 2) rfl (by kernel_rfl) (by kernel_rfl) (by kernel_rfl) (fun _ _ _ h => h) (yieldsIf_load_mid (by rfl) _ _ rfl _ _ rfl _ _ (fun w hw => hw) hut rfl hsz) (by assumption) ?_
  try simp only [List.getElem_toArray, List.getElem_cons_zero, List.getElem_cons_succ, Act.put, List.setIfInBounds_toArray, List.set_cons_zero, List.set_cons_succ]
  refine wpAnyH_ready (rs := [1]) (by kernel_rfl) (by simp) ?_
  refine AllReadyH.cons rfl (fun K hK => ?_) AllReadyH.nil
  go_simp
  refine (toIntS_any _ xs0 _ (hi0.below hB1 (Nat.le_refl _)) hb0).mono ?_
  rintro e w2 ⟨s_0, rfl, ho_s_0, hf_s_0, hb2_⟩
  go_wp2_with fail
  refine hK.out _ _ (range_below hHeld hb2_ (by omega)) (fun hHeld => ?_)
  clear hK K
  try simp only [List.getElem_toArray, List.getElem_cons_zero, List.getElem_cons_succ, Act.put, List.setIfInBounds_toArray, List.set_cons_zero, List.set_cons_succ]
  replace hZ := hZ.below hb2_ hZ.lt
  have hB2 := hB1.trans (hb2_.mono hB1.size)
  have hl_s_0 := ho_s_0.lt
  have hs_s_0 : w.heap.size ≤ w1.heap.size := hB1.size
  have hz2 : w1.heap.size ≤ w2.heap.size := hb2_.size
  refine wpAnyH_ready (rs := [3]) (by kernel_rfl) (by simp) ?_
  refine AllReadyH.cons rfl (fun K hK => ?_) AllReadyH.nil
  go_simp
  refine (toSegment_any x1 _).mono ?_
  rintro e w3 ⟨rfl, hb3_⟩
  go_wp2_with fail
  refine hK.out _ _ (range_below hHeld hb3_ (by omega)) (fun hHeld => ?_)
  clear hK K
  try simp only [List.getElem_toArray, List.getElem_cons_zero, List.getElem_cons_succ, Act.put, List.setIfInBounds_toArray, List.set_cons_zero, List.set_cons_succ]
  replace ho_s_0 := Own.same ho_s_0 hb3_
  replace hZ := hZ.below hb3_ hZ.lt
  have hB3 := hB2.trans (hb3_.mono hB2.size)
  have hz3 : w2.heap.size ≤ w3.heap.size := hb3_.size
  refine wpAnyH_ready (rs := [4]) (by kernel_rfl) (by simp) ?_
  refine AllReadyH.cons rfl (fun K hK => ?_) AllReadyH.nil
  go_simp
  refine (sIsFallingStrip_any _ xs0 x1 _ ho_s_0 hb0).mono ?_
  rintro e w4 ⟨rfl, hb4_⟩
  go_wp2_with fail
  refine hK.out _ _ (range_below hHeld hb4_ (by omega)) (fun hHeld => ?_)
  clear hK K
  try simp only [List.getElem_toArray, List.getElem_cons_zero, List.getElem_cons_succ, Act.put, List.setIfInBounds_toArray, List.set_cons_zero, List.set_cons_succ]
  replace ho_s_0 := Own.same ho_s_0 hb4_
  replace hZ := hZ.below hb4_ hZ.lt
  have hB4 := hB3.trans (hb4_.mono hB3.size)
  have hz4 : w3.heap.size ≤ w4.heap.size := hb4_.size
  refine wpAnyH_take (i := 5) (v := ?_) rfl (by kernel_rfl) (by kernel_rfl) (by kernel_rfl) (fun _ _ _ h => h) (Or.inl ⟨by rfl, ?_⟩) (by assumption) ?_
  rotate_left
  · intro w _; go_simp; with_reducible rfl
  try simp only [List.getElem_toArray, List.getElem_cons_zero, List.getElem_cons_succ, Act.put, List.setIfInBounds_toArray, List.set_cons_zero, List.set_cons_succ]
  refine wpAnyH_take (i := 6) (v := ?_) rfl (by kernel_rfl) (by kernel_rfl) (by kernel_rfl) (fun _ _ _ h => h) (Or.inl ⟨by rfl, ?_⟩) (by assumption) ?_
  rotate_left
  · intro w _; go_simp; with_reducible rfl
  try simp only [List.getElem_toArray, List.getElem_cons_zero, List.getElem_cons_succ, Act.put, List.setIfInBounds_toArray, List.set_cons_zero, List.set_cons_succ]
  refine wpAnyH_take (i := 7) (v := ?_) rfl (by kernel_rfl) (by kernel_rfl) (by kernel_rfl) (fun _ _ _ h => h) (Or.inl ⟨by rfl, ?_⟩) (by assumption) ?_
  rotate_left
  · intro w _; go_simp; with_reducible rfl
  try simp only [List.getElem_toArray, List.getElem_cons_zero, List.getElem_cons_succ, Act.put, List.setIfInBounds_toArray, List.set_cons_zero, List.set_cons_succ]
  refine wpAnyH_take (i := 8) (v := ?_) rfl (by kernel_rfl) (by kernel_rfl) (by kernel_rfl) (fun _ _ _ h => h) (Or.inl ⟨by rfl, ?_⟩) (by assumption) ?_
  rotate_left
  · intro w _; go_simp; with_reducible rfl
  try simp only [List.getElem_toArray, List.getElem_cons_zero, List.getElem_cons_succ, Act.put, List.setIfInBounds_toArray, List.set_cons_zero, List.set_cons_succ]
  refine wpAnyH_take (i := 9) (v := ?_) rfl (by kernel_rfl) (by kernel_rfl) (by kernel_rfl) (fun _ _ _ h => h) (Or.inl ⟨by rfl, ?_⟩) (by assumption) ?_
  rotate_left
  · intro w _; go_simp; with_reducible rfl
  try simp only [List.getElem_toArray, List.getElem_cons_zero, List.getElem_cons_succ, Act.put, List.setIfInBounds_toArray, List.set_cons_zero, List.set_cons_succ]
  refine wpAnyH_done (by kernel_rfl) ?_ _
  clear hHeld hut hsz
  go_wp2_with fail
  refine (toIntS_any _ xs0 _ (hi0.below hB4 (Nat.le_refl _)) hb0).mono ?_
  rintro e w5 ⟨x_0, rfl, ho_x_0, hf_x_0, hb5_⟩
  replace hZ := hZ.below hb5_ hZ.lt
  have hB5 := hB4.trans (hb5_.mono hB4.size)
  have hl_x_0 := ho_x_0.lt
  have hs_x_0 : w.heap.size ≤ w4.heap.size := hB4.size
  have hz5 : w4.heap.size ≤ w5.heap.size := hb5_.size
  have hk_0 : w5.cell? ⟨w.heap.size, 0, none⟩ = some (.int .i64 x1.1) := hZ.cell 0
  have hk_1 : w5.cell? ⟨w.heap.size, 1, none⟩ = some (.int .i64 x1.2) := hZ.cell 1
  go_wp2_with fail
  clear hk_0 hk_1
  refine (toSegment_any x1 _).mono ?_
  rintro e w6 ⟨rfl, hb6_⟩
  replace ho_x_0 := Own.same ho_x_0 hb6_
  replace hZ := hZ.below hb6_ hZ.lt
  have hB6 := hB5.trans (hb6_.mono hB5.size)
  have hz6 : w5.heap.size ≤ w6.heap.size := hb6_.size
  go_wp2_with fail
  refine (IsFallingStrip_any _ xs0 x1 _ ho_x_0 hb0).mono ?_
  rintro e w7 ⟨rfl, hb7_⟩
  replace ho_x_0 := Own.same ho_x_0 hb7_
  replace hZ := hZ.below hb7_ hZ.lt
  have hB7 := hB6.trans (hb7_.mono hB6.size)
  have hz7 : w6.heap.size ≤ w7.heap.size := hb7_.size
  go_wp2_with fail
  refine (toIntS_any _ xs0 _ (hi0.below hB7 (Nat.le_refl _)) hb0).mono ?_
  rintro e w8 ⟨y_0, rfl, ho_y_0, hf_y_0, hb8_⟩
  replace ho_x_0 := Own.same ho_x_0 hb8_
  replace hZ := hZ.below hb8_ hZ.lt
  have hB8 := hB7.trans (hb8_.mono hB7.size)
  have hl_y_0 := ho_y_0.lt
  have hs_y_0 : w.heap.size ≤ w7.heap.size := hB7.size
  have hz8 : w7.heap.size ≤ w8.heap.size := hb8_.size
  go_wp2_with fail
  refine (eqIntS_any _ _ _ _ _ (OwnI.ints ho_x_0) (OwnI.ints ho_y_0) hb0 hb0).mono ?_
  rintro e w9 ⟨rfl, hb9_⟩
  replace ho_x_0 := Own.same ho_x_0 hb9_
  replace ho_y_0 := Own.same ho_y_0 hb9_
  replace hZ := hZ.below hb9_ hZ.lt
  have hB9 := hB8.trans (hb9_.mono hB8.size)
  have hz9 : w8.heap.size ≤ w9.heap.size := hb9_.size
  go_wp2
  go_ret
  exact ⟨rfl, hB9⟩
end Go.Proofs.Ytfbadpabefdleab
