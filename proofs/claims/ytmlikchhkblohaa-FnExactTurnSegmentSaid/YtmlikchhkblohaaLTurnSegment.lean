import Derived.Test.YtmlikchhkblohaaV3
import Derived.Test.YtmlikchhkblohaaV6
namespace Go.Proofs.Ytmlikchhkblohaa
open Go Go.RowKit Go.Pan

set_option maxRecDepth 100000 in
set_option maxHeartbeats 1600000 in
theorem walk_FnExactTurnSegment (a0 : Option Addr) (cap0 : Nat) (xs0 : List Int) (x1 : Int × Int) (w : World) (hi0 : Ints w (.slice a0 xs0.length cap0) xs0) :
    Calls Try.prog 12 #[.slice a0 xs0.length cap0, .agg #[.int .i64 x1.1, .int .i64 x1.2]] w fun e w' => e = .returned (.bool true) ∧ Below w.heap.size w w' := by
  by_cases hb0 : xs0.length ≤ 1048576
  case neg =>
    go_enter Try.func12, Try.ntmps12
    go_wp2
    go_ret
    exact ⟨rfl, below_new w _⟩
  obtain ⟨w0, hw0⟩ : ∃ x, w.alloc (.cells #[.int .i64 x1.1, .int .i64 x1.2] 60) = x := ⟨_, rfl⟩
  have hZ : Blk w0 w.heap.size 60 [.int .i64 x1.1, .int .i64 x1.2] := by rw [← hw0]; exact Blk.new w _ _ _ rfl
  have hB0 : Below w.heap.size w w0 := by rw [← hw0]; exact below_new w _
  have hz0 := hZ.lt
  have HW0 := Lib.hid hw0
  clear hw0
  go_enter Try.func12, Try.ntmps12
  go_wp2_with fail
  rw [HW0.out]
  have hut := Try.underlying60
  have hsz : (Try.prog.info? 60).map (·.size) = some ([.int .i64 x1.1, .int .i64 x1.2] : List Value).length := infoSegmentW
  refine wp_region_held_drew (S := fun w' => w'.rangeAt w.heap.size 0 [.int .i64 x1.1, .int .i64 x1.2]) (by kernel_rfl) hZ.range (fun hHeld => ?_)
  obtain ⟨w1, hwd1⟩ : ∃ x, w0.drew = x := ⟨_, rfl⟩
  have hb1_ : Below w0.heap.size w0 w1 := by rw [← hwd1]; exact (Below.refl _ _).drew
  rw [hwd1] at hHeld ⊢
  clear hwd1
  replace hZ := hZ.below hb1_ hZ.lt
  have hB1 := hB0.trans (hb1_.mono hB0.size)
  have hz1 : w0.heap.size ≤ w1.heap.size := hb1_.size
  refine wpAnyH_take (i := 0) (v := ?_) rfl (by kernel_rfl) (by kernel_rfl) (by kernel_rfl) (fun _ _ _ h => h) (Or.inl ⟨by rfl, ?_⟩) (by assumption) ?_
  rotate_left
  · intro w _; go_simp; with_reducible rfl
  try simp only [List.getElem_toArray, List.getElem_cons_zero, Act.put, List.setIfInBounds_toArray, List.set_cons_zero, List.set_cons_succ]
  refine wpAnyH_take (i := 2) rfl (by kernel_rfl) (by kernel_rfl) (by kernel_rfl) (fun _ _ _ h => h) (yieldsIf_load_mid (by rfl) _ _ rfl _ _ rfl _ _ (fun w hw => hw) hut rfl hsz) (by assumption) ?_
  try simp only [List.getElem_toArray, List.getElem_cons_zero, List.getElem_cons_succ, Act.put, List.setIfInBounds_toArray, List.set_cons_zero, List.set_cons_succ]
  refine wpAnyH_ready (rs := [1]) (by kernel_rfl) (by simp) ?_
  refine AllReadyH.cons rfl (fun K hK => ?_) AllReadyH.nil
  go_simp
  refine (toIntS_any _ xs0 _ (hi0.below hB1 (Nat.le_refl _)) hb0).mono ?_
  rintro e w2 ⟨s_0, rfl, ho_s_0, hf_s_0, hb2_⟩
  go_wp2_with fail
  refine hK.out _ _ (range_below hHeld hb2_ (by omega)) (fun hHeld => ?_)
  clear hK K
  try simp only [List.getElem_toArray, List.getElem_cons_zero, List.getElem_cons_succ, Act.put, List.setIfInBounds_toArray, List.set_cons_zero, List.set_cons_succ]
  replace hZ := hZ.below hb2_ hZ.lt
  have hB2 := hB1.trans (hb2_.mono hB1.size)
  have hl_s_0 := ho_s_0.lt
  have hs_s_0 : w.heap.size ≤ w1.heap.size := hB1.size
  have hz2 : w1.heap.size ≤ w2.heap.size := hb2_.size
  refine wpAnyH_ready (rs := [3]) (by kernel_rfl) (by simp) ?_
  refine AllReadyH.cons rfl (fun K hK => ?_) AllReadyH.nil
  go_simp
  refine (toSegment_any x1 _).mono ?_
  rintro e w3 ⟨rfl, hb3_⟩
  go_wp2_with fail
  refine hK.out _ _ (range_below hHeld hb3_ (by omega)) (fun hHeld => ?_)
  clear hK K
  try simp only [List.getElem_toArray, List.getElem_cons_zero, List.getElem_cons_succ, Act.put, List.setIfInBounds_toArray, List.set_cons_zero, List.set_cons_succ]
  replace ho_s_0 := Own.same ho_s_0 hb3_
  replace hZ := hZ.below hb3_ hZ.lt
  have hB3 := hB2.trans (hb3_.mono hB2.size)
  have hz3 : w2.heap.size ≤ w3.heap.size := hb3_.size
  refine wpAnyH_ready (rs := [4]) (by kernel_rfl) (by simp) ?_
  refine AllReadyH.cons rfl (fun K hK => ?_) AllReadyH.nil
  go_simp
  refine (sTurnSegment_any _ xs0 x1 _ ho_s_0 hb0).mono ?_
  rintro e w4 ⟨w_0, rfl, ho_w_0, hf_w_0, hb4_⟩
  go_wp2_with fail
  refine hK.out _ _ (range_below hHeld hb4_ (by omega)) (fun hHeld => ?_)
  clear hK K
  try simp only [List.getElem_toArray, List.getElem_cons_zero, List.getElem_cons_succ, Act.put, List.setIfInBounds_toArray, List.set_cons_zero, List.set_cons_succ]
  replace ho_s_0 := Own.same ho_s_0 hb4_
  replace hZ := hZ.below hb4_ hZ.lt
  have hB4 := hB3.trans (hb4_.mono hB3.size)
  have hl_w_0 := ho_w_0.lt
  have hs_w_0 : w.heap.size ≤ w3.heap.size := hB3.size
  have hz4 : w3.heap.size ≤ w4.heap.size := hb4_.size
  refine wpAnyH_take (i := 5) (v := ?_) rfl (by kernel_rfl) (by kernel_rfl) (by kernel_rfl) (fun _ _ _ h => h) (Or.inl ⟨by rfl, ?_⟩) (by assumption) ?_
  rotate_left
  · intro w _; go_simp; with_reducible rfl
  try simp only [List.getElem_toArray, List.getElem_cons_zero, List.getElem_cons_succ, Act.put, List.setIfInBounds_toArray, List.set_cons_zero, List.set_cons_succ]
  refine wpAnyH_take (i := 6) (v := ?_) rfl (by kernel_rfl) (by kernel_rfl) (by kernel_rfl) (fun _ _ _ h => h) (Or.inl ⟨by rfl, ?_⟩) (by assumption) ?_
  rotate_left
  · intro w _; go_simp; with_reducible rfl
  try simp only [List.getElem_toArray, List.getElem_cons_zero, List.getElem_cons_succ, Act.put, List.setIfInBounds_toArray, List.set_cons_zero, List.set_cons_succ]
  refine wpAnyH_take (i := 7) (v := ?_) rfl (by kernel_rfl) (by kernel_rfl) (by kernel_rfl) (fun _ _ _ h => h) (Or.inl ⟨by rfl, ?_⟩) (by assumption) ?_
  rotate_left
  · intro w _; go_simp; with_reducible rfl
  try simp only [List.getElem_toArray, List.getElem_cons_zero, List.getElem_cons_succ, Act.put, List.setIfInBounds_toArray, List.set_cons_zero, List.set_cons_succ]
  refine wpAnyH_take (i := 8) (v := ?_) rfl (by kernel_rfl) (by kernel_rfl) (by kernel_rfl) (fun _ _ _ h => h) (Or.inl ⟨by rfl, ?_⟩) (by assumption) ?_
  rotate_left
  · intro w _; go_simp; with_reducible rfl
  try simp only [List.getElem_toArray, List.getElem_cons_zero, List.getElem_cons_succ, Act.put, List.setIfInBounds_toArray, List.set_cons_zero, List.set_cons_succ]
  refine wpAnyH_take (i := 9) (v := ?_) rfl (by kernel_rfl) (by kernel_rfl) (by kernel_rfl) (fun _ _ _ h => h) (Or.inl ⟨by rfl, ?_⟩) (by assumption) ?_
  rotate_left
  · intro w _; go_simp; with_reducible rfl
  try simp only [List.getElem_toArray, List.getElem_cons_zero, List.getElem_cons_succ, Act.put, List.setIfInBounds_toArray, List.set_cons_zero, List.set_cons_succ]
  refine wpAnyH_done (by kernel_rfl) ?_ _
  clear hHeld hut hsz
  go_wp2_with fail
  refine (toIntS_any _ xs0 _ (hi0.below hB4 (Nat.le_refl _)) hb0).mono ?_
  rintro e w5 ⟨x_0, rfl, ho_x_0, hf_x_0, hb5_⟩
  replace ho_w_0 := Own.same ho_w_0 hb5_
  replace hZ := hZ.below hb5_ hZ.lt
  have hB5 := hB4.trans (hb5_.mono hB4.size)
  have hl_x_0 := ho_x_0.lt
  have hs_x_0 : w.heap.size ≤ w4.heap.size := hB4.size
  have hz5 : w4.heap.size ≤ w5.heap.size := hb5_.size
  have hk_0 : w5.cell? ⟨w.heap.size, 0, none⟩ = some (.int .i64 x1.1) := hZ.cell 0
  have hk_1 : w5.cell? ⟨w.heap.size, 1, none⟩ = some (.int .i64 x1.2) := hZ.cell 1
  go_wp2_with fail
  clear hk_0 hk_1
  refine (toSegment_any x1 _).mono ?_
  rintro e w6 ⟨rfl, hb6_⟩
  replace ho_w_0 := Own.same ho_w_0 hb6_
  replace ho_x_0 := Own.same ho_x_0 hb6_
  replace hZ := hZ.below hb6_ hZ.lt
  have hB6 := hB5.trans (hb6_.mono hB5.size)
  have hz6 : w5.heap.size ≤ w6.heap.size := hb6_.size
  go_wp2_with fail
  refine (TurnSegment_any _ xs0 x1 _ ho_x_0 hb0).mono ?_
  rintro e w7 ⟨g_0, rfl, ho_g_0, hf_g_0, hb7_⟩
  replace ho_w_0 := Own.same ho_w_0 hb7_
  replace ho_x_0 := Own.same ho_x_0 hb7_
  replace hZ := hZ.below hb7_ hZ.lt
  have hB7 := hB6.trans (hb7_.mono hB6.size)
  have hl_g_0 := ho_g_0.lt
  have hs_g_0 : w.heap.size ≤ w6.heap.size := hB6.size
  have hz7 : w6.heap.size ≤ w7.heap.size := hb7_.size
  go_wp2_with fail
  refine (eqIntS_any _ _ _ _ _ (OwnI.ints ho_g_0) (OwnI.ints ho_w_0) (len_mTurnSegment _ _) (len_mTurnSegment _ _)).mono ?_
  rintro e w8 ⟨rfl, hb8_⟩
  replace ho_w_0 := Own.same ho_w_0 hb8_
  replace ho_x_0 := Own.same ho_x_0 hb8_
  replace ho_g_0 := Own.same ho_g_0 hb8_
  replace hZ := hZ.below hb8_ hZ.lt
  have hB8 := hB7.trans (hb8_.mono hB7.size)
  have hz8 : w7.heap.size ≤ w8.heap.size := hb8_.size
  go_wp2_with fail
  refine (toIntS_any _ xs0 _ (hi0.below hB8 (Nat.le_refl _)) hb0).mono ?_
  rintro e w9 ⟨y_0, rfl, ho_y_0, hf_y_0, hb9_⟩
  replace ho_w_0 := Own.same ho_w_0 hb9_
  replace ho_x_0 := Own.same ho_x_0 hb9_
  replace ho_g_0 := Own.same ho_g_0 hb9_
  replace hZ := hZ.below hb9_ hZ.lt
  have hB9 := hB8.trans (hb9_.mono hB8.size)
  have hl_y_0 := ho_y_0.lt
  have hs_y_0 : w.heap.size ≤ w8.heap.size := hB8.size
  have hz9 : w8.heap.size ≤ w9.heap.size := hb9_.size
  go_wp2_with fail
  refine (eqIntS_any _ _ _ _ _ (OwnI.ints ho_x_0) (OwnI.ints ho_y_0) hb0 hb0).mono ?_
  rintro e w10 ⟨rfl, hb10_⟩
  replace ho_w_0 := Own.same ho_w_0 hb10_
  replace ho_x_0 := Own.same ho_x_0 hb10_
  replace ho_g_0 := Own.same ho_g_0 hb10_
  replace ho_y_0 := Own.same ho_y_0 hb10_
  replace hZ := hZ.below hb10_ hZ.lt
  have hB10 := hB9.trans (hb10_.mono hB9.size)
  have hz10 : w9.heap.size ≤ w10.heap.size := hb10_.size
  go_wp2_with fail
  refine (markIntS_any _ _ _ _ _ ho_x_0 (by exact hb0) (by omega) (by omega)).mono ?_
  rintro e w11 ⟨rfl, hn_x_0, hg11⟩
  replace ho_w_0 := Own.grown ho_w_0 hg11 (apart_lt hl_w_0 (From.mono hf_x_0 (by omega)))
  replace ho_g_0 := Own.grown ho_g_0 hg11 (apart_gt (From.mono hf_g_0 (by omega)) hl_x_0)
  replace hZ := hZ.grown hg11 (fun e => by have := hf_x_0 _ e; omega)
  replace ho_x_0 := hn_x_0
  clear hn_x_0
  have hB11 := hB10.grown hg11 hB10.size (fun k hk => From.mono hf_x_0 (by exact hs_x_0) k hk)
  have hz11 : w10.heap.size ≤ w11.heap.size := hg11.size
  go_wp2_with fail
  refine (eqIntS_any _ _ _ _ _ (OwnI.ints ho_g_0) (OwnI.ints ho_w_0) (len_mTurnSegment _ _) (len_mTurnSegment _ _)).mono ?_
  rintro e w12 ⟨rfl, hb12_⟩
  replace ho_w_0 := Own.same ho_w_0 hb12_
  replace ho_g_0 := Own.same ho_g_0 hb12_
  replace hZ := hZ.below hb12_ hZ.lt
  have hB12 := hB11.trans (hb12_.mono hB11.size)
  have hz12 : w11.heap.size ≤ w12.heap.size := hb12_.size
  go_wp2_with fail
  refine (markIntS_any _ _ _ _ _ ho_g_0 (by exact (len_mTurnSegment _ _)) (by omega) (by omega)).mono ?_
  rintro e w13 ⟨rfl, hn_g_0, hg13⟩
  replace ho_w_0 := Own.grown ho_w_0 hg13 (apart_lt hl_w_0 (From.mono hf_g_0 (by omega)))
  replace hZ := hZ.grown hg13 (fun e => by have := hf_g_0 _ e; omega)
  replace ho_g_0 := hn_g_0
  clear hn_g_0
  have hB13 := hB12.grown hg13 hB12.size (fun k hk => From.mono hf_g_0 (by exact hs_g_0) k hk)
  have hz13 : w12.heap.size ≤ w13.heap.size := hg13.size
  go_wp2_with fail
  refine (heldIntS_any _ _ _ _ ho_g_0 (len_mTurnSegment _ _) (by omega) (by omega)).mono ?_
  rintro e w14 ⟨rfl, hb14_⟩
  replace ho_w_0 := Own.same ho_w_0 hb14_
  replace ho_g_0 := Own.same ho_g_0 hb14_
  replace hZ := hZ.below hb14_ hZ.lt
  have hB14 := hB13.trans (hb14_.mono hB13.size)
  have hz14 : w13.heap.size ≤ w14.heap.size := hb14_.size
  go_wp2_with fail
  have hut := Try.underlying60
  have hsz : (Try.prog.info? 60).map (·.size) = some ([.int .i64 x1.1, .int .i64 x1.2] : List Value).length := infoSegmentW
  refine wp_region_held_drew (S := fun w' => w'.rangeAt w.heap.size 0 [.int .i64 x1.1, .int .i64 x1.2]) (by kernel_rfl) hZ.range (fun hHeld => ?_)
  obtain ⟨w15, hwd15⟩ : ∃ x, w14.drew = x := ⟨_, rfl⟩
  have hb15_ : Below w14.heap.size w14 w15 := by rw [← hwd15]; exact (Below.refl _ _).drew
  rw [hwd15] at hHeld ⊢
  clear hwd15
  replace ho_w_0 := Own.same ho_w_0 hb15_
  replace ho_g_0 := Own.same ho_g_0 hb15_
  replace hZ := hZ.below hb15_ hZ.lt
  have hB15 := hB14.trans (hb15_.mono hB14.size)
  have hz15 : w14.heap.size ≤ w15.heap.size := hb15_.size
  refine wpAnyH_take (i := 0) (v := ?_) rfl (by kernel_rfl) (by kernel_rfl) (by kernel_rfl) (fun _ _ _ h => h) (Or.inl ⟨by rfl, ?_⟩) (by assumption) ?_
  rotate_left
  · intro w _; go_simp; with_reducible rfl
  try simp only [List.getElem_toArray, List.getElem_cons_zero, Act.put, List.setIfInBounds_toArray, List.set_cons_zero, List.set_cons_succ]
  refine wpAnyH_take (i := 2) rfl (by kernel_rfl) (by kernel_rfl) (by kernel_rfl) (fun _ _ _ h => h) (yieldsIf_load_mid (by rfl) _ _ rfl _ _ rfl _ _ (fun w hw => hw) hut rfl hsz) (by assumption) ?_
  try simp only [List.getElem_toArray, List.getElem_cons_zero, List.getElem_cons_succ, Act.put, List.setIfInBounds_toArray, List.set_cons_zero, List.set_cons_succ]
  refine wpAnyH_ready (rs := [1]) (by kernel_rfl) (by simp) ?_
  refine AllReadyH.cons rfl (fun K hK => ?_) AllReadyH.nil
  go_simp
  refine (toIntS_any _ xs0 _ (hi0.below hB15 (Nat.le_refl _)) hb0).mono ?_
  rintro e w16 ⟨z_0, rfl, ho_z_0, hf_z_0, hb16_⟩
  go_wp2_with fail
  refine hK.out _ _ (range_below hHeld hb16_ (by omega)) (fun hHeld => ?_)
  clear hK K
  try simp only [List.getElem_toArray, List.getElem_cons_zero, List.getElem_cons_succ, Act.put, List.setIfInBounds_toArray, List.set_cons_zero, List.set_cons_succ]
  replace ho_w_0 := Own.same ho_w_0 hb16_
  replace ho_g_0 := Own.same ho_g_0 hb16_
  replace hZ := hZ.below hb16_ hZ.lt
  have hB16 := hB15.trans (hb16_.mono hB15.size)
  have hl_z_0 := ho_z_0.lt
  have hs_z_0 : w.heap.size ≤ w15.heap.size := hB15.size
  have hz16 : w15.heap.size ≤ w16.heap.size := hb16_.size
  refine wpAnyH_ready (rs := [3]) (by kernel_rfl) (by simp) ?_
  refine AllReadyH.cons rfl (fun K hK => ?_) AllReadyH.nil
  go_simp
  refine (toSegment_any x1 _).mono ?_
  rintro e w17 ⟨rfl, hb17_⟩
  go_wp2_with fail
  refine hK.out _ _ (range_below hHeld hb17_ (by omega)) (fun hHeld => ?_)
  clear hK K
  try simp only [List.getElem_toArray, List.getElem_cons_zero, List.getElem_cons_succ, Act.put, List.setIfInBounds_toArray, List.set_cons_zero, List.set_cons_succ]
  replace ho_w_0 := Own.same ho_w_0 hb17_
  replace ho_g_0 := Own.same ho_g_0 hb17_
  replace ho_z_0 := Own.same ho_z_0 hb17_
  replace hZ := hZ.below hb17_ hZ.lt
  have hB17 := hB16.trans (hb17_.mono hB16.size)
  have hz17 : w16.heap.size ≤ w17.heap.size := hb17_.size
  refine wpAnyH_ready (rs := [4]) (by kernel_rfl) (by simp) ?_
  refine AllReadyH.cons rfl (fun K hK => ?_) AllReadyH.nil
  go_simp
  refine (TurnSegment_any _ xs0 x1 _ ho_z_0 hb0).mono ?_
  rintro e w18 ⟨h_0, rfl, ho_h_0, hf_h_0, hb18_⟩
  go_wp2_with fail
  refine hK.out _ _ (range_below hHeld hb18_ (by omega)) (fun hHeld => ?_)
  clear hK K
  try simp only [List.getElem_toArray, List.getElem_cons_zero, List.getElem_cons_succ, Act.put, List.setIfInBounds_toArray, List.set_cons_zero, List.set_cons_succ]
  replace ho_w_0 := Own.same ho_w_0 hb18_
  replace ho_g_0 := Own.same ho_g_0 hb18_
  replace ho_z_0 := Own.same ho_z_0 hb18_
  replace hZ := hZ.below hb18_ hZ.lt
  have hB18 := hB17.trans (hb18_.mono hB17.size)
  have hl_h_0 := ho_h_0.lt
  have hs_h_0 : w.heap.size ≤ w17.heap.size := hB17.size
  have hz18 : w17.heap.size ≤ w18.heap.size := hb18_.size
  refine wpAnyH_take (i := 5) (v := ?_) rfl (by kernel_rfl) (by kernel_rfl) (by kernel_rfl) (fun _ _ _ h => h) (Or.inl ⟨by rfl, ?_⟩) (by assumption) ?_
  rotate_left
  · intro w _; go_simp; with_reducible rfl
  try simp only [List.getElem_toArray, List.getElem_cons_zero, List.getElem_cons_succ, Act.put, List.setIfInBounds_toArray, List.set_cons_zero, List.set_cons_succ]
  refine wpAnyH_take (i := 6) (v := ?_) rfl (by kernel_rfl) (by kernel_rfl) (by kernel_rfl) (fun _ _ _ h => h) (Or.inl ⟨by rfl, ?_⟩) (by assumption) ?_
  rotate_left
  · intro w _; go_simp; with_reducible rfl
  try simp only [List.getElem_toArray, List.getElem_cons_zero, List.getElem_cons_succ, Act.put, List.setIfInBounds_toArray, List.set_cons_zero, List.set_cons_succ]
  refine wpAnyH_take (i := 7) (v := ?_) rfl (by kernel_rfl) (by kernel_rfl) (by kernel_rfl) (fun _ _ _ h => h) (Or.inl ⟨by rfl, ?_⟩) (by assumption) ?_
  rotate_left
  · intro w _; go_simp; with_reducible rfl
  try simp only [List.getElem_toArray, List.getElem_cons_zero, List.getElem_cons_succ, Act.put, List.setIfInBounds_toArray, List.set_cons_zero, List.set_cons_succ]
  refine wpAnyH_take (i := 8) (v := ?_) rfl (by kernel_rfl) (by kernel_rfl) (by kernel_rfl) (fun _ _ _ h => h) (Or.inl ⟨by rfl, ?_⟩) (by assumption) ?_
  rotate_left
  · intro w _; go_simp; with_reducible rfl
  try simp only [List.getElem_toArray, List.getElem_cons_zero, List.getElem_cons_succ, Act.put, List.setIfInBounds_toArray, List.set_cons_zero, List.set_cons_succ]
  refine wpAnyH_take (i := 9) (v := ?_) rfl (by kernel_rfl) (by kernel_rfl) (by kernel_rfl) (fun _ _ _ h => h) (Or.inl ⟨by rfl, ?_⟩) (by assumption) ?_
  rotate_left
  · intro w _; go_simp; with_reducible rfl
  try simp only [List.getElem_toArray, List.getElem_cons_zero, List.getElem_cons_succ, Act.put, List.setIfInBounds_toArray, List.set_cons_zero, List.set_cons_succ]
  refine wpAnyH_done (by kernel_rfl) ?_ _
  clear hHeld hut hsz
  go_wp2_with fail
  refine (eqIntS_any _ _ _ _ _ (OwnI.ints ho_h_0) (OwnI.ints ho_w_0) (len_mTurnSegment _ _) (len_mTurnSegment _ _)).mono ?_
  rintro e w19 ⟨rfl, hb19_⟩
  replace ho_w_0 := Own.same ho_w_0 hb19_
  replace ho_g_0 := Own.same ho_g_0 hb19_
  replace ho_h_0 := Own.same ho_h_0 hb19_
  replace hZ := hZ.below hb19_ hZ.lt
  have hB19 := hB18.trans (hb19_.mono hB18.size)
  have hz19 : w18.heap.size ≤ w19.heap.size := hb19_.size
  go_wp2_with fail
  refine (heldIntS_any _ _ _ _ ho_g_0 (len_mTurnSegment _ _) (by omega) (by omega)).mono ?_
  rintro e w20 ⟨rfl, hb20_⟩
  replace ho_w_0 := Own.same ho_w_0 hb20_
  replace ho_g_0 := Own.same ho_g_0 hb20_
  replace ho_h_0 := Own.same ho_h_0 hb20_
  replace hZ := hZ.below hb20_ hZ.lt
  have hB20 := hB19.trans (hb20_.mono hB19.size)
  have hz20 : w19.heap.size ≤ w20.heap.size := hb20_.size
  go_wp2
  go_ret
  exact ⟨rfl, hB20⟩
end Go.Proofs.Ytmlikchhkblohaa
