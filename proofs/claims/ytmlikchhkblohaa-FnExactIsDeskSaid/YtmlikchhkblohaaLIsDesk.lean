import Derived.Test.YtmlikchhkblohaaDa
namespace Go.Proofs.Ytmlikchhkblohaa
open Go Go.RowKit Go.Pan

theorem szIntD_any (v : Value) (xs : List Int) (L : Int) (w : World) (hv : Ints w v xs) (h0 : 0 ≤ L) (h1 : L ≤ 1048576) :
    Calls Try.prog 83 #[v, .int .i64 L] w fun e w' => e = .returned (.int .i64 (if L - (xs.length : Int) < 0 then -1 else L - xs.length)) ∧ w = w' := by
  obtain ⟨ad, cap, rfl, hc, hm, hr⟩ := hv
  have hs1 := IntWalk.i64_in (L - (xs.length : Int)) (by unfold maxLen at hm; omega)
  by_cases h : L - (xs.length : Int) < 0
  · rw [if_pos h]
    go_enter Try.func83, Try.ntmps83
    go_wp2
    go_ret
    exact ⟨rfl, rfl⟩
  · rw [if_neg h]
    have h' : 0 ≤ L - (xs.length : Int) := by omega
    go_enter Try.func83, Try.ntmps83
    go_wp2
    go_ret
    exact ⟨rfl, rfl⟩

theorem szDesk_yes (v : Value) (xs : List Int) (m : Int) (w : World) (hv : Ints w v xs) (hn : xs.length ≤ 1048576) :
    Calls Try.prog 28 #[.agg #[v, .int .i64 m], .int .i64 1048576] w fun e w' => ∃ z : Int, e = .returned (.int .i64 z) ∧ 0 ≤ z ∧ Below w.heap.size w w' := by
  have hv0 := hv
  obtain ⟨ad, cap, rfl, _, _, _⟩ := hv
  have hb0 := below_new w (.cells #[.slice ad xs.length cap, .int .i64 m] 29)
  have c := szIntD_any _ xs 1048576 (w.alloc (.cells #[.slice ad xs.length cap, .int .i64 m] 29)) (hv0.below hb0 (Nat.le_refl _)) (by omega) (by omega)
  rw [if_neg (by omega)] at c
  have hp : (0 : Int) ≤ 1048576 - xs.length := by omega
  go_enter Try.func28, Try.ntmps28
  go_wp2_with fail
  refine c.mono ?_
  rintro e w1 ⟨rfl, rfl⟩
  clear c
  go_wp2
  go_ret
  exact ⟨_, rfl, hp, hb0⟩
theorem szDesk_no (v : Value) (xs : List Int) (m : Int) (w : World) (hv : Ints w v xs) (hn : ¬ xs.length ≤ 1048576) :
    Calls Try.prog 28 #[.agg #[v, .int .i64 m], .int .i64 1048576] w fun e w' => e = .returned (.int .i64 (-1)) ∧ Below w.heap.size w w' := by
  have hv0 := hv
  obtain ⟨ad, cap, rfl, _, _, _⟩ := hv
  have hb0 := below_new w (.cells #[.slice ad xs.length cap, .int .i64 m] 29)
  have c := szIntD_any _ xs 1048576 (w.alloc (.cells #[.slice ad xs.length cap, .int .i64 m] 29)) (hv0.below hb0 (Nat.le_refl _)) (by omega) (by omega)
  rw [if_pos (by omega)] at c
  go_enter Try.func28, Try.ntmps28
  go_wp2_with fail
  refine c.mono ?_
  rintro e w1 ⟨rfl, rfl⟩
  clear c
  go_wp2
  go_ret
  exact ⟨rfl, hb0⟩

set_option maxRecDepth 100000 in
set_option maxHeartbeats 1600000 in
theorem walk_FnExactIsDesk (a0 : Option Addr) (cap0 : Nat) (xs0 : List Int) (m0 : Int) (w : World) (hi0 : Ints w (.slice a0 xs0.length cap0) xs0) :
    Calls Try.prog 4 #[.agg #[.slice a0 xs0.length cap0, .int .i64 m0]] w fun e w' => e = .returned (.bool true) ∧ Below w.heap.size w w' := by
  obtain ⟨w0, hw0⟩ : ∃ x, w.alloc (.cells #[.slice a0 xs0.length cap0, .int .i64 m0] 29) = x := ⟨_, rfl⟩
  have hZ : Blk w0 w.heap.size 29 [.slice a0 xs0.length cap0, .int .i64 m0] := by rw [← hw0]; exact Blk.new w _ _ _ rfl
  have hB0 : Below w.heap.size w w0 := by rw [← hw0]; exact below_new w _
  have hi1 := hi0.below hB0 (Nat.le_refl _)
  have HW0 := Lib.hid hw0
  clear hw0
  by_cases hb0 : xs0.length ≤ 1048576
  case neg =>
    go_enter Try.func4, Try.ntmps4
    go_wp2_with fail
    rw [HW0.out]
    refine (szDesk_no _ xs0 m0 w0 hi1 hb0).mono ?_
    rintro e w1 ⟨rfl, hb1⟩
    go_wp2
    go_ret
    exact ⟨rfl, hB0.trans (hb1.mono hB0.size)⟩
  go_enter Try.func4, Try.ntmps4
  go_wp2_with fail
  rw [HW0.out]
  refine (szDesk_yes _ xs0 m0 w0 hi1 hb0).mono ?_
  rintro e w1 ⟨z, rfl, hz, hb1⟩
  have hB1 := hB0.trans (hb1.mono hB0.size)
  have hZ1 := hZ.below hb1 hZ.lt
  have hi2 := hi0.below hB1 (Nat.le_refl _)
  clear hb1 hZ hB0 hi1
  go_wp2_with (first | (refine wpList_loadS2 rfl 29 _ rfl w.heap.size _ _ rfl 29 hZ1 Try.underlying29 rfl infoDeskL ?_))
  refine (toDesk_any _ xs0 m0 w1 hi2 hb0).mono ?_
  rintro e w2 ⟨r2, rfl, ho2, hf2, hb2⟩
  have hB2 := hB1.trans (hb2.mono hB1.size)
  have hZ2 := hZ1.below hb2 hZ1.lt
  have hi3 := hi0.below hB2 (Nat.le_refl _)
  clear hZ1 hi2
  go_wp2_with fail
  refine (sIsDesk_any r2 xs0 m0 w2 ho2 hb0).mono ?_
  rintro e w3 ⟨rfl, hb3⟩
  have hB3 := hB2.trans (hb3.mono hB2.size)
  have hZ3 := hZ2.below hb3 hZ2.lt
  have hi4 := hi0.below hB3 (Nat.le_refl _)
  clear hZ2 hi3 ho2 hf2 hb2 hb3
  go_wp2_with (first | (refine wpList_loadS2 rfl 29 _ rfl w.heap.size _ _ rfl 29 hZ3 Try.underlying29 rfl infoDeskL ?_))
  refine (toDesk_any _ xs0 m0 w3 hi4 hb0).mono ?_
  rintro e w4 ⟨r4, rfl, ho4, hf4, hb4⟩
  obtain ⟨a4, c4, rfl, _, _, _⟩ := ho4.shape
  have hB4 := hB3.trans (hb4.mono hB3.size)
  have hZ4 := hZ3.below hb4 hZ3.lt
  have hA5 : Blk (w4.alloc (.cells #[.slice a4 xs0.length c4, .int .i64 m0] 24)) w4.heap.size 24 [.slice a4 xs0.length c4, .int .i64 m0] := Blk.new w4 _ [.slice a4 xs0.length c4, .int .i64 m0] _ rfl
  have hB5 := hB4.alloc hB4.size (.cells #[.slice a4 xs0.length c4, .int .i64 m0] 24)
  have hZ5 := hZ4.alloc (.cells #[.slice a4 xs0.length c4, .int .i64 m0] 24)
  have ho5 := ho4.alloc (.cells #[.slice a4 xs0.length c4, .int .i64 m0] 24)
  obtain ⟨D, hD⟩ : ∃ D, deskB xs0 m0 = D := ⟨_, rfl⟩
  rw [hD]
  have HD := Lib.hid hD
  clear hZ3 hi4 hD hb4 ho4
  go_wp2_with fail
  refine (IsDesk_any _ xs0 m0 _ ho5 hb0).mono ?_
  rintro e w6 ⟨rfl, hb6⟩
  rw [HD.out]
  have hb6n : ((D : Bool) != D) = false := by simp
  have hB6 := hB5.trans (hb6.mono hB5.size)
  have hA6 := hA5.below hb6 hA5.lt
  have hZ6 := hZ5.below hb6 hZ5.lt
  have ho6 := Own.same ho5 hb6
  have hi6 := hi0.below hB6 (Nat.le_refl _)
  clear hA5 hZ5 ho5 hb6
  have r5 := hA6.range
  have r1 := hZ6.range
  have hl5 := hA6.lt
  have hl1 := hZ6.lt
  have ut5 := Try.underlying24
  have ut1 := Try.underlying29
  obtain ⟨b4, hb4e⟩ : ∃ b, w4.heap.size = b := ⟨_, rfl⟩
  rw [hb4e] at r5 hl5 ⊢
  have hs5 : (Try.prog.info? 24).map (·.size) = some ([.slice a4 xs0.length c4, .int .i64 m0] : List Value).length := infoDesk
  have hs1 : (Try.prog.info? 29).map (·.size) = some ([.slice a0 xs0.length cap0, .int .i64 m0] : List Value).length := infoDeskL
  clear hA6 hZ6 hb4e
  go_wp2_with fail
  refine wp_region_held_drew (S := (fun w' => w'.rangeAt b4 0 [.slice a4 xs0.length c4, .int .i64 m0] ∧ w'.rangeAt w.heap.size 0 [.slice a0 xs0.length cap0, .int .i64 m0] ∧ Ints w' (.slice a0 xs0.length cap0) xs0 ∧ OwnI w' (.slice a4 xs0.length c4) xs0)) (by kernel_rfl) (⟨r5, r1, hi6, ho6⟩) (fun hHeld => ?_)
  refine wpAnyH_take (i := 0) rfl (by kernel_rfl) (by kernel_rfl) (by kernel_rfl) (fun _ _ _ h => h) (yieldsIf_load_mid (by rfl) _ _ rfl _ _ rfl _ _ (fun w hw => hw.1) ut5 rfl hs5) (by assumption) ?_
  try simp only [List.getElem_toArray, List.getElem_cons_zero, Act.put, List.setIfInBounds_toArray, List.set_cons_zero, List.set_cons_succ]
  refine wpAnyH_take (i := 1) rfl (by kernel_rfl) (by kernel_rfl) (by kernel_rfl) (fun _ _ _ h => h) (yieldsIf_load_mid (by rfl) _ _ rfl _ _ rfl _ _ (fun w hw => hw.2.1) ut1 rfl hs1) (by assumption) ?_
  try simp only [List.getElem_toArray, List.getElem_cons_zero, List.getElem_cons_succ, Act.put, List.setIfInBounds_toArray, List.set_cons_zero, List.set_cons_succ]
  refine wpAnyH_ready (rs := [2]) (by kernel_rfl) (by simp) ?_
  refine AllReadyH.cons rfl (fun K hK => ?_) AllReadyH.nil
  go_simp
  refine (toDesk_any _ xs0 m0 _ hHeld.2.2.1 hb0).mono ?_
  rintro e w7 ⟨r7, rfl, ho7, hf7, hb7⟩
  go_wp2_with fail
  refine hK.out _ _ (⟨range_below hHeld.1 hb7 hl5, range_below hHeld.2.1 hb7 hl1, hHeld.2.2.1.below hb7 (Nat.le_refl _), Own.same hHeld.2.2.2 hb7⟩) (fun hHeld => ?_)
  clear hK K
  try simp only [List.getElem_toArray, List.getElem_cons_zero, List.getElem_cons_succ, Act.put, List.setIfInBounds_toArray, List.set_cons_zero, List.set_cons_succ]
  refine wpAnyH_ready (rs := [3]) (by kernel_rfl) (by simp) ?_
  refine AllReadyH.cons rfl (fun K hK => ?_) AllReadyH.nil
  go_simp
  refine (eqDesk_same _ _ xs0 m0 _ (OwnI.ints hHeld.2.2.2) (OwnI.ints ho7) hb0).mono ?_
  rintro e w8 ⟨rfl, hb8⟩
  go_wp2_with fail
  refine hK.out _ _ (⟨range_below hHeld.1 hb8 (Nat.lt_of_lt_of_le hl5 hb7.size), range_below hHeld.2.1 hb8 (Nat.lt_of_lt_of_le hl1 hb7.size), hHeld.2.2.1.below hb8 (Nat.le_refl _), Own.same hHeld.2.2.2 hb8⟩) (fun hHeld => ?_)
  clear hK K
  try simp only [List.getElem_toArray, List.getElem_cons_zero, List.getElem_cons_succ, Act.put, List.setIfInBounds_toArray, List.set_cons_zero, List.set_cons_succ]
  refine wpAnyH_take (i := 4) (v := ?_) rfl (by kernel_rfl) (by kernel_rfl) (by kernel_rfl) (fun _ _ _ h => h) (Or.inl ⟨by rfl, ?_⟩) (by assumption) ?_
  rotate_left
  · intro w _; go_simp; with_reducible rfl
  try simp only [List.getElem_toArray, List.getElem_cons_zero, List.getElem_cons_succ, Act.put, List.setIfInBounds_toArray, List.set_cons_zero, List.set_cons_succ]
  refine wpAnyH_done (by kernel_rfl) ?_ _
  have hB7 := hB6.drew.trans (hb7.mono hB6.size)
  have hB8 := hB7.trans (hb8.mono hB7.size)
  go_wp2
  go_ret
  exact ⟨rfl, hB8⟩

end Go.Proofs.Ytmlikchhkblohaa

