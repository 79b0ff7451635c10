import Derived.Test.YtkeenoklghkonaaV19
namespace Go.Pan
def mBackBlock (b : Int × Int × Int) : Int × Int × Int := if bkB 9 b = true then (b.1, b.1 + b.2.2 - b.2.1 - 1, b.2.2) else (0, 0, 0)
end Go.Pan
namespace Go.Proofs.Ytkeenoklghkonaa
open Go Go.RowKit Go.Pan

set_option maxHeartbeats 1600000 in
set_option maxRecDepth 100000 in
theorem ExchangeBlocks_any (v : Value) (xs : List Int) (p : Int × Int × Int × Int) (w : World) (hv : OwnI w v xs) (hn : xs.length ≤ 1048576) :
    Calls Try.prog 69 #[v, .agg #[.int .i64 p.1, .int .i64 p.2.1, .int .i64 p.2.2.1, .int .i64 p.2.2.2]] w fun e w' => ∃ r, e = .returned (.tuple #[r, .bool (okEx xs p)]) ∧ OwnI w' r (mExchangeBlocks xs p) ∧ From w.heap.size r ∧ Below w.heap.size w w' := by
  obtain ⟨ad, cap, rfl, hc, _, _⟩ := hv.shape
  obtain ⟨W, hW⟩ : ∃ W, W = w.alloc (.cells #[.int .i64 p.1, .int .i64 p.2.1, .int .i64 p.2.2.1, .int .i64 p.2.2.2] 63) := ⟨_, rfl⟩
  have hz : Blk W w.heap.size 63 [.int .i64 p.1, .int .i64 p.2.1, .int .i64 p.2.2.1, .int .i64 p.2.2.2] := by rw [hW]; exact Blk.new w _ _ _ rfl
  have hb0 : Below w.heap.size w W := by rw [hW]; exact below_new w _
  have hvW := hv.below hb0 (Nat.le_refl _)
  have hzl := hz.lt
  have HW := Lib.hid hW
  clear hW
  have cg := IsStack_any _ _ W hvW hn
  cases hg : goodB xs with
  | true =>
    rw [hg] at cg
    have HL9 := (goodB_iff.1 hg).le9
    have cb := IsExchange_any (xs.length : Int) p
    cases hB : exB xs.length p with
    | true =>
      have HO := Lib.hid (show okEx xs p = true by unfold okEx; rw [hg, hB]; rfl)
      have HM := Lib.hid (show mExchangeBlocks xs p = exT xs p from if_pos HO.out)
      have HB := Lib.hid hB
      have HLN := Lib.hid (exT_length (xs := xs) hB)
      have hut := Try.underlying63
      have hsz : (Try.prog.info? 63).map (·.size) = some ([.int .i64 p.1, .int .i64 p.2.1, .int .i64 p.2.2.1, .int .i64 p.2.2.2] : List Value).length := infoExchange
      rw [hB] at cb
      clear hg hB
      go_enter Try.func69, Try.ntmps69
      go_wp2_with fail
      rw [← HW.out]
      refine cg.mono ?_
      rintro e w1 ⟨rfl, hb1⟩
      have hz1 := hz.below hb1 hzl
      have hB1 := hb0.trans (hb1.mono hb0.size)
      have k0 : w1.cell? ⟨w.heap.size, 0, none⟩ = some (.int .i64 p.1) := hz1.cell 0
      have k1 : w1.cell? ⟨w.heap.size, 1, none⟩ = some (.int .i64 p.2.1) := hz1.cell 1
      have k2 : w1.cell? ⟨w.heap.size, 2, none⟩ = some (.int .i64 p.2.2.1) := hz1.cell 2
      have k3 : w1.cell? ⟨w.heap.size, 3, none⟩ = some (.int .i64 p.2.2.2) := hz1.cell 3
      clear hb1 hz
      go_wp2_with fail
      refine (cb _).mono ?_
      rintro e w2 ⟨rfl, hb2⟩
      have hz2 := hz1.below hb2 hz1.lt
      have hB2 := hB1.trans (hb2.mono hB1.size)
      have hv2 := hv.below hB2 (Nat.le_refl _)
      have hl2 := hz2.lt
      clear cg cb hvW hz1 hb2 k0 k1 k2 k3 hB1
      go_wp2_with fail
      refine wp_region_held_drew (S := (fun w' => w'.rangeAt w.heap.size 0 [.int .i64 p.1, .int .i64 p.2.1, .int .i64 p.2.2.1, .int .i64 p.2.2.2] ∧ Below w.heap.size w w' ∧ w.heap.size < w'.heap.size)) (by kernel_rfl) (⟨hz2.range, hB2.drew, hl2⟩) (fun hHeld => ?_)
      refine wpAnyH_take (i := 0) (v := ?_) rfl (by kernel_rfl) (by kernel_rfl) (by kernel_rfl) (fun _ _ _ h => h) (Or.inl ⟨by rfl, ?_⟩) (by assumption) ?_
      rotate_left
      · intro w _; go_simp; with_reducible rfl
      try simp only [List.getElem_toArray, List.getElem_cons_zero, Act.put, List.setIfInBounds_toArray, List.set_cons_zero, List.set_cons_succ]
      refine wpAnyH_take (i := 2) rfl (by kernel_rfl) (by kernel_rfl) (by kernel_rfl) (fun _ _ _ h => h) (yieldsIf_load_mid (by rfl) _ _ rfl _ _ rfl _ _ (fun w hw => hw.1) hut rfl hsz) (by assumption) ?_
      try simp only [List.getElem_toArray, List.getElem_cons_zero, List.getElem_cons_succ, Act.put, List.setIfInBounds_toArray, List.set_cons_zero, List.set_cons_succ]
      refine wpAnyH_take (i := 4) (v := ?_) rfl (by kernel_rfl) (by kernel_rfl) (by kernel_rfl) (fun _ _ _ h => h) (Or.inl ⟨by rfl, ?_⟩) (by assumption) ?_
      rotate_left
      · intro w _; go_simp; with_reducible rfl
      try simp only [List.getElem_toArray, List.getElem_cons_zero, List.getElem_cons_succ, Act.put, List.setIfInBounds_toArray, List.set_cons_zero, List.set_cons_succ]
      refine wpAnyH_take (i := 5) (v := ?_) rfl (by kernel_rfl) (by kernel_rfl) (by kernel_rfl) (fun _ _ _ h => h) (Or.inl ⟨by rfl, ?_⟩) (by assumption) ?_
      rotate_left
      · intro w _; go_simp; with_reducible rfl
      try simp only [List.getElem_toArray, List.getElem_cons_zero, List.getElem_cons_succ, Act.put, List.setIfInBounds_toArray, List.set_cons_zero, List.set_cons_succ]
      refine wpAnyH_ready (rs := [1]) (by kernel_rfl) (by simp) ?_
      refine AllReadyH.cons rfl (fun K hK => ?_) AllReadyH.nil
      go_simp
      refine (towerOf_any _ xs _ (hv.below hHeld.2.1 (Nat.le_refl _)) HL9).mono ?_
      rintro e w3 ⟨rfl, hb3⟩
      go_wp2_with fail
      refine hK.out _ _ (⟨range_below hHeld.1 hb3 hHeld.2.2, hHeld.2.1.trans (hb3.mono hHeld.2.1.size), Nat.lt_of_lt_of_le hHeld.2.2 hb3.size⟩) (fun hHeld => ?_)
      clear hK K
      try simp only [List.getElem_toArray, List.getElem_cons_zero, List.getElem_cons_succ, Act.put, List.setIfInBounds_toArray, List.set_cons_zero, List.set_cons_succ]
      refine wpAnyH_ready (rs := [3]) (by kernel_rfl) (by simp) ?_
      refine AllReadyH.cons rfl (fun K hK => ?_) AllReadyH.nil
      go_simp
      refine (exchanged_any xs (xs.length : Int) p _ HL9 HB (Lib.hid rfl)).mono ?_
      rintro e w4 ⟨rfl, hb4⟩
      go_wp2_with fail
      refine hK.out _ _ (⟨range_below hHeld.1 hb4 hHeld.2.2, hHeld.2.1.trans (hb4.mono hHeld.2.1.size), Nat.lt_of_lt_of_le hHeld.2.2 hb4.size⟩) (fun hHeld => ?_)
      clear hK K
      try simp only [List.getElem_toArray, List.getElem_cons_zero, List.getElem_cons_succ, Act.put, List.setIfInBounds_toArray, List.set_cons_zero, List.set_cons_succ]
      have hs4 := hHeld.2.1.size
      refine wpAnyH_ready (rs := [6]) (by kernel_rfl) (by simp) ?_
      refine AllReadyH.cons rfl (fun K hK => ?_) AllReadyH.nil
      go_simp
      refine (list_any (exT xs p) xs.length _ HLN.out HL9).mono ?_
      rintro e w5 ⟨r5, rfl, ho5, hf5, hb5⟩
      go_wp2_with fail
      refine hK.out _ _ (⟨range_below hHeld.1 hb5 hHeld.2.2, hHeld.2.1.trans (hb5.mono hHeld.2.1.size), Nat.lt_of_lt_of_le hHeld.2.2 hb5.size⟩) (fun hHeld => ?_)
      clear hK K
      try simp only [List.getElem_toArray, List.getElem_cons_zero, List.getElem_cons_succ, Act.put, List.setIfInBounds_toArray, List.set_cons_zero, List.set_cons_succ]
      refine wpAnyH_take (i := 7) (v := ?_) rfl (by kernel_rfl) (by kernel_rfl) (by kernel_rfl) (fun _ _ _ h => h) (Or.inl ⟨by rfl, ?_⟩) (by assumption) ?_
      rotate_left
      · intro w _; go_simp; with_reducible rfl
      try simp only [List.getElem_toArray, List.getElem_cons_zero, List.getElem_cons_succ, Act.put, List.setIfInBounds_toArray, List.set_cons_zero, List.set_cons_succ]
      refine wpAnyH_take (i := 8) (v := ?_) rfl (by kernel_rfl) (by kernel_rfl) (by kernel_rfl) (fun _ _ _ h => h) (Or.inl ⟨by rfl, ?_⟩) (by assumption) ?_
      rotate_left
      · intro w _; go_simp; with_reducible rfl
      try simp only [List.getElem_toArray, List.getElem_cons_zero, List.getElem_cons_succ, Act.put, List.setIfInBounds_toArray, List.set_cons_zero, List.set_cons_succ]
      refine wpAnyH_done (by kernel_rfl) ?_ _
      have hf5' := hf5.mono hs4
      have hB5 := hHeld.2.1
      go_wp2
      go_ret2
      exact ⟨_, by rw [HO.out]; rfl, by rw [HM.out]; exact ho5, hf5', hB5⟩
    | false =>
      have HO := Lib.hid (show okEx xs p = false by unfold okEx; rw [hg, hB]; rfl)
      have HM := Lib.hid (show mExchangeBlocks xs p = [] from if_neg (by rw [HO.out]; exact Bool.false_ne_true))
      rw [hB] at cb
      clear hg hB
      go_enter Try.func69, Try.ntmps69
      go_wp2_with fail
      rw [← HW.out]
      refine cg.mono ?_
      rintro e w1 ⟨rfl, hb1⟩
      have hz1 := hz.below hb1 hzl
      have hB1 := hb0.trans (hb1.mono hb0.size)
      have k0 : w1.cell? ⟨w.heap.size, 0, none⟩ = some (.int .i64 p.1) := hz1.cell 0
      have k1 : w1.cell? ⟨w.heap.size, 1, none⟩ = some (.int .i64 p.2.1) := hz1.cell 1
      have k2 : w1.cell? ⟨w.heap.size, 2, none⟩ = some (.int .i64 p.2.2.1) := hz1.cell 2
      have k3 : w1.cell? ⟨w.heap.size, 3, none⟩ = some (.int .i64 p.2.2.2) := hz1.cell 3
      go_wp2_with fail
      refine (cb _).mono ?_
      rintro e w2 ⟨rfl, hb2⟩
      have hB2 := hB1.trans (hb2.mono hB1.size)
      go_wp2
      go_ret2
      exact ⟨_, by rw [HO.out]; rfl, by rw [HM.out]; exact OwnI.nil _, From.nil _ _ _, hB2⟩
  | false =>
    rw [hg] at cg
    have HO := Lib.hid (show okEx xs p = false by unfold okEx; rw [hg]; rfl)
    have HM := Lib.hid (show mExchangeBlocks xs p = [] from if_neg (by rw [HO.out]; exact Bool.false_ne_true))
    clear hg
    go_enter Try.func69, Try.ntmps69
    go_wp2_with fail
    rw [← HW.out]
    refine cg.mono ?_
    rintro e w1 ⟨rfl, hb1⟩
    have hB1 := hb0.trans (hb1.mono hb0.size)
    go_wp2
    go_ret2
    exact ⟨_, by rw [HO.out]; rfl, by rw [HM.out]; exact OwnI.nil _, From.nil _ _ _, hB1⟩

theorem MoveBlock_any (v : Value) (xs : List Int) (p : Int × Int × Int) (w : World) (hv : OwnI w v xs) (hn : xs.length ≤ 1048576) :
    Calls Try.prog 48 #[v, .agg #[.int .i64 p.1, .int .i64 p.2.1, .int .i64 p.2.2]] w fun e w' => ∃ r, e = .returned (.tuple #[r, .bool (okBk xs p)]) ∧ OwnI w' r (mMoveBlock xs p) ∧ From w.heap.size r ∧ Below w.heap.size w w' := by
  have hb0 : Below w.heap.size w (w.alloc (.cells #[.int .i64 p.1, .int .i64 p.2.1, .int .i64 p.2.2] 45)) := below_new w _
  have hva := hv.alloc (.cells #[.int .i64 p.1, .int .i64 p.2.1, .int .i64 p.2.2] 45)
  have HO := Lib.hid (okEx_touch xs p)
  have HM := Lib.hid (mEx_touch xs p)
  go_enter Try.func48, Try.ntmps48
  go_wp2_with fail
  refine (touching_any p _).mono ?_
  rintro e w1 ⟨rfl, hb1⟩
  have hB1 := hb0.trans (hb1.mono hb0.size)
  have hv1 := hva.same hb1
  clear hva hb1
  go_wp2_with fail
  refine (ExchangeBlocks_any v xs (touchL p) w1 hv1 hn).mono ?_
  rintro e w2 ⟨r, rfl, ho, hf, hb2⟩
  rw [HO.out]
  rw [HM.out] at ho
  have hf' := hf.mono hB1.size
  have hB2 := hB1.trans (hb2.mono hB1.size)
  go_wp2
  go_ret2
  exact ⟨_, rfl, ho, hf', hB2⟩

theorem results_cell_tmp {fn : Func} {p q : Tmp} {t : TypeId} (h : fn.results = #[.cell p t, .tmp q]) (tmps : Array Value) (w : World) (v : Value) (a : Addr)
    (hp : tmps.getD p undef = .pointer (some a)) (hl : (loadVar t a).run Try.prog w = .ok v w) : (results fn tmps).run Try.prog w = .ok (.tuple #[v, tmps.getD q undef]) w := by
  have hp' : tmps[p]?.getD undef = .pointer (some a) := by simpa using hp
  simp [results, h, hp', asAddr, hl]
end Go.Proofs.Ytkeenoklghkonaa
