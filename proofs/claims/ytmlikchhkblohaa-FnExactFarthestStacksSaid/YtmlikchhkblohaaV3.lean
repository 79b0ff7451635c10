import Derived.Test.YtmlikchhkblohaaV2
namespace Go.Pan
def extL (xs : List Int) : List Int := [0] ++ xs ++ [(xs.length : Int) + 1]
theorem extL_length (xs : List Int) : (extL xs).length = xs.length + 2 := by simp [extL]
theorem extL_get (xs : List Int) (i : Nat) (h : i < xs.length + 2) : (extL xs)[i]? = some (extD xs i) := by
  unfold extL extD below
  cases i with
  | zero => simp
  | succ j =>
    rw [if_neg (by omega), Nat.add_sub_cancel, List.append_assoc, List.getElem?_append_right (by simp), List.length_singleton, Nat.add_sub_cancel]
    by_cases hj : j < xs.length
    · rw [if_pos hj, List.getElem?_append_left hj, List.getElem?_eq_getElem hj, getD_eq hj]
    · rw [if_neg hj, List.getElem?_append_right (by omega), show j - xs.length = 0 by omega]; rfl
theorem extD_bd {xs : List Int} (hg : Good xs) (i : Nat) : 0 ≤ extD xs i ∧ extD xs i ≤ 10 := by
  have h9 := hg.le9
  unfold extD
  split
  · omega
  · have := below_bd hg (i - 1); omega

end Go.Pan

namespace Go.Proofs.Ytmlikchhkblohaa
open Go Go.RowKit Go.Pan

set_option maxHeartbeats 4000000 in
set_option maxRecDepth 100000 in
theorem sgBreaks_any (v : Value) (xs : List Int) (w : World) (hv : OwnI w v xs) (hg : Hid (Go.Pan.Good xs)) :
    Calls Try.prog 107 #[v] w fun e w' => ∃ r, e = .returned r ∧ OwnI w' r (brkL xs) ∧ From w.heap.size r ∧ Below w.heap.size w w' := by
  obtain ⟨ad, cap, rfl, hc, _, _⟩ := hv.shape
  have hl9 := hg.out.le9
  have hl1 := hg.out.1
  have hx1 : xs.length ≤ 1048576 := by omega
  have hva : OwnI (w.alloc (.cells #[.int .i64 0] 3)) (.slice ad xs.length cap) xs := hv.alloc _
  have hsrc := Own.src hva
  have hlit : OwnI (w.alloc (.cells #[.int .i64 0] 3)) (.slice (some ⟨w.heap.size, 0, none⟩) 1 1) [0] := OwnI.lit _ _ [0] 1 rfl (by omega) _ rfl
  have hb0 := below_new w (.cells #[.int .i64 0] 3)
  clear hv
  go_enter Try.func107, Try.ntmps107
  go_wp2_with (at_builtin; refine wpList_appI Try.intSl rfl _ _ rfl (.slice (some ⟨w.heap.size, 0, none⟩) 1 1) [0] rfl hlit w.heap.size (From.at _ _ _ _ _ (Nat.le_refl _)) ad xs.length cap xs rfl rfl hsrc w hb0 (by simp) (by simp) hx1 ?_)
  intro v1 w1 ho1 hf1 hb1 hg1
  have hl2 : ([0] ++ xs).length ≤ 1048576 := by simp; omega
  have hs1 := hb1.size
  clear hlit hsrc hva hg1 hb0
  go_wp2_with (at_builtin; refine wpList_app1 Try.intSl rfl _ _ rfl v1 ([0] ++ xs) rfl (ho1.alloc _) w.heap.size hf1 w1.heap.size ((xs.length : Int) + 1) rfl ?c1 w (hb1.alloc hs1 _) ?c2 hl2 ?_)
  case c1 => simp [go_sem]
  case c2 => simp; omega
  intro v2 w2 ho2 hf2 hb2 _
  replace ho2 : OwnI w2 v2 (extL xs) := ho2
  have HO2 := Lib.hid ho2
  obtain ⟨a2, c2', rfl, hcc, _, _⟩ := ho2.shape
  rw [extL_length] at hcc
  obtain ⟨g2, off2, rfl, hg2, hcell2, _⟩ := HO2.out.at (by omega)
  have HC2 := Lib.hid hcell2
  rw [extL_length] 
  have hs2 := hb2.size
  clear ho1 ho2 hf1 hf2 hb1 hcell2 hl2
  go_wp2
  go_loopw [4, 5] (fun o i wr => ∃ k : Nat, k ≤ xs.length + 1 ∧ i = .int .i64 (k : Int) ∧ OwnI wr o (brkTo xs k) ∧ From w2.heap.size o ∧ Below w2.heap.size w2 wr) (fun _ i _ => xs.length + 1 - (intOf i).toNat)
  case atStart => exact ⟨0, Nat.zero_le _, rfl, by simpa [brkTo] using OwnI.nil w2, From.nil _ _ _, Below.refl _ _⟩
  case round =>
    obtain ⟨k, hk, rfl, ho, hf, hbr⟩ := hrel
    by_cases hlt : k < xs.length + 1
    · have hle : (k : Int) ≤ xs.length := by omega
      have hlen : (brkTo xs k).length ≤ 1048576 := by have := brkTo_length xs k; omega
      have e0 := extL_get xs k (by omega)
      have e1 := extL_get xs (k + 1) (by omega)
      have h0 := HC2.out k (by rw [extL_length]; omega)
      have h1 := HC2.out (k + 1) (by rw [extL_length]; omega)
      rw [List.getElem?_map, e0] at h0
      rw [List.getElem?_map, e1] at h1
      have hc0 := (hbr.cell (p := ⟨g2, off2 + k, none⟩) hg2).trans h0
      have hc1 := (hbr.cell (p := ⟨g2, off2 + (k + 1), none⟩) hg2).trans h1
      have hd0 := extD_bd hg.out k
      have hd1 := extD_bd hg.out (k + 1)
      obtain ⟨x, hx⟩ : ∃ x, extD xs k = x := ⟨_, rfl⟩
      obtain ⟨y, hy⟩ : ∃ y, extD xs (k + 1) = y := ⟨_, rfl⟩
      have hB : brkB xs k = decide (1 < absI (x - y)) := by unfold brkB; rw [hx, hy]
      rw [hx] at hc0 hd0
      rw [hy] at hc1 hd1
      have hc0' : wr.cell? ⟨g2, off2 + k, none⟩ = some (.int .i64 x) := hc0
      have hc1' : wr.cell? ⟨g2, off2 + (k + 1), none⟩ = some (.int .i64 y) := hc1
      have hw1 : IntKind.i64.wrap ((k : Int) + 1) = (k : Int) + 1 := IntWalk.i64_in _ (by omega)
      have hw2 : IntKind.i64.wrap (x - y) = x - y := IntWalk.i64_in _ (by omega)
      have HW1 := Lib.hid hw1
      have HW2 := Lib.hid hw2
      have ht1 : ((k : Int) + 1).toNat = k + 1 := by omega
      have hp1 : (0 : Int) ≤ (k : Int) + 1 := by omega
      have hi1 : (k : Int) < (xs.length : Int) + 2 := by omega
      have hi2 : (k : Int) + 1 < (xs.length : Int) + 2 := by omega
      have cab := l1Abs_any (x - y)
      have hgr : g2 < wr.heap.size := Nat.lt_of_lt_of_le hg2 hbr.size
      have hsr := hbr.size
      have hxy : -1048576 ≤ x - y ∧ x - y ≤ 1048576 := by omega
      have HB := Lib.hid hB
      clear e0 e1 h0 h1 hc0 hc1 hx hy hB hw1 hw2
      go_wp2_with fail
      refine wp_region_held_drew (S := (fun w' => w'.cell? ⟨g2, off2 + k, none⟩ = some (.int .i64 x) ∧ w'.cell? ⟨g2, off2 + (k + 1), none⟩ = some (.int .i64 y) ∧ w' = wr.drew)) (by kernel_rfl) (⟨hc0', hc1', rfl⟩) (fun hHeld => ?_)
      refine wpAnyH_take (i := 0) (v := ?_) rfl (by kernel_rfl) (by kernel_rfl) (by kernel_rfl) (fun _ _ _ h => h) (Or.inl ⟨by rfl, ?_⟩) (by assumption) ?_
      rotate_left
      · intro w _; go_simp; with_reducible rfl
      try simp only [List.getElem_toArray, List.getElem_cons_zero, Act.put, List.setIfInBounds_toArray, List.set_cons_zero, List.set_cons_succ]
      refine wpAnyH_take (i := 1) (v := ?_) rfl (by kernel_rfl) (by kernel_rfl) (by kernel_rfl) (fun _ _ _ h => h) (Or.inl ⟨by rfl, ?_⟩) (by assumption) ?_
      rotate_left
      · intro w _; go_simp; with_reducible rfl
      try simp only [List.getElem_toArray, List.getElem_cons_zero, List.getElem_cons_succ, Act.put, List.setIfInBounds_toArray, List.set_cons_zero, List.set_cons_succ]
      refine wpAnyH_take (i := 2) (v := ?_) rfl (by kernel_rfl) (by kernel_rfl) (by kernel_rfl) (fun _ _ _ h => h) (Or.inl ⟨by rfl, ?_⟩) (by assumption) ?_
      rotate_left
      · intro w _; go_simp; with_reducible rfl
      try simp only [List.getElem_toArray, List.getElem_cons_zero, List.getElem_cons_succ, Act.put, List.setIfInBounds_toArray, List.set_cons_zero, List.set_cons_succ]
      refine wpAnyH_take (i := 3) (v := ?_) rfl (by kernel_rfl) (by kernel_rfl) (by kernel_rfl) (fun _ _ _ h => h) (Or.inl ⟨by rfl, ?_⟩) (by assumption) ?_
      rotate_left
      · intro w hSw; obtain ⟨hx0, hx1, _⟩ := hSw; (go_simp <;> with_reducible rfl)
      try simp only [List.getElem_toArray, List.getElem_cons_zero, List.getElem_cons_succ, Act.put, List.setIfInBounds_toArray, List.set_cons_zero, List.set_cons_succ]
      refine wpAnyH_take (i := 4) (v := ?_) rfl (by kernel_rfl) (by kernel_rfl) (by kernel_rfl) (fun _ _ _ h => h) (Or.inl ⟨by rfl, ?_⟩) (by assumption) ?_
      rotate_left
      · intro w _; go_simp; with_reducible rfl
      try simp only [List.getElem_toArray, List.getElem_cons_zero, List.getElem_cons_succ, Act.put, List.setIfInBounds_toArray, List.set_cons_zero, List.set_cons_succ]
      refine wpAnyH_take (i := 5) (v := ?_) rfl (by kernel_rfl) (by kernel_rfl) (by kernel_rfl) (fun _ _ _ h => h) (Or.inl ⟨by rfl, ?_⟩) (by assumption) ?_
      rotate_left
      · intro w _; go_simp; with_reducible rfl
      try simp only [List.getElem_toArray, List.getElem_cons_zero, List.getElem_cons_succ, Act.put, List.setIfInBounds_toArray, List.set_cons_zero, List.set_cons_succ]
      refine wpAnyH_take (i := 6) (v := ?_) rfl (by kernel_rfl) (by kernel_rfl) (by kernel_rfl) (fun _ _ _ h => h) (Or.inl ⟨by rfl, ?_⟩) (by assumption) ?_
      rotate_left
      · intro w _; go_simp; with_reducible rfl
      try simp only [List.getElem_toArray, List.getElem_cons_zero, List.getElem_cons_succ, Act.put, List.setIfInBounds_toArray, List.set_cons_zero, List.set_cons_succ]
      rw [HW1.out]
      refine wpAnyH_take (i := 7) (v := ?_) rfl (by kernel_rfl) (by kernel_rfl) (by kernel_rfl) (fun _ _ _ h => h) (Or.inl ⟨by rfl, ?_⟩) (by assumption) ?_
      rotate_left
      · intro w _; go_simp; with_reducible rfl
      try simp only [List.getElem_toArray, List.getElem_cons_zero, List.getElem_cons_succ, Act.put, List.setIfInBounds_toArray, List.set_cons_zero, List.set_cons_succ]
      refine wpAnyH_take (i := 8) (v := ?_) rfl (by kernel_rfl) (by kernel_rfl) (by kernel_rfl) (fun _ _ _ h => h) (Or.inl ⟨by rfl, ?_⟩) (by assumption) ?_
      rotate_left
      · intro w hSw; obtain ⟨hx0, hx1, _⟩ := hSw; (go_simp <;> with_reducible rfl)
      try simp only [List.getElem_toArray, List.getElem_cons_zero, List.getElem_cons_succ, Act.put, List.setIfInBounds_toArray, List.set_cons_zero, List.set_cons_succ]
      refine wpAnyH_take (i := 9) (v := ?_) rfl (by kernel_rfl) (by kernel_rfl) (by kernel_rfl) (fun _ _ _ h => h) (Or.inl ⟨by rfl, ?_⟩) (by assumption) ?_
      rotate_left
      · intro w _; go_simp; with_reducible rfl
      try simp only [List.getElem_toArray, List.getElem_cons_zero, List.getElem_cons_succ, Act.put, List.setIfInBounds_toArray, List.set_cons_zero, List.set_cons_succ]
      rw [HW2.out]
      refine wpAnyH_ready (rs := [10]) (by kernel_rfl) (by simp) ?_
      refine AllReadyH.cons rfl (fun K hK => ?_) AllReadyH.nil
      go_simp
      refine (cab _ hxy.1 hxy.2).mono ?_
      rintro e w5 ⟨rfl, rfl⟩
      go_wp2_with fail
      refine hK.out _ _ (⟨hHeld.1, hHeld.2.1, rfl⟩) (fun hHeld => ?_)
      clear hK K
      try simp only [List.getElem_toArray, List.getElem_cons_zero, List.getElem_cons_succ, Act.put, List.setIfInBounds_toArray, List.set_cons_zero, List.set_cons_succ]
      refine wpAnyH_take (i := 11) (v := ?_) rfl (by kernel_rfl) (by kernel_rfl) (by kernel_rfl) (fun _ _ _ h => h) (Or.inl ⟨by rfl, ?_⟩) (by assumption) ?_
      rotate_left
      · intro w _; go_simp; with_reducible rfl
      try simp only [List.getElem_toArray, List.getElem_cons_zero, List.getElem_cons_succ, Act.put, List.setIfInBounds_toArray, List.set_cons_zero, List.set_cons_succ]
      refine wpAnyH_done (by kernel_rfl) ?_ _
      have hoD := ho.drew
      have hbD := hbr.drew
      have hsD : w2.heap.size ≤ wr.drew.heap.size := hsr
      clear hc0' hc1' ho hbr hHeld cab
      cases hb : brkB xs k with
      | true =>
        have HS := Lib.hid (brkTo_yes hb)
        have hdec : decide (1 < absI (x - y)) = true := by rw [← HB.out]; exact hb
        rw [hdec]
        clear hb hdec
        go_wp2_with (at_builtin; refine wpList_app1 Try.intSl rfl _ _ rfl _ (brkTo xs k) rfl (hoD.alloc _) w2.heap.size hf wr.drew.heap.size (k : Int) rfl ?c3 w2 (hbD.alloc hsD _) ?c4 hlen ?_)
        case c3 => simp [go_sem]
        case c4 => simp; exact Nat.le_succ_of_le hsD
        intro v' w6 ho' hf' hb' _
        rw [← HS.out] at ho'
        clear hoD hbD
        go_wp2
        go_roundw
        case rel => exact ⟨k + 1, by omega, by go_num, ho', hf', hb'⟩
        case measure => simp [intOf] <;> omega
      | false =>
        have HS := Lib.hid (brkTo_no hb)
        have hdec : decide (1 < absI (x - y)) = false := by rw [← HB.out]; exact hb
        rw [hdec]
        clear hb hdec
        go_wp2
        go_roundw
        case rel => exact ⟨k + 1, by omega, by go_num, by rw [HS.out]; exact hoD, hf, hbD⟩
        case measure => simp [intOf] <;> omega
    · obtain rfl : k = xs.length + 1 := by omega
      have hgt : (xs.length : Int) < ((xs.length + 1 : Nat) : Int) := by omega
      have hB := hb2.trans (hbr.mono hs2)
      have hf' := hf.mono hs2
      have HO := Lib.hid (show OwnI wr u4 (brkL xs) from ho)
      clear ho hf hbr hb2
      go_wp2
      go_ret
      exact ⟨_, rfl, HO.out, hf', hB⟩

theorem sBreakPoints_any (v : Value) (xs : List Int) (w : World) (hv : OwnI w v xs) (hn : xs.length ≤ 1048576) :
    Calls Try.prog 60 #[v] w fun e w' => ∃ r, e = .returned (.tuple #[r, .bool (goodB xs)]) ∧ OwnI w' r (mBreakPoints xs) ∧ From w.heap.size r ∧ Below w.heap.size w w' := by
  have cg := stGood_any _ _ _ hv hn
  cases hg : goodB xs with
  | true =>
    have HM := Lib.hid (show mBreakPoints xs = brkL xs from if_pos hg)
    have HG := Lib.hid (goodB_iff.1 hg)
    rw [hg] at cg
    clear hg
    go_enter Try.func60, Try.ntmps60
    go_wp2_with fail
    refine (cg).mono ?_
    rintro e w1 ⟨rfl, hb⟩
    go_wp2_with fail
    refine (sgBreaks_any _ xs _ (hv.same hb) HG).mono ?_
    rintro e w2 ⟨r, rfl, ho, hf, hb2⟩
    go_wp2
    go_ret2
    exact ⟨_, rfl, by rw [HM.out]; exact ho, hf.mono hb.size, hb.trans (hb2.mono hb.size)⟩
  | false =>
    have HM := Lib.hid (show mBreakPoints xs = [] from if_neg (by rw [hg]; exact Bool.false_ne_true))
    rw [hg] at cg
    clear hg
    go_enter Try.func60, Try.ntmps60
    go_wp2_with fail
    refine (cg).mono ?_
    rintro e w1 ⟨rfl, hb⟩
    go_wp2
    go_ret2
    exact ⟨_, rfl, by rw [HM.out]; exact OwnI.nil _, From.nil _ _ _, hb⟩

theorem sSegmentBound_any (v : Value) (xs : List Int) (w : World) (hv : OwnI w v xs) (hn : xs.length ≤ 1048576) :
    Calls Try.prog 62 #[v] w fun e w' => e = .returned (.tuple #[.int .i64 (mSegmentBound xs), .bool (goodB xs)]) ∧ Below w.heap.size w w' := by
  have cg := stGood_any _ _ _ hv hn
  cases hg : goodB xs with
  | true =>
    have HM := Lib.hid (show mSegmentBound xs = (((brkL xs).length + 1) / 2 : Nat) from if_pos hg)
    have HG := Lib.hid (goodB_iff.1 hg)
    have hbl := brkL_length xs
    have h9 := HG.out.le9
    rw [hg] at cg
    clear hg
    go_enter Try.func62, Try.ntmps62
    go_wp2_with fail
    refine (cg).mono ?_
    rintro e w1 ⟨rfl, hb⟩
    go_wp2_with fail
    refine (sgBreaks_any _ xs _ (hv.same hb) HG).mono ?_
    rintro e w2 ⟨r, rfl, ho, hf, hb2⟩
    obtain ⟨a2, c2', rfl, _, _, _⟩ := ho.shape
    go_wp2
    go_ret2
    exact ⟨by rw [HM.out]; simp, hb.trans (hb2.mono hb.size)⟩
  | false =>
    have HM := Lib.hid (show mSegmentBound xs = 0 from if_neg (by rw [hg]; exact Bool.false_ne_true))
    rw [hg] at cg
    clear hg
    go_enter Try.func62, Try.ntmps62
    go_wp2_with fail
    refine (cg).mono ?_
    rintro e w1 ⟨rfl, hb⟩
    go_wp2
    go_ret2
    exact ⟨by rw [HM.out]; rfl, hb⟩

end Go.Proofs.Ytmlikchhkblohaa

