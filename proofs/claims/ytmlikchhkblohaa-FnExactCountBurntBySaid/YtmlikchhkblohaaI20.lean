import Derived.Test.YtmlikchhkblohaaI5
import Derived.Test.YtmlikchhkblohaaI16
import Derived.Test.YtmlikchhkblohaaM11
import Derived.Lib.MinMax
namespace Go.Proofs.Ytmlikchhkblohaa
open Go Go.RowKit Go.Pan

set_option maxRecDepth 100000 in
set_option maxHeartbeats 400000 in
theorem withoutSides_any (v : Value) (xs : List Int) (w : World) (hv : OwnI w v xs) (hn : xs.length ≤ 1048576) :
    Calls Try.prog 189 #[v] w fun e w' => ∃ r, e = .returned r ∧ OwnI w' r (sidesL xs) ∧ From w.heap.size r ∧ Below w.heap.size w w' := by
  obtain ⟨ad, cap, rfl, hc, _, _⟩ := hv.shape
  have HL := Lib.hid (sidesL_length xs)
  obtain ⟨i0, hi, hz0, hz1, hz2⟩ := info_parts Try.info3
  go_enter Try.func189, Try.ntmps189
  go_wp2_with (at_make; refine wpList_make_full _ rfl _ _ 22 rfl w.heap.size 3 i0 (.int .i64 0) 1 Try.underlying22 hi hz0 hz1 _ _ _ _ xs.length rfl rfl rfl rfl ?b1 ?b2 ?b3 ?_)
  case b1 => rw [hz2]; omega
  case b2 => unfold maxLen; omega
  case b3 => exact Nat.le_refl _
  intro w1 hown hgrow
  have ho0 : OwnI w1 (.slice (some ⟨w.heap.size, 0, none⟩) xs.length xs.length) (fillTo (sidesL xs) 0) := by rw [fillTo_zero, HL.out]; exact OwnI.of_made hown
  have hb0 : Below w.heap.size w w1 := (Below.refl _ _).grown hgrow (Nat.le_refl _) (by intro k hk; cases hk)
  clear hi hz0 hz1 hz2 hgrow hown
  go_wp2
  go_loopw [4, 5, 11] (fun _ _ i wr => ∃ k : Nat, k ≤ xs.length ∧ i = .int .i64 k ∧ OwnI wr (.slice (some ⟨w.heap.size, 0, none⟩) xs.length xs.length) (fillTo (sidesL xs) k) ∧ Below w.heap.size w wr) (fun _ _ i _ => xs.length - (intOf i).toNat)
  case atStart => exact ⟨0, Nat.zero_le _, rfl, ho0, hb0⟩
  case round =>
    obtain ⟨k, hk, rfl, ho, hbr⟩ := hrel
    by_cases hlt : k < xs.length
    · obtain ⟨g, off, rfl, hgl, hcell, hf⟩ := hv.at (by omega)
      have hck := hcell k (by omega)
      rw [List.getElem?_map, List.getElem?_eq_getElem hlt] at hck
      have hc1 := (hbr.cell (p := ⟨g, off + k, none⟩) hgl).trans hck
      obtain ⟨hd, hfd, hst⟩ := OwnI.cellAt ho k (by rw [fillTo_length _ _ (by rw [HL.out]; omega), HL.out]; exact hlt)
      have hst := hst (max xs[k] (wrap64 (-xs[k])))
      rw [fillTo_step (sidesL xs) k (by rw [HL.out]; exact hlt) (max xs[k] (wrap64 (-xs[k]))) (by simp only [sidesL, List.getElem_map, sizeW])] at hst
      have hb2 := hbr.setCell (p := ⟨w.heap.size, k, none⟩) (Nat.le_refl _) (iv (max xs[k] (wrap64 (-xs[k]))))
      clear hcell hf hck hv ho hbr ho0 hb0
      go_wp2
      go_roundw
      case rel => exact ⟨k + 1, by omega, by go_num, hst, hb2⟩
      case measure => simp [intOf] <;> omega
    · obtain rfl : k = xs.length := by omega
      have he : fillTo (sidesL xs) xs.length = sidesL xs := by have := fillTo_all (sidesL xs); rwa [HL.out] at this
      rw [he] at ho
      clear hv ho0 hb0 he
      have ho2 : Hid (OwnI wr (.slice (some ⟨w.heap.size, 0, none⟩) xs.length xs.length) (sidesL xs)) := Lib.hid ho
      clear ho
      go_wp2
      go_ret
      exact ⟨_, rfl, ho2.out, From.at _ _ _ _ _ (Nat.le_refl _), hbr⟩

theorem IsBurnt_any (v : Value) (xs : List Int) (w : World) (hv : OwnI w v xs) (hn : xs.length ≤ 1048576) (hw : Wf64 xs) :
    Calls Try.prog 168 #[v] w fun e w' => e = .returned (.bool (burntB xs)) ∧ Below w.heap.size w w' := by
  have hl : (sidesL xs).length ≤ 1048576 := by rw [sidesL_length]; exact hn
  have HW := Lib.hid (good_sides hw)
  clear hw
  go_enter Try.func168, Try.ntmps168
  go_wp2_with fail
  refine (withoutSides_any _ _ _ hv hn).mono ?_
  rintro e w1 ⟨r, rfl, ho, hf, hb⟩
  go_wp2_with fail
  refine (IsStack_any _ _ _ ho hl).mono ?_
  rintro e w2 ⟨rfl, hb2⟩
  go_wp2
  go_ret
  exact ⟨by rw [← HW.out]; rfl, hb.trans (hb2.mono hb.size)⟩

theorem twl_neg (ys : List Int) (j : Nat) (h : j < ys.length) : (twl (negTo ys j)).set j (iv (-ys[j])) = twl (negTo ys (j + 1)) := by
  rw [twl_set _ _ _ (by rw [negTo_length]; exact h), negTo_step ys j h]

set_option maxRecDepth 100000 in
set_option maxHeartbeats 800000 in
theorem turnedOver_any (xs : List Int) (k : Nat) (w : World) (h9 : xs.length ≤ 9) (hk : k ≤ xs.length) (hX : Hid (∀ x ∈ xs, -9 ≤ x ∧ x ≤ 9)) :
    Calls Try.prog 241 #[tw xs, .int .i64 k] w fun e w' => e = .returned (tw (bturnL xs k)) ∧ Below w.heap.size w w' := by
  have hbx : Blk ((w.alloc (.cells (twl xs).toArray 86)).alloc (.cells (twl []).toArray 86)) w.heap.size 86 (twl xs) := (Blk.new w _ (twl xs) _ rfl).alloc _
  have hz : Blk ((w.alloc (.cells (twl xs).toArray 86)).alloc (.cells (twl []).toArray 86)) (w.heap.size + 1) 86 (twl []) := Blk.new _ _ (twl []) _ (by simp)
  have hb0 : Below w.heap.size w ((w.alloc (.cells (twl xs).toArray 86)).alloc (.cells (twl []).toArray 86)) := ((Below.refl _ _).alloc (Nat.le_refl _) _).alloc (by simp) _
  have HT := Lib.hid (twl_length xs h9)
  obtain ⟨ys, hys⟩ : ∃ ys, turnL xs k = ys := ⟨_, rfl⟩
  have hyl : ys.length = xs.length := by rw [← hys, turnL_length]
  have hY9 : ys.length ≤ 9 := by omega
  have hky : k ≤ ys.length := by omega
  have HY := Lib.hid (show ∀ x ∈ ys, -9 ≤ x ∧ x ≤ 9 from fun x hx => hX.out x ((turnL_perm xs k).mem_iff.1 (by rw [hys]; exact hx)))
  have HTY := Lib.hid (twl_length ys hY9)
  have HYS := Lib.hid hys
  clear hyl hys
  go_enter Try.func241, Try.ntmps241
  go_wp2_with (first | (refine wpList_load_tower rfl _ rfl w.heap.size xs h9 rfl hbx ?_))
  refine (turned_any _ _ _ h9 hk).mono ?_
  rintro e w2 ⟨rfl, hb2⟩
  rw [HYS.out]
  have hbx2 := hbx.below hb2 hbx.lt
  have hz2 := hz.below hb2 hz.lt
  have hB2 := hb0.trans (hb2.mono hb0.size)
  clear hbx hz hb2 hb0
  go_wp2_with (first | (refine wpList_store_tower rfl _ _ rfl w.heap.size xs ys h9 hY9 rfl rfl hbx2 ?_; intro w3 hbT3 hgr3; have hz3 := hbT3.lt))
  have hzT3 := hz2.grown hgr3 (by simp)
  have hB3 := hB2.grown hgr3 hB2.size (by intro k hk; cases hk; exact Nat.le_refl _)
  clear hbx2 hz2 hgr3 hB2
  go_loopw [5, 10] (fun _ i wr => ∃ j : Nat, j ≤ k ∧ i = .int .i64 j ∧ Blk wr w.heap.size 86 (twl (negTo ys j)) ∧ Blk wr (w.heap.size + 1) 86 (twl []) ∧ Below w.heap.size w wr) (fun _ i _ => k - (intOf i).toNat)
  case atStart => exact ⟨0, Nat.zero_le _, rfl, by rw [negTo_zero]; exact hbT3, hzT3, hB3⟩
  case round =>
    obtain ⟨j, hj, rfl, ho, hz, hbr⟩ := hrel
    clear hbT3 hzT3 hB3
    have hN9 : (negTo ys j).length ≤ 9 := by rw [negTo_length]; exact hY9
    by_cases hlt : j < k
    · have hjl : j < ys.length := by omega
      have hjn : j < (negTo ys j).length := by rw [negTo_length]; exact hjl
      have hck := ho.cell j
      rw [twl_get _ j hjn, negTo_at ys j hjl] at hck
      have hfk := ho.frozen j
      have hx := HY.out _ (List.getElem_mem hjl)
      have hx1 := hx.1
      have hx2 := hx.2
      have hst := ho.set j (iv (-ys[j]))
      rw [twl_neg ys j hjl] at hst
      have hz' := hz.other (a := ⟨w.heap.size, j, none⟩) (by simp) (iv (-ys[j]))
      have hb' := hbr.setCell (p := ⟨w.heap.size, j, none⟩) (Nat.le_refl _) (iv (-ys[j]))
      have hj9 : (j : Int) < 9 := by omega
      clear hx ho hz hbr
      go_wp2
      go_roundw
      case rel => exact ⟨j + 1, by omega, by go_num, hst, hz', hb'⟩
      case measure => simp [intOf] <;> omega
    · obtain rfl : j = k := by omega
      have HB := Lib.hid (show negTo ys j = bturnL xs j by unfold bturnL; rw [HYS.out])
      rw [HB.out] at ho hN9
      have h9t := twl_length _ hN9
      have H9T := Lib.hid h9t
      clear h9t
      go_wp2_with (first | (refine wpList_load_tower rfl _ rfl w.heap.size (bturnL xs j) hN9 rfl ho ?_) | (refine wpList_store_tower rfl _ _ rfl (w.heap.size + 1) [] (bturnL xs j) (by simp) hN9 rfl rfl hz ?_; intro w5 hbT5 hgr5))
      have hB5 := hbr.grown hgr5 hbr.size (by intro k hk; cases hk; omega)
      exact bodyPost_ret (results_tower rfl _ _ (w.heap.size + 1) (bturnL xs j) hN9 rfl hbT5) rfl ⟨rfl, hB5⟩

end Go.Proofs.Ytmlikchhkblohaa

