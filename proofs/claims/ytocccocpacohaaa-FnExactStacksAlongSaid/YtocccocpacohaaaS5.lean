import Derived.Test.YtocccocpacohaaaS4
namespace Go.Proofs.Ytocccocpacohaaa
open Go Go.RowKit Go.Pan

theorem invTo_step (xs : List Int) (k j : Nat) (hlt : k < xs.length) (h : xs[k] = (j : Int) + 1) : (invTo xs k).set j ((k : Int) + 1) = invTo xs (k + 1) := by
  show _ = (invTo xs k).set (xs.getD k 0 - 1).toNat ((k : Int) + 1)
  rw [getD_eq hlt, h]
  congr 1
  omega

set_option maxHeartbeats 400000 in
theorem stInverse_any (v : Value) (xs : List Int) (w : World) (hv : OwnI w v xs) (hn : xs.length ≤ 1048576) (hp : Hid (∀ k ∈ xs, 1 ≤ k ∧ k ≤ (xs.length : Int))) :
    Calls Try.prog 95 #[v] w fun e w' => ∃ r, e = .returned r ∧ OwnI w' r (invTo xs xs.length) ∧ From w.heap.size r ∧ Below w.heap.size w w' := by
  obtain ⟨ad, cap, rfl, hc, _, _⟩ := hv.shape
  obtain ⟨i0, hi, hz0, hz1, hz2⟩ := info_parts Try.info3
  go_enter Try.func95, Try.ntmps95
  go_wp2_with (at_make; refine wpList_make_full _ rfl _ _ 22 rfl w.heap.size 3 i0 (.int .i64 0) 1 Try.underlying22 hi hz0 hz1 _ _ _ _ xs.length rfl rfl rfl rfl ?b1 ?b2 ?b3 ?_)
  case b1 => rw [hz2]; omega
  case b2 => unfold maxLen; omega
  case b3 => exact Nat.le_refl _
  intro w1 hown hgrow
  have ho0 : OwnI w1 (.slice (some ⟨w.heap.size, 0, none⟩) xs.length xs.length) (invTo xs 0) := OwnI.of_made hown
  have hb0 : Below w.heap.size w w1 := (Below.refl _ _).grown hgrow (Nat.le_refl _) (by intro k hk; cases hk)
  clear hi hz0 hz1 hz2 hgrow hown
  go_wp2
  go_loopw [4, 5, 11] (fun _ _ i wr => ∃ k : Nat, k ≤ xs.length ∧ i = .int .i64 k ∧ OwnI wr (.slice (some ⟨w.heap.size, 0, none⟩) xs.length xs.length) (invTo xs k) ∧ Below w.heap.size w wr) (fun _ _ i _ => xs.length - (intOf i).toNat)
  case atStart => exact ⟨0, Nat.zero_le _, rfl, ho0, hb0⟩
  case round =>
    obtain ⟨k, hk, rfl, ho, hbr⟩ := hrel
    by_cases hlt : k < xs.length
    · obtain ⟨g, off, rfl, hgl, hcell, hf⟩ := hv.at (by omega)
      have hck := hcell k (by omega)
      rw [List.getElem?_map, List.getElem?_eq_getElem hlt] at hck
      have hc1 := (hbr.cell (p := ⟨g, off + k, none⟩) hgl).trans hck
      have hin := hp.out _ (List.getElem_mem hlt)
      obtain ⟨j, hj⟩ : ∃ j : Nat, xs[k] = (j : Int) + 1 := ⟨(xs[k] - 1).toNat, by omega⟩
      have hjl : j < xs.length := by omega
      obtain ⟨hd, hfd, hst⟩ := OwnI.cellAt ho j (by rw [invTo_length]; exact hjl)
      have hst := hst ((k : Int) + 1)
      rw [invTo_step xs k j hlt hj] at hst
      have hb2 := hbr.setCell (p := ⟨w.heap.size, j, none⟩) (Nat.le_refl _) (iv ((k : Int) + 1))
      have hc2 : wr.cell? ⟨g, off + k, none⟩ = some (iv ((j : Int) + 1)) := by rw [hc1, ← hj]; rfl
      clear hcell hf hck hc1 hv hj hin ho hbr ho0 hb0
      go_wp2
      go_roundw
      case rel => exact ⟨k + 1, by omega, by go_num, hst, hb2⟩
      case measure => simp [intOf] <;> omega
    · obtain rfl : k = xs.length := by omega
      clear hv ho0 hb0
      go_wp2
      go_ret
      exact ⟨_, rfl, ho, From.at _ _ _ _ _ (Nat.le_refl _), hbr⟩

theorem sInverseStack_any (v : Value) (xs : List Int) (w : World) (hv : OwnI w v xs) (hn : xs.length ≤ 1048576) :
    Calls Try.prog 56 #[v] w fun e w' => ∃ r, e = .returned (.tuple #[r, .bool (goodB xs)]) ∧ OwnI w' r (mInverseStack xs) ∧ From w.heap.size r ∧ Below w.heap.size w w' := by
  cases hg : goodB xs with
  | true =>
    have HM := Lib.hid (show mInverseStack xs = invTo xs xs.length from if_pos hg)
    have HP := Lib.hid (goodB_iff.1 hg).2.2.1
    go_enter Try.func56, Try.ntmps56
    go_wp2_with fail
    refine (stGood_any _ _ _ hv hn).mono ?_
    rintro e w1 ⟨rfl, hb⟩
    go_wp2_with fail
    refine (stInverse_any _ _ _ (hv.same hb) hn HP).mono ?_
    rintro e w2 ⟨r, rfl, ho, hf, hb2⟩
    go_wp2
    go_ret2
    exact ⟨_, rfl, by rw [HM.out]; exact ho, hf.mono hb.size, hb.trans (hb2.mono hb.size)⟩
  | false =>
    have HM := Lib.hid (show mInverseStack xs = [] from if_neg (by rw [hg]; exact Bool.false_ne_true))
    go_enter Try.func56, Try.ntmps56
    go_wp2_with fail
    refine (stGood_any _ _ _ hv hn).mono ?_
    rintro e w1 ⟨rfl, hb⟩
    go_wp2
    go_ret2
    exact ⟨_, rfl, by rw [HM.out]; exact OwnI.nil _, From.nil _ _ _, hb⟩

def SwapTo (xs : List Int) (k : Nat) : List Int := (swapL xs).take k
theorem swapL_length (xs : List Int) : (swapL xs).length = xs.length := by simp [swapL]
theorem SwapTo_step (xs : List Int) (k : Nat) (h : k < xs.length) : SwapTo xs k ++ [(xs.length : Int) + 1 - xs[k]] = SwapTo xs (k + 1) := by
  unfold SwapTo
  rw [List.take_succ_eq_append_getElem (by rw [swapL_length]; exact h)]
  simp [swapL]
theorem SwapTo_length (xs : List Int) (k : Nat) : (SwapTo xs k).length ≤ xs.length := by unfold SwapTo; rw [List.length_take, swapL_length]; omega

set_option maxHeartbeats 400000 in
theorem sSwapSizes_any (v : Value) (xs : List Int) (w : World) (hv : OwnI w v xs) (hn : xs.length ≤ 1048576) :
    Calls Try.prog 60 #[v] w fun e w' => ∃ r, e = .returned (.tuple #[r, .bool (goodB xs)]) ∧ OwnI w' r (mSwapSizes xs) ∧ From w.heap.size r ∧ Below w.heap.size w w' := by
  obtain ⟨ad, cap, rfl, hc, _, _⟩ := hv.shape
  cases hg : goodB xs with
  | true =>
    have HM := Lib.hid (show mSwapSizes xs = swapL xs from if_pos hg)
    have HP := Lib.hid (goodB_iff.1 hg).2.2.1
    have h9 := (goodB_iff.1 hg).le9
    go_enter Try.func60, Try.ntmps60
    go_wp2_with fail
    refine (stGood_any _ _ _ hv hn).mono ?_
    rintro e w1 ⟨rfl, hb⟩
    go_wp2
    go_loopw [4, 6, 12] (fun o _ i wr => ∃ k : Nat, k ≤ xs.length ∧ i = .int .i64 k ∧ OwnI wr o (SwapTo xs k) ∧ From w.heap.size o ∧ Below w.heap.size w wr) (fun _ _ i _ => xs.length - (intOf i).toNat)
    case atStart => exact ⟨0, Nat.zero_le _, rfl, by simpa [SwapTo] using OwnI.nil w1, From.nil _ _ _, hb⟩
    case round =>
      obtain ⟨k, hk, rfl, ho, hf, hbr⟩ := hrel
      by_cases hlt : k < xs.length
      · obtain ⟨g, off, rfl, hgl, hcell, hfz⟩ := hv.at (by omega)
        have hck := hcell k (by omega)
        rw [List.getElem?_map, List.getElem?_eq_getElem hlt] at hck
        have hc1 := (hbr.cell (p := ⟨g, off + k, none⟩) hgl).trans hck
        have hin := HP.out _ (List.getElem_mem hlt)
        have h1 := hin.1
        have h2 := hin.2
        have HS := Lib.hid (SwapTo_step xs k hlt)
        have hlen : (SwapTo xs k).length ≤ 1048576 := by have := SwapTo_length xs k; omega
        clear hcell hfz hck hv hin hb
        go_wp2_with (at_builtin; refine wpList_app1 Try.intSl rfl _ _ rfl _ (SwapTo xs k) rfl (ho.alloc _) w.heap.size hf wr.heap.size ((xs.length : Int) + 1 - xs[k]) rfl ?c1 w (hbr.alloc hbr.size _) ?c2 hlen ?_)
        case c1 => simp [go_sem]
        case c2 => simp; exact Nat.le_succ_of_le hbr.size
        intro v' w1 ho' hf' hb' _
        rw [HS.out] at ho'
        clear HS ho hf hbr hc1
        go_wp2
        go_roundw
        case rel => exact ⟨k + 1, by omega, by go_num, ho', hf', hb'⟩
        case measure => simp [intOf] <;> omega
      · obtain rfl : k = xs.length := by omega
        have he : SwapTo xs xs.length = swapL xs := by unfold SwapTo; rw [List.take_of_length_le (by rw [swapL_length]; exact Nat.le_refl _)]
        rw [he] at ho
        clear hv he hb
        go_wp2
        go_ret2
        exact ⟨_, rfl, by rw [HM.out]; exact ho, hf, hbr⟩
  | false =>
    have HM := Lib.hid (show mSwapSizes xs = [] from if_neg (by rw [hg]; exact Bool.false_ne_true))
    go_enter Try.func60, Try.ntmps60
    go_wp2_with fail
    refine (stGood_any _ _ _ hv hn).mono ?_
    rintro e w1 ⟨rfl, hb⟩
    go_wp2
    go_ret2
    exact ⟨_, rfl, by rw [HM.out]; exact OwnI.nil _, From.nil _ _ _, hb⟩

def okSame (n : Int) (a b : List Int) : Bool := planB n a && planB n b
theorem mSame_eq {n : Nat} {a b : List Int} (ha : planB n a = true) (hb : planB n b = true) : mSamePlans n a b = decide (playL (ramp 1 n) a = playL (ramp 1 n) b) := by
  unfold mSamePlans
  rw [ha, hb]
  simp

theorem sAreSamePlans_any (n : Int) (v : Value) (xs : List Int) (u : Value) (ys : List Int) (w : World) (hv : OwnI w v xs) (hn : xs.length ≤ 1048576) (hu : OwnI w u ys) (hm : ys.length ≤ 1048576) :
    Calls Try.prog 64 #[.int .i64 n, v, u] w fun e w' => e = .returned (.tuple #[.bool (mSamePlans n xs ys), .bool (okSame n xs ys)]) ∧ Below w.heap.size w w' := by
  cases hg : planB n xs with
  | true =>
    cases hi : planB n ys with
    | true =>
      have hp := planB_iff.1 hg
      have hq := planB_iff.1 hi
      obtain ⟨m, rfl⟩ : ∃ m : Nat, n = m := ⟨n.toNat, by have := hp.1; omega⟩
      have h9 : m ≤ 9 := by have := hp.1; omega
      have HP := Lib.hid (show ∀ k ∈ xs, 1 ≤ k ∧ k ≤ ((ramp 1 m).length : Int) by rw [ramp_length]; exact hp.2.2)
      have HQ := Lib.hid (show ∀ k ∈ ys, 1 ≤ k ∧ k ≤ ((ramp 1 m).length : Int) by rw [ramp_length]; exact hq.2.2)
      have HM := Lib.hid (mSame_eq hg hi)
      have HO := Lib.hid (show okSame m xs ys = true by unfold okSame; rw [hg, hi]; rfl)
      have hlr : (ramp 1 m).length ≤ 1048576 := by rw [ramp_length]; omega
      have hla : (playL (ramp 1 m) xs).length ≤ 1048576 := by rw [playL_length]; exact hlr
      have hlb : (playL (ramp 1 m) ys).length ≤ 1048576 := by rw [playL_length]; exact hlr
      clear hp hq
      go_enter Try.func64, Try.ntmps64
      go_wp2_with fail
      refine (stPlan_any _ _ xs _ hv hn).mono ?_
      rintro e w1 ⟨rfl, hb⟩
      go_wp2_with fail
      refine (stPlan_any _ _ ys _ (hu.same hb) hm).mono ?_
      rintro e w2 ⟨rfl, hb2⟩
      have hv2 := (hv.same hb).same hb2
      have hu2 := (hu.same hb).same hb2
      go_wp2_with fail
      refine (stFirst_any m _ (by omega)).mono ?_
      rintro e w3 ⟨r3, rfl, ho3, hf3, hb3⟩
      go_wp2_with fail
      refine (stPlay_any _ _ _ _ _ ho3 hlr (hv2.same hb3) hn HP).mono ?_
      rintro e w4 ⟨r4, rfl, ho4, hf4, hb4⟩
      go_wp2_with fail
      refine (stFirst_any m _ (by omega)).mono ?_
      rintro e w5 ⟨r5, rfl, ho5, hf5, hb5⟩
      go_wp2_with fail
      refine (stPlay_any _ _ _ _ _ ho5 hlr (((hu2.same hb3).same hb4).same hb5) hm HQ).mono ?_
      rintro e w6 ⟨r6, rfl, ho6, hf6, hb6⟩
      go_wp2_with fail
      refine (stSame_any _ _ _ _ _ ((ho4.same hb5).same hb6) hla ho6 hlb).mono ?_
      rintro e w7 ⟨rfl, hb7⟩
      have hB2 := hb.trans (hb2.mono hb.size)
      have hB3 := hB2.trans (hb3.mono hB2.size)
      have hB4 := hB3.trans (hb4.mono hB3.size)
      have hB5 := hB4.trans (hb5.mono hB4.size)
      have hB6 := hB5.trans (hb6.mono hB5.size)
      have hB7 := hB6.trans (hb7.mono hB6.size)
      go_wp2
      go_ret2
      exact ⟨by rw [HM.out, HO.out]; rfl, hB7⟩
    | false =>
      have HM := Lib.hid (show mSamePlans n xs ys = false by unfold mSamePlans; rw [hg, hi]; rfl)
      have HO := Lib.hid (show okSame n xs ys = false by unfold okSame; rw [hg, hi]; rfl)
      go_enter Try.func64, Try.ntmps64
      go_wp2_with fail
      refine (stPlan_any _ _ xs _ hv hn).mono ?_
      rintro e w1 ⟨rfl, hb⟩
      go_wp2_with fail
      refine (stPlan_any _ _ ys _ (hu.same hb) hm).mono ?_
      rintro e w2 ⟨rfl, hb2⟩
      go_wp2
      go_ret2
      exact ⟨by rw [HM.out, HO.out]; rfl, hb.trans (hb2.mono hb.size)⟩
  | false =>
    have HM := Lib.hid (show mSamePlans n xs ys = false by unfold mSamePlans; rw [hg]; rfl)
    have HO := Lib.hid (show okSame n xs ys = false by unfold okSame; rw [hg]; rfl)
    go_enter Try.func64, Try.ntmps64
    go_wp2_with fail
    refine (stPlan_any _ _ xs _ hv hn).mono ?_
    rintro e w1 ⟨rfl, hb⟩
    go_wp2
    go_ret2
    exact ⟨by rw [HM.out, HO.out]; rfl, hb⟩

end Go.Proofs.Ytocccocpacohaaa
