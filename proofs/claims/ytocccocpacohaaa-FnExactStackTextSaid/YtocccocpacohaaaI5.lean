import Derived.Test.YtocccocpacohaaaI4
import Derived.Test.YtocccocpacohaaaS5
import Derived.Test.YtocccocpacohaaaTw
namespace Go.Proofs.Ytocccocpacohaaa
open Go Go.RowKit Go.Pan

set_option maxHeartbeats 400000 in
theorem InverseStack_any (v : Value) (xs : List Int) (w : World) (hv : OwnI w v xs) (hn : xs.length ≤ 1048576) :
    Calls Try.prog 57 #[v] w fun e w' => ∃ r, e = .returned (.tuple #[r, .bool (goodB xs)]) ∧ OwnI w' r (mInverseStack xs) ∧ From w.heap.size r ∧ Below w.heap.size w w' := by
  obtain ⟨ad, cap, rfl, hc, _, _⟩ := hv.shape
  cases hg : goodB xs with
  | true =>
    have HM := Lib.hid (show mInverseStack xs = invTo xs xs.length from if_pos hg)
    have hp := Lib.hid (goodB_iff.1 hg).2.2.1
    obtain ⟨i0, hi, hz0, hz1, hz2⟩ := info_parts Try.info3
    go_enter Try.func57, Try.ntmps57
    go_wp2_with fail
    refine (IsStack_any _ _ _ hv hn).mono ?_
    rintro e w0 ⟨rfl, hb⟩
    go_wp2_with (at_make; refine wpList_make_full _ rfl _ _ 22 rfl w0.heap.size 3 i0 (.int .i64 0) 1 Try.underlying22 hi hz0 hz1 _ _ _ _ xs.length rfl rfl rfl rfl ?b1 ?b2 ?b3 ?_)
    case b1 => rw [hz2]; omega
    case b2 => unfold maxLen; omega
    case b3 => exact Nat.le_refl _
    intro w1 hown hgrow
    have ho0 : OwnI w1 (.slice (some ⟨w0.heap.size, 0, none⟩) xs.length xs.length) (invTo xs 0) := OwnI.of_made hown
    have hb0 : Below w.heap.size w w1 := hb.grown hgrow hb.size (by intro k hk; cases hk)
    have hs0 := hb.size
    clear hi hz0 hz1 hz2 hgrow hown hb
    go_wp2
    go_loopw [5, 6, 15] (fun _ _ i wr => ∃ k : Nat, k ≤ xs.length ∧ i = .int .i64 k ∧ OwnI wr (.slice (some ⟨w0.heap.size, 0, none⟩) xs.length xs.length) (invTo xs k) ∧ Below w.heap.size w wr) (fun _ _ i _ => xs.length - (intOf i).toNat)
    case atStart => exact ⟨0, Nat.zero_le _, rfl, ho0, hb0⟩
    case round =>
      obtain ⟨k, hk, rfl, ho, hbr⟩ := hrel
      by_cases hlt : k < xs.length
      · obtain ⟨g, off, rfl, hgl, hcell, hf⟩ := hv.at (by omega)
        have hck := hcell k (by omega)
        rw [List.getElem?_map, List.getElem?_eq_getElem hlt] at hck
        have hc1 := (hbr.cell (p := ⟨g, off + k, none⟩) hgl).trans hck
        have hin := hp.out _ (List.getElem_mem hlt)
        obtain ⟨j, hj⟩ : ∃ j : Nat, xs[k] = (j : Int) + 1 := ⟨(xs[k] - 1).toNat, by omega⟩
        have hjl : j < xs.length := by omega
        obtain ⟨hd, hfd, hst⟩ := OwnI.cellAt ho j (by rw [invTo_length]; exact hjl)
        have hst := hst ((k : Int) + 1)
        rw [invTo_step xs k j hlt hj] at hst
        have hb2 := hbr.setCell (p := ⟨w0.heap.size, j, none⟩) hs0 (iv ((k : Int) + 1))
        have hc2 : wr.cell? ⟨g, off + k, none⟩ = some (iv ((j : Int) + 1)) := by rw [hc1, ← hj]; rfl
        clear hcell hf hck hc1 hv hj hin ho hbr ho0 hb0
        go_wp2
        go_roundw
        case rel => exact ⟨k + 1, by omega, by go_num, hst, hb2⟩
        case measure => simp [intOf] <;> omega
      · obtain rfl : k = xs.length := by omega
        clear hv ho0 hb0
        go_wp2
        go_ret2
        exact ⟨_, rfl, by rw [HM.out]; exact ho, From.at _ _ _ _ _ hs0, hbr⟩
  | false =>
    have HM := Lib.hid (show mInverseStack xs = [] from if_neg (by rw [hg]; exact Bool.false_ne_true))
    go_enter Try.func57, Try.ntmps57
    go_wp2_with fail
    refine (IsStack_any _ _ _ hv hn).mono ?_
    rintro e w1 ⟨rfl, hb⟩
    go_wp2
    go_ret2
    exact ⟨_, rfl, by rw [HM.out]; exact OwnI.nil _, From.nil _ _ _, hb⟩

/-- a list as far as it has been filled, zeros behind -/
def fillTo (ys : List Int) (k : Nat) : List Int := ys.take k ++ List.replicate (ys.length - k) 0
theorem fillTo_length (ys : List Int) (k : Nat) (h : k ≤ ys.length) : (fillTo ys k).length = ys.length := by simp [fillTo]; omega
theorem fillTo_zero (ys : List Int) : fillTo ys 0 = List.replicate ys.length 0 := by simp [fillTo]
theorem fillTo_all (ys : List Int) : fillTo ys ys.length = ys := by simp [fillTo]
theorem fillTo_step (ys : List Int) (k : Nat) (h : k < ys.length) (x : Int) (hx : ys[k] = x) : (fillTo ys k).set k x = fillTo ys (k + 1) := by
  unfold fillTo
  have e : List.replicate (ys.length - k) (0 : Int) = 0 :: List.replicate (ys.length - (k + 1)) 0 := by
    rw [← List.replicate_succ]; congr 1; omega
  have e2 : k - (ys.take k).length = 0 := by simp; omega
  rw [e, List.set_append_right _ _ (by simp; omega), e2, List.set_cons_zero, List.take_succ_eq_append_getElem h, List.append_assoc, hx]
  rfl

set_option maxHeartbeats 400000 in
theorem SwapSizes_any (v : Value) (xs : List Int) (w : World) (hv : OwnI w v xs) (hn : xs.length ≤ 1048576) :
    Calls Try.prog 61 #[v] w fun e w' => ∃ r, e = .returned (.tuple #[r, .bool (goodB xs)]) ∧ OwnI w' r (mSwapSizes xs) ∧ From w.heap.size r ∧ Below w.heap.size w w' := by
  obtain ⟨ad, cap, rfl, hc, _, _⟩ := hv.shape
  cases hg : goodB xs with
  | true =>
    have HM := Lib.hid (show mSwapSizes xs = swapL xs from if_pos hg)
    have hp := Lib.hid (goodB_iff.1 hg).2.2.1
    have HL := Lib.hid (swapL_length xs)
    obtain ⟨i0, hi, hz0, hz1, hz2⟩ := info_parts Try.info3
    go_enter Try.func61, Try.ntmps61
    go_wp2_with fail
    refine (IsStack_any _ _ _ hv hn).mono ?_
    rintro e w0 ⟨rfl, hb⟩
    go_wp2_with (at_make; refine wpList_make_full _ rfl _ _ 22 rfl w0.heap.size 3 i0 (.int .i64 0) 1 Try.underlying22 hi hz0 hz1 _ _ _ _ xs.length rfl rfl rfl rfl ?b1 ?b2 ?b3 ?_)
    case b1 => rw [hz2]; omega
    case b2 => unfold maxLen; omega
    case b3 => exact Nat.le_refl _
    intro w1 hown hgrow
    have ho0 : OwnI w1 (.slice (some ⟨w0.heap.size, 0, none⟩) xs.length xs.length) (fillTo (swapL xs) 0) := by rw [fillTo_zero, HL.out]; exact OwnI.of_made hown
    have hb0 : Below w.heap.size w w1 := hb.grown hgrow hb.size (by intro k hk; cases hk)
    have hs0 := hb.size
    clear hi hz0 hz1 hz2 hgrow hown hb
    go_wp2
    go_loopw [5, 6, 15] (fun _ _ i wr => ∃ k : Nat, k ≤ xs.length ∧ i = .int .i64 k ∧ OwnI wr (.slice (some ⟨w0.heap.size, 0, none⟩) xs.length xs.length) (fillTo (swapL xs) k) ∧ Below w.heap.size w wr) (fun _ _ i _ => xs.length - (intOf i).toNat)
    case atStart => exact ⟨0, Nat.zero_le _, rfl, ho0, hb0⟩
    case round =>
      obtain ⟨k, hk, rfl, ho, hbr⟩ := hrel
      by_cases hlt : k < xs.length
      · obtain ⟨g, off, rfl, hgl, hcell, hf⟩ := hv.at (by omega)
        have hck := hcell k (by omega)
        rw [List.getElem?_map, List.getElem?_eq_getElem hlt] at hck
        have hc1 := (hbr.cell (p := ⟨g, off + k, none⟩) hgl).trans hck
        have hin := hp.out _ (List.getElem_mem hlt)
        have h1 := hin.1
        have h2 := hin.2
        obtain ⟨hd, hfd, hst⟩ := OwnI.cellAt ho k (by rw [fillTo_length _ _ (by rw [HL.out]; omega), HL.out]; exact hlt)
        have hst := hst ((xs.length : Int) + 1 - xs[k])
        rw [fillTo_step (swapL xs) k (by rw [HL.out]; exact hlt) ((xs.length : Int) + 1 - xs[k]) (by simp [swapL])] at hst
        have hb2 := hbr.setCell (p := ⟨w0.heap.size, k, none⟩) hs0 (iv ((xs.length : Int) + 1 - xs[k]))
        clear hcell hf hck hv hin ho hbr ho0 hb0
        go_wp2
        go_roundw
        case rel => exact ⟨k + 1, by omega, by go_num, hst, hb2⟩
        case measure => simp [intOf] <;> omega
      · obtain rfl : k = xs.length := by omega
        have he : fillTo (swapL xs) xs.length = swapL xs := by have := fillTo_all (swapL xs); rwa [HL.out] at this
        rw [he] at ho
        clear hv ho0 hb0 he
        have ho2 : OwnI wr (.slice (some ⟨w0.heap.size, 0, none⟩) xs.length xs.length) (mSwapSizes xs) := by rw [HM.out]; exact ho
        clear ho
        go_wp2
        go_ret2
        exact ⟨_, rfl, ho2, From.at _ _ _ _ _ hs0, hbr⟩
  | false =>
    have HM := Lib.hid (show mSwapSizes xs = [] from if_neg (by rw [hg]; exact Bool.false_ne_true))
    go_enter Try.func61, Try.ntmps61
    go_wp2_with fail
    refine (IsStack_any _ _ _ hv hn).mono ?_
    rintro e w1 ⟨rfl, hb⟩
    go_wp2
    go_ret2
    exact ⟨_, rfl, by rw [HM.out]; exact OwnI.nil _, From.nil _ _ _, hb⟩

theorem thenL_length (xs ys : List Int) : (thenL xs ys).length = ys.length := by simp [thenL]
theorem thenL_at (xs ys : List Int) (k j : Nat) (h : k < ys.length) (hj : ys[k] = (j : Int) + 1) (hl : j < xs.length) : (thenL xs ys)[k]'(by rw [thenL_length]; exact h) = xs[j] := by
  simp only [thenL, List.getElem_map]
  rw [hj, Int.add_sub_cancel, Int.toNat_natCast, getD_eq hl]

set_option maxHeartbeats 800000 in
theorem ThenStack_any (v : Value) (xs : List Int) (u : Value) (ys : List Int) (w : World) (hv : OwnI w v xs) (hn : xs.length ≤ 1048576) (hu : OwnI w u ys) (hm : ys.length ≤ 1048576) :
    Calls Try.prog 55 #[v, u] w fun e w' => ∃ r, e = .returned (.tuple #[r, .bool (okThen xs ys)]) ∧ OwnI w' r (mThenStack xs ys) ∧ From w.heap.size r ∧ Below w.heap.size w w' := by
  obtain ⟨ad, cap, rfl, hc, _, _⟩ := hv.shape
  obtain ⟨bd, cbp, rfl, hc', _, _⟩ := hu.shape
  cases hg : goodB xs with
  | true =>
    cases hi : goodB ys with
    | true =>
      by_cases hl : xs.length = ys.length
      · have HO := Lib.hid (show okThen xs ys = true by unfold okThen; rw [hg, hi]; simp [hl])
        have HM := Lib.hid (show mThenStack xs ys = thenL xs ys by unfold mThenStack; rw [if_pos HO.out])
        have hgy := goodB_iff.1 hi
        have hp := Lib.hid (show ∀ k ∈ ys, 1 ≤ k ∧ k ≤ (xs.length : Int) by rw [hl]; exact hgy.2.2.1)
        have h9 := hgy.le9
        have hq : ((xs.length : Int) != (ys.length : Int)) = false := by simp [hl]
        have HL := Lib.hid (thenL_length xs ys)
        have HE := Lib.hid hl
        have hle : xs.length ≤ ys.length := by omega
        have hge : ys.length ≤ xs.length := by omega
        clear hl hgy
        obtain ⟨i0, hi0, hz0, hz1, hz2⟩ := info_parts Try.info3
        go_enter Try.func55, Try.ntmps55
        go_wp2_with fail
        refine (IsStack_any _ xs _ hv hn).mono ?_
        rintro e wa ⟨rfl, hba⟩
        go_wp2_with fail
        refine (IsStack_any _ ys _ (hu.same hba) hm).mono ?_
        rintro e w0 ⟨rfl, hbb⟩
        have hb := hba.trans (hbb.mono hba.size)
        clear hba hbb
        go_wp2_with (at_make; refine wpList_make_full _ rfl _ _ 22 rfl w0.heap.size 3 i0 (.int .i64 0) 1 Try.underlying22 hi0 hz0 hz1 _ _ _ _ xs.length rfl rfl rfl rfl ?b1 ?b2 ?b3 ?_)
        case b1 => rw [hz2]; omega
        case b2 => unfold maxLen; omega
        case b3 => exact Nat.le_refl _
        intro w1 hown hgrow
        have ho0 : OwnI w1 (.slice (some ⟨w0.heap.size, 0, none⟩) xs.length xs.length) (fillTo (thenL xs ys) 0) := by rw [fillTo_zero, HL.out, ← HE.out]; exact OwnI.of_made hown
        have hb0 : Below w.heap.size w w1 := hb.grown hgrow hb.size (by intro k hk; cases hk)
        have hs0 := hb.size
        clear hi0 hz0 hz1 hz2 hgrow hown hb
        go_wp2
        go_loopw [7, 8, 29] (fun _ _ i wr => ∃ k : Nat, k ≤ ys.length ∧ i = .int .i64 k ∧ OwnI wr (.slice (some ⟨w0.heap.size, 0, none⟩) xs.length xs.length) (fillTo (thenL xs ys) k) ∧ Below w.heap.size w wr) (fun _ _ i _ => ys.length - (intOf i).toNat)
        case atStart => exact ⟨0, Nat.zero_le _, rfl, ho0, hb0⟩
        case round =>
          obtain ⟨k, hk, rfl, ho, hbr⟩ := hrel
          by_cases hlt : k < ys.length
          · have hin := hp.out _ (List.getElem_mem hlt)
            obtain ⟨j, hj⟩ : ∃ j : Nat, ys[k] = (j : Int) + 1 := ⟨(ys[k] - 1).toNat, by omega⟩
            have hjl : j < xs.length := by omega
            have hkx : k < xs.length := by omega
            obtain ⟨g, off, rfl, hgl, hcell, _⟩ := hv.at (by omega)
            obtain ⟨g', off', rfl, hgl', hcell', _⟩ := hu.at (by omega)
            have hk1 := hcell j (by omega)
            have hk2 := hcell' k (by omega)
            rw [List.getElem?_map, List.getElem?_eq_getElem hjl] at hk1
            rw [List.getElem?_map, List.getElem?_eq_getElem hlt, hj] at hk2
            have hc1 := (hbr.cell (p := ⟨g, off + j, none⟩) hgl).trans hk1
            have hc2 := (hbr.cell (p := ⟨g', off' + k, none⟩) hgl').trans hk2
            obtain ⟨hd, hfd, hst⟩ := OwnI.cellAt ho k (by rw [fillTo_length _ _ (by rw [HL.out]; omega), HL.out]; exact hlt)
            have hst := hst xs[j]
            rw [fillTo_step (thenL xs ys) k (by rw [HL.out]; exact hlt) xs[j] (thenL_at xs ys k j hlt hj hjl)] at hst
            have hb2 := hbr.setCell (p := ⟨w0.heap.size, k, none⟩) hs0 (iv xs[j])
            clear hcell hcell' hk1 hk2 hv hu hin ho hbr ho0 hb0 hj
            go_wp2
            go_roundw
            case rel => exact ⟨k + 1, by omega, by go_num, hst, hb2⟩
            case measure => simp [intOf] <;> omega
          · obtain rfl : k = ys.length := by omega
            have he : fillTo (thenL xs ys) ys.length = thenL xs ys := by have := fillTo_all (thenL xs ys); rwa [HL.out] at this
            rw [he] at ho
            clear hv hu ho0 hb0 he
            have ho2 : OwnI wr (.slice (some ⟨w0.heap.size, 0, none⟩) xs.length xs.length) (mThenStack xs ys) := by rw [HM.out]; exact ho
            clear ho
            go_wp2
            go_ret2
            exact ⟨_, by rw [HO.out]; rfl, ho2, From.at _ _ _ _ _ hs0, hbr⟩
      · have HO := Lib.hid (show okThen xs ys = false by unfold okThen; rw [decide_eq_false hl, Bool.and_false])
        have HM := Lib.hid (show mThenStack xs ys = [] from if_neg (by rw [HO.out]; exact Bool.false_ne_true))
        have hq : ((xs.length : Int) != (ys.length : Int)) = true := by simp; omega
        have HL := Lib.hid hl
        clear hl
        go_enter Try.func55, Try.ntmps55
        go_wp2_with fail
        refine (IsStack_any _ xs _ hv hn).mono ?_
        rintro e w1 ⟨rfl, hb⟩
        go_wp2_with fail
        refine (IsStack_any _ ys _ (hu.same hb) hm).mono ?_
        rintro e w2 ⟨rfl, hb2⟩
        go_wp2
        go_ret2
        exact ⟨_, by rw [HO.out]; rfl, by rw [HM.out]; exact OwnI.nil _, From.nil _ _ _, hb.trans (hb2.mono hb.size)⟩
    | false =>
      have HO := Lib.hid (show okThen xs ys = false by unfold okThen; rw [hg, hi]; rfl)
      have HM := Lib.hid (show mThenStack xs ys = [] from if_neg (by rw [HO.out]; exact Bool.false_ne_true))
      go_enter Try.func55, Try.ntmps55
      go_wp2_with fail
      refine (IsStack_any _ xs _ hv hn).mono ?_
      rintro e w1 ⟨rfl, hb⟩
      go_wp2_with fail
      refine (IsStack_any _ ys _ (hu.same hb) hm).mono ?_
      rintro e w2 ⟨rfl, hb2⟩
      go_wp2
      go_ret2
      exact ⟨_, by rw [HO.out]; rfl, by rw [HM.out]; exact OwnI.nil _, From.nil _ _ _, hb.trans (hb2.mono hb.size)⟩
  | false =>
    have HO := Lib.hid (show okThen xs ys = false by unfold okThen; rw [hg]; rfl)
    have HM := Lib.hid (show mThenStack xs ys = [] from if_neg (by rw [HO.out]; exact Bool.false_ne_true))
    go_enter Try.func55, Try.ntmps55
    go_wp2_with fail
    refine (IsStack_any _ xs _ hv hn).mono ?_
    rintro e w1 ⟨rfl, hb⟩
    go_wp2
    go_ret2
    exact ⟨_, by rw [HO.out]; rfl, by rw [HM.out]; exact OwnI.nil _, From.nil _ _ _, hb⟩

theorem AreSamePlans_any (n : Int) (v : Value) (xs : List Int) (u : Value) (ys : List Int) (w : World) (hv : OwnI w v xs) (hn : xs.length ≤ 1048576) (hu : OwnI w u ys) (hm : ys.length ≤ 1048576) :
    Calls Try.prog 65 #[.int .i64 n, v, u] w fun e w' => e = .returned (.tuple #[.bool (mSamePlans n xs ys), .bool (okSame n xs ys)]) ∧ Below w.heap.size w w' := by
  cases hg : planB n xs with
  | true =>
    cases hi : planB n ys with
    | true =>
      have hp := planB_iff.1 hg
      have hq := planB_iff.1 hi
      obtain ⟨m, rfl⟩ : ∃ m : Nat, n = m := ⟨n.toNat, by have := hp.1; omega⟩
      have h9 : m ≤ 9 := by have := hp.1; omega
      have hr9 : (ramp 1 m).length ≤ 9 := by rw [ramp_length]; exact h9
      have HP := Lib.hid (show ∀ k ∈ xs, 1 ≤ k ∧ k ≤ ((ramp 1 m).length : Int) by rw [ramp_length]; exact hp.2.2)
      have HQ := Lib.hid (show ∀ k ∈ ys, 1 ≤ k ∧ k ≤ ((ramp 1 m).length : Int) by rw [ramp_length]; exact hq.2.2)
      have HM := Lib.hid (mSame_eq hg hi)
      have HO := Lib.hid (show okSame m xs ys = true by unfold okSame; rw [hg, hi]; rfl)
      have heq := tower_eq (playL (ramp 1 m) xs) (playL (ramp 1 m) ys) (by rw [playL_length]; exact hr9) (by rw [playL_length, playL_length])
      clear hp hq
      go_enter Try.func65, Try.ntmps65
      go_wp2_with fail
      refine (IsPlan_any _ _ xs _ hv hn).mono ?_
      rintro e w1 ⟨rfl, hb⟩
      go_wp2_with fail
      refine (IsPlan_any _ _ ys _ (hu.same hb) hm).mono ?_
      rintro e w2 ⟨rfl, hb2⟩
      have hv2 := (hv.same hb).same hb2
      have hu2 := (hu.same hb).same hb2
      have hB2 := hb.trans (hb2.mono hb.size)
      clear hb hb2
      go_wp2_with fail
      refine (sortedTower_any _ _ h9).mono ?_
      rintro e w3 ⟨rfl, hb3⟩
      have hz : Blk (w3.alloc (.cells (twl []).toArray 54)) w3.heap.size 54 (twl []) := Blk.new w3 _ (twl []) _ rfl
      have hv3 := (hv2.same hb3).alloc (.cells (twl []).toArray 54)
      have hu3 := (hu2.same hb3).alloc (.cells (twl []).toArray 54)
      have hB3 := (hB2.trans (hb3.mono hB2.size)).alloc (Nat.le_trans hB2.size hb3.size) (.cells (twl []).toArray 54)
      have hlv := (hv2.same hb3).lt
      have hlu := (hu2.same hb3).lt
      have hs3 : w.heap.size ≤ w3.heap.size := Nat.le_trans hB2.size hb3.size
      clear hv hu hv2 hu2
      go_wp2_with (first | (refine wpList_store_tower rfl _ _ rfl w3.heap.size [] (ramp 1 m) (by simp) hr9 rfl rfl hz ?_; intro W hW hgW))
      have hvW := hv3.grown hgW (by intro g hg e; have := hlv g hg; simp at e; omega)
      have huW := hu3.grown hgW (by intro g hg e; have := hlu g hg; simp at e; omega)
      have hBW := hB3.grown hgW hB3.size (fun k hk => by simp at hk; omega)
      have hra := hW.range
      have hlW := hW.lt
      clear hv3 hu3 hB3 hlv hlu hz hW hgW
      have hut := Try.underlying54
      have hs9 : (twl (ramp 1 m)).length = 9 := twl_length _ hr9
      have hsz : (Try.prog.info? 54).map (·.size) = some (twl (ramp 1 m)).length := by rw [Try.infoT, hs9]
      have hon := twl_one (ramp 1 m)
      refine wp_region_held_drew (S := fun w' => w'.rangeAt w3.heap.size 0 (twl (ramp 1 m))) (by kernel_rfl) hra (fun hHeld => ?_)
      refine wpAnyH_take (i := 0) rfl (by kernel_rfl) (by kernel_rfl) (by kernel_rfl) (fun _ _ _ h => h) (yieldsIf_load_mid (by rfl) _ _ rfl _ _ rfl _ _ (fun w hw => hw) hut rfl hsz) hHeld ?_
      refine wpAnyH_take (i := 3) rfl (by kernel_rfl) (by kernel_rfl) (by kernel_rfl) (fun _ _ _ h => h) (yieldsIf_load_mid (by rfl) _ _ rfl _ _ rfl _ _ (fun w hw => hw) hut rfl hsz) hHeld ?_
      refine wpAnyH_take (i := 1) (v := ?_) rfl (by kernel_rfl) (by kernel_rfl) (by kernel_rfl) (fun _ _ _ h => h) (Or.inl ⟨by rfl, ?_⟩) (by assumption) ?_
      rotate_left
      · intro w _; go_simp; with_reducible rfl
      refine wpAnyH_take (i := 4) (v := ?_) rfl (by kernel_rfl) (by kernel_rfl) (by kernel_rfl) (fun _ _ _ h => h) (Or.inl ⟨by rfl, ?_⟩) (by assumption) ?_
      rotate_left
      · intro w _; go_simp; with_reducible rfl
      refine wpAnyH_ready (rs := [2]) (by kernel_rfl) (by simp) ?_
      refine AllReadyH.cons rfl (fun K hK => ?_) AllReadyH.nil
      go_simp
      refine (played_any v (ramp 1 m) xs _ hr9 hvW.drew HP hn).mono ?_
      rintro e w4 ⟨rfl, hb4⟩
      go_wp2_with fail
      refine hK.out _ _ (range_below hHeld hb4 hlW) (fun hHeld2 => ?_)
      clear hK K
      refine wpAnyH_ready (rs := [5]) (by kernel_rfl) (by simp) ?_
      refine AllReadyH.cons rfl (fun K hK => ?_) AllReadyH.nil
      go_simp
      refine (played_any u (ramp 1 m) ys _ hr9 (huW.drew.same hb4) HQ hm).mono ?_
      rintro e w5 ⟨rfl, hb5⟩
      go_wp2_with fail
      refine hK.out _ _ (range_below hHeld2 hb5 (Nat.lt_of_lt_of_le hlW hb4.size)) (fun hHeld3 => ?_)
      clear hK K
      refine wpAnyH_take (i := 6) (v := ?_) rfl (by kernel_rfl) (by kernel_rfl) (by kernel_rfl) (fun _ _ _ h => h) (Or.inl ⟨by rfl, ?_⟩) (by assumption) ?_
      rotate_left
      · intro w _; go_simp; with_reducible rfl
      refine wpAnyH_take (i := 7) (v := ?_) rfl (by kernel_rfl) (by kernel_rfl) (by kernel_rfl) (fun _ _ _ h => h) (Or.inl ⟨by rfl, ?_⟩) (by assumption) ?_
      rotate_left
      · intro w _; go_simp; with_reducible rfl
      refine wpAnyH_take (i := 8) (v := ?_) rfl (by kernel_rfl) (by kernel_rfl) (by kernel_rfl) (fun _ _ _ h => h) (Or.inl ⟨by rfl, ?_⟩) (by assumption) ?_
      rotate_left
      · intro w _; go_simp; with_reducible rfl
      refine wpAnyH_done (by kernel_rfl) ?_ _
      go_wp2
      go_ret2
      have hB4 := hBW.drew.trans (hb4.mono hBW.size)
      exact ⟨by rw [HM.out, HO.out]; rfl, hB4.trans (hb5.mono hB4.size)⟩
    | false =>
      have HM := Lib.hid (show mSamePlans n xs ys = false by unfold mSamePlans; rw [hg, hi]; rfl)
      have HO := Lib.hid (show okSame n xs ys = false by unfold okSame; rw [hg, hi]; rfl)
      go_enter Try.func65, Try.ntmps65
      go_wp2_with fail
      refine (IsPlan_any _ _ xs _ hv hn).mono ?_
      rintro e w1 ⟨rfl, hb⟩
      go_wp2_with fail
      refine (IsPlan_any _ _ ys _ (hu.same hb) hm).mono ?_
      rintro e w2 ⟨rfl, hb2⟩
      go_wp2
      go_ret2
      exact ⟨by rw [HM.out, HO.out]; rfl, hb.trans (hb2.mono hb.size)⟩
  | false =>
    have HM := Lib.hid (show mSamePlans n xs ys = false by unfold mSamePlans; rw [hg]; rfl)
    have HO := Lib.hid (show okSame n xs ys = false by unfold okSame; rw [hg]; rfl)
    go_enter Try.func65, Try.ntmps65
    go_wp2_with fail
    refine (IsPlan_any _ _ xs _ hv hn).mono ?_
    rintro e w1 ⟨rfl, hb⟩
    go_wp2
    go_ret2
    exact ⟨by rw [HM.out, HO.out]; rfl, hb⟩

end Go.Proofs.Ytocccocpacohaaa
