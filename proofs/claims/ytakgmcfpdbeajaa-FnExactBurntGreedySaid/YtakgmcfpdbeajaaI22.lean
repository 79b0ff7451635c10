import Derived.Test.YtakgmcfpdbeajaaI21
namespace Go.Proofs.Ytakgmcfpdbeajaa
open Go Go.RowKit Go.Pan

set_option maxRecDepth 100000 in
set_option maxHeartbeats 800000 in
theorem DoubleStack_any (v : Value) (xs : List Int) (w : World) (hv : OwnI w v xs) (hn : xs.length ≤ 1048576) (hw : Wf64 xs) :
    Calls Try.prog 61 #[v] w fun e w' => ∃ r, e = .returned (.tuple #[r, .bool (okDouble xs)]) ∧ OwnI w' r (mDoubleStack xs) ∧ From w.heap.size r ∧ Below w.heap.size w w' := by
  obtain ⟨ad, cap, rfl, hc, _, _⟩ := hv.shape
  cases hg : burntB xs with
  | true =>
    have hB := burntB_iff.1 hg
    have hl := hB.len
    by_cases h4 : 2 * xs.length ≤ 9
    · have HO := Lib.hid (show okDouble xs = true from okDouble_iff.2 ⟨hB, h4⟩)
      have HM := Lib.hid (show mDoubleStack xs = doubTo xs xs.length by unfold mDoubleStack doubTo; rw [if_pos HO.out, List.take_length])
      have HX := Lib.hid (show ∀ x ∈ xs, -9 ≤ x ∧ x ≤ 9 from fun x hx => by have := hB.bd hx; omega)
      have HG := Lib.hid hg
      have h4i : 2 * (xs.length : Int) ≤ 9 := by omega
      have h1i : 1 ≤ 2 * (xs.length : Int) := by omega
      clear hB hg hl
      obtain ⟨i0, hi, hz0, hz1, hz2⟩ := info_parts Try.info3
      have hin : inB (2 * (xs.length : Int)) 1 9 = true := inB_true ⟨h1i, h4i⟩
      go_enter Try.func61, Try.ntmps61
      go_wp2_with fail
      refine (IsBurnt_any _ _ _ hv hn hw).mono ?_
      rintro e w1 ⟨rfl, hb⟩
      rw [HG.out]
      go_wp2_with fail
      refine (isCount_any _ _).mono ?_
      rintro e w1' ⟨rfl, rfl⟩
      go_wp2_with (at_make; refine wpList_make_own _ rfl _ _ 25 rfl w.heap.size 3 i0 (.int .i64 0) 1 Try.underlying25 hi hz0 hz1 _ _ _ (2 * xs.length) rfl rfl (by first | rfl | simp | omega) ?b1 ?b2 ?b3 ?_)
      case b1 => rw [hz2]; omega
      case b2 => unfold maxLen; omega
      case b3 => exact hb.size
      intro w2 hown hgrow
      have ho0 := (Own.of_row hown).1
      have hf0 := (Own.of_row hown).2
      have hb0 := hb.grown hgrow hb.size (by intro k hk; cases hk)
      clear hi hz0 hz1 hz2 hgrow hown
      go_wp2
      go_loopw [4, 6, 23] (fun o _ i wr => ∃ k : Nat, k ≤ xs.length ∧ i = .int .i64 k ∧ OwnI wr o (doubTo xs k) ∧ From w.heap.size o ∧ Below w.heap.size w wr) (fun _ _ i _ => xs.length - (intOf i).toNat)
      case atStart => exact ⟨0, Nat.zero_le _, rfl, by simpa [doubTo, doubL, OwnI] using ho0, hf0, hb0⟩
      case round =>
        obtain ⟨k, hk, rfl, ho, hf, hbr⟩ := hrel
        have hvr := hv.below hbr (Nat.le_refl _)
        clear hv
        by_cases hlt : k < xs.length
        · obtain ⟨g, off, rfl, hgl, hcell, hfz⟩ := hvr.at (by omega)
          have hck := hcell k (by omega)
          rw [List.getElem?_map, List.getElem?_eq_getElem hlt] at hck
          have hx := HX.out _ (List.getElem_mem hlt)
          have hx1 := hx.1
          have hx2 := hx.2
          have hlen : (doubTo xs k).length ≤ 1048576 := by have := doubTo_length xs k; omega
          have hs := hbr.size
          clear hcell hfz hvr hx
          by_cases hp : 0 < xs[k]
          · have HS := Lib.hid (doubTo_pos hlt hp)
            go_wp2_with (at_builtin; refine wpList_appI Try.intSl rfl _ _ rfl _ (doubTo xs k) rfl (ho.alloc _) w.heap.size hf (some ⟨wr.heap.size, 0, none⟩) 2 2 [2 * xs[k] - 1, 2 * xs[k]] rfl rfl (.inr ⟨_, rfl, World.news_of_block (heap_alloc_new _ _)⟩) w (hbr.alloc hs _) ?c1 hlen (by simp) ?_)
            case c1 => simp; exact Nat.le_succ_of_le hs
            intro v' w2 ho' hf' hb' _
            rw [HS.out] at ho'
            clear HS ho hf hbr
            go_wp2
            go_roundw
            case rel => exact ⟨k + 1, by omega, by go_num, ho', hf', hb'⟩
            case measure => simp [intOf] <;> omega
          · have HS := Lib.hid (doubTo_neg hlt hp)
            have hp' : xs[k] ≤ 0 := by omega
            clear hp
            go_wp2_with (at_builtin; refine wpList_appI Try.intSl rfl _ _ rfl _ (doubTo xs k) rfl (ho.alloc _) w.heap.size hf (some ⟨wr.heap.size, 0, none⟩) 2 2 [-2 * xs[k], -2 * xs[k] - 1] rfl rfl (.inr ⟨_, rfl, World.news_of_block (heap_alloc_new _ _)⟩) w (hbr.alloc hs _) ?c2 hlen (by simp) ?_)
            case c2 => simp; exact Nat.le_succ_of_le hs
            intro v' w2 ho' hf' hb' _
            rw [HS.out] at ho'
            clear HS ho hf hbr
            go_wp2
            go_roundw
            case rel => exact ⟨k + 1, by omega, by go_num, ho', hf', hb'⟩
            case measure => simp [intOf] <;> omega
        · obtain rfl : k = xs.length := by omega
          clear hvr
          go_wp2
          go_ret2
          exact ⟨_, by rw [HO.out]; rfl, by rw [HM.out]; exact ho, hf, hbr⟩
    · have HO := Lib.hid (show okDouble xs = false by
        cases h : okDouble xs with
        | false => rfl
        | true => exact absurd (okDouble_iff.1 h).2 h4)
      have HM := Lib.hid (show mDoubleStack xs = [] from if_neg (by rw [HO.out]; exact Bool.false_ne_true))
      have HG := Lib.hid hg
      have h4i : 9 < 2 * (xs.length : Int) := by omega
      have h1i : (1 : Int) ≤ 2 * (xs.length : Int) := by omega
      clear hB hg hl h4
      go_enter Try.func61, Try.ntmps61
      go_wp2_with fail
      refine (IsBurnt_any _ _ _ hv hn hw).mono ?_
      rintro e w1 ⟨rfl, hb⟩
      rw [HG.out]
      have hin : inB (2 * (xs.length : Int)) 1 9 = false := inB_false (by omega)
      go_wp2_with fail
      refine (isCount_any _ _).mono ?_
      rintro e w1' ⟨rfl, rfl⟩
      go_wp2
      go_ret2
      exact ⟨_, by rw [HO.out]; rfl, by rw [HM.out]; exact OwnI.nil _, From.nil _ _ _, hb⟩
  | false =>
    have HO := Lib.hid (show okDouble xs = false by unfold okDouble; rw [hg]; rfl)
    have HM := Lib.hid (show mDoubleStack xs = [] from if_neg (by rw [HO.out]; exact Bool.false_ne_true))
    have HG := Lib.hid hg
    clear hg
    go_enter Try.func61, Try.ntmps61
    go_wp2_with fail
    refine (IsBurnt_any _ _ _ hv hn hw).mono ?_
    rintro e w1 ⟨rfl, hb⟩
    rw [HG.out]
    go_wp2
    go_ret2
    exact ⟨_, by rw [HO.out]; rfl, by rw [HM.out]; exact OwnI.nil _, From.nil _ _ _, hb⟩
end Go.Proofs.Ytakgmcfpdbeajaa
