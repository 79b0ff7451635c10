import Derived.Test.YtdlnniciccpchaaS4
namespace Go.Proofs.Ytdlnniciccpchaa
open Go Go.RowKit Go.Pan

theorem invTo_step (xs : List Int) (k j : Nat) (hlt : k < xs.length) (h : xs[k] = (j : Int) + 1) : (invTo xs k).set j ((k : Int) + 1) = invTo xs (k + 1) := by
  show _ = (invTo xs k).set (xs.getD k 0 - 1).toNat ((k : Int) + 1)
  rw [getD_eq hlt, h]
  congr 1
  omega

set_option maxHeartbeats 400000 in
theorem stInverse_any (v : Value) (xs : List Int) (w : World) (hv : OwnI w v xs) (hn : xs.length ≤ 1048576) (hp : Hid (∀ k ∈ xs, 1 ≤ k ∧ k ≤ (xs.length : Int))) :
    Calls Try.prog 69 #[v] w fun e w' => ∃ r, e = .returned r ∧ OwnI w' r (invTo xs xs.length) ∧ From w.heap.size r ∧ Below w.heap.size w w' := by
  obtain ⟨ad, cap, rfl, hc, _, _⟩ := hv.shape
  obtain ⟨i0, hi, hz0, hz1, hz2⟩ := info_parts Try.info3
  go_enter Try.func69, Try.ntmps69
  go_wp2_with (at_make; refine wpList_make_full _ rfl _ _ 24 rfl w.heap.size 3 i0 (.int .i64 0) 1 Try.underlying24 hi hz0 hz1 _ _ _ _ xs.length rfl rfl rfl rfl ?b1 ?b2 ?b3 ?_)
  case b1 => rw [hz2]; omega
  case b2 => unfold maxLen; omega
  case b3 => exact Nat.le_refl _
  intro w1 hown hgrow
  have ho0 : OwnI w1 (.slice (some ⟨w.heap.size, 0, none⟩) xs.length xs.length) (invTo xs 0) := OwnI.of_made hown
  have hb0 : Below w.heap.size w w1 := (Below.refl _ _).grown hgrow (Nat.le_refl _) (by intro k hk; cases hk)
  clear hi hz0 hz1 hz2 hgrow hown
  go_wp2
  go_loopw [4, 5, 11] (fun _ _ i wr => ∃ k : Nat, k ≤ xs.length ∧ i = .int .i64 k ∧ OwnI wr (.slice (some ⟨w.heap.size, 0, none⟩) xs.length xs.length) (invTo xs k) ∧ Below w.heap.size w wr) (fun _ _ i _ => xs.length - (intOf i).toNat)
  case atStart => exact ⟨0, Nat.zero_le _, rfl, ho0, hb0⟩
  case round =>
    obtain ⟨k, hk, rfl, ho, hbr⟩ := hrel
    by_cases hlt : k < xs.length
    · obtain ⟨g, off, rfl, hgl, hcell, hf⟩ := hv.at (by omega)
      have hck := hcell k (by omega)
      rw [List.getElem?_map, List.getElem?_eq_getElem hlt] at hck
      have hc1 := (hbr.cell (p := ⟨g, off + k, none⟩) hgl).trans hck
      have hin := hp.out _ (List.getElem_mem hlt)
      obtain ⟨j, hj⟩ : ∃ j : Nat, xs[k] = (j : Int) + 1 := ⟨(xs[k] - 1).toNat, by omega⟩
      have hjl : j < xs.length := by omega
      obtain ⟨hd, hfd, hst⟩ := OwnI.cellAt ho j (by rw [invTo_length]; exact hjl)
      have hst := hst ((k : Int) + 1)
      rw [invTo_step xs k j hlt hj] at hst
      have hb2 := hbr.setCell (p := ⟨w.heap.size, j, none⟩) (Nat.le_refl _) (iv ((k : Int) + 1))
      have hc2 : wr.cell? ⟨g, off + k, none⟩ = some (iv ((j : Int) + 1)) := by rw [hc1, ← hj]; rfl
      clear hcell hf hck hc1 hv hj hin ho hbr ho0 hb0
      go_wp2
      go_roundw
      case rel => exact ⟨k + 1, by omega, by go_num, hst, hb2⟩
      case measure => simp [intOf] <;> omega
    · obtain rfl : k = xs.length := by omega
      clear hv ho0 hb0
      go_wp2
      go_ret
      exact ⟨_, rfl, ho, From.at _ _ _ _ _ (Nat.le_refl _), hbr⟩

def SwapTo (xs : List Int) (k : Nat) : List Int := (swapL xs).take k
theorem swapL_length (xs : List Int) : (swapL xs).length = xs.length := by simp [swapL]
theorem SwapTo_step (xs : List Int) (k : Nat) (h : k < xs.length) : SwapTo xs k ++ [(xs.length : Int) + 1 - xs[k]] = SwapTo xs (k + 1) := by
  unfold SwapTo
  rw [List.take_succ_eq_append_getElem (by rw [swapL_length]; exact h)]
  simp [swapL]
theorem SwapTo_length (xs : List Int) (k : Nat) : (SwapTo xs k).length ≤ xs.length := by unfold SwapTo; rw [List.length_take, swapL_length]; omega

def okSame (n : Int) (a b : List Int) : Bool := planB n a && planB n b
theorem mSame_eq {n : Nat} {a b : List Int} (ha : planB n a = true) (hb : planB n b = true) : mSamePlans n a b = decide (playL (ramp 1 n) a = playL (ramp 1 n) b) := by
  unfold mSamePlans
  rw [ha, hb]
  simp

end Go.Proofs.Ytdlnniciccpchaa

