import Derived.Test.YtfcbaegkppkfkaaI2
namespace Go.Proofs.Ytfcbaegkppkfkaa
open Go Go.RowKit Go.Pan

set_option maxHeartbeats 400000 in
theorem Index_any (v : Value) (xs : List Int) (x : Int) (w : World) (hv : OwnI w v xs) (hn : xs.length ≤ 1048576) :
    Calls Try.prog 58 #[v, .int .i64 x] w fun e w' => e = .returned (.int .i64 (placeL xs x - 1)) ∧ Below w.heap.size w w' := by
  obtain ⟨ad, cap, rfl, hc, _, _⟩ := hv.shape
  go_enter Try.func58, Try.ntmps58
  go_wp2
  go_loopw [5, 8] (fun _ i wr => ∃ k : Nat, k ≤ xs.length ∧ i = .int .i64 k ∧ x ∉ xs.take k ∧ Below w.heap.size w wr) (fun _ i _ => xs.length - (intOf i).toNat)
  case atStart => exact ⟨0, Nat.zero_le _, rfl, by simp, Below.refl _ _⟩
  case round =>
    obtain ⟨k, hk, rfl, hx, hbr⟩ := hrel
    have HX := Lib.hid hx
    clear hx
    by_cases hlt : k < xs.length
    · obtain ⟨g, off, rfl, hgl, hcell, hf⟩ := hv.at (by omega)
      have hck := hcell k (by omega)
      rw [List.getElem?_map, List.getElem?_eq_getElem hlt] at hck
      have hc1 := (hbr.cell (p := ⟨g, off + k, none⟩) hgl).trans hck
      clear hcell hf hck hv
      by_cases he : xs[k] = x
      · have hq : (x == (xs[k] : Int)) = true := by simp [he]
        have HE := Lib.hid he
        clear he
        go_wp2
        go_ret
        exact ⟨by rw [placeL_at hlt HX.out HE.out, Int.add_sub_cancel]; rfl, hbr⟩
      · have hq : (x == (xs[k] : Int)) = false := by simp; exact fun e => he e.symm
        have HE := Lib.hid he
        clear he
        go_wp2
        go_roundw
        case rel => exact ⟨k + 1, by omega, by go_num, not_mem_take hlt HX.out HE.out, hbr⟩
        case measure => simp [intOf] <;> omega
    · obtain rfl : k = xs.length := by omega
      clear hv
      go_wp2
      go_ret
      have h := HX.out
      rw [List.take_length] at h
      exact ⟨by rw [show placeL xs x = 0 from by simp [placeL, h]]; rfl, hbr⟩

end Go.Proofs.Ytfcbaegkppkfkaa

