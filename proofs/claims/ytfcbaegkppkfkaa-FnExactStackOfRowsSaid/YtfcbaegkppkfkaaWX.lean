import Derived.Test.YtfcbaegkppkfkaaWV
namespace Go.Pan
open Go Go.RowKit
theorem ShR.at : ∀ {q : List Int}, ShR q → ∀ i, q.getD (i + 1) 0 ≤ q.getD i 0 ∧ 0 ≤ q.getD i 0
  | [], _, i => by simp
  | a :: l, h, 0 => by
    have h1 := h.1
    have h2 := ShR.head h.2
    cases l with
    | nil => simp at h1 ⊢; omega
    | cons b l => simp at h1 h2 ⊢; omega
  | a :: l, h, i + 1 => by have := ShR.at h.2 i; simpa using this
theorem ShR.mem : ∀ {q : List Int}, ShR q → ∀ x ∈ q, 0 ≤ x ∧ x ≤ q.sum
  | [], _, x, hx => by cases hx
  | a :: l, h, x, hx => by
    have h1 := h.1
    have h2 := ShR.head h.2
    have h3 := ShR.sum h.2
    rw [List.sum_cons]
    rcases List.mem_cons.1 hx with rfl | hx
    · omega
    · have := ShR.mem h.2 x hx; omega
theorem wbTo_sub {q : List Int} {k j : Nat} (h : k ≤ j) {r : List Int} (hr : r ∈ wbTo q k) : r ∈ wbTo q j := by
  unfold wbTo at hr ⊢
  obtain ⟨i, hi, rfl⟩ := List.mem_map.1 hr
  rw [List.mem_filter, List.mem_range] at hi
  exact List.mem_map.2 ⟨i, List.mem_filter.2 ⟨List.mem_range.2 (by omega), hi.2⟩, rfl⟩
theorem wbTo_sum_le {q : List Int} (hs : ShR q) (h9 : q.length ≤ 9) {d : Nat} (hd : d ≤ 8) (k : Nat) (hk : k ≤ q.length) : ((wbTo q k).map (wayR d)).sum ≤ 387420489 := by
  have h1 := sum_map_le (f := wayR d) (b := 43046721) (L := wbTo q k) fun r hr => by
    have hr' : r ∈ wbR q := by rw [← wbTo_all]; exact wbTo_sub hk hr
    obtain ⟨h1, _, h3, _⟩ := wbR_spec hs hr'
    exact Nat.le_trans (wayR_le 9 d h1 (by omega)) (Nat.pow_le_pow_right (by omega) hd : 9 ^ d ≤ 9 ^ 8)
  have h2 := wbTo_le q k
  have h3 : (wbTo q k).length * 43046721 ≤ 9 * 43046721 := Nat.mul_le_mul_right _ (by omega)
  omega

end Go.Pan

namespace Go.Proofs.Ytfcbaegkppkfkaa
open Go Go.RowKit Go.Pan

end Go.Proofs.Ytfcbaegkppkfkaa

