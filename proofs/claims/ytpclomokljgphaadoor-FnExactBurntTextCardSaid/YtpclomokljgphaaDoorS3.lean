import Derived.Test.YtpclomokljgphaaDoorS2
namespace Go.Proofs.YtpclomokljgphaaDoor
open Go Go.RowKit Go.Pan

theorem rev_step (xs : List Int) (j : Nat) (hj : j < xs.length) (x : Int) (hx : x = xs[xs.length - 1 - j]'(by omega)) : (xs.reverse.take j) ++ [x] = xs.reverse.take (j + 1) := by
  rw [List.take_succ_eq_append_getElem (by simpa using hj), List.getElem_reverse, hx]

theorem placeL_at {xs : List Int} {k : Nat} {x : Int} (hlt : k < xs.length) (h : x ∉ xs.take k) (e : xs[k] = x) : placeL xs x = (k : Int) + 1 := by
  have hm : x ∈ xs := by rw [← e]; exact List.getElem_mem hlt
  rw [placeL_of_mem hm]
  have h1 : xs.idxOf x = k := by
    have hi := List.idxOf_lt_length_of_mem hm
    have hg := List.getElem_idxOf hi
    by_cases hlt2 : xs.idxOf x < k
    · exact absurd (List.mem_take_iff_getElem.2 ⟨xs.idxOf x, by omega, hg⟩) h
    · by_cases hgt : k < xs.idxOf x
      · have h0 := List.not_of_lt_findIdx (p := fun y => y == x) (xs := xs) hgt; simp [e] at h0
      · omega
  rw [h1]

theorem first_step (k : Nat) : ramp 1 k ++ [(k : Int) + 1] = ramp 1 (k + 1) := by simp [ramp, List.range_succ, Int.add_comm]

def ThenTo (xs ys : List Int) (k : Nat) : List Int := (thenL xs ys).take k
theorem ThenTo_step (xs ys : List Int) (k j : Nat) (h : k < ys.length) (hj : ys[k] - 1 = (j : Int)) (hl : j < xs.length) : ThenTo xs ys k ++ [xs[j]] = ThenTo xs ys (k + 1) := by
  unfold ThenTo
  rw [List.take_succ_eq_append_getElem (by simpa [thenL] using h)]
  congr 2
  simp only [thenL, List.getElem_map]
  rw [hj, Int.toNat_natCast, getD_eq hl]
theorem ThenTo_length (xs ys : List Int) (k : Nat) : (ThenTo xs ys k).length ≤ ys.length := by simp [ThenTo, thenL]; omega

end Go.Proofs.YtpclomokljgphaaDoor
