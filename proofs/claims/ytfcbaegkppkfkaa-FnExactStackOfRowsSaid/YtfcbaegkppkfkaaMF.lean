import Derived.Test.YtfcbaegkppkfkaaTw
import Derived.Test.YtfcbaegkppkfkaaI2
import Derived.Test.YtfcbaegkppkfkaaU7
import Derived.BigQuiet
import Derived.Deep.Cut
import Derived.Lib.Hide
namespace Go.Pan
open Go

def compI (x y : Int) : Int := if x < y then -1 else if y < x then 1 else 0
/-- lists held against each other -/
def cmpL : List Int → List Int → Int
  | [], [] => 0
  | [], _ :: _ => -1
  | _ :: _, [] => 1
  | x :: xs, y :: ys => if compI x y = 0 then cmpL xs ys else compI x y
def ltL (xs ys : List Int) : Bool := decide (cmpL xs ys < 0)
theorem compareInt_eq (x y : Int) : compI x y = if x < y then -1 else if y < x then 1 else 0 := rfl
theorem ltL_cons (x y : Int) (xs ys : List Int) : ltL (x :: xs) (y :: ys) = (decide (x < y) || (decide (x = y) && ltL xs ys)) := by
  unfold ltL
  simp only [cmpL, compareInt_eq]
  by_cases h1 : x < y
  · simp [h1]
  · by_cases h2 : y < x
    · have : x ≠ y := by omega
      simp [h1, h2, this]
    · have : x = y := by omega
      simp [this]
theorem ltL_irrefl (xs : List Int) : ltL xs xs = false := by
  induction xs with
  | nil => rfl
  | cons x xs ih => rw [ltL_cons, ih]; simp
theorem ltL_total : ∀ (xs ys : List Int), xs.length = ys.length → ltL xs ys = false → ltL ys xs = false → xs = ys
  | [], [], _, _, _ => rfl
  | [], _ :: _, h, _, _ => by simp at h
  | _ :: _, [], h, _, _ => by simp at h
  | x :: xs, y :: ys, h, h1, h2 => by
    rw [ltL_cons] at h1 h2
    simp only [Bool.or_eq_false_iff, decide_eq_false_iff_not, Bool.and_eq_false_iff] at h1 h2
    have e : x = y := by omega
    subst e
    have h3 : ltL xs ys = false := by rcases h1.2 with h | h; exact absurd rfl h; exact h
    have h4 : ltL ys xs = false := by rcases h2.2 with h | h; exact absurd rfl h; exact h
    rw [ltL_total xs ys (by simpa using h) h3 h4]
theorem ltL_trans : ∀ (xs ys zs : List Int), ltL xs ys = true → ltL ys zs = true → ltL xs zs = true
  | [], [], _, h, _ => by simp [ltL, cmpL] at h
  | _ :: _, [], _, h, _ => by simp [ltL, cmpL] at h
  | [], _ :: _, [], _, h => by simp [ltL, cmpL] at h
  | _ :: _, _ :: _, [], _, h => by simp [ltL, cmpL] at h
  | [], _ :: _, _ :: _, _, _ => by simp [ltL, cmpL]
  | x :: xs, y :: ys, z :: zs, h1, h2 => by
    rw [ltL_cons] at *
    simp only [Bool.or_eq_true, decide_eq_true_iff, Bool.and_eq_true] at *
    rcases h1 with h1 | ⟨h1, h3⟩
    · rcases h2 with h2 | ⟨h2, _⟩
      · left; omega
      · left; omega
    · rcases h2 with h2 | ⟨h2, h4⟩
      · left; omega
      · right; exact ⟨by omega, ltL_trans xs ys zs h3 h4⟩
theorem ltL_ntrans : ∀ (xs ys zs : List Int), ltL xs ys = false → ltL ys zs = false → ltL xs zs = false
  | [], [], [], _, _ => rfl
  | [], [], _ :: _, _, h => by simp [ltL, cmpL] at h
  | [], _ :: _, _, h, _ => by simp [ltL, cmpL] at h
  | _ :: _, [], [], _, _ => by simp [ltL, cmpL]
  | _ :: _, _, [], _, _ => by simp [ltL, cmpL]
  | _ :: _, [], _ :: _, _, h => by simp [ltL, cmpL] at h
  | x :: xs, y :: ys, z :: zs, h1, h2 => by
    rw [ltL_cons] at *
    simp only [Bool.or_eq_false_iff, decide_eq_false_iff_not, Bool.and_eq_false_iff] at *
    refine ⟨by omega, ?_⟩
    by_cases e : x = z
    · right
      have e1 : x = y := by omega
      have e2 : y = z := by omega
      have h3 : ltL xs ys = false := by rcases h1.2 with h | h; exact absurd e1 h; exact h
      have h4 : ltL ys zs = false := by rcases h2.2 with h | h; exact absurd e2 h; exact h
      exact ltL_ntrans xs ys zs h3 h4
    · left; exact e
theorem ltL_pad (xs ys r : List Int) (h : xs.length = ys.length) : ltL (xs ++ r) (ys ++ r) = ltL xs ys := by
  induction xs generalizing ys with
  | nil =>
    obtain rfl := List.eq_nil_of_length_eq_zero h.symm
    rw [List.nil_append, ltL_irrefl]
    rfl
  | cons x xs ih =>
    cases ys with
    | nil => simp at h
    | cons y ys => rw [List.cons_append, List.cons_append, ltL_cons, ltL_cons, ih ys (by simpa using h)]
/-- the nine numbers of a tower -/
def pad9 (q : List Int) : List Int := q ++ List.replicate (9 - q.length) 0
theorem pad9_length {q : List Int} (h : q.length ≤ 9) : (pad9 q).length = 9 := by simp [pad9]; omega
theorem ltL_pad9 {xs ys : List Int} (h : xs.length = ys.length) : ltL (pad9 xs) (pad9 ys) = ltL xs ys := by
  unfold pad9
  rw [h]
  exact ltL_pad xs ys _ h

end Go.Pan

namespace Go.Proofs.Ytfcbaegkppkfkaa
open Go Go.RowKit Go.Pan

theorem twl_pad (q : List Int) : twl q = (pad9 q).map iv := rfl

end Go.Proofs.Ytfcbaegkppkfkaa

namespace Go.Pan
open Go Go.RowKit
def minS (m x : List Int) : List Int := if decide (cmpL (pad9 x) (pad9 m) < 0) = true then x else m
def minTo (L : List (List Int)) (k : Nat) : List Int := ((L.drop 1).take (k - 1)).foldl minS (L.headD [])
theorem minTo_one (L : List (List Int)) : minTo L 1 = L.headD [] := rfl
theorem minTo_succ {L : List (List Int)} {k : Nat} (h1 : 1 ≤ k) (h : k < L.length) : minTo L (k + 1) = minS (minTo L k) L[k] := by
  unfold minTo
  obtain ⟨j, rfl⟩ : ∃ j, k = j + 1 := ⟨k - 1, by omega⟩
  have hj : j < (L.drop 1).length := by simp; omega
  rw [show j + 1 + 1 - 1 = j + 1 from rfl, show j + 1 - 1 = j from rfl, List.take_succ_eq_append_getElem hj, List.foldl_append]
  simp
theorem minS_or (m x : List Int) : minS m x = m ∨ minS m x = x := by
  unfold minS
  split
  · exact .inr rfl
  · exact .inl rfl
theorem minTo_in {L : List (List Int)} (h0 : L ≠ []) : ∀ k, 1 ≤ k → k ≤ L.length → minTo L k ∈ L
  | 0, h, _ => by omega
  | k + 1, _, h => by
    by_cases hk : k = 0
    · subst hk
      rw [minTo_one]
      cases L with
      | nil => exact absurd rfl h0
      | cons a t => simp
    · rw [minTo_succ (by omega) (by omega)]
      rcases minS_or (minTo L k) L[k] with e | e
      · rw [e]; exact minTo_in h0 k (by omega) (by omega)
      · rw [e]; exact List.getElem_mem _

end Go.Pan

namespace Go.Proofs.Ytfcbaegkppkfkaa
open Go Go.RowKit Go.Pan

end Go.Proofs.Ytfcbaegkppkfkaa

