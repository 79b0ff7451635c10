import Derived.Test.YtpclomokljgphaaP1
import Derived.Test.YtpclomokljgphaaM6
namespace Go.Pan
open Go Go.RowKit

/-- the first of the stacks with the most turns, and their number -/
def mostStep (s : List Int × Int) (q : List Int) : List Int × Int := if decide (s.2 < ((greedyL q).length : Int)) = true then (q, ((greedyL q).length : Int)) else s
def mostOf (L : List (List Int)) : List Int × Int := L.foldl mostStep ([], -1)
theorem mostOf_snoc (L : List (List Int)) (q : List Int) : mostOf (L ++ [q]) = mostStep (mostOf L) q := by simp [mostOf]
theorem mostOf_yes {L : List (List Int)} {q : List Int} (h : decide ((mostOf L).2 < ((greedyL q).length : Int)) = true) : mostOf (L ++ [q]) = (q, ((greedyL q).length : Int)) := by
  rw [mostOf_snoc]; unfold mostStep; rw [if_pos h]
theorem mostOf_no {L : List (List Int)} {q : List Int} (h : decide ((mostOf L).2 < ((greedyL q).length : Int)) = false) : mostOf (L ++ [q]) = mostOf L := by
  rw [mostOf_snoc]; unfold mostStep; rw [if_neg (by rw [h]; exact Bool.false_ne_true)]
def mMostByGreedy (n : Int) : List Int := if inB n 1 7 = true then (mostOf (allL n.toNat)).1 else []
def mMostLong (n : Int) : Int := if inB n 1 7 = true then (mostOf (allL n.toNat)).2 else 0
/-- what holds of the most so far -/
def MostOk (n : Nat) (s : List Int × Int) : Prop := (s.1 = [] ∧ s.2 = -1) ∨ (Good s.1 ∧ s.1.length = n ∧ 0 ≤ s.2 ∧ s.2 ≤ 100)
theorem mostOk_step {n : Nat} {s : List Int × Int} {q : List Int} (h : MostOk n s) (hq : Good q) (hl : q.length = n) : MostOk n (mostStep s q) := by
  unfold mostStep
  split
  · have h1 := greedyL_length q
    have h2 := hq.2.1
    exact .inr ⟨hq, hl, by simp, by simp; omega⟩
  · exact h
theorem mostOk_fold {n : Nat} : ∀ (L : List (List Int)) (s : List Int × Int), MostOk n s → (∀ q ∈ L, Good q ∧ q.length = n) → MostOk n (L.foldl mostStep s)
  | [], _, h, _ => h
  | q :: L, _, h, hL => mostOk_fold L _ (mostOk_step h (hL q (List.mem_cons_self ..)).1 (hL q (List.mem_cons_self ..)).2) (fun r hr => hL r (List.mem_cons_of_mem _ hr))
theorem mostOk_of {n : Nat} {L : List (List Int)} (hL : ∀ q ∈ L, Good q ∧ q.length = n) : MostOk n (mostOf L) := mostOk_fold L _ (.inl ⟨rfl, rfl⟩) hL
theorem mostOk_first {n : Nat} (s : List Int × Int) (q : List Int) (hs : MostOk n s) (_hq : Good q) (hl : q.length = n) : (mostStep s q).1.length = n := by
  unfold mostStep
  split
  · exact hl
  · rename_i h
    rcases hs with ⟨_, h2⟩ | ⟨_, h2, _⟩
    · exact absurd (by rw [h2]; simp; omega) h
    · exact h2
theorem most_length {n : Nat} {L : List (List Int)} (hL : ∀ q ∈ L, Good q ∧ q.length = n) (h0 : L ≠ []) : (mostOf L).1.length = n := by
  obtain ⟨M, q, rfl⟩ : ∃ M q, L = M ++ [q] := ⟨L.dropLast, L.getLast h0, (List.dropLast_concat_getLast h0).symm⟩
  rw [mostOf_snoc]
  exact mostOk_first _ q (mostOk_of fun r hr => hL r (List.mem_append_left _ hr)) (hL q (by simp)).1 (hL q (by simp)).2
theorem allL_ne (n : Nat) : allL n ≠ [] := by
  obtain ⟨t, ht⟩ := allL_head n
  rw [ht]; simp
theorem len_mMostByGreedy (n : Int) : (mMostByGreedy n).length ≤ 1048576 := by
  unfold mMostByGreedy
  split
  · rename_i hi
    have hb := inB_iff.1 hi
    have := most_length (n := n.toNat) (L := allL n.toNat) (fun q hq => allL_good (by omega) (by omega) hq) (allL_ne _)
    omega
  · simp
end Go.Pan
