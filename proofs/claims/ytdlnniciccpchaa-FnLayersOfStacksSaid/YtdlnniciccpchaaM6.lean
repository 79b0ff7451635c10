import Derived.Test.YtdlnniciccpchaaM5
namespace Go.Pan

-- greedy plans
theorem placeL_self_bd {ys : List Int} (h : Good ys) {m : Nat} (h1 : 1 ≤ m) (h2 : m ≤ ys.length) : 1 ≤ placeL ys m ∧ placeL ys m ≤ ys.length := placeL_bd (mem_of_good h (by omega) (by omega))
theorem bringL_bd {ys : List Int} (h : Good ys) {m : Nat} (h1 : 1 ≤ m) (h2 : m ≤ ys.length) : ∀ j ∈ bringL ys m m, 1 ≤ j ∧ j ≤ (ys.length : Int) := by
  intro j hj
  unfold bringL at hj
  split at hj
  · simp at hj
  · have hb := placeL_self_bd h h1 h2
    simp only [noOne, List.mem_filter, List.mem_cons, List.not_mem_nil, or_false] at hj
    rcases hj.1 with rfl | rfl
    · exact hb
    · omega
def greedyFrom : Nat → List Int → List Int
  | 0, _ => []
  | 1, _ => []
  | s + 2, ys => bringL ys ((s + 2 : Nat) : Int) ((s + 2 : Nat) : Int) ++ greedyFrom (s + 1) (playL ys (bringL ys ((s + 2 : Nat) : Int) ((s + 2 : Nat) : Int)))
def greedyL (xs : List Int) : List Int := greedyFrom xs.length xs
theorem greedyFrom_low {m : Nat} (h : m ≤ 1) (ys : List Int) : greedyFrom m ys = [] := by
  match m, h with
  | 0, _ => rfl
  | 1, _ => rfl
theorem greedyFrom_step {m : Nat} (h : 2 ≤ m) (ys : List Int) : greedyFrom m ys = bringL ys (m : Int) (m : Int) ++ greedyFrom (m - 1) (playL ys (bringL ys (m : Int) (m : Int))) := by
  match m, h with
  | s + 2, _ => rfl
theorem greedyFrom_length : ∀ (m : Nat) (ys : List Int), (greedyFrom m ys).length ≤ 2 * m := by
  intro m
  induction m with
  | zero => intro ys; simp [greedyFrom]
  | succ m ih =>
    intro ys
    by_cases h : m = 0
    · subst h; simp [greedyFrom]
    · rw [greedyFrom_step (by omega), List.length_append, Nat.add_sub_cancel]
      have h1 := len_bringL ys ((m + 1 : Nat) : Int) ((m + 1 : Nat) : Int)
      have h2 := ih (playL ys (bringL ys ((m + 1 : Nat) : Int) ((m + 1 : Nat) : Int)))
      omega
theorem greedyFrom_bd : ∀ (m : Nat) (ys : List Int), Good ys → m ≤ ys.length → ∀ j ∈ greedyFrom m ys, 1 ≤ j ∧ j ≤ (ys.length : Int) := by
  intro m
  induction m with
  | zero => intro ys _ _ j hj; simp [greedyFrom] at hj
  | succ m ih =>
    intro ys hg hm j hj
    by_cases h : m = 0
    · subst h; simp [greedyFrom] at hj
    · rw [greedyFrom_step (by omega), List.mem_append, Nat.add_sub_cancel] at hj
      rcases hj with hj | hj
      · exact bringL_bd hg (by omega) hm j hj
      · have := ih _ (playL_good hg _) (by rw [playL_length]; omega) j hj
        rwa [playL_length] at this
theorem greedyL_length (xs : List Int) : (greedyL xs).length ≤ 2 * xs.length := greedyFrom_length _ _
def mGreedyPlan (xs : List Int) : List Int := if goodB xs = true then greedyL xs else []
def mGreedyLength (xs : List Int) : Int := if goodB xs = true then ((greedyL xs).length : Int) else 0
theorem len_mGreedyPlan (xs : List Int) : (mGreedyPlan xs).length ≤ 1048576 := by
  unfold mGreedyPlan
  split
  · rename_i h; have := (goodB_iff.1 h).le9; have := greedyL_length xs; omega
  · simp

/-- what a way down has left to do, and what it has done -/
def GreedyAt (xs : List Int) (m : Nat) (ys out : List Int) : Prop := Good ys ∧ ys.length = xs.length ∧ m ≤ xs.length ∧ out ++ greedyFrom m ys = greedyL xs
theorem GreedyAt.start {xs : List Int} (h : Good xs) : GreedyAt xs xs.length xs [] := ⟨h, rfl, Nat.le_refl _, by simp [greedyL]⟩
theorem GreedyAt.step {xs ys out : List Int} {m : Nat} (h : GreedyAt xs m ys out) (h2 : 2 ≤ m) : GreedyAt xs (m - 1) (playL ys (bringL ys (m : Int) (m : Int))) (out ++ bringL ys (m : Int) (m : Int)) :=
  ⟨playL_good h.1 _, by rw [playL_length]; exact h.2.1, by have := h.2.2.1; omega, by rw [List.append_assoc, ← greedyFrom_step h2]; exact h.2.2.2⟩
theorem GreedyAt.done {xs ys out : List Int} {m : Nat} (h : GreedyAt xs m ys out) (h1 : m ≤ 1) : out = greedyL xs := by
  have := h.2.2.2
  rwa [greedyFrom_low h1, List.append_nil] at this
theorem GreedyAt.len {xs ys out : List Int} {m : Nat} (h : GreedyAt xs m ys out) : out.length ≤ 2 * xs.length := by
  have := congrArg List.length h.2.2.2
  rw [List.length_append] at this
  have := greedyL_length xs
  omega

end Go.Pan

