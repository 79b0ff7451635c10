import Derived.Test.YtmlikchhkblohaaM5
namespace Go.Pan
/-- may size stand behind the beginning bs, no good pair made -/
def mayB (bs : List Int) (x : Int) : Bool := !(decide (x ∈ bs)) && (decide (bs = []) || !(decide (absI (bs.getLastD 0 - x) ≤ 1)))
/-- the sizes 1 .. m that may stand behind bs -/
def mayTo (bs : List Int) (m : Nat) : List Int := (ramp 1 m).filter fun x => mayB bs x
theorem mayTo_yes {bs : List Int} {m : Nat} (h : mayB bs ((m : Int) + 1) = true) : mayTo bs (m + 1) = mayTo bs m ++ [(m : Int) + 1] := by
  simp only [mayTo, ramp, List.range_succ, List.map_append, List.filter_append, List.map_cons, List.map_nil]
  rw [Int.add_comm 1 (m : Int)]
  simp [h]
theorem mayTo_no {bs : List Int} {m : Nat} (h : mayB bs ((m : Int) + 1) = false) : mayTo bs (m + 1) = mayTo bs m := by
  simp only [mayTo, ramp, List.range_succ, List.map_append, List.filter_append, List.map_cons, List.map_nil]
  rw [Int.add_comm 1 (m : Int)]
  simp [h]
/-- all stacks of n that begin with bs and make no good pair behind it, f the places left -/
def lookL (n : Nat) : Nat → List Int → List (List Int)
  | 0, bs => [bs]
  | f + 1, bs => (mayTo bs n).flatMap fun x => lookL n f (bs ++ [x])
/-- .. those that go on with a size of 1 .. m -/
def lookTo (n f : Nat) (bs : List Int) (m : Nat) : List (List Int) := (mayTo bs m).flatMap fun x => lookL n f (bs ++ [x])
theorem lookTo_yes {n f : Nat} {bs : List Int} {m : Nat} (h : mayB bs ((m : Int) + 1) = true) : lookTo n f bs (m + 1) = lookTo n f bs m ++ lookL n f (bs ++ [(m : Int) + 1]) := by
  unfold lookTo
  rw [mayTo_yes h, List.flatMap_append]
  simp
theorem lookTo_no {n f : Nat} {bs : List Int} {m : Nat} (h : mayB bs ((m : Int) + 1) = false) : lookTo n f bs (m + 1) = lookTo n f bs m := by
  unfold lookTo
  rw [mayTo_no h]
theorem mayTo_length (bs : List Int) (m : Nat) : (mayTo bs m).length ≤ m := by
  unfold mayTo
  exact Nat.le_trans (List.length_filter_le _ _) (by simp [ramp])
theorem flat_le (B : Nat) (g : Int → List (List Int)) : ∀ (l : List Int) (_ : ∀ x ∈ l, (g x).length ≤ B), (l.flatMap g).length ≤ l.length * B
  | [], _ => by simp
  | x :: r, h => by
    have ih := flat_le B g r (fun y hy => h y (List.mem_cons_of_mem _ hy))
    have h1 := h x (List.mem_cons_self ..)
    simp only [List.flatMap_cons, List.length_append, List.length_cons, Nat.succ_mul]
    omega
theorem lookL_length (n : Nat) (hn : n ≤ 9) : ∀ (f : Nat) (bs : List Int), (lookL n f bs).length ≤ 9 ^ f
  | 0, bs => by simp [lookL]
  | f + 1, bs => by
    have h := flat_le (9 ^ f) (fun x => lookL n f (bs ++ [x])) (mayTo bs n) (fun x _ => lookL_length n hn f _)
    have h2 := mayTo_length bs n
    have h3 : (mayTo bs n).length * 9 ^ f ≤ 9 * 9 ^ f := Nat.mul_le_mul_right _ (by omega)
    rw [lookL, Nat.pow_succ]
    omega
theorem lookTo_length (n f : Nat) (hn : n ≤ 9) (bs : List Int) (m : Nat) (hm : m ≤ 9) : (lookTo n f bs m).length ≤ 9 ^ (f + 1) := by
  have h := flat_le (9 ^ f) (fun x => lookL n f (bs ++ [x])) (mayTo bs m) (fun x _ => lookL_length n hn f _)
  have h2 := mayTo_length bs m
  have h3 : (mayTo bs m).length * 9 ^ f ≤ 9 * 9 ^ f := Nat.mul_le_mul_right _ (by omega)
  unfold lookTo
  rw [Nat.pow_succ]
  omega
theorem pow9_le (f : Nat) (h : f ≤ 9) : 9 ^ f ≤ 387420489 := by
  have : 9 ^ f ≤ 9 ^ 9 := Nat.pow_le_pow_right (by omega) h
  omega

end Go.Pan

