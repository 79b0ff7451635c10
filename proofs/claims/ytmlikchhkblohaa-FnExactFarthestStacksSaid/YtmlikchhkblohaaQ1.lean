import Derived.Test.YtmlikchhkblohaaM5
namespace Go.Pan

-- segments that are turned round
def segL (xs : List Int) (a b : Nat) : List Int := xs.take a ++ ((xs.drop a).take (b - a)).reverse ++ xs.drop b
theorem segL_perm (xs : List Int) (a b : Nat) (h : a ≤ b) : (segL xs a b).Perm xs := by
  unfold segL
  have h1 : (xs.take a ++ ((xs.drop a).take (b - a)).reverse ++ xs.drop b).Perm (xs.take a ++ (xs.drop a).take (b - a) ++ xs.drop b) :=
    ((List.reverse_perm _).append_left _).append_right _
  have h2 : xs.take a ++ (xs.drop a).take (b - a) ++ xs.drop b = xs := by
    have : xs.drop b = (xs.drop a).drop (b - a) := by rw [List.drop_drop]; congr 1; omega
    rw [this, List.append_assoc, List.take_append_drop, List.take_append_drop]
  rwa [h2] at h1
theorem segL_length (xs : List Int) (a b : Nat) (h : a ≤ b) : (segL xs a b).length = xs.length := (segL_perm xs a b h).length_eq
theorem segL_good {xs : List Int} (hg : Good xs) (a b : Nat) (h : a ≤ b) : Good (segL xs a b) := hg.perm (segL_perm xs a b h).symm

/-- there is a segment for n -/
def segB (n : Int) (p : Int × Int) : Bool := inB n 1 9 && (inB p.1 1 n && (inB p.2 1 n && decide (p.1 < p.2)))
theorem segB_iff {n : Int} {p : Int × Int} : segB n p = true ↔ (1 ≤ n ∧ n ≤ 9) ∧ 1 ≤ p.1 ∧ p.1 < p.2 ∧ p.2 ≤ n := by
  simp only [segB, Bool.and_eq_true, inB_iff, decide_eq_true_eq]
  omega
/-- a stack behind a segment -/
def segT (xs : List Int) (p : Int × Int) : List Int := segL xs (p.1 - 1).toNat p.2.toNat
theorem segT_le {n : Int} {p : Int × Int} (h : segB n p = true) : (p.1 - 1).toNat ≤ p.2.toNat := by have := segB_iff.1 h; omega
theorem segT_length {xs : List Int} {n : Int} {p : Int × Int} (h : segB n p = true) : (segT xs p).length = xs.length := segL_length _ _ _ (segT_le h)
theorem segT_good {xs : List Int} (hg : Good xs) {n : Int} {p : Int × Int} (h : segB n p = true) : Good (segT xs p) := segL_good hg _ _ (segT_le h)

/-- behind segments, one after the other -/
def playG (xs : List Int) (l : List (Int × Int)) : List Int := l.foldl segT xs
theorem playG_snoc (xs : List Int) (l : List (Int × Int)) (p : Int × Int) : playG xs (l ++ [p]) = segT (playG xs l) p := by simp [playG]
def Segs (n : Int) (l : List (Int × Int)) : Prop := ∀ p ∈ l, segB n p = true
theorem playG_perm {n : Int} : ∀ (l : List (Int × Int)) (xs : List Int), Segs n l → (playG xs l).Perm xs
  | [], _, _ => List.Perm.refl _
  | p :: l, xs, h => (playG_perm l (segT xs p) (fun q hq => h q (List.mem_cons_of_mem _ hq))).trans (segL_perm _ _ _ (segT_le (h p (List.mem_cons_self))))
theorem playG_length {n : Int} {l : List (Int × Int)} {xs : List Int} (h : Segs n l) : (playG xs l).length = xs.length := (playG_perm l xs h).length_eq
theorem playG_good {n : Int} {l : List (Int × Int)} {xs : List Int} (hg : Good xs) (h : Segs n l) : Good (playG xs l) := hg.perm (playG_perm l xs h).symm
theorem playG_take_succ (xs : List Int) (l : List (Int × Int)) (k : Nat) (h : k < l.length) : playG xs (l.take (k + 1)) = segT (playG xs (l.take k)) l[k] := by
  rw [List.take_succ_eq_append_getElem h, playG_snoc]
instance (n : Int) (l : List (Int × Int)) : Decidable (Segs n l) := by unfold Segs; infer_instance
def segsB (n : Int) (l : List (Int × Int)) : Bool := decide (Segs n l)
theorem segsB_iff {n : Int} {l : List (Int × Int)} : segsB n l = true ↔ Segs n l := by simp [segsB]
theorem Segs.take {n : Int} {l : List (Int × Int)} (h : Segs n l) (k : Nat) : Segs n (l.take k) := fun p hp => h p (List.mem_of_mem_take hp)
theorem Segs.snoc {n : Int} {l : List (Int × Int)} {p : Int × Int} (h : Segs n l) (hp : segB n p = true) : Segs n (l ++ [p]) := fun q hq => by
  rcases List.mem_append.1 hq with h1 | h1
  · exact h q h1
  · obtain rfl := List.mem_singleton.1 h1; exact hp

/-- all segments for n, those from a place on: in order -/
def segsFrom (n a : Nat) : List (Int × Int) := (ramp (a + 1) (n - a)).map fun b => ((a : Int), b)
def segsTo (n : Nat) : Nat → List (Int × Int)
  | 0 => []
  | k + 1 => segsTo n k ++ segsFrom n (k + 1)
def segsAll (n : Nat) : List (Int × Int) := segsTo n n
theorem mem_segsFrom {n a : Nat} {p : Int × Int} : p ∈ segsFrom n a ↔ p.1 = a ∧ (a : Int) < p.2 ∧ p.2 ≤ n := by
  obtain ⟨x, y⟩ := p
  simp only [segsFrom, List.mem_map, mem_ramp, Prod.mk.injEq]
  constructor
  · rintro ⟨b, hb, rfl, rfl⟩; omega
  · rintro ⟨rfl, h1, h2⟩; exact ⟨y, by omega, rfl, rfl⟩
theorem mem_segsTo {n k : Nat} {p : Int × Int} : p ∈ segsTo n k ↔ 1 ≤ p.1 ∧ p.1 ≤ k ∧ p.1 < p.2 ∧ p.2 ≤ n := by
  induction k with
  | zero => simp [segsTo]; omega
  | succ k ih =>
    rw [segsTo, List.mem_append, ih, mem_segsFrom]
    omega
theorem mem_segsAll {n : Nat} {p : Int × Int} : p ∈ segsAll n ↔ 1 ≤ p.1 ∧ p.1 < p.2 ∧ p.2 ≤ n := by
  unfold segsAll; rw [mem_segsTo]; omega
theorem segsAll_B {n : Nat} (h1 : 1 ≤ n) (h9 : n ≤ 9) {p : Int × Int} : p ∈ segsAll n ↔ segB n p = true := by
  rw [mem_segsAll, segB_iff]; omega
theorem segsAll_Segs {n : Nat} (h1 : 1 ≤ n) (h9 : n ≤ 9) : Segs n (segsAll n) := fun _ hp => (segsAll_B h1 h9).1 hp
theorem segsFrom_length (n a : Nat) : (segsFrom n a).length = n - a := by simp [segsFrom, ramp_length]
theorem segsFrom_end (n : Nat) : segsFrom n n = [] := List.eq_nil_of_length_eq_zero (by rw [segsFrom_length]; omega)
theorem segsTo_le (n k : Nat) : (segsTo n k).length ≤ n * k := by
  induction k with
  | zero => simp [segsTo]
  | succ k ih => rw [segsTo, List.length_append, segsFrom_length, Nat.mul_succ]; omega
theorem segsAll_le {n : Nat} (h9 : n ≤ 9) : (segsAll n).length ≤ 81 := by
  have h1 := segsTo_le n n
  have h2 : n * n ≤ 9 * 9 := Nat.mul_le_mul h9 h9
  unfold segsAll; omega
theorem segsAll_pred (n : Nat) (h : 1 ≤ n) : segsAll n = segsTo n (n - 1) := by
  unfold segsAll
  obtain ⟨m, rfl⟩ : ∃ m, n = m + 1 := ⟨n - 1, by omega⟩
  rw [segsTo, segsFrom_end]; simp
/-- the first j of the segments from a place on -/
def segsUp (a : Nat) (j : Nat) : List (Int × Int) := (ramp (a + 1) j).map fun b => ((a : Int), b)
theorem segsUp_all (n a : Nat) : segsUp a (n - a) = segsFrom n a := rfl
theorem segsUp_succ (a j : Nat) : segsUp a (j + 1) = segsUp a j ++ [((a : Int), (a : Int) + 1 + j)] := by
  unfold segsUp
  have : ramp ((a : Int) + 1) (j + 1) = ramp ((a : Int) + 1) j ++ [(a : Int) + 1 + j] := by simp [ramp, List.range_succ]
  rw [this]; simp
theorem segsUp_zero (a : Nat) : segsUp a 0 = [] := by simp [segsUp, ramp]
theorem segsUp_length (a j : Nat) : (segsUp a j).length = j := by simp [segsUp, ramp_length]
def segsAt (n k j : Nat) : List (Int × Int) := segsTo n k ++ segsUp (k + 1) j
theorem segsAt_zero (n k : Nat) : segsAt n k 0 = segsTo n k := by simp [segsAt, segsUp_zero]
theorem segsAt_end (n k : Nat) : segsAt n k (n - (k + 1)) = segsTo n (k + 1) := by simp [segsAt, segsTo, segsUp_all]
theorem segsAt_succ (n k j : Nat) : segsAt n k (j + 1) = segsAt n k j ++ [((k : Int) + 1, (k : Int) + 2 + j)] := by
  unfold segsAt
  rw [segsUp_succ, List.append_assoc]
  rw [show (((k + 1 : Nat) : Int) + 1 + (j : Int)) = (k : Int) + 2 + j by omega, show ((k + 1 : Nat) : Int) = (k : Int) + 1 by omega]

-- breakpoints
def extD (xs : List Int) (i : Nat) : Int := if i = 0 then 0 else below xs (i - 1)
def brkB (xs : List Int) (i : Nat) : Bool := decide (1 < absI (extD xs i - extD xs (i + 1)))
def brkTo (xs : List Int) : Nat → List Int
  | 0 => []
  | k + 1 => if brkB xs k = true then brkTo xs k ++ [(k : Int)] else brkTo xs k
def brkL (xs : List Int) : List Int := brkTo xs (xs.length + 1)
theorem brkTo_yes {xs : List Int} {k : Nat} (h : brkB xs k = true) : brkTo xs (k + 1) = brkTo xs k ++ [(k : Int)] := if_pos h
theorem brkTo_no {xs : List Int} {k : Nat} (h : brkB xs k = false) : brkTo xs (k + 1) = brkTo xs k := if_neg (by rw [h]; exact Bool.false_ne_true)
theorem brkTo_length (xs : List Int) (k : Nat) : (brkTo xs k).length ≤ k := by
  induction k with
  | zero => simp [brkTo]
  | succ k ih =>
    unfold brkTo
    split
    · rw [List.length_append, List.length_singleton]; omega
    · omega
theorem brkL_length (xs : List Int) : (brkL xs).length ≤ xs.length + 1 := brkTo_length xs _
theorem brkB_succ {xs : List Int} {k : Nat} (h : k < xs.length) : brkB xs (k + 1) = gapB xs (k + 1) := by
  have e1 : extD xs (k + 1) = xs.getD k 0 := by unfold extD below; rw [if_neg (by omega), Nat.add_sub_cancel, if_pos h]
  have e2 : extD xs (k + 1 + 1) = below xs (k + 1) := by unfold extD; rw [if_neg (by omega), Nat.add_sub_cancel]
  unfold brkB gapB
  rw [e1, e2, Nat.add_sub_cancel]
theorem brkTo_gaps (xs : List Int) (k : Nat) (h : k ≤ xs.length) : brkTo xs (k + 1) = (if brkB xs 0 = true then [0] else []) ++ gapsTo xs k := by
  induction k with
  | zero =>
    unfold brkTo
    split
    · rfl
    · rfl
  | succ k ih =>
    have ih := ih (by omega)
    rw [brkTo, brkB_succ (by omega)]
    rw [gapsTo]
    split
    · rw [ih]; simp
    · exact ih
theorem brkB_zero {xs : List Int} (h : Good xs) : brkB xs 0 = !decide (xs.getD 0 0 = 1) := by
  have hb := h.bd (i := 0) h.1
  have : 0 < xs.length := h.1
  have e0 : extD xs 0 = 0 := rfl
  have e1 : extD xs (0 + 1) = xs.getD 0 0 := by unfold extD below; rw [if_neg (by omega), Nat.zero_add, Nat.sub_self, if_pos this]
  unfold brkB
  rw [e0, e1]
  generalize xs.getD 0 0 = a at hb
  unfold absI
  rw [Bool.eq_iff_iff]
  simp only [decide_eq_true_eq, Bool.not_eq_true', decide_eq_false_iff_not]
  split <;> omega
theorem brkL_gaps {xs : List Int} (h : Good xs) : brkL xs = (if decide (xs.getD 0 0 = 1) = true then [] else [0]) ++ gapsL xs := by
  unfold brkL
  rw [brkTo_gaps xs xs.length (Nat.le_refl _), brkB_zero h]
  cases decide (xs.getD 0 0 = 1) <;> simp [gapsL]

-- the best segments
structure BestS where
  l : List (Int × Int)
  least : Nat
def bestStep (xs : List Int) (r : BestS) (p : Int × Int) (first : Bool) : BestS :=
  let m := (brkL (segT xs p)).length
  if first = true ∨ m < r.least then ⟨[p], m⟩ else if m = r.least then ⟨r.l ++ [p], m⟩ else r
def bestTo (xs : List Int) : Nat → BestS
  | 0 => ⟨[], (brkL xs).length⟩
  | k + 1 => bestStep xs (bestTo xs k) ((segsAll xs.length).getD k (0, 0)) (k == 0)
def bestS (xs : List Int) : BestS := bestTo xs (segsAll xs.length).length
theorem bestTo_length (xs : List Int) (k : Nat) : (bestTo xs k).l.length ≤ k := by
  induction k with
  | zero => simp [bestTo]
  | succ k ih =>
    unfold bestTo bestStep
    simp only
    split
    · simp
    · split
      · simp; omega
      · omega
theorem bestTo_least (xs : List Int) (hg : Good xs) (k : Nat) (hk : k ≤ (segsAll xs.length).length) : (bestTo xs k).least ≤ 10 := by
  induction k with
  | zero => have := brkL_length xs; have := hg.le9; simp [bestTo]; omega
  | succ k ih =>
    have ih := ih (by omega)
    have hm : (segsAll xs.length).getD k (0, 0) ∈ segsAll xs.length := by
      rw [List.getD_eq_getElem?_getD, List.getElem?_eq_getElem (by omega)]; exact List.getElem_mem _
    have hb := (segsAll_B hg.1 hg.le9).1 hm
    have h1 := brkL_length (segT xs ((segsAll xs.length).getD k (0, 0)))
    rw [segT_length hb] at h1
    have h9 := hg.le9
    unfold bestTo bestStep
    simp only
    split
    · show (brkL (segT xs ((segsAll xs.length).getD k (0, 0)))).length ≤ 10; omega
    · split
      · show (brkL (segT xs ((segsAll xs.length).getD k (0, 0)))).length ≤ 10; omega
      · exact ih

-- selection: the segments that bring the sizes 1, .., k to their places
structure SelS where
  l : List (Int × Int)
  xs : List Int
def selStep (r : SelS) (x : Int) : SelS := if placeL r.xs x = x then r else ⟨r.l ++ [(x, placeL r.xs x)], segT r.xs (x, placeL r.xs x)⟩
def selTo (xs : List Int) : Nat → SelS
  | 0 => ⟨[], xs⟩
  | k + 1 => selStep (selTo xs k) ((k : Int) + 1)
def selL (xs : List Int) : List (Int × Int) := (selTo xs (xs.length - 1)).l

end Go.Pan

