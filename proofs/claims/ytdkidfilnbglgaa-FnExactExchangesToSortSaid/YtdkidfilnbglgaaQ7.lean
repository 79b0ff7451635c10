import Derived.Test.YtdkidfilnbglgaaQ6
import Derived.Test.YtdkidfilnbglgaaV3
namespace Go.Pan
-- orbits of a map of the numbers below N onto themselves
def itN (f : Nat → Nat) : Nat → Nat → Nat
  | 0, x => x
  | k + 1, x => f (itN f k x)
theorem itN_add (f : Nat → Nat) (a b x : Nat) : itN f (a + b) x = itN f a (itN f b x) := by
  induction a with
  | zero => rw [Nat.zero_add]; rfl
  | succ a ih => rw [Nat.succ_add]; show f _ = f _; rw [ih]
theorem itN_succ' (f : Nat → Nat) (k x : Nat) : itN f (k + 1) x = itN f k (f x) := itN_add f k 1 x
structure Onto (f : Nat → Nat) (N : Nat) : Prop where
  lt : ∀ y, y < N → f y < N
  inj : ∀ a b, a < N → b < N → f a = f b → a = b
section
variable {f : Nat → Nat} {N : Nat} (hf : Onto f N)
include hf
theorem Onto.it {x : Nat} (hx : x < N) (k : Nat) : itN f k x < N := by
  induction k with
  | zero => exact hx
  | succ k ih => exact hf.lt _ ih
theorem Onto.cancel {x y : Nat} (hx : x < N) (hy : y < N) (i : Nat) (h : itN f i x = itN f i y) : x = y := by
  induction i with
  | zero => exact h
  | succ i ih => exact ih (hf.inj _ _ (hf.it hx i) (hf.it hy i) h)
theorem Onto.back {x : Nat} (hx : x < N) : ∃ d, 1 ≤ d ∧ d ≤ N ∧ itN f d x = x := by
  apply Classical.byContradiction
  intro hno
  have hnd : ((List.range (N + 1)).map fun k => (itN f k x : Int)).Nodup := by
    refine List.pairwise_map.2 ?_
    refine List.pairwise_lt_range.imp_of_mem fun {i j} hi hj hij e => hno ?_
    have hj := List.mem_range.1 hj
    refine ⟨j - i, by omega, by omega, ?_⟩
    have e' : itN f i x = itN f j x := by omega
    have h1 : itN f j x = itN f i (itN f (j - i) x) := by rw [← itN_add]; congr 1; omega
    rw [h1] at e'
    exact (hf.cancel hx (hf.it hx _) i e').symm
  have h2 := length_le_of_nodup_subset _ (ramp 0 N) hnd (fun y hy => by
    obtain ⟨k, _, rfl⟩ := List.mem_map.1 hy
    have := hf.it hx k
    exact mem_ramp.2 (by omega))
  simp [ramp_length] at h2
  omega
end
/-- after how many steps a number comes again -/
def per (f : Nat → Nat) (N x : Nat) : Nat := leastFrom (fun d => decide (itN f d x = x)) N 1
section
variable {f : Nat → Nat} {N : Nat} (hf : Onto f N)
include hf
theorem per_spec {x : Nat} (hx : x < N) : 1 ≤ per f N x ∧ per f N x ≤ N ∧ itN f (per f N x) x = x ∧ ∀ e, 1 ≤ e → e < per f N x → itN f e x ≠ x := by
  obtain ⟨d, h1, h2, h3⟩ := hf.back hx
  have h := leastFrom_spec (fun d => decide (itN f d x = x)) N 1 d h1 (by omega) (by simpa using h3)
  refine ⟨?_, by unfold per; omega, of_decide_eq_true h.1, fun e e1 e2 => ?_⟩
  · exact leastFrom_ge _ N 1
  · have := h.2.2 e e1 e2
    simpa using this
theorem itN_per {x : Nat} (hx : x < N) (k : Nat) : itN f (k % per f N x) x = itN f k x := by
  have hp := per_spec hf hx
  have key : ∀ m r, itN f (r + per f N x * m) x = itN f r x := fun m => by
    induction m with
    | zero => intro r; rw [Nat.mul_zero, Nat.add_zero]
    | succ m ih => intro r; rw [Nat.mul_succ, ← Nat.add_assoc, itN_add, hp.2.2.1]; exact ih r
  have h1 := key (k / per f N x) (k % per f N x)
  rw [Nat.mod_add_div] at h1
  exact h1.symm
end
/-- the cycle of x, from x on; its first k numbers -/
def cycTo (f : Nat → Nat) (x k : Nat) : List Nat := (List.range k).map fun j => itN f j x
def cycL (f : Nat → Nat) (N x : Nat) : List Nat := cycTo f x (per f N x)
theorem cycTo_succ (f : Nat → Nat) (x k : Nat) : cycTo f x (k + 1) = cycTo f x k ++ [itN f k x] := by simp [cycTo, List.range_succ]
theorem cycTo_length (f : Nat → Nat) (x k : Nat) : (cycTo f x k).length = k := by simp [cycTo]
theorem mem_cycTo {f : Nat → Nat} {x k y : Nat} : y ∈ cycTo f x k ↔ ∃ j, j < k ∧ itN f j x = y := by simp [cycTo]
/-- one leads to the other -/
def Rl (f : Nat → Nat) (x y : Nat) : Prop := ∃ k, itN f k x = y
section
variable {f : Nat → Nat} {N : Nat} (hf : Onto f N)
include hf
theorem mem_cycL {x y : Nat} (hx : x < N) : y ∈ cycL f N x ↔ Rl f x y := by
  unfold cycL
  rw [mem_cycTo]
  constructor
  · rintro ⟨j, _, e⟩; exact ⟨j, e⟩
  · rintro ⟨k, e⟩
    exact ⟨k % per f N x, Nat.mod_lt _ (per_spec hf hx).1, by rw [itN_per hf hx, e]⟩
theorem Rl.lt {x y : Nat} (hx : x < N) (h : Rl f x y) : y < N := by
  obtain ⟨k, rfl⟩ := h; exact hf.it hx k
theorem Rl.symm {x y : Nat} (hx : x < N) (h : Rl f x y) : Rl f y x := by
  obtain ⟨k, rfl⟩ := h
  have hp := per_spec hf hx
  refine ⟨per f N x * k - k, ?_⟩
  rw [← itN_add]
  have h1 : k ≤ per f N x * k := Nat.le_mul_of_pos_left k hp.1
  rw [Nat.sub_add_cancel h1, ← itN_per hf hx, Nat.mul_mod_right]
  rfl
omit hf in
theorem Rl.refl (x : Nat) : Rl f x x := ⟨0, rfl⟩
omit hf in
theorem Rl.trans {x y z : Nat} (h : Rl f x y) (h' : Rl f y z) : Rl f x z := by
  obtain ⟨k, rfl⟩ := h
  obtain ⟨j, rfl⟩ := h'
  exact ⟨j + k, itN_add f j k x⟩
theorem cycTo_nodup {x : Nat} (hx : x < N) {k : Nat} (hk : k ≤ per f N x) : (cycTo f x k).Nodup := by
  have hp := per_spec hf hx
  unfold cycTo
  refine List.pairwise_map.2 (List.pairwise_lt_range.imp_of_mem fun {i j} hi hj hij e => ?_)
  have hj := List.mem_range.1 hj
  have h1 : itN f j x = itN f i (itN f (j - i) x) := by rw [← itN_add]; congr 1; omega
  rw [h1] at e
  exact hp.2.2.2 (j - i) (by omega) (by omega) (hf.cancel hx (hf.it hx _) i e).symm
/-- it comes again when x is met -/
theorem cyc_next {x : Nat} (hx : x < N) {k : Nat} (h1 : 1 ≤ k) (hk : k ≤ per f N x) : itN f k x = x ↔ k = per f N x := by
  have hp := per_spec hf hx
  constructor
  · intro h
    rcases Nat.lt_or_ge k (per f N x) with h2 | h2
    · exact absurd h (hp.2.2.2 k h1 h2)
    · omega
  · rintro rfl; exact hp.2.2.1
end
/-- is a number in one of the lists -/
def inSome (cs : List (List Nat)) (y : Nat) : Bool := cs.any fun c => c.contains y
theorem inSome_iff {cs : List (List Nat)} {y : Nat} : inSome cs y = true ↔ ∃ c ∈ cs, y ∈ c := by simp [inSome]
/-- the cycles of the numbers below k -/
def cycsTo (f : Nat → Nat) (N : Nat) : Nat → List (List Nat)
  | 0 => []
  | k + 1 => if inSome (cycsTo f N k) k = true then cycsTo f N k else cycsTo f N k ++ [cycL f N k]
def cycsL (f : Nat → Nat) (N : Nat) : List (List Nat) := cycsTo f N N
theorem cycsTo_yes {f : Nat → Nat} {N k : Nat} (h : inSome (cycsTo f N k) k = true) : cycsTo f N (k + 1) = cycsTo f N k := if_pos h
theorem cycsTo_no {f : Nat → Nat} {N k : Nat} (h : inSome (cycsTo f N k) k = false) : cycsTo f N (k + 1) = cycsTo f N k ++ [cycL f N k] := if_neg (by rw [h]; exact Bool.false_ne_true)
section
variable {f : Nat → Nat} {N : Nat} (hf : Onto f N)
include hf
/-- each of the lists is the cycle of a number below k, which no earlier one leads to -/
theorem cycsTo_mem {k : Nat} (hk : k ≤ N) : (∀ c ∈ cycsTo f N k, ∃ x, x < k ∧ c = cycL f N x) ∧ ∀ x, x < k → ∃ c ∈ cycsTo f N k, x ∈ c := by
  induction k with
  | zero => exact ⟨by simp [cycsTo], fun x hx => by omega⟩
  | succ k ih =>
    obtain ⟨h1, h2⟩ := ih (by omega)
    cases hin : inSome (cycsTo f N k) k with
    | true =>
      rw [cycsTo_yes hin]
      refine ⟨fun c hc => ?_, fun x hx => ?_⟩
      · obtain ⟨x, hx, e⟩ := h1 c hc; exact ⟨x, by omega, e⟩
      · rcases Nat.lt_or_ge x k with hlt | hge
        · exact h2 x hlt
        · obtain rfl : x = k := by omega
          exact inSome_iff.1 hin
    | false =>
      rw [cycsTo_no hin]
      refine ⟨fun c hc => ?_, fun x hx => ?_⟩
      · rcases List.mem_append.1 hc with hc | hc
        · obtain ⟨x, hx, e⟩ := h1 c hc; exact ⟨x, by omega, e⟩
        · exact ⟨k, by omega, List.mem_singleton.1 hc⟩
      · rcases Nat.lt_or_ge x k with hlt | hge
        · obtain ⟨c, hc, hx⟩ := h2 x hlt; exact ⟨c, List.mem_append_left _ hc, hx⟩
        · obtain rfl : x = k := by omega
          exact ⟨cycL f N x, by simp, (mem_cycL hf (by omega)).2 (Rl.refl x)⟩
/-- the lists are closed: with a number they have all that it leads to -/
theorem inSome_rl {k : Nat} (hk : k ≤ N) {x y : Nat} (hx : x < N) (h : Rl f x y) : inSome (cycsTo f N k) x = inSome (cycsTo f N k) y := by
  have key : ∀ a b, a < N → Rl f a b → inSome (cycsTo f N k) a = true → inSome (cycsTo f N k) b = true := fun a b ha hab hin => by
    obtain ⟨c, hc, hac⟩ := inSome_iff.1 hin
    obtain ⟨z, hz, rfl⟩ := (cycsTo_mem hf hk).1 c hc
    have h1 := (mem_cycL hf (by omega)).1 hac
    exact inSome_iff.2 ⟨_, hc, (mem_cycL hf (by omega)).2 (h1.trans hab)⟩
  rw [Bool.eq_iff_iff]
  exact ⟨key x y hx h, key y x (h.lt hf hx) (h.symm hf hx)⟩
theorem cycsTo_length (k : Nat) : (cycsTo f N k).length ≤ k := by
  have _ := hf
  induction k with
  | zero => simp [cycsTo]
  | succ k ih =>
    unfold cycsTo
    split
    · omega
    · simp; omega
end

-- the map of a stack: the number before y + 1
def bfN (xs : List Int) (y : Nat) : Nat := (extD xs (xs.idxOf ((y : Int) + 1))).toNat
theorem extD_inj {xs : List Int} (hg : Good xs) {i j : Nat} (hi : i ≤ xs.length) (hj : j ≤ xs.length) (h : extD xs i = extD xs j) : i = j := by
  have key : ∀ i j, i < j → j ≤ xs.length → extD xs i ≠ extD xs j := fun i j hij hj e => by
    have hb := hg.bd (i := j - 1) (by omega)
    have e2 : extD xs j = xs.getD (j - 1) 0 := by unfold extD below; rw [if_neg (by omega), if_pos (by omega)]
    rw [e2] at e
    by_cases h0 : i = 0
    · subst h0
      have e1 : extD xs 0 = 0 := rfl
      rw [e1] at e
      omega
    · have e1 : extD xs i = xs.getD (i - 1) 0 := by unfold extD below; rw [if_neg h0, if_pos (by omega)]
      rw [e1] at e
      exact hg.ne (i := i - 1) (j := j - 1) (by omega) (by omega) e
  rcases Nat.lt_trichotomy i j with h1 | h1 | h1
  · exact absurd h (key i j h1 hj)
  · exact h1
  · exact absurd h.symm (key j i h1 hi)
theorem extD_rng {xs : List Int} (hg : Good xs) {i : Nat} (hi : i ≤ xs.length) : 0 ≤ extD xs i ∧ extD xs i ≤ xs.length := by
  by_cases h0 : i = 0
  · subst h0; have e1 : extD xs 0 = 0 := rfl; omega
  · have hb := hg.bd (i := i - 1) (by omega)
    have e1 : extD xs i = xs.getD (i - 1) 0 := by unfold extD below; rw [if_neg h0, if_pos (by omega)]
    omega
theorem idx_le (xs : List Int) (v : Int) : xs.idxOf v ≤ xs.length := List.idxOf_le_length
theorem idx_at {xs : List Int} {v : Int} (h : xs.idxOf v < xs.length) : xs[xs.idxOf v] = v := List.getElem_idxOf h
theorem idx_last {xs : List Int} (hg : Good xs) : xs.idxOf ((xs.length : Int) + 1) = xs.length := List.idxOf_eq_length fun h => by have := hg.2.2.1 _ h; omega
theorem idx_of {xs : List Int} (hg : Good xs) {i : Nat} (hi : i < xs.length) : xs.idxOf xs[i] = i := by
  have hl := List.idxOf_lt_length_of_mem (List.getElem_mem hi)
  exact hg.inj hl hi (List.getElem_idxOf hl)
theorem idx_mem {xs : List Int} (hg : Good xs) {y : Nat} (hy : y < xs.length) : xs.idxOf ((y : Int) + 1) < xs.length := List.idxOf_lt_length_of_mem (mem_of_good hg (by omega) (by omega))
theorem idx_inj {xs : List Int} (hg : Good xs) {a b : Nat} (ha : a ≤ xs.length) (hb : b ≤ xs.length) (h : xs.idxOf ((a : Int) + 1) = xs.idxOf ((b : Int) + 1)) : a = b := by
  rcases Nat.lt_or_ge a xs.length with h1 | h1
  · have ha' := idx_mem hg h1
    rcases Nat.lt_or_ge b xs.length with h2 | h2
    · have hb' := idx_mem hg h2
      have e1 := idx_at ha'
      have e2 := idx_at hb'
      simp only [h] at e1
      rw [e1] at e2
      omega
    · obtain rfl : b = xs.length := by omega
      rw [idx_last hg] at h
      omega
  · obtain rfl : a = xs.length := by omega
    rw [idx_last hg] at h
    rcases Nat.lt_or_ge b xs.length with h2 | h2
    · have hb' := idx_mem hg h2; omega
    · omega
theorem bf_onto {xs : List Int} (hg : Good xs) : Onto (bfN xs) (xs.length + 1) where
  lt := fun y _ => by
    have := extD_rng hg (idx_le xs ((y : Int) + 1))
    unfold bfN
    omega
  inj := fun a b ha hb h => by
    have h1 := extD_rng hg (idx_le xs ((a : Int) + 1))
    have h2 := extD_rng hg (idx_le xs ((b : Int) + 1))
    unfold bfN at h
    exact idx_inj hg (by omega) (by omega) (extD_inj hg (idx_le _ _) (idx_le _ _) (by omega))
theorem bf_cast {xs : List Int} (hg : Good xs) (y : Nat) : ((bfN xs y : Nat) : Int) = extD xs (xs.idxOf ((y : Int) + 1)) := by
  have := extD_rng hg (idx_le xs ((y : Int) + 1))
  unfold bfN
  omega
/-- the cycles of a stack -/
def castL (l : List Nat) : List Int := l.map fun (x : Nat) => (x : Int)
def cyclesL (xs : List Int) : List (List Int) := (cycsL (bfN xs) (xs.length + 1)).map castL
theorem cyclesL_length {xs : List Int} (hg : Good xs) : (cyclesL xs).length ≤ 10 := by
  have h := cycsTo_length (bf_onto hg) (xs.length + 1)
  have := hg.le9
  unfold cyclesL cycsL
  rw [List.length_map]
  omega
theorem cyclesL_row {xs : List Int} (hg : Good xs) : ∀ c ∈ cyclesL xs, c.length ≤ 10 := fun c hc => by
  obtain ⟨l, hl, rfl⟩ := List.mem_map.1 hc
  obtain ⟨x, hx, rfl⟩ := (cycsTo_mem (bf_onto hg) (Nat.le_refl _)).1 l hl
  have := (per_spec (bf_onto hg) hx).2.1
  have := hg.le9
  unfold castL cycL
  rw [List.length_map, cycTo_length]
  omega
def mCyclesOfStack (xs : List Int) : List (List Int) := if goodB xs = true then cyclesL xs else []
def mCountCycles (xs : List Int) : Int := if goodB xs = true then ((cyclesL xs).length : Int) else 0
def mExchangeDistance (xs : List Int) : Int := if goodB xs = true then (((xs.length + 1 - (cyclesL xs).length) / 2 : Nat) : Int) else 0
end Go.Pan
