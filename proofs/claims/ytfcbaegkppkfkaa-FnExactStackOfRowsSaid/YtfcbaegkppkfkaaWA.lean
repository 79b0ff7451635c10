import Derived.Test.YtfcbaegkppkfkaaMF
namespace Go.Pan
open Go

/-- the rising parts of k sizes greater than b, in the order in which they are found -/
def chn : List Int → Int → Nat → List (List Int)
  | [], _, 0 => [[]]
  | [], _, _ + 1 => []
  | _ :: _, _, 0 => [[]]
  | x :: t, b, k + 1 => (if b < x then (chn t x k).map (x :: ·) else []) ++ chn t b (k + 1)
theorem chn_zero (t : List Int) (b : Int) : chn t b 0 = [[]] := by cases t <;> rfl
/-- .. each with what is left of the list behind it and its last size -/
def chnS : List Int → Int → Nat → List (List Int × List Int × Int)
  | [], b, 0 => [([], [], b)]
  | [], _, _ + 1 => []
  | x :: t, b, 0 => [([], x :: t, b)]
  | x :: t, b, k + 1 => (if b < x then (chnS t x k).map (fun s => (x :: s.1, s.2)) else []) ++ chnS t b (k + 1)
theorem chnS_zero (t : List Int) (b : Int) : chnS t b 0 = [([], t, b)] := by cases t <;> rfl
theorem chnS_fst : ∀ (t : List Int) (b : Int) (k : Nat), (chnS t b k).map (·.1) = chn t b k
  | [], _, 0 => rfl
  | [], _, _ + 1 => rfl
  | _ :: _, _, 0 => rfl
  | x :: t, b, k + 1 => by
    rw [chnS, chn, List.map_append, chnS_fst t b (k + 1)]
    congr 1
    split
    · rw [← chnS_fst t x k, List.map_map, List.map_map]; rfl
    · rfl
def extS (s : List Int × List Int × Int) : List (List Int) := (s.2.1.filter fun x => decide (s.2.2 < x)).map fun x => s.1 ++ [x]
theorem chn_one : ∀ (t : List Int) (b : Int), chn t b 1 = (t.filter fun x => decide (b < x)).map fun x => [x]
  | [], _ => rfl
  | x :: t, b => by
    rw [chn, chn_zero, chn_one t b, List.filter_cons]
    by_cases h : b < x <;> simp [h]
theorem extS_cons (x : Int) (s : List Int × List Int × Int) : extS (x :: s.1, s.2) = (extS s).map (x :: ·) := by
  unfold extS
  rw [List.map_map]
  rfl
theorem chn_ext : ∀ (t : List Int) (b : Int) (k : Nat), (chnS t b k).flatMap extS = chn t b (k + 1)
  | t, b, 0 => by
    rw [chnS_zero, chn_one]
    simp [extS]
  | [], _, _ + 1 => rfl
  | x :: t, b, k + 1 => by
    rw [chnS, chn, List.flatMap_append, chn_ext t b (k + 1)]
    congr 1
    split
    · rw [← chn_ext t x k, List.flatMap_map, List.map_flatMap]
      congr 1
      funext s
      exact extS_cons x s
    · rfl
theorem idxOf_ne {x y : Int} {t : List Int} (h : x ≠ y) : (x :: t).idxOf y = t.idxOf y + 1 := by
  rw [List.idxOf_cons]
  have : (x == y) = false := by simpa using h
  rw [this]
  rfl
theorem flatMap_same {α β : Type} {f g : α → List β} : ∀ {l : List α}, (∀ x ∈ l, f x = g x) → l.flatMap f = l.flatMap g
  | [], _ => rfl
  | a :: l, h => by
    rw [List.flatMap_cons, List.flatMap_cons, h a (List.mem_cons_self ..), flatMap_same fun x hx => h x (List.mem_cons_of_mem _ hx)]
def lastI (q : List Int) : Int := q.getLast?.getD 0
theorem lastI_cons {x : Int} {q : List Int} (h : q ≠ []) : lastI (x :: q) = lastI q := by
  unfold lastI
  rw [List.getLast?_cons_of_ne_nil h]
def belowQ (xs q : List Int) : List Int := if q = [] then xs else xs.drop (xs.idxOf (lastI q) + 1)
theorem chnS_len : ∀ (t : List Int) (b : Int) (k : Nat), ∀ s ∈ chnS t b k, s.1.length = k
  | t, b, 0, s, h => by rw [chnS_zero] at h; simp at h; subst h; rfl
  | [], _, _ + 1, s, h => by simp [chnS] at h
  | x :: t, b, k + 1, s, h => by
    rw [chnS, List.mem_append] at h
    rcases h with h | h
    · split at h
      · obtain ⟨s', h', rfl⟩ := List.mem_map.1 h
        simp [chnS_len t x k s' h']
      · simp at h
    · exact chnS_len t b (k + 1) s h
theorem chnS_state : ∀ (t : List Int) (b : Int) (k : Nat), t.Nodup → ∀ s ∈ chnS t b k, (s.1 = [] → s.2 = (t, b)) ∧ (s.1 ≠ [] → lastI s.1 ∈ t ∧ s.2 = (t.drop (t.idxOf (lastI s.1) + 1), lastI s.1))
  | t, b, 0, _, s, h => by
    rw [chnS_zero] at h
    simp at h
    subst h
    exact ⟨fun _ => rfl, fun e => absurd rfl e⟩
  | [], _, _ + 1, _, s, h => by simp [chnS] at h
  | x :: t, b, k + 1, hn, s, h => by
    have hl := chnS_len _ _ _ s h
    have hn' := List.nodup_cons.1 hn
    rw [chnS, List.mem_append] at h
    refine ⟨fun e => by rw [e] at hl; simp at hl, fun _ => ?_⟩
    rcases h with h | h
    · split at h
      · obtain ⟨s', h', rfl⟩ := List.mem_map.1 h
        have ih := chnS_state t x k hn'.2 s' h'
        by_cases e : s'.1 = []
        · have e2 := ih.1 e
          simp only [e, e2]
          have e3 : lastI [x] = x := rfl
          rw [e3]
          simp
        · have e2 := ih.2 e
          simp only
          rw [lastI_cons e]
          have hne : x ≠ lastI s'.1 := fun e3 => hn'.1 (e3 ▸ e2.1)
          refine ⟨List.mem_cons_of_mem _ e2.1, ?_⟩
          rw [e2.2, idxOf_ne hne]
          rfl
      · simp at h
    · have ih := chnS_state t b (k + 1) hn'.2 s h
      have e : s.1 ≠ [] := fun e => by rw [e] at hl; simp at hl
      have e2 := ih.2 e
      have hne : x ≠ lastI s.1 := fun e3 => hn'.1 (e3 ▸ e2.1)
      refine ⟨List.mem_cons_of_mem _ e2.1, ?_⟩
      rw [e2.2, idxOf_ne hne]
      rfl
/-- the rising parts that have one size more -/
def longer (xs q : List Int) : List (List Int) := ((belowQ xs q).filter fun x => decide (lastI q < x)).map fun x => q ++ [x]
theorem chn_succ {xs : List Int} (hn : xs.Nodup) (k : Nat) : chn xs 0 (k + 1) = (chn xs 0 k).flatMap (longer xs) := by
  rw [← chn_ext, ← chnS_fst, List.flatMap_map]
  have h : ∀ s ∈ chnS xs 0 k, extS s = longer xs s.1 := fun s hs => by
    have h := chnS_state xs 0 k hn s hs
    unfold extS longer belowQ
    by_cases e : s.1 = []
    · rw [h.1 e, if_pos e, e]; rfl
    · rw [(h.2 e).2, if_neg e]
  exact flatMap_same h
theorem chn_few : ∀ (t : List Int) (b : Int) (k : Nat), (chn t b k).length ≤ 2 ^ t.length
  | t, b, 0 => by rw [chn_zero]; exact Nat.one_le_two_pow
  | [], _, _ + 1 => by simp [chn]
  | x :: t, b, k + 1 => by
    rw [chn, List.length_append, List.length_cons, Nat.pow_succ]
    have h2 := chn_few t b (k + 1)
    have h1 : (if b < x then (chn t x k).map (x :: ·) else []).length ≤ 2 ^ t.length := by
      split
      · rw [List.length_map]; exact chn_few t x k
      · simp
    omega
theorem chn_len (t : List Int) (b : Int) (k : Nat) : ∀ q ∈ chn t b k, q.length = k := fun q hq => by
  rw [← chnS_fst] at hq
  obtain ⟨s, hs, rfl⟩ := List.mem_map.1 hq
  exact chnS_len t b k s hs
theorem chn_short : ∀ (t : List Int) (b : Int) (k : Nat), t.length < k → chn t b k = []
  | _, _, 0, h => by omega
  | [], _, _ + 1, _ => rfl
  | x :: t, b, k + 1, h => by
    rw [chn, chn_short t x k (by simpa using h), chn_short t b (k + 1) (by simp at h; omega)]
    simp
theorem chn_down : ∀ (t : List Int) (b : Int) (k : Nat), chn t b (k + 1) ≠ [] → chn t b k ≠ []
  | t, b, 0, _ => by rw [chn_zero]; simp
  | [], _, k + 1, h => absurd rfl h
  | x :: t, b, k + 1, h => by
    intro e
    rw [chn, List.append_eq_nil_iff] at e
    apply h
    rw [chn, List.append_eq_nil_iff]
    refine ⟨?_, ?_⟩
    · split
      · rename_i hb
        have e1 := e.1
        rw [if_pos hb, List.map_eq_nil_iff] at e1
        rw [List.map_eq_nil_iff]
        exact Classical.byContradiction fun h2 => chn_down t x k h2 e1
      · rfl
    · exact Classical.byContradiction fun h2 => chn_down t b (k + 1) h2 e.2
theorem chn_downs {t : List Int} {b : Int} {k j : Nat} (h : chn t b k ≠ []) (hj : j ≤ k) : chn t b j ≠ [] := by
  induction k with
  | zero => obtain rfl : j = 0 := by omega
            exact h
  | succ k ih =>
    by_cases e : j = k + 1
    · subst e; exact h
    · exact ih (chn_down t b k h) (by omega)
/-- which lists there are -/
theorem mem_chn : ∀ (t : List Int) (b : Int) (k : Nat) (r : List Int), r ∈ chn t b (k + 1) ↔ ∃ (i : Nat) (h : i < t.length), b < t[i] ∧ ∃ q ∈ chn (t.drop (i + 1)) t[i] k, r = t[i] :: q
  | [], _, _, r => by simp [chn]
  | x :: t, b, k, r => by
    rw [chn, List.mem_append, mem_chn t b k r]
    constructor
    · rintro (h | ⟨i, h, hb, q, hq, rfl⟩)
      · split at h
        · rename_i hb
          obtain ⟨q, hq, rfl⟩ := List.mem_map.1 h
          exact ⟨0, by simp, hb, q, by simpa using hq, rfl⟩
        · simp at h
      · exact ⟨i + 1, by simpa using h, by simpa using hb, q, by simpa using hq, rfl⟩
    · rintro ⟨i, h, hb, q, hq, rfl⟩
      cases i with
      | zero =>
        left
        simp only [List.getElem_cons_zero] at hb hq ⊢
        rw [if_pos hb]
        exact List.mem_map.2 ⟨q, by simpa using hq, rfl⟩
      | succ i => exact .inr ⟨i, by simpa using h, by simpa using hb, q, by simpa using hq, rfl⟩

/-- how many there are -/
def cnt (t : List Int) (b : Int) (k : Nat) : Nat := (chn t b k).length
theorem cnt_zero (t : List Int) (b : Int) : cnt t b 0 = 1 := by unfold cnt; rw [chn_zero]; rfl
theorem cnt_cons (x : Int) (t : List Int) (b : Int) (k : Nat) : cnt (x :: t) b (k + 1) = (if b < x then cnt t x k else 0) + cnt t b (k + 1) := by
  unfold cnt
  rw [chn, List.length_append]
  congr 1
  split
  · rw [List.length_map]
  · rfl
theorem cnt_pos {t : List Int} {b : Int} {k : Nat} : 0 < cnt t b k ↔ chn t b k ≠ [] := by
  unfold cnt
  rw [List.length_pos_iff]

/-- the spec's table: for each place the length of a longest rising part that begins there, and how many of these there are -/
def stepB (x : Int) (a : Nat × Nat) (y : Int) (r : Nat × Nat) : Nat × Nat :=
  if y < x then a else if a.1 < r.1 + 1 then (r.1 + 1, r.2) else if r.1 + 1 = a.1 then (a.1, a.2 + r.2) else a
def foldB (x : Int) : Nat × Nat → List Int → List (Nat × Nat) → Nat × Nat
  | a, y :: t, r :: rs => foldB x (stepB x a y r) t rs
  | a, [], _ => a
  | a, _ :: _, [] => a
def tls : List Int → List (Nat × Nat)
  | [] => []
  | x :: t => foldB x (1, 1) t (tls t) :: tls t
theorem tls_length : ∀ t : List Int, (tls t).length = t.length
  | [] => rfl
  | x :: t => by rw [tls, List.length_cons, tls_length t]; rfl
theorem tls_drop : ∀ (t : List Int) (i : Nat), tls (t.drop i) = (tls t).drop i
  | t, 0 => rfl
  | [], i + 1 => rfl
  | x :: t, i + 1 => by rw [List.drop_succ_cons, tls_drop t i, tls]; rfl
structure OkB (g : Nat → Nat) (a : Nat × Nat) : Prop where
  pos : 1 ≤ a.1
  val : g (a.1 - 1) = a.2
  cpos : 0 < a.2
  zero : ∀ k, a.1 ≤ k → g k = 0
theorem OkB.congr {g g' : Nat → Nat} {a : Nat × Nat} (h : OkB g a) (e : ∀ k, g' k = g k) : OkB g' a :=
  ⟨h.pos, by rw [e]; exact h.val, h.cpos, fun k hk => by rw [e]; exact h.zero k hk⟩
def OkT : List Int → List (Nat × Nat) → Prop
  | [], [] => True
  | x :: t, r :: rs => OkB (cnt t x) r ∧ OkT t rs
  | [], _ :: _ => False
  | _ :: _, [] => False
theorem stepB_ok {x y : Int} {g h : Nat → Nat} {a r : Nat × Nat} (ha : OkB g a) (hr : OkB h r) (hxy : y ≠ x) :
    OkB (fun k => g k + (if k = 0 then 0 else if x < y then h (k - 1) else 0)) (stepB x a y r) := by
  unfold stepB
  by_cases h1 : y < x
  · rw [if_pos h1]
    exact ha.congr fun k => by
      rw [if_neg (show ¬ x < y by omega)]
      split <;> rfl
  · rw [if_neg h1]
    have hx : x < y := by omega
    have p1 := ha.pos
    have p2 := hr.pos
    by_cases h2 : a.1 < r.1 + 1
    · rw [if_pos h2]
      refine ⟨by simp, ?_, hr.cpos, fun k hk => ?_⟩
      · simp only [Nat.add_sub_cancel]
        rw [ha.zero r.1 (by omega), if_neg (by omega), if_pos hx, hr.val, Nat.zero_add]
      · simp only at hk ⊢
        rw [ha.zero k (by omega), if_neg (by omega), if_pos hx, hr.zero (k - 1) (by omega)]
    · rw [if_neg h2]
      by_cases h3 : r.1 + 1 = a.1
      · rw [if_pos h3]
        refine ⟨p1, ?_, by have := ha.cpos; simp; omega, fun k hk => ?_⟩
        · simp only
          rw [ha.val, if_neg (by omega), if_pos hx, show a.1 - 1 - 1 = r.1 - 1 by omega, hr.val]
        · simp only at hk ⊢
          rw [ha.zero k hk, if_neg (by omega), if_pos hx, hr.zero (k - 1) (by omega)]
      · rw [if_neg h3]
        refine ⟨p1, ?_, ha.cpos, fun k hk => ?_⟩
        · rw [ha.val, if_neg (by omega), if_pos hx, hr.zero (a.1 - 1 - 1) (by omega), Nat.add_zero]
        · rw [ha.zero k hk, if_neg (by omega), if_pos hx, hr.zero (k - 1) (by omega)]
theorem foldB_ok (x : Int) : ∀ (t : List Int) (rs : List (Nat × Nat)) (g : Nat → Nat) (a : Nat × Nat), OkT t rs → OkB g a → (∀ y ∈ t, y ≠ x) → OkB (fun k => g k + (if k = 0 then 0 else cnt t x k)) (foldB x a t rs)
  | [], rs, g, a, _, ha, _ => by
    have e : foldB x a [] rs = a := by cases rs <;> rfl
    rw [e]
    refine ha.congr fun k => ?_
    cases k with
    | zero => rfl
    | succ k => rfl
  | _ :: _, [], _, _, h, _, _ => h.elim
  | y :: t, r :: rs, g, a, h, ha, hx => by
    rw [foldB]
    refine (foldB_ok x t rs _ _ h.2 (stepB_ok ha h.1 (hx y (List.mem_cons_self ..))) fun z hz => hx z (List.mem_cons_of_mem _ hz)).congr fun k => ?_
    cases k with
    | zero => rfl
    | succ k =>
      simp only [if_neg (Nat.succ_ne_zero k), Nat.add_sub_cancel]
      rw [cnt_cons]
      omega
theorem tls_ok : ∀ t : List Int, t.Nodup → OkT t (tls t)
  | [], _ => trivial
  | x :: t, h => by
    have hn := List.nodup_cons.1 h
    have ih := tls_ok t hn.2
    refine ⟨(foldB_ok x t (tls t) (fun k => if k = 0 then 1 else 0) (1, 1) ih ⟨Nat.le_refl _, rfl, Nat.one_pos, fun k hk => if_neg (by simp at hk; omega)⟩ fun y hy e => hn.1 (e ▸ hy)).congr fun k => ?_, ih⟩
    cases k with
    | zero => rw [cnt_zero]; rfl
    | succ k => simp
theorem OkT.get : ∀ {t : List Int} {rs : List (Nat × Nat)}, OkT t rs → ∀ (i : Nat) (h : i < t.length) (r : Nat × Nat), rs[i]? = some r → OkB (cnt (t.drop (i + 1)) t[i]) r
  | [], _, _, i, h, _, _ => by simp at h
  | _ :: _, [], h, _, _, _, _ => h.elim
  | x :: t, r :: rs, h, 0, _, r', e => by
    simp at e
    subst e
    simpa using h.1
  | x :: t, r :: rs, h, i + 1, hi, r', e => by
    have := OkT.get h.2 i (by simpa using hi) r' (by simpa using e)
    simpa using this

/-- the greatest length -/
def mostTo (xs : List Int) (k : Nat) : Nat := (((tls xs).take k).map (·.1)).foldl max 0
def mostL (xs : List Int) : Nat := mostTo xs xs.length
def sumTo (xs : List Int) (M k : Nat) : Nat := (((tls xs).take k).map fun r => if r.1 = M then r.2 else 0).sum
theorem mostTo_succ {xs : List Int} {k : Nat} (h : k < (tls xs).length) : mostTo xs (k + 1) = max (mostTo xs k) (tls xs)[k].1 := by
  unfold mostTo
  rw [List.take_succ_eq_append_getElem h, List.map_append, List.foldl_append]
  rfl
theorem sumTo_succ {xs : List Int} {M k : Nat} (h : k < (tls xs).length) : sumTo xs M (k + 1) = sumTo xs M k + (if (tls xs)[k].1 = M then (tls xs)[k].2 else 0) := by
  unfold sumTo
  rw [List.take_succ_eq_append_getElem h, List.map_append, List.sum_append]
  simp
theorem foldl_max : ∀ (l : List Nat) (a : Nat), a ≤ l.foldl max a ∧ (∀ x ∈ l, x ≤ l.foldl max a) ∧ (l.foldl max a = a ∨ l.foldl max a ∈ l)
  | [], a => ⟨Nat.le_refl _, by simp, .inl rfl⟩
  | x :: l, a => by
    rw [List.foldl_cons]
    have ih := foldl_max l (max a x)
    refine ⟨by have := ih.1; omega, fun y hy => ?_, ?_⟩
    · rcases List.mem_cons.1 hy with rfl | hy
      · have := ih.1; omega
      · exact ih.2.1 y hy
    · rcases ih.2.2 with h | h
      · rw [h]
        by_cases hax : a ≤ x
        · right; rw [Nat.max_eq_right hax]; exact List.mem_cons_self ..
        · left; omega
      · exact .inr (List.mem_cons_of_mem _ h)
theorem cnt_most : ∀ (t : List Int) (rs : List (Nat × Nat)) (M : Nat), OkT t rs → (∀ x ∈ t, 0 < x) → 1 ≤ M → (∀ r ∈ rs, r.1 ≤ M) → cnt t 0 M = (rs.map fun r => if r.1 = M then r.2 else 0).sum ∧ cnt t 0 (M + 1) = 0
  | [], [], M, _, _, h1, _ => by
    obtain ⟨m, rfl⟩ : ∃ m, M = m + 1 := ⟨M - 1, by omega⟩
    exact ⟨rfl, rfl⟩
  | [], _ :: _, _, h, _, _, _ => h.elim
  | _ :: _, [], _, h, _, _, _ => h.elim
  | x :: t, r :: rs, M, h, hp, h1, hM => by
    have ih := cnt_most t rs M h.2 (fun y hy => hp y (List.mem_cons_of_mem _ hy)) h1 fun y hy => hM y (List.mem_cons_of_mem _ hy)
    obtain ⟨m, rfl⟩ : ∃ m, M = m + 1 := ⟨M - 1, by omega⟩
    have hx := hp x (List.mem_cons_self ..)
    have hr := hM r (List.mem_cons_self ..)
    have hpos := h.1.pos
    rw [cnt_cons, cnt_cons, if_pos hx, if_pos hx, ih.1, ih.2, h.1.zero (m + 1) hr]
    refine ⟨?_, rfl⟩
    rw [List.map_cons, List.sum_cons]
    congr 1
    by_cases e : r.1 = m + 1
    · rw [if_pos e, ← h.1.val, e]; rfl
    · rw [if_neg e]; exact h.1.zero m (by omega)
/-- what the search for the longest finds -/
structure Deep (xs : List Int) : Prop where
  pos : 1 ≤ mostL xs
  le : mostL xs ≤ xs.length
  some : chn xs 0 (mostL xs) ≠ []
  none : chn xs 0 (mostL xs + 1) = []
  count : (chn xs 0 (mostL xs)).length = sumTo xs (mostL xs) xs.length
theorem deep {xs : List Int} (hg : Good xs) (hn : xs.Nodup) (hp : ∀ x ∈ xs, 0 < x) : Deep xs := by
  have ht := tls_ok xs hn
  have hl := tls_length xs
  have h1 := hg.1
  have hM : ∀ r ∈ tls xs, r.1 ≤ mostL xs := fun r hr => by
    unfold mostL mostTo
    rw [List.take_of_length_le (by omega)]
    exact (foldl_max _ 0).2.1 _ (List.mem_map.2 ⟨r, hr, rfl⟩)
  have hge : ∀ (i : Nat) (r : Nat × Nat), (tls xs)[i]? = some r → 1 ≤ r.1 := fun i r e => by
    have hi : i < (tls xs).length := (List.getElem?_eq_some_iff.1 e).1
    exact (ht.get i (by omega) r e).pos
  have hpos : 1 ≤ mostL xs := by
    have h0 : 0 < (tls xs).length := by omega
    have h2 := hge 0 _ (List.getElem?_eq_getElem h0)
    have h3 := hM _ (List.getElem_mem h0)
    omega
  have hc := cnt_most xs (tls xs) (mostL xs) ht hp hpos hM
  have hin : ∃ r ∈ tls xs, r.1 = mostL xs := by
    have h3 := (foldl_max (((tls xs).take xs.length).map (·.1)) 0).2.2
    have e : mostL xs = (((tls xs).take xs.length).map (·.1)).foldl max 0 := rfl
    rw [← e] at h3
    rcases h3 with h3 | h3
    · omega
    · obtain ⟨r, hr, e⟩ := List.mem_map.1 h3
      exact ⟨r, List.mem_of_mem_take hr, e⟩
  obtain ⟨r, hr, e⟩ := hin
  obtain ⟨i, hi, hri⟩ := List.getElem_of_mem hr
  have hok := ht.get i (by omega) r (by rw [List.getElem?_eq_getElem hi, hri])
  have hne : chn xs 0 (mostL xs) ≠ [] := by
    have h5 : chn (xs.drop (i + 1)) (xs[i]'(by omega)) (r.1 - 1) ≠ [] := by
      have h6 := hok.val
      have h7 := hok.cpos
      exact cnt_pos.1 (by omega)
    obtain ⟨q, hq⟩ := List.exists_mem_of_ne_nil _ h5
    intro e2
    obtain ⟨m, hm⟩ : ∃ m, mostL xs = m + 1 := ⟨mostL xs - 1, by omega⟩
    have h8 : (xs[i]'(by omega)) :: q ∈ chn xs 0 (m + 1) := (mem_chn xs 0 m _).2 ⟨i, by omega, hp _ (List.getElem_mem _), q, by rw [show r.1 - 1 = m by omega] at hq; exact hq, rfl⟩
    rw [← hm, e2] at h8
    cases h8
  refine ⟨hpos, ?_, hne, List.eq_nil_of_length_eq_zero hc.2, ?_⟩
  · by_cases h : mostL xs ≤ xs.length
    · exact h
    · exact absurd (chn_short xs 0 _ (by omega)) hne
  · have h9 := hc.1
    unfold sumTo
    rw [List.take_of_length_le (by omega)]
    exact h9

end Go.Pan

