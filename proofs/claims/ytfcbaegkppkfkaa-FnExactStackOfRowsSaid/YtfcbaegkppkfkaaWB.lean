import Derived.Test.YtfcbaegkppkfkaaWA
namespace Go.Pan
open Go

theorem getD_at {α : Type} {l : List α} {i : Nat} {d : α} (h : i < l.length) : l.getD i d = l[i] := by
  rw [List.getD_eq_getElem?_getD, List.getElem?_eq_getElem h]
  rfl
theorem nodup_at {xs : List Int} (hn : xs.Nodup) {i j : Nat} (hi : i < xs.length) (hj : j < xs.length) (e : xs[i] = xs[j]) : i = j := by
  have hp := List.pairwise_iff_getElem.1 hn
  by_cases h1 : i < j
  · exact absurd e (hp i j hi hj h1)
  · by_cases h2 : j < i
    · exact absurd e.symm (hp j i hj hi h2)
    · omega
/-- the least one of lists -/
def IsMin (L : List (List Int)) (q : List Int) : Prop := q ∈ L ∧ ∀ r ∈ L, r = q ∨ ltL q r = true
theorem IsMin.unique {L : List (List Int)} {q q' : List Int} (h : IsMin L q) (h' : IsMin L q') : q = q' := by
  rcases h.2 q' h'.1 with e | e
  · exact e.symm
  · rcases h'.2 q h.1 with e2 | e2
    · exact e2
    · have h3 := ltL_trans _ _ _ e e2
      rw [ltL_irrefl] at h3
      cases h3
def mnS (m x : List Int) : List Int := if decide (cmpL x m < 0) = true then x else m
def mnTo (L : List (List Int)) (k : Nat) : List Int := ((L.drop 1).take (k - 1)).foldl mnS (L.headD [])
theorem mnTo_one (L : List (List Int)) : mnTo L 1 = L.headD [] := rfl
theorem mnTo_succ {L : List (List Int)} {k : Nat} (h1 : 1 ≤ k) (h : k < L.length) : mnTo L (k + 1) = mnS (mnTo L k) L[k] := by
  unfold mnTo
  obtain ⟨j, rfl⟩ : ∃ j, k = j + 1 := ⟨k - 1, by omega⟩
  have hj : j < (L.drop 1).length := by simp; omega
  rw [show j + 1 + 1 - 1 = j + 1 from rfl, show j + 1 - 1 = j from rfl, List.take_succ_eq_append_getElem hj, List.foldl_append]
  simp
theorem mnS_or (m x : List Int) : mnS m x = m ∨ mnS m x = x := by
  unfold mnS
  split
  · exact .inr rfl
  · exact .inl rfl
theorem mnTo_in {L : List (List Int)} (h0 : L ≠ []) : ∀ k, 1 ≤ k → k ≤ L.length → mnTo L k ∈ L
  | 0, h, _ => by omega
  | k + 1, _, h => by
    by_cases hk : k = 0
    · subst hk
      rw [mnTo_one]
      cases L with
      | nil => exact absurd rfl h0
      | cons a t => simp
    · rw [mnTo_succ (by omega) (by omega)]
      rcases mnS_or (mnTo L k) L[k] with e | e
      · rw [e]; exact mnTo_in h0 k (by omega) (by omega)
      · rw [e]; exact List.getElem_mem _
theorem mnTo_le {L : List (List Int)} : ∀ k, 1 ≤ k → k ≤ L.length → ∀ x ∈ L.take k, ltL x (mnTo L k) = false
  | 0, h, _ => by omega
  | k + 1, _, h => fun x hx => by
    by_cases hk : k = 0
    · subst hk
      cases L with
      | nil => simp at h
      | cons a t => simp at hx; subst hx; rw [mnTo_one]; exact ltL_irrefl _
    · have ih := mnTo_le (L := L) k (by omega) (by omega)
      rw [List.take_succ_eq_append_getElem (show k < L.length by omega)] at hx
      rw [mnTo_succ (L := L) (k := k) (by omega) (by omega)]
      obtain ⟨y, hy⟩ : ∃ y, mnTo L k = y := ⟨_, rfl⟩
      obtain ⟨z, hz⟩ : ∃ z, L[k] = z := ⟨_, rfl⟩
      rw [hy] at ih ⊢
      rw [hz] at hx ⊢
      unfold mnS
      cases hd : decide (cmpL z y < 0) with
      | true =>
        rw [if_pos rfl]
        have hzy : ltL z y = true := hd
        rcases List.mem_append.1 hx with hx | hx
        · cases hxz : ltL x z with
          | false => rfl
          | true =>
            have h1 := ltL_trans _ _ _ hxz hzy
            rw [ih x hx] at h1
            cases h1
        · simp at hx; subst hx; exact ltL_irrefl _
      | false =>
        rw [if_neg Bool.false_ne_true]
        rcases List.mem_append.1 hx with hx | hx
        · exact ih x hx
        · simp at hx; subst hx; exact hd
theorem mnTo_min {L : List (List Int)} {n : Nat} (h0 : L ≠ []) (hl : ∀ q ∈ L, q.length = n) : IsMin L (mnTo L L.length) := by
  have hpos : 1 ≤ L.length := List.length_pos_iff.2 h0
  have hin := mnTo_in h0 _ hpos (Nat.le_refl _)
  refine ⟨hin, fun r hr => ?_⟩
  have hle := mnTo_le (L := L) _ hpos (Nat.le_refl _) r (by rw [List.take_length]; exact hr)
  cases h : ltL (mnTo L L.length) r with
  | true => exact .inr rfl
  | false => exact .inl (ltL_total _ _ (by rw [hl _ hr, hl _ hin]) hle h)

/-- the spec's next size of the first longest rising part -/
def elig (xs : List Int) (b : Int) (L i : Nat) : Bool := decide (((tls xs).getD i (0, 0)).1 = L) && !decide (xs.getD i 0 < b)
def rbTo (xs : List Int) (b : Int) (L f : Nat) : Nat → Option Nat
  | 0 => none
  | k + 1 => if elig xs b L (f + k) = true then
      (match rbTo xs b L f k with
        | none => some (f + k)
        | some j => if xs.getD (f + k) 0 < xs.getD j 0 then some (f + k) else some j)
    else rbTo xs b L f k
theorem best_is (xs : List Int) (b : Int) (L f : Nat) : ∀ k, (rbTo xs b L f k = none → ∀ i, f ≤ i → i < f + k → elig xs b L i = false) ∧
    ∀ j, rbTo xs b L f k = some j → f ≤ j ∧ j < f + k ∧ elig xs b L j = true ∧ ∀ i, f ≤ i → i < f + k → elig xs b L i = true → xs.getD j 0 ≤ xs.getD i 0
  | 0 => ⟨fun _ i h1 h2 => by omega, fun j h => by cases h⟩
  | k + 1 => by
    have ih := best_is xs b L f k
    rw [rbTo]
    by_cases he : elig xs b L (f + k) = true
    · rw [if_pos he]
      cases hb : rbTo xs b L f k with
      | none =>
        refine ⟨fun h => (by cases h), fun j h => ?_⟩
        cases h
        refine ⟨by omega, by omega, he, fun i h1 h2 h3 => ?_⟩
        by_cases e : i = f + k
        · subst e; omega
        · rw [ih.1 hb i h1 (by omega)] at h3; cases h3
      | some j0 =>
        have h0 := ih.2 j0 hb
        simp only
        by_cases hlt : xs.getD (f + k) 0 < xs.getD j0 0
        · rw [if_pos hlt]
          refine ⟨fun h => (by cases h), fun j h => ?_⟩
          cases h
          refine ⟨by omega, by omega, he, fun i h1 h2 h3 => ?_⟩
          by_cases e : i = f + k
          · subst e; omega
          · have := h0.2.2.2 i h1 (by omega) h3; omega
        · rw [if_neg hlt]
          refine ⟨fun h => (by cases h), fun j h => ?_⟩
          cases h
          refine ⟨h0.1, by omega, h0.2.2.1, fun i h1 h2 h3 => ?_⟩
          by_cases e : i = f + k
          · subst e; omega
          · exact h0.2.2.2 i h1 (by omega) h3
    · rw [if_neg he]
      have he' : elig xs b L (f + k) = false := by simpa using he
      refine ⟨fun h i h1 h2 => ?_, fun j h => ?_⟩
      · by_cases e : i = f + k
        · subst e; exact he'
        · exact ih.1 h i h1 (by omega)
      · have h0 := ih.2 j h
        refine ⟨h0.1, by omega, h0.2.2.1, fun i h1 h2 h3 => ?_⟩
        by_cases e : i = f + k
        · subst e; rw [he'] at h3; cases h3
        · exact h0.2.2.2 i h1 (by omega) h3
theorem mem_chn_drop (xs : List Int) (f : Nat) (b : Int) (k : Nat) (r : List Int) : r ∈ chn (xs.drop f) b (k + 1) ↔ ∃ (i : Nat), f ≤ i ∧ ∃ h : i < xs.length, b < xs[i] ∧ ∃ q ∈ chn (xs.drop (i + 1)) xs[i] k, r = xs[i] :: q := by
  rw [mem_chn]
  constructor
  · rintro ⟨i, h, hb, q, hq, rfl⟩
    rw [List.getElem_drop] at hb hq ⊢
    rw [List.drop_drop] at hq
    rw [List.length_drop] at h
    exact ⟨f + i, by omega, by omega, hb, q, by rw [show f + i + 1 = f + (i + 1) by omega]; exact hq, rfl⟩
  · rintro ⟨i, h, hi, hb, q, hq, rfl⟩
    obtain ⟨j, rfl⟩ : ∃ j, i = f + j := ⟨i - f, by omega⟩
    refine ⟨j, by rw [List.length_drop]; omega, by rw [List.getElem_drop]; exact hb, q, ?_, by rw [List.getElem_drop]⟩
    rw [List.getElem_drop, List.drop_drop, show f + (j + 1) = f + j + 1 by omega]
    exact hq
theorem ends_at {xs : List Int} (hn : xs.Nodup) (i : Nat) (h : i < xs.length) (k : Nat) : chn (xs.drop (i + 1)) xs[i] k ≠ [] ↔ k < ((tls xs).getD i (0, 0)).1 := by
  have hl := tls_length xs
  have hr : (tls xs)[i]? = some ((tls xs).getD i (0, 0)) := by
    rw [List.getElem?_eq_getElem (by omega)]
    congr 1
    rw [getD_at (by omega)]
  have hok := (tls_ok xs hn).get i h _ hr
  have hp := hok.pos
  constructor
  · intro hne
    by_cases hk : k < ((tls xs).getD i (0, 0)).1
    · exact hk
    · exact absurd (List.eq_nil_of_length_eq_zero (hok.zero k (by omega))) hne
  · intro hk
    have h1 : chn (xs.drop (i + 1)) xs[i] (((tls xs).getD i (0, 0)).1 - 1) ≠ [] := cnt_pos.1 (by have := hok.val; have := hok.cpos; omega)
    exact chn_downs h1 (by omega)
structure RiseSt (xs : List Int) (f : Nat) (b : Int) (L : Nat) : Prop where
  ne : chn (xs.drop f) b L ≠ []
  nil : chn (xs.drop f) b (L + 1) = []
  hb : ∀ (i : Nat) (h : i < xs.length), f ≤ i → xs[i] ≠ b
theorem rise_step {xs : List Int} (hn : xs.Nodup) {f : Nat} {b : Int} {L : Nat} (h : RiseSt xs f b (L + 1)) (hf : f ≤ xs.length) :
    ∃ j, rbTo xs b (L + 1) f (xs.length - f) = some j ∧ f ≤ j ∧ j < xs.length ∧ RiseSt xs (j + 1) (xs.getD j 0) L ∧
      ∀ q, IsMin (chn (xs.drop (j + 1)) (xs.getD j 0) L) q → IsMin (chn (xs.drop f) b (L + 1)) (xs.getD j 0 :: q) := by
  have hl := tls_length xs
  have hel : ∀ (i : Nat) (hi : i < xs.length), f ≤ i → (elig xs b (L + 1) i = true ↔ b < xs[i] ∧ chn (xs.drop (i + 1)) xs[i] L ≠ []) := fun i hi h1 => by
    have hb := h.hb i hi h1
    have he := ends_at hn i hi
    have hg : xs.getD i 0 = xs[i] := getD_at hi
    unfold elig
    rw [hg, Bool.and_eq_true, decide_eq_true_iff, he L]
    have e1 : ((!decide (xs[i] < b)) = true) ↔ b < xs[i] := by
      rw [Bool.not_eq_true', decide_eq_false_iff_not]; omega
    rw [e1]
    constructor
    · rintro ⟨h2, h3⟩; exact ⟨h3, by omega⟩
    · rintro ⟨h2, h3⟩
      refine ⟨?_, h2⟩
      by_cases h4 : ((tls xs).getD i (0, 0)).1 = L + 1
      · exact h4
      · exfalso
        obtain ⟨q, hq⟩ := List.exists_mem_of_ne_nil _ ((he (L + 1)).2 (by omega))
        have : xs[i] :: q ∈ chn (xs.drop f) b (L + 1 + 1) := (mem_chn_drop xs f b (L + 1) _).2 ⟨i, h1, hi, h2, q, hq, rfl⟩
        rw [h.nil] at this
        cases this
  have hB := best_is xs b (L + 1) f (xs.length - f)
  cases hb : rbTo xs b (L + 1) f (xs.length - f) with
  | none =>
    exfalso
    obtain ⟨r, hr⟩ := List.exists_mem_of_ne_nil _ h.ne
    obtain ⟨i, h1, hi, h2, q, hq, rfl⟩ := (mem_chn_drop xs f b L r).1 hr
    have h3 := hB.1 hb i h1 (by omega)
    rw [(hel i hi h1).2 ⟨h2, List.ne_nil_of_mem hq⟩] at h3
    cases h3
  | some j =>
    have hj := hB.2 j hb
    have hjl : j < xs.length := by omega
    have hg : xs.getD j 0 = xs[j] := getD_at hjl
    have hje := (hel j hjl hj.1).1 hj.2.2.1
    refine ⟨j, rfl, hj.1, hjl, ?_, fun q hq => ?_⟩
    · rw [hg]
      refine ⟨hje.2, ?_, fun i hi h1 e => ?_⟩
      · have he := ends_at hn j hjl
        have h3 := hj.2.2.1
        unfold elig at h3
        rw [Bool.and_eq_true, decide_eq_true_iff] at h3
        exact Classical.byContradiction fun h4 => by have := (he (L + 1)).1 h4; omega
      · have := nodup_at hn hi hjl e
        omega
    · rw [hg] at hq ⊢
      refine ⟨(mem_chn_drop xs f b L _).2 ⟨j, hj.1, hjl, hje.1, q, hq.1, rfl⟩, fun r hr => ?_⟩
      obtain ⟨i, h1, hi, h2, q', hq', rfl⟩ := (mem_chn_drop xs f b L r).1 hr
      have h3 := hj.2.2.2 i h1 (by omega) ((hel i hi h1).2 ⟨h2, List.ne_nil_of_mem hq'⟩)
      rw [hg, getD_at hi] at h3
      by_cases e : i = j
      · subst e
        rcases hq.2 q' hq' with rfl | h4
        · exact .inl rfl
        · right
          rw [ltL_cons, h4]; simp
      · right
        have hne : xs[j] ≠ xs[i] := fun e2 => e (nodup_at hn hjl hi e2).symm
        rw [ltL_cons]
        simp
        left; omega
/-- the first longest rising part -/
def riseL (xs : List Int) : List Int := mnTo (chn xs 0 (mostL xs)) (chn xs 0 (mostL xs)).length
theorem riseL_min {xs : List Int} (hd : Deep xs) : IsMin (chn xs 0 (mostL xs)) (riseL xs) := mnTo_min hd.some (chn_len xs 0 (mostL xs))
theorem riseL_length {xs : List Int} (hd : Deep xs) : (riseL xs).length = mostL xs := chn_len _ _ _ _ (riseL_min hd).1
theorem rise_start {xs : List Int} (hd : Deep xs) (hp : ∀ x ∈ xs, 0 < x) : RiseSt xs 0 0 (mostL xs) :=
  ⟨hd.some, hd.none, fun i h _ e => by have := hp _ (List.getElem_mem h); omega⟩

end Go.Pan

