import Derived.Test.YtdlnniciccpchaaM3
namespace Go.Pan

-- games of the top: plain maths
/-- the turn that the top size tells -/
def topT (xs : List Int) : List Int := turnL xs (xs.getD 0 0).toNat
def topN : Nat → List Int → List Int
  | 0, xs => xs
  | t + 1, xs => topT (topN t xs)
theorem topN_succ' : ∀ (t : Nat) (xs : List Int), topN (t + 1) xs = topN t (topT xs)
  | 0, _ => rfl
  | t + 1, xs => by show topT (topN (t + 1) xs) = topT (topN t (topT xs)); rw [topN_succ' t xs]
theorem topN_add (s : Nat) : ∀ (t : Nat) (xs : List Int), topN (s + t) xs = topN s (topN t xs) := by
  induction s with
  | zero => intro t xs; rw [Nat.zero_add]; rfl
  | succ s ih => intro t xs; rw [Nat.add_right_comm]; show topT (topN (s + t) xs) = _; rw [ih]; rfl
theorem topT_good {xs : List Int} (h : Good xs) : Good (topT xs) := turnL_good h _
theorem topT_length (xs : List Int) : (topT xs).length = xs.length := turnL_length _ _
theorem topN_good {xs : List Int} (h : Good xs) : ∀ t, Good (topN t xs)
  | 0 => h
  | t + 1 => topT_good (topN_good h t)
theorem topN_length (xs : List Int) : ∀ t, (topN t xs).length = xs.length
  | 0 => rfl
  | t + 1 => (topT_length _).trans (topN_length xs t)

theorem turnL_get_lo {xs : List Int} {k i : Nat} (hk : k ≤ xs.length) (hi : i < k) : (turnL xs k).getD i 0 = xs.getD (k - 1 - i) 0 := by
  unfold turnL
  rw [List.getD_eq_getElem?_getD, List.getD_eq_getElem?_getD, List.getElem?_append_left (by simp; omega), List.getElem?_reverse (by simp; omega)]
  simp only [List.length_take, Nat.min_eq_left hk]
  rw [List.getElem?_take, if_pos (by omega)]
theorem turnL_get_hi {xs : List Int} {k i : Nat} (hk : k ≤ xs.length) (hi : k ≤ i) : (turnL xs k).getD i 0 = xs.getD i 0 := by
  unfold turnL
  rw [List.getD_eq_getElem?_getD, List.getD_eq_getElem?_getD, List.getElem?_append_right (by simp; omega)]
  simp only [List.length_reverse, List.length_take, Nat.min_eq_left hk, List.getElem?_drop]
  congr 2
  omega
theorem turnL_turnLU {xs : List Int} {k : Nat} (hk : k ≤ xs.length) : turnL (turnL xs k) k = xs := by
  refine List.ext_getElem (by rw [turnL_length, turnL_length]) fun i h1 h2 => ?_
  rw [← getD_eq h1, ← getD_eq h2]
  by_cases hi : i < k
  · rw [turnL_get_lo (by rw [turnL_length]; exact hk) hi, turnL_get_lo hk (by omega)]
    congr 1; omega
  · rw [turnL_get_hi (by rw [turnL_length]; exact hk) (by omega), turnL_get_hi hk (by omega)]

theorem Good.at {xs : List Int} (h : Good xs) {i : Nat} (hi : i < xs.length) : 1 ≤ xs.getD i 0 ∧ xs.getD i 0 ≤ xs.length := by
  rw [getD_eq hi]; exact h.2.2.1 _ (List.getElem_mem hi)
theorem Good.apart {xs : List Int} (h : Good xs) {i j : Nat} (hij : i < j) (hj : j < xs.length) : xs.getD i 0 ≠ xs.getD j 0 := by
  rw [getD_eq (by omega), getD_eq hj]
  exact (List.pairwise_iff_getElem.1 h.2.2.2) i j (by omega) hj hij

theorem first_most (h : Nat → Int) : ∀ t, 0 < t → ∃ k, k < t ∧ (∀ i, i < t → h i ≤ h k) ∧ ∀ i, i < k → h i < h k := by
  intro t
  induction t with
  | zero => intro h; omega
  | succ t ih =>
    intro _
    by_cases ht : t = 0
    · subst ht
      exact ⟨0, by omega, fun i hi => by rw [show i = 0 by omega]; exact Int.le_refl _, fun i hi => by omega⟩
    · obtain ⟨k, hk, h1, h2⟩ := ih (by omega)
      by_cases hh : h k < h t
      · exact ⟨t, by omega, fun i hi => by
          by_cases e : i = t
          · subst e; exact Int.le_refl _
          · have := h1 i (by omega); omega, fun i hi => by have := h1 i hi; omega⟩
      · exact ⟨k, by omega, fun i hi => by
          by_cases e : i = t
          · subst e; omega
          · exact h1 i (by omega), h2⟩

def fibG : Nat → Nat
  | 0 => 0
  | 1 => 1
  | m + 2 => fibG (m + 1) + fibG m + 1
theorem fibG_le (m : Nat) : fibG m ≤ fibG (m + 1) := by
  induction m with
  | zero => decide
  | succ m ih => show fibG (m + 1) ≤ fibG (m + 1) + fibG m + 1; omega
theorem fibG_lt (m : Nat) : fibG m + 1 ≤ fibG (m + 1) := by
  match m with
  | 0 => decide
  | m + 1 => show fibG (m + 1) + 1 ≤ fibG (m + 1) + fibG m + 1; omega

theorem erase_short {S : List Int} {x : Int} (h : x ∈ S) : (S.filter fun y => decide (y ≠ x)).length < S.length := by
  induction S with
  | nil => cases h
  | cons a t ih =>
    by_cases e : a = x
    · subst e
      rw [List.filter_cons_of_neg (by simp)]
      have := List.length_filter_le (fun y => decide (y ≠ a)) t
      simp only [List.length_cons]; omega
    · rw [List.filter_cons_of_pos (by simpa using e)]
      have := ih (by rcases List.mem_cons.1 h with h | h
                     · exact absurd h.symm e
                     · exact h)
      simp only [List.length_cons]; omega

/-- A game whose tops lie in a list S has at most fibG |S| turns. -/
theorem game_bound : ∀ (m : Nat) (S : List Int) (xs : List Int) (t : Nat), Good xs → S.length ≤ m →
    (∀ i, i < t → (topN i xs).getD 0 0 ∈ S) → (∀ i, i < t → 2 ≤ (topN i xs).getD 0 0) → t ≤ fibG m := by
  intro m
  induction m using Nat.strongRecOn with
  | ind m ih =>
    intro S xs t hg hS hin h2
    by_cases ht : t = 0
    · omega
    obtain ⟨k, hk, hmax, hlt⟩ := first_most (fun i => (topN i xs).getD 0 0) t (by omega)

    have hG := topN_good hg
    have hl := topN_length xs
    have hpos : 0 < xs.length := hg.1
    obtain ⟨d, hd⟩ : ∃ d : Nat, (topN k xs).getD 0 0 = (d : Int) := ⟨((topN k xs).getD 0 0).toNat, by have := h2 k hk; omega⟩
    have hd2 : 2 ≤ d := by have := h2 k hk; omega
    have hdn : d ≤ xs.length := by have := ((hG k).at (i := 0) (by rw [hl]; exact hpos)).2; rw [hl] at this; omega
    have hstep : ∀ i, (topN (i + 1) xs) = turnL (topN i xs) ((topN i xs).getD 0 0).toNat := fun i => rfl
    have hSk : (topN k xs).getD 0 0 ∈ S := hin k hk
    cases m with
    | zero =>
      have : S = [] := List.eq_nil_of_length_eq_zero (by omega)
      rw [this] at hSk; cases hSk
    | succ m =>
    -- behind turn k the size d lies at its own place
    have hplace : ∀ i, k < i → i ≤ t → (topN i xs).getD (d - 1) 0 = (d : Int) := by
      intro i hi
      induction i with
      | zero => omega
      | succ i ihi =>
        intro hit
        by_cases e : i = k
        · subst e
          rw [hstep, hd, Int.toNat_natCast, turnL_get_lo (by rw [hl]; exact hdn) (by omega), show d - 1 - (d - 1) = 0 by omega]
          exact hd
        · have hp := ihi (by omega) (by omega)
          have hm := hmax i (by omega)
          rw [hd] at hm
          have hne := (hG i).apart (i := 0) (j := d - 1) (by omega) (by rw [hl]; omega)
          rw [hp] at hne
          have h2i := h2 i (by omega)
          rw [hstep, turnL_get_hi (by rw [hl]; omega) (by omega)]
          exact hp
    have hafter : ∀ i, k < i → i < t → (topN i xs).getD 0 0 ≠ (d : Int) := by
      intro i hi hit
      have hne := (hG i).apart (i := 0) (j := d - 1) (by omega) (by rw [hl]; omega)
      rw [hplace i hi (by omega)] at hne
      exact hne
    have hS1 : (S.filter fun y => decide (y ≠ (d : Int))).length ≤ m := by
      have := erase_short (x := (d : Int)) (S := S) (by rw [← hd]; exact hSk)
      omega
    have hlate : t - 1 - k ≤ fibG m := by
      refine ih m (by omega) (S.filter fun y => decide (y ≠ (d : Int))) (topN (k + 1) xs) (t - 1 - k) (hG _) hS1 ?_ ?_
      · intro i hi
        rw [← topN_add]
        rw [List.mem_filter]
        exact ⟨hin _ (by omega), by simpa using hafter (i + (k + 1)) (by omega) (by omega)⟩
      · intro i hi
        rw [← topN_add]
        exact h2 _ (by omega)
    by_cases hlast : t = k + 1
    · have hearly : k ≤ fibG m := by
        refine ih m (by omega) (S.filter fun y => decide (y ≠ (d : Int))) xs k hg hS1 ?_ fun i hi => h2 i (by omega)
        intro i hi
        rw [List.mem_filter]
        refine ⟨hin i (by omega), ?_⟩
        have := hlt i hi
        rw [hd] at this
        rw [decide_eq_true_iff]; omega
      have := fibG_lt m
      omega
    · -- the size that comes to the top behind turn k has lain still before
      have hr0 : (topN (k + 1) xs).getD 0 0 = (topN k xs).getD (d - 1) 0 := by
        rw [hstep, hd, Int.toNat_natCast, turnL_get_lo (by rw [hl]; exact hdn) (by omega)]
        rfl
      have hstill : ∀ i, i ≤ k → (topN i xs).getD (d - 1) 0 = (topN k xs).getD (d - 1) 0 := by
        have : ∀ j, j ≤ k → (topN (k - j) xs).getD (d - 1) 0 = (topN k xs).getD (d - 1) 0 := by
          intro j
          induction j with
          | zero => intro _; rfl
          | succ j ihj =>
            intro hj
            rw [← ihj (by omega), show k - j = (k - (j + 1)) + 1 by omega, hstep]
            have h3 := hlt (k - (j + 1)) (by omega)
            rw [hd] at h3
            have h4 := h2 (k - (j + 1)) (by omega)
            rw [turnL_get_hi (by rw [hl]; omega) (by omega)]
        intro i hi
        have := this (k - i) (by omega)
        rwa [show k - (k - i) = i by omega] at this
      obtain ⟨r, hr⟩ : ∃ r, (topN (k + 1) xs).getD 0 0 = r := ⟨_, rfl⟩
      have hrd : r ≠ (d : Int) := by rw [← hr]; exact hafter (k + 1) (by omega) (by omega)
      have hrS : r ∈ S := by rw [← hr]; exact hin (k + 1) (by omega)
      have hrS1 : r ∈ (S.filter fun y => decide (y ≠ (d : Int))) := by rw [List.mem_filter]; exact ⟨hrS, by simpa using hrd⟩
      have hsh := erase_short hrS1
      cases m with
      | zero => exfalso; omega
      | succ m =>
        have hearly : k ≤ fibG m := by
          refine ih m (by omega) ((S.filter fun y => decide (y ≠ (d : Int))).filter fun y => decide (y ≠ r)) xs k hg (by omega) ?_ fun i hi => h2 i (by omega)
          intro i hi
          rw [List.mem_filter, List.mem_filter]
          refine ⟨⟨hin i (by omega), ?_⟩, ?_⟩
          · have := hlt i hi
            rw [hd] at this
            rw [decide_eq_true_iff]; omega
          · have hne := (hG i).apart (i := 0) (j := d - 1) (by omega) (by rw [hl]; omega)
            rw [hstill i (by omega), ← hr0, hr] at hne
            simpa using hne
        show t ≤ fibG (m + 1) + fibG m + 1
        omega

/-- Each game of the top ends within 54 turns. -/
theorem game_ends {xs : List Int} (hg : Good xs) {t : Nat} (h : ∀ i, i < t → (topN i xs).getD 0 0 ≠ 1) : t ≤ 54 := by
  have hb : ∀ i, 1 ≤ (topN i xs).getD 0 0 ∧ (topN i xs).getD 0 0 ≤ xs.length := fun i => by
    have := (topN_good hg i).at (i := 0) (by rw [topN_length]; exact hg.1)
    rwa [topN_length] at this
  have := game_bound 8 (ramp 2 8) xs t hg (by rw [ramp_length]; exact Nat.le_refl _) (fun i hi => mem_ramp.2 (by
    have h1 := hb i; have h2 := h i hi; have h3 := hg.2.1; omega)) (fun i hi => by have h1 := hb i; have h2 := h i hi; omega)
  exact this

end Go.Pan

namespace Go.Pan

-- trees of the game: plain maths
def befB (s : List Int) (k : Nat) : Bool := decide (1 ≤ k ∧ s.getD k 0 = (k : Int) + 1)
/-- the stacks before s, of the sizes 1, .., m -/
def befTo (s : List Int) : Nat → List (List Int)
  | 0 => []
  | k + 1 => befTo s k ++ if befB s k = true then [turnL s (k + 1)] else []
def befL (s : List Int) : List (List Int) := befTo s s.length
theorem befTo_yes {s : List Int} {k : Nat} (h : befB s k = true) : befTo s (k + 1) = befTo s k ++ [turnL s (k + 1)] := by rw [befTo, if_pos h]
theorem befTo_no {s : List Int} {k : Nat} (h : befB s k = false) : befTo s (k + 1) = befTo s k := by rw [befTo, if_neg (by rw [h]; exact Bool.false_ne_true), List.append_nil]
theorem befTo_one (s : List Int) : befTo s 1 = [] := befTo_no (by simp [befB])
theorem befTo_more (s : List Int) : ∀ j, befTo s (s.length + j) = befL s
  | 0 => rfl
  | j + 1 => by
    have hb : befB s (s.length + j) = false := by
      unfold befB
      rw [decide_eq_false_iff_not]
      intro h
      have : s.getD (s.length + j) 0 = 0 := by simp [List.getD_eq_getElem?_getD]
      omega
    rw [← Nat.add_assoc, befTo_no hb]; exact befTo_more s j
theorem befTo_nine {s : List Int} (h9 : s.length ≤ 9) : befTo s 9 = befL s := by
  have := befTo_more s (9 - s.length)
  rwa [show s.length + (9 - s.length) = 9 by omega] at this
theorem befTo_length (s : List Int) : ∀ m, (befTo s m).length ≤ m
  | 0 => by simp [befTo]
  | m + 1 => by
    have := befTo_length s m
    rw [befTo, List.length_append]
    split <;> simp <;> omega
theorem mem_befTo {s x : List Int} {m : Nat} : x ∈ befTo s m ↔ ∃ k, k < m ∧ befB s k = true ∧ x = turnL s (k + 1) := by
  induction m with
  | zero => simp [befTo]
  | succ m ih =>
    rw [befTo, List.mem_append, ih]
    constructor
    · rintro (⟨k, hk, h⟩ | h)
      · exact ⟨k, by omega, h⟩
      · split at h
        · rename_i hb
          rw [List.mem_singleton] at h
          exact ⟨m, by omega, hb, h⟩
        · cases h
    · rintro ⟨k, hk, hb, h⟩
      by_cases e : k = m
      · subst e; rw [if_pos hb]; exact .inr (List.mem_singleton.2 h)
      · exact .inl ⟨k, by omega, hb, h⟩
theorem befB_at {s : List Int} {k : Nat} (h : befB s k = true) : 1 ≤ k ∧ s.getD k 0 = (k : Int) + 1 := of_decide_eq_true h
theorem befB_lt {s : List Int} {k : Nat} (h : befB s k = true) : k < s.length := by
  have h := befB_at h
  by_cases hl : k < s.length
  · exact hl
  · exfalso
    have : s.getD k 0 = 0 := by simp [List.getD_eq_getElem?_getD, List.getElem?_eq_none (show s.length ≤ k by omega)]
    omega
theorem mem_befL {s x : List Int} (hs : Good s) : x ∈ befL s ↔ Good x ∧ x.getD 0 0 ≠ 1 ∧ topT x = s := by
  unfold befL
  rw [mem_befTo]
  constructor
  · rintro ⟨k, hk, hb, rfl⟩
    have h1 := befB_at hb
    have hh : (turnL s (k + 1)).getD 0 0 = ((k + 1 : Nat) : Int) := by
      rw [turnL_get_lo (by omega) (by omega), show k + 1 - 1 - 0 = k by omega, h1.2]; omega
    refine ⟨turnL_good hs _, by rw [hh]; omega, ?_⟩
    unfold topT
    rw [hh, Int.toNat_natCast, turnL_turnLU (by omega)]
  · rintro ⟨hx, h1, rfl⟩
    have hb := hx.at (i := 0) hx.1
    obtain ⟨k, hk⟩ : ∃ k : Nat, x.getD 0 0 = ((k + 1 : Nat) : Int) := ⟨(x.getD 0 0).toNat - 1, by omega⟩
    have hkl : k + 1 ≤ x.length := by omega
    have ht : topT x = turnL x (k + 1) := by unfold topT; rw [hk, Int.toNat_natCast]
    rw [ht]
    refine ⟨k, by rw [turnL_length]; omega, ?_, (turnL_turnLU hkl).symm⟩
    unfold befB
    rw [decide_eq_true_iff, turnL_get_lo hkl (by omega), show k + 1 - 1 - k = 0 by omega, hk]
    omega
theorem befL_length {s x : List Int} (h : x ∈ befL s) : x.length = s.length := by
  obtain ⟨k, _, _, rfl⟩ := mem_befTo.1 h
  exact turnL_length _ _
theorem befTo_head {s x : List Int} {m : Nat} (h : x ∈ befTo s m) : x.getD 0 0 ≤ (m : Int) := by
  obtain ⟨k, hk, hb, rfl⟩ := mem_befTo.1 h
  have := befB_lt hb
  rw [turnL_get_lo (by omega) (by omega), show k + 1 - 1 - 0 = k by omega, (befB_at hb).2]; omega
theorem befTo_nodup (s : List Int) : ∀ m, (befTo s m).Nodup
  | 0 => by simp [befTo]
  | m + 1 => by
    rw [befTo]
    split
    · rename_i hb
      rw [List.nodup_append]
      refine ⟨befTo_nodup s m, by simp, fun a ha b hb' e => ?_⟩
      rw [List.mem_singleton] at hb'
      subst hb' e
      have h1 := befTo_head ha
      have := befB_lt hb
      rw [turnL_get_lo (by omega) (by omega), show m + 1 - 1 - 0 = m by omega, (befB_at hb).2] at h1
      omega
    · rw [List.append_nil]; exact befTo_nodup s m

/-- the stacks that lead to those of L by d turns -/
def lvl : Nat → List (List Int) → List (List Int)
  | 0, L => L
  | d + 1, L => lvl d (L.flatMap befL)
def GoodAll (n : Nat) (L : List (List Int)) : Prop := ∀ q ∈ L, Good q ∧ q.length = n
theorem GoodAll.bef {n : Nat} {L : List (List Int)} (h : GoodAll n L) : GoodAll n (L.flatMap befL) := by
  intro q hq
  obtain ⟨p, hp, hq⟩ := List.mem_flatMap.1 hq
  exact ⟨((mem_befL (h p hp).1).1 hq).1, by rw [befL_length hq]; exact (h p hp).2⟩
theorem mem_lvl {n : Nat} : ∀ (d : Nat) (L : List (List Int)) (x : List Int), GoodAll n L → (x ∈ lvl d L ↔ Good x ∧ topN d x ∈ L ∧ ∀ i, i < d → (topN i x).getD 0 0 ≠ 1)
  | 0, L, x, h => ⟨fun hx => ⟨(h x hx).1, hx, fun i hi => by omega⟩, fun hx => hx.2.1⟩
  | d + 1, L, x, h => by
    rw [lvl, mem_lvl d (L.flatMap befL) x h.bef, List.mem_flatMap]
    constructor
    · rintro ⟨hg, ⟨p, hp, hq⟩, hi⟩
      have hm := (mem_befL (h p hp).1).1 hq
      refine ⟨hg, by show topT (topN d x) ∈ L; rw [hm.2.2]; exact hp, fun i hi' => ?_⟩
      by_cases e : i = d
      · subst e; exact hm.2.1
      · exact hi i (by omega)
    · rintro ⟨hg, hp, hi⟩
      refine ⟨hg, ⟨topN (d + 1) x, hp, (mem_befL (topN_good hg _)).2 ⟨topN_good hg _, hi d (by omega), rfl⟩⟩, fun i hi' => hi i (by omega)⟩
theorem lvl_end {n : Nat} {L : List (List Int)} (h : GoodAll n L) {d : Nat} (hd : 55 ≤ d) : lvl d L = [] := by
  rw [List.eq_nil_iff_forall_not_mem]
  intro x hx
  have hm := (mem_lvl d L x h).1 hx
  have := game_ends hm.1 hm.2.2
  omega
theorem bef_nodup {n : Nat} : ∀ {L : List (List Int)}, GoodAll n L → L.Nodup → (L.flatMap befL).Nodup
  | [], _, _ => by simp
  | s :: L, h, hn => by
    rw [List.flatMap_cons, List.nodup_append]
    have hn' := List.nodup_cons.1 hn
    refine ⟨befTo_nodup s _, bef_nodup (fun q hq => h q (List.mem_cons_of_mem _ hq)) hn'.2, fun a ha b hb e => ?_⟩
    subst e
    obtain ⟨p, hp, hq⟩ := List.mem_flatMap.1 hb
    have h1 := ((mem_befL (h s (List.mem_cons_self ..)).1).1 ha).2.2
    have h2 := ((mem_befL (h p (List.mem_cons_of_mem _ hp)).1).1 hq).2.2
    rw [h1] at h2
    subst h2
    exact hn'.1 hp
theorem lvl_good {n : Nat} : ∀ (d : Nat) {L : List (List Int)}, GoodAll n L → GoodAll n (lvl d L)
  | 0, _, h => h
  | d + 1, _, h => lvl_good d h.bef
theorem lvl_nodup {n : Nat} : ∀ (d : Nat) {L : List (List Int)}, GoodAll n L → L.Nodup → (lvl d L).Nodup
  | 0, _, _, hn => hn
  | d + 1, _, h, hn => lvl_nodup d h.bef (bef_nodup h hn)
theorem lvl_nil : ∀ d, lvl d [] = []
  | 0 => rfl
  | d + 1 => by rw [lvl]; exact lvl_nil d

/-- A list of digits as a number. -/
def encI : List Int → Int
  | [] => 0
  | x :: t => x + 10 * encI t
theorem encI_bd : ∀ (xs : List Int), (∀ x ∈ xs, 0 ≤ x ∧ x ≤ 9) → 0 ≤ encI xs ∧ encI xs < 10 ^ xs.length
  | [], _ => by simp [encI]
  | x :: t, h => by
    have h1 := encI_bd t (fun y hy => h y (List.mem_cons_of_mem _ hy))
    have h2 := h x (List.mem_cons_self ..)
    rw [encI, List.length_cons, Int.pow_succ]
    omega
theorem encI_inj : ∀ (xs ys : List Int), xs.length = ys.length → (∀ x ∈ xs, 0 ≤ x ∧ x ≤ 9) → (∀ x ∈ ys, 0 ≤ x ∧ x ≤ 9) → encI xs = encI ys → xs = ys
  | [], [], _, _, _, _ => rfl
  | [], _ :: _, h, _, _, _ => by simp at h
  | _ :: _, [], h, _, _, _ => by simp at h
  | x :: t, y :: u, hl, h1, h2, e => by
    have hx := h1 x (List.mem_cons_self ..)
    have hy := h2 y (List.mem_cons_self ..)
    rw [encI, encI] at e
    have e1 : x = y := by omega
    have e2 : encI t = encI u := by omega
    rw [e1, encI_inj t u (by simpa using hl) (fun z hz => h1 z (List.mem_cons_of_mem _ hz)) (fun z hz => h2 z (List.mem_cons_of_mem _ hz)) e2]
theorem Good.digits {xs : List Int} (h : Good xs) : ∀ x ∈ xs, 0 ≤ x ∧ x ≤ 9 := fun x hx => by
  have := h.2.2.1 x hx; have := h.2.1; omega
/-- There are no more than 10^9 different stacks of n. -/
theorem stacks_few {n : Nat} {L : List (List Int)} (h : GoodAll n L) (hn : L.Nodup) : L.length ≤ 1000000000 := by
  by_cases h0 : L = []
  · rw [h0]; simp
  have h9 : n ≤ 9 := by
    obtain ⟨q, hq⟩ := List.exists_mem_of_ne_nil _ h0
    have := h q hq; have := this.1.2.1; omega
  have hnd : (L.map encI).Nodup := by
    refine List.pairwise_map.2 (hn.imp_of_mem fun {a b} ha hb hab e => hab ?_)
    exact encI_inj a b (by rw [(h a ha).2, (h b hb).2]) (h a ha).1.digits (h b hb).1.digits e
  have hle := length_le_of_nodup_subset (L.map encI) (ramp 0 (10 ^ n)) hnd (fun x hx => by
    obtain ⟨q, hq, rfl⟩ := List.mem_map.1 hx
    have := encI_bd q (h q hq).1.digits
    rw [(h q hq).2] at this
    refine mem_ramp.2 ⟨this.1, ?_⟩
    rw [Int.zero_add]
    have e : ((10 ^ n : Nat) : Int) = 10 ^ n := by simp
    rw [e]; exact this.2)
  rw [List.length_map, ramp_length] at hle
  have : 10 ^ n ≤ 10 ^ 9 := Nat.pow_le_pow_right (by omega) h9
  omega

/-- all stacks of the tree by levels -/
def lvlsF : Nat → List (List Int) → List (List (List Int))
  | 0, _ => []
  | f + 1, L => if L.length = 0 then [] else L :: lvlsF f (L.flatMap befL)
def totF : Nat → List (List Int) → Nat
  | 0, _ => 0
  | f + 1, L => L.length + totF f (L.flatMap befL)
def levF : Nat → List (List Int) → Nat
  | 0, _ => 0
  | f + 1, L => if L.length = 0 then 0 else levF f (L.flatMap befL) + 1
theorem totF_nil : ∀ f, totF f [] = 0
  | 0 => rfl
  | f + 1 => by rw [totF, List.flatMap_nil, totF_nil f]; rfl
theorem levF_nil : ∀ f, levF f [] = 0
  | 0 => rfl
  | f + 1 => by rw [levF]; rfl
theorem levF_pos {f : Nat} {L : List (List Int)} (h : L ≠ []) : 0 < levF (f + 1) L := by
  rw [levF, if_neg (by rw [List.length_eq_zero_iff]; exact h)]; omega
theorem totF_append : ∀ (f : Nat) (A B : List (List Int)), totF f (A ++ B) = totF f A + totF f B
  | 0, _, _ => rfl
  | f + 1, A, B => by rw [totF, totF, totF, List.flatMap_append, totF_append f, List.length_append]; omega
theorem levF_append : ∀ (f : Nat) (A B : List (List Int)), levF f (A ++ B) = max (levF f A) (levF f B)
  | 0, _, _ => rfl
  | f + 1, A, B => by
    rw [levF, levF, levF, List.flatMap_append, levF_append f, List.length_append]
    by_cases ha : A.length = 0
    · rw [List.length_eq_zero_iff.1 ha]
      by_cases hb : B.length = 0
      · simp [hb]
      · simp [hb, levF_nil]
    · by_cases hb : B.length = 0
      · rw [List.length_eq_zero_iff.1 hb]; simp [ha, levF_nil]
      · simp only [if_neg ha, if_neg hb]
        rw [if_neg (by omega)]
        omega
theorem lvlsF_length : ∀ (f : Nat) (L : List (List Int)), (lvlsF f L).length = levF f L
  | 0, _ => rfl
  | f + 1, L => by
    rw [lvlsF, levF]
    split
    · rfl
    · rw [List.length_cons, lvlsF_length f]
theorem lvlsF_total : ∀ (f : Nat) (L : List (List Int)), ((lvlsF f L).map List.length).sum = totF f L
  | 0, _ => rfl
  | f + 1, L => by
    rw [lvlsF, totF]
    by_cases h : L.length = 0
    · rw [if_pos h, List.length_eq_zero_iff.1 h]; simp [totF_nil]
    · rw [if_neg h, List.map_cons, List.sum_cons, lvlsF_total f]
theorem levF_le : ∀ (f : Nat) (L : List (List Int)), levF f L ≤ f
  | 0, _ => Nat.le_refl _
  | f + 1, L => by
    rw [levF]
    split
    · omega
    · have := levF_le f (L.flatMap befL); omega
theorem totF_le {n : Nat} : ∀ (f : Nat) {L : List (List Int)}, GoodAll n L → L.Nodup → totF f L ≤ f * 1000000000
  | 0, _, _, _ => by simp [totF]
  | f + 1, L, h, hn => by
    have h1 := stacks_few h hn
    have h2 := totF_le f h.bef (bef_nodup h hn)
    rw [totF, Nat.add_mul]
    omega
/-- the levels, one after the other -/
theorem lvlsF_at {f : Nat} {L : List (List Int)} : ∀ d, d < levF f L → (lvlsF f L)[d]? = some (lvl d L) := by
  induction f generalizing L with
  | zero => intro d hd; simp [levF] at hd
  | succ f ih =>
    intro d hd
    rw [levF] at hd
    rw [lvlsF]
    by_cases h : L.length = 0
    · rw [if_pos h] at hd; omega
    · rw [if_neg h] at hd
      rw [if_neg h]
      cases d with
      | zero => rfl
      | succ d => rw [List.getElem?_cons_succ]; exact ih d (by omega)

theorem goodAll_one {s : List Int} (h : Good s) : GoodAll s.length [s] := fun q hq => by rw [List.mem_singleton] at hq; subst hq; exact ⟨h, rfl⟩
def mTreeSize (s : List Int) : Int := if goodB s = true then (totF 60 [s] : Int) else 0
def mDepthBefore (s : List Int) : Int := if goodB s = true then (levF 60 [s] : Int) - 1 else 0
theorem tree_bd {s : List Int} (h : Good s) (f : Nat) : totF f [s] ≤ f * 1000000000 := totF_le f (goodAll_one h) (by simp)

end Go.Pan

namespace Go.Pan

-- models of the small functions of games
def homeB (xs : List Int) : Bool := decide (xs.getD 0 0 = 1)
def mIsHome (xs : List Int) : Bool := goodB xs && homeB xs
def okTopStep (xs : List Int) : Bool := goodB xs && !homeB xs
def mTopStep (xs : List Int) : List Int := if okTopStep xs = true then topT xs else []
theorem len_mTopStep (xs : List Int) : (mTopStep xs).length ≤ 1048576 := by
  unfold mTopStep
  split
  · rename_i h
    unfold okTopStep at h
    have hg := goodB_iff.1 (Bool.and_eq_true _ _ ▸ h).1
    rw [topT_length]; have := hg.2.1; omega
  · simp
def mStacksBefore (xs : List Int) : List (List Int) := if goodB xs = true then befL xs else []
theorem mStacksBefore_length (xs : List Int) : (mStacksBefore xs).length ≤ 9 := by
  unfold mStacksBefore
  split
  · rename_i h
    have hg := goodB_iff.1 h
    have := befTo_length xs xs.length; have := hg.2.1
    unfold befL; omega
  · simp
theorem mStacksBefore_rows (xs : List Int) : ∀ l ∈ mStacksBefore xs, l.length ≤ 9 := by
  unfold mStacksBefore
  split
  · rename_i h
    have hg := goodB_iff.1 h
    intro l hl
    rw [befL_length hl]; exact hg.2.1
  · simp
theorem len_mStacksBefore (xs : List Int) : (mStacksBefore xs).length ≤ 1048576 := Nat.le_trans (mStacksBefore_length xs) (by omega)
theorem rows_mStacksBefore (xs : List Int) : ∀ l ∈ mStacksBefore xs, l.length ≤ 1048576 := fun l hl => Nat.le_trans (mStacksBefore_rows xs l hl) (by omega)

-- counting off
/-- the order in which pancakes are taken off -/
def cntF (k : Nat) : Nat → List Int → List Int
  | 0, _ => []
  | f + 1, l => if l.length = 0 then [] else l.getD (k % l.length) 0 :: cntF k f (l.drop (k % l.length + 1) ++ l.take (k % l.length))
def leftF (k : Nat) : Nat → List Int → List Int
  | 0, l => l
  | f + 1, l => leftF k f (l.drop (k % l.length + 1) ++ l.take (k % l.length))
theorem cnt_next_length {k : Nat} {l : List Int} (h : 0 < l.length) : (l.drop (k % l.length + 1) ++ l.take (k % l.length)).length = l.length - 1 := by
  have := Nat.mod_lt k h
  rw [List.length_append, List.length_drop, List.length_take]; omega
theorem cntF_length (k : Nat) : ∀ (f : Nat) (l : List Int), l.length ≤ f → (cntF k f l).length = l.length
  | 0, l, h => by simp [cntF]; omega
  | f + 1, l, h => by
    rw [cntF]
    by_cases h0 : l.length = 0
    · rw [if_pos h0, h0]; rfl
    · rw [if_neg h0, List.length_cons, cntF_length k f _ (by rw [cnt_next_length (by omega)]; omega), cnt_next_length (by omega)]; omega
def okCount (xs : List Int) (k : Int) : Bool := goodB xs && inB k 0 9
def mCountGame (xs : List Int) (k : Int) : List Int := if okCount xs k = true then cntF k.toNat xs.length xs else []
theorem len_mCountGame (xs : List Int) (k : Int) : (mCountGame xs k).length ≤ 1048576 := by
  unfold mCountGame
  split
  · rename_i h
    unfold okCount at h
    have hg := goodB_iff.1 (Bool.and_eq_true _ _ ▸ h).1
    rw [cntF_length _ _ _ (Nat.le_refl _)]; have := hg.2.1; omega
  · simp

-- stacks that come again
def iterL (st : List Int → List Int) : Nat → List Int → List Int
  | 0, q => q
  | m + 1, q => st (iterL st m q)
/-- the first m stacks -/
def orbL (st : List Int → List Int) (q : List Int) (m : Nat) : List (List Int) := (List.range m).map fun i => iterL st i q
theorem orbL_succ (st : List Int → List Int) (q : List Int) (m : Nat) : orbL st q (m + 1) = orbL st q m ++ [iterL st m q] := by simp [orbL, List.range_succ]
theorem orbL_length (st : List Int → List Int) (q : List Int) (m : Nat) : (orbL st q m).length = m := by simp [orbL]
theorem mem_orbL {st : List Int → List Int} {q x : List Int} {m : Nat} : x ∈ orbL st q m ↔ ∃ i, i < m ∧ iterL st i q = x := by simp [orbL]
/-- behind i steps there is first a stack that comes again, and behind p more it first does -/
def Again (st : List Int → List Int) (q : List Int) (i p : Nat) : Prop := 0 < p ∧ (orbL st q (i + p)).Nodup ∧ iterL st (i + p) q = iterL st i q
theorem orbL_get {st : List Int → List Int} {q : List Int} {m i : Nat} (h : i < m) : (orbL st q m)[i]? = some (iterL st i q) := by simp [orbL, h]
theorem orb_inj {st : List Int → List Int} {q : List Int} {m i j : Nat} (hn : (orbL st q m).Nodup) (hi : i < m) (hj : j < m) (e : iterL st i q = iterL st j q) : i = j := by
  have h := List.pairwise_iff_getElem.1 hn
  rcases Nat.lt_trichotomy i j with hl | hl | hl
  · exact absurd (by simpa [orbL] using e) (h i j (by rw [orbL_length]; exact hi) (by rw [orbL_length]; exact hj) hl)
  · exact hl
  · exact absurd (by simpa [orbL] using e.symm) (h j i (by rw [orbL_length]; exact hj) (by rw [orbL_length]; exact hi) hl)
theorem orb_sub {st : List Int → List Int} {q : List Int} {m k : Nat} (h : k ≤ m) (hn : (orbL st q m).Nodup) : (orbL st q k).Nodup := by
  refine List.Sublist.nodup ?_ hn
  unfold orbL
  exact (List.range_sublist.2 h).map _
theorem Again.uniq {st : List Int → List Int} {q : List Int} {i p j r : Nat} (h : Again st q i p) (h' : Again st q j r) : i = j ∧ p = r := by
  obtain ⟨hp, hn, he⟩ := h
  obtain ⟨hp', hn', he'⟩ := h'
  have e1 : i + p = j + r := by
    rcases Nat.lt_trichotomy (i + p) (j + r) with hl | hl | hl
    · have := orb_inj hn' hl (show i < j + r by omega) he; omega
    · exact hl
    · have := orb_inj hn hl (show j < i + p by omega) he'; omega
  rw [e1] at he
  rw [he'] at he
  have := orb_inj hn' (show j < j + r by omega) (show i < j + r by omega) he
  omega
theorem again_or {st : List Int → List Int} (q : List Int) : ∀ m, (∃ i p, Again st q i p) ∨ (orbL st q m).Nodup
  | 0 => .inr (by simp [orbL])
  | m + 1 => by
    rcases again_or q m with h | h
    · exact .inl h
    · by_cases hm : iterL st m q ∈ orbL st q m
      · obtain ⟨i, hi, e⟩ := mem_orbL.1 hm
        exact .inl ⟨i, m - i, by omega, by rw [show i + (m - i) = m by omega]; exact h, by rw [show i + (m - i) = m by omega]; exact e.symm⟩
      · right
        rw [orbL_succ, List.nodup_append]
        exact ⟨h, by simp, fun a ha b hb e => by rw [List.mem_singleton] at hb; subst hb e; exact hm ha⟩
theorem again_is {st : List Int → List Int} {q : List Int} {n : Nat} (hst : ∀ m, Good (iterL st m q) ∧ (iterL st m q).length = n) : ∃ i p, Again st q i p := by
  rcases again_or (st := st) q 1000000001 with h | h
  · exact h
  · have := stacks_few (n := n) (L := orbL st q 1000000001) (fun x hx => by obtain ⟨i, _, rfl⟩ := mem_orbL.1 hx; exact hst i) h
    rw [orbL_length] at this
    omega
theorem orb_few {st : List Int → List Int} {q : List Int} {n m : Nat} (hst : ∀ m, Good (iterL st m q) ∧ (iterL st m q).length = n) (h : (orbL st q m).Nodup) : m ≤ 1000000000 := by
  have := stacks_few (n := n) (L := orbL st q m) (fun x hx => by obtain ⟨i, _, rfl⟩ := mem_orbL.1 hx; exact hst i) h
  rwa [orbL_length] at this
/-- how many steps there are till a stack comes again -/
def againN (st : List Int → List Int) (q : List Int) : Nat := ((List.range 1000000002).find? fun m => decide (iterL st m q ∈ orbL st q m)).getD 0
def againI (st : List Int → List Int) (q : List Int) : Nat := (orbL st q (againN st q)).idxOf (iterL st (againN st q) q)
def againP (st : List Int → List Int) (q : List Int) : Nat := againN st q - againI st q
theorem again_val {st : List Int → List Int} {q : List Int} {n : Nat} (hst : ∀ m, Good (iterL st m q) ∧ (iterL st m q).length = n) : Again st q (againI st q) (againP st q) := by
  obtain ⟨i, p, h⟩ := again_is hst
  have hN : againN st q = i + p := by
    unfold againN
    have hle := orb_few hst h.2.1
    have hf : (List.range 1000000002).find? (fun m => decide (iterL st m q ∈ orbL st q m)) = some (i + p) := by
      rw [List.find?_range_eq_some]
      refine ⟨?_, by rw [List.mem_range]; omega, fun j hj => ?_⟩
      · rw [decide_eq_true_iff, h.2.2]; exact mem_orbL.2 ⟨i, by have := h.1; omega, rfl⟩
      · rw [Bool.not_eq_true', decide_eq_false_iff_not]
        intro hm
        obtain ⟨k, hk, e⟩ := mem_orbL.1 hm
        have := orb_inj h.2.1 (show k < i + p by omega) hj e
        omega
    rw [hf]; rfl
  have hI : againI st q = i := by
    unfold againI
    rw [hN, h.2.2]
    have hp := h.1
    have hm : iterL st i q ∈ orbL st q (i + p) := mem_orbL.2 ⟨i, by omega, rfl⟩
    have hlt := List.idxOf_lt_length_of_mem hm
    rw [orbL_length] at hlt
    have hg := List.getElem_idxOf (x := iterL st i q) (xs := orbL st q (i + p)) (by rw [orbL_length]; exact hlt)
    simp only [orbL, List.getElem_map, List.getElem_range] at hg
    exact orb_inj h.2.1 hlt (by omega) hg
  have hP : againP st q = p := by unfold againP; rw [hN, hI]; omega
  rw [hI, hP]; exact h
theorem again_idx {st : List Int → List Int} {q : List Int} {m : Nat} (h : (orbL st q m).Nodup) {i : Nat} (hi : i < m) : (orbL st q m).idxOf (iterL st i q) = i := by
  have hm : iterL st i q ∈ orbL st q m := mem_orbL.2 ⟨i, hi, rfl⟩
  have hlt := List.idxOf_lt_length_of_mem hm
  rw [orbL_length] at hlt
  have hg := List.getElem_idxOf (x := iterL st i q) (xs := orbL st q m) (by rw [orbL_length]; exact hlt)
  simp only [orbL, List.getElem_map, List.getElem_range] at hg
  exact orb_inj h hlt hi hg

/-- a step of the game in which the size at the bottom tells the turn -/
def botT (xs : List Int) : List Int := turnL xs (xs.getD (xs.length - 1) 0).toNat
/-- k from the top, turned round, to the bottom -/
def cardT (k : Nat) (xs : List Int) : List Int := xs.drop k ++ (xs.take k).reverse
theorem cardT_length (k : Nat) (xs : List Int) : (cardT k xs).length = xs.length := by simp [cardT]; omega
theorem cardT_good {k : Nat} {xs : List Int} (h : Good xs) : Good (cardT k xs) := by
  refine h.perm (List.Perm.symm ?_)
  unfold cardT
  have h1 : (xs.drop k ++ (xs.take k).reverse).Perm ((xs.take k).reverse ++ xs.drop k) := List.perm_append_comm
  exact h1.trans (turnL_perm xs k)
theorem cardT_turns {k : Nat} {xs : List Int} (hk : k ≤ xs.length) : turnL (turnL xs xs.length) (xs.length - k) = cardT k xs := by
  unfold turnL cardT
  simp only [List.take_length, List.drop_length, List.append_nil]
  rw [List.take_reverse, List.drop_reverse, List.reverse_reverse]
  have e : xs.length - (xs.length - k) = k := by omega
  rw [e]
theorem iter_good {st : List Int → List Int} {q : List Int} (h : Good q) (hs : ∀ x, Good x → Good (st x) ∧ (st x).length = x.length) : ∀ m, Good (iterL st m q) ∧ (iterL st m q).length = q.length
  | 0 => ⟨h, rfl⟩
  | m + 1 => by
    have ih := iter_good h hs m
    have := hs _ ih.1
    exact ⟨this.1, this.2.trans ih.2⟩
def okCard (xs : List Int) (k : Int) : Bool := goodB xs && inB k 1 xs.length
def mCardFirst (xs : List Int) (k : Int) : Int := if okCard xs k = true then (againI (cardT k.toNat) xs : Int) else 0
def mCardMore (xs : List Int) (k : Int) : Int := if okCard xs k = true then (againP (cardT k.toNat) xs : Int) else 0
def mBottomGame (xs : List Int) : Int := if goodB xs = true then (againI botT xs : Int) + (againP botT xs : Int) - 1 else 0

end Go.Pan

