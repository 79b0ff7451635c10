import Derived.Test.YtkeenoklghkonaaU1
namespace Go.Pan

-- trees of the game: plain maths
def befB (s : List Int) (k : Nat) : Bool := decide (1 ≤ k ∧ s.getD k 0 = (k : Int) + 1)
/-- the stacks before s, of the sizes 1, .., m -/
def befTo (s : List Int) : Nat → List (List Int)
  | 0 => []
  | k + 1 => befTo s k ++ if befB s k = true then [turnL s (k + 1)] else []
def befL (s : List Int) : List (List Int) := befTo s s.length
theorem befTo_yes {s : List Int} {k : Nat} (h : befB s k = true) : befTo s (k + 1) = befTo s k ++ [turnL s (k + 1)] := by rw [befTo, if_pos h]
theorem befTo_no {s : List Int} {k : Nat} (h : befB s k = false) : befTo s (k + 1) = befTo s k := by rw [befTo, if_neg (by rw [h]; exact Bool.false_ne_true), List.append_nil]
theorem befTo_one (s : List Int) : befTo s 1 = [] := befTo_no (by simp [befB])
theorem befTo_more (s : List Int) : ∀ j, befTo s (s.length + j) = befL s
  | 0 => rfl
  | j + 1 => by
    have hb : befB s (s.length + j) = false := by
      unfold befB
      rw [decide_eq_false_iff_not]
      intro h
      have : s.getD (s.length + j) 0 = 0 := by simp [List.getD_eq_getElem?_getD]
      omega
    rw [← Nat.add_assoc, befTo_no hb]; exact befTo_more s j
theorem befTo_nine {s : List Int} (h9 : s.length ≤ 9) : befTo s 9 = befL s := by
  have := befTo_more s (9 - s.length)
  rwa [show s.length + (9 - s.length) = 9 by omega] at this
theorem befTo_length (s : List Int) : ∀ m, (befTo s m).length ≤ m
  | 0 => by simp [befTo]
  | m + 1 => by
    have := befTo_length s m
    rw [befTo, List.length_append]
    split <;> simp <;> omega
theorem mem_befTo {s x : List Int} {m : Nat} : x ∈ befTo s m ↔ ∃ k, k < m ∧ befB s k = true ∧ x = turnL s (k + 1) := by
  induction m with
  | zero => simp [befTo]
  | succ m ih =>
    rw [befTo, List.mem_append, ih]
    constructor
    · rintro (⟨k, hk, h⟩ | h)
      · exact ⟨k, by omega, h⟩
      · split at h
        · rename_i hb
          rw [List.mem_singleton] at h
          exact ⟨m, by omega, hb, h⟩
        · cases h
    · rintro ⟨k, hk, hb, h⟩
      by_cases e : k = m
      · subst e; rw [if_pos hb]; exact .inr (List.mem_singleton.2 h)
      · exact .inl ⟨k, by omega, hb, h⟩
theorem befB_at {s : List Int} {k : Nat} (h : befB s k = true) : 1 ≤ k ∧ s.getD k 0 = (k : Int) + 1 := of_decide_eq_true h
theorem befB_lt {s : List Int} {k : Nat} (h : befB s k = true) : k < s.length := by
  have h := befB_at h
  by_cases hl : k < s.length
  · exact hl
  · exfalso
    have : s.getD k 0 = 0 := by simp [List.getD_eq_getElem?_getD, List.getElem?_eq_none (show s.length ≤ k by omega)]
    omega
theorem mem_befL {s x : List Int} (hs : Good s) : x ∈ befL s ↔ Good x ∧ x.getD 0 0 ≠ 1 ∧ topT x = s := by
  unfold befL
  rw [mem_befTo]
  constructor
  · rintro ⟨k, hk, hb, rfl⟩
    have h1 := befB_at hb
    have hh : (turnL s (k + 1)).getD 0 0 = ((k + 1 : Nat) : Int) := by
      rw [turnL_get_lo (by omega) (by omega), show k + 1 - 1 - 0 = k by omega, h1.2]; omega
    refine ⟨turnL_good hs _, by rw [hh]; omega, ?_⟩
    unfold topT
    rw [hh, Int.toNat_natCast, turnL_turnLU (by omega)]
  · rintro ⟨hx, h1, rfl⟩
    have hb := hx.at (i := 0) hx.1
    obtain ⟨k, hk⟩ : ∃ k : Nat, x.getD 0 0 = ((k + 1 : Nat) : Int) := ⟨(x.getD 0 0).toNat - 1, by omega⟩
    have hkl : k + 1 ≤ x.length := by omega
    have ht : topT x = turnL x (k + 1) := by unfold topT; rw [hk, Int.toNat_natCast]
    rw [ht]
    refine ⟨k, by rw [turnL_length]; omega, ?_, (turnL_turnLU hkl).symm⟩
    unfold befB
    rw [decide_eq_true_iff, turnL_get_lo hkl (by omega), show k + 1 - 1 - k = 0 by omega, hk]
    omega
theorem befL_length {s x : List Int} (h : x ∈ befL s) : x.length = s.length := by
  obtain ⟨k, _, _, rfl⟩ := mem_befTo.1 h
  exact turnL_length _ _
theorem befTo_head {s x : List Int} {m : Nat} (h : x ∈ befTo s m) : x.getD 0 0 ≤ (m : Int) := by
  obtain ⟨k, hk, hb, rfl⟩ := mem_befTo.1 h
  have := befB_lt hb
  rw [turnL_get_lo (by omega) (by omega), show k + 1 - 1 - 0 = k by omega, (befB_at hb).2]; omega
theorem befTo_nodup (s : List Int) : ∀ m, (befTo s m).Nodup
  | 0 => by simp [befTo]
  | m + 1 => by
    rw [befTo]
    split
    · rename_i hb
      rw [List.nodup_append]
      refine ⟨befTo_nodup s m, by simp, fun a ha b hb' e => ?_⟩
      rw [List.mem_singleton] at hb'
      subst hb' e
      have h1 := befTo_head ha
      have := befB_lt hb
      rw [turnL_get_lo (by omega) (by omega), show m + 1 - 1 - 0 = m by omega, (befB_at hb).2] at h1
      omega
    · rw [List.append_nil]; exact befTo_nodup s m

/-- the stacks that lead to those of L by d turns -/
def lvl : Nat → List (List Int) → List (List Int)
  | 0, L => L
  | d + 1, L => lvl d (L.flatMap befL)
def GoodAll (n : Nat) (L : List (List Int)) : Prop := ∀ q ∈ L, Good q ∧ q.length = n
theorem GoodAll.bef {n : Nat} {L : List (List Int)} (h : GoodAll n L) : GoodAll n (L.flatMap befL) := by
  intro q hq
  obtain ⟨p, hp, hq⟩ := List.mem_flatMap.1 hq
  exact ⟨((mem_befL (h p hp).1).1 hq).1, by rw [befL_length hq]; exact (h p hp).2⟩
theorem mem_lvl {n : Nat} : ∀ (d : Nat) (L : List (List Int)) (x : List Int), GoodAll n L → (x ∈ lvl d L ↔ Good x ∧ topN d x ∈ L ∧ ∀ i, i < d → (topN i x).getD 0 0 ≠ 1)
  | 0, L, x, h => ⟨fun hx => ⟨(h x hx).1, hx, fun i hi => by omega⟩, fun hx => hx.2.1⟩
  | d + 1, L, x, h => by
    rw [lvl, mem_lvl d (L.flatMap befL) x h.bef, List.mem_flatMap]
    constructor
    · rintro ⟨hg, ⟨p, hp, hq⟩, hi⟩
      have hm := (mem_befL (h p hp).1).1 hq
      refine ⟨hg, by show topT (topN d x) ∈ L; rw [hm.2.2]; exact hp, fun i hi' => ?_⟩
      by_cases e : i = d
      · subst e; exact hm.2.1
      · exact hi i (by omega)
    · rintro ⟨hg, hp, hi⟩
      refine ⟨hg, ⟨topN (d + 1) x, hp, (mem_befL (topN_good hg _)).2 ⟨topN_good hg _, hi d (by omega), rfl⟩⟩, fun i hi' => hi i (by omega)⟩
theorem lvl_end {n : Nat} {L : List (List Int)} (h : GoodAll n L) {d : Nat} (hd : 55 ≤ d) : lvl d L = [] := by
  rw [List.eq_nil_iff_forall_not_mem]
  intro x hx
  have hm := (mem_lvl d L x h).1 hx
  have := game_ends hm.1 hm.2.2
  omega
theorem bef_nodup {n : Nat} : ∀ {L : List (List Int)}, GoodAll n L → L.Nodup → (L.flatMap befL).Nodup
  | [], _, _ => by simp
  | s :: L, h, hn => by
    rw [List.flatMap_cons, List.nodup_append]
    have hn' := List.nodup_cons.1 hn
    refine ⟨befTo_nodup s _, bef_nodup (fun q hq => h q (List.mem_cons_of_mem _ hq)) hn'.2, fun a ha b hb e => ?_⟩
    subst e
    obtain ⟨p, hp, hq⟩ := List.mem_flatMap.1 hb
    have h1 := ((mem_befL (h s (List.mem_cons_self ..)).1).1 ha).2.2
    have h2 := ((mem_befL (h p (List.mem_cons_of_mem _ hp)).1).1 hq).2.2
    rw [h1] at h2
    subst h2
    exact hn'.1 hp
theorem lvl_good {n : Nat} : ∀ (d : Nat) {L : List (List Int)}, GoodAll n L → GoodAll n (lvl d L)
  | 0, _, h => h
  | d + 1, _, h => lvl_good d h.bef
theorem lvl_nodup {n : Nat} : ∀ (d : Nat) {L : List (List Int)}, GoodAll n L → L.Nodup → (lvl d L).Nodup
  | 0, _, _, hn => hn
  | d + 1, _, h, hn => lvl_nodup d h.bef (bef_nodup h hn)
theorem lvl_nil : ∀ d, lvl d [] = []
  | 0 => rfl
  | d + 1 => by rw [lvl]; exact lvl_nil d

/-- A list of digits as a number. -/
def encI : List Int → Int
  | [] => 0
  | x :: t => x + 10 * encI t
theorem encI_bd : ∀ (xs : List Int), (∀ x ∈ xs, 0 ≤ x ∧ x ≤ 9) → 0 ≤ encI xs ∧ encI xs < 10 ^ xs.length
  | [], _ => by simp [encI]
  | x :: t, h => by
    have h1 := encI_bd t (fun y hy => h y (List.mem_cons_of_mem _ hy))
    have h2 := h x (List.mem_cons_self ..)
    rw [encI, List.length_cons, Int.pow_succ]
    omega
theorem encI_inj : ∀ (xs ys : List Int), xs.length = ys.length → (∀ x ∈ xs, 0 ≤ x ∧ x ≤ 9) → (∀ x ∈ ys, 0 ≤ x ∧ x ≤ 9) → encI xs = encI ys → xs = ys
  | [], [], _, _, _, _ => rfl
  | [], _ :: _, h, _, _, _ => by simp at h
  | _ :: _, [], h, _, _, _ => by simp at h
  | x :: t, y :: u, hl, h1, h2, e => by
    have hx := h1 x (List.mem_cons_self ..)
    have hy := h2 y (List.mem_cons_self ..)
    rw [encI, encI] at e
    have e1 : x = y := by omega
    have e2 : encI t = encI u := by omega
    rw [e1, encI_inj t u (by simpa using hl) (fun z hz => h1 z (List.mem_cons_of_mem _ hz)) (fun z hz => h2 z (List.mem_cons_of_mem _ hz)) e2]
theorem Good.digits {xs : List Int} (h : Good xs) : ∀ x ∈ xs, 0 ≤ x ∧ x ≤ 9 := fun x hx => by
  have := h.2.2.1 x hx; have := h.2.1; omega
/-- There are no more than 10^9 different stacks of n. -/
theorem stacks_few {n : Nat} {L : List (List Int)} (h : GoodAll n L) (hn : L.Nodup) : L.length ≤ 1000000000 := by
  by_cases h0 : L = []
  · rw [h0]; simp
  have h9 : n ≤ 9 := by
    obtain ⟨q, hq⟩ := List.exists_mem_of_ne_nil _ h0
    have := h q hq; have := this.1.2.1; omega
  have hnd : (L.map encI).Nodup := by
    refine List.pairwise_map.2 (hn.imp_of_mem fun {a b} ha hb hab e => hab ?_)
    exact encI_inj a b (by rw [(h a ha).2, (h b hb).2]) (h a ha).1.digits (h b hb).1.digits e
  have hle := length_le_of_nodup_subset (L.map encI) (ramp 0 (10 ^ n)) hnd (fun x hx => by
    obtain ⟨q, hq, rfl⟩ := List.mem_map.1 hx
    have := encI_bd q (h q hq).1.digits
    rw [(h q hq).2] at this
    refine mem_ramp.2 ⟨this.1, ?_⟩
    rw [Int.zero_add]
    have e : ((10 ^ n : Nat) : Int) = 10 ^ n := by simp
    rw [e]; exact this.2)
  rw [List.length_map, ramp_length] at hle
  have : 10 ^ n ≤ 10 ^ 9 := Nat.pow_le_pow_right (by omega) h9
  omega

/-- all stacks of the tree by levels -/
def lvlsF : Nat → List (List Int) → List (List (List Int))
  | 0, _ => []
  | f + 1, L => if L.length = 0 then [] else L :: lvlsF f (L.flatMap befL)
def totF : Nat → List (List Int) → Nat
  | 0, _ => 0
  | f + 1, L => L.length + totF f (L.flatMap befL)
def levF : Nat → List (List Int) → Nat
  | 0, _ => 0
  | f + 1, L => if L.length = 0 then 0 else levF f (L.flatMap befL) + 1
theorem totF_nil : ∀ f, totF f [] = 0
  | 0 => rfl
  | f + 1 => by rw [totF, List.flatMap_nil, totF_nil f]; rfl
theorem levF_nil : ∀ f, levF f [] = 0
  | 0 => rfl
  | f + 1 => by rw [levF]; rfl
theorem levF_pos {f : Nat} {L : List (List Int)} (h : L ≠ []) : 0 < levF (f + 1) L := by
  rw [levF, if_neg (by rw [List.length_eq_zero_iff]; exact h)]; omega
theorem totF_append : ∀ (f : Nat) (A B : List (List Int)), totF f (A ++ B) = totF f A + totF f B
  | 0, _, _ => rfl
  | f + 1, A, B => by rw [totF, totF, totF, List.flatMap_append, totF_append f, List.length_append]; omega
theorem levF_append : ∀ (f : Nat) (A B : List (List Int)), levF f (A ++ B) = max (levF f A) (levF f B)
  | 0, _, _ => rfl
  | f + 1, A, B => by
    rw [levF, levF, levF, List.flatMap_append, levF_append f, List.length_append]
    by_cases ha : A.length = 0
    · rw [List.length_eq_zero_iff.1 ha]
      by_cases hb : B.length = 0
      · simp [hb]
      · simp [hb, levF_nil]
    · by_cases hb : B.length = 0
      · rw [List.length_eq_zero_iff.1 hb]; simp [ha, levF_nil]
      · simp only [if_neg ha, if_neg hb]
        rw [if_neg (by omega)]
        omega
theorem lvlsF_length : ∀ (f : Nat) (L : List (List Int)), (lvlsF f L).length = levF f L
  | 0, _ => rfl
  | f + 1, L => by
    rw [lvlsF, levF]
    split
    · rfl
    · rw [List.length_cons, lvlsF_length f]
theorem lvlsF_total : ∀ (f : Nat) (L : List (List Int)), ((lvlsF f L).map List.length).sum = totF f L
  | 0, _ => rfl
  | f + 1, L => by
    rw [lvlsF, totF]
    by_cases h : L.length = 0
    · rw [if_pos h, List.length_eq_zero_iff.1 h]; simp [totF_nil]
    · rw [if_neg h, List.map_cons, List.sum_cons, lvlsF_total f]
theorem levF_le : ∀ (f : Nat) (L : List (List Int)), levF f L ≤ f
  | 0, _ => Nat.le_refl _
  | f + 1, L => by
    rw [levF]
    split
    · omega
    · have := levF_le f (L.flatMap befL); omega
theorem totF_le {n : Nat} : ∀ (f : Nat) {L : List (List Int)}, GoodAll n L → L.Nodup → totF f L ≤ f * 1000000000
  | 0, _, _, _ => by simp [totF]
  | f + 1, L, h, hn => by
    have h1 := stacks_few h hn
    have h2 := totF_le f h.bef (bef_nodup h hn)
    rw [totF, Nat.add_mul]
    omega
/-- the levels, one after the other -/
theorem lvlsF_at {f : Nat} {L : List (List Int)} : ∀ d, d < levF f L → (lvlsF f L)[d]? = some (lvl d L) := by
  induction f generalizing L with
  | zero => intro d hd; simp [levF] at hd
  | succ f ih =>
    intro d hd
    rw [levF] at hd
    rw [lvlsF]
    by_cases h : L.length = 0
    · rw [if_pos h] at hd; omega
    · rw [if_neg h] at hd
      rw [if_neg h]
      cases d with
      | zero => rfl
      | succ d => rw [List.getElem?_cons_succ]; exact ih d (by omega)

theorem goodAll_one {s : List Int} (h : Good s) : GoodAll s.length [s] := fun q hq => by rw [List.mem_singleton] at hq; subst hq; exact ⟨h, rfl⟩
def mTreeSize (s : List Int) : Int := if goodB s = true then (totF 60 [s] : Int) else 0
def mDepthBefore (s : List Int) : Int := if goodB s = true then (levF 60 [s] : Int) - 1 else 0
theorem tree_bd {s : List Int} (h : Good s) (f : Nat) : totF f [s] ≤ f * 1000000000 := totF_le f (goodAll_one h) (by simp)

end Go.Pan
