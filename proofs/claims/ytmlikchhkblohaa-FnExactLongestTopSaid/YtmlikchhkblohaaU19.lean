import Derived.Test.YtmlikchhkblohaaU18
import Derived.Test.YtmlikchhkblohaaU8
namespace Go.Pan
open Go Go.RowKit

/-- one list comes ahead of another -/
def lexLt (q r : List Int) : Prop := ∃ (p : List Int) (x y : Int) (u v : List Int), q = p ++ x :: u ∧ r = p ++ y :: v ∧ x < y
theorem lexLt_ne {q r : List Int} (h : lexLt q r) : q ≠ r := by
  rintro rfl
  obtain ⟨p, x, y, u, v, h1, h2, h3⟩ := h
  rw [h1] at h2
  have := List.append_cancel_left h2
  simp at this
  omega
theorem grow_pre (n : Nat) : ∀ (f : Nat) (bs q : List Int), q ∈ growL anyMay n f bs → ∃ u, q = bs ++ u
  | 0, bs, q, h => ⟨[], by simpa [growL] using h⟩
  | f + 1, bs, q, h => by
    rw [growL, List.mem_flatMap] at h
    obtain ⟨x, _, hq⟩ := h
    obtain ⟨u, rfl⟩ := grow_pre n f _ q hq
    exact ⟨x :: u, by simp⟩
theorem grow_lex (n : Nat) : ∀ (f : Nat) (bs : List Int), (growL anyMay n f bs).Pairwise lexLt
  | 0, bs => by simp [growL]
  | f + 1, bs => by
    rw [growL, List.pairwise_flatMap]
    refine ⟨fun x _ => grow_lex n f _, (gmay_rise bs n).imp fun {a b} hab q hq r hr => ?_⟩
    obtain ⟨u, rfl⟩ := grow_pre n f _ q hq
    obtain ⟨v, rfl⟩ := grow_pre n f _ r hr
    exact ⟨bs, a, b, u, v, by simp, by simp, hab⟩
theorem allL_lex (n : Nat) : (allL n).Pairwise lexLt := grow_lex n n []
theorem allL_nodup (n : Nat) : (allL n).Nodup := (allL_lex n).imp fun h => lexLt_ne h

/-- the stacks of n that are home -/
def homesL (n : Nat) : List (List Int) := growL anyMay n (n - 1) [1]
theorem allL_homes {n : Nat} (h1 : 1 ≤ n) : ∃ B, allL n = homesL n ++ B ∧ (∀ q ∈ homesL n, q.getD 0 0 = 1) ∧ ∀ q ∈ B, q.getD 0 0 ≠ 1 := by
  obtain ⟨m, rfl⟩ : ∃ m, n = m + 1 := ⟨n - 1, by omega⟩
  have hr := gmay_rise [] (m + 1)
  have hg := gmay_nil (m + 1)
  obtain ⟨t, ht⟩ : ∃ t, gmayTo anyMay [] (m + 1) = 1 :: t := by
    rw [hg]; unfold ramp; rw [List.range_succ_eq_map]; exact ⟨_, rfl⟩
  refine ⟨t.flatMap fun x => growL anyMay (m + 1) m ([] ++ [x]), ?_, fun q hq => ?_, fun q hq => ?_⟩
  · unfold allL
    rw [growL, ht, List.flatMap_cons]
    rfl
  · obtain ⟨u, rfl⟩ := grow_pre _ _ _ q hq
    rfl
  · rw [List.mem_flatMap] at hq
    obtain ⟨x, hx, hq⟩ := hq
    obtain ⟨u, rfl⟩ := grow_pre _ _ _ q hq
    rw [ht] at hr
    have := (List.pairwise_cons.1 hr).1 x hx
    show x ≠ 1
    omega
theorem mem_homes {n : Nat} (h1 : 1 ≤ n) (h9 : n ≤ 9) {q : List Int} : q ∈ homesL n ↔ Good q ∧ q.length = n ∧ q.getD 0 0 = 1 := by
  obtain ⟨B, hB, hh, hb⟩ := allL_homes h1
  constructor
  · intro h
    have := (mem_allL h1 h9).1 (by rw [hB]; exact List.mem_append_left _ h)
    exact ⟨this.1, this.2, hh q h⟩
  · rintro ⟨ha, hl, h0⟩
    have := (mem_allL h1 h9).2 ⟨ha, hl⟩
    rw [hB] at this
    rcases List.mem_append.1 this with h | h
    · exact h
    · exact absurd h0 (hb q h)
theorem homes_good {n : Nat} (h1 : 1 ≤ n) (h9 : n ≤ 9) : GoodAll n (homesL n) := fun q hq => by
  have := (mem_homes h1 h9).1 hq
  exact ⟨this.1, this.2.1⟩
theorem homes_nodup {n : Nat} : (homesL n).Nodup := (grow_lex n _ _).imp fun h => lexLt_ne h
theorem mem_lvl_home {n : Nat} (h1 : 1 ≤ n) (h9 : n ≤ 9) {d : Nat} {x : List Int} : x ∈ lvl d (homesL n) ↔ Good x ∧ x.length = n ∧ stepsN x = d := by
  rw [mem_lvl d _ x (homes_good h1 h9)]
  constructor
  · rintro ⟨hg, hm, hi⟩
    have h := (mem_homes h1 h9).1 hm
    exact ⟨hg, by rw [← h.2.1, topN_length], stepsN_uniq hg h.2.2 hi⟩
  · rintro ⟨hg, hl, rfl⟩
    have h := stepsN_ok hg
    exact ⟨hg, (mem_homes h1 h9).2 ⟨topN_good hg _, by rw [topN_length, hl], h.1⟩, h.2.1⟩

theorem nodup_len_le : ∀ (l m : List (List Int)), l.Nodup → (∀ x ∈ l, x ∈ m) → l.length ≤ m.length
  | [], _, _, _ => by simp
  | a :: t, m, hn, hs => by
    have hn' := List.nodup_cons.1 hn
    have ha : a ∈ m := hs a (by simp)
    have h := nodup_len_le t (m.erase a) hn'.2 (fun x hx => (List.mem_erase_of_ne (by rintro rfl; exact hn'.1 hx)).2 (hs x (by simp [hx])))
    rw [List.length_erase_of_mem ha] at h
    have : 0 < m.length := List.length_pos_of_mem ha
    simp
    omega
theorem nodup_len_eq {A B : List (List Int)} (hA : A.Nodup) (hB : B.Nodup) (h : ∀ q, q ∈ A ↔ q ∈ B) : A.length = B.length :=
  Nat.le_antisymm (nodup_len_le A B hA (fun x hx => (h x).1 hx)) (nodup_len_le B A hB (fun x hx => (h x).2 hx))
theorem lvl_len {n : Nat} (h1 : 1 ≤ n) (h9 : n ≤ 9) (d : Nat) : (lvl d (homesL n)).length = ((allL n).filter fun q => decide (stepsN q = d)).length :=
  nodup_len_eq (lvl_nodup d (homes_good h1 h9) homes_nodup) ((allL_nodup n).filter _) (fun q => by
    rw [mem_lvl_home h1 h9, List.mem_filter, mem_allL h1 h9]
    simp [and_assoc])

theorem growC_get (c : List Int) (d i : Nat) : (growC c d).getD i 0 = c.getD i 0 := by
  unfold growC
  rw [List.getD_eq_getElem?_getD, List.getD_eq_getElem?_getD]
  by_cases h : i < c.length
  · rw [List.getElem?_append_left h]
  · rw [List.getElem?_append_right (by omega), List.getElem?_eq_none (l := c) (by omega), List.getElem?_replicate]
    split <;> rfl
theorem bumpC_get {c : List Int} {d : Nat} (hd : d < c.length) (i : Nat) : (bumpC c d).getD i 0 = c.getD i 0 + if d = i then 1 else 0 := by
  unfold bumpC
  rw [List.getD_eq_getElem?_getD, List.getElem?_set]
  by_cases h : d = i
  · subst h
    simp [hd]
  · rw [if_neg h, if_neg h, List.getD_eq_getElem?_getD]
    omega
theorem allC_is : ∀ (L : List (List Int)), (∀ q ∈ L, stepsN q < (allC L).1.length) ∧ (∀ d, (allC L).1.getD d 0 = ((L.filter fun q => decide (stepsN q = d)).length : Int)) ∧
    (L ≠ [] → ∃ pre q post, L = pre ++ q :: post ∧ stepsN q + 1 = (allC L).1.length ∧ (allC L).2 = q ∧ ∀ r ∈ pre, stepsN r + 1 < (allC L).1.length) := by
  intro L
  obtain ⟨M, hM⟩ : ∃ M, L.reverse = M := ⟨_, rfl⟩
  induction M generalizing L with
  | nil =>
    obtain rfl : L = [] := by simpa using hM
    simp [allC]
  | cons q M ih =>
    obtain ⟨K, rfl⟩ : ∃ K, L = K ++ [q] := ⟨M.reverse, by have := congrArg List.reverse hM; simpa using this⟩
    obtain ⟨h1, h2, h3⟩ := ih K (by simpa using hM)
    have hl : (allC (K ++ [q])).1.length = max (allC K).1.length (stepsN q + 1) := by
      rw [allC_snoc]; show (bumpC _ _).length = _; rw [bumpC_length, growC_length]
    refine ⟨fun r hr => ?_, fun d => ?_, fun _ => ?_⟩
    · rw [hl]
      rcases List.mem_append.1 hr with hr | hr
      · have := h1 r hr; omega
      · rw [List.mem_singleton] at hr; subst hr; omega
    · rw [allC_snoc]
      show (bumpC (growC _ _) _).getD d 0 = _
      rw [bumpC_get (by rw [growC_length]; omega), growC_get, h2 d, List.filter_append, List.length_append]
      by_cases e : stepsN q = d <;> simp [e]
    · rw [hl]
      have hb : (allC (K ++ [q])).2 = if (allC K).1.length ≤ stepsN q then q else (allC K).2 := by rw [allC_snoc]; rfl
      by_cases hc : (allC K).1.length ≤ stepsN q
      · exact ⟨K, q, [], rfl, by omega, by rw [hb, if_pos hc], fun r hr => by have := h1 r hr; omega⟩
      · have hK : K ≠ [] := fun e => by subst e; simp [allC] at hc
        obtain ⟨pre, q0, post, e, e1, e2, e3⟩ := h3 hK
        exact ⟨pre, q0, post ++ [q], by rw [e]; simp, by omega, by rw [hb, if_neg hc, e2], fun r hr => by have := e3 r hr; omega⟩

theorem lev_homes {n : Nat} (h1 : 1 ≤ n) (h9 : n ≤ 9) : levF 60 (homesL n) = (allC (allL n)).1.length := by
  obtain ⟨hc, _, hb⟩ := allC_is (allL n)
  have h55 := (allC_bd (allL n)).1 (fun q hq => (allL_good h1 h9 hq).1)
  obtain ⟨t0, ht0⟩ := allL_head n
  obtain ⟨pre, q, post, e, hq, _, _⟩ := hb (by rw [ht0]; simp)
  have hqm := allL_good h1 h9 (show q ∈ allL n by rw [e]; simp)
  have hs := stepsN_ok hqm.1
  refine levF_at (fun i hi => ?_) ?_ (by omega)
  · have : topN (stepsN q - i) q ∈ lvl i (homesL n) := by
      refine (mem_lvl_home h1 h9).2 ⟨topN_good hqm.1 _, by rw [topN_length, hqm.2], stepsN_uniq (topN_good hqm.1 _) ?_ (fun j hj => ?_)⟩
      · rw [← topN_add, show i + (stepsN q - i) = stepsN q by omega]; exact hs.1
      · rw [← topN_add]; exact hs.2.1 _ (by omega)
    intro e0
    rw [e0] at this
    cases this
  · cases hl : lvl (allC (allL n)).1.length (homesL n) with
    | nil => rfl
    | cons x t =>
      have hx : x ∈ lvl (allC (allL n)).1.length (homesL n) := by rw [hl]; simp
      have h := (mem_lvl_home h1 h9).1 hx
      have := hc x ((mem_allL h1 h9).2 ⟨h.1, h.2.1⟩)
      omega
theorem all_pos {n : Nat} : 1 ≤ (allC (allL n)).1.length := by
  obtain ⟨t0, ht0⟩ := allL_head n
  have := (allC_is (allL n)).1 (ramp 1 n) (by rw [ht0]; simp)
  omega
theorem steps_at {n : Nat} (h1 : 1 ≤ n) (h9 : n ≤ 9) {d : Nat} : (allC (allL n)).1.getD d 0 = ((lvl d (homesL n)).length : Int) := by
  rw [lvl_len h1 h9, (allC_is (allL n)).2.1 d]

def mCountBySteps (n : Int) : List Int := if inB n 1 8 = true then (allC (allL n.toNat)).1 else []
def mCountLongest (n : Int) : Int := if inB n 1 8 = true then (allC (allL n.toNat)).1.getD ((allC (allL n.toNat)).1.length - 1) 0 else 0
def mLongest (n : Int) : List Int := if inB n 1 8 = true then (allC (allL n.toNat)).2 else []
def mMostSteps (n : Int) : Int := if inB n 1 8 = true then ((allC (allL n.toNat)).1.length : Int) - 1 else 0
theorem len_mCountBySteps (n : Int) : (mCountBySteps n).length ≤ 1048576 := by
  unfold mCountBySteps
  split
  · rename_i h
    have hb := inB_iff.1 h
    have := (allC_bd (allL n.toNat)).1 (fun q hq => (allL_good (by omega) (by omega) hq).1)
    omega
  · simp

end Go.Pan

