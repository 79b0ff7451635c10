import Derived.Test.YtmlikchhkblohaaR6
namespace Go.Pan
open Go Go.RowKit

/-- the pivot's number (its index and 1) of the next stack in order, 0 if there is none: the last c at most with xs[c-1] <= xs[c] -/
def pivL (xs : List Int) : Nat → Nat
  | 0 => 0
  | k + 1 => if decide (xs.getD (k + 1) 0 < xs.getD k 0) = true then pivL xs k else k + 1
/-- the last number at most whose entry is not below a -/
def lowL (xs : List Int) (a : Int) : Nat → Nat
  | 0 => 0
  | k + 1 => if decide (xs.getD k 0 < a) = true then lowL xs a k else k + 1
def exchL (xs : List Int) (k j : Nat) : List Int := (xs.set k (xs.getD j 0)).set j (xs.getD k 0)
def goOn (ys : List Int) (c : Nat) : List Int := ys.take c ++ (ys.drop c).reverse
/-- the next stack in order -/
def nextL (xs : List Int) : List Int := goOn (exchL xs (pivL xs (xs.length - 1) - 1) (lowL xs (xs.getD (pivL xs (xs.length - 1) - 1) 0) xs.length - 1)) (pivL xs (xs.length - 1))
def lastB (xs : List Int) : Bool := pivL xs (xs.length - 1) == 0
def anyMay : Int → Int → Bool := fun _ _ => true
/-- all stacks of n in order -/
def allL (n : Nat) : List (List Int) := growL anyMay n n []

theorem piv_fall {xs : List Int} {c : Nat} : ∀ k, c ≤ k → (∀ i, c < i → i ≤ k → xs.getD i 0 < xs.getD (i - 1) 0) → pivL xs k = pivL xs c
  | 0, h, _ => by obtain rfl : c = 0 := by omega
                  rfl
  | k + 1, h, hf => by
    by_cases e : c = k + 1
    · subst e; rfl
    · have h1 := hf (k + 1) (by omega) (Nat.le_refl _)
      rw [Nat.add_sub_cancel] at h1
      rw [pivL, if_pos (decide_eq_true h1)]
      exact piv_fall k (by omega) (fun i h1 h2 => hf i h1 (by omega))
theorem piv_at {xs : List Int} {c : Nat} (h : ¬ xs.getD (c + 1) 0 < xs.getD c 0) : pivL xs (c + 1) = c + 1 := by
  rw [pivL, if_neg (by rw [decide_eq_false h]; exact Bool.false_ne_true)]
theorem low_at {xs : List Int} {a : Int} {j : Nat} : ∀ k, j + 1 ≤ k → (∀ i, j < i → i < k → xs.getD i 0 < a) → ¬ xs.getD j 0 < a → lowL xs a k = j + 1
  | 0, h, _, _ => by omega
  | k + 1, h, hf, hj => by
    by_cases e : j = k
    · subst e; rw [lowL, if_neg (by rw [decide_eq_false hj]; exact Bool.false_ne_true)]
    · rw [lowL, if_pos (decide_eq_true (hf k (by omega) (by omega)))]
      exact low_at k (by omega) (fun i h1 h2 => hf i h1 (by omega)) hj

theorem getD_app_r (bs t : List Int) (i : Nat) : (bs ++ t).getD (bs.length + i) 0 = t.getD i 0 := by
  simp [List.getD_eq_getElem?_getD, List.getElem?_append_right]
theorem fall_get {F : List Int} (h : F.Pairwise (fun a b => b < a)) {i : Nat} (h1 : 1 ≤ i) (h2 : i < F.length) : F.getD i 0 < F.getD (i - 1) 0 := by
  rw [getD_eq h2, getD_eq (by omega)]
  exact (List.pairwise_iff_getElem.1 h) (i - 1) i (by omega) h2 (by omega)

/-- the next stack behind one that falls from x on -/
theorem next_at (bs A C : List Int) (x y : Int) (hF : (A ++ y :: C).Pairwise (fun a b => b < a)) (hxy : x < y) (hC : ∀ z ∈ C, z < x) (hA : ∀ z ∈ A, y < z) :
    nextL (bs ++ x :: (A ++ y :: C)) = bs ++ y :: (C.reverse ++ x :: A.reverse) ∧ lastB (bs ++ x :: (A ++ y :: C)) = false := by
  obtain ⟨F, hFe⟩ : ∃ F, A ++ y :: C = F := ⟨_, rfl⟩
  obtain ⟨b, hb⟩ : ∃ b, bs.length = b := ⟨_, rfl⟩
  have hlF : F.length = A.length + 1 + C.length := by rw [← hFe]; simp; omega
  have hl : (bs ++ x :: F).length = b + 1 + F.length := by simp [hb]; omega
  have gx : ∀ i, (bs ++ x :: F).getD (b + i) 0 = (x :: F).getD i 0 := fun i => by rw [← hb]; exact getD_app_r bs (x :: F) i
  have gF : ∀ i, (bs ++ x :: F).getD (b + 1 + i) 0 = F.getD i 0 := fun i => by rw [Nat.add_assoc, gx, Nat.add_comm 1 i]; rfl
  have gx0 : (bs ++ x :: F).getD b 0 = x := by have := gx 0; simpa using this
  rw [hFe] at hF
  have hF0 : x < F.getD 0 0 := by
    rw [← hFe]
    cases A with
    | nil => simpa using hxy
    | cons a A => have := hA a (by simp); simp; omega
  have hpiv : pivL (bs ++ x :: F) ((bs ++ x :: F).length - 1) = b + 1 := by
    rw [hl, show b + 1 + F.length - 1 = b + F.length by omega]
    rw [piv_fall (c := b + 1) (b + F.length) (by omega) (fun i h1 h2 => by
      obtain ⟨j, rfl⟩ : ∃ j, i = b + 1 + j := ⟨i - (b + 1), by omega⟩
      rw [gF, show b + 1 + j - 1 = b + 1 + (j - 1) by omega, gF]
      exact fall_get hF (by omega) (by omega))]
    exact piv_at (by rw [gx0, show b + 1 = b + 1 + 0 by omega, gF]; omega)
  have hy : F.getD A.length 0 = y := by
    rw [← hFe]
    simp
  have hlow : lowL (bs ++ x :: F) x (bs ++ x :: F).length = b + 1 + A.length + 1 := by
    refine low_at _ (by omega) (fun i h1 h2 => ?_) (by rw [gF, hy]; omega)
    obtain ⟨j, rfl⟩ : ∃ j, i = b + 1 + (A.length + (1 + j)) := ⟨i - (b + 1 + A.length + 1), by omega⟩
    rw [gF, ← hFe, getD_app_r, Nat.add_comm 1 j]
    have hj : j < C.length := by omega
    show (y :: C).getD (j + 1) 0 < x
    have e : (y :: C).getD (j + 1) 0 = C.getD j 0 := rfl
    rw [e, getD_eq hj]
    exact hC _ (List.getElem_mem hj)
  constructor
  · rw [hFe]
    unfold nextL
    rw [hpiv, Nat.add_sub_cancel, gx0, hlow, Nat.add_sub_cancel]
    have hex : exchL (bs ++ x :: F) b (b + 1 + A.length) = (bs ++ [y]) ++ (A ++ x :: C) := by
      unfold exchL
      rw [gF, hy, gx0]
      have e1 : (bs ++ x :: F).set b y = bs ++ y :: F := by
        rw [← hb, List.set_append_right _ _ (Nat.le_refl _), Nat.sub_self]; rfl
      rw [e1, ← hb, List.set_append_right _ _ (by omega), show bs.length + 1 + A.length - bs.length = A.length + 1 by omega, List.set_cons_succ, ← hFe, List.set_append_right _ _ (Nat.le_refl _), Nat.sub_self, List.set_cons_zero]
      simp
    rw [hex]
    unfold goOn
    have hbl : (bs ++ [y]).length = b + 1 := by simp [hb]
    rw [← hbl, List.take_left, List.drop_left]
    simp
  · rw [hFe]
    unfold lastB
    rw [hpiv]
    simp
theorem last_fall {F : List Int} (h : F.Pairwise (fun a b => b < a)) : lastB F = true := by
  unfold lastB
  rw [piv_fall (c := 0) (F.length - 1) (by omega) (fun i h1 h2 => fall_get h (by omega) (by omega))]
  rfl

def stepOk (q r : List Int) : Prop := nextL q = r ∧ lastB q = false
def chainOk : List (List Int) → Prop
  | [] => True
  | [_] => True
  | q :: r :: t => stepOk q r ∧ chainOk (r :: t)
theorem chain_app : ∀ (A B : List (List Int)), chainOk A → chainOk B → (∀ a b, A.getLast? = some a → B.head? = some b → stepOk a b) → chainOk (A ++ B)
  | [], B, _, hB, _ => hB
  | [a], [], _, _, _ => trivial
  | [a], b :: B, _, hB, hj => ⟨hj a b rfl rfl, hB⟩
  | a :: a' :: A, B, hA, hB, hj => ⟨hA.1, chain_app (a' :: A) B hA.2 hB (fun x y hx hy => hj x y (by simpa using hx) hy)⟩
theorem chain_get : ∀ (pre : List (List Int)) (q r : List Int) (t : List (List Int)), chainOk (pre ++ q :: r :: t) → stepOk q r
  | [], _, _, _, h => h.1
  | [_], _, _, _, h => h.2.1
  | _ :: p' :: pre, q, r, t, h => chain_get (p' :: pre) q r t h.2

theorem may_any (bs : List Int) (x : Int) : growB anyMay bs x = decide (x ∉ bs) := by
  unfold growB anyMay
  by_cases h : x ∈ bs <;> simp [h]
theorem gmay_filter (bs : List Int) (n : Nat) : gmayTo anyMay bs n = (ramp 1 n).filter fun x => decide (x ∉ bs) := by
  unfold gmayTo
  exact List.filter_congr fun x _ => may_any bs x
theorem gmay_rise (bs : List Int) (n : Nat) : (gmayTo anyMay bs n).Pairwise (fun a b => a < b) := by
  rw [gmay_filter]
  refine List.Pairwise.filter _ ?_
  unfold ramp
  refine List.pairwise_map.2 (List.pairwise_lt_range.imp fun {a b} h => ?_)
  omega
theorem gmay_snoc {bs : List Int} {n : Nat} {P Q : List Int} {x : Int} (h : gmayTo anyMay bs n = P ++ x :: Q) : gmayTo anyMay (bs ++ [x]) n = P ++ Q := by
  have hr := gmay_rise bs n
  rw [h] at hr
  have hp := List.pairwise_append.1 hr
  have hq := List.pairwise_cons.1 hp.2.1
  have e : gmayTo anyMay (bs ++ [x]) n = (gmayTo anyMay bs n).filter fun z => decide (z ≠ x) := by
    rw [gmay_filter, gmay_filter, List.filter_filter]
    refine List.filter_congr fun z _ => ?_
    by_cases h1 : z ∈ bs <;> by_cases h2 : z = x <;> simp [h1, h2]
  rw [e, h, List.filter_append, List.filter_cons_of_neg (by simp)]
  congr 1
  · exact List.filter_eq_self.2 fun z hz => by have := hp.2.2 z hz x (by simp); simp; omega
  · exact List.filter_eq_self.2 fun z hz => by have := hq.1 z hz; simp; omega

theorem grow_chain (n : Nat) : ∀ (f : Nat) (bs R : List Int), gmayTo anyMay bs n = R → R.length = f →
    chainOk (growL anyMay n f bs) ∧ (growL anyMay n f bs).head? = some (bs ++ R) ∧ (growL anyMay n f bs).getLast? = some (bs ++ R.reverse)
  | 0, bs, R, _, hl => by
    obtain rfl : R = [] := List.eq_nil_of_length_eq_zero hl
    exact ⟨trivial, by simp [growL], by simp [growL]⟩
  | f + 1, bs, R, hR, hl => by
    have hrise := gmay_rise bs n
    rw [hR] at hrise
    have key : ∀ (S P : List Int) (x : Int), R = P ++ x :: S → chainOk ((x :: S).flatMap fun x => growL anyMay n f (bs ++ [x])) ∧
        ((x :: S).flatMap fun x => growL anyMay n f (bs ++ [x])).head? = some (bs ++ x :: (P ++ S)) ∧ ((x :: S).flatMap fun x => growL anyMay n f (bs ++ [x])).getLast? = some (bs ++ R.reverse) := by
      intro S
      induction S with
      | nil =>
        intro P x hP
        have hg := gmay_snoc (bs := bs) (n := n) (P := P) (Q := []) (x := x) (by rw [hR, hP])
        have ih := grow_chain n f (bs ++ [x]) (P ++ []) hg (by rw [hP] at hl; simp at hl ⊢; omega)
        simp only [List.flatMap_cons, List.flatMap_nil, List.append_nil] at ih ⊢
        refine ⟨ih.1, by rw [ih.2.1]; simp, by rw [ih.2.2, hP]; simp⟩
      | cons x' Q ihS =>
        intro P x hP
        have hg := gmay_snoc (bs := bs) (n := n) (P := P) (Q := x' :: Q) (x := x) (by rw [hR, hP])
        have ih := grow_chain n f (bs ++ [x]) (P ++ x' :: Q) hg (by rw [hP] at hl; simp at hl ⊢; omega)
        have ih2 := ihS (P ++ [x]) x' (by rw [hP]; simp)
        rw [List.flatMap_cons]
        have hne : (growL anyMay n f (bs ++ [x])) ≠ [] := fun e => by rw [e] at ih; simp at ih
        have hne2 : ((x' :: Q).flatMap fun x => growL anyMay n f (bs ++ [x])) ≠ [] := fun e => by rw [e] at ih2; simp at ih2
        refine ⟨chain_app _ _ ih.1 ih2.1 (fun a b ha hb => ?_), ?_, ?_⟩
        · rw [ih.2.2] at ha
          rw [ih2.2.1] at hb
          cases ha
          cases hb
          rw [hP] at hrise
          have hp := List.pairwise_append.1 hrise
          have hq := List.pairwise_cons.1 hp.2.1
          have hq' := List.pairwise_cons.1 hq.2
          have hxx : x < x' := hq.1 x' (by simp)
          have hfall : (Q.reverse ++ x' :: P.reverse).Pairwise (fun a b => b < a) := by
            have h1 : (P ++ x' :: Q).Pairwise (fun a b => a < b) := by
              rw [List.pairwise_append]
              exact ⟨hp.1, hq.2, fun a ha b hb => hp.2.2 a ha b (List.mem_cons_of_mem _ hb)⟩
            have := List.pairwise_reverse.2 h1
            simpa using this
          have := next_at bs Q.reverse P.reverse x x' hfall hxx (fun z hz => hp.2.2 z (by simpa using hz) x (by simp)) (fun z hz => hq'.1 z (by simpa using hz))
          unfold stepOk
          have e1 : bs ++ [x] ++ (P ++ x' :: Q).reverse = bs ++ x :: (Q.reverse ++ x' :: P.reverse) := by simp
          have e2 : bs ++ x' :: (P ++ [x] ++ Q) = bs ++ x' :: (P.reverse.reverse ++ x :: Q.reverse.reverse) := by simp
          rw [e1, e2]
          exact this
        · rw [List.head?_append, ih.2.1]; simp
        · rw [List.getLast?_append, ih2.2.2]; rfl
    cases hRc : R with
    | nil => rw [hRc] at hl; simp at hl
    | cons x S =>
      have := key S [] x hRc
      rw [growL, hR, hRc]
      rw [hRc] at this
      simpa using this

theorem gmay_nil (n : Nat) : gmayTo anyMay [] n = ramp 1 n := by
  rw [gmay_filter]; exact List.filter_eq_self.2 (by simp)
theorem all_chain (n : Nat) : chainOk (allL n) ∧ (allL n).head? = some (ramp 1 n) ∧ (allL n).getLast? = some (ramp 1 n).reverse := by
  have := grow_chain n n [] (ramp 1 n) (gmay_nil n) (ramp_length 1 n)
  simpa [allL] using this
theorem perms_last {n : Nat} {pre : List (List Int)} {q : List Int} (e : allL n = pre ++ [q]) : lastB q = true := by
  have h := (all_chain n).2.2
  rw [e] at h
  simp at h
  subst h
  refine last_fall (List.pairwise_reverse.2 ?_)
  have := gmay_rise [] n
  rwa [gmay_nil] at this
theorem perms_next {n : Nat} {pre : List (List Int)} {q r : List Int} {t : List (List Int)} (e : allL n = pre ++ q :: r :: t) : lastB q = false ∧ nextL q = r := by
  have h := (all_chain n).1
  rw [e] at h
  have := chain_get pre q r t h
  exact ⟨this.2, this.1⟩
theorem allL_head (n : Nat) : ∃ t, allL n = ramp 1 n :: t := by
  have h := (all_chain n).2.1
  cases ha : allL n with
  | nil => rw [ha] at h; simp at h
  | cons a t => rw [ha] at h; simp at h; exact ⟨t, by rw [h]⟩
theorem grow_good (n : Nat) (h1 : 1 ≤ n) (h9 : n ≤ 9) : ∀ (f : Nat) (bs q : List Int), bs.Nodup → (∀ x ∈ bs, 1 ≤ x ∧ x ≤ n) → bs.length + f = n → q ∈ growL anyMay n f bs → Good q ∧ q.length = n
  | 0, bs, q, hn, hb, hl, h => by
    simp [growL] at h
    subst h
    have he : q.length = n := by omega
    exact ⟨⟨by omega, by omega, fun x hx => by have := hb x hx; omega, hn⟩, he⟩
  | f + 1, bs, q, hn, hb, hl, h => by
    rw [growL, List.mem_flatMap] at h
    obtain ⟨x, hx, hq⟩ := h
    unfold gmayTo at hx
    rw [List.mem_filter] at hx
    have hx2 : x ∉ bs := by
      intro hm
      have := hx.2
      simp [growB, hm] at this
    have hx3 : 1 ≤ x ∧ x ≤ n := by
      have := hx.1
      simp only [ramp, List.mem_map, List.mem_range] at this
      obtain ⟨i, hi, rfl⟩ := this
      omega
    refine grow_good n h1 h9 f (bs ++ [x]) q ?_ ?_ (by simp; omega) hq
    · rw [List.nodup_append]
      exact ⟨hn, by simp, fun a ha b hb e => by simp at hb; subst hb; subst e; exact hx2 ha⟩
    · intro y hy
      rcases List.mem_append.1 hy with h | h
      · exact hb y h
      · simp at h; subst h; exact hx3
theorem allL_good {n : Nat} (h1 : 1 ≤ n) (h9 : n ≤ 9) {q : List Int} (h : q ∈ allL n) : Good q ∧ q.length = n := grow_good n h1 h9 n [] q (by simp) (by simp) (by simp) h

theorem grow_all (n : Nat) : ∀ (f : Nat) (bs u : List Int), u.length = f → (bs ++ u).Nodup → (∀ x ∈ u, 1 ≤ x ∧ x ≤ n) → bs ++ u ∈ growL anyMay n f bs
  | 0, bs, u, hl, _, _ => by
    obtain rfl : u = [] := List.eq_nil_of_length_eq_zero hl
    simp [growL]
  | f + 1, bs, [], hl, _, _ => by simp at hl
  | f + 1, bs, x :: u, hl, hn, hb => by
    rw [growL, List.mem_flatMap]
    refine ⟨x, ?_, ?_⟩
    · rw [gmay_filter, List.mem_filter]
      refine ⟨mem_ramp.2 (by have := hb x (by simp); omega), decide_eq_true fun hx => ?_⟩
      exact (List.nodup_append.1 hn).2.2 x hx x (by simp) rfl
    · have := grow_all n f (bs ++ [x]) u (by simpa using hl) (by simpa using hn) (fun y hy => hb y (List.mem_cons_of_mem _ hy))
      simpa using this
theorem mem_allL {n : Nat} (h1 : 1 ≤ n) (h9 : n ≤ 9) {q : List Int} : q ∈ allL n ↔ Good q ∧ q.length = n := by
  refine ⟨allL_good h1 h9, fun h => ?_⟩
  have := grow_all n n [] q h.2 (by simpa using h.1.2.2.2) (fun x hx => by have := h.1.2.2.1 x hx; omega)
  simpa [allL] using this

end Go.Pan

