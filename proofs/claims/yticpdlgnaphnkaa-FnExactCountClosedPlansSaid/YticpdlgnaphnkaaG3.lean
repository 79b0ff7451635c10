import Derived.Test.YticpdlgnaphnkaaG2
namespace Go.Pan

/-- the distance of the stack with a rank -/
def dS (n r : Nat) : Nat := far n (ramp 1 n) (unrank n r)
/-- the rank of what a turn makes of the stack with a rank -/
def nb (n r k : Nat) : Nat := rankL (turnL (unrank n r) k)
/-- 1 .. 9 pancakes -/
structure Cnt (n : Nat) : Prop where
  pos : 1 ≤ n
  le : n ≤ 9
section
variable {n : Nat} (hn : Cnt n)
include hn
theorem Cnt.home : St n (ramp 1 n) := St.ramp n hn.pos hn.le
theorem un_st {r : Nat} (h : r < fact n) : St n (unrank n r) := unrank_st hn.pos hn.le h
theorem nb_lt {r : Nat} (h : r < fact n) (k : Nat) : nb n r k < fact n := rank_lt ((un_st hn h).turn k)
theorem un_nb {r : Nat} (h : r < fact n) (k : Nat) : unrank n (nb n r k) = turnL (unrank n r) k := unrank_rank hn.pos hn.le ((un_st hn h).turn k)
theorem nb_nb {r : Nat} (h : r < fact n) (k : Nat) : nb n (nb n r k) k = r := by
  show rankL (turnL (unrank n (nb n r k)) k) = r
  rw [un_nb hn h, turnL_turnL, rank_unrank h]
theorem un_zero : unrank n 0 = ramp 1 n := by
  have := unrank_rank hn.pos hn.le hn.home
  rwa [rankL_ramp] at this
theorem dS_zero : dS n 0 = 0 := by
  show far n (ramp 1 n) (unrank n 0) = 0
  rw [un_zero hn]
  exact (far_zero hn.home hn.home).2 rfl
theorem dS_eq_zero {r : Nat} (h : r < fact n) (hd : dS n r = 0) : r = 0 := by
  have h1 := (far_zero hn.home (un_st hn h)).1 hd
  have h2 := rank_unrank h
  rw [← h1, rankL_ramp] at h2
  exact h2.symm
theorem dS_nb {r k : Nat} (h : r < fact n) (hk : k ∈ ks n) : dS n (nb n r k) ≤ dS n r + 1 ∧ dS n r ≤ dS n (nb n r k) + 1 := by
  unfold dS
  rw [un_nb hn h]
  exact far_one hk hn.home (un_st hn h)
theorem dS_prev {r d : Nat} (h : r < fact n) (hd : dS n r = d + 1) : ∃ k ∈ ks n, dS n (nb n r k) = d := by
  obtain ⟨k, hk, e⟩ := far_prev hn.home (un_st hn h) hd
  exact ⟨k, hk, by unfold dS; rw [un_nb hn h]; exact e⟩
theorem dS_le {r : Nat} (h : r < fact n) : dS n r ≤ 2 * n := (far_spec hn.home (un_st hn h)).2.1
end

/-- the queue before the number p of it is looked at -/
structure BQ (n : Nat) (Q : List Nat) (p : Nat) : Prop where
  lt : ∀ r ∈ Q, r < fact n
  nodup : Q.Nodup
  head : Q[0]? = some 0
  sorted : ∀ i j a b : Nat, i ≤ j → Q[i]? = some a → Q[j]? = some b → dS n a ≤ dS n b
  closed : ∀ i a : Nat, i < p → Q[i]? = some a → ∀ k ∈ ks n, nb n a k ∈ Q
  top : ∀ x : Nat, Q[p]? = some x → ∀ r ∈ Q, dS n r ≤ dS n x + 1
  hp : p ≤ Q.length
/-- .. the number x at the place p being looked at, the turns below k having been made -/
structure BI (n : Nat) (Q : List Nat) (p x k : Nat) : Prop extends BQ n Q p where
  cur : Q[p]? = some x
  done : ∀ k' ∈ ks n, k' < k → nb n x k' ∈ Q

section
variable {n : Nat} {Q : List Nat} {p x k : Nat}
theorem BQ.start (hn : Cnt n) : BQ n [0] 0 := by
  refine ⟨fun r hr => ?_, by simp, rfl, fun i j a b _ ha hb => ?_, fun i a h => by omega, fun x hx r hr => ?_, by simp⟩
  · simp at hr; subst hr; exact fact_pos n
  · have h1 : i < 1 := (List.getElem?_eq_some_iff.1 ha).1
    have h2 : j < 1 := (List.getElem?_eq_some_iff.1 hb).1
    obtain rfl : i = 0 := by omega
    obtain rfl : j = 0 := by omega
    rw [ha] at hb
    cases hb
    exact Nat.le_refl _
  · simp at hx hr
    subst hx; subst hr
    omega
theorem BQ.length_le (h : BQ n Q p) : Q.length ≤ fact n := by
  have h1 : (Q.map fun r : Nat => (r : Int)).Nodup := List.pairwise_map.2 (h.nodup.imp fun {a b} hab e => hab (by omega))
  have h2 := length_le_of_nodup_subset (Q.map fun r : Nat => (r : Int)) (ramp 0 (fact n)) h1 (fun y hy => by
    simp only [List.mem_map] at hy
    obtain ⟨r, hr, rfl⟩ := hy
    have := h.lt r hr
    exact mem_ramp.2 ⟨by omega, by omega⟩)
  rw [List.length_map, ramp_length] at h2
  exact h2
theorem BQ.inner (h : BQ n Q p) (hx : Q[p]? = some x) : BI n Q p x 2 := ⟨h, hx, fun k' hk' hlt => by have := mem_ks.1 hk'; omega⟩
/-- what is as near as the one that is looked at has been found -/
theorem BQ.low (hn : Cnt n) (h : BQ n Q p) (hx : Q[p]? = some x) : ∀ d r, r < fact n → dS n r = d → d ≤ dS n x → r ∈ Q
  | 0, r, hr, hd, _ => by
    obtain rfl := dS_eq_zero hn hr hd
    exact List.mem_of_getElem? h.head
  | d + 1, r, hr, hd, hle => by
    obtain ⟨k, hk, e⟩ := dS_prev hn hr hd
    have hy := BQ.low hn h hx d (nb n r k) (nb_lt hn hr k) e (by omega)
    obtain ⟨i, hi, ei⟩ := List.getElem_of_mem hy
    have ei' : Q[i]? = some (nb n r k) := by rw [List.getElem?_eq_getElem hi, ei]
    have hip : i < p := by
      by_cases hip : i < p
      · exact hip
      · have := h.sorted p i x _ (by omega) hx ei'
        omega
    have := h.closed i _ hip ei' k hk
    rwa [nb_nb hn hr] at this
theorem BI.next_old (h : BI n Q p x k) (ht : nb n x k ∈ Q) : BI n Q p x (k + 1) :=
  ⟨h.toBQ, h.cur, fun k' hk' hlt => by
    by_cases e : k' = k
    · subst e; exact ht
    · exact h.done k' hk' (by omega)⟩
theorem BI.far_new (hn : Cnt n) (h : BI n Q p x k) (hk : k ∈ ks n) (ht : nb n x k ∉ Q) : dS n (nb n x k) = dS n x + 1 := by
  have hxl := h.lt x (List.mem_of_getElem? h.cur)
  have h1 := dS_nb hn hxl hk
  have h2 : ¬ dS n (nb n x k) ≤ dS n x := fun hle => ht (h.toBQ.low hn h.cur _ _ (nb_lt hn hxl k) rfl hle)
  omega
theorem BI.next_new (hn : Cnt n) (h : BI n Q p x k) (hk : k ∈ ks n) (ht : nb n x k ∉ Q) : BI n (Q ++ [nb n x k]) p x (k + 1) := by
  have hxl := h.lt x (List.mem_of_getElem? h.cur)
  have hd := h.far_new hn hk ht
  have hpl : p < Q.length := (List.getElem?_eq_some_iff.1 h.cur).1
  have hget : ∀ i a, (Q ++ [nb n x k])[i]? = some a → (i < Q.length ∧ Q[i]? = some a) ∨ (i = Q.length ∧ a = nb n x k) := by
    intro i a hi
    by_cases hl : i < Q.length
    · exact .inl ⟨hl, by rwa [List.getElem?_append_left hl] at hi⟩
    · have h0 := (List.getElem?_eq_some_iff.1 hi).1
      rw [List.getElem?_append_right (by omega)] at hi
      simp at h0
      have e : i = Q.length := by omega
      subst e
      simp at hi
      exact .inr ⟨rfl, hi.symm⟩
  refine ⟨⟨fun r hr => ?_, ?_, ?_, ?_, ?_, ?_, by simp; omega⟩, ?_, ?_⟩
  · rcases List.mem_append.1 hr with hr | hr
    · exact h.lt r hr
    · simp at hr; subst hr; exact nb_lt hn hxl k
  · refine List.nodup_append.2 ⟨h.nodup, by simp, fun a ha b hb e => ?_⟩
    simp at hb
    subst hb
    subst e
    exact ht ha
  · rw [List.getElem?_append_left (by omega)]; exact h.head
  · intro i j a b hij ha hb
    rcases hget j b hb with ⟨hj, hb'⟩ | ⟨hj, rfl⟩
    · rcases hget i a ha with ⟨hi, ha'⟩ | ⟨hi, rfl⟩
      · exact h.sorted i j a b hij ha' hb'
      · omega
    · rcases hget i a ha with ⟨hi, ha'⟩ | ⟨hi, rfl⟩
      · have := h.top x h.cur a (List.mem_of_getElem? ha')
        omega
      · exact Nat.le_refl _
  · intro i a hi ha k' hk'
    rcases hget i a ha with ⟨hi', ha'⟩ | ⟨hi', rfl⟩
    · exact List.mem_append_left _ (h.closed i a hi ha' k' hk')
    · omega
  · intro y hy r hr
    rw [List.getElem?_append_left hpl, h.cur] at hy
    cases hy
    rcases List.mem_append.1 hr with hr | hr
    · exact h.top x h.cur r hr
    · simp at hr; subst hr; omega
  · rw [List.getElem?_append_left hpl]; exact h.cur
  · intro k' hk' hlt
    by_cases e : k' = k
    · subst e; exact List.mem_append_right _ (by simp)
    · exact List.mem_append_left _ (h.done k' hk' (by omega))
theorem BI.next (h : BI n Q p x (n + 1)) : BQ n Q (p + 1) := by
  have hpl : p < Q.length := (List.getElem?_eq_some_iff.1 h.cur).1
  refine ⟨h.lt, h.nodup, h.head, h.sorted, fun i a hi ha k' hk' => ?_, fun y hy r hr => ?_, hpl⟩
  · by_cases e : i = p
    · subst e
      rw [h.cur] at ha
      cases ha
      exact h.done k' hk' (by have := (mem_ks.1 hk').2; omega)
    · exact h.closed i a (by omega) ha k' hk'
  · have h1 := h.sorted p (p + 1) x y (by omega) h.cur hy
    have h2 := h.top x h.cur r hr
    omega
theorem BQ.all (hn : Cnt n) (h : BQ n Q Q.length) : ∀ d r, r < fact n → dS n r = d → r ∈ Q
  | 0, r, hr, hd => by
    obtain rfl := dS_eq_zero hn hr hd
    exact List.mem_of_getElem? h.head
  | d + 1, r, hr, hd => by
    obtain ⟨k, hk, e⟩ := dS_prev hn hr hd
    have hy := BQ.all hn h d (nb n r k) (nb_lt hn hr k) e
    obtain ⟨i, hi, ei⟩ := List.getElem_of_mem hy
    have := h.closed i _ hi (by rw [List.getElem?_eq_getElem hi, ei]) k hk
    rwa [nb_nb hn hr] at this

/-- the distances found -/
def Fl (n : Nat) (Q : List Nat) : List Int := (List.range (fact n)).map fun r => if r ∈ Q then (dS n r : Int) else -1
/-- the stacks found -/
def Xl (n : Nat) (Q : List Nat) : List (List Int) := (List.range (fact n)).map fun r => if r ∈ Q then unrank n r else []
theorem Fl_length (n : Nat) (Q : List Nat) : (Fl n Q).length = fact n := by simp [Fl]
theorem Xl_length (n : Nat) (Q : List Nat) : (Xl n Q).length = fact n := by simp [Xl]
theorem Fl_get {r : Nat} (h : r < fact n) : (Fl n Q)[r]'(by rw [Fl_length]; exact h) = if r ∈ Q then (dS n r : Int) else -1 := by simp [Fl]
theorem Xl_get {r : Nat} (h : r < fact n) : (Xl n Q)[r]'(by rw [Xl_length]; exact h) = if r ∈ Q then unrank n r else [] := by simp [Xl]
theorem Fl_snoc (n : Nat) (Q : List Nat) (t : Nat) : (Fl n Q).set t (dS n t : Int) = Fl n (Q ++ [t]) := by
  apply List.ext_getElem (by simp [Fl])
  intro i h1 h2
  simp only [Fl, List.getElem_set, List.getElem_map, List.getElem_range, List.mem_append, List.mem_singleton]
  by_cases e : t = i
  · subst e; simp
  · rw [if_neg e]
    have : (i = t) = False := by simp; omega
    simp [this]
theorem Xl_snoc (n : Nat) (Q : List Nat) (t : Nat) : (Xl n Q).set t (unrank n t) = Xl n (Q ++ [t]) := by
  apply List.ext_getElem (by simp [Xl])
  intro i h1 h2
  simp only [Xl, List.getElem_set, List.getElem_map, List.getElem_range, List.mem_append, List.mem_singleton]
  by_cases e : t = i
  · subst e; simp
  · rw [if_neg e]
    have : (i = t) = False := by simp; omega
    simp [this]

/-- what the turn k' adds to the number of r, P having been looked at, x being looked at with the turns below k -/
def cterm (n : Nat) (P : List Nat) (x k r k' : Nat) : Nat :=
  if (nb n r k' ∈ P ∨ (nb n r k' = x ∧ k' < k)) ∧ dS n (nb n r k') + 1 = dS n r then ways n (dS n (nb n r k')) (ramp 1 n) (unrank n (nb n r k')) else 0
def Cn (n : Nat) (P : List Nat) (x k r : Nat) : Nat := (if r = 0 then 1 else 0) + ((ks n).map (cterm n P x k r)).sum
/-- the numbers of plans found -/
def Cl (n : Nat) (P : List Nat) (x k : Nat) : List Int := (List.range (fact n)).map fun r => (Cn n P x k r : Int)
theorem Cl_length (n : Nat) (P : List Nat) (x k : Nat) : (Cl n P x k).length = fact n := by simp [Cl]
theorem Cl_get {P : List Nat} {x k r : Nat} (h : r < fact n) : (Cl n P x k)[r]'(by rw [Cl_length]; exact h) = (Cn n P x k r : Int) := by simp [Cl]
theorem ks_nodup (n : Nat) : (ks n).Nodup := by
  unfold ks
  exact List.pairwise_map.2 (List.Pairwise.imp (fun {a b} h => by omega) List.nodup_range)
theorem sum_one {l : List Nat} (hl : l.Nodup) {k : Nat} (hk : k ∈ l) (e : Nat) : (l.map fun k' => if k' = k then e else 0).sum = e := by
  induction l with
  | nil => cases hk
  | cons a l ih =>
    obtain ⟨h1, h2⟩ := List.nodup_cons.1 hl
    simp only [List.map_cons, List.sum_cons]
    by_cases ea : a = k
    · subst ea
      rw [if_pos rfl, sum_congr (g := fun _ => 0) (fun y hy => if_neg (by rintro rfl; exact h1 hy)), sum_map_zero]
      omega
    · rw [if_neg ea, ih h2 (by rcases List.mem_cons.1 hk with rfl | hk; exact absurd rfl ea; exact hk)]
      omega
theorem Cn_succ {P : List Nat} {x k r : Nat} (hk : k ∈ ks n) (hx : x ∉ P) :
    Cn n P x (k + 1) r = Cn n P x k r + if nb n r k = x ∧ dS n x + 1 = dS n r then ways n (dS n x) (ramp 1 n) (unrank n x) else 0 := by
  unfold Cn
  rw [sum_congr (g := fun k' => cterm n P x k r k' + if k' = k then (if nb n r k = x ∧ dS n x + 1 = dS n r then ways n (dS n x) (ramp 1 n) (unrank n x) else 0) else 0) (fun k' _ => ?_), sum_map_add, sum_one (ks_nodup n) hk]
  · omega
  · unfold cterm
    by_cases e : k' = k
    · subst e
      rw [if_pos rfl]
      by_cases h1 : nb n r k' ∈ P
      · have h2 : nb n r k' ≠ x := by rintro rfl; exact hx h1
        simp [h1, h2]
      · by_cases h2 : nb n r k' = x
        · simp [h2, hx]
        · simp [h1, h2]
    · rw [if_neg e]
      have : (k' < k + 1) = (k' < k) := by simp; omega
      simp [this]
theorem Cn_first (n : Nat) (P : List Nat) (x y r : Nat) : Cn n P x 2 r = Cn n P y 2 r := by
  unfold Cn
  congr 1
  refine sum_congr fun k' hk' => ?_
  have := mem_ks.1 hk'
  have e : (k' < 2) = False := by simp; omega
  simp [cterm, e]
theorem Cn_last (n : Nat) (P : List Nat) (x y r : Nat) : Cn n P x (n + 1) r = Cn n (P ++ [x]) y 2 r := by
  unfold Cn
  congr 1
  refine sum_congr fun k' hk' => ?_
  have := mem_ks.1 hk'
  have e : (k' < 2) = False := by simp; omega
  have e2 : (k' < n + 1) = True := by simp; omega
  simp [cterm, e, e2]
theorem Cn_full (hn : Cnt n) {P : List Nat} {x k r : Nat} (hr : r < fact n) (h : ∀ k' ∈ ks n, dS n (nb n r k') + 1 = dS n r → nb n r k' ∈ P) : Cn n P x k r = ways n (dS n r) (ramp 1 n) (unrank n r) := by
  unfold Cn
  cases hd : dS n r with
  | zero =>
    obtain rfl := dS_eq_zero hn hr hd
    rw [if_pos rfl, sum_congr (g := fun _ => 0) (fun k' _ => by simp [cterm, hd]), sum_map_zero, ways_zero, if_pos (un_zero hn).symm]
  | succ d =>
    rw [if_neg (by rintro rfl; rw [dS_zero hn] at hd; omega), Nat.zero_add, ways_last]
    refine sum_congr fun k' hk' => ?_
    rw [← un_nb hn hr k']
    unfold cterm
    have hs := un_st hn (nb_lt hn hr k')
    by_cases e : dS n (nb n r k') + 1 = dS n r
    · rw [if_pos ⟨.inl (h k' hk' e), e⟩]
      congr 1
      omega
    · rw [if_neg (fun c => e c.2)]
      have h1 := (dS_nb hn hr hk').2
      exact (ways_far hn.home hs (show d < dS n (nb n r k') by omega)).symm
theorem BI.cur_count (hn : Cnt n) (h : BI n Q p x k) (y k' : Nat) : Cn n (Q.take p) y k' x = ways n (dS n x) (ramp 1 n) (unrank n x) := by
  have hxl := h.lt x (List.mem_of_getElem? h.cur)
  refine Cn_full hn hxl fun k'' _ he => ?_
  have hm := h.toBQ.low hn h.cur (dS n (nb n x k'')) _ (nb_lt hn hxl k'') rfl (by omega)
  obtain ⟨i, hi, ei⟩ := List.getElem_of_mem hm
  have ei' : Q[i]? = some (nb n x k'') := by rw [List.getElem?_eq_getElem hi, ei]
  have hip : i < p := by
    by_cases hip : i < p
    · exact hip
    · have := h.sorted p i x _ (by omega) h.cur ei'
      omega
  exact List.mem_of_getElem? (i := i) (by rw [List.getElem?_take, if_pos hip]; exact ei')
theorem BI.not_done (h : BI n Q p x k) : x ∉ Q.take p := by
  intro hm
  obtain ⟨i, hi, ei⟩ := List.getElem_of_mem hm
  have hpl : p < Q.length := (List.getElem?_eq_some_iff.1 h.cur).1
  obtain ⟨_, hx⟩ := List.getElem?_eq_some_iff.1 h.cur
  simp at hi
  have e : Q[i]'(by omega) = Q[p] := (show Q[i]'(by omega) = x by rw [← ei]; simp).trans hx.symm
  exact (List.pairwise_iff_getElem.1 h.nodup i p (by omega) hpl (by omega)) e
/-- the number of plans that is added to -/
theorem BI.count_yes (hn : Cnt n) (h : BI n Q p x k) (hk : k ∈ ks n) (hd : dS n (nb n x k) = dS n x + 1) :
    (Cl n (Q.take p) x k).set (nb n x k) ((Cn n (Q.take p) x k (nb n x k) : Int) + (Cn n (Q.take p) x k x : Int)) = Cl n (Q.take p) x (k + 1) := by
  have hxl := h.lt x (List.mem_of_getElem? h.cur)
  apply List.ext_getElem (by simp [Cl])
  intro i h1 h2
  simp only [Cl, List.getElem_set, List.getElem_map, List.getElem_range]
  rw [Cl_length] at h2
  rw [Cn_succ hk h.not_done]
  by_cases e : nb n x k = i
  · subst e
    rw [if_pos rfl, if_pos ⟨nb_nb hn hxl k, by omega⟩, h.cur_count hn]
    omega
  · rw [if_neg e, if_neg (fun c => e (by rw [← c.1]; exact nb_nb hn h2 k))]
    omega
theorem BI.count_no (hn : Cnt n) (h : BI n Q p x k) (hk : k ∈ ks n) (hd : dS n (nb n x k) ≠ dS n x + 1) : Cl n (Q.take p) x k = Cl n (Q.take p) x (k + 1) := by
  apply List.ext_getElem (by simp [Cl])
  intro i h1 h2
  simp only [Cl, List.getElem_map, List.getElem_range]
  rw [Cl_length] at h2
  rw [Cn_succ hk h.not_done, if_neg ?_]
  · omega
  · rintro ⟨e, e2⟩
    subst e
    rw [nb_nb hn h2] at hd
    omega
theorem Cl_first (n : Nat) (P : List Nat) (x y : Nat) : Cl n P x 2 = Cl n P y 2 := by
  unfold Cl
  simp only [Cn_first n P x y]
theorem BI.count_last (h : BI n Q p x (n + 1)) (y : Nat) : Cl n (Q.take p) x (n + 1) = Cl n (Q.take (p + 1)) y 2 := by
  have hp := List.getElem?_eq_some_iff.1 h.cur
  rw [List.take_succ_eq_append_getElem hp.1, hp.2]
  unfold Cl
  simp only [Cn_last n _ x y]
theorem Cn_le (hn : Cnt n) (P : List Nat) (x k r : Nat) (hr : r < fact n) : Cn n P x k r ≤ 1 + (n - 1) * (n - 1) ^ (2 * n) := by
  unfold Cn
  have h := sum_le (ks n) (cterm n P x k r) ((n - 1) ^ (2 * n)) (fun k' hk' => by
    have := mem_ks.1 hk'
    unfold cterm
    split
    · exact Nat.le_trans (ways_le _ _ _ _) (Nat.pow_le_pow_right (by omega) (dS_le hn (nb_lt hn hr k')))
    · exact Nat.zero_le _)
  rw [ks_length] at h
  split <;> omega

/-- all distances, numbers of plans, and stacks -/
def farL (n : Nat) : List Int := (List.range (fact n)).map fun r => (dS n r : Int)
def cntL (n : Nat) : List Int := (List.range (fact n)).map fun r => (ways n (dS n r) (ramp 1 n) (unrank n r) : Int)
theorem BQ.farL (hn : Cnt n) (h : BQ n Q Q.length) : Fl n Q = farL n := by
  unfold Fl Pan.farL
  refine List.map_congr_left fun r hr => ?_
  rw [if_pos (h.all hn _ r (List.mem_range.1 hr) rfl)]
theorem BQ.allS (hn : Cnt n) (h : BQ n Q Q.length) : Xl n Q = allS n := by
  apply List.ext_getElem (by rw [Xl_length, allS_length])
  intro i h1 h2
  rw [Xl_length] at h1
  rw [Xl_get h1, if_pos (h.all hn _ i h1 rfl)]
  have := unrank_get h1
  rw [List.getElem?_eq_getElem h2] at this
  exact (Option.some.inj this).symm
theorem BQ.cntL (hn : Cnt n) (h : BQ n Q Q.length) (y : Nat) : Cl n (Q.take Q.length) y 2 = cntL n := by
  unfold Cl Pan.cntL
  refine List.map_congr_left fun r hr => ?_
  rw [List.take_length, Cn_full hn (List.mem_range.1 hr) fun k' _ _ => h.all hn _ _ (nb_lt hn (List.mem_range.1 hr) k') rfl]
theorem Cl_start (hn : Cnt n) (y : Nat) : Cl n ([0].take 0) y 2 = (List.replicate (fact n) 0).set 0 1 := by
  apply List.ext_getElem (by simp [Cl])
  intro i h1 h2
  rw [Cl_length] at h1
  rw [Cl_get h1]
  simp only [List.getElem_set, List.getElem_replicate]
  have hz : ((ks n).map (cterm n [] y 2 i)).sum = 0 := by
    rw [sum_congr (g := fun _ => 0) (fun k' hk' => ?_), sum_map_zero]
    have := mem_ks.1 hk'
    have e : (k' < 2) = False := by simp; omega
    simp [cterm, e]
  unfold Cn
  simp only [List.take_zero, hz]
  by_cases e : i = 0
  · subst e; simp
  · have e' : ¬ 0 = i := by omega
    simp [e, e']
end
end Go.Pan
