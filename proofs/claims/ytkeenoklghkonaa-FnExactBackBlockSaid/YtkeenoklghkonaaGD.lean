import Derived.Test.YtkeenoklghkonaaGA
import Derived.Test.YtkeenoklghkonaaM10
namespace Go.Pan
theorem gways_cons0 {n : Gm} {d k : Nat} {s t : List Int} (hk : k ∈ n.ks) (hb : gpr n (n.mv s k) k = s) (h : 0 < gways n d (n.mv s k) t) : 0 < gways n (d + 1) s t := by
  induction d generalizing t with
  | zero =>
    rw [gways_zero] at h
    split at h
    · rename_i e
      rw [← e]
      exact gways_step hk (by rw [hb, gways_zero, if_pos rfl]; omega)
    · omega
  | succ d ih =>
    rw [gways_last] at h
    obtain ⟨j, hj, h⟩ := sum_pos.1 h
    exact gways_step hj (ih h)

-- burnt stacks
theorem bturnL_lt (xs : List Int) (k j : Nat) (hk : k ≤ xs.length) (hj : j < k) : (bturnL xs k)[j]? = (xs[k - 1 - j]?).map (fun x => -x) := by
  rw [bturnL_eq xs k hk, List.getElem?_append_left (by simp; omega), List.getElem?_map, List.getElem?_reverse (by simp; omega), List.getElem?_take, if_pos (by simp; omega)]
  congr 2
  simp
  omega
theorem bturnL_ge (xs : List Int) (k j : Nat) (hk : k ≤ xs.length) (hj : k ≤ j) : (bturnL xs k)[j]? = xs[j]? := by
  rw [bturnL_eq xs k hk, List.getElem?_append_right (by simp; omega), List.getElem?_drop]
  congr 1
  simp
  omega
theorem bturnL_bturnL (xs : List Int) (k : Nat) (hk : k ≤ xs.length) : bturnL (bturnL xs k) k = xs := by
  apply List.ext_getElem?
  intro j
  have hk' : k ≤ (bturnL xs k).length := by rw [bturnL_length]; exact hk
  by_cases hj : j < k
  · rw [bturnL_lt _ _ _ hk' hj, bturnL_lt _ _ _ hk (by omega), show k - 1 - (k - 1 - j) = j by omega]
    cases xs[j]? <;> simp
  · rw [bturnL_ge _ _ _ hk' (by omega), bturnL_ge _ _ _ hk (by omega)]
def BSt (m : Nat) (q : List Int) : Prop := Burnt q ∧ q.length = m
theorem BSt.turn {m : Nat} {q : List Int} (h : BSt m q) (k : Nat) : BSt m (bturnL q k) := ⟨bturnL_burnt h.1 k, by rw [bturnL_length]; exact h.2⟩
theorem ramp_abs (m : Nat) : absL (ramp 1 m) = ramp 1 m := by
  unfold absL
  rw [show (ramp 1 m).map absI = (ramp 1 m).map id from List.map_congr_left fun x hx => by have := mem_ramp.1 hx; rw [absI_eq]; simp; omega, List.map_id]
theorem BSt.ramp {m : Nat} (h1 : 1 ≤ m) (h9 : m ≤ 9) : BSt m (ramp 1 m) := ⟨by unfold Burnt; rw [ramp_abs]; exact ramp_good m h1 h9, ramp_length 1 m⟩

-- their numbers
def withS : List Int → Nat → List Int
  | [], _ => []
  | x :: p, b => (if b / 2 ^ p.length % 2 = 1 then -x else x) :: withS p b
def signN : List Int → Nat
  | [] => 0
  | x :: p => (if x < 0 then 2 ^ p.length else 0) + signN p
theorem withS_length (p : List Int) (b : Nat) : (withS p b).length = p.length := by
  induction p with
  | nil => rfl
  | cons x p ih => simp [withS, ih]
theorem signN_lt (q : List Int) : signN q < 2 ^ q.length := by
  induction q with
  | nil => decide
  | cons x p ih =>
    simp only [signN, List.length_cons, Nat.pow_succ]
    split <;> omega
theorem absL_withS (p : List Int) (b : Nat) : absL (withS p b) = absL p := by
  induction p with
  | nil => rfl
  | cons x p ih =>
    have e1 : absL (withS (x :: p) b) = absI (if b / 2 ^ p.length % 2 = 1 then -x else x) :: absL (withS p b) := rfl
    have e2 : absL (x :: p) = absI x :: absL p := rfl
    rw [e1, e2, ih]
    congr 1
    split
    · exact absI_neg x
    · rfl
theorem absL_pos {p : List Int} (h : ∀ x ∈ p, 0 < x) : absL p = p := by
  unfold absL
  rw [show p.map absI = p.map id from List.map_congr_left fun x hx => by have := h x hx; rw [absI_eq]; simp; omega, List.map_id]
theorem signN_withS {p : List Int} (h : ∀ x ∈ p, 0 < x) (b : Nat) : signN (withS p b) = b % 2 ^ p.length := by
  induction p with
  | nil => simp [signN, withS, Nat.mod_one]
  | cons x p ih =>
    have hx := h x (by simp)
    have ih := ih (fun y hy => h y (by simp [hy]))
    simp only [signN, withS, withS_length, ih, List.length_cons]
    rw [Nat.pow_succ, Nat.mod_mul]
    by_cases hb : b / 2 ^ p.length % 2 = 1
    · rw [if_pos hb, if_pos (by omega), hb]; omega
    · rw [if_neg hb, if_neg (by omega)]
      have : b / 2 ^ p.length % 2 = 0 := by omega
      rw [this]; omega
theorem withS_mod (p : List Int) (b c : Nat) (h : b % 2 ^ p.length = c % 2 ^ p.length) : withS p b = withS p c := by
  induction p with
  | nil => rfl
  | cons x p ih =>
    have hp : 0 < 2 ^ p.length := Nat.two_pow_pos _
    simp only [List.length_cons, Nat.pow_succ] at h
    rw [Nat.mod_mul, Nat.mod_mul] at h
    have h1 := Nat.mod_lt b hp
    have h2 := Nat.mod_lt c hp
    have e1 : b / 2 ^ p.length % 2 = c / 2 ^ p.length % 2 := by
      rcases Nat.mod_two_eq_zero_or_one (b / 2 ^ p.length) with hb | hb <;> rcases Nat.mod_two_eq_zero_or_one (c / 2 ^ p.length) with hc | hc <;> rw [hb, hc] at h ⊢ <;> omega
    have e2 : b % 2 ^ p.length = c % 2 ^ p.length := by rw [e1] at h; omega
    simp only [withS, e1, ih e2]
theorem withS_absL {q : List Int} (h : ∀ x ∈ q, x ≠ 0) : withS (absL q) (signN q) = q := by
  induction q with
  | nil => rfl
  | cons x p ih =>
    have hx := h x (by simp)
    have ih := ih (fun y hy => h y (by simp [hy]))
    have hl := signN_lt p
    have e : absL (x :: p) = absI x :: absL p := rfl
    rw [e]
    simp only [withS, absL_length]
    have hlow : withS (absL p) (signN (x :: p)) = p := by
      rw [withS_mod (absL p) (signN (x :: p)) (signN p) (by
        rw [absL_length]
        simp only [signN]
        split
        · rw [Nat.add_mod_left]
        · rw [Nat.zero_add])]
      exact ih
    rw [hlow]
    congr 1
    have hp : 0 < 2 ^ p.length := Nat.two_pow_pos _
    by_cases hn : x < 0
    · have hv : signN (x :: p) / 2 ^ p.length = 1 := by
        simp only [signN]
        rw [if_pos hn, Nat.add_div_left _ hp, Nat.div_eq_of_lt hl]
      rw [hv, if_pos rfl, absI_eq]
      omega
    · have hv : signN (x :: p) / 2 ^ p.length = 0 := by
        simp only [signN]
        rw [if_neg hn, Nat.zero_add, Nat.div_eq_of_lt hl]
      rw [hv, if_neg (by omega), absI_eq]
      omega
def brank (q : List Int) : Nat := rankL (absL q) * 2 ^ q.length + signN q
def bun (m r : Nat) : List Int := withS (unrank m (r / 2 ^ m)) (r % 2 ^ m)
def ball (m : Nat) : List (List Int) := (List.range (fact m * 2 ^ m)).map (bun m)
theorem BSt.abs {m : Nat} {q : List Int} (h : BSt m q) : St m (absL q) := ⟨h.1, by rw [absL_length]; exact h.2⟩
theorem bun_brank {m : Nat} (h1 : 1 ≤ m) (h9 : m ≤ 9) {q : List Int} (h : BSt m q) : bun m (brank q) = q := by
  have hl := signN_lt q
  rw [h.2] at hl
  unfold bun brank
  rw [h.2, Nat.mul_comm, Nat.mul_add_div (Nat.two_pow_pos _), Nat.div_eq_of_lt hl, Nat.add_zero, Nat.mul_add_mod, Nat.mod_eq_of_lt hl, unrank_rank h1 h9 h.abs]
  exact withS_absL fun x hx => (h.1.bd hx).2.2
theorem brank_lt {m : Nat} {q : List Int} (h : BSt m q) : brank q < fact m * 2 ^ m := by
  have hl := signN_lt q
  have hr := rank_lt h.abs
  unfold brank
  rw [h.2] at hl ⊢
  have := Nat.mul_le_mul_right (2 ^ m) hr
  rw [Nat.succ_mul] at this
  omega
theorem bun_st {m r : Nat} (h1 : 1 ≤ m) (h9 : m ≤ 9) (h : r < fact m * 2 ^ m) : BSt m (bun m r) := by
  have hu := unrank_st h1 h9 (r := r / 2 ^ m) ((Nat.div_lt_iff_lt_mul (Nat.two_pow_pos _)).2 h)
  have hp : absL (unrank m (r / 2 ^ m)) = unrank m (r / 2 ^ m) := absL_pos fun x hx => by have := hu.1.2.2.1 x hx; omega
  refine ⟨?_, by unfold bun; rw [withS_length]; exact hu.2⟩
  unfold Burnt bun
  rw [absL_withS, hp]
  exact hu.1
theorem brank_bun {m r : Nat} (h1 : 1 ≤ m) (h9 : m ≤ 9) (h : r < fact m * 2 ^ m) : brank (bun m r) = r := by
  have hr : r / 2 ^ m < fact m := (Nat.div_lt_iff_lt_mul (Nat.two_pow_pos _)).2 h
  have hu := unrank_st h1 h9 hr
  have hpos : ∀ x ∈ unrank m (r / 2 ^ m), 0 < x := fun x hx => by have := hu.1.2.2.1 x hx; omega
  unfold brank
  rw [(bun_st h1 h9 h).2]
  unfold bun
  rw [absL_withS, absL_pos hpos, signN_withS hpos, rank_unrank hr, hu.2, Nat.mod_mod, Nat.mul_comm]
  exact Nat.div_add_mod r (2 ^ m)
theorem ball_length (m : Nat) : (ball m).length = fact m * 2 ^ m := by simp [ball]
theorem mem_ball {m : Nat} (h1 : 1 ≤ m) (h9 : m ≤ 9) {q : List Int} : q ∈ ball m ↔ BSt m q := by
  unfold ball
  rw [List.mem_map]
  constructor
  · rintro ⟨r, hr, rfl⟩; exact bun_st h1 h9 (List.mem_range.1 hr)
  · intro h; exact ⟨brank q, List.mem_range.2 (brank_lt h), bun_brank h1 h9 h⟩
theorem ball_nodup {m : Nat} (h1 : 1 ≤ m) (h9 : m ≤ 9) : (ball m).Nodup := by
  refine List.pairwise_map.2 (List.Pairwise.imp_of_mem (fun {a b} ha hb hab e => ?_) List.nodup_range)
  have h := congrArg brank e
  rw [brank_bun h1 h9 (List.mem_range.1 ha), brank_bun h1 h9 (List.mem_range.1 hb)] at h
  exact hab h
theorem brank_home (m : Nat) : brank (ramp 1 m) = 0 := by
  unfold brank
  rw [ramp_abs, rankL_ramp, Nat.zero_mul, Nat.zero_add]
  have : ∀ l : List Int, (∀ x ∈ l, 0 < x) → signN l = 0 := by
    intro l
    induction l with
    | nil => intro _; rfl
    | cons x l ih => intro h; simp only [signN]; rw [if_neg (by have := h x (by simp); omega), ih (fun y hy => h y (by simp [hy]))]
  exact this _ fun x hx => by have := mem_ramp.1 hx; omega

/-- the search among burnt stacks of m -/
def bG (m : Nat) : Gm where
  ks := (List.range m).map (· + 1)
  mv := bturnL
  bk := fun k => k
  St := BSt m
  len := m
  dm := 3 * m
  all := ball m
theorem mem_bks {m k : Nat} : k ∈ (bG m).ks ↔ 1 ≤ k ∧ k ≤ m := by
  simp only [bG, List.mem_map, List.mem_range]
  constructor
  · rintro ⟨a, h, rfl⟩; omega
  · intro h; exact ⟨k - 1, by omega, by omega⟩
theorem bks_length (m : Nat) : (bG m).ks.length = m := by simp [bG]
theorem bcons {m d k : Nat} {s t : List Int} (hs : s.length = m) (h1 : 1 ≤ k) (h2 : k ≤ m) (h : 0 < gways (bG m) d (bturnL s k) t) : 0 < gways (bG m) (d + 1) s t :=
  gways_cons0 (n := bG m) (mem_bks.2 ⟨h1, h2⟩) (bturnL_bturnL s k (by omega)) h
theorem get_opt {s : List Int} {i : Nat} (h : i < s.length) : s[i]? = some s[i] := List.getElem?_eq_getElem h
theorem abs_inj {q : List Int} (h : Burnt q) {i j : Nat} (hi : i < q.length) (hj : j < q.length) (e : absI q[i] = absI q[j]) : i = j := by
  have hn := h.2.2.2
  have hi' : i < (absL q).length := by rw [absL_length]; exact hi
  have hj' : j < (absL q).length := by rw [absL_length]; exact hj
  rcases Nat.lt_trichotomy i j with hlt | hlt | hlt
  · exact absurd (by simpa [absL] using e) (List.pairwise_iff_getElem.1 hn i j hi' hj' hlt)
  · exact hlt
  · exact absurd (by simpa [absL] using e.symm) (List.pairwise_iff_getElem.1 hn j i hj' hi' hlt)
theorem bsortable (n m : Nat) (hm : m ≤ n) (s t : List Int) (hs : BSt n s) (ht : BSt n t) (hp : ∀ j, m ≤ j → j < n → s[j]? = t[j]?) : ∃ d, d ≤ 3 * m ∧ 0 < gways (bG n) d s t := by
  induction m generalizing s with
  | zero =>
    refine ⟨0, Nat.le_refl _, ?_⟩
    have : s = t := by
      apply List.ext_getElem?
      intro j
      by_cases hj : j < n
      · exact hp j (Nat.zero_le _) hj
      · rw [List.getElem?_eq_none (by rw [hs.2]; omega), List.getElem?_eq_none (by rw [ht.2]; omega)]
    rw [gways_zero, if_pos this]
    omega
  | succ m ih =>
    have hsl := hs.2
    have htl := ht.2
    -- the last turn: the pancake is on top, the other side up
    have key : ∀ u : List Int, BSt n u → u[0]? = (t[m]?).map (fun x => -x) → (∀ j, m + 1 ≤ j → j < n → u[j]? = t[j]?) → ∃ d, d ≤ 3 * m + 1 ∧ 0 < gways (bG n) d u t := by
      intro u hu h0 huj
      have hul := hu.2
      obtain ⟨d, hd, hw⟩ := ih (by omega) (bturnL u (m + 1)) (hu.turn _) (fun j h1 h2 => by
        by_cases ej : j = m
        · subst ej
          rw [bturnL_lt u _ _ (by omega) (by omega), show j + 1 - 1 - j = 0 by omega, h0]
          cases t[j]? <;> simp
        · rw [bturnL_ge u _ _ (by omega) (by omega)]
          exact huj j (by omega) h2)
      exact ⟨d + 1, by omega, bcons hul (by omega) (by omega) hw⟩
    -- .. or this side up
    have key2 : ∀ u : List Int, BSt n u → (u[0]? = (t[m]?).map (fun x => -x) ∨ u[0]? = t[m]?) → (∀ j, m + 1 ≤ j → j < n → u[j]? = t[j]?) → ∃ d, d ≤ 3 * m + 2 ∧ 0 < gways (bG n) d u t := by
      intro u hu h0 huj
      have hul := hu.2
      rcases h0 with h0 | h0
      · obtain ⟨d, hd, hw⟩ := key u hu h0 huj
        exact ⟨d, by omega, hw⟩
      · obtain ⟨d, hd, hw⟩ := key (bturnL u 1) (hu.turn 1) (by rw [bturnL_lt u 1 0 (by omega) (by omega)]; simp only [Nat.sub_self]; rw [h0]) (fun j h1 h2 => by
          rw [bturnL_ge u 1 j (by omega) (by omega)]; exact huj j h1 h2)
        exact ⟨d + 1, by omega, bcons hul (by omega) (by omega) hw⟩
    have hmt : m < t.length := by omega
    by_cases e0 : s[m]? = t[m]?
    · obtain ⟨d, hd, hw⟩ := ih (by omega) s hs (fun j h1 h2 => by
        by_cases ej : j = m
        · subst ej; exact e0
        · exact hp j (by omega) h2)
      exact ⟨d, by omega, hw⟩
    · -- where it is
      have hab := ht.1.abs (List.getElem_mem hmt)
      have hmem : absI t[m] ∈ absL s := mem_of_good hs.1 hab.1 (by rw [absL_length, hsl]; omega)
      obtain ⟨i, hi, he⟩ := List.getElem_of_mem hmem
      have hil : i < s.length := by rw [absL_length] at hi; exact hi
      have he' : absI s[i] = absI t[m] := by simpa [absL] using he
      have him : i ≤ m := by
        by_cases h : i ≤ m
        · exact h
        · have h1 := hp i (by omega) (by omega)
          rw [get_opt hil, get_opt (show i < t.length by omega), Option.some.injEq] at h1
          rw [h1] at he'
          have := abs_inj ht.1 (show i < t.length by omega) hmt he'
          omega
      have hsv : s[i] = t[m] ∨ s[i] = -t[m] := by
        rw [absI_eq, absI_eq] at he'
        omega
      by_cases i0 : i = 0
      · subst i0
        obtain ⟨d, hd, hw⟩ := key2 s hs (by
          rw [get_opt hil, get_opt hmt]
          rcases hsv with h | h
          · right; rw [h]
          · left; rw [h]; rfl) hp
        exact ⟨d, by omega, hw⟩
      · obtain ⟨d, hd, hw⟩ := key2 (bturnL s (i + 1)) (hs.turn _) (by
          rw [bturnL_lt s (i + 1) 0 (by omega) (by omega), show i + 1 - 1 - 0 = i by omega, get_opt hil, get_opt hmt]
          rcases hsv with h | h
          · left; rw [h]
          · right; rw [h]; simp) (fun j h1 h2 => by rw [bturnL_ge s _ _ (by omega) (by omega)]; exact hp j h1 h2)
        exact ⟨d + 1, by omega, bcons hsl (by omega) (by omega) hw⟩
theorem bG_ok {m : Nat} (h1 : 1 ≤ m) (h5 : m ≤ 5) : GOk (bG m) where
  len9 := by show m ≤ 9; omega
  length := fun q h => h.2
  small := fun q h x hx => by have := h.1.bd hx; omega
  mem := fun q => mem_ball h1 (by omega)
  nodup := ball_nodup h1 (by omega)
  total := by
    show (ball m).length ≤ 362880
    rw [ball_length]
    match m, h1, h5 with
    | 1, _, _ => decide
    | 2, _, _ => decide
    | 3, _, _ => decide
    | 4, _, _ => decide
    | 5, _, _ => decide
  mvSt := fun q k h _ => h.turn k
  bkIn := fun k h => h
  bkBk := fun k _ => rfl
  mvBk := fun q k h hk => bturnL_bturnL q k (by rw [h.2]; exact (mem_bks.1 hk).2)
  rising := by
    show ((List.range m).map (· + 1)).Pairwise (· < ·)
    rw [List.pairwise_map]
    exact List.pairwise_lt_range.imp (by intro a b hab; omega)
  reach := fun s t hs ht => bsortable m m (Nat.le_refl _) s t hs ht (fun j _ _ => by omega)
  few := by
    rw [bks_length]
    show m ^ (3 * m + 1) ≤ _
    match m, h1, h5 with
    | 1, _, _ => decide
    | 2, _, _ => decide
    | 3, _, _ => decide
    | 4, _, _ => decide
    | 5, _, _ => decide
  kpos := fun k hk => by have := mem_bks.1 hk; omega
  dm30 := by show 3 * m ≤ 1000; omega
end Go.Pan

namespace Go.Pan
/-- the burnt stacks whose distances are searched -/
def bfewB (xs : List Int) : Bool := burntB xs && inB (xs.length : Int) 1 5
theorem bfewB_iff {xs : List Int} : bfewB xs = true ↔ BSt xs.length xs ∧ 1 ≤ xs.length ∧ xs.length ≤ 5 := by
  rw [bfewB, Bool.and_eq_true, burntB_iff, inB_iff]
  constructor
  · rintro ⟨h1, h2, h3⟩; exact ⟨⟨h1, rfl⟩, by omega, by omega⟩
  · rintro ⟨⟨h1, _⟩, h2, h3⟩; exact ⟨h1, by omega, by omega⟩
theorem bks_ramp (m : Nat) : (bG m).ks.map (fun (j : Nat) => (j : Int)) = ramp 1 m := by
  simp only [bG, ramp, List.map_map]
  exact List.map_congr_left fun i _ => by simp; omega
def bfar (xs : List Int) : Nat := gfar (bG xs.length) xs (ramp 1 xs.length)
theorem bfar_le {xs : List Int} (h : bfewB xs = true) : bfar xs ≤ 15 := by
  obtain ⟨h1, h2, h3⟩ := bfewB_iff.1 h
  have := (gfar_spec (bG_ok h2 h3) h1 (BSt.ramp h2 (by omega))).2.1
  have e : (bG xs.length).dm = 3 * xs.length := rfl
  unfold bfar
  omega
def mBurntDistance (xs : List Int) : Int := if bfewB xs = true then (bfar xs : Int) else 0
def mLeastBurnt (xs : List Int) : List Int := if bfewB xs = true then ggoL (bG xs.length) (ramp 1 xs.length) (bfar xs) xs else []
theorem len_mLeastBurnt (xs : List Int) : (mLeastBurnt xs).length ≤ 1048576 := by
  unfold mLeastBurnt
  split
  · rename_i h
    have := bfar_le h
    rw [ggoL_length]; omega
  · simp
def bbyL (m : Nat) : List Int := gbyL (bG m) (ramp 1 m)
def mCountBurntBy (n : Int) : List Int := if inB n 1 5 = true then bbyL n.toNat else []
theorem inB_five {n : Int} (h : inB n 1 5 = true) : ∃ m : Nat, n = (m : Int) ∧ 1 ≤ m ∧ m ≤ 5 := by
  have := inB_iff.1 h
  exact ⟨n.toNat, by omega, by omega, by omega⟩
theorem len_mCountBurntBy (n : Int) : (mCountBurntBy n).length ≤ 1048576 := by
  unfold mCountBurntBy
  split
  · rename_i h
    obtain ⟨m, rfl, h1, h5⟩ := inB_five h
    rw [Int.toNat_natCast]
    unfold bbyL
    have := gecc_le (bG_ok h1 h5) (BSt.ramp h1 (by omega))
    have e : (bG m).dm = 3 * m := rfl
    rw [gbyL_length]; omega
  · simp
end Go.Pan
