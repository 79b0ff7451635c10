import Derived.Test.YtdlnniciccpchaaGA
import Derived.Test.YtdlnniciccpchaaM10
import Derived.Test.YtdlnniciccpchaaG1
namespace Go.Pan
theorem gways_cons0 {n : Gm} {d k : Nat} {s t : List Int} (hk : k ∈ n.ks) (hb : gpr n (n.mv s k) k = s) (h : 0 < gways n d (n.mv s k) t) : 0 < gways n (d + 1) s t := by
  induction d generalizing t with
  | zero =>
    rw [gways_zero] at h
    split at h
    · rename_i e
      rw [← e]
      exact gways_step hk (by rw [hb, gways_zero, if_pos rfl]; omega)
    · omega
  | succ d ih =>
    rw [gways_last] at h
    obtain ⟨j, hj, h⟩ := sum_pos.1 h
    exact gways_step hj (ih h)

-- burnt stacks
theorem bturnL_lt (xs : List Int) (k j : Nat) (hk : k ≤ xs.length) (hj : j < k) : (bturnL xs k)[j]? = (xs[k - 1 - j]?).map (fun x => -x) := by
  rw [bturnL_eq xs k hk, List.getElem?_append_left (by simp; omega), List.getElem?_map, List.getElem?_reverse (by simp; omega), List.getElem?_take, if_pos (by simp; omega)]
  congr 2
  simp
  omega
theorem bturnL_ge (xs : List Int) (k j : Nat) (hk : k ≤ xs.length) (hj : k ≤ j) : (bturnL xs k)[j]? = xs[j]? := by
  rw [bturnL_eq xs k hk, List.getElem?_append_right (by simp; omega), List.getElem?_drop]
  congr 1
  simp
  omega
theorem bturnL_bturnL (xs : List Int) (k : Nat) (hk : k ≤ xs.length) : bturnL (bturnL xs k) k = xs := by
  apply List.ext_getElem?
  intro j
  have hk' : k ≤ (bturnL xs k).length := by rw [bturnL_length]; exact hk
  by_cases hj : j < k
  · rw [bturnL_lt _ _ _ hk' hj, bturnL_lt _ _ _ hk (by omega), show k - 1 - (k - 1 - j) = j by omega]
    cases xs[j]? <;> simp
  · rw [bturnL_ge _ _ _ hk' (by omega), bturnL_ge _ _ _ hk (by omega)]
def BSt (m : Nat) (q : List Int) : Prop := Burnt q ∧ q.length = m
theorem BSt.turn {m : Nat} {q : List Int} (h : BSt m q) (k : Nat) : BSt m (bturnL q k) := ⟨bturnL_burnt h.1 k, by rw [bturnL_length]; exact h.2⟩
theorem ramp_abs (m : Nat) : absL (ramp 1 m) = ramp 1 m := by
  unfold absL
  rw [show (ramp 1 m).map absI = (ramp 1 m).map id from List.map_congr_left fun x hx => by have := mem_ramp.1 hx; rw [absI_eq]; simp; omega, List.map_id]
theorem BSt.ramp {m : Nat} (h1 : 1 ≤ m) (h9 : m ≤ 9) : BSt m (ramp 1 m) := ⟨by unfold Burnt; rw [ramp_abs]; exact ramp_good m h1 h9, ramp_length 1 m⟩

-- their numbers
def withS : List Int → Nat → List Int
  | [], _ => []
  | x :: p, b => (if b / 2 ^ p.length % 2 = 1 then -x else x) :: withS p b
def signN : List Int → Nat
  | [] => 0
  | x :: p => (if x < 0 then 2 ^ p.length else 0) + signN p
theorem withS_length (p : List Int) (b : Nat) : (withS p b).length = p.length := by
  induction p with
  | nil => rfl
  | cons x p ih => simp [withS, ih]
theorem signN_lt (q : List Int) : signN q < 2 ^ q.length := by
  induction q with
  | nil => decide
  | cons x p ih =>
    simp only [signN, List.length_cons, Nat.pow_succ]
    split <;> omega
theorem absL_withS (p : List Int) (b : Nat) : absL (withS p b) = absL p := by
  induction p with
  | nil => rfl
  | cons x p ih =>
    have e1 : absL (withS (x :: p) b) = absI (if b / 2 ^ p.length % 2 = 1 then -x else x) :: absL (withS p b) := rfl
    have e2 : absL (x :: p) = absI x :: absL p := rfl
    rw [e1, e2, ih]
    congr 1
    split
    · exact absI_neg x
    · rfl
theorem absL_pos {p : List Int} (h : ∀ x ∈ p, 0 < x) : absL p = p := by
  unfold absL
  rw [show p.map absI = p.map id from List.map_congr_left fun x hx => by have := h x hx; rw [absI_eq]; simp; omega, List.map_id]
theorem signN_withS {p : List Int} (h : ∀ x ∈ p, 0 < x) (b : Nat) : signN (withS p b) = b % 2 ^ p.length := by
  induction p with
  | nil => simp [signN, withS, Nat.mod_one]
  | cons x p ih =>
    have hx := h x (by simp)
    have ih := ih (fun y hy => h y (by simp [hy]))
    simp only [signN, withS, withS_length, ih, List.length_cons]
    rw [Nat.pow_succ, Nat.mod_mul]
    by_cases hb : b / 2 ^ p.length % 2 = 1
    · rw [if_pos hb, if_pos (by omega), hb]; omega
    · rw [if_neg hb, if_neg (by omega)]
      have : b / 2 ^ p.length % 2 = 0 := by omega
      rw [this]; omega
theorem withS_mod (p : List Int) (b c : Nat) (h : b % 2 ^ p.length = c % 2 ^ p.length) : withS p b = withS p c := by
  induction p with
  | nil => rfl
  | cons x p ih =>
    have hp : 0 < 2 ^ p.length := Nat.two_pow_pos _
    simp only [List.length_cons, Nat.pow_succ] at h
    rw [Nat.mod_mul, Nat.mod_mul] at h
    have h1 := Nat.mod_lt b hp
    have h2 := Nat.mod_lt c hp
    have e1 : b / 2 ^ p.length % 2 = c / 2 ^ p.length % 2 := by
      rcases Nat.mod_two_eq_zero_or_one (b / 2 ^ p.length) with hb | hb <;> rcases Nat.mod_two_eq_zero_or_one (c / 2 ^ p.length) with hc | hc <;> rw [hb, hc] at h ⊢ <;> omega
    have e2 : b % 2 ^ p.length = c % 2 ^ p.length := by rw [e1] at h; omega
    simp only [withS, e1, ih e2]
theorem withS_absL {q : List Int} (h : ∀ x ∈ q, x ≠ 0) : withS (absL q) (signN q) = q := by
  induction q with
  | nil => rfl
  | cons x p ih =>
    have hx := h x (by simp)
    have ih := ih (fun y hy => h y (by simp [hy]))
    have hl := signN_lt p
    have e : absL (x :: p) = absI x :: absL p := rfl
    rw [e]
    simp only [withS, absL_length]
    have hlow : withS (absL p) (signN (x :: p)) = p := by
      rw [withS_mod (absL p) (signN (x :: p)) (signN p) (by
        rw [absL_length]
        simp only [signN]
        split
        · rw [Nat.add_mod_left]
        · rw [Nat.zero_add])]
      exact ih
    rw [hlow]
    congr 1
    have hp : 0 < 2 ^ p.length := Nat.two_pow_pos _
    by_cases hn : x < 0
    · have hv : signN (x :: p) / 2 ^ p.length = 1 := by
        simp only [signN]
        rw [if_pos hn, Nat.add_div_left _ hp, Nat.div_eq_of_lt hl]
      rw [hv, if_pos rfl, absI_eq]
      omega
    · have hv : signN (x :: p) / 2 ^ p.length = 0 := by
        simp only [signN]
        rw [if_neg hn, Nat.zero_add, Nat.div_eq_of_lt hl]
      rw [hv, if_neg (by omega), absI_eq]
      omega
def brank (q : List Int) : Nat := rankL (absL q) * 2 ^ q.length + signN q
def bun (m r : Nat) : List Int := withS (unrank m (r / 2 ^ m)) (r % 2 ^ m)
def ball (m : Nat) : List (List Int) := (List.range (fact m * 2 ^ m)).map (bun m)
theorem BSt.abs {m : Nat} {q : List Int} (h : BSt m q) : St m (absL q) := ⟨h.1, by rw [absL_length]; exact h.2⟩
theorem bun_brank {m : Nat} (h1 : 1 ≤ m) (h9 : m ≤ 9) {q : List Int} (h : BSt m q) : bun m (brank q) = q := by
  have hl := signN_lt q
  rw [h.2] at hl
  unfold bun brank
  rw [h.2, Nat.mul_comm, Nat.mul_add_div (Nat.two_pow_pos _), Nat.div_eq_of_lt hl, Nat.add_zero, Nat.mul_add_mod, Nat.mod_eq_of_lt hl, unrank_rank h1 h9 h.abs]
  exact withS_absL fun x hx => (h.1.bd hx).2.2
theorem brank_lt {m : Nat} {q : List Int} (h : BSt m q) : brank q < fact m * 2 ^ m := by
  have hl := signN_lt q
  have hr := rank_lt h.abs
  unfold brank
  rw [h.2] at hl ⊢
  have := Nat.mul_le_mul_right (2 ^ m) hr
  rw [Nat.succ_mul] at this
  omega
theorem bun_st {m r : Nat} (h1 : 1 ≤ m) (h9 : m ≤ 9) (h : r < fact m * 2 ^ m) : BSt m (bun m r) := by
  have hu := unrank_st h1 h9 (r := r / 2 ^ m) ((Nat.div_lt_iff_lt_mul (Nat.two_pow_pos _)).2 h)
  have hp : absL (unrank m (r / 2 ^ m)) = unrank m (r / 2 ^ m) := absL_pos fun x hx => by have := hu.1.2.2.1 x hx; omega
  refine ⟨?_, by unfold bun; rw [withS_length]; exact hu.2⟩
  unfold Burnt bun
  rw [absL_withS, hp]
  exact hu.1
theorem brank_bun {m r : Nat} (h1 : 1 ≤ m) (h9 : m ≤ 9) (h : r < fact m * 2 ^ m) : brank (bun m r) = r := by
  have hr : r / 2 ^ m < fact m := (Nat.div_lt_iff_lt_mul (Nat.two_pow_pos _)).2 h
  have hu := unrank_st h1 h9 hr
  have hpos : ∀ x ∈ unrank m (r / 2 ^ m), 0 < x := fun x hx => by have := hu.1.2.2.1 x hx; omega
  unfold brank
  rw [(bun_st h1 h9 h).2]
  unfold bun
  rw [absL_withS, absL_pos hpos, signN_withS hpos, rank_unrank hr, hu.2, Nat.mod_mod, Nat.mul_comm]
  exact Nat.div_add_mod r (2 ^ m)
theorem ball_length (m : Nat) : (ball m).length = fact m * 2 ^ m := by simp [ball]
theorem mem_ball {m : Nat} (h1 : 1 ≤ m) (h9 : m ≤ 9) {q : List Int} : q ∈ ball m ↔ BSt m q := by
  unfold ball
  rw [List.mem_map]
  constructor
  · rintro ⟨r, hr, rfl⟩; exact bun_st h1 h9 (List.mem_range.1 hr)
  · intro h; exact ⟨brank q, List.mem_range.2 (brank_lt h), bun_brank h1 h9 h⟩
theorem ball_nodup {m : Nat} (h1 : 1 ≤ m) (h9 : m ≤ 9) : (ball m).Nodup := by
  refine List.pairwise_map.2 (List.Pairwise.imp_of_mem (fun {a b} ha hb hab e => ?_) List.nodup_range)
  have h := congrArg brank e
  rw [brank_bun h1 h9 (List.mem_range.1 ha), brank_bun h1 h9 (List.mem_range.1 hb)] at h
  exact hab h
theorem brank_home (m : Nat) : brank (ramp 1 m) = 0 := by
  unfold brank
  rw [ramp_abs, rankL_ramp, Nat.zero_mul, Nat.zero_add]
  have : ∀ l : List Int, (∀ x ∈ l, 0 < x) → signN l = 0 := by
    intro l
    induction l with
    | nil => intro _; rfl
    | cons x l ih => intro h; simp only [signN]; rw [if_neg (by have := h x (by simp); omega), ih (fun y hy => h y (by simp [hy]))]
  exact this _ fun x hx => by have := mem_ramp.1 hx; omega

/-- the search among burnt stacks of m -/
def bG (m : Nat) : Gm where
  ks := (List.range m).map (· + 1)
  mv := bturnL
  bk := fun k => k
  St := BSt m
  len := m
  dm := 3 * m
  all := ball m
theorem mem_bks {m k : Nat} : k ∈ (bG m).ks ↔ 1 ≤ k ∧ k ≤ m := by
  simp only [bG, List.mem_map, List.mem_range]
  constructor
  · rintro ⟨a, h, rfl⟩; omega
  · intro h; exact ⟨k - 1, by omega, by omega⟩
theorem bks_length (m : Nat) : (bG m).ks.length = m := by simp [bG]
theorem bcons {m d k : Nat} {s t : List Int} (hs : s.length = m) (h1 : 1 ≤ k) (h2 : k ≤ m) (h : 0 < gways (bG m) d (bturnL s k) t) : 0 < gways (bG m) (d + 1) s t :=
  gways_cons0 (n := bG m) (mem_bks.2 ⟨h1, h2⟩) (bturnL_bturnL s k (by omega)) h
theorem get_opt {s : List Int} {i : Nat} (h : i < s.length) : s[i]? = some s[i] := List.getElem?_eq_getElem h
theorem abs_inj {q : List Int} (h : Burnt q) {i j : Nat} (hi : i < q.length) (hj : j < q.length) (e : absI q[i] = absI q[j]) : i = j := by
  have hn := h.2.2.2
  have hi' : i < (absL q).length := by rw [absL_length]; exact hi
  have hj' : j < (absL q).length := by rw [absL_length]; exact hj
  rcases Nat.lt_trichotomy i j with hlt | hlt | hlt
  · exact absurd (by simpa [absL] using e) (List.pairwise_iff_getElem.1 hn i j hi' hj' hlt)
  · exact hlt
  · exact absurd (by simpa [absL] using e.symm) (List.pairwise_iff_getElem.1 hn j i hj' hi' hlt)
theorem bsortable (n m : Nat) (hm : m ≤ n) (s t : List Int) (hs : BSt n s) (ht : BSt n t) (hp : ∀ j, m ≤ j → j < n → s[j]? = t[j]?) : ∃ d, d ≤ 3 * m ∧ 0 < gways (bG n) d s t := by
  induction m generalizing s with
  | zero =>
    refine ⟨0, Nat.le_refl _, ?_⟩
    have : s = t := by
      apply List.ext_getElem?
      intro j
      by_cases hj : j < n
      · exact hp j (Nat.zero_le _) hj
      · rw [List.getElem?_eq_none (by rw [hs.2]; omega), List.getElem?_eq_none (by rw [ht.2]; omega)]
    rw [gways_zero, if_pos this]
    omega
  | succ m ih =>
    have hsl := hs.2
    have htl := ht.2
    -- the last turn: the pancake is on top, the other side up
    have key : ∀ u : List Int, BSt n u → u[0]? = (t[m]?).map (fun x => -x) → (∀ j, m + 1 ≤ j → j < n → u[j]? = t[j]?) → ∃ d, d ≤ 3 * m + 1 ∧ 0 < gways (bG n) d u t := by
      intro u hu h0 huj
      have hul := hu.2
      obtain ⟨d, hd, hw⟩ := ih (by omega) (bturnL u (m + 1)) (hu.turn _) (fun j h1 h2 => by
        by_cases ej : j = m
        · subst ej
          rw [bturnL_lt u _ _ (by omega) (by omega), show j + 1 - 1 - j = 0 by omega, h0]
          cases t[j]? <;> simp
        · rw [bturnL_ge u _ _ (by omega) (by omega)]
          exact huj j (by omega) h2)
      exact ⟨d + 1, by omega, bcons hul (by omega) (by omega) hw⟩
    -- .. or this side up
    have key2 : ∀ u : List Int, BSt n u → (u[0]? = (t[m]?).map (fun x => -x) ∨ u[0]? = t[m]?) → (∀ j, m + 1 ≤ j → j < n → u[j]? = t[j]?) → ∃ d, d ≤ 3 * m + 2 ∧ 0 < gways (bG n) d u t := by
      intro u hu h0 huj
      have hul := hu.2
      rcases h0 with h0 | h0
      · obtain ⟨d, hd, hw⟩ := key u hu h0 huj
        exact ⟨d, by omega, hw⟩
      · obtain ⟨d, hd, hw⟩ := key (bturnL u 1) (hu.turn 1) (by rw [bturnL_lt u 1 0 (by omega) (by omega)]; simp only [Nat.sub_self]; rw [h0]) (fun j h1 h2 => by
          rw [bturnL_ge u 1 j (by omega) (by omega)]; exact huj j h1 h2)
        exact ⟨d + 1, by omega, bcons hul (by omega) (by omega) hw⟩
    have hmt : m < t.length := by omega
    by_cases e0 : s[m]? = t[m]?
    · obtain ⟨d, hd, hw⟩ := ih (by omega) s hs (fun j h1 h2 => by
        by_cases ej : j = m
        · subst ej; exact e0
        · exact hp j (by omega) h2)
      exact ⟨d, by omega, hw⟩
    · -- where it is
      have hab := ht.1.abs (List.getElem_mem hmt)
      have hmem : absI t[m] ∈ absL s := mem_of_good hs.1 hab.1 (by rw [absL_length, hsl]; omega)
      obtain ⟨i, hi, he⟩ := List.getElem_of_mem hmem
      have hil : i < s.length := by rw [absL_length] at hi; exact hi
      have he' : absI s[i] = absI t[m] := by simpa [absL] using he
      have him : i ≤ m := by
        by_cases h : i ≤ m
        · exact h
        · have h1 := hp i (by omega) (by omega)
          rw [get_opt hil, get_opt (show i < t.length by omega), Option.some.injEq] at h1
          rw [h1] at he'
          have := abs_inj ht.1 (show i < t.length by omega) hmt he'
          omega
      have hsv : s[i] = t[m] ∨ s[i] = -t[m] := by
        rw [absI_eq, absI_eq] at he'
        omega
      by_cases i0 : i = 0
      · subst i0
        obtain ⟨d, hd, hw⟩ := key2 s hs (by
          rw [get_opt hil, get_opt hmt]
          rcases hsv with h | h
          · right; rw [h]
          · left; rw [h]; rfl) hp
        exact ⟨d, by omega, hw⟩
      · obtain ⟨d, hd, hw⟩ := key2 (bturnL s (i + 1)) (hs.turn _) (by
          rw [bturnL_lt s (i + 1) 0 (by omega) (by omega), show i + 1 - 1 - 0 = i by omega, get_opt hil, get_opt hmt]
          rcases hsv with h | h
          · left; rw [h]
          · right; rw [h]; simp) (fun j h1 h2 => by rw [bturnL_ge s _ _ (by omega) (by omega)]; exact hp j h1 h2)
        exact ⟨d + 1, by omega, bcons hsl (by omega) (by omega) hw⟩
theorem bG_ok {m : Nat} (h1 : 1 ≤ m) (h5 : m ≤ 5) : GOk (bG m) where
  len9 := by show m ≤ 9; omega
  length := fun q h => h.2
  small := fun q h x hx => by have := h.1.bd hx; omega
  mem := fun q => mem_ball h1 (by omega)
  nodup := ball_nodup h1 (by omega)
  total := by
    show (ball m).length ≤ 362880
    rw [ball_length]
    match m, h1, h5 with
    | 1, _, _ => decide
    | 2, _, _ => decide
    | 3, _, _ => decide
    | 4, _, _ => decide
    | 5, _, _ => decide
  mvSt := fun q k h _ => h.turn k
  bkIn := fun k h => h
  bkBk := fun k _ => rfl
  mvBk := fun q k h hk => bturnL_bturnL q k (by rw [h.2]; exact (mem_bks.1 hk).2)
  rising := by
    show ((List.range m).map (· + 1)).Pairwise (· < ·)
    rw [List.pairwise_map]
    exact List.pairwise_lt_range.imp (by intro a b hab; omega)
  reach := fun s t hs ht => bsortable m m (Nat.le_refl _) s t hs ht (fun j _ _ => by omega)
  few := by
    rw [bks_length]
    show m ^ (3 * m + 1) ≤ _
    match m, h1, h5 with
    | 1, _, _ => decide
    | 2, _, _ => decide
    | 3, _, _ => decide
    | 4, _, _ => decide
    | 5, _, _ => decide
  kpos := fun k hk => by have := mem_bks.1 hk; omega
  dm30 := by show 3 * m ≤ 1000; omega

end Go.Pan

namespace Go.Pan
/-- the burnt stacks whose distances are searched -/
def bfewB (xs : List Int) : Bool := burntB xs && inB (xs.length : Int) 1 5
theorem bfewB_iff {xs : List Int} : bfewB xs = true ↔ BSt xs.length xs ∧ 1 ≤ xs.length ∧ xs.length ≤ 5 := by
  rw [bfewB, Bool.and_eq_true, burntB_iff, inB_iff]
  constructor
  · rintro ⟨h1, h2, h3⟩; exact ⟨⟨h1, rfl⟩, by omega, by omega⟩
  · rintro ⟨⟨h1, _⟩, h2, h3⟩; exact ⟨h1, by omega, by omega⟩
theorem bks_ramp (m : Nat) : (bG m).ks.map (fun (j : Nat) => (j : Int)) = ramp 1 m := by
  simp only [bG, ramp, List.map_map]
  exact List.map_congr_left fun i _ => by simp; omega
def bfar (xs : List Int) : Nat := gfar (bG xs.length) xs (ramp 1 xs.length)
theorem bfar_le {xs : List Int} (h : bfewB xs = true) : bfar xs ≤ 15 := by
  obtain ⟨h1, h2, h3⟩ := bfewB_iff.1 h
  have := (gfar_spec (bG_ok h2 h3) h1 (BSt.ramp h2 (by omega))).2.1
  have e : (bG xs.length).dm = 3 * xs.length := rfl
  unfold bfar
  omega
def mBurntDistance (xs : List Int) : Int := if bfewB xs = true then (bfar xs : Int) else 0
def mLeastBurnt (xs : List Int) : List Int := if bfewB xs = true then ggoL (bG xs.length) (ramp 1 xs.length) (bfar xs) xs else []
theorem len_mLeastBurnt (xs : List Int) : (mLeastBurnt xs).length ≤ 1048576 := by
  unfold mLeastBurnt
  split
  · rename_i h
    have := bfar_le h
    rw [ggoL_length]; omega
  · simp
def bbyL (m : Nat) : List Int := gbyL (bG m) (ramp 1 m)
def mCountBurntBy (n : Int) : List Int := if inB n 1 5 = true then bbyL n.toNat else []
theorem inB_five {n : Int} (h : inB n 1 5 = true) : ∃ m : Nat, n = (m : Int) ∧ 1 ≤ m ∧ m ≤ 5 := by
  have := inB_iff.1 h
  exact ⟨n.toNat, by omega, by omega, by omega⟩
theorem len_mCountBurntBy (n : Int) : (mCountBurntBy n).length ≤ 1048576 := by
  unfold mCountBurntBy
  split
  · rename_i h
    obtain ⟨m, rfl, h1, h5⟩ := inB_five h
    rw [Int.toNat_natCast]
    unfold bbyL
    have := gecc_le (bG_ok h1 h5) (BSt.ramp h1 (by omega))
    have e : (bG m).dm = 3 * m := rfl
    rw [gbyL_length]; omega
  · simp

end Go.Pan

namespace Go.Pan

/-- a board: places 0 .. N - 1, moves lo .. hi - 1, how far each place is from 0 -/
structure Bd where
  N : Nat
  lo : Nat
  hi : Nat
  nb : Nat → Nat → Nat
  d : Nat → Nat
structure BOk (g : Bd) : Prop where
  pos : 0 < g.N
  lt : ∀ r k, r < g.N → g.lo ≤ k → k < g.hi → g.nb r k < g.N
  d0 : g.d 0 = 0
  dz : ∀ r, r < g.N → g.d r = 0 → r = 0
  step : ∀ r k, r < g.N → g.lo ≤ k → k < g.hi → g.d (g.nb r k) ≤ g.d r + 1
  prev : ∀ r e, r < g.N → g.d r = e + 1 → ∃ y k, y < g.N ∧ g.lo ≤ k ∧ k < g.hi ∧ g.nb y k = r ∧ g.d y = e

/-- the queue before the number p of it is looked at -/
structure SQ (g : Bd) (Q : List Nat) (p : Nat) : Prop where
  lt : ∀ r ∈ Q, r < g.N
  nodup : Q.Nodup
  head : Q[0]? = some 0
  sorted : ∀ i j a b : Nat, i ≤ j → Q[i]? = some a → Q[j]? = some b → g.d a ≤ g.d b
  closed : ∀ i a : Nat, i < p → Q[i]? = some a → ∀ k, g.lo ≤ k → k < g.hi → g.nb a k ∈ Q
  top : ∀ x : Nat, Q[p]? = some x → ∀ r ∈ Q, g.d r ≤ g.d x + 1
  hp : p ≤ Q.length
/-- .. the number x at the place p being looked at, the moves below k having been made -/
structure SI (g : Bd) (Q : List Nat) (p x k : Nat) : Prop extends SQ g Q p where
  cur : Q[p]? = some x
  done : ∀ k', g.lo ≤ k' → k' < k → k' < g.hi → g.nb x k' ∈ Q

section
variable {g : Bd} {Q : List Nat} {p x k : Nat}
theorem SQ.start (hg : BOk g) : SQ g [0] 0 := by
  refine ⟨fun r hr => ?_, by simp, rfl, fun i j a b _ ha hb => ?_, fun i a h => by omega, fun x hx r hr => ?_, by simp⟩
  · simp at hr; subst hr; exact hg.pos
  · have h1 : i < 1 := (List.getElem?_eq_some_iff.1 ha).1
    have h2 : j < 1 := (List.getElem?_eq_some_iff.1 hb).1
    obtain rfl : i = 0 := by omega
    obtain rfl : j = 0 := by omega
    rw [ha] at hb
    cases hb
    exact Nat.le_refl _
  · simp at hx hr
    subst hx; subst hr
    omega
theorem SQ.length_le (h : SQ g Q p) : Q.length ≤ g.N := by
  have h1 : (Q.map fun r : Nat => (r : Int)).Nodup := List.pairwise_map.2 (h.nodup.imp fun {a b} hab e => hab (by omega))
  have h2 := length_le_of_nodup_subset (Q.map fun r : Nat => (r : Int)) (ramp 0 g.N) h1 (fun y hy => by
    simp only [List.mem_map] at hy
    obtain ⟨r, hr, rfl⟩ := hy
    have := h.lt r hr
    exact mem_ramp.2 ⟨by omega, by omega⟩)
  rw [List.length_map, ramp_length] at h2
  exact h2
theorem SQ.inner (h : SQ g Q p) (hx : Q[p]? = some x) : SI g Q p x g.lo := ⟨h, hx, fun k' h1 h2 => by omega⟩
/-- what is as near as the one that is looked at has been found -/
theorem SQ.low (hg : BOk g) (h : SQ g Q p) (hx : Q[p]? = some x) : ∀ d r, r < g.N → g.d r = d → d ≤ g.d x → r ∈ Q
  | 0, r, hr, hd, _ => by
    obtain rfl := hg.dz r hr hd
    exact List.mem_of_getElem? h.head
  | d + 1, r, hr, hd, hle => by
    obtain ⟨y, k, hy, k1, k2, e, hdy⟩ := hg.prev r d hr hd
    have hm := SQ.low hg h hx d y hy hdy (by omega)
    obtain ⟨i, hi, ei⟩ := List.getElem_of_mem hm
    have ei' : Q[i]? = some y := by rw [List.getElem?_eq_getElem hi, ei]
    have hip : i < p := by
      by_cases hip : i < p
      · exact hip
      · have := h.sorted p i x _ (by omega) hx ei'
        omega
    have := h.closed i _ hip ei' k k1 k2
    rwa [e] at this
theorem SI.next_old (h : SI g Q p x k) (ht : g.nb x k ∈ Q) : SI g Q p x (k + 1) :=
  ⟨h.toSQ, h.cur, fun k' h1 h2 h3 => by
    by_cases e : k' = k
    · subst e; exact ht
    · exact h.done k' h1 (by omega) h3⟩
theorem SI.far_new (hg : BOk g) (h : SI g Q p x k) (k1 : g.lo ≤ k) (k2 : k < g.hi) (ht : g.nb x k ∉ Q) : g.d (g.nb x k) = g.d x + 1 := by
  have hxl := h.lt x (List.mem_of_getElem? h.cur)
  have h1 := hg.step x k hxl k1 k2
  have h2 : ¬ g.d (g.nb x k) ≤ g.d x := fun hle => ht (h.toSQ.low hg h.cur _ _ (hg.lt x k hxl k1 k2) rfl hle)
  omega
theorem SI.next_new (hg : BOk g) (h : SI g Q p x k) (k1 : g.lo ≤ k) (k2 : k < g.hi) (ht : g.nb x k ∉ Q) : SI g (Q ++ [g.nb x k]) p x (k + 1) := by
  have hxl := h.lt x (List.mem_of_getElem? h.cur)
  have hd := h.far_new hg k1 k2 ht
  have hpl : p < Q.length := (List.getElem?_eq_some_iff.1 h.cur).1
  have hget : ∀ i a, (Q ++ [g.nb x k])[i]? = some a → (i < Q.length ∧ Q[i]? = some a) ∨ (i = Q.length ∧ a = g.nb x k) := by
    intro i a hi
    by_cases hl : i < Q.length
    · exact .inl ⟨hl, by rwa [List.getElem?_append_left hl] at hi⟩
    · have h0 := (List.getElem?_eq_some_iff.1 hi).1
      rw [List.getElem?_append_right (by omega)] at hi
      simp at h0
      have e : i = Q.length := by omega
      subst e
      simp at hi
      exact .inr ⟨rfl, hi.symm⟩
  refine ⟨⟨fun r hr => ?_, ?_, ?_, ?_, ?_, ?_, by simp; omega⟩, ?_, ?_⟩
  · rcases List.mem_append.1 hr with hr | hr
    · exact h.lt r hr
    · simp at hr; subst hr; exact hg.lt x k hxl k1 k2
  · refine List.nodup_append.2 ⟨h.nodup, by simp, fun a ha b hb e => ?_⟩
    simp at hb
    subst hb
    subst e
    exact ht ha
  · rw [List.getElem?_append_left (by omega)]; exact h.head
  · intro i j a b hij ha hb
    rcases hget j b hb with ⟨hj, hb'⟩ | ⟨hj, rfl⟩
    · rcases hget i a ha with ⟨hi, ha'⟩ | ⟨hi, rfl⟩
      · exact h.sorted i j a b hij ha' hb'
      · omega
    · rcases hget i a ha with ⟨hi, ha'⟩ | ⟨hi, rfl⟩
      · have := h.top x h.cur a (List.mem_of_getElem? ha')
        omega
      · exact Nat.le_refl _
  · intro i a hi ha k' hk1 hk2
    rcases hget i a ha with ⟨hi', ha'⟩ | ⟨hi', rfl⟩
    · exact List.mem_append_left _ (h.closed i a hi ha' k' hk1 hk2)
    · omega
  · intro y hy r hr
    rw [List.getElem?_append_left hpl, h.cur] at hy
    cases hy
    rcases List.mem_append.1 hr with hr | hr
    · exact h.top x h.cur r hr
    · simp at hr; subst hr; omega
  · rw [List.getElem?_append_left hpl]; exact h.cur
  · intro k' h1 h2 h3
    by_cases e : k' = k
    · subst e; exact List.mem_append_right _ (by simp)
    · exact List.mem_append_left _ (h.done k' h1 (by omega) h3)
theorem SI.next (h : SI g Q p x k) (hk : g.hi ≤ k) : SQ g Q (p + 1) := by
  have hpl : p < Q.length := (List.getElem?_eq_some_iff.1 h.cur).1
  refine ⟨h.lt, h.nodup, h.head, h.sorted, fun i a hi ha k' h1 h2 => ?_, fun y hy r hr => ?_, hpl⟩
  · by_cases e : i = p
    · subst e
      rw [h.cur] at ha
      cases ha
      exact h.done k' h1 (by omega) h2
    · exact h.closed i a (by omega) ha k' h1 h2
  · have h1 := h.sorted p (p + 1) x y (by omega) h.cur hy
    have h2 := h.top x h.cur r hr
    omega
theorem SQ.all (hg : BOk g) (h : SQ g Q Q.length) : ∀ d r, r < g.N → g.d r = d → r ∈ Q
  | 0, r, hr, hd => by
    obtain rfl := hg.dz r hr hd
    exact List.mem_of_getElem? h.head
  | d + 1, r, hr, hd => by
    obtain ⟨y, k, hy, k1, k2, e, hdy⟩ := hg.prev r d hr hd
    have hm := SQ.all hg h d y hy hdy
    obtain ⟨i, hi, ei⟩ := List.getElem_of_mem hm
    have := h.closed i _ hi (by rw [List.getElem?_eq_getElem hi, ei]) k k1 k2
    rwa [e] at this
end

/-- the distances found -/
def sF (g : Bd) (Q : List Nat) : List Int := (List.range g.N).map fun r => if r ∈ Q then (g.d r : Int) else -1
/-- what is known of the places found -/
def sX (g : Bd) (u : Nat → List Int) (Q : List Nat) : List (List Int) := (List.range g.N).map fun r => if r ∈ Q then u r else []
def sFar (g : Bd) : List Int := (List.range g.N).map fun r => (g.d r : Int)
def sAll (g : Bd) (u : Nat → List Int) : List (List Int) := (List.range g.N).map u
section
variable {g : Bd} {Q : List Nat} {u : Nat → List Int}
theorem sF_length (g : Bd) (Q : List Nat) : (sF g Q).length = g.N := by simp [sF]
theorem sX_length (g : Bd) (u : Nat → List Int) (Q : List Nat) : (sX g u Q).length = g.N := by simp [sX]
theorem sFar_length (g : Bd) : (sFar g).length = g.N := by simp [sFar]
theorem sAll_length (g : Bd) (u : Nat → List Int) : (sAll g u).length = g.N := by simp [sAll]
theorem sF_get {r : Nat} (h : r < g.N) : (sF g Q)[r]'(by rw [sF_length]; exact h) = if r ∈ Q then (g.d r : Int) else -1 := by simp [sF]
theorem sX_get {r : Nat} (h : r < g.N) : (sX g u Q)[r]'(by rw [sX_length]; exact h) = if r ∈ Q then u r else [] := by simp [sX]
theorem sFar_get {r : Nat} (h : r < g.N) : (sFar g)[r]? = some (g.d r : Int) := by simp [sFar, h]
theorem sAll_get {r : Nat} (h : r < g.N) : (sAll g u)[r]? = some (u r) := by simp [sAll, h]
theorem sF_snoc (g : Bd) (Q : List Nat) (t : Nat) : (sF g Q).set t (g.d t : Int) = sF g (Q ++ [t]) := by
  apply List.ext_getElem (by simp [sF])
  intro i h1 h2
  simp only [sF, List.getElem_set, List.getElem_map, List.getElem_range, List.mem_append, List.mem_singleton]
  by_cases e : t = i
  · subst e; simp
  · rw [if_neg e]
    have : (i = t) = False := by simp; omega
    simp [this]
theorem sX_snoc (g : Bd) (u : Nat → List Int) (Q : List Nat) (t : Nat) : (sX g u Q).set t (u t) = sX g u (Q ++ [t]) := by
  apply List.ext_getElem (by simp [sX])
  intro i h1 h2
  simp only [sX, List.getElem_set, List.getElem_map, List.getElem_range, List.mem_append, List.mem_singleton]
  by_cases e : t = i
  · subst e; simp
  · rw [if_neg e]
    have : (i = t) = False := by simp; omega
    simp [this]
theorem SQ.far_all (hg : BOk g) (h : SQ g Q Q.length) : sF g Q = sFar g := by
  unfold sF sFar
  refine List.map_congr_left fun r hr => ?_
  rw [if_pos (h.all hg _ r (List.mem_range.1 hr) rfl)]
theorem SQ.st_all (hg : BOk g) (h : SQ g Q Q.length) : sX g u Q = sAll g u := by
  unfold sX sAll
  refine List.map_congr_left fun r hr => ?_
  rw [if_pos (h.all hg _ r (List.mem_range.1 hr) rfl)]
theorem sF_start (hg : BOk g) : (List.replicate g.N (-1 : Int)).set 0 0 = sF g [0] := by
  apply List.ext_getElem (by simp [sF])
  intro i h1 h2
  simp only [sF, List.getElem_set, List.getElem_replicate, List.getElem_map, List.getElem_range, List.mem_singleton]
  by_cases e : i = 0
  · subst e; rw [if_pos rfl, if_pos rfl, hg.d0]; rfl
  · rw [if_neg (by omega), if_neg e]
theorem sX_start (_hg : BOk g) : (List.replicate g.N ([] : List Int)).set 0 (u 0) = sX g u [0] := by
  apply List.ext_getElem (by simp [sX])
  intro i h1 h2
  simp only [sX, List.getElem_set, List.getElem_replicate, List.getElem_map, List.getElem_range, List.mem_singleton]
  by_cases e : i = 0
  · subst e; simp
  · rw [if_neg (by omega), if_neg e]
end
/-- the first k distances laid as -1 -/
def sNeg (N k : Nat) : List Int := List.replicate k (-1) ++ List.replicate (N - k) 0
theorem sNeg_zero (N : Nat) : sNeg N 0 = List.replicate N 0 := by simp [sNeg]
theorem sNeg_length {N k : Nat} (h : k ≤ N) : (sNeg N k).length = N := by simp [sNeg]; omega
theorem sNeg_step (N k : Nat) (h : k < N) : (sNeg N k).set k (-1) = sNeg N (k + 1) := by
  apply List.ext_getElem (by simp [sNeg]; omega)
  intro i h1 h2
  simp only [sNeg, List.getElem_set, List.getElem_append, List.getElem_replicate, List.length_replicate]
  by_cases e : k = i
  · subst e; simp
  · rw [if_neg e]
    by_cases h3 : i < k
    · rw [dif_pos h3, dif_pos (by omega)]
    · rw [dif_neg h3, dif_neg (by omega)]
theorem sNeg_all (N : Nat) : sNeg N N = List.replicate N (-1) := by simp [sNeg]

end Go.Pan

namespace Go.Pan

/-- the board of a game, its stacks told by numbers -/
def gBd (n : Gm) (N : Nat) (rk : List Int → Nat) (un : Nat → List Int) (home : List Int) (lo hi : Nat) : Bd where
  N := N
  lo := lo
  hi := hi
  nb := fun r k => rk (n.mv (un r) k)
  d := fun r => gfar n home (un r)
theorem gBd_ok {n : Gm} (hn : GOk n) {N : Nat} {rk : List Int → Nat} {un : Nat → List Int} {home : List Int} {lo hi : Nat}
    (hks : ∀ k, k ∈ n.ks ↔ lo ≤ k ∧ k < hi) (hlt : ∀ q, n.St q → rk q < N) (hst : ∀ r, r < N → n.St (un r)) (hur : ∀ q, n.St q → un (rk q) = q) (hru : ∀ r, r < N → rk (un r) = r)
    (hh : n.St home) (h0 : rk home = 0) : BOk (gBd n N rk un home lo hi) where
  pos := Nat.lt_of_le_of_lt (Nat.zero_le _) (hlt home hh)
  lt := fun r k hr k1 k2 => hlt _ (hn.mvSt _ _ (hst r hr) ((hks k).2 ⟨k1, k2⟩))
  d0 := by
    show gfar n home (un 0) = 0
    have e : un 0 = home := by rw [← h0]; exact hur home hh
    rw [e]
    exact (gfar_zero hn hh hh).2 rfl
  dz := fun r hr hd => by
    have e : home = un r := (gfar_zero hn hh (hst r hr)).1 hd
    rw [← hru r hr, ← e, h0]
  step := fun r k hr k1 k2 => by
    show gfar n home (un (rk (n.mv (un r) k))) ≤ gfar n home (un r) + 1
    have hk := (hks k).2 ⟨k1, k2⟩
    rw [hur _ (hn.mvSt _ _ (hst r hr) hk)]
    exact (gfar_mv hn hk hh (hst r hr)).1
  prev := fun r e hr hd => by
    obtain ⟨k, hk, he⟩ := gfar_prev hn hh (hst r hr) hd
    have hp := hn.prSt (hst r hr) hk
    refine ⟨rk (gpr n (un r) k), k, hlt _ hp, ((hks k).1 hk).1, ((hks k).1 hk).2, ?_, ?_⟩
    · show rk (n.mv (un (rk (gpr n (un r) k))) k) = r
      rw [hur _ hp, mv_pr hn (hst r hr) hk, hru r hr]
    · show gfar n home (un (rk (gpr n (un r) k))) = e
      rw [hur _ hp]
      exact he

/-- the board of burnt stacks of m -/
def bBd (m : Nat) : Bd := gBd (bG m) (fact m * 2 ^ m) brank (bun m) (ramp 1 m) 1 (m + 1)
theorem bBd_ok {m : Nat} (h1 : 1 ≤ m) (h5 : m ≤ 5) : BOk (bBd m) :=
  gBd_ok (bG_ok h1 h5) (fun k => by rw [mem_bks]; omega) (fun q h => brank_lt h) (fun r h => bun_st h1 (by omega) h) (fun q h => bun_brank h1 (by omega) h) (fun r h => brank_bun h1 (by omega) h)
    (BSt.ramp h1 (by omega)) (brank_home m)
theorem bBd_N (m : Nat) : (bBd m).N = fact m * 2 ^ m := rfl
theorem bBd_lo (m : Nat) : (bBd m).lo = 1 := rfl
theorem bBd_hi (m : Nat) : (bBd m).hi = m + 1 := rfl
theorem bBd_d {m : Nat} (h1 : 1 ≤ m) (h5 : m ≤ 5) {q : List Int} (h : BSt m q) : (bBd m).d (brank q) = gfar (bG m) q (ramp 1 m) := by
  show gfar (bG m) (ramp 1 m) (bun m (brank q)) = _
  rw [bun_brank h1 (by omega) h]
  exact gfar_symm (bG_ok h1 h5) (BSt.ramp h1 (by omega)) h
theorem bBd_le {m : Nat} (h1 : 1 ≤ m) (h5 : m ≤ 5) {r : Nat} (h : r < (bBd m).N) : (bBd m).d r ≤ 15 := by
  have := (gfar_spec (bG_ok h1 h5) (BSt.ramp h1 (by omega)) (bun_st h1 (by omega) h)).2.1
  have e : (bG m).dm = 3 * m := rfl
  show gfar (bG m) (ramp 1 m) (bun m r) ≤ 15
  omega
theorem bBd_few {m : Nat} (h5 : m ≤ 5) : (bBd m).N ≤ 3840 := by
  show fact m * 2 ^ m ≤ 3840
  match m, h5 with
  | 0, _ => decide
  | 1, _ => decide
  | 2, _ => decide
  | 3, _ => decide
  | 4, _ => decide
  | 5, _ => decide
theorem ball_un (m : Nat) : ball m = (List.range (bBd m).N).map (bun m) := rfl
theorem bun_zero {m : Nat} (h1 : 1 ≤ m) (h9 : m ≤ 9) : bun m 0 = ramp 1 m := by
  have := bun_brank h1 h9 (BSt.ramp h1 h9)
  rwa [brank_home] at this
theorem bnb_un {m : Nat} (h1 : 1 ≤ m) (h9 : m ≤ 9) {r : Nat} (h : r < (bBd m).N) (k : Nat) : bun m ((bBd m).nb r k) = bturnL (bun m r) k := by
  show bun m (brank (bturnL (bun m r) k)) = _
  exact bun_brank h1 h9 ((bun_st h1 h9 h).turn k)

end Go.Pan

namespace Go.Pan

/-- how many of the first i places are so far, and the counts up to K -/
def dCnt (d : Nat → Nat) (i e : Nat) : Nat := (List.range i).countP fun r => decide (d r = e)
def dLen (d : Nat → Nat) (i : Nat) : Nat := gmaxN ((List.range i).map fun r => d r + 1)
def dOut (d : Nat → Nat) (i K : Nat) : List Int := (List.range K).map fun e => (dCnt d i e : Int)
theorem dOut_length (d : Nat → Nat) (i K : Nat) : (dOut d i K).length = K := by simp [dOut]
theorem dCnt_zero {d : Nat → Nat} {i e : Nat} (h : dLen d i ≤ e) : dCnt d i e = 0 := by
  unfold dCnt
  rw [List.countP_eq_zero]
  intro r hr hd
  have h1 := of_decide_eq_true hd
  have h2 : d r + 1 ≤ dLen d i := le_gmaxN (List.mem_map.2 ⟨r, hr, rfl⟩)
  omega
theorem dOut_grow {d : Nat → Nat} {i K : Nat} (h : dLen d i ≤ K) : dOut d i (K + 1) = dOut d i K ++ [0] := by
  simp [dOut, List.range_succ, dCnt_zero h]
theorem dCnt_succ (d : Nat → Nat) (i e : Nat) : dCnt d (i + 1) e = dCnt d i e + if d i = e then 1 else 0 := by
  simp [dCnt, List.range_succ, List.countP_append, List.countP_cons]
theorem gmaxN_snoc (l : List Nat) (x : Nat) : gmaxN (l ++ [x]) = max (gmaxN l) x := by
  induction l with
  | nil => simp [gmaxN]
  | cons a l ih =>
    simp only [gmaxN, List.cons_append, List.foldr_cons] at ih ⊢
    rw [ih, Nat.max_assoc]
theorem dLen_succ (d : Nat → Nat) (i : Nat) : dLen d (i + 1) = max (dLen d i) (d i + 1) := by
  unfold dLen
  rw [List.range_succ, List.map_append]
  exact gmaxN_snoc _ _
theorem dOut_set {d : Nat → Nat} {i K x : Nat} (hx : d i = x) : (dOut d i K).set x ((dCnt d i x : Int) + 1) = dOut d (i + 1) K := by
  apply List.ext_getElem (by simp [dOut])
  intro j h1 h2
  have hj : j < K := by simpa [dOut] using h2
  simp only [dOut, List.getElem_set, List.getElem_map, List.getElem_range, dCnt_succ, hx]
  by_cases e : x = j
  · subst e; simp
  · simp [e]
theorem dOut_get {d : Nat → Nat} {i K x : Nat} (hK : x < K) : (dOut d i K)[x]'(by rw [dOut_length]; exact hK) = (dCnt d i x : Int) := by simp [dOut]
theorem dCnt_le (d : Nat → Nat) (i e : Nat) : dCnt d i e ≤ i := by
  have h := List.countP_le_length (p := fun r => decide (d r = e)) (l := List.range i)
  simpa [dCnt] using h
theorem dLen_le {d : Nat → Nat} {i M : Nat} (h : ∀ r, r < i → d r ≤ M) : dLen d i ≤ M + 1 := by
  by_cases e : (List.range i).map (fun r => d r + 1) = []
  · unfold dLen; rw [e]; exact Nat.zero_le _
  · obtain ⟨r, hr, he⟩ := List.mem_map.1 (gmaxN_mem e)
    unfold dLen
    rw [← he]
    have := h r (List.mem_range.1 hr)
    omega
theorem gmaxN_succ : ∀ l : List Nat, l ≠ [] → gmaxN (l.map (· + 1)) = gmaxN l + 1 := by
  intro l hl
  induction l with
  | nil => exact absurd rfl hl
  | cons a l ih =>
    by_cases e : l = []
    · subst e; simp [gmaxN]
    · have := ih e
      simp only [gmaxN, List.map_cons, List.foldr_cons] at this ⊢
      rw [this]
      omega
/-- all of them -/
theorem dLen_all {n : Gm} {home : List Int} {N : Nat} {un : Nat → List Int} (ha : n.all = (List.range N).map un) (h0 : 0 < N) : dLen (fun r => gfar n home (un r)) N = gecc n home + 1 := by
  unfold dLen gecc
  rw [ha, List.map_map, ← gmaxN_succ, List.map_map]
  · rfl
  · intro e
    have h3 := congrArg List.length e
    simp at h3
    omega
theorem dCnt_all {n : Gm} (hn : GOk n) {home : List Int} (hh : n.St home) {N : Nat} {un : Nat → List Int} (ha : n.all = (List.range N).map un) (e : Nat) : dCnt (fun r => gfar n home (un r)) N e = gbyN n home e := by
  unfold dCnt gbyN
  rw [ha, List.countP_map]
  refine List.countP_congr fun r hr => ?_
  have hst : n.St (un r) := (hn.mem _).1 (by rw [ha]; exact List.mem_map.2 ⟨r, hr, rfl⟩)
  simp only [Function.comp, decide_eq_true_iff]
  exact (gnearC_pos hn hh hst).symm
theorem dOut_all {n : Gm} (hn : GOk n) {home : List Int} (hh : n.St home) {N : Nat} {un : Nat → List Int} (ha : n.all = (List.range N).map un) : dOut (fun r => gfar n home (un r)) N (gecc n home + 1) = gbyL n home := by
  unfold dOut gbyL
  exact List.map_congr_left fun e _ => by rw [dCnt_all hn hh ha]
theorem bLen_all (m : Nat) : dLen (bBd m).d (bBd m).N = gecc (bG m) (ramp 1 m) + 1 := dLen_all (n := bG m) rfl (Nat.mul_pos (fact_pos m) (Nat.two_pow_pos m))
theorem bOut_all {m : Nat} (h1 : 1 ≤ m) (h5 : m ≤ 5) : dOut (bBd m).d (bBd m).N (gecc (bG m) (ramp 1 m) + 1) = bbyL m := dOut_all (n := bG m) (bG_ok h1 h5) (BSt.ramp h1 (by omega)) rfl

end Go.Pan

namespace Go.Pan
/-- the search among plain stacks of m -/
def pG (m : Nat) : Gm where
  ks := ks m
  mv := turnL
  bk := fun k => k
  St := St m
  len := m
  dm := 2 * m
  all := allS m
theorem pways (m d : Nat) (s t : List Int) : gways (pG m) d s t = ways m d s t := by
  induction d generalizing t with
  | zero => rfl
  | succ d ih =>
    rw [gways_last, ways_last]
    exact sum_congr fun k _ => ih _
theorem pfar (m : Nat) (s t : List Int) : gfar (pG m) s t = far m s t := by
  unfold gfar far
  simp only [pways]
  rfl
theorem pG_ok {m : Nat} (hm : Cnt m) (h7 : m ≤ 7) : GOk (pG m) where
  len9 := hm.le
  length := fun q h => h.2
  small := fun q h x hx => by have := h.1.2.2.1 x hx; have h2 : q.length = m := h.2; omega
  mem := fun q => mem_allS hm.pos hm.le
  nodup := allS_nodup m
  total := by
    show (allS m).length ≤ 362880
    rw [allS_length]
    have h1 := fact_mono hm.le
    have h2 : fact 9 = 362880 := rfl
    omega
  mvSt := fun q k h _ => h.turn k
  bkIn := fun k h => h
  bkBk := fun k _ => rfl
  mvBk := fun q k _ _ => turnL_turnL q k
  rising := by
    show ((List.range (m - 1)).map (· + 2)).Pairwise (· < ·)
    rw [List.pairwise_map]
    exact List.pairwise_lt_range.imp (by intro a b hab; omega)
  reach := fun s t hs ht => by
    obtain ⟨d, h1, h2⟩ := reach hs.1 ht.1 hs.2 ht.2
    exact ⟨d, h1, by rw [pways]; exact h2⟩
  few := by
    show (ks m).length ^ (2 * m + 1) ≤ _
    rw [ks_length]
    match m, h7 with
    | 0, _ => decide
    | 1, _ => decide
    | 2, _ => decide
    | 3, _ => decide
    | 4, _ => decide
    | 5, _ => decide
    | 6, _ => decide
    | 7, _ => decide
  kpos := fun k hk => by have := mem_ks.1 hk; omega
  dm30 := by show 2 * m ≤ 1000; omega
theorem pks_length (m : Nat) : (pG m).ks.length = m - 1 := ks_length m
theorem pks_ramp {m : Nat} (_h1 : 1 ≤ m) : (pG m).ks.map (fun (j : Nat) => (j : Int)) = ramp 2 (m - 1) := by
  simp only [pG, ks, ramp, List.map_map]
  exact List.map_congr_left fun i _ => by simp; omega

end Go.Pan

