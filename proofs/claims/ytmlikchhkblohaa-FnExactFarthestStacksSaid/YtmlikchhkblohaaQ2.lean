import Derived.Test.YtmlikchhkblohaaQ1
import Derived.Test.YtmlikchhkblohaaGE
namespace Go.Pan

-- the search among stacks of which segments are turned
theorem segL_get_lo (xs : List Int) (a b j : Nat) (h : a ≤ b) (hb : b ≤ xs.length) (hj : j < a) : (segL xs a b)[j]? = xs[j]? := by
  unfold segL
  rw [List.append_assoc, List.getElem?_append_left (by simp; omega), List.getElem?_take, if_pos hj]
theorem segL_get_mid (xs : List Int) (a b j : Nat) (h : a ≤ b) (hb : b ≤ xs.length) (h1 : a ≤ j) (h2 : j < b) : (segL xs a b)[j]? = xs[a + (b - 1 - j)]? := by
  unfold segL
  have hl : (xs.take a).length = a := by simp; omega
  have hm : ((xs.drop a).take (b - a)).length = b - a := by simp; omega
  rw [List.append_assoc, List.getElem?_append_right (by omega), List.getElem?_append_left (by simp; omega), List.getElem?_reverse (by omega), hm, hl, List.getElem?_take, if_pos (by omega), List.getElem?_drop]
  congr 1
  omega
theorem segL_get_hi (xs : List Int) (a b j : Nat) (h : a ≤ b) (hb : b ≤ xs.length) (hj : b ≤ j) : (segL xs a b)[j]? = xs[j]? := by
  unfold segL
  have hl : (xs.take a).length = a := by simp; omega
  have hm : ((xs.drop a).take (b - a)).length = b - a := by simp; omega
  rw [List.getElem?_append_right (by simp; omega), List.getElem?_drop]
  congr 1
  simp
  omega
theorem segL_segL (xs : List Int) (a b : Nat) (h : a ≤ b) (hb : b ≤ xs.length) : segL (segL xs a b) a b = xs := by
  have hb' : b ≤ (segL xs a b).length := by rw [segL_length _ _ _ h]; exact hb
  apply List.ext_getElem?
  intro j
  by_cases h1 : j < a
  · rw [segL_get_lo _ _ _ _ h hb' h1, segL_get_lo _ _ _ _ h hb h1]
  · by_cases h2 : j < b
    · rw [segL_get_mid _ _ _ _ h hb' (by omega) h2, segL_get_mid _ _ _ _ h hb (by omega) (by omega)]
      congr 1
      omega
    · rw [segL_get_hi _ _ _ _ h hb' (by omega), segL_get_hi _ _ _ _ h hb (by omega)]
def sgAt (m k : Nat) : Int × Int := (segsAll m).getD (k - 1) (0, 0)
def sgN (m : Nat) : Nat := (segsAll m).length
def sG (m : Nat) : Gm where
  ks := (List.range (sgN m)).map (· + 1)
  mv := fun q k => segT q (sgAt m k)
  bk := fun k => k
  St := St m
  len := m
  dm := m - 1
  all := allS m
theorem mem_sks {m k : Nat} : k ∈ (sG m).ks ↔ 1 ≤ k ∧ k ≤ sgN m := by
  simp only [sG, List.mem_map, List.mem_range]
  constructor
  · rintro ⟨a, h, rfl⟩; omega
  · intro h; exact ⟨k - 1, by omega, by omega⟩
theorem sks_length (m : Nat) : (sG m).ks.length = sgN m := by simp [sG]
theorem sgAt_mem {m k : Nat} (h : k ∈ (sG m).ks) : sgAt m k ∈ segsAll m := by
  have h := mem_sks.1 h
  unfold sgN at h
  unfold sgAt
  rw [List.getD_eq_getElem?_getD, List.getElem?_eq_getElem (by omega)]
  exact List.getElem_mem _
theorem sgAt_B {m k : Nat} (h1 : 1 ≤ m) (h9 : m ≤ 9) (h : k ∈ (sG m).ks) : segB m (sgAt m k) = true := (segsAll_B h1 h9).1 (sgAt_mem h)
theorem sgAt_of {m : Nat} {p : Int × Int} (h : p ∈ segsAll m) : ∃ k, k ∈ (sG m).ks ∧ sgAt m k = p := by
  obtain ⟨i, hi, e⟩ := List.getElem_of_mem h
  refine ⟨i + 1, mem_sks.2 ⟨by omega, by unfold sgN; omega⟩, ?_⟩
  unfold sgAt
  rw [Nat.add_sub_cancel, List.getD_eq_getElem?_getD, List.getElem?_eq_getElem hi]
  exact e
theorem St.seg {m : Nat} {q : List Int} (h : St m q) {p : Int × Int} (hp : segB m p = true) : St m (segT q p) := ⟨segT_good h.1 hp, by rw [segT_length hp]; exact h.2⟩
theorem segT_segT {m : Nat} {q : List Int} (h : St m q) {p : Int × Int} (hp : segB m p = true) : segT (segT q p) p = q := by
  have := segB_iff.1 hp
  exact segL_segL q _ _ (segT_le hp) (by rw [h.2]; omega)
theorem scons {m d k : Nat} {s t : List Int} (hs : St m s) (h1 : 1 ≤ m) (h9 : m ≤ 9) (hk : k ∈ (sG m).ks) (h : 0 < gways (sG m) d (segT s (sgAt m k)) t) : 0 < gways (sG m) (d + 1) s t :=
  gways_cons0 (n := sG m) hk (segT_segT hs (sgAt_B h1 h9 hk)) h
theorem Good.inj {xs : List Int} (h : Good xs) {i j : Nat} (hi : i < xs.length) (hj : j < xs.length) (e : xs[i] = xs[j]) : i = j := by
  rcases Nat.lt_trichotomy i j with hlt | hlt | hlt
  · exact absurd e (List.pairwise_iff_getElem.1 h.2.2.2 i j hi hj hlt)
  · exact hlt
  · exact absurd e.symm (List.pairwise_iff_getElem.1 h.2.2.2 j i hj hi hlt)
/-- stacks that agree at all places but the last one agree there too -/
theorem agree_last {m : Nat} {s t : List Int} (hs : St m s) (ht : St m t) {j : Nat} (hj : m ≤ j + 1) (hp : ∀ i, i < j → s[i]? = t[i]?) : s = t := by
  have hsl := hs.2
  have htl := ht.2
  apply List.ext_getElem (by omega)
  intro i h1 h2
  by_cases hij : i < j
  · have := hp i hij
    rw [List.getElem?_eq_getElem h1, List.getElem?_eq_getElem h2] at this
    simpa using this
  · have hi : i = m - 1 := by omega
    have hmem : t[i] ∈ s := mem_of_good hs.1 (ht.1.2.2.1 _ (List.getElem_mem h2)).1 (by have := (ht.1.2.2.1 _ (List.getElem_mem h2)).2; omega)
    obtain ⟨k, hk, e⟩ := List.getElem_of_mem hmem
    by_cases hkj : k < j
    · have := hp k hkj
      rw [List.getElem?_eq_getElem hk, List.getElem?_eq_getElem (by omega : k < t.length)] at this
      have e2 : t[k]'(by omega) = t[i] := by rw [← e]; exact (Option.some.inj this).symm
      have := ht.1.inj (by omega) h2 e2
      omega
    · have : k = i := by omega
      subst this
      exact e
theorem sreach {m : Nat} (h1 : 1 ≤ m) (h9 : m ≤ 9) : ∀ (f j : Nat) (s t : List Int), j + f + 1 = m → St m s → St m t → (∀ i, i < j → s[i]? = t[i]?) → ∃ d, d ≤ f ∧ 0 < gways (sG m) d s t
  | 0, j, s, t, hj, hs, ht, hp => by
    refine ⟨0, Nat.le_refl _, ?_⟩
    rw [gways_zero, if_pos (agree_last hs ht (by omega) hp)]
    omega
  | f + 1, j, s, t, hj, hs, ht, hp => by
    have hsl := hs.2
    have htl := ht.2
    by_cases e0 : s[j]? = t[j]?
    · obtain ⟨d, hd, hw⟩ := sreach h1 h9 f (j + 1) s t (by omega) hs ht (fun i hi => by
        by_cases e : i = j
        · subst e; exact e0
        · exact hp i (by omega))
      exact ⟨d, by omega, hw⟩
    · have hjt : j < t.length := by omega
      have hmem : t[j] ∈ s := mem_of_good hs.1 (ht.1.2.2.1 _ (List.getElem_mem hjt)).1 (by have := (ht.1.2.2.1 _ (List.getElem_mem hjt)).2; omega)
      obtain ⟨i, hi, e⟩ := List.getElem_of_mem hmem
      have hij : j < i := by
        rcases Nat.lt_trichotomy i j with h | h | h
        · have := hp i h
          rw [List.getElem?_eq_getElem hi, List.getElem?_eq_getElem (by omega : i < t.length)] at this
          have e2 : t[i]'(by omega) = t[j] := by rw [← e]; exact (Option.some.inj this).symm
          have := ht.1.inj (by omega) hjt e2
          omega
        · subst h
          exact absurd (by rw [List.getElem?_eq_getElem hi, List.getElem?_eq_getElem hjt, e]) e0
        · exact h
      have hin : (((j : Int) + 1, (i : Int) + 1) : Int × Int) ∈ segsAll m := mem_segsAll.2 ⟨by simp; omega, by simp; omega, by simp; omega⟩
      obtain ⟨k, hk, hka⟩ := sgAt_of hin
      have hB := sgAt_B h1 h9 hk
      obtain ⟨d, hd, hw⟩ := sreach h1 h9 f (j + 1) (segT s (sgAt m k)) t (by omega) (hs.seg hB) ht (fun l hl => by
        rw [hka]
        have e1 : segT s ((j : Int) + 1, (i : Int) + 1) = segL s j (i + 1) := by
          unfold segT; congr 1 <;> simp <;> omega
        rw [e1]
        by_cases el : l = j
        · subst el
          rw [segL_get_mid s _ _ _ (by omega) (by omega) (Nat.le_refl _) (by omega), show l + (i + 1 - 1 - l) = i by omega, List.getElem?_eq_getElem hi, List.getElem?_eq_getElem hjt, e]
        · rw [segL_get_lo s _ _ _ (by omega) (by omega) (by omega)]
          exact hp l (by omega))
      exact ⟨d + 1, by omega, scons hs h1 h9 hk hw⟩
theorem sgN_le {m : Nat} (h6 : m ≤ 6) : sgN m ≤ 15 := by
  unfold sgN
  match m, h6 with
  | 0, _ => decide
  | 1, _ => decide
  | 2, _ => decide
  | 3, _ => decide
  | 4, _ => decide
  | 5, _ => decide
  | 6, _ => decide
theorem sG_ok {m : Nat} (h1 : 1 ≤ m) (h6 : m ≤ 6) : GOk (sG m) where
  len9 := by show m ≤ 9; omega
  length := fun q h => h.2
  small := fun q h x hx => by have := h.1.2.2.1 x hx; have h2 : q.length = m := h.2; omega
  mem := fun q => mem_allS h1 (by omega)
  nodup := allS_nodup m
  total := by
    show (allS m).length ≤ 362880
    rw [allS_length]
    have h1 := fact_mono (show m ≤ 9 by omega)
    have h2 : fact 9 = 362880 := rfl
    omega
  mvSt := fun q k h hk => h.seg (sgAt_B h1 (by omega) hk)
  bkIn := fun k h => h
  bkBk := fun k _ => rfl
  mvBk := fun q k h hk => segT_segT h (sgAt_B h1 (by omega) hk)
  rising := by
    show ((List.range (sgN m)).map (· + 1)).Pairwise (· < ·)
    rw [List.pairwise_map]
    exact List.pairwise_lt_range.imp (by intro a b hab; omega)
  reach := fun s t hs ht => sreach h1 (by omega) (m - 1) 0 s t (by omega) hs ht (fun i hi => by omega)
  few := by
    rw [sks_length]
    show sgN m ^ (m - 1 + 1) ≤ _
    unfold sgN
    match m, h1, h6 with
    | 1, _, _ => decide
    | 2, _, _ => decide
    | 3, _, _ => decide
    | 4, _, _ => decide
    | 5, _, _ => decide
    | 6, _, _ => decide
  kpos := fun k hk => by have := mem_sks.1 hk; have := sgN_le h6; omega
  dm30 := by show m - 1 ≤ 1000; omega
theorem sks_ramp (m : Nat) : (sG m).ks.map (fun (j : Nat) => (j : Int)) = ramp 1 (sgN m) := by
  simp only [sG, ramp, List.map_map]
  exact List.map_congr_left fun i _ => by simp; omega

-- what the functions return
/-- the stacks whose distances are searched -/
def sfewB (xs : List Int) : Bool := goodB xs && inB (xs.length : Int) 1 6
theorem sfewB_iff {xs : List Int} : sfewB xs = true ↔ St xs.length xs ∧ 1 ≤ xs.length ∧ xs.length ≤ 6 := by
  rw [sfewB, Bool.and_eq_true, goodB_iff, inB_iff]
  constructor
  · rintro ⟨h1, h2, h3⟩; exact ⟨⟨h1, rfl⟩, by omega, by omega⟩
  · rintro ⟨⟨h1, _⟩, h2, h3⟩; exact ⟨h1, by omega, by omega⟩
def sfar (xs : List Int) : Nat := gfar (sG xs.length) xs (ramp 1 xs.length)
theorem sfar_le {xs : List Int} (h : sfewB xs = true) : sfar xs ≤ 5 := by
  obtain ⟨h1, h2, h3⟩ := sfewB_iff.1 h
  have := (gfar_spec (sG_ok h2 h3) h1 (St.ramp xs.length h2 (by omega))).2.1
  have e : (sG xs.length).dm = xs.length - 1 := rfl
  unfold sfar
  omega
def mSegmentDistance (xs : List Int) : Int := if sfewB xs = true then (sfar xs : Int) else 0
def mLeastSegments (xs : List Int) : List (Int × Int) := if sfewB xs = true then (ggoL (sG xs.length) (ramp 1 xs.length) (sfar xs) xs).map fun k => sgAt xs.length k.toNat else []
theorem len_mLeastSegments (xs : List Int) : (mLeastSegments xs).length ≤ 1048576 := by
  unfold mLeastSegments
  split
  · rename_i h
    have := sfar_le h
    rw [List.length_map, ggoL_length]; omega
  · simp
def mCountLeastSegments (xs : List Int) : Int := if sfewB xs = true then (gways (sG xs.length) (sfar xs) (ramp 1 xs.length) xs : Int) else 0
/-- how many stacks of m are so far, for the distances 0 to m - 1 -/
def sbyL (m : Nat) : List Int := (List.range m).map fun e => (gbyN (sG m) (ramp 1 m) e : Int)

end Go.Pan

