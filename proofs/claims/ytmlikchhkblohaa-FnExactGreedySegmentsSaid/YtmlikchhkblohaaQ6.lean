import Derived.Test.YtmlikchhkblohaaQ2
namespace Go.Pan

-- blocks of a stack that change places
/-- the blocks from a to b and from c to d change places -/
def exL (xs : List Int) (a b c d : Nat) : List Int := xs.take a ++ (xs.take d).drop c ++ (xs.take c).drop b ++ (xs.take b).drop a ++ xs.drop d
theorem take_mid (xs : List Int) (a b : Nat) (h : a ≤ b) : xs.take a ++ (xs.take b).drop a = xs.take b := by
  have h1 : (xs.take b).take a = xs.take a := by rw [List.take_take, Nat.min_eq_left h]
  rw [← h1, List.take_append_drop]
theorem ex_parts (xs : List Int) (a b c d : Nat) (h1 : a ≤ b) (h2 : b ≤ c) (h3 : c ≤ d) : xs = xs.take a ++ (xs.take b).drop a ++ (xs.take c).drop b ++ (xs.take d).drop c ++ xs.drop d := by
  rw [take_mid xs a b h1, take_mid xs b c h2, take_mid xs c d h3, List.take_append_drop]
theorem exL_perm (xs : List Int) (a b c d : Nat) (h1 : a ≤ b) (h2 : b ≤ c) (h3 : c ≤ d) : (exL xs a b c d).Perm xs := by
  have h := ex_parts xs a b c d h1 h2 h3
  refine List.perm_iff_count.2 fun x => ?_
  have e := congrArg (List.count x) h
  rw [e]
  unfold exL
  simp only [List.count_append]
  omega
theorem exL_length (xs : List Int) (a b c d : Nat) (h1 : a ≤ b) (h2 : b ≤ c) (h3 : c ≤ d) : (exL xs a b c d).length = xs.length := (exL_perm xs a b c d h1 h2 h3).length_eq
theorem sub_mid (P A S : List Int) {p q : Nat} (hp : p = P.length) (hq : q = P.length + A.length) : ((P ++ A ++ S).take q).drop p = A := by
  subst hp; subst hq
  rw [List.take_left' (by simp), List.drop_left' rfl]
theorem exL_of (P A M B S : List Int) {a b c d : Nat} (ha : a = P.length) (hb : b = a + A.length) (hc : c = b + M.length) (hd : d = c + B.length) : exL (P ++ A ++ M ++ B ++ S) a b c d = P ++ B ++ M ++ A ++ S := by
  unfold exL
  have e1 : (P ++ A ++ M ++ B ++ S).take a = P := by rw [List.append_assoc, List.append_assoc, List.append_assoc]; exact List.take_left' ha.symm
  have e2 : ((P ++ A ++ M ++ B ++ S).take d).drop c = B := sub_mid (P ++ A ++ M) B S (by simp; omega) (by simp; omega)
  have e3 : ((P ++ A ++ M ++ B ++ S).take c).drop b = M := by
    rw [show P ++ A ++ M ++ B ++ S = P ++ A ++ M ++ (B ++ S) by simp]
    exact sub_mid (P ++ A) M (B ++ S) (by simp; omega) (by simp; omega)
  have e4 : ((P ++ A ++ M ++ B ++ S).take b).drop a = A := by
    rw [show P ++ A ++ M ++ B ++ S = P ++ A ++ (M ++ B ++ S) by simp]
    exact sub_mid P A (M ++ B ++ S) ha (by omega)
  have e5 : (P ++ A ++ M ++ B ++ S).drop d = S := List.drop_left' (by simp; omega)
  rw [e1, e2, e3, e4, e5]
theorem exL_exL (xs : List Int) (a b c d : Nat) (h1 : a ≤ b) (h2 : b ≤ c) (h3 : c ≤ d) (h4 : d ≤ xs.length) : exL (exL xs a b c d) a (a + (d - c)) (d - (b - a)) d = xs := by
  have e := ex_parts xs a b c d h1 h2 h3
  have hE : exL xs a b c d = xs.take a ++ (xs.take d).drop c ++ (xs.take c).drop b ++ (xs.take b).drop a ++ xs.drop d := rfl
  rw [hE, exL_of _ _ _ _ _ (by rw [List.length_take]; omega) (by rw [List.length_drop, List.length_take]; omega) (by rw [List.length_drop, List.length_take]; omega) (by rw [List.length_drop, List.length_take]; omega)]
  exact e.symm
theorem exL_get_lo (xs : List Int) (a b c d j : Nat) (ha : a ≤ xs.length) (hj : j < a) : (exL xs a b c d)[j]? = xs[j]? := by
  unfold exL
  rw [List.append_assoc, List.append_assoc, List.append_assoc, List.getElem?_append_left (by rw [List.length_take]; omega), List.getElem?_take, if_pos hj]
theorem exL_get_at (xs : List Int) (a b c d : Nat) (ha : a ≤ xs.length) (hc : c < d) (hd : d ≤ xs.length) : (exL xs a b c d)[a]? = xs[c]? := by
  unfold exL
  have hl : (xs.take a).length = a := by rw [List.length_take]; omega
  rw [List.append_assoc, List.append_assoc, List.append_assoc, List.getElem?_append_right (by omega), hl, Nat.sub_self, List.getElem?_append_left (by rw [List.length_drop, List.length_take]; omega), List.getElem?_drop, List.getElem?_take, if_pos (by omega), Nat.add_zero]

/-- there is an exchange for n -/
def exB (n : Int) (e : Int × Int × Int × Int) : Bool := inB n 1 9 && (inB e.1 1 n && (inB e.2.1 e.1 n && (inB e.2.2.1 1 n && (decide (e.2.1 < e.2.2.1) && inB e.2.2.2 e.2.2.1 n))))
theorem exB_iff {n : Int} {e : Int × Int × Int × Int} : exB n e = true ↔ (1 ≤ n ∧ n ≤ 9) ∧ 1 ≤ e.1 ∧ e.1 ≤ e.2.1 ∧ e.2.1 < e.2.2.1 ∧ e.2.2.1 ≤ e.2.2.2 ∧ e.2.2.2 ≤ n := by
  simp only [exB, Bool.and_eq_true, inB_iff, decide_eq_true_eq]
  omega
/-- there is a block move for n -/
def bkB (n : Int) (b : Int × Int × Int) : Bool := inB n 1 9 && (inB b.1 1 n && (inB b.2.1 b.1 n && (inB b.2.2 1 n && decide (b.2.1 < b.2.2))))
theorem bkB_iff {n : Int} {b : Int × Int × Int} : bkB n b = true ↔ (1 ≤ n ∧ n ≤ 9) ∧ 1 ≤ b.1 ∧ b.1 ≤ b.2.1 ∧ b.2.1 < b.2.2 ∧ b.2.2 ≤ n := by
  simp only [bkB, Bool.and_eq_true, inB_iff, decide_eq_true_eq]
  omega
/-- the exchange that does what a block move does; the block move of an exchange -/
def touchL (b : Int × Int × Int) : Int × Int × Int × Int := (b.1, b.2.1, IntKind.i64.wrap (b.2.1 + 1), b.2.2)
def blockL (e : Int × Int × Int × Int) : Int × Int × Int := (e.1, e.2.1, e.2.2.2)
theorem touch_eq {n : Int} {b : Int × Int × Int} (h : bkB n b = true) : touchL b = (b.1, b.2.1, b.2.1 + 1, b.2.2) := by
  have := bkB_iff.1 h
  unfold touchL
  rw [IntWalk.i64_in _ (by omega)]
theorem touch_B (n : Int) (b : Int × Int × Int) : exB n (touchL b) = bkB n b := by
  rw [Bool.eq_iff_iff]
  constructor
  · intro h
    have h1 := exB_iff.1 h
    unfold touchL at h1
    simp only at h1
    rw [IntWalk.i64_in (b.2.1 + 1) (by omega)] at h1
    exact bkB_iff.2 (by omega)
  · intro h
    rw [touch_eq h]
    have := bkB_iff.1 h
    exact exB_iff.2 (by simp only; omega)
/-- a stack behind an exchange, behind a block move -/
def exT (xs : List Int) (e : Int × Int × Int × Int) : List Int := exL xs (e.1 - 1).toNat e.2.1.toNat (e.2.2.1 - 1).toNat e.2.2.2.toNat
def bkT (xs : List Int) (b : Int × Int × Int) : List Int := exL xs (b.1 - 1).toNat b.2.1.toNat b.2.1.toNat b.2.2.toNat
theorem exT_perm {n : Int} {xs : List Int} {e : Int × Int × Int × Int} (h : exB n e = true) : (exT xs e).Perm xs := by
  have := exB_iff.1 h
  exact exL_perm _ _ _ _ _ (by omega) (by omega) (by omega)
theorem exT_length {n : Int} {xs : List Int} {e : Int × Int × Int × Int} (h : exB n e = true) : (exT xs e).length = xs.length := (exT_perm h).length_eq
theorem exT_good {n : Int} {xs : List Int} {e : Int × Int × Int × Int} (hg : Good xs) (h : exB n e = true) : Good (exT xs e) := hg.perm (exT_perm h).symm
theorem touch_T {n : Int} {b : Int × Int × Int} (h : bkB n b = true) (xs : List Int) : exT xs (touchL b) = bkT xs b := by
  rw [touch_eq h]
  unfold exT bkT
  simp only
  rw [Int.add_sub_cancel]
theorem bkT_length {n : Int} {xs : List Int} {b : Int × Int × Int} (h : bkB n b = true) : (bkT xs b).length = xs.length := by
  rw [← touch_T h]; exact exT_length (by rw [touch_B]; exact h)
theorem bkT_good {n : Int} {xs : List Int} {b : Int × Int × Int} (hg : Good xs) (h : bkB n b = true) : Good (bkT xs b) := by
  rw [← touch_T h]; exact exT_good hg (by rw [touch_B]; exact h)
/-- the exchange that undoes one -/
def exInv (e : Int × Int × Int × Int) : Int × Int × Int × Int := (e.1, e.1 + e.2.2.2 - e.2.2.1, e.2.2.2 - e.2.1 + e.1, e.2.2.2)
theorem exInv_B {n : Int} {e : Int × Int × Int × Int} (h : exB n e = true) : exB n (exInv e) = true := by
  have := exB_iff.1 h
  refine exB_iff.2 ?_
  unfold exInv
  simp only
  omega
theorem exInv_Inv (e : Int × Int × Int × Int) : exInv (exInv e) = e := by
  obtain ⟨a, b, c, d⟩ := e
  simp only [exInv, Prod.mk.injEq, true_and, and_true]
  constructor <;> omega
theorem exT_exT {n : Int} {xs : List Int} {e : Int × Int × Int × Int} (h : exB n e = true) (hn : (xs.length : Int) = n) : exT (exT xs e) (exInv e) = xs := by
  have hB := exB_iff.1 h
  have h1 := exL_exL xs (e.1 - 1).toNat e.2.1.toNat (e.2.2.1 - 1).toNat e.2.2.2.toNat (by omega) (by omega) (by omega) (by omega)
  unfold exT exInv
  simp only
  rw [show (e.1 + e.2.2.2 - e.2.2.1).toNat = (e.1 - 1).toNat + (e.2.2.2.toNat - (e.2.2.1 - 1).toNat) by omega, show (e.2.2.2 - e.2.1 + e.1 - 1).toNat = e.2.2.2.toNat - (e.2.1.toNat - (e.1 - 1).toNat) by omega]
  exact h1

/-- the game of the exchanges of a list -/
def xAt (L : List (Int × Int × Int × Int)) (k : Nat) : Int × Int × Int × Int := L.getD (k - 1) (0, 0, 0, 0)
def xG (L : List (Int × Int × Int × Int)) (m : Nat) : Gm where
  ks := (List.range L.length).map (· + 1)
  mv := fun q k => exT q (xAt L k)
  bk := fun k => L.idxOf (exInv (xAt L k)) + 1
  St := St m
  len := m
  dm := m - 1
  all := allS m
structure XOk (L : List (Int × Int × Int × Int)) (m : Nat) : Prop where
  B : ∀ e ∈ L, exB m e = true
  inv : ∀ e ∈ L, exInv e ∈ L
  nodup : L.Nodup
  ins : ∀ j i : Nat, j < i → i < m → ((j : Int) + 1, (i : Int), (i : Int) + 1, (i : Int) + 1) ∈ L
  few : L.length ^ (m - 1 + 1) ≤ 1000000000000
  le : L.length ≤ 1000
section
variable {L : List (Int × Int × Int × Int)} {m : Nat}
theorem mem_xks {k : Nat} : k ∈ (xG L m).ks ↔ 1 ≤ k ∧ k ≤ L.length := by
  simp only [xG, List.mem_map, List.mem_range]
  constructor
  · rintro ⟨a, h, rfl⟩; omega
  · intro h; exact ⟨k - 1, by omega, by omega⟩
theorem xks_length : (xG L m).ks.length = L.length := by simp [xG]
theorem xAt_get {i : Nat} (h : i < L.length) : xAt L (i + 1) = L[i] := by
  unfold xAt
  rw [Nat.add_sub_cancel, List.getD_eq_getElem?_getD, List.getElem?_eq_getElem h]
  rfl
theorem xAt_mem {k : Nat} (h : k ∈ (xG L m).ks) : xAt L k ∈ L := by
  have h := mem_xks.1 h
  obtain ⟨i, rfl⟩ : ∃ i, k = i + 1 := ⟨k - 1, by omega⟩
  rw [xAt_get (by omega)]
  exact List.getElem_mem _
theorem xAt_of {e : Int × Int × Int × Int} (h : e ∈ L) : L.idxOf e + 1 ∈ (xG L m).ks ∧ xAt L (L.idxOf e + 1) = e := by
  have hl := List.idxOf_lt_length_of_mem h
  exact ⟨mem_xks.2 ⟨by omega, by omega⟩, by rw [xAt_get hl, List.getElem_idxOf hl]⟩
theorem xAt_idx (hn : L.Nodup) {k : Nat} (h : k ∈ (xG L m).ks) : L.idxOf (xAt L k) + 1 = k := by
  have h' := mem_xks.1 h
  obtain ⟨i, rfl⟩ : ∃ i, k = i + 1 := ⟨k - 1, by omega⟩
  have hi : i < L.length := by omega
  rw [xAt_get hi]
  have hm : L[i] ∈ L := List.getElem_mem _
  have hl := List.idxOf_lt_length_of_mem hm
  have e := List.getElem_idxOf hl
  rcases Nat.lt_trichotomy (L.idxOf L[i]) i with h1 | h1 | h1
  · exact absurd e (List.pairwise_iff_getElem.1 hn _ _ hl hi h1)
  · omega
  · exact absurd e.symm (List.pairwise_iff_getElem.1 hn _ _ hi hl h1)
theorem St.ex {q : List Int} (h : St m q) {e : Int × Int × Int × Int} (he : exB m e = true) : St m (exT q e) := ⟨exT_good h.1 he, by rw [exT_length he]; exact h.2⟩
theorem xreach (hx : XOk L m) (h1 : 1 ≤ m) (h9 : m ≤ 9) : ∀ (f j : Nat) (s t : List Int), j + f + 1 = m → St m s → St m t → (∀ i, i < j → s[i]? = t[i]?) → ∃ d, d ≤ f ∧ 0 < gways (xG L m) d s t
  | 0, j, s, t, hj, hs, ht, hp => by
    refine ⟨0, Nat.le_refl _, ?_⟩
    rw [gways_zero, if_pos (agree_last hs ht (by omega) hp)]
    omega
  | f + 1, j, s, t, hj, hs, ht, hp => by
    have hsl := hs.2
    have htl := ht.2
    by_cases e0 : s[j]? = t[j]?
    · obtain ⟨d, hd, hw⟩ := xreach hx h1 h9 f (j + 1) s t (by omega) hs ht (fun i hi => by
        by_cases e : i = j
        · subst e; exact e0
        · exact hp i (by omega))
      exact ⟨d, by omega, hw⟩
    · have hjt : j < t.length := by omega
      have hmem : t[j] ∈ s := mem_of_good hs.1 (ht.1.2.2.1 _ (List.getElem_mem hjt)).1 (by have := (ht.1.2.2.1 _ (List.getElem_mem hjt)).2; omega)
      obtain ⟨i, hi, e⟩ := List.getElem_of_mem hmem
      have hij : j < i := by
        rcases Nat.lt_trichotomy i j with h | h | h
        · have := hp i h
          rw [List.getElem?_eq_getElem hi, List.getElem?_eq_getElem (by omega : i < t.length)] at this
          have e2 : t[i]'(by omega) = t[j] := by rw [← e]; exact (Option.some.inj this).symm
          have := ht.1.inj (by omega) hjt e2
          omega
        · subst h
          exact absurd (by rw [List.getElem?_eq_getElem hi, List.getElem?_eq_getElem hjt, e]) e0
        · exact h
      have hin := hx.ins j i hij (by omega)
      obtain ⟨hk, hka⟩ := xAt_of (m := m) hin
      have hB := hx.B _ hin
      obtain ⟨d, hd, hw⟩ := xreach hx h1 h9 f (j + 1) (exT s ((j : Int) + 1, (i : Int), (i : Int) + 1, (i : Int) + 1)) t (by omega) (hs.ex hB) ht (fun l hl => by
        have e1 : exT s ((j : Int) + 1, (i : Int), (i : Int) + 1, (i : Int) + 1) = exL s j i i (i + 1) := by
          unfold exT; congr 1 <;> simp <;> omega
        rw [e1]
        by_cases el : l = j
        · subst el
          rw [exL_get_at s _ _ _ _ (by omega) (by omega) (by omega), List.getElem?_eq_getElem hi, List.getElem?_eq_getElem hjt, e]
        · rw [exL_get_lo s _ _ _ _ _ (by omega) (by omega)]
          exact hp l (by omega))
      refine ⟨d + 1, by omega, gways_cons0 (n := xG L m) hk ?_ ?_⟩
      · show exT (exT s (xAt L _)) (xAt L (L.idxOf (exInv (xAt L _)) + 1)) = s
        rw [hka, (xAt_of (m := m) (hx.inv _ hin)).2]
        exact exT_exT hB (by rw [hsl])
      · show 0 < gways (xG L m) d (exT s (xAt L _)) t
        rw [hka]; exact hw
theorem xG_ok (hx : XOk L m) (h1 : 1 ≤ m) (h6 : m ≤ 6) : GOk (xG L m) where
  len9 := by show m ≤ 9; omega
  length := fun q h => h.2
  small := fun q h x hx => by have := h.1.2.2.1 x hx; have h2 : q.length = m := h.2; omega
  mem := fun q => mem_allS h1 (by omega)
  nodup := allS_nodup m
  total := by
    show (allS m).length ≤ 362880
    rw [allS_length]
    have h1 := fact_mono (show m ≤ 9 by omega)
    have h2 : fact 9 = 362880 := rfl
    omega
  mvSt := fun q k h hk => h.ex (hx.B _ (xAt_mem hk))
  bkIn := fun k h => (xAt_of (hx.inv _ (xAt_mem h))).1
  bkBk := fun k hk => by
    show L.idxOf (exInv (xAt L (L.idxOf (exInv (xAt L k)) + 1))) + 1 = k
    rw [(xAt_of (m := m) (hx.inv _ (xAt_mem hk))).2, exInv_Inv]
    exact xAt_idx hx.nodup hk
  mvBk := fun q k h hk => by
    show exT (exT q (xAt L k)) (xAt L (L.idxOf (exInv (xAt L k)) + 1)) = q
    rw [(xAt_of (m := m) (hx.inv _ (xAt_mem hk))).2]
    exact exT_exT (hx.B _ (xAt_mem hk)) (by rw [h.2])
  rising := by
    show ((List.range L.length).map (· + 1)).Pairwise (· < ·)
    rw [List.pairwise_map]
    exact List.pairwise_lt_range.imp (by intro a b hab; omega)
  reach := fun s t hs ht => xreach hx h1 (by omega) (m - 1) 0 s t (by omega) hs ht (fun i hi => by omega)
  few := by
    rw [xks_length]
    exact hx.few
  kpos := fun k hk => by have := mem_xks.1 hk; have := hx.le; omega
  dm30 := by show m - 1 ≤ 1000; omega
theorem xks_ramp : (xG L m).ks.map (fun (j : Nat) => (j : Int)) = ramp 1 L.length := by
  simp only [xG, ramp, List.map_map]
  exact List.map_congr_left fun i _ => by simp; omega
end

-- all exchanges, all block moves, in order
def exD (a b c : Int) (k : Nat) : List (Int × Int × Int × Int) := (ramp c k).map fun d => (a, b, c, d)
def exC (n : Int) (a b : Int) (k : Nat) : List (Int × Int × Int × Int) := (ramp (b + 1) k).flatMap fun c => exD a b c (n + 1 - c).toNat
def exS (n : Int) (a : Int) (k : Nat) : List (Int × Int × Int × Int) := (ramp a k).flatMap fun b => exC n a b (n - b).toNat
def exA (n : Int) (k : Nat) : List (Int × Int × Int × Int) := (ramp 1 k).flatMap fun a => exS n a (n + 1 - a).toNat
def exAll (n : Nat) : List (Int × Int × Int × Int) := exA n n
def bkD (a b : Int) (k : Nat) : List (Int × Int × Int) := (ramp (b + 1) k).map fun c => (a, b, c)
def bkS (n : Int) (a : Int) (k : Nat) : List (Int × Int × Int) := (ramp a k).flatMap fun b => bkD a b (n - b).toNat
def bkA (n : Int) (k : Nat) : List (Int × Int × Int) := (ramp 1 k).flatMap fun a => bkS n a (n + 1 - a).toNat
def bkAll (n : Nat) : List (Int × Int × Int) := bkA n n
theorem ramp_snoc (lo : Int) (k : Nat) : ramp lo (k + 1) = ramp lo k ++ [lo + k] := by simp [ramp, List.range_succ]
theorem ramp_nil (lo : Int) : ramp lo 0 = [] := by simp [ramp]
theorem exD_succ (a b c : Int) (k : Nat) : exD a b c (k + 1) = exD a b c k ++ [(a, b, c, c + k)] := by simp [exD, ramp_snoc]
theorem exC_succ (n a b : Int) (k : Nat) : exC n a b (k + 1) = exC n a b k ++ exD a b (b + 1 + k) (n + 1 - (b + 1 + k)).toNat := by simp [exC, ramp_snoc]
theorem exS_succ (n a : Int) (k : Nat) : exS n a (k + 1) = exS n a k ++ exC n a (a + k) (n - (a + k)).toNat := by simp [exS, ramp_snoc]
theorem exA_succ (n : Int) (k : Nat) : exA n (k + 1) = exA n k ++ exS n (1 + k) (n + 1 - (1 + k)).toNat := by simp [exA, ramp_snoc]
theorem bkD_succ (a b : Int) (k : Nat) : bkD a b (k + 1) = bkD a b k ++ [(a, b, b + 1 + k)] := by simp [bkD, ramp_snoc]
theorem bkS_succ (n a : Int) (k : Nat) : bkS n a (k + 1) = bkS n a k ++ bkD a (a + k) (n - (a + k)).toNat := by simp [bkS, ramp_snoc]
theorem bkA_succ (n : Int) (k : Nat) : bkA n (k + 1) = bkA n k ++ bkS n (1 + k) (n + 1 - (1 + k)).toNat := by simp [bkA, ramp_snoc]
theorem mem_exAll {n : Nat} {e : Int × Int × Int × Int} : e ∈ exAll n ↔ 1 ≤ e.1 ∧ e.1 ≤ e.2.1 ∧ e.2.1 < e.2.2.1 ∧ e.2.2.1 ≤ e.2.2.2 ∧ e.2.2.2 ≤ n := by
  obtain ⟨a, b, c, d⟩ := e
  simp only [exAll, exA, exS, exC, exD, List.mem_flatMap, List.mem_map, mem_ramp, Prod.mk.injEq]
  constructor
  · rintro ⟨a', ha, b', hb, c', hc, d', hd, rfl, rfl, rfl, rfl⟩; omega
  · intro h; exact ⟨a, by omega, b, by omega, c, by omega, d, by omega, rfl, rfl, rfl, rfl⟩
theorem mem_bkAll {n : Nat} {b : Int × Int × Int} : b ∈ bkAll n ↔ 1 ≤ b.1 ∧ b.1 ≤ b.2.1 ∧ b.2.1 < b.2.2 ∧ b.2.2 ≤ n := by
  obtain ⟨a, b, c⟩ := b
  simp only [bkAll, bkA, bkS, bkD, List.mem_flatMap, List.mem_map, mem_ramp, Prod.mk.injEq]
  constructor
  · rintro ⟨a', ha, b', hb, c', hc, rfl, rfl, rfl⟩; omega
  · intro h; exact ⟨a, by omega, b, by omega, c, by omega, rfl, rfl, rfl⟩
theorem exAll_B {n : Nat} (h1 : 1 ≤ n) (h9 : n ≤ 9) {e : Int × Int × Int × Int} : e ∈ exAll n ↔ exB n e = true := by
  rw [mem_exAll, exB_iff]; omega
theorem bkAll_B {n : Nat} (h1 : 1 ≤ n) (h9 : n ≤ 9) {b : Int × Int × Int} : b ∈ bkAll n ↔ bkB n b = true := by
  rw [mem_bkAll, bkB_iff]; omega
/-- the exchanges that are block moves -/
def tchAll (n : Nat) : List (Int × Int × Int × Int) := (bkAll n).map touchL
theorem mem_tchAll {n : Nat} (h1 : 1 ≤ n) (h9 : n ≤ 9) {e : Int × Int × Int × Int} : e ∈ tchAll n ↔ exB n e = true ∧ e.2.2.1 = e.2.1 + 1 := by
  unfold tchAll
  rw [List.mem_map]
  constructor
  · rintro ⟨b, hb, rfl⟩
    have hb := (bkAll_B h1 h9).1 hb
    exact ⟨by rw [touch_B]; exact hb, by rw [touch_eq hb]⟩
  · rintro ⟨hB, he⟩
    have h := exB_iff.1 hB
    have hb : bkB n (e.1, e.2.1, e.2.2.2) = true := bkB_iff.2 (by simp only; omega)
    refine ⟨_, (bkAll_B h1 h9).2 hb, ?_⟩
    rw [touch_eq hb]
    obtain ⟨a, b, c, d⟩ := e
    simp only at he
    subst he
    rfl
theorem exAll_ok {m : Nat} (h1 : 1 ≤ m) (h6 : m ≤ 6) : XOk (exAll m) m where
  B := fun e he => (exAll_B h1 (by omega)).1 he
  inv := fun e he => (exAll_B h1 (by omega)).2 (exInv_B ((exAll_B h1 (by omega)).1 he))
  nodup := by
    match m, h1, h6 with
    | 1, _, _ => decide
    | 2, _, _ => decide
    | 3, _, _ => decide
    | 4, _, _ => decide +kernel
    | 5, _, _ => decide +kernel
    | 6, _, _ => decide +kernel
  ins := fun j i hij hi => mem_exAll.2 (by simp only; omega)
  few := by
    match m, h1, h6 with
    | 1, _, _ => decide
    | 2, _, _ => decide
    | 3, _, _ => decide
    | 4, _, _ => decide +kernel
    | 5, _, _ => decide +kernel
    | 6, _, _ => decide +kernel
  le := by
    match m, h1, h6 with
    | 1, _, _ => decide
    | 2, _, _ => decide
    | 3, _, _ => decide
    | 4, _, _ => decide +kernel
    | 5, _, _ => decide +kernel
    | 6, _, _ => decide +kernel
theorem tchAll_ok {m : Nat} (h1 : 1 ≤ m) (h6 : m ≤ 6) : XOk (tchAll m) m where
  B := fun e he => ((mem_tchAll h1 (by omega)).1 he).1
  inv := fun e he => by
    have h := (mem_tchAll h1 (by omega)).1 he
    refine (mem_tchAll h1 (by omega)).2 ⟨exInv_B h.1, ?_⟩
    have h2 := h.2
    unfold exInv
    simp only
    omega
  nodup := by
    match m, h1, h6 with
    | 1, _, _ => decide +kernel
    | 2, _, _ => decide +kernel
    | 3, _, _ => decide +kernel
    | 4, _, _ => decide +kernel
    | 5, _, _ => decide +kernel
    | 6, _, _ => decide +kernel
  ins := fun j i hij hi => (mem_tchAll h1 (by omega)).2 ⟨exB_iff.2 (by simp only; omega), rfl⟩
  few := by
    match m, h1, h6 with
    | 1, _, _ => decide +kernel
    | 2, _, _ => decide +kernel
    | 3, _, _ => decide +kernel
    | 4, _, _ => decide +kernel
    | 5, _, _ => decide +kernel
    | 6, _, _ => decide +kernel
  le := by
    match m, h1, h6 with
    | 1, _, _ => decide +kernel
    | 2, _, _ => decide +kernel
    | 3, _, _ => decide +kernel
    | 4, _, _ => decide +kernel
    | 5, _, _ => decide +kernel
    | 6, _, _ => decide +kernel

end Go.Pan

namespace Go.Pan
-- distances by exchanges of a list, told by the number of pancakes
def xfar (L : Nat → List (Int × Int × Int × Int)) (xs : List Int) : Nat := gfar (xG (L xs.length) xs.length) xs (ramp 1 xs.length)
theorem xfar_le {L : Nat → List (Int × Int × Int × Int)} {xs : List Int} (hL : ∀ m, 1 ≤ m → m ≤ 6 → XOk (L m) m) (h : sfewB xs = true) : xfar L xs ≤ 5 := by
  obtain ⟨h1, h2, h3⟩ := sfewB_iff.1 h
  have := (gfar_spec (xG_ok (hL _ h2 h3) h2 h3) h1 (St.ramp xs.length h2 (by omega))).2.1
  have e : (xG (L xs.length) xs.length).dm = xs.length - 1 := rfl
  unfold xfar
  omega
def mLeastX (L : Nat → List (Int × Int × Int × Int)) (xs : List Int) : List (Int × Int × Int × Int) :=
  if sfewB xs = true then (ggoL (xG (L xs.length) xs.length) (ramp 1 xs.length) (xfar L xs) xs).map fun k => xAt (L xs.length) k.toNat else []
theorem mLeastX_length (L : Nat → List (Int × Int × Int × Int)) (xs : List Int) : (mLeastX L xs).length = if sfewB xs = true then xfar L xs else 0 := by
  unfold mLeastX
  split
  · rw [List.length_map, ggoL_length]
  · rfl
def mBlockDistance (xs : List Int) : Int := if sfewB xs = true then (xfar tchAll xs : Int) else 0
def mLeastExchanges (xs : List Int) : List (Int × Int × Int × Int) := mLeastX exAll xs
def mLeastBlocks (xs : List Int) : List (Int × Int × Int) := (mLeastX tchAll xs).map blockL
def okFew (n : Int) : Bool := inB n 1 6
def mCountX (L : Nat → List (Int × Int × Int × Int)) (n : Int) : List Int := if okFew n = true then gbyL (xG (L n.toNat) n.toNat) (ramp 1 n.toNat) else []
def mCountByBlocks (n : Int) : List Int := mCountX tchAll n
def mCountByExchanges (n : Int) : List Int := mCountX exAll n
theorem len_mLeastX {L : Nat → List (Int × Int × Int × Int)} (hL : ∀ m, 1 ≤ m → m ≤ 6 → XOk (L m) m) (xs : List Int) : (mLeastX L xs).length ≤ 1048576 := by
  rw [mLeastX_length]
  split
  · rename_i h; have := xfar_le hL h; omega
  · omega
theorem len_mLeastExchanges (xs : List Int) : (mLeastExchanges xs).length ≤ 1048576 := len_mLeastX (fun _ h1 h6 => exAll_ok h1 h6) xs
theorem len_mLeastBlocks (xs : List Int) : (mLeastBlocks xs).length ≤ 1048576 := by
  unfold mLeastBlocks
  rw [List.length_map]
  exact len_mLeastX (fun _ h1 h6 => tchAll_ok h1 h6) xs
theorem gecc_x {L : List (Int × Int × Int × Int)} {m : Nat} (hL : XOk L m) (h1 : 1 ≤ m) (h6 : m ≤ 6) : gecc (xG L m) (ramp 1 m) ≤ 5 := by
  unfold gecc
  by_cases e : (xG L m).all.map (gfar (xG L m) (ramp 1 m)) = []
  · rw [e]; simp [gmaxN]
  · obtain ⟨q, hq, he⟩ := List.mem_map.1 (gmaxN_mem e)
    have hok := xG_ok hL h1 h6
    have hst := (hok.mem q).1 hq
    have := (gfar_spec hok (show (xG L m).St (ramp 1 m) from St.ramp m h1 (by omega)) hst).2.1
    have e2 : (xG L m).dm = m - 1 := rfl
    omega
theorem len_mCountX {L : Nat → List (Int × Int × Int × Int)} (hL : ∀ m, 1 ≤ m → m ≤ 6 → XOk (L m) m) (n : Int) : (mCountX L n).length ≤ 1048576 := by
  unfold mCountX
  split
  · rename_i h
    have h := inB_iff.1 h
    have := gecc_x (hL n.toNat (by omega) (by omega)) (by omega) (by omega)
    simp [gbyL]
    omega
  · simp
theorem len_mCountByBlocks (n : Int) : (mCountByBlocks n).length ≤ 1048576 := len_mCountX (fun _ h1 h6 => tchAll_ok h1 h6) n
theorem len_mCountByExchanges (n : Int) : (mCountByExchanges n).length ≤ 1048576 := len_mCountX (fun _ h1 h6 => exAll_ok h1 h6) n
/-- the board of the stacks of m, for exchanges of a list -/
def xBd (L : List (Int × Int × Int × Int)) (m : Nat) : Bd := gBd (xG L m) (fact m) rankL (unrank m) (ramp 1 m) 1 (L.length + 1)
theorem xBd_ok {L : List (Int × Int × Int × Int)} {m : Nat} (hL : XOk L m) (h1 : 1 ≤ m) (h6 : m ≤ 6) : BOk (xBd L m) :=
  gBd_ok (xG_ok hL h1 h6) (fun k => by rw [mem_xks]; omega) (fun _ h => rank_lt h) (fun _ h => unrank_st h1 (by omega) h) (fun _ h => unrank_rank h1 (by omega) h) (fun _ h => rank_unrank h)
    (St.ramp m h1 (by omega)) (rankL_ramp m 1)
theorem xBd_N (L : List (Int × Int × Int × Int)) (m : Nat) : (xBd L m).N = fact m := rfl
theorem xBd_lo (L : List (Int × Int × Int × Int)) (m : Nat) : (xBd L m).lo = 1 := rfl
theorem xBd_hi (L : List (Int × Int × Int × Int)) (m : Nat) : (xBd L m).hi = L.length + 1 := rfl
theorem xBd_d {L : List (Int × Int × Int × Int)} {m : Nat} (hL : XOk L m) (h1 : 1 ≤ m) (h6 : m ≤ 6) {q : List Int} (h : St m q) : (xBd L m).d (rankL q) = gfar (xG L m) q (ramp 1 m) := by
  show gfar (xG L m) (ramp 1 m) (unrank m (rankL q)) = _
  rw [unrank_rank h1 (by omega) h]
  exact gfar_symm (xG_ok hL h1 h6) (show (xG L m).St (ramp 1 m) from St.ramp m h1 (by omega)) h
theorem xBd_le {L : List (Int × Int × Int × Int)} {m : Nat} (hL : XOk L m) (h1 : 1 ≤ m) (h6 : m ≤ 6) {r : Nat} (h : r < (xBd L m).N) : (xBd L m).d r ≤ 5 := by
  have := (gfar_spec (xG_ok hL h1 h6) (show (xG L m).St (ramp 1 m) from St.ramp m h1 (by omega)) (show (xG L m).St _ from unrank_st h1 (by omega) h)).2.1
  have e : (xG L m).dm = m - 1 := rfl
  show gfar (xG L m) (ramp 1 m) (unrank m r) ≤ 5
  omega

end Go.Pan
