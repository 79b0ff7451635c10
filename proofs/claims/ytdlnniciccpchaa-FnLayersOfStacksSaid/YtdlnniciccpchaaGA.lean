import Derived.Test.YtdlnniciccpchaaG1
namespace Go.Pan
/-! Searches over whatever moves: a game has moves (numbers), each with one that takes it back, and positions (lists of numbers). -/
structure Gm where
  ks : List Nat
  mv : List Int → Nat → List Int
  bk : Nat → Nat
  St : List Int → Prop
  len : Nat
  dm : Nat
  all : List (List Int)
/-- from where the move k leads to q -/
def gpr (n : Gm) (q : List Int) (k : Nat) : List Int := n.mv q (n.bk k)
/-- how many lists of d moves lead from s to t -/
def gways (n : Gm) : Nat → List Int → List Int → Nat
  | 0, s, t => if s = t then 1 else 0
  | d + 1, s, t => (n.ks.map fun k => gways n d s (gpr n t k)).sum
theorem gways_zero (n : Gm) (s t : List Int) : gways n 0 s t = if s = t then 1 else 0 := rfl
theorem gways_last (n : Gm) (d : Nat) (s t : List Int) : gways n (d + 1) s t = (n.ks.map fun k => gways n d s (gpr n t k)).sum := rfl
structure GOk (n : Gm) : Prop where
  len9 : n.len ≤ 9
  length : ∀ q, n.St q → q.length = n.len
  small : ∀ q, n.St q → ∀ x ∈ q, -9 ≤ x ∧ x ≤ 9
  mem : ∀ q, q ∈ n.all ↔ n.St q
  nodup : n.all.Nodup
  total : n.all.length ≤ 362880
  mvSt : ∀ q k, n.St q → k ∈ n.ks → n.St (n.mv q k)
  bkIn : ∀ k, k ∈ n.ks → n.bk k ∈ n.ks
  bkBk : ∀ k, k ∈ n.ks → n.bk (n.bk k) = k
  mvBk : ∀ q k, n.St q → k ∈ n.ks → n.mv (n.mv q k) (n.bk k) = q
  rising : n.ks.Pairwise (· < ·)
  reach : ∀ s t, n.St s → n.St t → ∃ d, d ≤ n.dm ∧ 0 < gways n d s t
  few : n.ks.length ^ (n.dm + 1) ≤ 1000000000000
  kpos : ∀ k, k ∈ n.ks → 1 ≤ k ∧ k ≤ 1000
  dm30 : n.dm ≤ 1000

theorem sum_reindex (l : List Nat) (f : Nat → Nat) (b : Nat → Nat) (hn : l.Nodup) (hm : ∀ k ∈ l, b k ∈ l) (hb : ∀ k ∈ l, b (b k) = k) : (l.map fun k => f (b k)).sum = (l.map f).sum := by
  rw [sum_congr (f := fun k => f (b k)) (g := fun k => (l.map fun j => if j = b k then f (b k) else 0).sum) (fun k hk => (sum_one hn (hm k hk) _).symm), sum_swap]
  refine sum_congr fun j hj => ?_
  rw [sum_congr (g := fun k => if k = b j then f j else 0) (fun k hk => ?_), sum_one hn (hm j hj)]
  by_cases e : k = b j
  · subst e
    rw [if_pos (hb j hj).symm, if_pos rfl, hb j hj]
  · rw [if_neg (fun h => e (by rw [h, hb k hk])), if_neg e]

section
variable {n : Gm} (hn : GOk n) {s t u q : List Int}
include hn
theorem GOk.ksNodup : n.ks.Nodup := hn.rising.imp fun {a b} h => by omega
theorem GOk.prSt {k : Nat} (hs : n.St s) (hk : k ∈ n.ks) : n.St (gpr n s k) := hn.mvSt _ _ hs (hn.bkIn _ hk)
theorem mv_pr {k : Nat} (hs : n.St s) (hk : k ∈ n.ks) : n.mv (gpr n s k) k = s := by
  have := hn.mvBk s (n.bk k) hs (hn.bkIn _ hk)
  rwa [hn.bkBk _ hk] at this
theorem pr_mv {k : Nat} (hs : n.St s) (hk : k ∈ n.ks) : gpr n (n.mv s k) k = s := hn.mvBk s k hs hk
theorem mv_is_pr {k : Nat} (hk : k ∈ n.ks) (q : List Int) : n.mv q k = gpr n q (n.bk k) := by unfold gpr; rw [hn.bkBk _ hk]
theorem eq_pr_iff {k : Nat} (hs : n.St s) (ht : n.St t) (hk : k ∈ n.ks) : s = gpr n t k ↔ n.mv s k = t := by
  constructor
  · rintro rfl; exact mv_pr hn ht hk
  · rintro rfl; exact (pr_mv hn hs hk).symm
theorem gways_first (d : Nat) (hs : n.St s) (ht : n.St t) : gways n (d + 1) s t = (n.ks.map fun k => gways n d (n.mv s k) t).sum := by
  induction d generalizing t with
  | zero =>
    rw [gways_last]
    refine sum_congr fun k hk => ?_
    simp only [gways_zero]
    by_cases h : s = gpr n t k
    · rw [if_pos h, if_pos ((eq_pr_iff hn hs ht hk).1 h)]
    · rw [if_neg h, if_neg (fun e => h ((eq_pr_iff hn hs ht hk).2 e))]
  | succ d ih =>
    rw [gways_last]
    rw [sum_congr (fun k hk => ih (hn.prSt ht hk)), sum_swap]
    rfl
theorem gways_symm (d : Nat) (hs : n.St s) (ht : n.St t) : gways n d s t = gways n d t s := by
  induction d generalizing s t with
  | zero =>
    simp only [gways_zero]
    by_cases h : s = t
    · rw [if_pos h, if_pos h.symm]
    · rw [if_neg h, if_neg (fun e => h e.symm)]
  | succ d ih =>
    rw [gways_last, gways_first hn d ht hs, ← sum_reindex n.ks (fun k => gways n d (n.mv t k) s) n.bk hn.ksNodup hn.bkIn hn.bkBk]
    exact sum_congr fun k hk => ih hs (hn.prSt ht hk)
theorem gways_le (d : Nat) (s t : List Int) : gways n d s t ≤ n.ks.length ^ d := by
  have _ := hn
  induction d generalizing t with
  | zero => rw [gways_zero]; split <;> simp
  | succ d ih =>
    have h := sum_le n.ks (fun k => gways n d s (gpr n t k)) (n.ks.length ^ d) (fun k _ => ih _)
    rw [gways_last, Nat.pow_succ, Nat.mul_comm]
    exact h
omit hn in
theorem gways_step {d k : Nat} (hk : k ∈ n.ks) (h : 0 < gways n d s (gpr n t k)) : 0 < gways n (d + 1) s t := by
  rw [gways_last]; exact sum_pos.2 ⟨k, hk, h⟩
theorem gways_to {d k : Nat} (ht : n.St t) (hk : k ∈ n.ks) (h : 0 < gways n d s t) : 0 < gways n (d + 1) s (n.mv t k) := gways_step hk (by rw [pr_mv hn ht hk]; exact h)
theorem gways_trans {a b : Nat} (h1 : 0 < gways n a s u) (h2 : 0 < gways n b u t) : 0 < gways n (a + b) s t := by
  have _ := hn
  induction b generalizing t with
  | zero =>
    rw [gways_zero] at h2
    split at h2
    · rename_i e; subst e; exact h1
    · omega
  | succ b ih =>
    rw [gways_last] at h2
    obtain ⟨k, hk, h⟩ := sum_pos.1 h2
    exact gways_step hk (ih h)
theorem gways_split {a b : Nat} (ht : n.St t) (h : 0 < gways n (a + b) s t) : ∃ u, n.St u ∧ 0 < gways n a s u ∧ 0 < gways n b u t := by
  induction b generalizing t with
  | zero => exact ⟨t, ht, h, by rw [gways_zero, if_pos rfl]; omega⟩
  | succ b ih =>
    rw [← Nat.add_assoc, gways_last] at h
    obtain ⟨k, hk, h⟩ := sum_pos.1 h
    obtain ⟨u, hu, h1, h2⟩ := ih (hn.prSt ht hk) h
    exact ⟨u, hu, h1, gways_step hk h2⟩
end

/-- the least number of moves from s to t -/
def gfar (n : Gm) (s t : List Int) : Nat := leastFrom (fun d => decide (0 < gways n d s t)) (n.dm + 1) 0
section
variable {n : Gm} (hn : GOk n) {s t u q : List Int}
include hn
theorem gfar_spec (hs : n.St s) (ht : n.St t) : 0 < gways n (gfar n s t) s t ∧ gfar n s t ≤ n.dm ∧ ∀ e, e < gfar n s t → gways n e s t = 0 := by
  obtain ⟨d, hd, hw⟩ := hn.reach s t hs ht
  have h := leastFrom_spec (fun d => decide (0 < gways n d s t)) (n.dm + 1) 0 d (Nat.zero_le _) (by omega) (by simpa using hw)
  refine ⟨of_decide_eq_true h.1, Nat.le_trans h.2.1 hd, fun e he => ?_⟩
  have := h.2.2 e (Nat.zero_le _) he
  simp at this
  omega
theorem gfar_le (hs : n.St s) (ht : n.St t) {d : Nat} (h : 0 < gways n d s t) : gfar n s t ≤ d := by
  by_cases hd : d < gfar n s t
  · have := (gfar_spec hn hs ht).2.2 d hd; omega
  · omega
theorem gfar_symm (hs : n.St s) (ht : n.St t) : gfar n s t = gfar n t s := by
  have h1 := gfar_le hn ht hs (d := gfar n s t) (by rw [gways_symm hn _ ht hs]; exact (gfar_spec hn hs ht).1)
  have h2 := gfar_le hn hs ht (d := gfar n t s) (by rw [gways_symm hn _ hs ht]; exact (gfar_spec hn ht hs).1)
  omega
theorem gfar_tri (hs : n.St s) (hu : n.St u) (ht : n.St t) : gfar n s t ≤ gfar n s u + gfar n u t := gfar_le hn hs ht (gways_trans hn (gfar_spec hn hs hu).1 (gfar_spec hn hu ht).1)
theorem gfar_zero (hs : n.St s) (ht : n.St t) : gfar n s t = 0 ↔ s = t := by
  constructor
  · intro h
    have h1 := (gfar_spec hn hs ht).1
    rw [h, gways_zero] at h1
    split at h1
    · assumption
    · omega
  · rintro rfl
    have := gfar_le hn hs hs (d := 0) (by rw [gways_zero, if_pos rfl]; omega)
    omega
theorem gfar_mv {k : Nat} (hk : k ∈ n.ks) (hs : n.St s) (ht : n.St t) : gfar n s (n.mv t k) ≤ gfar n s t + 1 ∧ gfar n s t ≤ gfar n s (n.mv t k) + 1 := by
  constructor
  · exact gfar_le hn hs (hn.mvSt _ _ ht hk) (gways_to hn ht hk (gfar_spec hn hs ht).1)
  · refine gfar_le hn hs ht (gways_step (hn.bkIn _ hk) ?_)
    rw [← mv_is_pr hn hk]
    exact (gfar_spec hn hs (hn.mvSt _ _ ht hk)).1
theorem gfar_one {k : Nat} (hk : k ∈ n.ks) (hs : n.St s) (ht : n.St t) : gfar n s (gpr n t k) ≤ gfar n s t + 1 ∧ gfar n s t ≤ gfar n s (gpr n t k) + 1 := gfar_mv hn (hn.bkIn _ hk) hs ht
theorem gfar_prev {d : Nat} (hs : n.St s) (ht : n.St t) (h : gfar n s t = d + 1) : ∃ k ∈ n.ks, gfar n s (gpr n t k) = d := by
  have h1 := (gfar_spec hn hs ht).1
  rw [h, gways_last] at h1
  obtain ⟨k, hk, hw⟩ := sum_pos.1 h1
  refine ⟨k, hk, ?_⟩
  have h2 := gfar_le hn hs (hn.prSt ht hk) hw
  have h3 := (gfar_one hn hk hs ht).2
  omega
theorem gfar_mid {a b : Nat} (hs : n.St s) (ht : n.St t) (h : gfar n s t = a + b) : ∃ u, n.St u ∧ gfar n s u = a ∧ gfar n u t = b := by
  have h1 := (gfar_spec hn hs ht).1
  rw [h] at h1
  obtain ⟨u, hu, h2, h3⟩ := gways_split hn ht h1
  have h4 := gfar_le hn hs hu h2
  have h5 := gfar_le hn hu ht h3
  have h6 := gfar_tri hn hs hu ht
  exact ⟨u, hu, by omega, by omega⟩
theorem gways_far {d : Nat} (hs : n.St s) (ht : n.St t) (h : d < gfar n s t) : gways n d s t = 0 := (gfar_spec hn hs ht).2.2 d h
theorem gways_pos_far {d : Nat} (hs : n.St s) (ht : n.St t) (h : gfar n s t = d) : 0 < gways n d s t := by rw [← h]; exact (gfar_spec hn hs ht).1
theorem gways_big {d : Nat} (hd : d ≤ n.dm + 1) (s t : List Int) : gways n d s t ≤ 1000000000000 := by
  refine Nat.le_trans (gways_le hn d s t) ?_
  by_cases h0 : n.ks.length = 0
  · rw [h0]
    have : 0 ^ d ≤ 1 := by cases d <;> simp
    omega
  · exact Nat.le_trans (Nat.pow_le_pow_right (by omega) hd) hn.few
end

-- layers
def gbehC (n : Gm) (c : LC) : LC := fun q => (n.ks.map fun k => c (gpr n q k)).sum
def gmeetC (n : Gm) (c o : LC) : Prop := ∃ q, n.St q ∧ 0 < c q ∧ 0 < o q
def GEq (n : Gm) (c o : LC) : Prop := ∀ q, n.St q → c q = o q
theorem GEq.refl (n : Gm) (c : LC) : GEq n c c := fun _ _ => rfl
theorem GEq.symm {n : Gm} {c o : LC} (h : GEq n c o) : GEq n o c := fun q hq => (h q hq).symm
theorem GEq.trans {n : Gm} {c o u : LC} (h : GEq n c o) (h' : GEq n o u) : GEq n c u := fun q hq => (h q hq).trans (h' q hq)
theorem GEq.behind {n : Gm} (hn : GOk n) {c o : LC} (h : GEq n c o) : GEq n (gbehC n c) (gbehC n o) := fun _ hq => sum_congr fun _ hk => h _ (hn.prSt hq hk)
theorem GEq.keep {n : Gm} {c o c' o' : LC} (h : GEq n c o) (h' : GEq n c' o') : GEq n (keepC c c') (keepC o o') := fun q hq => by unfold keepC; rw [h q hq, h' q hq]
theorem GEq.drop {n : Gm} {c o c' o' : LC} (h : GEq n c o) (h' : GEq n c' o') : GEq n (dropC c c') (dropC o o') := fun q hq => by unfold dropC; rw [h q hq, h' q hq]
theorem GEq.meet {n : Gm} {c o c' o' : LC} (h : GEq n c o) (h' : GEq n c' o') : gmeetC n c c' ↔ gmeetC n o o' := by
  unfold gmeetC
  constructor
  · rintro ⟨q, hq, h1, h2⟩; exact ⟨q, hq, by rw [← h q hq]; exact h1, by rw [← h' q hq]; exact h2⟩
  · rintro ⟨q, hq, h1, h2⟩; exact ⟨q, hq, by rw [h q hq]; exact h1, by rw [h' q hq]; exact h2⟩
/-- the stacks at the distance i from s -/
def gnearC (n : Gm) (s : List Int) (i : Nat) : LC := fun q => if gfar n s q = i then gways n i s q else 0
/-- .. those of them from which t is j moves away -/
def gwayC (n : Gm) (s t : List Int) (i j : Nat) : LC := fun q => if gfar n s q = i ∧ gfar n q t = j then gways n i s q else 0
/-- the ends of all lists of i moves -/
def gallC (n : Gm) (s : List Int) (i : Nat) : LC := fun q => gways n i s q
section
variable {n : Gm} {s t : List Int}
theorem gallC_zero (n : Gm) (s : List Int) : GEq n (oneC s) (gallC n s 0) := fun q _ => by
  unfold oneC gallC
  rw [gways_zero]
  by_cases h : q = s
  · rw [if_pos h, if_pos h.symm]
  · rw [if_neg h, if_neg (fun e => h e.symm)]
theorem gallC_succ (n : Gm) (s : List Int) (i : Nat) : gbehC n (gallC n s i) = gallC n s (i + 1) := rfl
theorem gbehind_pos {c : LC} {q : List Int} : 0 < gbehC n c q ↔ ∃ k ∈ n.ks, 0 < c (gpr n q k) := sum_pos
variable (hn : GOk n)
include hn
theorem gnearC_pos (hs : n.St s) {i : Nat} {q : List Int} (hq : n.St q) : 0 < gnearC n s i q ↔ gfar n s q = i := by
  unfold gnearC
  split
  · rename_i h; exact ⟨fun _ => h, fun _ => gways_pos_far hn hs hq h⟩
  · rename_i h; exact ⟨fun h' => by omega, fun h' => absurd h' h⟩
theorem gwayC_pos (hs : n.St s) {i j : Nat} {q : List Int} (hq : n.St q) : 0 < gwayC n s t i j q ↔ gfar n s q = i ∧ gfar n q t = j := by
  unfold gwayC
  split
  · rename_i h; exact ⟨fun _ => h, fun _ => gways_pos_far hn hs hq h.1⟩
  · rename_i h; exact ⟨fun h' => by omega, fun h' => absurd h' h⟩
theorem gnearC_zero (hs : n.St s) : GEq n (oneC s) (gnearC n s 0) := fun q hq => by
  unfold oneC gnearC
  rw [gways_zero]
  by_cases h : q = s
  · subst h
    simp [(gfar_zero hn hq hq).2 rfl]
  · rw [if_neg h]
    split
    · rw [if_neg (fun e => h e.symm)]
    · rfl
theorem gbehind_near (hs : n.St s) {i : Nat} {q : List Int} (hq : n.St q) (h : gfar n s q = i + 1) : gbehC n (gnearC n s i) q = gways n (i + 1) s q := by
  rw [gways_last]
  refine sum_congr fun k hk => ?_
  unfold gnearC
  split
  · rfl
  · rename_i hne
    have h1 := (gfar_one hn hk hs hq).2
    exact (gways_far hn hs (hn.prSt hq hk) (by omega)).symm
theorem ggrown_first (hs : n.St s) : GEq n (dropC (gbehC n (gnearC n s 0)) (gnearC n s 0)) (gnearC n s 1) := fun q hq => by
  unfold dropC
  by_cases h0 : gfar n s q = 0
  · rw [if_pos ((gnearC_pos hn hs hq).2 h0)]
    unfold gnearC
    rw [if_neg (by omega)]
  · rw [if_neg (fun h => h0 ((gnearC_pos hn hs hq).1 h))]
    by_cases h1 : gfar n s q = 1
    · rw [gbehind_near hn hs hq h1]
      unfold gnearC
      rw [if_pos h1]
    · have hz : ¬ 0 < gbehC n (gnearC n s 0) q := fun h => by
        obtain ⟨k, hk, h⟩ := gbehind_pos.1 h
        have h2 := (gnearC_pos hn hs (hn.prSt hq hk)).1 h
        have h3 := (gfar_one hn hk hs hq).2
        omega
      unfold gnearC at hz ⊢
      rw [if_neg h1]
      omega
theorem ggrown_next (hs : n.St s) (i : Nat) : GEq n (dropC (dropC (gbehC n (gnearC n s (i + 1))) (gnearC n s i)) (gnearC n s (i + 1))) (gnearC n s (i + 2)) := fun q hq => by
  unfold dropC
  by_cases h0 : gfar n s q = i + 1
  · rw [if_pos ((gnearC_pos hn hs hq).2 h0)]
    unfold gnearC
    rw [if_neg (by omega)]
  · rw [if_neg (fun h => h0 ((gnearC_pos hn hs hq).1 h))]
    by_cases h00 : gfar n s q = i
    · rw [if_pos ((gnearC_pos hn hs hq).2 h00)]
      unfold gnearC
      rw [if_neg (by omega)]
    · rw [if_neg (fun h => h00 ((gnearC_pos hn hs hq).1 h))]
      by_cases h1 : gfar n s q = i + 2
      · rw [gbehind_near hn hs hq h1]
        unfold gnearC
        rw [if_pos h1]
      · have hz : ¬ 0 < gbehC n (gnearC n s (i + 1)) q := fun h => by
          obtain ⟨k, hk, h⟩ := gbehind_pos.1 h
          have h2 := (gnearC_pos hn hs (hn.prSt hq hk)).1 h
          have h3 := gfar_one hn hk hs hq
          omega
        unfold gnearC at hz ⊢
        rw [if_neg h1]
        omega
theorem gnear_meet (hs : n.St s) (ht : n.St t) {a b : Nat} (h : a + b ≤ gfar n s t) : gmeetC n (gnearC n s a) (gnearC n t b) ↔ gfar n s t = a + b := by
  constructor
  · rintro ⟨q, hq, h1, h2⟩
    have h1 := (gnearC_pos hn hs hq).1 h1
    have h2 := (gnearC_pos hn ht hq).1 h2
    have h3 := gfar_tri hn hs hq ht
    rw [gfar_symm hn ht hq] at h2
    omega
  · intro e
    obtain ⟨u, hu, h1, h2⟩ := gfar_mid hn hs ht e
    exact ⟨u, hu, (gnearC_pos hn hs hu).2 h1, (gnearC_pos hn ht hu).2 (by rw [gfar_symm hn ht hu]; exact h2)⟩
theorem gway_mid (_hs : n.St s) (ht : n.St t) (a b : Nat) : GEq n (keepC (gnearC n s a) (gnearC n t b)) (gwayC n s t a b) := fun q hq => by
  unfold keepC
  by_cases h2 : gfar n q t = b
  · rw [if_pos ((gnearC_pos hn ht hq).2 (by rw [gfar_symm hn ht hq]; exact h2))]
    unfold gnearC gwayC
    by_cases h1 : gfar n s q = a
    · rw [if_pos h1, if_pos ⟨h1, h2⟩]
    · rw [if_neg h1, if_neg (fun h => h1 h.1)]
  · rw [if_neg (fun h => h2 (by rw [← gfar_symm hn ht hq]; exact (gnearC_pos hn ht hq).1 h))]
    unfold gwayC
    rw [if_neg (fun h => h2 h.2)]
/-- a wave grows from its moves: the moves back are moves -/
theorem gbeh_mv {c : LC} {q : List Int} : (0 < gbehC n c q) ↔ ∃ k ∈ n.ks, 0 < c (n.mv q k) := by
  rw [gbehind_pos]
  constructor
  · rintro ⟨k, hk, h⟩; exact ⟨n.bk k, hn.bkIn _ hk, h⟩
  · rintro ⟨k, hk, h⟩; exact ⟨n.bk k, hn.bkIn _ hk, by rw [← mv_is_pr hn hk]; exact h⟩
theorem gway_back (hs : n.St s) (ht : n.St t) {i j : Nat} (hd : gfar n s t = i + (j + 1)) : GEq n (keepC (gnearC n s i) (gbehC n (gwayC n s t (i + 1) j))) (gwayC n s t i (j + 1)) := fun q hq => by
  unfold keepC
  have key : gfar n s q = i → (0 < gbehC n (gwayC n s t (i + 1) j) q ↔ gfar n q t = j + 1) := fun hi => by
    rw [gbehind_pos]
    constructor
    · rintro ⟨k, hk, h⟩
      have h1 := (gwayC_pos hn hs (hn.prSt hq hk)).1 h
      have h2 := (gfar_one hn hk ht hq).2
      rw [gfar_symm hn ht hq, gfar_symm hn ht (hn.prSt hq hk)] at h2
      have h3 := gfar_tri hn hs hq ht
      omega
    · intro h
      obtain ⟨k, hk, e⟩ := gfar_prev hn ht hq (show gfar n t q = j + 1 by rw [gfar_symm hn ht hq]; exact h)
      rw [gfar_symm hn ht (hn.prSt hq hk)] at e
      refine ⟨k, hk, (gwayC_pos hn hs (hn.prSt hq hk)).2 ⟨?_, e⟩⟩
      have h1 := (gfar_one hn hk hs hq).1
      have h2 := gfar_tri hn hs (hn.prSt hq hk) ht
      omega
  by_cases hi : gfar n s q = i
  · by_cases hj : gfar n q t = j + 1
    · rw [if_pos ((key hi).2 hj)]
      unfold gnearC gwayC
      rw [if_pos hi, if_pos ⟨hi, hj⟩]
    · rw [if_neg (fun h => hj ((key hi).1 h))]
      unfold gwayC
      rw [if_neg (fun h => hj h.2)]
  · have h1 : gnearC n s i q = 0 := by unfold gnearC; rw [if_neg hi]
    have h2 : gwayC n s t i (j + 1) q = 0 := by unfold gwayC; rw [if_neg (fun h => hi h.1)]
    rw [h1, h2]
    split <;> rfl
theorem gway_forth (hs : n.St s) (ht : n.St t) {i j : Nat} (hd : gfar n s t = i + (j + 1)) : GEq n (keepC (gbehC n (gwayC n s t i (j + 1))) (gnearC n t j)) (gwayC n s t (i + 1) j) := fun q hq => by
  unfold keepC
  by_cases hj : gfar n q t = j
  · rw [if_pos ((gnearC_pos hn ht hq).2 (by rw [gfar_symm hn ht hq]; exact hj))]
    have h0 := gfar_tri hn hs hq ht
    by_cases hi : gfar n s q = i + 1
    · unfold gwayC
      rw [if_pos ⟨hi, hj⟩, gways_last]
      refine sum_congr fun k hk => ?_
      show (if gfar n s (gpr n q k) = i ∧ gfar n (gpr n q k) t = j + 1 then gways n i s (gpr n q k) else 0) = _
      have h1 := (gfar_one hn hk hs hq).2
      by_cases h2 : gfar n s (gpr n q k) = i
      · have h3 := gfar_tri hn hs (hn.prSt hq hk) ht
        have h4 := (gfar_one hn hk ht hq).1
        rw [gfar_symm hn ht hq, gfar_symm hn ht (hn.prSt hq hk)] at h4
        rw [if_pos ⟨h2, by omega⟩]
      · rw [if_neg (fun h => h2 h.1)]
        exact (gways_far hn hs (hn.prSt hq hk) (by omega)).symm
    · have hz : ¬ 0 < gbehC n (gwayC n s t i (j + 1)) q := fun h => by
        obtain ⟨k, hk, h⟩ := gbehind_pos.1 h
        have h1 := (gwayC_pos hn hs (hn.prSt hq hk)).1 h
        have h2 := (gfar_one hn hk hs hq).2
        omega
      have h2 : gwayC n s t (i + 1) j q = 0 := by unfold gwayC; rw [if_neg (fun h => hi h.1)]
      omega
  · rw [if_neg (fun h => hj (by rw [← gfar_symm hn ht hq]; exact (gnearC_pos hn ht hq).1 h))]
    unfold gwayC
    rw [if_neg (fun h => hj h.2)]
end
def gwayL (n : Gm) (s t : List Int) (d : Nat) : List LC := (List.range (d + 1)).map fun i => gwayC n s t i (d - i)
def gnearL (n : Gm) (s : List Int) (a : Nat) : List LC := (List.range (a + 1)).map fun i => gnearC n s i

-- the layer behind, in the making: 'done' tells the stacks that have been gone on from; of x the first moves have been made
def gbehM (n : Gm) (c : LC) (done : List Int → Bool) : LC := fun q => (n.ks.map fun k => if done (gpr n q k) = true then c (gpr n q k) else 0).sum
def gbehN (n : Gm) (c : LC) (done : List Int → Bool) (x : List Int) (K : Nat) : LC := fun q => (n.ks.map fun k => if (done (gpr n q k) = true ∧ gpr n q k ≠ x) ∨ (gpr n q k = x ∧ k ∈ n.ks.take K) then c (gpr n q k) else 0).sum
theorem take_mem_succ {l : List Nat} (h : l.Nodup) {i k : Nat} (hi : i < l.length) : k ∈ l.take (i + 1) ↔ k ∈ l.take i ∨ k = l[i] := by
  rw [List.take_succ_eq_append_getElem hi, List.mem_append, List.mem_singleton]
theorem not_mem_take_self {l : List Nat} (h : l.Nodup) {i : Nat} (hi : i < l.length) : l[i] ∉ l.take i := by
  intro hm
  obtain ⟨j, hj, e⟩ := List.mem_take_iff_getElem.1 hm
  exact (List.pairwise_iff_getElem.1 h) j i (by omega) hi (by omega) e
section
variable {n : Gm} (hn : GOk n) {c : LC} {done done' : List Int → Bool} {x : List Int}
include hn
theorem gbehN_first (h : ∀ y, n.St y → y ≠ x → done' y = done y) (hx : done x = false) : GEq n (gbehM n c done) (gbehN n c done' x 0) := fun q hq => by
  refine sum_congr fun k hk => ?_
  by_cases e : gpr n q k = x
  · simp [e, hx]
  · simp [e, h _ (hn.prSt hq hk) e]
theorem gbehN_last (hx : done x = true) : GEq n (gbehN n c done x n.ks.length) (gbehM n c done) := fun q _ => by
  have _ := hn
  refine sum_congr fun k hk => ?_
  rw [List.take_length]
  by_cases e : gpr n q k = x
  · simp [e, hx, hk]
  · simp [e]
theorem gbehN_succ {i : Nat} (hi : i < n.ks.length) (hx : n.St x) : GEq n (gbehN n c done x (i + 1)) (fun q => if q = n.mv x n.ks[i] then gbehN n c done x i (n.mv x n.ks[i]) + c x else gbehN n c done x i q) := fun q hq => by
  have hK : n.ks[i] ∈ n.ks := List.getElem_mem hi
  have key : gbehN n c done x (i + 1) q = gbehN n c done x i q + (if gpr n q n.ks[i] = x then c x else 0) := by
    unfold gbehN
    rw [sum_congr (g := fun k' => (if (done (gpr n q k') = true ∧ gpr n q k' ≠ x) ∨ (gpr n q k' = x ∧ k' ∈ n.ks.take i) then c (gpr n q k') else 0) + if k' = n.ks[i] then (if gpr n q n.ks[i] = x then c x else 0) else 0) (fun k' _ => ?_), sum_map_add, sum_one hn.ksNodup hK]
    have hns := not_mem_take_self hn.ksNodup hi
    by_cases e : k' = n.ks[i]
    · subst e
      by_cases h : gpr n q n.ks[i] = x
      · simp [h, hns, take_mem_succ hn.ksNodup hi]
      · simp [h]
    · have h3 : (k' ∈ n.ks.take (i + 1)) = (k' ∈ n.ks.take i) := by rw [take_mem_succ hn.ksNodup hi]; simp [e]
      simp [e, h3]
  rw [key]
  show _ = if q = n.mv x n.ks[i] then gbehN n c done x i (n.mv x n.ks[i]) + c x else gbehN n c done x i q
  by_cases e : q = n.mv x n.ks[i]
  · subst e
    rw [if_pos rfl, if_pos (pr_mv hn hx hK)]
  · rw [if_neg e, if_neg (fun h => e ((eq_pr_iff hn hx hq hK).1 h.symm).symm)]
    omega
theorem gbehN_le {K M : Nat} (hM : ∀ q, n.St q → c q ≤ M) (q : List Int) (hq : n.St q) : gbehN n c done x K q ≤ n.ks.length * M :=
  sum_le n.ks (fun k => if (done (gpr n q k) = true ∧ gpr n q k ≠ x) ∨ (gpr n q k = x ∧ k ∈ n.ks.take K) then c (gpr n q k) else 0) M (fun k hk => by
    show (if (done (gpr n q k) = true ∧ gpr n q k ≠ x) ∨ (gpr n q k = x ∧ k ∈ n.ks.take K) then c (gpr n q k) else 0) ≤ M
    split
    · exact hM _ (hn.prSt hq hk)
    · exact Nat.zero_le _)
theorem gbehM_none (h : ∀ y, n.St y → done y = true → c y = 0) : GEq n (gbehM n c done) (fun _ => 0) := fun q hq => by
  unfold gbehM
  rw [sum_congr (g := fun _ => 0) (fun k hk => ?_), sum_map_zero]
  split
  · exact h _ (hn.prSt hq hk) (by assumption)
  · rfl
theorem gbehM_all (h : ∀ y, n.St y → done y = true) : GEq n (gbehM n c done) (gbehC n c) := fun q hq => by
  refine sum_congr fun k hk => ?_
  rw [if_pos (h _ (hn.prSt hq hk))]
end

-- plans along a way
/-- the first i moves of those that P tells -/
def gpick (n : Gm) (P : Nat → Bool) (i : Nat) : List Int := ((n.ks.take i).filter P).map fun (j : Nat) => (j : Int)
theorem gpick_zero (n : Gm) (P : Nat → Bool) : gpick n P 0 = [] := rfl
theorem gpick_yes {n : Gm} {P : Nat → Bool} {i : Nat} (hi : i < n.ks.length) (h : P n.ks[i] = true) : gpick n P (i + 1) = gpick n P i ++ [(n.ks[i] : Int)] := by
  unfold gpick
  rw [List.take_succ_eq_append_getElem hi, List.filter_append, List.map_append]
  simp [h]
theorem gpick_no {n : Gm} {P : Nat → Bool} {i : Nat} (hi : i < n.ks.length) (h : P n.ks[i] = false) : gpick n P (i + 1) = gpick n P i := by
  unfold gpick
  rw [List.take_succ_eq_append_getElem hi, List.filter_append, List.map_append]
  simp [h]
theorem gpick_length (n : Gm) (P : Nat → Bool) (i : Nat) : (gpick n P i).length ≤ i := by
  have h := List.length_filter_le P (n.ks.take i)
  have h2 : (n.ks.take i).length ≤ i := List.length_take_le _ _
  simp only [gpick, List.length_map]
  omega
def gpickL (n : Gm) (P : Nat → Bool) : List Int := (n.ks.filter P).map fun (j : Nat) => (j : Int)
theorem gpick_all (n : Gm) (P : Nat → Bool) : gpick n P n.ks.length = gpickL n P := by unfold gpick gpickL; rw [List.take_length]
theorem gpickL_congr {n : Gm} {P Q : Nat → Bool} (h : ∀ j ∈ n.ks, P j = Q j) : gpickL n P = gpickL n Q := by
  unfold gpickL
  rw [List.filter_congr h]
/-- a move that leads closer to t -/
def gclo (n : Gm) (t q : List Int) (k : Nat) : Bool := decide (gfar n (n.mv q k) t + 1 = gfar n q t)
def gfirK (n : Gm) (t q : List Int) : Nat := (n.ks.find? (gclo n t q)).getD 0
def ggoL (n : Gm) (t : List Int) : Nat → List Int → List Int
  | 0, _ => []
  | e + 1, q => (gfirK n t q : Int) :: ggoL n t e (n.mv q (gfirK n t q))
theorem ggoL_length (n : Gm) (t : List Int) (e : Nat) (q : List Int) : (ggoL n t e q).length = e := by
  induction e generalizing q with
  | zero => rfl
  | succ e ih => simp [ggoL, ih]
section
variable {n : Gm} (hn : GOk n) {s t q : List Int}
include hn
theorem gfirK_some (hq : n.St q) (ht : n.St t) {e : Nat} (h : gfar n q t = e + 1) : n.ks.find? (gclo n t q) = some (gfirK n t q) := by
  obtain ⟨k, hk, hf⟩ := gfar_prev hn ht hq (d := e) (by rw [gfar_symm hn ht hq]; exact h)
  have hc : gclo n t q (n.bk k) = true := by
    unfold gclo
    have hf' : gfar n t (n.mv q (n.bk k)) = e := hf
    rw [gfar_symm hn (hn.mvSt _ _ hq (hn.bkIn _ hk)) ht, hf', h]
    simp
  cases hfi : n.ks.find? (gclo n t q) with
  | none => exact absurd hc (by simpa using List.find?_eq_none.1 hfi _ (hn.bkIn _ hk))
  | some j => simp [gfirK, hfi]
theorem gfirK_spec (hq : n.St q) (ht : n.St t) {e : Nat} (h : gfar n q t = e + 1) : gfirK n t q ∈ n.ks ∧ gfar n (n.mv q (gfirK n t q)) t = e := by
  have h1 := gfirK_some hn hq ht h
  have h2 := List.find?_some h1
  have h3 := List.mem_of_find?_eq_some h1
  refine ⟨h3, ?_⟩
  have h4 : gfar n (n.mv q (gfirK n t q)) t + 1 = gfar n q t := of_decide_eq_true h2
  omega
theorem gpickL_head (hq : n.St q) (ht : n.St t) {e : Nat} (h : gfar n q t = e + 1) : ∃ r, gpickL n (gclo n t q) = (gfirK n t q : Int) :: r := by
  have h1 := gfirK_some hn hq ht h
  rw [← List.head?_filter] at h1
  cases hf : n.ks.filter (gclo n t q) with
  | nil => rw [hf] at h1; cases h1
  | cons a l =>
    rw [hf] at h1
    simp at h1
    subst h1
    exact ⟨l.map fun (j : Nat) => (j : Int), by simp [gpickL, hf]⟩
theorem gfirK_least (hq : n.St q) (ht : n.St t) {e : Nat} (h : gfar n q t = e + 1) {j : Nat} (hj : j ∈ n.ks) (hl : j < gfirK n t q) : gclo n t q j = false := by
  have h1 := gfirK_some hn hq ht h
  obtain ⟨_, as, bs, he, hb⟩ := List.find?_eq_some_iff_append.1 h1
  have hs := hn.rising
  rw [he] at hj hs
  rcases List.mem_append.1 hj with h2 | h2
  · simpa using hb j h2
  · rw [List.pairwise_append] at hs
    rcases List.mem_cons.1 h2 with rfl | h2
    · omega
    · have := (List.pairwise_cons.1 hs.2.1).1 j h2
      omega
theorem glayer_clo (hs : n.St s) (ht : n.St t) (hq : n.St q) {i d : Nat} (hi : gfar n s q = i) (hj : gfar n q t = d + 1) (hd : gfar n s t = i + (d + 1)) {k : Nat} (hk : k ∈ n.ks) : decide (0 < gwayC n s t (i + 1) d (n.mv q k)) = gclo n t q k := by
  have hm := hn.mvSt _ _ hq hk
  rw [Bool.eq_iff_iff, decide_eq_true_iff, gwayC_pos hn hs hm]
  unfold gclo
  rw [decide_eq_true_iff, hj]
  have h1 := gfar_mv hn hk hs hq
  have h2 := gfar_tri hn hs hm ht
  omega
end
structure GPath (n : Gm) (s t : List Int) (d i : Nat) (q out : List Int) : Prop where
  st : n.St q
  fr : gfar n s q = i
  ah : gfar n q t + i = d
  whole : out ++ ggoL n t (d - i) q = ggoL n t d s
  len : out.length = i
section
variable {n : Gm} (hn : GOk n) {s t q out : List Int} {d i : Nat}
theorem GPath.more (h : GPath n s t d i q out) (hi : i < d) : gfar n q t = (d - i - 1) + 1 := by have := h.ah; omega
theorem GPath.last (h : GPath n s t d d q out) : out = ggoL n t d s := by
  have h1 := h.whole
  rw [Nat.sub_self] at h1
  simpa [ggoL] using h1
include hn
theorem GPath.start (hs : n.St s) (hd : gfar n s t = d) : GPath n s t d 0 s [] := ⟨hs, (gfar_zero hn hs hs).2 rfl, by omega, rfl, rfl⟩
theorem GPath.next (hs : n.St s) (ht : n.St t) (hd : gfar n s t = d) (h : GPath n s t d i q out) (hi : i < d) : GPath n s t d (i + 1) (n.mv q (gfirK n t q)) (out ++ [(gfirK n t q : Int)]) := by
  obtain ⟨h1, h2⟩ := gfirK_spec hn h.st ht (h.more hi)
  have hm := hn.mvSt _ _ h.st h1
  have h3 := gfar_mv hn h1 hs h.st
  have h4 := gfar_tri hn hs hm ht
  have h5 := h.fr
  refine ⟨hm, by omega, by omega, ?_, by simp [h.len]⟩
  have h6 := h.whole
  rw [show d - i = (d - (i + 1)) + 1 by omega, ggoL] at h6
  rw [← h6]
  simp
theorem GPath.into (hs : n.St s) (ht : n.St t) (hd : gfar n s t = d) (h : GPath n s t d i q out) (hi : i < d) : ∃ r, gpickL n (fun k => decide (0 < gwayC n s t (i + 1) (d - (i + 1)) (n.mv q k))) = (gfirK n t q : Int) :: r := by
  rw [gpickL_congr (Q := gclo n t q) (fun k hk => glayer_clo hn hs ht h.st h.fr (d := d - (i + 1)) (by have := h.ah; omega) (by omega) hk)]
  exact gpickL_head hn h.st ht (h.more hi)
end

end Go.Pan

namespace Go.Pan
def gmaxN (l : List Nat) : Nat := l.foldr max 0
theorem le_gmaxN {l : List Nat} {x : Nat} (h : x ∈ l) : x ≤ gmaxN l := by
  induction l with
  | nil => cases h
  | cons a l ih =>
    simp only [gmaxN, List.foldr_cons]
    rcases List.mem_cons.1 h with rfl | h
    · exact Nat.le_max_left _ _
    · exact Nat.le_trans (ih h) (Nat.le_max_right _ _)
theorem gmaxN_mem {l : List Nat} (h : l ≠ []) : gmaxN l ∈ l := by
  induction l with
  | nil => exact absurd rfl h
  | cons a l ih =>
    simp only [gmaxN, List.foldr_cons]
    by_cases e : l = []
    · subst e; simp
    · have h1 := ih e
      rcases Nat.le_total a (gmaxN l) with h2 | h2
      · rw [show max a (List.foldr max 0 l) = gmaxN l from Nat.max_eq_right h2]
        exact List.mem_cons_of_mem _ h1
      · rw [show max a (List.foldr max 0 l) = a from Nat.max_eq_left h2]
        simp
/-- the greatest distance from s -/
def gecc (n : Gm) (s : List Int) : Nat := gmaxN (n.all.map (gfar n s))
/-- how many stacks are so far -/
def gbyN (n : Gm) (s : List Int) (e : Nat) : Nat := n.all.countP fun q => decide (0 < gnearC n s e q)
section
variable {n : Gm} (hn : GOk n) {s : List Int} (hs : n.St s)
include hn hs
theorem gfar_ecc {q : List Int} (hq : n.St q) : gfar n s q ≤ gecc n s := have _ := hs; le_gmaxN (List.mem_map.2 ⟨q, (hn.mem q).2 hq, rfl⟩)
theorem gecc_at : ∃ q, n.St q ∧ gfar n s q = gecc n s := by
  have h1 : n.all.map (gfar n s) ≠ [] := by
    intro e
    have h2 := (hn.mem s).2 hs
    rw [List.map_eq_nil_iff] at e
    rw [e] at h2
    cases h2
  obtain ⟨q, hq, e⟩ := List.mem_map.1 (gmaxN_mem h1)
  exact ⟨q, (hn.mem q).1 hq, e⟩
theorem gecc_le : gecc n s ≤ n.dm := by
  obtain ⟨q, hq, e⟩ := gecc_at hn hs
  rw [← e]
  exact (gfar_spec hn hs hq).2.1
theorem gbyN_pos (e : Nat) : 0 < gbyN n s e ↔ e ≤ gecc n s := by
  unfold gbyN
  rw [List.countP_pos_iff]
  constructor
  · rintro ⟨q, hq, h⟩
    have hst := (hn.mem q).1 hq
    have h1 := (gnearC_pos hn hs hst).1 (of_decide_eq_true h)
    rw [← h1]
    exact gfar_ecc hn hs hst
  · intro h
    obtain ⟨q, hq, he⟩ := gecc_at hn hs
    obtain ⟨u, hu, h1, _⟩ := gfar_mid hn (a := e) (b := gecc n s - e) hs hq (by omega)
    exact ⟨u, (hn.mem u).2 hu, decide_eq_true ((gnearC_pos hn hs hu).2 h1)⟩
end
theorem gbyN_le (n : Gm) (s : List Int) (e : Nat) : gbyN n s e ≤ n.all.length := List.countP_le_length
def gbyL (n : Gm) (s : List Int) : List Int := (List.range (gecc n s + 1)).map fun e => (gbyN n s e : Int)
/-- the counts written up to k -/
def gbyTo (n : Gm) (s : List Int) (k : Nat) : List Int := (List.range (gecc n s + 1)).map fun e => if e < k then (gbyN n s e : Int) else 0
theorem gbyTo_length (n : Gm) (s : List Int) (k : Nat) : (gbyTo n s k).length = gecc n s + 1 := by simp [gbyTo]
theorem gbyL_length (n : Gm) (s : List Int) : (gbyL n s).length = gecc n s + 1 := by simp [gbyL]
theorem gbyTo_zero (n : Gm) (s : List Int) : gbyTo n s 0 = List.replicate (gecc n s + 1) 0 := by
  simp only [gbyTo, Nat.not_lt_zero, if_false]
  rw [List.map_const', List.length_range]
theorem gbyTo_set {n : Gm} {s : List Int} {k : Nat} (_h : k ≤ gecc n s) : (gbyTo n s k).set k (gbyN n s k : Int) = gbyTo n s (k + 1) := by
  apply List.ext_getElem (by simp [gbyTo])
  intro i h1 h2
  have hi : i < gecc n s + 1 := by simpa [gbyTo] using h2
  simp only [gbyTo, List.getElem_set, List.getElem_map, List.getElem_range]
  by_cases e : k = i
  · subst e; simp
  · rw [if_neg e]
    by_cases h : i < k
    · rw [if_pos h, if_pos (by omega)]
    · rw [if_neg h, if_neg (by omega)]
theorem gbyTo_all (n : Gm) (s : List Int) : gbyTo n s (gecc n s + 1) = gbyL n s := by
  apply List.ext_getElem (by simp [gbyTo, gbyL])
  intro i h1 h2
  have hi : i < gecc n s + 1 := by simpa [gbyTo] using h1
  simp [gbyTo, gbyL, hi]

end Go.Pan

