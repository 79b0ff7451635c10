import Derived.Test.YtkeenoklghkonaaG1
import Derived.Test.YtkeenoklghkonaaGA
import Derived.Test.YtkeenoklghkonaaGD
namespace Go.Pan

/-- a board: places 0 .. N - 1, moves lo .. hi - 1, how far each place is from 0 -/
structure Bd where
  N : Nat
  lo : Nat
  hi : Nat
  nb : Nat → Nat → Nat
  d : Nat → Nat
structure BOk (g : Bd) : Prop where
  pos : 0 < g.N
  lt : ∀ r k, r < g.N → g.lo ≤ k → k < g.hi → g.nb r k < g.N
  d0 : g.d 0 = 0
  dz : ∀ r, r < g.N → g.d r = 0 → r = 0
  step : ∀ r k, r < g.N → g.lo ≤ k → k < g.hi → g.d (g.nb r k) ≤ g.d r + 1
  prev : ∀ r e, r < g.N → g.d r = e + 1 → ∃ y k, y < g.N ∧ g.lo ≤ k ∧ k < g.hi ∧ g.nb y k = r ∧ g.d y = e

/-- the queue before the number p of it is looked at -/
structure SQ (g : Bd) (Q : List Nat) (p : Nat) : Prop where
  lt : ∀ r ∈ Q, r < g.N
  nodup : Q.Nodup
  head : Q[0]? = some 0
  sorted : ∀ i j a b : Nat, i ≤ j → Q[i]? = some a → Q[j]? = some b → g.d a ≤ g.d b
  closed : ∀ i a : Nat, i < p → Q[i]? = some a → ∀ k, g.lo ≤ k → k < g.hi → g.nb a k ∈ Q
  top : ∀ x : Nat, Q[p]? = some x → ∀ r ∈ Q, g.d r ≤ g.d x + 1
  hp : p ≤ Q.length
/-- .. the number x at the place p being looked at, the moves below k having been made -/
structure SI (g : Bd) (Q : List Nat) (p x k : Nat) : Prop extends SQ g Q p where
  cur : Q[p]? = some x
  done : ∀ k', g.lo ≤ k' → k' < k → k' < g.hi → g.nb x k' ∈ Q

section
variable {g : Bd} {Q : List Nat} {p x k : Nat}
theorem SQ.start (hg : BOk g) : SQ g [0] 0 := by
  refine ⟨fun r hr => ?_, by simp, rfl, fun i j a b _ ha hb => ?_, fun i a h => by omega, fun x hx r hr => ?_, by simp⟩
  · simp at hr; subst hr; exact hg.pos
  · have h1 : i < 1 := (List.getElem?_eq_some_iff.1 ha).1
    have h2 : j < 1 := (List.getElem?_eq_some_iff.1 hb).1
    obtain rfl : i = 0 := by omega
    obtain rfl : j = 0 := by omega
    rw [ha] at hb
    cases hb
    exact Nat.le_refl _
  · simp at hx hr
    subst hx; subst hr
    omega
theorem SQ.length_le (h : SQ g Q p) : Q.length ≤ g.N := by
  have h1 : (Q.map fun r : Nat => (r : Int)).Nodup := List.pairwise_map.2 (h.nodup.imp fun {a b} hab e => hab (by omega))
  have h2 := length_le_of_nodup_subset (Q.map fun r : Nat => (r : Int)) (ramp 0 g.N) h1 (fun y hy => by
    simp only [List.mem_map] at hy
    obtain ⟨r, hr, rfl⟩ := hy
    have := h.lt r hr
    exact mem_ramp.2 ⟨by omega, by omega⟩)
  rw [List.length_map, ramp_length] at h2
  exact h2
theorem SQ.inner (h : SQ g Q p) (hx : Q[p]? = some x) : SI g Q p x g.lo := ⟨h, hx, fun k' h1 h2 => by omega⟩
/-- what is as near as the one that is looked at has been found -/
theorem SQ.low (hg : BOk g) (h : SQ g Q p) (hx : Q[p]? = some x) : ∀ d r, r < g.N → g.d r = d → d ≤ g.d x → r ∈ Q
  | 0, r, hr, hd, _ => by
    obtain rfl := hg.dz r hr hd
    exact List.mem_of_getElem? h.head
  | d + 1, r, hr, hd, hle => by
    obtain ⟨y, k, hy, k1, k2, e, hdy⟩ := hg.prev r d hr hd
    have hm := SQ.low hg h hx d y hy hdy (by omega)
    obtain ⟨i, hi, ei⟩ := List.getElem_of_mem hm
    have ei' : Q[i]? = some y := by rw [List.getElem?_eq_getElem hi, ei]
    have hip : i < p := by
      by_cases hip : i < p
      · exact hip
      · have := h.sorted p i x _ (by omega) hx ei'
        omega
    have := h.closed i _ hip ei' k k1 k2
    rwa [e] at this
theorem SI.next_old (h : SI g Q p x k) (ht : g.nb x k ∈ Q) : SI g Q p x (k + 1) :=
  ⟨h.toSQ, h.cur, fun k' h1 h2 h3 => by
    by_cases e : k' = k
    · subst e; exact ht
    · exact h.done k' h1 (by omega) h3⟩
theorem SI.far_new (hg : BOk g) (h : SI g Q p x k) (k1 : g.lo ≤ k) (k2 : k < g.hi) (ht : g.nb x k ∉ Q) : g.d (g.nb x k) = g.d x + 1 := by
  have hxl := h.lt x (List.mem_of_getElem? h.cur)
  have h1 := hg.step x k hxl k1 k2
  have h2 : ¬ g.d (g.nb x k) ≤ g.d x := fun hle => ht (h.toSQ.low hg h.cur _ _ (hg.lt x k hxl k1 k2) rfl hle)
  omega
theorem SI.next_new (hg : BOk g) (h : SI g Q p x k) (k1 : g.lo ≤ k) (k2 : k < g.hi) (ht : g.nb x k ∉ Q) : SI g (Q ++ [g.nb x k]) p x (k + 1) := by
  have hxl := h.lt x (List.mem_of_getElem? h.cur)
  have hd := h.far_new hg k1 k2 ht
  have hpl : p < Q.length := (List.getElem?_eq_some_iff.1 h.cur).1
  have hget : ∀ i a, (Q ++ [g.nb x k])[i]? = some a → (i < Q.length ∧ Q[i]? = some a) ∨ (i = Q.length ∧ a = g.nb x k) := by
    intro i a hi
    by_cases hl : i < Q.length
    · exact .inl ⟨hl, by rwa [List.getElem?_append_left hl] at hi⟩
    · have h0 := (List.getElem?_eq_some_iff.1 hi).1
      rw [List.getElem?_append_right (by omega)] at hi
      simp at h0
      have e : i = Q.length := by omega
      subst e
      simp at hi
      exact .inr ⟨rfl, hi.symm⟩
  refine ⟨⟨fun r hr => ?_, ?_, ?_, ?_, ?_, ?_, by simp; omega⟩, ?_, ?_⟩
  · rcases List.mem_append.1 hr with hr | hr
    · exact h.lt r hr
    · simp at hr; subst hr; exact hg.lt x k hxl k1 k2
  · refine List.nodup_append.2 ⟨h.nodup, by simp, fun a ha b hb e => ?_⟩
    simp at hb
    subst hb
    subst e
    exact ht ha
  · rw [List.getElem?_append_left (by omega)]; exact h.head
  · intro i j a b hij ha hb
    rcases hget j b hb with ⟨hj, hb'⟩ | ⟨hj, rfl⟩
    · rcases hget i a ha with ⟨hi, ha'⟩ | ⟨hi, rfl⟩
      · exact h.sorted i j a b hij ha' hb'
      · omega
    · rcases hget i a ha with ⟨hi, ha'⟩ | ⟨hi, rfl⟩
      · have := h.top x h.cur a (List.mem_of_getElem? ha')
        omega
      · exact Nat.le_refl _
  · intro i a hi ha k' hk1 hk2
    rcases hget i a ha with ⟨hi', ha'⟩ | ⟨hi', rfl⟩
    · exact List.mem_append_left _ (h.closed i a hi ha' k' hk1 hk2)
    · omega
  · intro y hy r hr
    rw [List.getElem?_append_left hpl, h.cur] at hy
    cases hy
    rcases List.mem_append.1 hr with hr | hr
    · exact h.top x h.cur r hr
    · simp at hr; subst hr; omega
  · rw [List.getElem?_append_left hpl]; exact h.cur
  · intro k' h1 h2 h3
    by_cases e : k' = k
    · subst e; exact List.mem_append_right _ (by simp)
    · exact List.mem_append_left _ (h.done k' h1 (by omega) h3)
theorem SI.next (h : SI g Q p x k) (hk : g.hi ≤ k) : SQ g Q (p + 1) := by
  have hpl : p < Q.length := (List.getElem?_eq_some_iff.1 h.cur).1
  refine ⟨h.lt, h.nodup, h.head, h.sorted, fun i a hi ha k' h1 h2 => ?_, fun y hy r hr => ?_, hpl⟩
  · by_cases e : i = p
    · subst e
      rw [h.cur] at ha
      cases ha
      exact h.done k' h1 (by omega) h2
    · exact h.closed i a (by omega) ha k' h1 h2
  · have h1 := h.sorted p (p + 1) x y (by omega) h.cur hy
    have h2 := h.top x h.cur r hr
    omega
theorem SQ.all (hg : BOk g) (h : SQ g Q Q.length) : ∀ d r, r < g.N → g.d r = d → r ∈ Q
  | 0, r, hr, hd => by
    obtain rfl := hg.dz r hr hd
    exact List.mem_of_getElem? h.head
  | d + 1, r, hr, hd => by
    obtain ⟨y, k, hy, k1, k2, e, hdy⟩ := hg.prev r d hr hd
    have hm := SQ.all hg h d y hy hdy
    obtain ⟨i, hi, ei⟩ := List.getElem_of_mem hm
    have := h.closed i _ hi (by rw [List.getElem?_eq_getElem hi, ei]) k k1 k2
    rwa [e] at this
end

/-- the distances found -/
def sF (g : Bd) (Q : List Nat) : List Int := (List.range g.N).map fun r => if r ∈ Q then (g.d r : Int) else -1
/-- what is known of the places found -/
def sX (g : Bd) (u : Nat → List Int) (Q : List Nat) : List (List Int) := (List.range g.N).map fun r => if r ∈ Q then u r else []
def sFar (g : Bd) : List Int := (List.range g.N).map fun r => (g.d r : Int)
def sAll (g : Bd) (u : Nat → List Int) : List (List Int) := (List.range g.N).map u
section
variable {g : Bd} {Q : List Nat} {u : Nat → List Int}
theorem sF_length (g : Bd) (Q : List Nat) : (sF g Q).length = g.N := by simp [sF]
theorem sX_length (g : Bd) (u : Nat → List Int) (Q : List Nat) : (sX g u Q).length = g.N := by simp [sX]
theorem sFar_length (g : Bd) : (sFar g).length = g.N := by simp [sFar]
theorem sAll_length (g : Bd) (u : Nat → List Int) : (sAll g u).length = g.N := by simp [sAll]
theorem sF_get {r : Nat} (h : r < g.N) : (sF g Q)[r]'(by rw [sF_length]; exact h) = if r ∈ Q then (g.d r : Int) else -1 := by simp [sF]
theorem sX_get {r : Nat} (h : r < g.N) : (sX g u Q)[r]'(by rw [sX_length]; exact h) = if r ∈ Q then u r else [] := by simp [sX]
theorem sFar_get {r : Nat} (h : r < g.N) : (sFar g)[r]? = some (g.d r : Int) := by simp [sFar, h]
theorem sAll_get {r : Nat} (h : r < g.N) : (sAll g u)[r]? = some (u r) := by simp [sAll, h]
theorem sF_snoc (g : Bd) (Q : List Nat) (t : Nat) : (sF g Q).set t (g.d t : Int) = sF g (Q ++ [t]) := by
  apply List.ext_getElem (by simp [sF])
  intro i h1 h2
  simp only [sF, List.getElem_set, List.getElem_map, List.getElem_range, List.mem_append, List.mem_singleton]
  by_cases e : t = i
  · subst e; simp
  · rw [if_neg e]
    have : (i = t) = False := by simp; omega
    simp [this]
theorem sX_snoc (g : Bd) (u : Nat → List Int) (Q : List Nat) (t : Nat) : (sX g u Q).set t (u t) = sX g u (Q ++ [t]) := by
  apply List.ext_getElem (by simp [sX])
  intro i h1 h2
  simp only [sX, List.getElem_set, List.getElem_map, List.getElem_range, List.mem_append, List.mem_singleton]
  by_cases e : t = i
  · subst e; simp
  · rw [if_neg e]
    have : (i = t) = False := by simp; omega
    simp [this]
theorem SQ.far_all (hg : BOk g) (h : SQ g Q Q.length) : sF g Q = sFar g := by
  unfold sF sFar
  refine List.map_congr_left fun r hr => ?_
  rw [if_pos (h.all hg _ r (List.mem_range.1 hr) rfl)]
theorem SQ.st_all (hg : BOk g) (h : SQ g Q Q.length) : sX g u Q = sAll g u := by
  unfold sX sAll
  refine List.map_congr_left fun r hr => ?_
  rw [if_pos (h.all hg _ r (List.mem_range.1 hr) rfl)]
theorem sF_start (hg : BOk g) : (List.replicate g.N (-1 : Int)).set 0 0 = sF g [0] := by
  apply List.ext_getElem (by simp [sF])
  intro i h1 h2
  simp only [sF, List.getElem_set, List.getElem_replicate, List.getElem_map, List.getElem_range, List.mem_singleton]
  by_cases e : i = 0
  · subst e; rw [if_pos rfl, if_pos rfl, hg.d0]; rfl
  · rw [if_neg (by omega), if_neg e]
theorem sX_start (_hg : BOk g) : (List.replicate g.N ([] : List Int)).set 0 (u 0) = sX g u [0] := by
  apply List.ext_getElem (by simp [sX])
  intro i h1 h2
  simp only [sX, List.getElem_set, List.getElem_replicate, List.getElem_map, List.getElem_range, List.mem_singleton]
  by_cases e : i = 0
  · subst e; simp
  · rw [if_neg (by omega), if_neg e]
end
/-- the first k distances laid as -1 -/
def sNeg (N k : Nat) : List Int := List.replicate k (-1) ++ List.replicate (N - k) 0
theorem sNeg_zero (N : Nat) : sNeg N 0 = List.replicate N 0 := by simp [sNeg]
theorem sNeg_length {N k : Nat} (h : k ≤ N) : (sNeg N k).length = N := by simp [sNeg]; omega
theorem sNeg_step (N k : Nat) (h : k < N) : (sNeg N k).set k (-1) = sNeg N (k + 1) := by
  apply List.ext_getElem (by simp [sNeg]; omega)
  intro i h1 h2
  simp only [sNeg, List.getElem_set, List.getElem_append, List.getElem_replicate, List.length_replicate]
  by_cases e : k = i
  · subst e; simp
  · rw [if_neg e]
    by_cases h3 : i < k
    · rw [dif_pos h3, dif_pos (by omega)]
    · rw [dif_neg h3, dif_neg (by omega)]
theorem sNeg_all (N : Nat) : sNeg N N = List.replicate N (-1) := by simp [sNeg]
end Go.Pan

namespace Go.Pan

/-- the board of a game, its stacks told by numbers -/
def gBd (n : Gm) (N : Nat) (rk : List Int → Nat) (un : Nat → List Int) (home : List Int) (lo hi : Nat) : Bd where
  N := N
  lo := lo
  hi := hi
  nb := fun r k => rk (n.mv (un r) k)
  d := fun r => gfar n home (un r)
theorem gBd_ok {n : Gm} (hn : GOk n) {N : Nat} {rk : List Int → Nat} {un : Nat → List Int} {home : List Int} {lo hi : Nat}
    (hks : ∀ k, k ∈ n.ks ↔ lo ≤ k ∧ k < hi) (hlt : ∀ q, n.St q → rk q < N) (hst : ∀ r, r < N → n.St (un r)) (hur : ∀ q, n.St q → un (rk q) = q) (hru : ∀ r, r < N → rk (un r) = r)
    (hh : n.St home) (h0 : rk home = 0) : BOk (gBd n N rk un home lo hi) where
  pos := Nat.lt_of_le_of_lt (Nat.zero_le _) (hlt home hh)
  lt := fun r k hr k1 k2 => hlt _ (hn.mvSt _ _ (hst r hr) ((hks k).2 ⟨k1, k2⟩))
  d0 := by
    show gfar n home (un 0) = 0
    have e : un 0 = home := by rw [← h0]; exact hur home hh
    rw [e]
    exact (gfar_zero hn hh hh).2 rfl
  dz := fun r hr hd => by
    have e : home = un r := (gfar_zero hn hh (hst r hr)).1 hd
    rw [← hru r hr, ← e, h0]
  step := fun r k hr k1 k2 => by
    show gfar n home (un (rk (n.mv (un r) k))) ≤ gfar n home (un r) + 1
    have hk := (hks k).2 ⟨k1, k2⟩
    rw [hur _ (hn.mvSt _ _ (hst r hr) hk)]
    exact (gfar_mv hn hk hh (hst r hr)).1
  prev := fun r e hr hd => by
    obtain ⟨k, hk, he⟩ := gfar_prev hn hh (hst r hr) hd
    have hp := hn.prSt (hst r hr) hk
    refine ⟨rk (gpr n (un r) k), k, hlt _ hp, ((hks k).1 hk).1, ((hks k).1 hk).2, ?_, ?_⟩
    · show rk (n.mv (un (rk (gpr n (un r) k))) k) = r
      rw [hur _ hp, mv_pr hn (hst r hr) hk, hru r hr]
    · show gfar n home (un (rk (gpr n (un r) k))) = e
      rw [hur _ hp]
      exact he

/-- the board of burnt stacks of m -/
def bBd (m : Nat) : Bd := gBd (bG m) (fact m * 2 ^ m) brank (bun m) (ramp 1 m) 1 (m + 1)
theorem bBd_ok {m : Nat} (h1 : 1 ≤ m) (h5 : m ≤ 5) : BOk (bBd m) :=
  gBd_ok (bG_ok h1 h5) (fun k => by rw [mem_bks]; omega) (fun q h => brank_lt h) (fun r h => bun_st h1 (by omega) h) (fun q h => bun_brank h1 (by omega) h) (fun r h => brank_bun h1 (by omega) h)
    (BSt.ramp h1 (by omega)) (brank_home m)
theorem bBd_N (m : Nat) : (bBd m).N = fact m * 2 ^ m := rfl
theorem bBd_lo (m : Nat) : (bBd m).lo = 1 := rfl
theorem bBd_hi (m : Nat) : (bBd m).hi = m + 1 := rfl
theorem bBd_d {m : Nat} (h1 : 1 ≤ m) (h5 : m ≤ 5) {q : List Int} (h : BSt m q) : (bBd m).d (brank q) = gfar (bG m) q (ramp 1 m) := by
  show gfar (bG m) (ramp 1 m) (bun m (brank q)) = _
  rw [bun_brank h1 (by omega) h]
  exact gfar_symm (bG_ok h1 h5) (BSt.ramp h1 (by omega)) h
theorem bBd_le {m : Nat} (h1 : 1 ≤ m) (h5 : m ≤ 5) {r : Nat} (h : r < (bBd m).N) : (bBd m).d r ≤ 15 := by
  have := (gfar_spec (bG_ok h1 h5) (BSt.ramp h1 (by omega)) (bun_st h1 (by omega) h)).2.1
  have e : (bG m).dm = 3 * m := rfl
  show gfar (bG m) (ramp 1 m) (bun m r) ≤ 15
  omega
theorem bBd_few {m : Nat} (h5 : m ≤ 5) : (bBd m).N ≤ 3840 := by
  show fact m * 2 ^ m ≤ 3840
  match m, h5 with
  | 0, _ => decide
  | 1, _ => decide
  | 2, _ => decide
  | 3, _ => decide
  | 4, _ => decide
  | 5, _ => decide
theorem ball_un (m : Nat) : ball m = (List.range (bBd m).N).map (bun m) := rfl
theorem bun_zero {m : Nat} (h1 : 1 ≤ m) (h9 : m ≤ 9) : bun m 0 = ramp 1 m := by
  have := bun_brank h1 h9 (BSt.ramp h1 h9)
  rwa [brank_home] at this
theorem bnb_un {m : Nat} (h1 : 1 ≤ m) (h9 : m ≤ 9) {r : Nat} (h : r < (bBd m).N) (k : Nat) : bun m ((bBd m).nb r k) = bturnL (bun m r) k := by
  show bun m (brank (bturnL (bun m r) k)) = _
  exact bun_brank h1 h9 ((bun_st h1 h9 h).turn k)
end Go.Pan

namespace Go.Pan

/-- how many of the first i places are so far, and the counts up to K -/
def dCnt (d : Nat → Nat) (i e : Nat) : Nat := (List.range i).countP fun r => decide (d r = e)
def dLen (d : Nat → Nat) (i : Nat) : Nat := gmaxN ((List.range i).map fun r => d r + 1)
def dOut (d : Nat → Nat) (i K : Nat) : List Int := (List.range K).map fun e => (dCnt d i e : Int)
theorem dOut_length (d : Nat → Nat) (i K : Nat) : (dOut d i K).length = K := by simp [dOut]
theorem dCnt_zero {d : Nat → Nat} {i e : Nat} (h : dLen d i ≤ e) : dCnt d i e = 0 := by
  unfold dCnt
  rw [List.countP_eq_zero]
  intro r hr hd
  have h1 := of_decide_eq_true hd
  have h2 : d r + 1 ≤ dLen d i := le_gmaxN (List.mem_map.2 ⟨r, hr, rfl⟩)
  omega
theorem dOut_grow {d : Nat → Nat} {i K : Nat} (h : dLen d i ≤ K) : dOut d i (K + 1) = dOut d i K ++ [0] := by
  simp [dOut, List.range_succ, dCnt_zero h]
theorem dCnt_succ (d : Nat → Nat) (i e : Nat) : dCnt d (i + 1) e = dCnt d i e + if d i = e then 1 else 0 := by
  simp [dCnt, List.range_succ, List.countP_append, List.countP_cons]
theorem gmaxN_snoc (l : List Nat) (x : Nat) : gmaxN (l ++ [x]) = max (gmaxN l) x := by
  induction l with
  | nil => simp [gmaxN]
  | cons a l ih =>
    simp only [gmaxN, List.cons_append, List.foldr_cons] at ih ⊢
    rw [ih, Nat.max_assoc]
theorem dLen_succ (d : Nat → Nat) (i : Nat) : dLen d (i + 1) = max (dLen d i) (d i + 1) := by
  unfold dLen
  rw [List.range_succ, List.map_append]
  exact gmaxN_snoc _ _
theorem dOut_set {d : Nat → Nat} {i K x : Nat} (hx : d i = x) : (dOut d i K).set x ((dCnt d i x : Int) + 1) = dOut d (i + 1) K := by
  apply List.ext_getElem (by simp [dOut])
  intro j h1 h2
  have hj : j < K := by simpa [dOut] using h2
  simp only [dOut, List.getElem_set, List.getElem_map, List.getElem_range, dCnt_succ, hx]
  by_cases e : x = j
  · subst e; simp
  · simp [e]
theorem dOut_get {d : Nat → Nat} {i K x : Nat} (hK : x < K) : (dOut d i K)[x]'(by rw [dOut_length]; exact hK) = (dCnt d i x : Int) := by simp [dOut]
theorem dCnt_le (d : Nat → Nat) (i e : Nat) : dCnt d i e ≤ i := by
  have h := List.countP_le_length (p := fun r => decide (d r = e)) (l := List.range i)
  simpa [dCnt] using h
theorem dLen_le {d : Nat → Nat} {i M : Nat} (h : ∀ r, r < i → d r ≤ M) : dLen d i ≤ M + 1 := by
  by_cases e : (List.range i).map (fun r => d r + 1) = []
  · unfold dLen; rw [e]; exact Nat.zero_le _
  · obtain ⟨r, hr, he⟩ := List.mem_map.1 (gmaxN_mem e)
    unfold dLen
    rw [← he]
    have := h r (List.mem_range.1 hr)
    omega
theorem gmaxN_succ : ∀ l : List Nat, l ≠ [] → gmaxN (l.map (· + 1)) = gmaxN l + 1 := by
  intro l hl
  induction l with
  | nil => exact absurd rfl hl
  | cons a l ih =>
    by_cases e : l = []
    · subst e; simp [gmaxN]
    · have := ih e
      simp only [gmaxN, List.map_cons, List.foldr_cons] at this ⊢
      rw [this]
      omega
/-- all of them -/
theorem dLen_all {n : Gm} {home : List Int} {N : Nat} {un : Nat → List Int} (ha : n.all = (List.range N).map un) (h0 : 0 < N) : dLen (fun r => gfar n home (un r)) N = gecc n home + 1 := by
  unfold dLen gecc
  rw [ha, List.map_map, ← gmaxN_succ, List.map_map]
  · rfl
  · intro e
    have h3 := congrArg List.length e
    simp at h3
    omega
theorem dCnt_all {n : Gm} (hn : GOk n) {home : List Int} (hh : n.St home) {N : Nat} {un : Nat → List Int} (ha : n.all = (List.range N).map un) (e : Nat) : dCnt (fun r => gfar n home (un r)) N e = gbyN n home e := by
  unfold dCnt gbyN
  rw [ha, List.countP_map]
  refine List.countP_congr fun r hr => ?_
  have hst : n.St (un r) := (hn.mem _).1 (by rw [ha]; exact List.mem_map.2 ⟨r, hr, rfl⟩)
  simp only [Function.comp, decide_eq_true_iff]
  exact (gnearC_pos hn hh hst).symm
theorem dOut_all {n : Gm} (hn : GOk n) {home : List Int} (hh : n.St home) {N : Nat} {un : Nat → List Int} (ha : n.all = (List.range N).map un) : dOut (fun r => gfar n home (un r)) N (gecc n home + 1) = gbyL n home := by
  unfold dOut gbyL
  exact List.map_congr_left fun e _ => by rw [dCnt_all hn hh ha]
theorem bLen_all (m : Nat) : dLen (bBd m).d (bBd m).N = gecc (bG m) (ramp 1 m) + 1 := dLen_all (n := bG m) rfl (Nat.mul_pos (fact_pos m) (Nat.two_pow_pos m))
theorem bOut_all {m : Nat} (h1 : 1 ≤ m) (h5 : m ≤ 5) : dOut (bBd m).d (bBd m).N (gecc (bG m) (ramp 1 m) + 1) = bbyL m := dOut_all (n := bG m) (bG_ok h1 h5) (BSt.ramp h1 (by omega)) rfl
end Go.Pan
