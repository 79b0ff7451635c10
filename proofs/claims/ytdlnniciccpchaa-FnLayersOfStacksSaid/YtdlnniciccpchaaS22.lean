import Derived.Test.YtdlnniciccpchaaS21
import Derived.Test.YtdlnniciccpchaaLib4
import Derived.Deep.DeepCutAuto
import Derived.Deep.RegionLaw
import Derived.Deep.AppendLies
import Derived.IntWalk
namespace Go.Proofs.Ytdlnniciccpchaa
open Go Go.RowKit Go.Pan

theorem Try.infoFL : (Try.prog.info? 62).map (fun i => (i.zero, i.size)) = some (some (.agg #[.slice none 0 0, .slice none 0 0, .slice none 0 0]), 3) := by kernel_rfl

theorem fact_succ (j : Nat) : fact (j + 2) = fact (j + 1) * (j + 2) := by rw [fact, Nat.mul_comm]
/-- the blocks of the three slices and of the struct -/
structure FA0 (B n : Nat) (w : World) (bl a c s : Nat) (F C : List Int) (S : List Value) : Prop where
  l : Blk w bl 62 [.slice (some ⟨a, 0, none⟩) (fact n) (fact n), .slice (some ⟨c, 0, none⟩) (fact n) (fact n), .slice (some ⟨s, 0, none⟩) (fact n) (fact n)]
  far : Blk w a 3 (F.map iv)
  cnt : Blk w c 3 (C.map iv)
  st : Blk w s 24 S
  ba : B ≤ a
  bc : B ≤ c
  bs : B ≤ s
  bb : B ≤ bl
  ne : a ≠ c ∧ a ≠ s ∧ c ≠ s ∧ bl ≠ a ∧ bl ≠ c ∧ bl ≠ s
def Cut6 (n : Nat) (w W : World) (s5 : Value) (wx : World) : Prop := ∃ bl a c s, s5 = .pointer (some ⟨bl, 0, none⟩) ∧
  FA0 (w.heap.size + 1) n wx bl a c s (List.replicate (fact n) 0) (List.replicate (fact n) 0) (List.replicate (fact n) (.slice none 0 0)) ∧ Below W.heap.size W wx

theorem leaf6 {n : Nat} {w W m1 m2 m3 m4 m5 : World} {bl a c s : Nat} (hW : W.heap.size = w.heap.size + 1) (h1 : W.drew.grownBy m1 none) (h2 : m1.grownBy m2 none) (h3 : m2.grownBy m3 none) (h4 : m3.grownBy m4 none)
    (l1 : W.drew.heap.size < m1.heap.size) (l2 : m1.heap.size < m2.heap.size) (l3 : m2.heap.size < m3.heap.size) (l4 : m3.heap.size < m4.heap.size) (g5 : m4.grownBy m5 (some bl))
    (f5 : Blk m5 bl 62 [.slice (some ⟨a, 0, none⟩) (fact n) (fact n), .slice (some ⟨c, 0, none⟩) (fact n) (fact n), .slice (some ⟨s, 0, none⟩) (fact n) (fact n)])
    (fa : Blk m4 a 3 (List.replicate (fact n) (iv 0))) (fc : Blk m4 c 3 (List.replicate (fact n) (iv 0))) (fs : Blk m4 s 24 (List.replicate (fact n) (.slice none 0 0)))
    (b1 : W.drew.heap.size ≤ bl) (b2 : W.drew.heap.size ≤ a) (b3 : W.drew.heap.size ≤ c) (b4 : W.drew.heap.size ≤ s) (hne : a ≠ c ∧ a ≠ s ∧ c ≠ s ∧ bl ≠ a ∧ bl ≠ c ∧ bl ≠ s) : Cut6 n w W (.pointer (some ⟨bl, 0, none⟩)) m5 := by
  have e : W.drew.heap.size = W.heap.size := rfl
  refine ⟨bl, a, c, s, rfl, ⟨f5, ?_, ?_, ?_, by omega, by omega, by omega, by omega, hne⟩, ?_⟩
  · rw [List.map_replicate]; exact fa.grown g5 (by simp; omega)
  · rw [List.map_replicate]; exact fc.grown g5 (by simp; omega)
  · exact fs.grown g5 (by simp; omega)
  · have hb : Below W.heap.size W m4 := (((Below.grown (Below.refl W.heap.size W).drew h1 (Nat.le_refl _) (by intro k hk; cases hk)).grown h2 (by omega) (by intro k hk; cases hk)).grown h3 (by omega) (by intro k hk; cases hk)).grown h4 (by omega) (by intro k hk; cases hk)
    exact hb.grown g5 (by omega) (by intro k hk; cases hk; omega)

theorem heap_setCell_ne {w : World} {b j : Nat} {u : Value} {g : Nat} (h : g ≠ b) : (w.setCell ⟨b, j, none⟩ u).heap[g]? = w.heap[g]? := heap_setCell_other w ⟨b, j, none⟩ g u h

/-- all that the search has laid: the struct, its three slices, the rows of the third; qb the queue's block -/
structure FA (B n : Nat) (w : World) (bl a c s : Nat) (qb : Option Nat) (F C : List Int) (S : List Value) (X : List (List Int)) : Prop extends FA0 B n w bl a c s F C S where
  lF : F.length = fact n
  lC : C.length = fact n
  lS : S.length = fact n
  lX : X.length = fact n
  row : ∀ (i : Nat) (u : Value) (xs : List Int), S[i]? = some u → X[i]? = some xs → OwnI w u xs ∧ ∀ g, u.ownBlock = some g → B ≤ g ∧ g ≠ bl ∧ g ≠ a ∧ g ≠ c ∧ g ≠ s ∧ qb ≠ some g
  nq : qb ≠ some bl ∧ qb ≠ some a ∧ qb ≠ some c ∧ qb ≠ some s
section
variable {B n : Nat} {w w' : World} {bl a c s : Nat} {qb : Option Nat} {F C : List Int} {S : List Value} {X : List (List Int)}
theorem FA.keptB (h : FA B n w bl a c s qb F C S X) (hk : ∀ g, B ≤ g → g < w.heap.size → qb ≠ some g → w'.heap[g]? = w.heap[g]?) : FA B n w' bl a c s qb F C S X := by
  have k : ∀ {g : Nat} {ty : TypeId} {cs : List Value}, Blk w g ty cs → B ≤ g → qb ≠ some g → Blk w' g ty cs := fun {g ty cs} hb hB hq => by
    unfold Blk
    rw [hk g hB hb.lt hq]
    exact hb
  exact ⟨⟨k h.l h.bb h.nq.1, k h.far h.ba h.nq.2.1, k h.cnt h.bc h.nq.2.2.1, k h.st h.bs h.nq.2.2.2, h.ba, h.bc, h.bs, h.bb, h.ne⟩, h.lF, h.lC, h.lS, h.lX, fun i u xs hu hx => by
    obtain ⟨h1, h2⟩ := h.row i u xs hu hx
    exact ⟨h1.kept fun g hg => hk g (h2 g hg).1 (h1.lt g hg) (h2 g hg).2.2.2.2.2, h2⟩, h.nq⟩
theorem FA.kept (h : FA B n w bl a c s qb F C S X) (hk : ∀ g, g < w.heap.size → qb ≠ some g → w'.heap[g]? = w.heap[g]?) : FA B n w' bl a c s qb F C S X := h.keptB fun g _ h1 h2 => hk g h1 h2
theorem FA.below (h : FA B n w bl a c s qb F C S X) {N : Nat} (hb : Below N w w') (hN : w.heap.size ≤ N) : FA B n w' bl a c s qb F C S X := h.kept fun g hg _ => hb.block g (Nat.lt_of_lt_of_le hg hN)
theorem FA.grown (h : FA B n w bl a c s qb F C S X) (hg : w.grownBy w' qb) : FA B n w' bl a c s qb F C S X := h.kept fun g hl hq => hg.block g hl (fun e => hq e.symm)
theorem FA.alloc (h : FA B n w bl a c s qb F C S X) (o : Obj) : FA B n (w.alloc o) bl a c s qb F C S X := h.kept fun g hl _ => Below.heap_alloc w o g hl
theorem FA.drewN (h : FA B n w bl a c s qb F C S X) (k : Nat) : FA B n (w.drewN k) bl a c s qb F C S X := h.kept fun _ _ _ => rfl
theorem FA.requeue (h : FA B n w bl a c s qb F C S X) {g0 : Nat} (hq : qb = some g0 ∨ w.heap.size ≤ g0) : FA B n w bl a c s (some g0) F C S X := by
  rcases hq with rfl | hq
  · exact h
  · have k : ∀ {g : Nat} {ty : TypeId} {cs : List Value}, Blk w g ty cs → some g0 ≠ some g := fun {g ty cs} hb e => by have := hb.lt; cases e; omega
    exact ⟨h.toFA0, h.lF, h.lC, h.lS, h.lX, fun i u xs hu hx => by
      obtain ⟨h1, h2⟩ := h.row i u xs hu hx
      exact ⟨h1, fun g hg => ⟨(h2 g hg).1, (h2 g hg).2.1, (h2 g hg).2.2.1, (h2 g hg).2.2.2.1, (h2 g hg).2.2.2.2.1, fun e => by have := h1.lt g hg; cases e; omega⟩⟩, ⟨k h.l, k h.far, k h.cnt, k h.st⟩⟩
theorem FA.grownQ (h : FA B n w bl a c s qb F C S X) (hg : w.grownBy w' qb) {g0 : Nat} (hq : qb = some g0 ∨ w.heap.size ≤ g0) : FA B n w' bl a c s (some g0) F C S X := by
  have h1 := h.grown hg
  have h2 := h.requeue hq
  exact ⟨h1.toFA0, h1.lF, h1.lC, h1.lS, h1.lX, fun i u xs hu hx => ⟨(h1.row i u xs hu hx).1, (h2.row i u xs hu hx).2⟩, h2.nq⟩
theorem FA.cl (h : FA0 B n w bl a c s F C S) : w.cell? ⟨bl, 0, none⟩ = some (.slice (some ⟨a, 0, none⟩) (fact n) (fact n)) ∧ w.cell? ⟨bl, 1, none⟩ = some (.slice (some ⟨c, 0, none⟩) (fact n) (fact n)) ∧ w.cell? ⟨bl, 2, none⟩ = some (.slice (some ⟨s, 0, none⟩) (fact n) (fact n)) :=
  ⟨by rw [h.l.cell 0]; rfl, by rw [h.l.cell 1]; rfl, by rw [h.l.cell 2]; rfl⟩
theorem FA.cF (h : FA0 B n w bl a c s F C S) (j : Nat) (hj : j < F.length) : w.cell? ⟨a, j, none⟩ = some (iv F[j]) ∧ w.frozen? ⟨a, j, none⟩ = false :=
  ⟨by rw [h.far.cell j, List.getElem?_map, List.getElem?_eq_getElem hj]; rfl, h.far.frozen j⟩
theorem FA.cC (h : FA0 B n w bl a c s F C S) (j : Nat) (hj : j < C.length) : w.cell? ⟨c, j, none⟩ = some (iv C[j]) ∧ w.frozen? ⟨c, j, none⟩ = false :=
  ⟨by rw [h.cnt.cell j, List.getElem?_map, List.getElem?_eq_getElem hj]; rfl, h.cnt.frozen j⟩
theorem FA.cS (h : FA0 B n w bl a c s F C S) (j : Nat) (hj : j < S.length) : w.cell? ⟨s, j, none⟩ = some S[j] ∧ w.frozen? ⟨s, j, none⟩ = false :=
  ⟨by rw [h.st.cell j, List.getElem?_eq_getElem hj], h.st.frozen j⟩
theorem FA0.setF (h : FA0 B n w bl a c s F C S) (j : Nat) (x : Int) : FA0 B n (w.setCell ⟨a, j, none⟩ (iv x)) bl a c s (F.set j x) C S := by
  obtain ⟨n1, n2, n3, n4, n5, n6⟩ := h.ne
  refine ⟨h.l.other n4 _, ?_, h.cnt.other (by simpa using n1.symm) _, h.st.other (by simpa using n2.symm) _, h.ba, h.bc, h.bs, h.bb, h.ne⟩
  rw [List.map_set]
  exact h.far.set j _
theorem FA0.setC (h : FA0 B n w bl a c s F C S) (j : Nat) (x : Int) : FA0 B n (w.setCell ⟨c, j, none⟩ (iv x)) bl a c s F (C.set j x) S := by
  obtain ⟨n1, n2, n3, n4, n5, n6⟩ := h.ne
  refine ⟨h.l.other n5 _, h.far.other n1 _, ?_, h.st.other (by simpa using n3.symm) _, h.ba, h.bc, h.bs, h.bb, h.ne⟩
  rw [List.map_set]
  exact h.cnt.set j _
theorem FA0.setS (h : FA0 B n w bl a c s F C S) (j : Nat) (u : Value) : FA0 B n (w.setCell ⟨s, j, none⟩ u) bl a c s F C (S.set j u) := by
  obtain ⟨n1, n2, n3, n4, n5, n6⟩ := h.ne
  exact ⟨h.l.other n6 _, h.far.other n2 _, h.cnt.other n3 _, h.st.set j _, h.ba, h.bc, h.bs, h.bb, h.ne⟩
theorem FA.setF (h : FA B n w bl a c s qb F C S X) (j : Nat) (x : Int) : FA B n (w.setCell ⟨a, j, none⟩ (iv x)) bl a c s qb (F.set j x) C S X :=
  ⟨h.toFA0.setF j x, by rw [List.length_set]; exact h.lF, h.lC, h.lS, h.lX, fun i u xs hu hx => by
    obtain ⟨h1, h2⟩ := h.row i u xs hu hx
    exact ⟨h1.kept fun g hg => heap_setCell_ne (h2 g hg).2.2.1, h2⟩, h.nq⟩
theorem FA.setC (h : FA B n w bl a c s qb F C S X) (j : Nat) (x : Int) : FA B n (w.setCell ⟨c, j, none⟩ (iv x)) bl a c s qb F (C.set j x) S X :=
  ⟨h.toFA0.setC j x, h.lF, by rw [List.length_set]; exact h.lC, h.lS, h.lX, fun i u xs hu hx => by
    obtain ⟨h1, h2⟩ := h.row i u xs hu hx
    exact ⟨h1.kept fun g hg => heap_setCell_ne (h2 g hg).2.2.2.1, h2⟩, h.nq⟩
theorem FA.setS (h : FA B n w bl a c s qb F C S X) (j : Nat) (v : Value) (ys : List Int) (hv : OwnI w v ys) (hb : ∀ g, v.ownBlock = some g → B ≤ g ∧ g ≠ bl ∧ g ≠ a ∧ g ≠ c ∧ g ≠ s ∧ qb ≠ some g) :
    FA B n (w.setCell ⟨s, j, none⟩ v) bl a c s qb F C (S.set j v) (X.set j ys) :=
  ⟨h.toFA0.setS j v, h.lF, h.lC, by rw [List.length_set]; exact h.lS, by rw [List.length_set]; exact h.lX, fun i u xs hu hx => by
    by_cases e : j = i
    · subst e
      have hl : j < S.length := by have := (List.getElem?_eq_some_iff.1 hu).1; simpa using this
      have hl2 : j < X.length := by have := (List.getElem?_eq_some_iff.1 hx).1; simpa using this
      rw [List.getElem?_set_self hl] at hu
      rw [List.getElem?_set_self hl2] at hx
      cases hu
      cases hx
      exact ⟨hv.kept fun g hg => heap_setCell_ne (hb g hg).2.2.2.2.1, hb⟩
    · rw [List.getElem?_set_ne e] at hu hx
      obtain ⟨h1, h2⟩ := h.row i u xs hu hx
      exact ⟨h1.kept fun g hg => heap_setCell_ne (h2 g hg).2.2.2.2.1, h2⟩, h.nq⟩
/-- a new slice lies elsewhere -/
theorem FA.new (h : FA B n w bl a c s qb F C S X) {v : Value} (hf : From w.heap.size v) (hB : B ≤ w.heap.size) (hq : ∀ g, qb = some g → g < w.heap.size) : ∀ g, v.ownBlock = some g → B ≤ g ∧ g ≠ bl ∧ g ≠ a ∧ g ≠ c ∧ g ≠ s ∧ qb ≠ some g := fun g hg => by
  have h1 := hf g hg
  have h2 := h.l.lt
  have h3 := h.far.lt
  have h4 := h.cnt.lt
  have h5 := h.st.lt
  exact ⟨by omega, by omega, by omega, by omega, by omega, fun e => by have := hq g e; omega⟩
theorem FA.start (h : FA0 B n w bl a c s F C (List.replicate (fact n) (.slice none 0 0))) (hF : F.length = fact n) (hC : C.length = fact n) : FA B n w bl a c s none F C (List.replicate (fact n) (.slice none 0 0)) (List.replicate (fact n) []) :=
  ⟨h, hF, hC, by simp, by simp, fun i u xs hu hx => by
    have e1 := List.mem_of_getElem? hu
    have e2 := List.mem_of_getElem? hx
    rw [List.mem_replicate] at e1 e2
    obtain ⟨_, rfl⟩ := e1
    obtain ⟨_, rfl⟩ := e2
    exact ⟨OwnI.nil w, fun g hg => by simp [Value.ownBlock] at hg⟩, by simp⟩
end
/-- the layers that faAll returns -/
structure FAR (n : Nat) (w : World) (v1 v2 v3 : Value) (S : List Value) : Prop where
  far : OwnI w v1 (farL n)
  cnt : OwnI w v2 (cntL n)
  st : Own w 1 v3 (fact n) S
  row : ∀ (i : Nat) (u : Value) (xs : List Int), S[i]? = some u → (allS n)[i]? = some xs → OwnI w u xs
theorem FAR.below {n : Nat} {w w' : World} {v1 v2 v3 : Value} {S : List Value} (h : FAR n w v1 v2 v3 S) {N : Nat} (hb : Below N w w') (hN : w.heap.size ≤ N) : FAR n w' v1 v2 v3 S :=
  ⟨h.far.below hb hN, h.cnt.below hb hN, h.st.below hb hN, fun i u xs hu hx => (h.row i u xs hu hx).below hb hN⟩
theorem farL_length (n : Nat) : (farL n).length = fact n := by simp [farL]
theorem cntL_length (n : Nat) : (cntL n).length = fact n := by simp [cntL]
theorem FAR.mk' {B n : Nat} {w : World} {bl a c s : Nat} {qb : Option Nat} {F C : List Int} {S : List Value} {X : List (List Int)} (h : FA B n w bl a c s qb F C S X) (h9 : n ≤ 9) (hF : F = farL n) (hC : C = cntL n) (hX : X = allS n) :
    FAR n w (.slice (some ⟨a, 0, none⟩) (fact n) (fact n)) (.slice (some ⟨c, 0, none⟩) (fact n) (fact n)) (.slice (some ⟨s, 0, none⟩) (fact n) (fact n)) S := by
  subst hF; subst hC; subst hX
  have hf := fact_le h9
  refine ⟨OwnI.of_blk0 h.far (farL_length n).symm (by omega), OwnI.of_blk0 h.cnt (cntL_length n).symm (by omega), ?_, fun i u xs hu hx => (h.row i u xs hu hx).1⟩
  refine ⟨_, fact n, rfl, by rw [h.lS]; simp, Nat.le_refl _, by unfold maxLen; omega, by simp, fun a ha => ?_⟩
  cases ha
  refine ⟨rfl, _, _, h.st, by simp [h.lS], fun j hj => by simp⟩

end Go.Proofs.Ytdlnniciccpchaa

