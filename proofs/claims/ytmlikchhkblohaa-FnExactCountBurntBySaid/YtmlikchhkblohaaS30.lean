import Derived.Test.YtmlikchhkblohaaS29
import Derived.Test.YtmlikchhkblohaaLib4
namespace Go.Pan
theorem bsize_step (m j : Nat) : fact (j + 1) * 2 ^ m * (j + 2) = fact (j + 2) * 2 ^ m := by
  rw [show fact (j + 2) = (j + 2) * fact (j + 1) from rfl, Nat.mul_comm, Nat.mul_assoc]
theorem bsize_le {m j : Nat} (h5 : m ≤ 5) (hj : j ≤ m) : fact j * 2 ^ m ≤ 3840 := by
  have h1 := Nat.mul_le_mul_right (2 ^ m) (fact_mono hj)
  have h2 := bBd_few h5
  rw [bBd_N] at h2
  omega

end Go.Pan

namespace Go.Proofs.Ytmlikchhkblohaa
open Go Go.RowKit Go.Pan

theorem infoBL : (Try.prog.info? 106).map (fun i => (i.zero, i.size)) = some (some (.agg #[.slice none 0 0, .slice none 0 0]), 2) := by kernel_rfl

theorem step_store_new2 {P : Program} {ops : Array Oper} {o : Oper} {a : Act} {w : World} {K : Act → World → Prop} {Q : Exit → Act → World → Prop} {E : Prop}
    (hgd : o.guard = none) (ty : TypeId) (x y : Operand) (ho : o.op = .store ty x y) (g : Nat) (c0 c1 : Value) (hx : a.eval x = .pointer (some ⟨g, 0, none⟩)) (hy : a.eval y = .agg #[c0, c1])
    (t : TypeId) (old : List Value) (hg : Blk w g t old) (hi : (P.info? ty).map (·.size) = some 2) (hold : old.length = 2) (h1 : c0.oneCell' = true ∧ c1.oneCell' = true)
    (h : ∀ w', Blk w' g t [c0, c1] → w.grownBy w' (some g) → K (a.put o.dst undef) w') :
    if Region.wanted o (yielded ops a.tmps) = true then Oper.wp P o a w K Q else E := by
  have hw : Region.wanted o (yielded ops a.tmps) = true := by simp [Region.wanted, hgd]
  rw [if_pos hw]
  exact wp_store_row ty x y ho g #[c0, c1] hx hy t old.toArray hg (by simpa using hi) (by simpa using hold) (by simp [h1]) (h _ (hg.setRow [c0, c1]) ⟨rfl, rfl, rfl, by simp [World.setRow], fun k _ hk => setRow_other w g k _ (fun e => hk (by rw [e]))⟩)
theorem wpList_store2 {P : Program} {ops : Array Oper} {rest : List Oper} {o : Oper} {a : Act} {w : World} {Q : Exit → Act → World → Prop}
    (hgd : o.guard = none) (ty : TypeId) (x y : Operand) (ho : o.op = .store ty x y) (g : Nat) (c0 c1 : Value) (hx : a.eval x = .pointer (some ⟨g, 0, none⟩)) (hy : a.eval y = .agg #[c0, c1])
    (t : TypeId) (old : List Value) (hg : Blk w g t old) (hi : (P.info? ty).map (·.size) = some 2) (hold : old.length = 2) (h1 : c0.oneCell' = true ∧ c1.oneCell' = true)
    (h : wpList P ops Q rest (a.put o.dst undef) (w.setRow g #[c0, c1])) : wpList P ops Q (o :: rest) a w :=
  wpList_store_row hgd ty x y ho g #[c0, c1] hx hy t old.toArray hg (by simpa using hi) (by simpa using hold) (by simp [h1]) h
theorem wpList_load2 {P : Program} {ops : Array Oper} {rest : List Oper} {o : Oper} {a : Act} {w : World} {Q : Exit → Act → World → Prop}
    (hgd : o.guard = none) (ty : TypeId) (x : Operand) (ho : o.op = .load ty x) (g : Nat) (c0 c1 : Value) (hx : a.eval x = .pointer (some ⟨g, 0, none⟩))
    (t : TypeId) (hg : Blk w g t [c0, c1]) {d : TypeDesc} (hu : P.underlying ty = some d) (hs : (match d with | .struct _ | .array _ _ => true | _ => false) = true) (hi : (P.info? ty).map (·.size) = some 2)
    (h : wpList P ops Q rest (a.put o.dst (.agg #[c0, c1])) w) : wpList P ops Q (o :: rest) a w :=
  wpList_load_row hgd ty x ho g hx t #[c0, c1] _ _ hg hu hs (by simpa using hi) h

/-- the blocks of the two slices and of the struct -/
structure BA0 (B N : Nat) (w : World) (bl a s : Nat) (F : List Int) (S : List Value) : Prop where
  l : Blk w bl 106 [.slice (some ⟨a, 0, none⟩) N N, .slice (some ⟨s, 0, none⟩) N N]
  far : Blk w a 3 (F.map iv)
  st : Blk w s 22 S
  ba : B ≤ a
  bs : B ≤ s
  bb : B ≤ bl
  ne : a ≠ s ∧ bl ≠ a ∧ bl ≠ s
def CutB (N : Nat) (w W : World) (s5 : Value) (wx : World) : Prop := ∃ bl a s, s5 = .pointer (some ⟨bl, 0, none⟩) ∧
  BA0 (w.heap.size + 1) N wx bl a s (List.replicate N 0) (List.replicate N (.slice none 0 0)) ∧ Below W.heap.size W wx

theorem leafB {N : Nat} {w W m1 m2 m3 m4 : World} {bl a s : Nat} (hW : W.heap.size = w.heap.size + 1) (h1 : W.drew.grownBy m1 none) (h2 : m1.grownBy m2 none) (h3 : m2.grownBy m3 none)
    (l1 : W.drew.heap.size < m1.heap.size) (l2 : m1.heap.size < m2.heap.size) (l3 : m2.heap.size < m3.heap.size) (g4 : m3.grownBy m4 (some bl))
    (f4 : Blk m4 bl 106 [.slice (some ⟨a, 0, none⟩) N N, .slice (some ⟨s, 0, none⟩) N N])
    (fa : Blk m3 a 3 (List.replicate N (iv 0))) (fs : Blk m3 s 22 (List.replicate N (.slice none 0 0)))
    (b1 : W.drew.heap.size ≤ bl) (b2 : W.drew.heap.size ≤ a) (b4 : W.drew.heap.size ≤ s) (hne : a ≠ s ∧ bl ≠ a ∧ bl ≠ s) : CutB N w W (.pointer (some ⟨bl, 0, none⟩)) m4 := by
  have e : W.drew.heap.size = W.heap.size := rfl
  refine ⟨bl, a, s, rfl, ⟨f4, ?_, ?_, by omega, by omega, by omega, hne⟩, ?_⟩
  · rw [List.map_replicate]; exact fa.grown g4 (by simp; omega)
  · exact fs.grown g4 (by simp; omega)
  · have hb : Below W.heap.size W m3 := ((Below.grown (Below.refl W.heap.size W).drew h1 (Nat.le_refl _) (by intro k hk; cases hk)).grown h2 (by omega) (by intro k hk; cases hk)).grown h3 (by omega) (by intro k hk; cases hk)
    exact hb.grown g4 (by omega) (by intro k hk; cases hk; omega)

theorem heapB_ne {w : World} {b j : Nat} {u : Value} {g : Nat} (h : g ≠ b) : (w.setCell ⟨b, j, none⟩ u).heap[g]? = w.heap[g]? := heap_setCell_other w ⟨b, j, none⟩ g u h

/-- all that the search has laid: the struct, its two slices, the rows of the second; qb the queue's block -/
structure BA (B N : Nat) (w : World) (bl a s : Nat) (qb : Option Nat) (F : List Int) (S : List Value) (X : List (List Int)) : Prop extends BA0 B N w bl a s F S where
  lF : F.length = N
  lS : S.length = N
  lX : X.length = N
  row : ∀ (i : Nat) (u : Value) (xs : List Int), S[i]? = some u → X[i]? = some xs → OwnI w u xs ∧ ∀ g, u.ownBlock = some g → B ≤ g ∧ g ≠ bl ∧ g ≠ a ∧ g ≠ s ∧ qb ≠ some g
  nq : qb ≠ some bl ∧ qb ≠ some a ∧ qb ≠ some s
section
variable {B N : Nat} {w w' : World} {bl a s : Nat} {qb : Option Nat} {F : List Int} {S : List Value} {X : List (List Int)}
theorem BA.keptB (h : BA B N w bl a s qb F S X) (hk : ∀ g, B ≤ g → g < w.heap.size → qb ≠ some g → w'.heap[g]? = w.heap[g]?) : BA B N w' bl a s qb F S X := by
  have k : ∀ {g : Nat} {ty : TypeId} {cs : List Value}, Blk w g ty cs → B ≤ g → qb ≠ some g → Blk w' g ty cs := fun {g ty cs} hb hB hq => by
    unfold Blk
    rw [hk g hB hb.lt hq]
    exact hb
  exact ⟨⟨k h.l h.bb h.nq.1, k h.far h.ba h.nq.2.1, k h.st h.bs h.nq.2.2, h.ba, h.bs, h.bb, h.ne⟩, h.lF, h.lS, h.lX, fun i u xs hu hx => by
    obtain ⟨h1, h2⟩ := h.row i u xs hu hx
    exact ⟨h1.kept fun g hg => hk g (h2 g hg).1 (h1.lt g hg) (h2 g hg).2.2.2.2, h2⟩, h.nq⟩
theorem BA.kept (h : BA B N w bl a s qb F S X) (hk : ∀ g, g < w.heap.size → qb ≠ some g → w'.heap[g]? = w.heap[g]?) : BA B N w' bl a s qb F S X := h.keptB fun g _ h1 h2 => hk g h1 h2
theorem BA.below (h : BA B N w bl a s qb F S X) {M : Nat} (hb : Below M w w') (hN : w.heap.size ≤ M) : BA B N w' bl a s qb F S X := h.kept fun g hg _ => hb.block g (Nat.lt_of_lt_of_le hg hN)
theorem BA.grown (h : BA B N w bl a s qb F S X) (hg : w.grownBy w' qb) : BA B N w' bl a s qb F S X := h.kept fun g hl hq => hg.block g hl (fun e => hq e.symm)
theorem BA.alloc (h : BA B N w bl a s qb F S X) (o : Obj) : BA B N (w.alloc o) bl a s qb F S X := h.kept fun g hl _ => Below.heap_alloc w o g hl
theorem BA.drewN (h : BA B N w bl a s qb F S X) (k : Nat) : BA B N (w.drewN k) bl a s qb F S X := h.kept fun _ _ _ => rfl
theorem BA.requeue (h : BA B N w bl a s qb F S X) {g0 : Nat} (hq : qb = some g0 ∨ w.heap.size ≤ g0) : BA B N w bl a s (some g0) F S X := by
  rcases hq with rfl | hq
  · exact h
  · have k : ∀ {g : Nat} {ty : TypeId} {cs : List Value}, Blk w g ty cs → some g0 ≠ some g := fun {g ty cs} hb e => by have := hb.lt; cases e; omega
    exact ⟨h.toBA0, h.lF, h.lS, h.lX, fun i u xs hu hx => by
      obtain ⟨h1, h2⟩ := h.row i u xs hu hx
      exact ⟨h1, fun g hg => ⟨(h2 g hg).1, (h2 g hg).2.1, (h2 g hg).2.2.1, (h2 g hg).2.2.2.1, fun e => by have := h1.lt g hg; cases e; omega⟩⟩, ⟨k h.l, k h.far, k h.st⟩⟩
theorem BA.grownQ (h : BA B N w bl a s qb F S X) (hg : w.grownBy w' qb) {g0 : Nat} (hq : qb = some g0 ∨ w.heap.size ≤ g0) : BA B N w' bl a s (some g0) F S X := by
  have h1 := h.grown hg
  have h2 := h.requeue hq
  exact ⟨h1.toBA0, h1.lF, h1.lS, h1.lX, fun i u xs hu hx => ⟨(h1.row i u xs hu hx).1, (h2.row i u xs hu hx).2⟩, h2.nq⟩
theorem BA.cl (h : BA0 B N w bl a s F S) : w.cell? ⟨bl, 0, none⟩ = some (.slice (some ⟨a, 0, none⟩) N N) ∧ w.cell? ⟨bl, 1, none⟩ = some (.slice (some ⟨s, 0, none⟩) N N) :=
  ⟨by rw [h.l.cell 0]; rfl, by rw [h.l.cell 1]; rfl⟩
theorem BA.cF (h : BA0 B N w bl a s F S) (j : Nat) (hj : j < F.length) : w.cell? ⟨a, j, none⟩ = some (iv F[j]) ∧ w.frozen? ⟨a, j, none⟩ = false :=
  ⟨by rw [h.far.cell j, List.getElem?_map, List.getElem?_eq_getElem hj]; rfl, h.far.frozen j⟩
theorem BA.cS (h : BA0 B N w bl a s F S) (j : Nat) (hj : j < S.length) : w.cell? ⟨s, j, none⟩ = some S[j] ∧ w.frozen? ⟨s, j, none⟩ = false :=
  ⟨by rw [h.st.cell j, List.getElem?_eq_getElem hj], h.st.frozen j⟩
theorem BA0.setF (h : BA0 B N w bl a s F S) (j : Nat) (x : Int) : BA0 B N (w.setCell ⟨a, j, none⟩ (iv x)) bl a s (F.set j x) S := by
  obtain ⟨n1, n2, n3⟩ := h.ne
  refine ⟨h.l.other n2 _, ?_, h.st.other (by simpa using n1.symm) _, h.ba, h.bs, h.bb, h.ne⟩
  rw [List.map_set]
  exact h.far.set j _
theorem BA0.setS (h : BA0 B N w bl a s F S) (j : Nat) (u : Value) : BA0 B N (w.setCell ⟨s, j, none⟩ u) bl a s F (S.set j u) := by
  obtain ⟨n1, n2, n3⟩ := h.ne
  exact ⟨h.l.other n3 _, h.far.other n1 _, h.st.set j _, h.ba, h.bs, h.bb, h.ne⟩
theorem BA.setF (h : BA B N w bl a s qb F S X) (j : Nat) (x : Int) : BA B N (w.setCell ⟨a, j, none⟩ (iv x)) bl a s qb (F.set j x) S X :=
  ⟨h.toBA0.setF j x, by rw [List.length_set]; exact h.lF, h.lS, h.lX, fun i u xs hu hx => by
    obtain ⟨h1, h2⟩ := h.row i u xs hu hx
    exact ⟨h1.kept fun g hg => heapB_ne (h2 g hg).2.2.1, h2⟩, h.nq⟩
theorem BA.setS (h : BA B N w bl a s qb F S X) (j : Nat) (v : Value) (ys : List Int) (hv : OwnI w v ys) (hb : ∀ g, v.ownBlock = some g → B ≤ g ∧ g ≠ bl ∧ g ≠ a ∧ g ≠ s ∧ qb ≠ some g) :
    BA B N (w.setCell ⟨s, j, none⟩ v) bl a s qb F (S.set j v) (X.set j ys) :=
  ⟨h.toBA0.setS j v, h.lF, by rw [List.length_set]; exact h.lS, by rw [List.length_set]; exact h.lX, fun i u xs hu hx => by
    by_cases e : j = i
    · subst e
      have hl : j < S.length := by have := (List.getElem?_eq_some_iff.1 hu).1; simpa using this
      have hl2 : j < X.length := by have := (List.getElem?_eq_some_iff.1 hx).1; simpa using this
      rw [List.getElem?_set_self hl] at hu
      rw [List.getElem?_set_self hl2] at hx
      cases hu
      cases hx
      exact ⟨hv.kept fun g hg => heapB_ne (hb g hg).2.2.2.1, hb⟩
    · rw [List.getElem?_set_ne e] at hu hx
      obtain ⟨h1, h2⟩ := h.row i u xs hu hx
      exact ⟨h1.kept fun g hg => heapB_ne (h2 g hg).2.2.2.1, h2⟩, h.nq⟩
/-- a new slice lies elsewhere -/
theorem BA.new (h : BA B N w bl a s qb F S X) {v : Value} (hf : From w.heap.size v) (hB : B ≤ w.heap.size) (hq : ∀ g, qb = some g → g < w.heap.size) : ∀ g, v.ownBlock = some g → B ≤ g ∧ g ≠ bl ∧ g ≠ a ∧ g ≠ s ∧ qb ≠ some g := fun g hg => by
  have h1 := hf g hg
  have h2 := h.l.lt
  have h3 := h.far.lt
  have h5 := h.st.lt
  exact ⟨by omega, by omega, by omega, by omega, fun e => by have := hq g e; omega⟩
theorem BA.start (h : BA0 B N w bl a s F (List.replicate N (.slice none 0 0))) (hF : F.length = N) : BA B N w bl a s none F (List.replicate N (.slice none 0 0)) (List.replicate N []) :=
  ⟨h, hF, by simp, by simp, fun i u xs hu hx => by
    have e1 := List.mem_of_getElem? hu
    have e2 := List.mem_of_getElem? hx
    rw [List.mem_replicate] at e1 e2
    obtain ⟨_, rfl⟩ := e1
    obtain ⟨_, rfl⟩ := e2
    exact ⟨OwnI.nil w, fun g hg => by simp [Value.ownBlock] at hg⟩, by simp⟩
end
/-- the layers that are returned -/
structure BAR (g : Bd) (u : Nat → List Int) (w : World) (v1 v2 : Value) (S : List Value) : Prop where
  far : OwnI w v1 (sFar g)
  st : Own w 1 v2 g.N S
  row : ∀ (i : Nat) (x : Value) (xs : List Int), S[i]? = some x → (sAll g u)[i]? = some xs → OwnI w x xs
theorem BAR.below {g : Bd} {u : Nat → List Int} {w w' : World} {v1 v2 : Value} {S : List Value} (h : BAR g u w v1 v2 S) {M : Nat} (hb : Below M w w') (hN : w.heap.size ≤ M) : BAR g u w' v1 v2 S :=
  ⟨h.far.below hb hN, h.st.below hb hN, fun i x xs hu hx => (h.row i x xs hu hx).below hb hN⟩
theorem BAR.mk' {g : Bd} {u : Nat → List Int} {B N : Nat} {w : World} {bl a s : Nat} {qb : Option Nat} {F : List Int} {S : List Value} {X : List (List Int)} (h : BA B N w bl a s qb F S X) (hN : g.N = N) (hl : N ≤ 1048576) (hF : F = sFar g) (hX : X = sAll g u) :
    BAR g u w (.slice (some ⟨a, 0, none⟩) N N) (.slice (some ⟨s, 0, none⟩) N N) S := by
  subst hF; subst hX; subst hN
  refine ⟨OwnI.of_blk0 h.far (sFar_length g).symm (by omega), ?_, fun i x xs hu hx => (h.row i x xs hu hx).1⟩
  refine ⟨_, g.N, rfl, by rw [h.lS]; simp, Nat.le_refl _, by unfold maxLen; omega, by simp, fun a ha => ?_⟩
  cases ha
  refine ⟨rfl, _, _, h.st, by simp [h.lS], fun j hj => by simp⟩

set_option maxHeartbeats 4000000 in
set_option maxRecDepth 100000 in
theorem buAll_any (n N : Nat) (w : World) (h1 : 1 ≤ n) (h5 : n ≤ 5) (hN : Hid ((bBd n).N = N)) :
    Calls Try.prog 118 #[.int .i64 n] w fun e w' => ∃ a s S, e = .returned (.agg #[.slice (some ⟨a, 0, none⟩) N N, .slice (some ⟨s, 0, none⟩) N N]) ∧
      BAR (bBd n) (bun n) w' (.slice (some ⟨a, 0, none⟩) N N) (.slice (some ⟨s, 0, none⟩) N N) S ∧ Below w.heap.size w w' := by
  have HG := Lib.hid (bBd_ok h1 h5)
  obtain ⟨iI, hI, hI0, hI1, hI2⟩ := info_parts Try.info3
  obtain ⟨iS, hS, hS0, hS1, hS2⟩ := info_parts Try.info22
  have HI := Lib.hid hI
  have HI0 := Lib.hid hI0
  have HI1 := Lib.hid hI1
  have HI2 := Lib.hid hI2
  have HS := Lib.hid hS
  have HS0 := Lib.hid hS0
  have HS1 := Lib.hid hS1
  have HS2 := Lib.hid hS2
  have hfm : N ≤ 3840 := by rw [← hN.out]; exact bBd_few h5
  have HNP := Lib.hid (show (bBd n).N = fact n * 2 ^ n from rfl)
  have h2n : (2 : Nat) ^ n ≤ 2 ^ 5 := Nat.pow_le_pow_right (by omega) h5
  have HP1 := Lib.hid (show (1 : Int) * 2 ^ n = ((fact 1 * 2 ^ n : Nat) : Int) by simp [fact])
  have hp0 : (0 : Int) ≤ 1 * 2 ^ n := by have := HP1.out; omega
  have hp1 : (1 : Int) * 2 ^ n ≤ (32 : Int) := by have h := HP1.out; simp only [fact] at h; omega
  clear hI hI0 hI1 hI2 hS hS0 hS1 hS2 h2n
  go_enter Try.func118, Try.ntmps118
  go_wp2
  go_loop [3, 4] (fun a k => ∃ j F : Nat, j + 1 ≤ n ∧ k = .int .i64 ((j : Int) + 2) ∧ F = fact (j + 1) * 2 ^ n ∧ a = .int .i64 F) (fun _ k => n + 1 - (intOf k).toNat)
  case atStart => exact ⟨0, _, h1, rfl, rfl, by rw [← HP1.out]; simp⟩
  case round =>
    obtain ⟨j, F, hj, rfl, hF, rfl⟩ := hrel
    have HF := Lib.hid hF
    clear hp0 hp1
    by_cases hlt : j + 1 < n
    · have hle : (j : Int) + 2 ≤ n := by omega
      have hf2 := bsize_le (m := n) (j := j + 2) h5 (by omega)
      have HG2 := Lib.hid (show ((fact (j + 2) * 2 ^ n : Nat) : Int) = (F : Int) * ((j : Int) + 2) by rw [← bsize_step, hF]; simp)
      have hp0 : (0 : Int) ≤ (F : Int) * ((j : Int) + 2) := Int.mul_nonneg (by omega) (by omega)
      have hp1 : (F : Int) * ((j : Int) + 2) ≤ (3840 : Int) := by have := HG2.out; omega
      clear hF hf2
      go_wp2
      go_round
      case rel => exact ⟨j + 1, fact (j + 2) * 2 ^ n, by omega, by go_num, rfl, by rw [HG2.out]⟩
      case measure => simp [intOf] <;> omega
    · have hjn : (n : Int) < (j : Int) + 2 := by omega
      obtain rfl : F = N := by rw [hF, ← hN.out, HNP.out]; congr 2; omega
      clear hF HF hlt
      go_upto_region 6 with fail
      go_cut [5] (fun s5 wx => CutB F w (w.alloc (.cells #[.slice none 0 0, .slice none 0 0] 106)) s5 wx)
      case first =>
        obtain ⟨W, hW⟩ : ∃ W, W = (w.alloc (.cells #[.slice none 0 0, .slice none 0 0] 106)) := ⟨_, rfl⟩
        have hWz : W.heap.size = w.heap.size + 1 := by rw [hW]; simp
        rw [← hW]
        have HW := Lib.hid hW
        have HWZ := Lib.hid hWz
        clear hW hWz
        refine wp_region_held_drew (S := (fun _ => True)) (by kernel_rfl) (trivial) (fun hHeld => ?_)
        refine wpAnyH_take (i := 0) (v := ?_) rfl (by kernel_rfl) (by kernel_rfl) (by kernel_rfl) (fun _ _ _ h => h) (Or.inl ⟨by rfl, ?_⟩) (by assumption) ?_
        rotate_left
        · intro w _; go_simp; with_reducible rfl
        refine wpAnyH_take (i := 2) (v := ?_) rfl (by kernel_rfl) (by kernel_rfl) (by kernel_rfl) (fun _ _ _ h => h) (Or.inl ⟨by rfl, ?_⟩) (by assumption) ?_
        rotate_left
        · intro w _; go_simp; with_reducible rfl
        try simp only [List.getElem_toArray, List.getElem_cons_zero, List.getElem_cons_succ, Act.put, List.setIfInBounds_toArray, List.set_cons_zero, List.set_cons_succ]
        refine wpAnyH_ready (rs := [1, 3, 5]) (by kernel_rfl) (by simp) ?_
        refine AllReadyH.cons rfl (fun K hK => ?_) (AllReadyH.cons rfl (fun K hK => ?_) (AllReadyH.cons rfl (fun K hK => ?_) AllReadyH.nil))
        · refine step_make_new rfl _ _ 22 rfl 3 iI (.int .i64 0) Try.underlying22 HI.out HI0.out HI1.out rfl _ _ _ _ F rfl rfl rfl rfl (by rw [HI2.out]; omega) (by unfold maxLen; omega) ?_
          intro m1 h1
          refine hK.out _ _ trivial (fun _ => ?_)
          clear hK K
          try simp only [List.getElem_toArray, List.getElem_cons_zero, List.getElem_cons_succ, Act.put, List.setIfInBounds_toArray, List.set_cons_zero, List.set_cons_succ]
          refine wpAnyH_ready (rs := [3, 5]) (by kernel_rfl) (by simp) ?_
          refine AllReadyH.cons rfl (fun K hK => ?_) (AllReadyH.cons rfl (fun K hK => ?_) AllReadyH.nil)
          · refine step_make_new rfl _ _ 34 rfl 22 iS (.slice none 0 0) Try.underlying34 HS.out HS0.out HS1.out rfl _ _ _ _ F rfl rfl rfl rfl (by rw [HS2.out]; omega) (by unfold maxLen; omega) ?_
            intro m2 h2
            refine hK.out _ _ trivial (fun _ => ?_)
            clear hK K
            try simp only [List.getElem_toArray, List.getElem_cons_zero, List.getElem_cons_succ, Act.put, List.setIfInBounds_toArray, List.set_cons_zero, List.set_cons_succ]
            refine wpAnyH_take (i := 4) (v := ?_) rfl (by kernel_rfl) (by kernel_rfl) (by kernel_rfl) (fun _ _ _ h => h) (Or.inl ⟨by rfl, ?_⟩) (by assumption) ?_
            rotate_left
            · intro w _; go_simp; with_reducible rfl
            try simp only [List.getElem_toArray, List.getElem_cons_zero, List.getElem_cons_succ, Act.put, List.setIfInBounds_toArray, List.set_cons_zero, List.set_cons_succ]
            refine wpAnyH_ready (rs := [5]) (by kernel_rfl) (by simp) ?_
            refine AllReadyH.cons rfl (fun K hK => ?_) AllReadyH.nil
            go_simp
            obtain ⟨m3, e3⟩ : ∃ x, x = m2.alloc (.cells [.slice none 0 0, .slice none 0 0].toArray 106) := ⟨_, rfl⟩
            have h3 := NewB.alloc (m2) 106 [.slice none 0 0, .slice none 0 0]
            rw [← e3] at h3
            refine hK.out _ (m2.alloc (.cells [.slice none 0 0, .slice none 0 0].toArray 106)) trivial (fun _ => ?_)
            rw [← e3]
            clear hK K e3
            try simp only [List.getElem_toArray, List.getElem_cons_zero, List.getElem_cons_succ, Act.put, List.setIfInBounds_toArray, List.set_cons_zero, List.set_cons_succ]
            have fl := h3.blk
            have fa := ((h1.blk).grown h2.gr (by simp)).grown h3.gr (by simp)
            have fs := (h2.blk).grown h3.gr (by simp)
            refine wpAnyH_ready (rs := [6]) (by kernel_rfl) (by simp) ?_
            refine AllReadyH.cons rfl (fun K hK => ?_) AllReadyH.nil
            refine step_store_new2 rfl 106 _ _ rfl _ _ _ rfl rfl _ _ fl (by kernel_rfl) rfl ⟨rfl, rfl⟩ ?_
            intro m4 f4 g4
            refine hK.out _ _ trivial (fun _ => ?_)
            clear hK K
            refine wpAnyH_done (by kernel_rfl) ?_ _
            go_wp2_with fail
            go_meet
            have l0 : W.drew.heap.size = W.heap.size := rfl
            have l1 := h1.lt
            have l2 := h2.lt
            have l3 := h3.lt
            rw [← HW.out]
            exact leafB HWZ.out h1.gr h2.gr h3.gr l1 l2 l3 g4 f4 fa fs (by omega) (by omega) (by omega) (by omega)
          · go_simp
            obtain ⟨m2, e2⟩ : ∃ x, x = m1.alloc (.cells [.slice none 0 0, .slice none 0 0].toArray 106) := ⟨_, rfl⟩
            have h2 := NewB.alloc (m1) 106 [.slice none 0 0, .slice none 0 0]
            rw [← e2] at h2
            refine hK.out _ (m1.alloc (.cells [.slice none 0 0, .slice none 0 0].toArray 106)) trivial (fun _ => ?_)
            rw [← e2]
            clear hK K e2
            try simp only [List.getElem_toArray, List.getElem_cons_zero, List.getElem_cons_succ, Act.put, List.setIfInBounds_toArray, List.set_cons_zero, List.set_cons_succ]
            refine wpAnyH_ready (rs := [3]) (by kernel_rfl) (by simp) ?_
            refine AllReadyH.cons rfl (fun K hK => ?_) AllReadyH.nil
            refine step_make_new rfl _ _ 34 rfl 22 iS (.slice none 0 0) Try.underlying34 HS.out HS0.out HS1.out rfl _ _ _ _ F rfl rfl rfl rfl (by rw [HS2.out]; omega) (by unfold maxLen; omega) ?_
            intro m3 h3
            refine hK.out _ _ trivial (fun _ => ?_)
            clear hK K
            try simp only [List.getElem_toArray, List.getElem_cons_zero, List.getElem_cons_succ, Act.put, List.setIfInBounds_toArray, List.set_cons_zero, List.set_cons_succ]
            refine wpAnyH_take (i := 4) (v := ?_) rfl (by kernel_rfl) (by kernel_rfl) (by kernel_rfl) (fun _ _ _ h => h) (Or.inl ⟨by rfl, ?_⟩) (by assumption) ?_
            rotate_left
            · intro w _; go_simp; with_reducible rfl
            try simp only [List.getElem_toArray, List.getElem_cons_zero, List.getElem_cons_succ, Act.put, List.setIfInBounds_toArray, List.set_cons_zero, List.set_cons_succ]
            have fl := (h2.blk).grown h3.gr (by simp)
            have fa := ((h1.blk).grown h2.gr (by simp)).grown h3.gr (by simp)
            have fs := h3.blk
            refine wpAnyH_ready (rs := [6]) (by kernel_rfl) (by simp) ?_
            refine AllReadyH.cons rfl (fun K hK => ?_) AllReadyH.nil
            refine step_store_new2 rfl 106 _ _ rfl _ _ _ rfl rfl _ _ fl (by kernel_rfl) rfl ⟨rfl, rfl⟩ ?_
            intro m4 f4 g4
            refine hK.out _ _ trivial (fun _ => ?_)
            clear hK K
            refine wpAnyH_done (by kernel_rfl) ?_ _
            go_wp2_with fail
            go_meet
            have l0 : W.drew.heap.size = W.heap.size := rfl
            have l1 := h1.lt
            have l2 := h2.lt
            have l3 := h3.lt
            rw [← HW.out]
            exact leafB HWZ.out h1.gr h2.gr h3.gr l1 l2 l3 g4 f4 fa fs (by omega) (by omega) (by omega) (by omega)
        · refine step_make_new rfl _ _ 34 rfl 22 iS (.slice none 0 0) Try.underlying34 HS.out HS0.out HS1.out rfl _ _ _ _ F rfl rfl rfl rfl (by rw [HS2.out]; omega) (by unfold maxLen; omega) ?_
          intro m1 h1
          refine hK.out _ _ trivial (fun _ => ?_)
          clear hK K
          try simp only [List.getElem_toArray, List.getElem_cons_zero, List.getElem_cons_succ, Act.put, List.setIfInBounds_toArray, List.set_cons_zero, List.set_cons_succ]
          refine wpAnyH_ready (rs := [1, 5]) (by kernel_rfl) (by simp) ?_
          refine AllReadyH.cons rfl (fun K hK => ?_) (AllReadyH.cons rfl (fun K hK => ?_) AllReadyH.nil)
          · refine step_make_new rfl _ _ 22 rfl 3 iI (.int .i64 0) Try.underlying22 HI.out HI0.out HI1.out rfl _ _ _ _ F rfl rfl rfl rfl (by rw [HI2.out]; omega) (by unfold maxLen; omega) ?_
            intro m2 h2
            refine hK.out _ _ trivial (fun _ => ?_)
            clear hK K
            try simp only [List.getElem_toArray, List.getElem_cons_zero, List.getElem_cons_succ, Act.put, List.setIfInBounds_toArray, List.set_cons_zero, List.set_cons_succ]
            refine wpAnyH_take (i := 4) (v := ?_) rfl (by kernel_rfl) (by kernel_rfl) (by kernel_rfl) (fun _ _ _ h => h) (Or.inl ⟨by rfl, ?_⟩) (by assumption) ?_
            rotate_left
            · intro w _; go_simp; with_reducible rfl
            try simp only [List.getElem_toArray, List.getElem_cons_zero, List.getElem_cons_succ, Act.put, List.setIfInBounds_toArray, List.set_cons_zero, List.set_cons_succ]
            refine wpAnyH_ready (rs := [5]) (by kernel_rfl) (by simp) ?_
            refine AllReadyH.cons rfl (fun K hK => ?_) AllReadyH.nil
            go_simp
            obtain ⟨m3, e3⟩ : ∃ x, x = m2.alloc (.cells [.slice none 0 0, .slice none 0 0].toArray 106) := ⟨_, rfl⟩
            have h3 := NewB.alloc (m2) 106 [.slice none 0 0, .slice none 0 0]
            rw [← e3] at h3
            refine hK.out _ (m2.alloc (.cells [.slice none 0 0, .slice none 0 0].toArray 106)) trivial (fun _ => ?_)
            rw [← e3]
            clear hK K e3
            try simp only [List.getElem_toArray, List.getElem_cons_zero, List.getElem_cons_succ, Act.put, List.setIfInBounds_toArray, List.set_cons_zero, List.set_cons_succ]
            have fl := h3.blk
            have fa := (h2.blk).grown h3.gr (by simp)
            have fs := ((h1.blk).grown h2.gr (by simp)).grown h3.gr (by simp)
            refine wpAnyH_ready (rs := [6]) (by kernel_rfl) (by simp) ?_
            refine AllReadyH.cons rfl (fun K hK => ?_) AllReadyH.nil
            refine step_store_new2 rfl 106 _ _ rfl _ _ _ rfl rfl _ _ fl (by kernel_rfl) rfl ⟨rfl, rfl⟩ ?_
            intro m4 f4 g4
            refine hK.out _ _ trivial (fun _ => ?_)
            clear hK K
            refine wpAnyH_done (by kernel_rfl) ?_ _
            go_wp2_with fail
            go_meet
            have l0 : W.drew.heap.size = W.heap.size := rfl
            have l1 := h1.lt
            have l2 := h2.lt
            have l3 := h3.lt
            rw [← HW.out]
            exact leafB HWZ.out h1.gr h2.gr h3.gr l1 l2 l3 g4 f4 fa fs (by omega) (by omega) (by omega) (by omega)
          · go_simp
            obtain ⟨m2, e2⟩ : ∃ x, x = m1.alloc (.cells [.slice none 0 0, .slice none 0 0].toArray 106) := ⟨_, rfl⟩
            have h2 := NewB.alloc (m1) 106 [.slice none 0 0, .slice none 0 0]
            rw [← e2] at h2
            refine hK.out _ (m1.alloc (.cells [.slice none 0 0, .slice none 0 0].toArray 106)) trivial (fun _ => ?_)
            rw [← e2]
            clear hK K e2
            try simp only [List.getElem_toArray, List.getElem_cons_zero, List.getElem_cons_succ, Act.put, List.setIfInBounds_toArray, List.set_cons_zero, List.set_cons_succ]
            refine wpAnyH_ready (rs := [1]) (by kernel_rfl) (by simp) ?_
            refine AllReadyH.cons rfl (fun K hK => ?_) AllReadyH.nil
            refine step_make_new rfl _ _ 22 rfl 3 iI (.int .i64 0) Try.underlying22 HI.out HI0.out HI1.out rfl _ _ _ _ F rfl rfl rfl rfl (by rw [HI2.out]; omega) (by unfold maxLen; omega) ?_
            intro m3 h3
            refine hK.out _ _ trivial (fun _ => ?_)
            clear hK K
            try simp only [List.getElem_toArray, List.getElem_cons_zero, List.getElem_cons_succ, Act.put, List.setIfInBounds_toArray, List.set_cons_zero, List.set_cons_succ]
            refine wpAnyH_take (i := 4) (v := ?_) rfl (by kernel_rfl) (by kernel_rfl) (by kernel_rfl) (fun _ _ _ h => h) (Or.inl ⟨by rfl, ?_⟩) (by assumption) ?_
            rotate_left
            · intro w _; go_simp; with_reducible rfl
            try simp only [List.getElem_toArray, List.getElem_cons_zero, List.getElem_cons_succ, Act.put, List.setIfInBounds_toArray, List.set_cons_zero, List.set_cons_succ]
            have fl := (h2.blk).grown h3.gr (by simp)
            have fa := h3.blk
            have fs := ((h1.blk).grown h2.gr (by simp)).grown h3.gr (by simp)
            refine wpAnyH_ready (rs := [6]) (by kernel_rfl) (by simp) ?_
            refine AllReadyH.cons rfl (fun K hK => ?_) AllReadyH.nil
            refine step_store_new2 rfl 106 _ _ rfl _ _ _ rfl rfl _ _ fl (by kernel_rfl) rfl ⟨rfl, rfl⟩ ?_
            intro m4 f4 g4
            refine hK.out _ _ trivial (fun _ => ?_)
            clear hK K
            refine wpAnyH_done (by kernel_rfl) ?_ _
            go_wp2_with fail
            go_meet
            have l0 : W.drew.heap.size = W.heap.size := rfl
            have l1 := h1.lt
            have l2 := h2.lt
            have l3 := h3.lt
            rw [← HW.out]
            exact leafB HWZ.out h1.gr h2.gr h3.gr l1 l2 l3 g4 f4 fa fs (by omega) (by omega) (by omega) (by omega)
        · go_simp
          obtain ⟨m1, e1⟩ : ∃ x, x = W.drew.alloc (.cells [.slice none 0 0, .slice none 0 0].toArray 106) := ⟨_, rfl⟩
          have h1 := NewB.alloc (W.drew) 106 [.slice none 0 0, .slice none 0 0]
          rw [← e1] at h1
          refine hK.out _ (W.drew.alloc (.cells [.slice none 0 0, .slice none 0 0].toArray 106)) trivial (fun _ => ?_)
          rw [← e1]
          clear hK K e1
          try simp only [List.getElem_toArray, List.getElem_cons_zero, List.getElem_cons_succ, Act.put, List.setIfInBounds_toArray, List.set_cons_zero, List.set_cons_succ]
          refine wpAnyH_ready (rs := [1, 3]) (by kernel_rfl) (by simp) ?_
          refine AllReadyH.cons rfl (fun K hK => ?_) (AllReadyH.cons rfl (fun K hK => ?_) AllReadyH.nil)
          · refine step_make_new rfl _ _ 22 rfl 3 iI (.int .i64 0) Try.underlying22 HI.out HI0.out HI1.out rfl _ _ _ _ F rfl rfl rfl rfl (by rw [HI2.out]; omega) (by unfold maxLen; omega) ?_
            intro m2 h2
            refine hK.out _ _ trivial (fun _ => ?_)
            clear hK K
            try simp only [List.getElem_toArray, List.getElem_cons_zero, List.getElem_cons_succ, Act.put, List.setIfInBounds_toArray, List.set_cons_zero, List.set_cons_succ]
            refine wpAnyH_ready (rs := [3]) (by kernel_rfl) (by simp) ?_
            refine AllReadyH.cons rfl (fun K hK => ?_) AllReadyH.nil
            refine step_make_new rfl _ _ 34 rfl 22 iS (.slice none 0 0) Try.underlying34 HS.out HS0.out HS1.out rfl _ _ _ _ F rfl rfl rfl rfl (by rw [HS2.out]; omega) (by unfold maxLen; omega) ?_
            intro m3 h3
            refine hK.out _ _ trivial (fun _ => ?_)
            clear hK K
            try simp only [List.getElem_toArray, List.getElem_cons_zero, List.getElem_cons_succ, Act.put, List.setIfInBounds_toArray, List.set_cons_zero, List.set_cons_succ]
            refine wpAnyH_take (i := 4) (v := ?_) rfl (by kernel_rfl) (by kernel_rfl) (by kernel_rfl) (fun _ _ _ h => h) (Or.inl ⟨by rfl, ?_⟩) (by assumption) ?_
            rotate_left
            · intro w _; go_simp; with_reducible rfl
            try simp only [List.getElem_toArray, List.getElem_cons_zero, List.getElem_cons_succ, Act.put, List.setIfInBounds_toArray, List.set_cons_zero, List.set_cons_succ]
            have fl := ((h1.blk).grown h2.gr (by simp)).grown h3.gr (by simp)
            have fa := (h2.blk).grown h3.gr (by simp)
            have fs := h3.blk
            refine wpAnyH_ready (rs := [6]) (by kernel_rfl) (by simp) ?_
            refine AllReadyH.cons rfl (fun K hK => ?_) AllReadyH.nil
            refine step_store_new2 rfl 106 _ _ rfl _ _ _ rfl rfl _ _ fl (by kernel_rfl) rfl ⟨rfl, rfl⟩ ?_
            intro m4 f4 g4
            refine hK.out _ _ trivial (fun _ => ?_)
            clear hK K
            refine wpAnyH_done (by kernel_rfl) ?_ _
            go_wp2_with fail
            go_meet
            have l0 : W.drew.heap.size = W.heap.size := rfl
            have l1 := h1.lt
            have l2 := h2.lt
            have l3 := h3.lt
            rw [← HW.out]
            exact leafB HWZ.out h1.gr h2.gr h3.gr l1 l2 l3 g4 f4 fa fs (by omega) (by omega) (by omega) (by omega)
          · refine step_make_new rfl _ _ 34 rfl 22 iS (.slice none 0 0) Try.underlying34 HS.out HS0.out HS1.out rfl _ _ _ _ F rfl rfl rfl rfl (by rw [HS2.out]; omega) (by unfold maxLen; omega) ?_
            intro m2 h2
            refine hK.out _ _ trivial (fun _ => ?_)
            clear hK K
            try simp only [List.getElem_toArray, List.getElem_cons_zero, List.getElem_cons_succ, Act.put, List.setIfInBounds_toArray, List.set_cons_zero, List.set_cons_succ]
            refine wpAnyH_ready (rs := [1]) (by kernel_rfl) (by simp) ?_
            refine AllReadyH.cons rfl (fun K hK => ?_) AllReadyH.nil
            refine step_make_new rfl _ _ 22 rfl 3 iI (.int .i64 0) Try.underlying22 HI.out HI0.out HI1.out rfl _ _ _ _ F rfl rfl rfl rfl (by rw [HI2.out]; omega) (by unfold maxLen; omega) ?_
            intro m3 h3
            refine hK.out _ _ trivial (fun _ => ?_)
            clear hK K
            try simp only [List.getElem_toArray, List.getElem_cons_zero, List.getElem_cons_succ, Act.put, List.setIfInBounds_toArray, List.set_cons_zero, List.set_cons_succ]
            refine wpAnyH_take (i := 4) (v := ?_) rfl (by kernel_rfl) (by kernel_rfl) (by kernel_rfl) (fun _ _ _ h => h) (Or.inl ⟨by rfl, ?_⟩) (by assumption) ?_
            rotate_left
            · intro w _; go_simp; with_reducible rfl
            try simp only [List.getElem_toArray, List.getElem_cons_zero, List.getElem_cons_succ, Act.put, List.setIfInBounds_toArray, List.set_cons_zero, List.set_cons_succ]
            have fl := ((h1.blk).grown h2.gr (by simp)).grown h3.gr (by simp)
            have fa := h3.blk
            have fs := (h2.blk).grown h3.gr (by simp)
            refine wpAnyH_ready (rs := [6]) (by kernel_rfl) (by simp) ?_
            refine AllReadyH.cons rfl (fun K hK => ?_) AllReadyH.nil
            refine step_store_new2 rfl 106 _ _ rfl _ _ _ rfl rfl _ _ fl (by kernel_rfl) rfl ⟨rfl, rfl⟩ ?_
            intro m4 f4 g4
            refine hK.out _ _ trivial (fun _ => ?_)
            clear hK K
            refine wpAnyH_done (by kernel_rfl) ?_ _
            go_wp2_with fail
            go_meet
            have l0 : W.drew.heap.size = W.heap.size := rfl
            have l1 := h1.lt
            have l2 := h2.lt
            have l3 := h3.lt
            rw [← HW.out]
            exact leafB HWZ.out h1.gr h2.gr h3.gr l1 l2 l3 g4 f4 fa fs (by omega) (by omega) (by omega) (by omega)
      case rest =>
        obtain ⟨bl, a, s, rfl, H0, hB0⟩ := hcut
        obtain ⟨W, hW⟩ : ∃ W, W = (w.alloc (.cells #[.slice none 0 0, .slice none 0 0] 106)) := ⟨_, rfl⟩
        rw [← hW] at hB0
        have hWz : W.heap.size = w.heap.size + 1 := by rw [hW]; simp
        have hWB : Below w.heap.size w W := by rw [hW]; exact below_new w _
        have hWb : Blk W w.heap.size 106 [.slice none 0 0, .slice none 0 0] := by rw [hW]; exact Blk.new w _ [.slice none 0 0, .slice none 0 0] _ rfl
        rw [hWz] at hB0
        have HW := Lib.hid hW
        have HWZ := Lib.hid hWz
        clear hW hWz
        have hfp : 0 < F := by rw [← hN.out]; exact HG.out.pos
        have hsz0 : w.heap.size + 1 ≤ wc.heap.size := by have := hB0.size; have := HWZ.out; omega
        obtain ⟨c0, c1⟩ := BA.cl H0
        go_wp2
        clear c0 c1
        have hB0' := hB0
        rw [← sNeg_zero] at H0
        go_loopw [6, 30] (fun _ i wr => ∃ k : Nat, k ≤ F ∧ i = .int .i64 k ∧ BA0 (w.heap.size + 1) F wr bl a s (sNeg F k) (List.replicate F (.slice none 0 0)) ∧ Below (w.heap.size + 1) W wr) (fun _ i _ => F - (intOf i).toNat)
        case atStart => exact ⟨0, Nat.zero_le _, rfl, H0, hB0'⟩
        case round =>
          obtain ⟨k, hk, rfl, H, hB⟩ := hrel
          clear hB0 hB0' H0
          by_cases hlt : k < F
          · obtain ⟨c0, c1⟩ := BA.cl H
            obtain ⟨hc, hf⟩ := BA.cF H k (by rw [sNeg_length hk]; exact hlt)
            have H' := H.setF k (-1)
            rw [sNeg_step F k hlt] at H'
            have hB' := hB.setCell (p := ⟨a, k, none⟩) (by exact H.ba) (iv (-1))
            clear H hB c1
            go_wp2
            go_roundw
            case rel => exact ⟨k + 1, by omega, by go_num, H', hB'⟩
            case measure => simp [intOf] <;> omega
          · obtain rfl : k = F := by omega
            obtain ⟨c0, c1⟩ := BA.cl H
            obtain ⟨hc, hf⟩ := BA.cF H 0 (by rw [sNeg_length hk]; exact hfp)
            have H1 := H.setF 0 0
            have HST := Lib.hid (sF_start HG.out)
            rw [hN.out] at HST
            rw [sNeg_all, HST.out] at H1
            have hB1 := hB.setCell (p := ⟨a, 0, none⟩) (by exact H.ba) (iv 0)
            have F2 := BA.start H1 (by rw [sF_length]; exact hN.out)
            obtain ⟨W2, hW2⟩ : ∃ W2, W2 = wr.setCell ⟨a, 0, none⟩ (iv 0) := ⟨_, rfl⟩
            rw [← hW2] at F2 hB1
            have HW2 := Lib.hid hW2
            clear hW2 H H1 hB hlt c1
            go_wp2
            rw [← HW2.out]
            have F2d : BA (w.heap.size + 1) k W2.drew bl a s none (sF (bBd n) [0]) (List.replicate k (.slice none 0 0)) (List.replicate k []) := F2.kept (fun _ _ _ => rfl)
            have hszd : w.heap.size + 1 ≤ W2.drew.heap.size := by have := hB1.size; have := HWZ.out; show _ ≤ W2.heap.size; omega
            have k1 : W2.drew.cell? ⟨bl, 1, none⟩ = some (.slice (some ⟨s, 0, none⟩) k k) := (BA.cl F2d.toBA0).2
            have HXS := Lib.hid (sX_start (u := bun n) HG.out)
            rw [hN.out, bun_zero h1 (by omega)] at HXS
            go_region_held3 (fun w' => w'.cell? ⟨bl, 1, none⟩ = some (.slice (some ⟨s, 0, none⟩) k k)) (first | exact k1 | exact k2 | exact k3)
              ((go_at_call 148; refine (stFirst_any n _ (by omega)).mono ?_; rintro e w2 ⟨r, rfl, hor, hfr, hb2⟩; obtain ⟨ra, rcap, rfl, _, _, _⟩ := hor.shape; have F3 := F2d.below hb2 (Nat.le_refl _); have hco := F2d.new hfr hszd (fun g hg => by cases hg); have F4 := F3.setS 0 _ (ramp 1 n) hor hco; have k2 := (BA.cl F3.toBA0).2; have k3 := (BA.cl F4.toBA0).2; obtain ⟨hcs, hfs⟩ := BA.cS F3.toBA0 0 (by simp; omega)))
            rw [HXS.out] at F4
            have hB4 : Below (w.heap.size + 1) W (w2.setCell ⟨s, 0, none⟩ (.slice ra (ramp 1 n).length rcap)) := (hB1.drew.trans (hb2.mono hszd)).setCell (p := ⟨s, 0, none⟩) (by exact F3.bs) (.slice ra (ramp 1 n).length rcap)
            obtain ⟨W4, hW4⟩ : ∃ W4, W4 = w2.setCell ⟨s, 0, none⟩ (.slice ra (ramp 1 n).length rcap) := ⟨_, rfl⟩
            rw [← hW4] at F4 hB4
            have HW4 := Lib.hid hW4
            clear hW4 F2 F2d hco k1 k2 k3 hcs hfs hor hfr hb2 hB1
            rw [← HW4.out]
            go_wp2
            have hown4 : (W4.alloc (.cells #[.int .i64 0] 3)).ownsRow (w.heap.size + 1) 3 1 (.slice (some ⟨W4.heap.size, 0, none⟩) 1 1) 1 (([0] : List Nat).map fun r : Nat => iv (r : Int)) := World.ownsRow_lit W4 #[.int .i64 0] 1 (by have := hB4.size; have := HWZ.out; omega) (by unfold maxLen; omega) rfl
            have F6 : BA (w.heap.size + 1) k (W4.alloc (.cells #[.int .i64 0] 3)) bl a s (some W4.heap.size) (sF (bBd n) [0]) ((List.replicate k (.slice none 0 0)).set 0 (.slice ra (ramp 1 n).length rcap)) (sX (bBd n) (bun n) [0]) := (F4.requeue (.inr (Nat.le_refl _))).alloc _
            have hB6 : Below (w.heap.size + 1) W (W4.alloc (.cells #[.int .i64 0] 3)) := hB4.alloc (by have := hB4.size; have := HWZ.out; omega) _
            have hqs := SQ.start HG.out
            clear F4 hB4
            go_loopw [7, 8, 9, 10, 11] (fun qv qi _ _ _ wr => ∃ (p : Nat) (Q : List Nat) (g cap : Nat) (S : List Value), qi = .int .i64 p ∧ qv = .slice (some ⟨g, 0, none⟩) Q.length cap ∧ SQ (bBd n) Q p ∧ wr.ownsRow (w.heap.size + 1) 3 1 (.slice (some ⟨g, 0, none⟩) Q.length cap) Q.length (Q.map fun r : Nat => iv (r : Int)) ∧ BA (w.heap.size + 1) k wr bl a s (some g) (sF (bBd n) Q) S (sX (bBd n) (bun n) Q) ∧ Below (w.heap.size + 1) W wr) (fun _ qi _ _ _ _ => k - (intOf qi).toNat)
            case atStart => exact ⟨0, [0], _, _, _, rfl, rfl, hqs, hown4, F6, hB6⟩
            case round =>
              obtain ⟨p, Q, g, cap, S, rfl, rfl, hQ, hown, hF, hB⟩ := hrel
              clear hqs hown4 F6 hB6
              by_cases hlt : p < Q.length
              · obtain ⟨x, hx⟩ : ∃ x, Q[p]? = some x := ⟨_, List.getElem?_eq_getElem hlt⟩
                have hlt' : (p : Int) < Q.length := by omega
                have HI0' := hQ.inner hx
                rw [bBd_lo] at HI0'
                have hxl : x < (bBd n).N := hQ.lt x (List.mem_of_getElem? hx)
                have hpN : p < k := by have := hQ.length_le; rw [hN.out] at this; omega
                have HX := Lib.hid hx
                clear hx hQ
                go_wp2
                go_loopw [7, 9, 10, 11] (fun qv kv _ _ w5 => ∃ (Q' : List Nat) (K g' cap' : Nat) (S' : List Value), kv = .int .i64 K ∧ 1 ≤ K ∧ K ≤ n + 1 ∧ qv = .slice (some ⟨g', 0, none⟩) Q'.length cap' ∧ SI (bBd n) Q' p x K ∧ w5.ownsRow (w.heap.size + 1) 3 1 (.slice (some ⟨g', 0, none⟩) Q'.length cap') Q'.length (Q'.map fun r : Nat => iv (r : Int)) ∧ BA (w.heap.size + 1) k w5 bl a s (some g') (sF (bBd n) Q') S' (sX (bBd n) (bun n) Q') ∧ Below (w.heap.size + 1) W w5) (fun _ kv _ _ _ => n + 1 - (intOf kv).toNat)
                case atStart => exact ⟨Q, 1, g, cap, S, rfl, by omega, by omega, rfl, HI0', hown, hF, hB⟩
                case round =>
                  obtain ⟨Q', K, g', cap', S', rfl, hK1, hKn, rfl, hBI, hown', hF', hB'⟩ := hrel
                  clear HI0' hown hF hB
                  by_cases hKl : K ≤ n
                  · have hKl' : (K : Int) ≤ n := by omega
                    have hxQ := List.mem_of_getElem? hBI.cur
                    have hpl := (List.getElem?_eq_some_iff.1 hBI.cur).1
                    have hpl' : (p : Int) < Q'.length := by omega
                    obtain ⟨u, hu⟩ : ∃ u, S'[x]? = some u := ⟨_, List.getElem?_eq_getElem (by rw [hF'.lS, ← hN.out]; exact hxl)⟩
                    have hXx : (sX (bBd n) (bun n) Q')[x]? = some (bun n x) := by rw [List.getElem?_eq_getElem (by rw [sX_length]; exact hxl), sX_get hxl, if_pos hxQ]
                    obtain ⟨hou, _⟩ := hF'.row x u _ hu hXx
                    have hst : BSt n (bun n x) := bun_st h1 (by omega) hxl
                    obtain ⟨ua, uc, rfl, _, _, _⟩ := hou.shape
                    obtain ⟨c0, c1⟩ := BA.cl hF'.toBA0
                    have hsx : wr.cell? ⟨s, x, none⟩ = some (.slice ua (bun n x).length uc) := by have := (BA.cS hF'.toBA0 x (by rw [hF'.lS, ← hN.out]; exact hxl)).1; rw [List.getElem?_eq_getElem (by rw [hF'.lS, ← hN.out]; exact hxl)] at hu; rw [this, ← hu]
                    have hcq : wr.cell? ⟨g', p, none⟩ = some (iv x) := by rw [hown'.cellAt p (by omega), List.getElem?_map, hBI.cur]; rfl
                    have hxk : x < k := by rw [← hN.out]; exact hxl
                    have hxl' : (x : Int) < k := by omega
                    have hlu : (bun n x).length = n := hst.2
                    have hu9 : (bun n x).length ≤ 1048576 := by omega
                    have huK : K ≤ (bun n x).length := by omega
                    have htl : (bBd n).nb x K < (bBd n).N := HG.out.lt x K hxl hK1 (by rw [bBd_hi]; omega)
                    have hsmall := Lib.hid (Burnt.small hst.1)
                    have hst2 := hst.turn K
                    have hsmall2 := Lib.hid (Burnt.small hst2.1)
                    obtain ⟨tq, hto⟩ : ∃ t, (bBd n).nb x K = t := ⟨_, rfl⟩
                    have htr : brank (bturnL (bun n x) K) = tq := hto
                    have hun : bun n tq = bturnL (bun n x) K := by rw [← hto]; exact bnb_un h1 (by omega) hxl K
                    rw [hto] at htl
                    have HTO := Lib.hid hto
                    have HTR := Lib.hid htr
                    have HUN := Lib.hid hun
                    have hl9 : (bturnL (bun n x) K).length ≤ 9 := by rw [bturnL_length]; omega
                    have hgq := hown'.lt g' rfl
                    have hblt := hF'.l.lt
                    have hslt := hF'.st.lt
                    have hD : BA (w.heap.size + 1) k wr.drew bl a s (some g') (sF (bBd n) Q') S' (sX (bBd n) (bun n) Q') := hF'.kept (fun _ _ _ => rfl)
                    have hownD : wr.drew.ownsRow (w.heap.size + 1) 3 1 (.slice (some ⟨g', 0, none⟩) Q'.length cap') Q'.length (Q'.map fun r : Nat => iv (r : Int)) := hown'
                    have hBD := hB'.drew
                    have houD : OwnI wr.drew (.slice ua (bun n x).length uc) (bun n x) := hou.kept (fun _ _ => rfl)
                    have hzD : w.heap.size + 1 ≤ wr.drew.heap.size := by have := hB'.size; have := HWZ.out; show _ ≤ wr.heap.size; omega
                    have HLU := Lib.hid hlu
                    clear hst hst2 hto htr hun hu hXx hlu
                    go_upto_region 21 with fail
                    refine wp_region_held_drew (S := (fun w' => w'.cell? ⟨bl, 1, none⟩ = some (.slice (some ⟨s, 0, none⟩) k k) ∧ w'.cell? ⟨g', p, none⟩ = some (iv x) ∧ w'.cell? ⟨s, x, none⟩ = some (.slice ua (bun n x).length uc))) (by kernel_rfl) (⟨c1, hcq, hsx⟩) (fun hHeld => ?_)
                    refine wpAnyH_take (i := 0) (v := ?_) rfl (by kernel_rfl) (by kernel_rfl) (by kernel_rfl) (fun _ _ _ h => h) (Or.inl ⟨by rfl, ?_⟩) (by assumption) ?_
                    rotate_left
                    · intro w _; go_simp; with_reducible rfl
                    try simp only [List.getElem_toArray, List.getElem_cons_zero, Act.put, List.setIfInBounds_toArray, List.set_cons_zero, List.set_cons_succ]
                    refine wpAnyH_take (i := 1) (v := ?_) rfl (by kernel_rfl) (by kernel_rfl) (by kernel_rfl) (fun _ _ _ h => h) (Or.inl ⟨by rfl, ?_⟩) (by assumption) ?_
                    rotate_left
                    · intro w hSw; (try dsimp only at hSw); (go_simp <;> with_reducible rfl)
                    try simp only [List.getElem_toArray, List.getElem_cons_zero, List.getElem_cons_succ, Act.put, List.setIfInBounds_toArray, List.set_cons_zero, List.set_cons_succ]
                    refine wpAnyH_take (i := 2) (v := ?_) rfl (by kernel_rfl) (by kernel_rfl) (by kernel_rfl) (fun _ _ _ h => h) (Or.inl ⟨by rfl, ?_⟩) (by assumption) ?_
                    rotate_left
                    · intro w _; go_simp; with_reducible rfl
                    try simp only [List.getElem_toArray, List.getElem_cons_zero, List.getElem_cons_succ, Act.put, List.setIfInBounds_toArray, List.set_cons_zero, List.set_cons_succ]
                    refine wpAnyH_take (i := 3) (v := ?_) rfl (by kernel_rfl) (by kernel_rfl) (by kernel_rfl) (fun _ _ _ h => h) (Or.inl ⟨by rfl, ?_⟩) (by assumption) ?_
                    rotate_left
                    · intro w _; go_simp; with_reducible rfl
                    try simp only [List.getElem_toArray, List.getElem_cons_zero, List.getElem_cons_succ, Act.put, List.setIfInBounds_toArray, List.set_cons_zero, List.set_cons_succ]
                    refine wpAnyH_take (i := 4) (v := ?_) rfl (by kernel_rfl) (by kernel_rfl) (by kernel_rfl) (fun _ _ _ h => h) (Or.inl ⟨by rfl, ?_⟩) (by assumption) ?_
                    rotate_left
                    · intro w _; go_simp; with_reducible rfl
                    try simp only [List.getElem_toArray, List.getElem_cons_zero, List.getElem_cons_succ, Act.put, List.setIfInBounds_toArray, List.set_cons_zero, List.set_cons_succ]
                    refine wpAnyH_take (i := 5) (v := ?_) rfl (by kernel_rfl) (by kernel_rfl) (by kernel_rfl) (fun _ _ _ h => h) (Or.inl ⟨by rfl, ?_⟩) (by assumption) ?_
                    rotate_left
                    · intro w hSw; (try dsimp only at hSw); (go_simp <;> with_reducible rfl)
                    try simp only [List.getElem_toArray, List.getElem_cons_zero, List.getElem_cons_succ, Act.put, List.setIfInBounds_toArray, List.set_cons_zero, List.set_cons_succ]
                    refine wpAnyH_take (i := 6) (v := ?_) rfl (by kernel_rfl) (by kernel_rfl) (by kernel_rfl) (fun _ _ _ h => h) (Or.inl ⟨by rfl, ?_⟩) (by assumption) ?_
                    rotate_left
                    · intro w _; go_simp; with_reducible rfl
                    try simp only [List.getElem_toArray, List.getElem_cons_zero, List.getElem_cons_succ, Act.put, List.setIfInBounds_toArray, List.set_cons_zero, List.set_cons_succ]
                    refine wpAnyH_take (i := 7) (v := ?_) rfl (by kernel_rfl) (by kernel_rfl) (by kernel_rfl) (fun _ _ _ h => h) (Or.inl ⟨by rfl, ?_⟩) (by assumption) ?_
                    rotate_left
                    · intro w hSw; (try dsimp only at hSw); (go_simp <;> with_reducible rfl)
                    try simp only [List.getElem_toArray, List.getElem_cons_zero, List.getElem_cons_succ, Act.put, List.setIfInBounds_toArray, List.set_cons_zero, List.set_cons_succ]
                    refine wpAnyH_take (i := 8) (v := ?_) rfl (by kernel_rfl) (by kernel_rfl) (by kernel_rfl) (fun _ _ _ h => h) (Or.inl ⟨by rfl, ?_⟩) (by assumption) ?_
                    rotate_left
                    · intro w _; go_simp; with_reducible rfl
                    try simp only [List.getElem_toArray, List.getElem_cons_zero, List.getElem_cons_succ, Act.put, List.setIfInBounds_toArray, List.set_cons_zero, List.set_cons_succ]
                    refine wpAnyH_ready (rs := [9]) (by kernel_rfl) (by simp) ?_
                    refine AllReadyH.cons rfl (fun Kc hK => ?_) AllReadyH.nil
                    go_simp
                    refine (buTurn_any _ (bun n x) K wr.drew houD hu9 huK hsmall).mono ?_
                    rintro e w6 ⟨r, rfl, hor, hfr, hb6⟩
                    go_wp2_with fail
                    refine hK.out _ _ (⟨(hb6.cell (p := ⟨bl, 1, none⟩) hblt).trans hHeld.1, (hb6.cell (p := ⟨g', p, none⟩) hgq.2).trans hHeld.2.1, (hb6.cell (p := ⟨s, x, none⟩) hslt).trans hHeld.2.2⟩) (fun hHeld => ?_)
                    clear hK Kc
                    try simp only [List.getElem_toArray, List.getElem_cons_zero, List.getElem_cons_succ, Act.put, List.setIfInBounds_toArray, List.set_cons_zero, List.set_cons_succ]
                    refine wpAnyH_take (i := 10) (v := ?_) rfl (by kernel_rfl) (by kernel_rfl) (by kernel_rfl) (fun _ _ _ h => h) (Or.inl ⟨by rfl, ?_⟩) (by assumption) ?_
                    rotate_left
                    · intro w _; go_simp; with_reducible rfl
                    try simp only [List.getElem_toArray, List.getElem_cons_zero, List.getElem_cons_succ, Act.put, List.setIfInBounds_toArray, List.set_cons_zero, List.set_cons_succ]
                    refine wpAnyH_done (by kernel_rfl) ?_ _
                    have hF6 := hD.below hb6 (Nat.le_refl _)
                    have hB6 := hBD.trans (hb6.mono hzD)
                    have hown6 : w6.ownsRow (w.heap.size + 1) 3 1 (.slice (some ⟨g', 0, none⟩) Q'.length cap') Q'.length (Q'.map fun r : Nat => iv (r : Int)) := hownD.kept (w' := w6) (row := none) ⟨hb6.os, hb6.tape, hb6.output, hb6.size, fun k hk _ => hb6.block k hk⟩ (.inr (by simp [Value.ownBlock]))
                    have hco := hD.new hfr hzD (fun g hg => by cases hg; exact hgq.2)
                    have hgq6 : g' < w6.heap.size := Nat.lt_of_lt_of_le hgq.2 hb6.size
                    clear hF' hB' hown' hou hsx c0 c1 hcq hD hownD hBD houD hHeld
                    obtain ⟨rl, ra', rc', hrs⟩ : ∃ rl ra' rc', r = .slice ra' rl rc' ∧ rl = (bturnL (bun n x) K).length := by
                      obtain ⟨ra', rc', rfl, _, _, _⟩ := hor.shape
                      exact ⟨_, ra', rc', rfl, rfl⟩
                    obtain ⟨rfl, hrl⟩ := hrs
                    have HRL := Lib.hid hrl
                    clear hrl
                    have c7 := buRank_any _ _ w6 hor hl9 hsmall2
                    rw [HTR.out] at c7
                    go_wp2_with fail
                    refine c7.mono ?_
                    rintro e w7 ⟨rfl, hb7⟩
                    clear c7
                    have hF7 := hF6.below hb7 (Nat.le_refl _)
                    have hz6 : w.heap.size + 1 ≤ w6.heap.size := Nat.le_trans hzD hb6.size
                    have hB7' := hB6.trans (hb7.mono hz6)
                    have hown7 : w7.ownsRow (w.heap.size + 1) 3 1 (.slice (some ⟨g', 0, none⟩) Q'.length cap') Q'.length (Q'.map fun r : Nat => iv (r : Int)) := hown6.kept (w' := w7) (row := none) ⟨hb7.os, hb7.tape, hb7.output, hb7.size, fun k hk _ => hb7.block k hk⟩ (.inr (by simp [Value.ownBlock]))
                    have hor7 := hor.same hb7
                    have hgq7 : g' < w7.heap.size := Nat.lt_of_lt_of_le hgq6 hb7.size
                    clear hF6 hB6 hown6 hor hb6 hb7 hfr
                    obtain ⟨c0, c1⟩ := BA.cl hF7.toBA0
                    obtain ⟨hct, hft⟩ := BA.cF hF7.toBA0 tq (by rw [sF_length]; exact htl)
                    obtain ⟨hcx, hfx⟩ := BA.cF hF7.toBA0 x (by rw [sF_length]; exact hxl)
                    have hcq : w7.cell? ⟨g', p, none⟩ = some (iv x) := by rw [hown7.cellAt p (by omega), List.getElem?_map, hBI.cur]; rfl
                    rw [sF_get htl] at hct
                    rw [sF_get hxl, if_pos hxQ] at hcx
                    have htk : tq < k := by rw [← hN.out]; exact htl
                    have htl' : (tq : Int) < k := by omega
                    have hdx := bBd_le h1 h5 hxl
                    obtain ⟨dx, hdxe⟩ : ∃ d, (bBd n).d x = d := ⟨_, rfl⟩
                    rw [hdxe] at hcx hdx
                    have HDX := Lib.hid hdxe
                    clear hfx hdxe
                    obtain ⟨vt, hvt⟩ : ∃ v : Int, (if tq ∈ Q' then ((bBd n).d tq : Int) else -1) = v := ⟨_, rfl⟩
                    rw [hvt] at hct
                    have HVT := Lib.hid hvt
                    clear hvt
                    by_cases hq : tq ∈ Q'
                    · have hd0 : 0 ≤ vt := by have := HVT.out; rw [if_pos hq] at this; omega
                      have hBI2 := hBI.next_old (by rw [HTO.out]; exact hq)
                      clear hq
                      go_wp2
                      go_roundw
                      case rel => exact ⟨Q', K + 1, g', cap', S', by go_num, by omega, by omega, rfl, hBI2, hown7, hF7, hB7'⟩
                      case measure => simp [intOf] <;> omega
                    · have hd0 : vt < 0 := by have := HVT.out; rw [if_neg hq] at this; omega
                      have hKh : K < (bBd n).hi := by rw [bBd_hi]; omega
                      have hfn := hBI.far_new HG.out hK1 hKh (by rw [HTO.out]; exact hq)
                      rw [HTO.out, HDX.out] at hfn
                      have hBI2 := hBI.next_new HG.out hK1 hKh (by rw [HTO.out]; exact hq)
                      rw [HTO.out] at hBI2
                      have HFN := Lib.hid hfn
                      clear hfn hq
                      have hs1 := IntWalk.i64_in ((dx : Int) + 1) (by omega)
                      go_upto_region 24 with fail
                      go_region
                      clear hs1 c0 c1 hcx hct hft hd0 hcq
                      have F7 := (hF7.setF tq ((dx : Int) + 1)).kept (w' := (w7.setCell ⟨a, tq, none⟩ (iv ((dx : Int) + 1))).drew) (fun _ _ _ => rfl)
                      rw [show ((dx : Int) + 1) = ((bBd n).d tq : Nat) by rw [HFN.out]; simp, sF_snoc] at F7
                      have hB7 : Below (w.heap.size + 1) W (w7.setCell ⟨a, tq, none⟩ (iv ((dx : Int) + 1))).drew := (hB7'.setCell (p := ⟨a, tq, none⟩) (by exact hF7.ba) _).drew
                      have hown8' := hown7.kept (w' := w7.setCell ⟨a, tq, none⟩ (iv ((dx : Int) + 1))) (row := some a) (grownBy_setCell w7 a tq _) (.inr (by have := hF7.nq.2.1; simpa [Value.ownBlock] using this))
                      have hown8 : (w7.setCell ⟨a, tq, none⟩ (iv ((dx : Int) + 1))).drew.ownsRow (w.heap.size + 1) 3 1 (.slice (some ⟨g', 0, none⟩) Q'.length cap') Q'.length (Q'.map fun r : Nat => iv (r : Int)) := hown8'
                      clear hown8'
                      have hor8 : OwnI (w7.setCell ⟨a, tq, none⟩ (iv ((dx : Int) + 1))).drew (.slice ra' rl rc') (bturnL (bun n x) K) := (hor7.kept (w' := w7.setCell ⟨a, tq, none⟩ (iv ((dx : Int) + 1))) (fun g hg => heapB_ne (hco g hg).2.2.1)).drew
                      obtain ⟨W7, hW7⟩ : ∃ W7, W7 = (w7.setCell ⟨a, tq, none⟩ (iv ((dx : Int) + 1))).drew := ⟨_, rfl⟩
                      rw [show (((bBd n).d tq : Nat) : Int) = (dx : Int) + 1 by rw [HFN.out]; simp] at F7
                      rw [← hW7] at F7 hB7 hown8 hor8
                      have HW7 := Lib.hid hW7
                      clear hW7 hF7 hB7' hown7 hor7
                      rw [← HW7.out]
                      have hsz7 : g' < W7.heap.size := (hown8.lt g' rfl).2
                      have hz8 : w.heap.size + 1 ≤ W7.heap.size := by have := hB7.size; have := HWZ.out; omega
                      have F8 := F7.setS tq (.slice ra' rl rc') (bturnL (bun n x) K) hor8 hco
                      rw [← HUN.out, sX_snoc] at F8
                      obtain ⟨c0, c1⟩ := BA.cl F7.toBA0
                      obtain ⟨sv, hcs⟩ : ∃ sv, W7.cell? ⟨s, tq, none⟩ = some sv := ⟨_, (BA.cS F7.toBA0 tq (by rw [F7.lS]; exact htk)).1⟩
                      have hfs := (BA.cS F7.toBA0 tq (by rw [F7.lS]; exact htk)).2
                      have hB8 := hB7.setCell (p := ⟨s, tq, none⟩) (by exact F7.bs) (.slice ra' rl rc')
                      have hown9' := hown8.kept (row := some s) (grownBy_setCell W7 s tq (.slice ra' rl rc')) (.inr (by have := F7.nq.2.2; simpa [Value.ownBlock] using this))
                      have hB8g := (hown8.lt g' rfl).1
                      have hQlen := hBI2.length_le
                      rw [List.length_append, hN.out] at hQlen
                      simp only [List.length_singleton] at hQlen
                      have hnew : ((W7.setCell ⟨s, tq, none⟩ (.slice ra' rl rc')).alloc (.cells #[.int .i64 (tq : Int)] 3)).heap[W7.heap.size]? = some (.cells #[.int .i64 (tq : Int)] 3 (0, 0)) := by
                        have := heap_alloc_new (W7.setCell ⟨s, tq, none⟩ (.slice ra' rl rc')) (.cells #[.int .i64 (tq : Int)] 3)
                        simpa [World.setCell] using this
                      clear F7 hown8 hB7 hor8 hBI
                      go_wp2_with (at_builtin; refine wpList_append_lies _ rfl _ _ 22 rfl (w.heap.size + 1) 3 iI _ 1 8 Try.underlying22 HI.out HI0.out HI1.out HI2.out rfl (by omega) (.slice (some ⟨g', 0, none⟩) Q'.length cap') Q'.length (Q'.map fun r : Nat => iv (r : Int)) rfl (hown9'.alloc _) _ 1 1 [iv (tq : Int)] rfl (by simp) (World.news_of_block hnew) (by simp [Value.oneCell']) (by omega) (by unfold maxLen; omega) (by omega) (by simp; omega) (W7.heap.size + 1) (by simp) ?_)
                      intro g8 cap8 w8 hown9 hgr9 hat hlt9
                      have hws : ((W7.setCell ⟨s, tq, none⟩ (.slice ra' rl rc')).alloc (.cells #[.int .i64 (tq : Int)] 3)).heap.size = W7.heap.size + 1 := by simp [World.setCell]
                      have F9 := (F8.alloc (.cells #[.int .i64 (tq : Int)] 3)).grownQ (w' := w8) hgr9 (g0 := g8) (by
                        rcases hat with h | h
                        · left; simpa [Value.ownBlock] using h
                        · right; omega)
                      have hB9 : Below (w.heap.size + 1) W w8 := (hB8.alloc (by simp [World.setCell]; omega) _).grown hgr9 (by simp [World.setCell]; omega) (by intro k hk; simp [Value.ownBlock] at hk; subst hk; exact hB8g)
                      go_wp2
                      go_roundw
                      case rel => exact ⟨Q' ++ [tq], K + 1, g8, cap8, _, by go_num, by omega, by omega, by simp, hBI2, by simpa using hown9, F9, hB9⟩
                      case measure => simp [intOf] <;> omega
                  · obtain rfl : K = n + 1 := by omega
                    have hKf : (n : Int) < ((n + 1 : Nat) : Int) := by omega
                    have HNX := hBI.next (by rw [bBd_hi]; exact Nat.le_refl _)
                    clear hKl hBI
                    go_wp2
                    go_roundw
                    case rel => exact ⟨p + 1, Q', g', cap', S', by go_num, rfl, HNX, hown', hF', hB'⟩
                    case measure => simp [intOf] <;> omega
              · have hQp : Q.length = p := by have := hQ.hp; omega
                subst hQp
                have hge : (Q.length : Int) ≤ (Q.length : Int) := Int.le_refl _
                have hbl := hF.l
                have hbr := hWb.below hB (Nat.lt_succ_self _)
                have hsr := hbr.setRow [.slice (some ⟨a, 0, none⟩) k k, .slice (some ⟨s, 0, none⟩) k k]
                have hg9 : wr.grownBy (wr.setRow w.heap.size #[.slice (some ⟨a, 0, none⟩) k k, .slice (some ⟨s, 0, none⟩) k k]) (some w.heap.size) := ⟨rfl, rfl, rfl, by simp [World.setRow], fun k _ hk => setRow_other wr w.heap.size k _ (fun e => hk (by rw [e]))⟩
                have hB9 : Below w.heap.size w (wr.setRow w.heap.size #[.slice (some ⟨a, 0, none⟩) k k, .slice (some ⟨s, 0, none⟩) k k]) := (hWB.trans (hB.mono (Nat.le_succ _))).grown hg9 (by have := hWB.size; have := hB.size; omega) (fun k hk => by cases hk; exact Nat.le_refl _)
                have HR9 := BAR.mk' (g := bBd n) (u := bun n) (hF.keptB (w' := wr.setRow w.heap.size #[.slice (some ⟨a, 0, none⟩) k k, .slice (some ⟨s, 0, none⟩) k k]) (fun g hg1 _ _ => setRow_other wr w.heap.size g _ (by omega))) hN.out (by omega) (hQ.far_all HG.out) (hQ.st_all HG.out)
                clear hF hQ hown hB hWB hg9 hlt
                go_wp2_with (first | (refine wpList_load2 rfl 106 _ rfl bl _ _ rfl 106 hbl Try.underlying106 rfl (by kernel_rfl) ?_) | (refine wpList_store2 rfl 106 _ _ rfl w.heap.size _ _ rfl rfl 106 _ hbr (by kernel_rfl) rfl ⟨rfl, rfl⟩ ?_))
                exact bodyPost_ret (results_cell_row rfl _ _ w.heap.size 106 _ _ _ rfl hsr Try.underlying106 rfl (by kernel_rfl)) rfl ⟨a, s, S, rfl, HR9, hB9⟩

end Go.Proofs.Ytmlikchhkblohaa

