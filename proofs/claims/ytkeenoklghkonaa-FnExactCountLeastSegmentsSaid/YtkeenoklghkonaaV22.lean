import Derived.Test.YtkeenoklghkonaaQ5
import Derived.Test.YtkeenoklghkonaaLib4
import Derived.Deep.DeepCutAuto
namespace Go.Proofs.Ytkeenoklghkonaa
open Go Go.RowKit Go.Pan

abbrev sl (p : Nat × Nat) (n : Nat) : Value := .slice (some ⟨p.1, 0, none⟩) n p.2
theorem ownsRow_heap {w w' : World} {B s n : Nat} {e : TypeId} {p : Nat × Nat} {xs : List Value} (h : w.ownsRow B e s (sl p n) n xs) (hk : w'.heap[p.1]? = w.heap[p.1]?) : w'.ownsRow B e s (sl p n) n xs := by
  refine ⟨h.1, ?_⟩
  rcases h.2 with hn | ⟨g, cap, cur, he, hb, hgg, rest⟩
  · exact .inl hn
  · refine .inr ⟨g, cap, cur, he, hb, ?_, rest⟩
    simp only [Value.slice.injEq, Option.some.injEq, Addr.mk.injEq, and_true, true_and] at he
    rw [← he.1, hk, he.1]; exact hgg

/-- all that the search among segments has laid: the struct, its three slices, the rows of the third, and the order -/
structure FS (B : Nat) (w : World) (bl : Nat) (a f t o : Nat × Nat) (C F : List Int) (S : List Value) (X : List (List Int)) (O : List Int) : Prop where
  l : Blk w bl 99 [sl a C.length, sl f F.length, sl t S.length]
  all : w.ownsRow B 3 1 (sl a C.length) C.length (C.map iv)
  far : w.ownsRow B 3 1 (sl f F.length) F.length (F.map iv)
  st : w.ownsRow B 22 1 (sl t S.length) S.length S
  ord : w.ownsRow B 3 1 (sl o O.length) O.length (O.map iv)
  bb : B ≤ bl
  lX : S.length = X.length
  row : ∀ (i : Nat) (u : Value) (xs : List Int), S[i]? = some u → X[i]? = some xs → OwnI w u xs ∧ ∀ g, u.ownBlock = some g → B ≤ g ∧ g ≠ bl ∧ g ≠ a.1 ∧ g ≠ f.1 ∧ g ≠ t.1 ∧ g ≠ o.1
  ne : bl ≠ a.1 ∧ bl ≠ f.1 ∧ bl ≠ t.1 ∧ bl ≠ o.1 ∧ a.1 ≠ f.1 ∧ a.1 ≠ t.1 ∧ a.1 ≠ o.1 ∧ f.1 ≠ t.1 ∧ f.1 ≠ o.1 ∧ t.1 ≠ o.1
section
variable {B : Nat} {w w' : World} {bl : Nat} {a f t o : Nat × Nat} {C F : List Int} {S : List Value} {X : List (List Int)} {O : List Int}
theorem FS.lts (h : FS B w bl a f t o C F S X O) : bl < w.heap.size ∧ (B ≤ a.1 ∧ a.1 < w.heap.size) ∧ (B ≤ f.1 ∧ f.1 < w.heap.size) ∧ (B ≤ t.1 ∧ t.1 < w.heap.size) ∧ (B ≤ o.1 ∧ o.1 < w.heap.size) :=
  ⟨h.l.lt, h.all.lt _ rfl, h.far.lt _ rfl, h.st.lt _ rfl, h.ord.lt _ rfl⟩
theorem FS.keep (h : FS B w bl a f t o C F S X O) (hk : ∀ g, B ≤ g → g < w.heap.size → w'.heap[g]? = w.heap[g]?) : FS B w' bl a f t o C F S X O := by
  obtain ⟨h1, h2, h3, h4, h5⟩ := h.lts
  refine ⟨?_, ownsRow_heap h.all (hk _ h2.1 h2.2), ownsRow_heap h.far (hk _ h3.1 h3.2), ownsRow_heap h.st (hk _ h4.1 h4.2), ownsRow_heap h.ord (hk _ h5.1 h5.2), h.bb, h.lX, fun i u xs hu hx => ?_, h.ne⟩
  · unfold Blk; rw [hk _ h.bb h1]; exact h.l
  · obtain ⟨e1, e2⟩ := h.row i u xs hu hx
    exact ⟨e1.kept fun g hg => hk g (e2 g hg).1 (e1.lt g hg), e2⟩
theorem FS.below (h : FS B w bl a f t o C F S X O) {N : Nat} (hb : Below N w w') (hN : w.heap.size ≤ N) : FS B w' bl a f t o C F S X O := h.keep fun g _ hg => hb.block g (Nat.lt_of_lt_of_le hg hN)
theorem FS.same (h : FS B w bl a f t o C F S X O) (hb : Below w.heap.size w w') : FS B w' bl a f t o C F S X O := h.below hb (Nat.le_refl _)
theorem FS.alloc (h : FS B w bl a f t o C F S X O) (ob : Obj) : FS B (w.alloc ob) bl a f t o C F S X O := h.keep fun g _ hg => Below.heap_alloc w ob g hg
theorem FS.drewN (h : FS B w bl a f t o C F S X O) (k : Nat) : FS B (w.drewN k) bl a f t o C F S X O := h.keep fun _ _ _ => rfl
theorem FS.drew (h : FS B w bl a f t o C F S X O) : FS B w.drew bl a f t o C F S X O := h.keep fun _ _ _ => rfl
theorem FS.owns (h : FS B w bl a f t o C F S X O) (hC : C.length ≤ 1048576) (hF : F.length ≤ 1048576) (hO : O.length ≤ 1048576) : OwnI w (sl a C.length) C ∧ OwnI w (sl f F.length) F ∧ OwnI w (sl o O.length) O :=
  ⟨(Own.of_row h.all).1, (Own.of_row h.far).1, (Own.of_row h.ord).1⟩
theorem FS.fields (h : FS B w bl a f t o C F S X O) : w.cell? ⟨bl, 0, none⟩ = some (sl a C.length) ∧ w.cell? ⟨bl, 1, none⟩ = some (sl f F.length) ∧ w.cell? ⟨bl, 2, none⟩ = some (sl t S.length) :=
  ⟨by rw [h.l.cell 0]; rfl, by rw [h.l.cell 1]; rfl, by rw [h.l.cell 2]; rfl⟩
theorem FS.appA (h : FS B w bl a f t o C F S X O) {w1 : World} {g cap H : Nat} {x : Int} (hown : w1.ownsRow B 3 1 (.slice (some ⟨g, 0, none⟩) (C.length + 1) cap) (C.length + 1) (C.map iv ++ [iv x]))
    (hgr : w.grownBy w1 (sl a C.length).ownBlock) (hat : (sl a C.length).ownBlock = some g ∨ g = H) (hH : w.heap.size ≤ H) :
    FS B (w1.setCell ⟨bl, 0, none⟩ (sl (g, cap) (C.length + 1))) bl (g, cap) f t o (C ++ [x]) F S X O := by
  obtain ⟨h1, h2, h3, h4, h5⟩ := h.lts
  have hn := h.ne
  have hat' : a.1 = g ∨ g = H := by simpa [Value.ownBlock] using hat
  have hk : ∀ y, y < w.heap.size → y ≠ a.1 → y ≠ bl → (w1.setCell ⟨bl, 0, none⟩ (sl (g, cap) (C.length + 1))).heap[y]? = w.heap[y]? := fun y y1 y2 y3 =>
    (heap_setCell_other w1 ⟨bl, 0, none⟩ y _ y3).trans (hgr.block y y1 (by simpa [Value.ownBlock] using y2))
  have hg : ∀ y, y < w.heap.size → y ≠ a.1 → y ≠ g := fun y y1 y2 e => by subst e; omega
  have hlb : Blk w1 bl 99 [sl a C.length, sl f F.length, sl t S.length] := by
    unfold Blk; rw [hgr.block bl h1 (by simpa [Value.ownBlock] using hn.1)]; exact h.l
  have hblg := hg bl h1 hn.1
  have hl : (C ++ [x]).length = C.length + 1 := by simp
  refine ⟨by rw [hl]; exact hlb.set 0 (sl (g, cap) (C.length + 1)), ?_, ownsRow_heap h.far (hk _ h3.2 (by omega) (by omega)), ownsRow_heap h.st (hk _ h4.2 (by omega) (by omega)), ownsRow_heap h.ord (hk _ h5.2 (by omega) (by omega)), h.bb, h.lX, fun i u xs hu hx => ?_, ?_⟩
  · rw [hl, List.map_append]
    exact ownsRow_heap (p := (g, cap)) hown (heap_setCell_other w1 ⟨bl, 0, none⟩ g _ (fun e => hblg e.symm))
  · obtain ⟨e1, e2⟩ := h.row i u xs hu hx
    exact ⟨e1.kept fun y hy => hk y (e1.lt y hy) (e2 y hy).2.2.1 (e2 y hy).2.1, fun y hy => ⟨(e2 y hy).1, (e2 y hy).2.1, hg y (e1.lt y hy) (e2 y hy).2.2.1, (e2 y hy).2.2.2⟩⟩
  · have e3 := hg f.1 h3.2 (by omega)
    have e4 := hg t.1 h4.2 (by omega)
    have e5 := hg o.1 h5.2 (by omega)
    exact ⟨hblg, hn.2.1, hn.2.2.1, hn.2.2.2.1, fun e => e3 e.symm, fun e => e4 e.symm, fun e => e5 e.symm, hn.2.2.2.2.2.2.2⟩
theorem FS.appF (h : FS B w bl a f t o C F S X O) {w1 : World} {g cap H : Nat} {x : Int} (hown : w1.ownsRow B 3 1 (.slice (some ⟨g, 0, none⟩) (F.length + 1) cap) (F.length + 1) (F.map iv ++ [iv x]))
    (hgr : w.grownBy w1 (sl f F.length).ownBlock) (hat : (sl f F.length).ownBlock = some g ∨ g = H) (hH : w.heap.size ≤ H) :
    FS B (w1.setCell ⟨bl, 1, none⟩ (sl (g, cap) (F.length + 1))) bl a (g, cap) t o C (F ++ [x]) S X O := by
  obtain ⟨h1, h2, h3, h4, h5⟩ := h.lts
  have hn := h.ne
  have hat' : f.1 = g ∨ g = H := by simpa [Value.ownBlock] using hat
  have hk : ∀ y, y < w.heap.size → y ≠ f.1 → y ≠ bl → (w1.setCell ⟨bl, 1, none⟩ (sl (g, cap) (F.length + 1))).heap[y]? = w.heap[y]? := fun y y1 y2 y3 =>
    (heap_setCell_other w1 ⟨bl, 1, none⟩ y _ y3).trans (hgr.block y y1 (by simpa [Value.ownBlock] using y2))
  have hg : ∀ y, y < w.heap.size → y ≠ f.1 → y ≠ g := fun y y1 y2 e => by subst e; omega
  have hlb : Blk w1 bl 99 [sl a C.length, sl f F.length, sl t S.length] := by
    unfold Blk; rw [hgr.block bl h1 (by simpa [Value.ownBlock] using hn.2.1)]; exact h.l
  have hblg := hg bl h1 hn.2.1
  have hl : (F ++ [x]).length = F.length + 1 := by simp
  refine ⟨by rw [hl]; exact hlb.set 1 (sl (g, cap) (F.length + 1)), ownsRow_heap h.all (hk _ h2.2 (by omega) (by omega)), ?_, ownsRow_heap h.st (hk _ h4.2 (by omega) (by omega)), ownsRow_heap h.ord (hk _ h5.2 (by omega) (by omega)), h.bb, h.lX, fun i u xs hu hx => ?_, ?_⟩
  · rw [hl, List.map_append]
    exact ownsRow_heap (p := (g, cap)) hown (heap_setCell_other w1 ⟨bl, 1, none⟩ g _ (fun e => hblg e.symm))
  · obtain ⟨e1, e2⟩ := h.row i u xs hu hx
    exact ⟨e1.kept fun y hy => hk y (e1.lt y hy) (e2 y hy).2.2.2.1 (e2 y hy).2.1, fun y hy => ⟨(e2 y hy).1, (e2 y hy).2.1, (e2 y hy).2.2.1, hg y (e1.lt y hy) (e2 y hy).2.2.2.1, (e2 y hy).2.2.2.2⟩⟩
  · have e3 := hg a.1 h2.2 (by omega)
    have e4 := hg t.1 h4.2 (by omega)
    have e5 := hg o.1 h5.2 (by omega)
    exact ⟨hn.1, hblg, hn.2.2.1, hn.2.2.2.1, e3, hn.2.2.2.2.2.1, hn.2.2.2.2.2.2.1, fun e => e4 e.symm, fun e => e5 e.symm, hn.2.2.2.2.2.2.2.2.2⟩
theorem FS.appT (h : FS B w bl a f t o C F S X O) {w1 : World} {g cap H : Nat} {u : Value} {x : List Int} (hown : w1.ownsRow B 22 1 (.slice (some ⟨g, 0, none⟩) (S.length + 1) cap) (S.length + 1) (S ++ [u]))
    (hgr : w.grownBy w1 (sl t S.length).ownBlock) (hat : (sl t S.length).ownBlock = some g ∨ g = H) (hH : w.heap.size ≤ H)
    (hu : OwnI w u x) (hub : ∀ y, u.ownBlock = some y → B ≤ y ∧ y ≠ bl ∧ y ≠ a.1 ∧ y ≠ f.1 ∧ y ≠ t.1 ∧ y ≠ o.1) :
    FS B (w1.setCell ⟨bl, 2, none⟩ (sl (g, cap) (S.length + 1))) bl a f (g, cap) o C F (S ++ [u]) (X ++ [x]) O := by
  obtain ⟨h1, h2, h3, h4, h5⟩ := h.lts
  have hn := h.ne
  have hat' : t.1 = g ∨ g = H := by simpa [Value.ownBlock] using hat
  have hk : ∀ y, y < w.heap.size → y ≠ t.1 → y ≠ bl → (w1.setCell ⟨bl, 2, none⟩ (sl (g, cap) (S.length + 1))).heap[y]? = w.heap[y]? := fun y y1 y2 y3 =>
    (heap_setCell_other w1 ⟨bl, 2, none⟩ y _ y3).trans (hgr.block y y1 (by simpa [Value.ownBlock] using y2))
  have hg : ∀ y, y < w.heap.size → y ≠ t.1 → y ≠ g := fun y y1 y2 e => by subst e; omega
  have hlb : Blk w1 bl 99 [sl a C.length, sl f F.length, sl t S.length] := by
    unfold Blk; rw [hgr.block bl h1 (by simpa [Value.ownBlock] using hn.2.2.1)]; exact h.l
  have hblg := hg bl h1 hn.2.2.1
  have hl : (S ++ [u]).length = S.length + 1 := by simp
  have hX := h.lX
  have key : ∀ (v : Value) (xs : List Int), OwnI w v xs → (∀ y, v.ownBlock = some y → B ≤ y ∧ y ≠ bl ∧ y ≠ a.1 ∧ y ≠ f.1 ∧ y ≠ t.1 ∧ y ≠ o.1) →
      OwnI (w1.setCell ⟨bl, 2, none⟩ (sl (g, cap) (S.length + 1))) v xs ∧ ∀ y, v.ownBlock = some y → B ≤ y ∧ y ≠ bl ∧ y ≠ a.1 ∧ y ≠ f.1 ∧ y ≠ g ∧ y ≠ o.1 := fun v xs e1 e2 =>
    ⟨e1.kept fun y hy => hk y (e1.lt y hy) (e2 y hy).2.2.2.2.1 (e2 y hy).2.1, fun y hy => ⟨(e2 y hy).1, (e2 y hy).2.1, (e2 y hy).2.2.1, (e2 y hy).2.2.2.1, hg y (e1.lt y hy) (e2 y hy).2.2.2.2.1, (e2 y hy).2.2.2.2.2⟩⟩
  refine ⟨by rw [hl]; exact hlb.set 2 (sl (g, cap) (S.length + 1)), ownsRow_heap h.all (hk _ h2.2 (by omega) (by omega)), ownsRow_heap h.far (hk _ h3.2 (by omega) (by omega)), ?_, ownsRow_heap h.ord (hk _ h5.2 (by omega) (by omega)), h.bb, by simp [hX], fun i v xs hv hx => ?_, ?_⟩
  · rw [hl]
    exact ownsRow_heap (p := (g, cap)) hown (heap_setCell_other w1 ⟨bl, 2, none⟩ g _ (fun e => hblg e.symm))
  · by_cases hi : i < S.length
    · rw [List.getElem?_append_left hi] at hv
      rw [List.getElem?_append_left (by omega)] at hx
      obtain ⟨e1, e2⟩ := h.row i v xs hv hx
      exact key v xs e1 e2
    · rw [List.getElem?_append_right (by omega)] at hv
      rw [List.getElem?_append_right (by omega)] at hx
      have h0 : i - S.length < 1 := (List.getElem?_eq_some_iff.1 hv).1
      have h1 : i - S.length = 0 := by omega
      rw [h1] at hv
      rw [← hX, h1] at hx
      simp at hv hx
      subst hv
      subst hx
      exact key _ _ hu hub
  · have e3 := hg a.1 h2.2 (by omega)
    have e4 := hg f.1 h3.2 (by omega)
    have e5 := hg o.1 h5.2 (by omega)
    exact ⟨hn.1, hn.2.1, hblg, hn.2.2.2.1, hn.2.2.2.2.1, e3, hn.2.2.2.2.2.2.1, e4, hn.2.2.2.2.2.2.2.2.1, fun e => e5 e.symm⟩
theorem FS.appO (h : FS B w bl a f t o C F S X O) {w1 : World} {g cap H : Nat} {x : Int} (hown : w1.ownsRow B 3 1 (.slice (some ⟨g, 0, none⟩) (O.length + 1) cap) (O.length + 1) (O.map iv ++ [iv x]))
    (hgr : w.grownBy w1 (sl o O.length).ownBlock) (hat : (sl o O.length).ownBlock = some g ∨ g = H) (hH : w.heap.size ≤ H) :
    FS B w1 bl a f t (g, cap) C F S X (O ++ [x]) := by
  obtain ⟨h1, h2, h3, h4, h5⟩ := h.lts
  have hn := h.ne
  have hat' : o.1 = g ∨ g = H := by simpa [Value.ownBlock] using hat
  have hk : ∀ y, y < w.heap.size → y ≠ o.1 → w1.heap[y]? = w.heap[y]? := fun y y1 y2 => hgr.block y y1 (by simpa [Value.ownBlock] using y2)
  have hg : ∀ y, y < w.heap.size → y ≠ o.1 → y ≠ g := fun y y1 y2 e => by subst e; omega
  have hl : (O ++ [x]).length = O.length + 1 := by simp
  refine ⟨?_, ownsRow_heap h.all (hk _ h2.2 (by omega)), ownsRow_heap h.far (hk _ h3.2 (by omega)), ownsRow_heap h.st (hk _ h4.2 (by omega)), ?_, h.bb, h.lX, fun i u xs hu hx => ?_, ?_⟩
  · unfold Blk; rw [hk bl h1 (by omega)]; exact h.l
  · rw [hl, List.map_append]
    exact hown
  · obtain ⟨e1, e2⟩ := h.row i u xs hu hx
    exact ⟨e1.kept fun y hy => hk y (e1.lt y hy) (e2 y hy).2.2.2.2.2, fun y hy => ⟨(e2 y hy).1, (e2 y hy).2.1, (e2 y hy).2.2.1, (e2 y hy).2.2.2.1, (e2 y hy).2.2.2.2.1, hg y (e1.lt y hy) (e2 y hy).2.2.2.2.2⟩⟩
  · have e2 := hg bl h1 (by omega)
    have e3 := hg a.1 h2.2 (by omega)
    have e4 := hg f.1 h3.2 (by omega)
    have e5 := hg t.1 h4.2 (by omega)
    exact ⟨hn.1, hn.2.1, hn.2.2.1, e2, hn.2.2.2.2.1, hn.2.2.2.2.2.1, e3, hn.2.2.2.2.2.2.2.1, e4, e5⟩
/-- the order written anew -/
theorem FS.setO (h : FS B w bl a f t o C F S X O) {w1 : World} {O' : List Int} (hgr : w.grownBy w1 (some o.1)) (hl : O'.length = O.length) (hown : w1.ownsRow B 3 1 (sl o O'.length) O'.length (O'.map iv)) : FS B w1 bl a f t o C F S X O' := by
  obtain ⟨h1, h2, h3, h4, h5⟩ := h.lts
  have hn := h.ne
  have hk : ∀ y, y < w.heap.size → y ≠ o.1 → w1.heap[y]? = w.heap[y]? := fun y y1 y2 => hgr.block y y1 (by simpa using y2)
  refine ⟨?_, ownsRow_heap h.all (hk _ h2.2 (by omega)), ownsRow_heap h.far (hk _ h3.2 (by omega)), ownsRow_heap h.st (hk _ h4.2 (by omega)), hown, h.bb, h.lX, fun i u xs hu hx => ?_, h.ne⟩
  · unfold Blk; rw [hk bl h1 (by omega)]; exact h.l
  · obtain ⟨e1, e2⟩ := h.row i u xs hu hx
    exact ⟨e1.kept fun y hy => hk y (e1.lt y hy) (e2 y hy).2.2.2.2.2, e2⟩
/-- a new slice lies elsewhere -/
theorem FS.new (h : FS B w bl a f t o C F S X O) {v : Value} {N : Nat} (hf : From N v) (hN : w.heap.size ≤ N) (hB : B ≤ w.heap.size) : ∀ y, v.ownBlock = some y → B ≤ y ∧ y ≠ bl ∧ y ≠ a.1 ∧ y ≠ f.1 ∧ y ≠ t.1 ∧ y ≠ o.1 := fun y hy => by
  have h0 := hf y hy
  obtain ⟨h1, h2, h3, h4, h5⟩ := h.lts
  exact ⟨by omega, by omega, by omega, by omega, by omega, by omega⟩
end
/-- the order's block, its cells and what lies behind them -/
theorem row_blk {w : World} {B n : Nat} {e : TypeId} {p : Nat × Nat} {xs : List Value} (h : w.ownsRow B e 1 (sl p n) n xs) : ∃ tl, Blk w p.1 e (xs ++ tl) ∧ (xs ++ tl).length = p.2 ∧ n ≤ p.2 ∧ p.2 ≤ maxLen ∧ B ≤ p.1 := by
  rcases h.2 with ⟨hn, _⟩ | ⟨g, cap, cur, he, hb, hgg, h1, h2, h3, h4⟩
  · simp at hn
  · simp only [Value.slice.injEq, Option.some.injEq, Addr.mk.injEq, and_true, true_and] at he
    obtain ⟨e1, e2⟩ := he
    subst e1; subst e2
    rw [Nat.mul_one] at h3 h4
    refine ⟨cur.toList.drop n, ?_, ?_, h1, h2, hb⟩
    · rw [← h4, List.take_append_drop]; exact hgg
    · rw [← h4, List.take_append_drop]; simpa using h3
theorem blk_row {w : World} {B n : Nat} {e : TypeId} {p : Nat × Nat} {xs tl : List Value} (h : Blk w p.1 e (xs ++ tl)) (hl : (xs ++ tl).length = p.2) (hn : xs.length = n) (hm : p.2 ≤ maxLen) (hB : B ≤ p.1) : w.ownsRow B e 1 (sl p n) n xs := by
  refine ⟨by omega, .inr ⟨p.1, p.2, (xs ++ tl).toArray, rfl, hB, h, ?_, hm, by simpa using hl, ?_⟩⟩
  · rw [List.length_append] at hl; omega
  · rw [Nat.mul_one]; simp [← hn]

end Go.Proofs.Ytkeenoklghkonaa

namespace Go.Pan
open Go Go.RowKit
theorem wpList_copy_rowX {P : Program} {w : World} {ops : Array Oper} {rest : List Oper} {o : Oper} {a : Act} {Q : Exit → Act → World → Prop} (hgd : o.guard = none) (d s : Operand) (dT sT : TypeId)
    (ho : o.op = .call { callee := .builtin .copy, args := #[d, s], argTypes := #[dT, sT] }) (elem : TypeId) (hu : P.underlying dT = some (.slice elem)) (hsz : (P.info? elem).map (·.size) = some 1)
    (dp sp : Option Addr) (dLen dCap sLen sCap : Nat) (hd : a.eval d = .slice dp dLen dCap) (hs : a.eval s = .slice sp sLen sCap)
    (g off : Nat) (cur : List Value) (t : TypeId) (hg : Blk w g t cur) (cs : List Value) (hn : cs.length = Nat.min sLen dLen)
    (hpos : 0 < cs.length → dp = some ⟨g, off, none⟩ ∧ ∃ ad, sp = some ad ∧ ∀ j v, cs[j]? = some v → w.cell? (ad.add j) = some v)
    (hfit : off + cs.length ≤ cur.length) (h1 : ∀ v ∈ cs, v.oneCell' = true)
    (h : ∀ w', Blk w' g t (splice cur off cs) → w.grownBy w' (some g) → wpList P ops Q rest (a.put o.dst (goInt cs.length)) w') :
    wpList P ops Q (o :: rest) a w := by
  by_cases h0 : cs.length = 0
  · obtain rfl : cs = [] := List.eq_nil_of_length_eq_zero h0
    refine wpList_copy_nothing hgd d s dT sT ho elem hu hsz dp sp dLen dCap sLen sCap hd hs (by simpa using hn.symm) ?_
    exact h w (by simpa [splice] using hg) (World.grownBy.refl _ _)
  · obtain ⟨rfl, ad, rfl, hsrc⟩ := hpos (by omega)
    refine wpList_copy_own hgd d s dT sT ho elem hu hsz g off dLen dCap ad sLen sCap hd hs cur.toArray t hg cs hn hsrc (by simpa using hfit) h1 ?_
    refine h _ ?_ ⟨rfl, rfl, rfl, by simp [World.setRow], fun k _ hk => setRow_other w g k _ (fun e => hk (by rw [e]))⟩
    have := hg.setRow (splice cur off cs)
    simpa [splice] using this

end Go.Pan

namespace Go.Proofs.Ytkeenoklghkonaa
open Go Go.RowKit Go.Pan

/-- 's[k:]' of a slice that lies at the beginning of a block -/
theorem run_fromX (o n cap k : Nat) (hkn : k ≤ n) (hnc : n ≤ cap) (W : World) :
    (Instr.sliceAt 22 (.slice (some ⟨o, 0, none⟩) n cap) (some (.int .i64 (k : Int))) none none).run Try.prog W = .ok (.slice (some ⟨o, if cap = k then 0 else k, none⟩) (n - k) (cap - k)) W := by
  obtain ⟨i, hi, hz, hs1, hb8⟩ := info_parts Try.info3
  have he : Try.prog.elem 22 = 3 := by simp [Program.elem, Try.underlying22]
  rw [run_sliceAt_slice W 22 _ _ _ _ (by rw [he]; exact Try.underlying22), run_slice_l W 22 (some ⟨o, 0, none⟩) n cap (by rw [he]; exact Try.underlying22) .i64 k (by omega) (by omega)]
  simp [sizeOf, typeInfo, he, hi, hs1, sliced, Result.andThen]
  split <;> simp [Addr.add] <;> omega

theorem sgBd_le {m : Nat} (h1 : 1 ≤ m) (h6 : m ≤ 6) {r : Nat} (h : r < fact m) : (sgBd m).d r ≤ 720 := by
  have := (gfar_spec (sG_ok h1 h6) (show (sG m).St (ramp 1 m) from St.ramp m h1 (by omega)) (show (sG m).St _ from unrank_st h1 (by omega) h)).2.1
  have e : (sG m).dm = m - 1 := rfl
  show gfar (sG m) (ramp 1 m) (unrank m r) ≤ 720
  omega
def Cd (m : Nat) (Q : List Nat) : List Int := Q.map fun r => codeL (unrank m r)
def Fd (m : Nat) (Q : List Nat) : List Int := Q.map fun r => ((sgBd m).d r : Int)
def Xd (m : Nat) (Q : List Nat) : List (List Int) := Q.map (unrank m)
def Od (ord : List Nat) : List Int := ord.map fun (j : Nat) => (j : Int)
theorem Cd_length (m : Nat) (Q : List Nat) : (Cd m Q).length = Q.length := by simp [Cd]
theorem Fd_length (m : Nat) (Q : List Nat) : (Fd m Q).length = Q.length := by simp [Fd]
theorem Xd_length (m : Nat) (Q : List Nat) : (Xd m Q).length = Q.length := by simp [Xd]
theorem Od_length (ord : List Nat) : (Od ord).length = ord.length := by simp [Od]

theorem ints_oneX (l : List Int) : ∀ u ∈ l.map iv, u.oneCell' = true := fun u hu => by
  obtain ⟨x, _, rfl⟩ := List.mem_map.1 hu
  rfl
theorem splice_ord (O : List Int) (tl : List Value) (x : Int) (lo : Nat) (h : lo ≤ O.length) : splice ((O ++ [x]).map iv ++ tl) (lo + 1) ((O.drop lo).map iv) = ((O ++ [x]).take (lo + 1) ++ O.drop lo).map iv ++ tl := by
  have hl : ((O.drop lo).map iv).length = O.length - lo := by rw [List.length_map, List.length_drop]
  obtain ⟨L, hL⟩ : ∃ L, O ++ [x] = L := ⟨_, rfl⟩
  have hLl : L.length = O.length + 1 := by rw [← hL]; simp
  rw [hL]
  unfold splice
  rw [hl, List.take_append_of_le_length (by rw [List.length_map]; omega), ← List.map_take, List.drop_left' (by rw [List.length_map]; omega), List.map_append, List.append_assoc]
theorem set_ord (O : List Int) (x c : Int) (lo : Nat) (h : lo ≤ O.length) : ((O ++ [x]).take (lo + 1) ++ O.drop lo).set lo c = O.take lo ++ c :: O.drop lo := by
  have h1 : lo < (O ++ [x]).length := by simp; omega
  rw [List.take_succ_eq_append_getElem h1, List.append_assoc, List.set_append_right _ _ (by rw [List.length_take]; omega), List.length_take, Nat.min_eq_left (by omega), Nat.sub_self, List.take_append_of_le_length h]
  rfl
theorem Cd_snoc (m : Nat) (Q : List Nat) (x : Nat) : Cd m (Q ++ [x]) = Cd m Q ++ [codeL (unrank m x)] := by simp [Cd]
theorem Fd_snoc (m : Nat) (Q : List Nat) (x : Nat) : Fd m (Q ++ [x]) = Fd m Q ++ [((sgBd m).d x : Int)] := by simp [Fd]
theorem Xd_snoc (m : Nat) (Q : List Nat) (x : Nat) : Xd m (Q ++ [x]) = Xd m Q ++ [unrank m x] := by simp [Xd]
theorem Od_insert (ord : List Nat) (lo c : Nat) : Od (ord.take lo ++ c :: ord.drop lo) = (Od ord).take lo ++ (c : Int) :: (Od ord).drop lo := by simp [Od]
/-- the first state of the search -/
theorem FS.start {w : World} {B : Nat} {u : Value} {x : List Int} (c : Int) (hu : OwnI w u x) (hf : From B u) (hB : B ≤ w.heap.size) :
    FS B (((((w.alloc (.cells #[.int .i64 c] 3)).alloc (.cells #[.int .i64 0] 3)).alloc (.cells #[u] 22)).alloc (.cells #[sl (w.heap.size, 1) 1, sl (w.heap.size + 1, 1) 1, sl (w.heap.size + 1 + 1, 1) 1] 99)).alloc (.cells #[.int .i64 0] 3))
      (w.heap.size + 1 + 1 + 1) (w.heap.size, 1) (w.heap.size + 1, 1) (w.heap.size + 1 + 1, 1) (w.heap.size + 1 + 1 + 1 + 1, 1) [c] [0] [u] [x] [0] := by
  have b0 : Blk (w.alloc (.cells #[.int .i64 c] 3)) w.heap.size 3 [.int .i64 c] := Blk.new w _ _ _ rfl
  have b1 : Blk ((w.alloc (.cells #[.int .i64 c] 3)).alloc (.cells #[.int .i64 0] 3)) (w.heap.size + 1) 3 [.int .i64 0] := Blk.new _ _ _ _ (by simp)
  have b2 : Blk (((w.alloc (.cells #[.int .i64 c] 3)).alloc (.cells #[.int .i64 0] 3)).alloc (.cells #[u] 22)) (w.heap.size + 1 + 1) 22 [u] := Blk.new _ _ _ _ (by simp)
  have b3 : Blk ((((w.alloc (.cells #[.int .i64 c] 3)).alloc (.cells #[.int .i64 0] 3)).alloc (.cells #[u] 22)).alloc (.cells #[sl (w.heap.size, 1) 1, sl (w.heap.size + 1, 1) 1, sl (w.heap.size + 1 + 1, 1) 1] 99)) (w.heap.size + 1 + 1 + 1) 99 [sl (w.heap.size, 1) 1, sl (w.heap.size + 1, 1) 1, sl (w.heap.size + 1 + 1, 1) 1] := Blk.new _ _ _ _ (by simp)
  have b4 : Blk (((((w.alloc (.cells #[.int .i64 c] 3)).alloc (.cells #[.int .i64 0] 3)).alloc (.cells #[u] 22)).alloc (.cells #[sl (w.heap.size, 1) 1, sl (w.heap.size + 1, 1) 1, sl (w.heap.size + 1 + 1, 1) 1] 99)).alloc (.cells #[.int .i64 0] 3)) (w.heap.size + 1 + 1 + 1 + 1) 3 [.int .i64 0] := Blk.new _ _ _ _ (by simp)
  refine ⟨b3.alloc _, ?_, ?_, ?_, ?_, by omega, rfl, fun i v xs hv hx => ?_, by simp; omega⟩
  · exact blk_row (tl := []) (((b0.alloc _).alloc _).alloc _ |>.alloc _) rfl rfl (by simp [maxLen]) hB
  · exact blk_row (tl := []) (((b1.alloc _).alloc _).alloc _) rfl rfl (by simp [maxLen]) (by simp; omega)
  · exact blk_row (tl := []) ((b2.alloc _).alloc _) rfl rfl (by simp [maxLen]) (by simp; omega)
  · exact blk_row (tl := []) b4 rfl rfl (by simp [maxLen]) (by simp; omega)
  · have h0 : i < 1 := (List.getElem?_eq_some_iff.1 hv).1
    obtain rfl : i = 0 := by omega
    simp at hv hx
    subst hv
    subst hx
    refine ⟨((((hu.alloc _).alloc _).alloc _).alloc _).alloc _, fun g hg => ?_⟩
    have h1 := hu.lt g hg
    have h2 := hf g hg
    simp
    omega
/-- the state amid a new stack's entry: what is laid, the segments, the new row -/
structure FM (m B : Nat) (w : World) (bl : Nat) (a f t o : Nat × Nat) (C F : List Int) (S : List Value) (X : List (List Int)) (O : List Int) (tv rv : Value) (R : List Int) : Prop where
  fs : FS B w bl a f t o C F S X O
  ts : OwnC c2 w tv (segsAll m)
  ap : ∀ g, tv.ownBlock = some g → g ≠ bl ∧ g ≠ a.1 ∧ g ≠ f.1 ∧ g ≠ t.1 ∧ g ≠ o.1
  row : OwnI w rv R
  rp : ∀ g, rv.ownBlock = some g → B ≤ g ∧ g ≠ bl ∧ g ≠ a.1 ∧ g ≠ f.1 ∧ g ≠ t.1 ∧ g ≠ o.1
section
variable {m B : Nat} {w w' : World} {bl : Nat} {a f t o : Nat × Nat} {C F : List Int} {S : List Value} {X : List (List Int)} {O : List Int} {tv rv : Value} {R : List Int}
theorem FM.keep (h : FM m B w bl a f t o C F S X O tv rv R) (hk : ∀ g, g < w.heap.size → w'.heap[g]? = w.heap[g]?) : FM m B w' bl a f t o C F S X O tv rv R :=
  ⟨h.fs.keep fun g _ hg => hk g hg, Own.kept h.ts fun g hg => hk g (Own.lt h.ts g hg), h.ap, Own.kept h.row fun g hg => hk g (Own.lt h.row g hg), h.rp⟩
theorem FM.same (h : FM m B w bl a f t o C F S X O tv rv R) (hb : Below w.heap.size w w') : FM m B w' bl a f t o C F S X O tv rv R := h.keep fun g hg => hb.block g hg
theorem FM.drew (h : FM m B w bl a f t o C F S X O tv rv R) : FM m B w.drew bl a f t o C F S X O tv rv R := h.keep fun _ _ => rfl
theorem FM.alloc (h : FM m B w bl a f t o C F S X O tv rv R) (ob : Obj) : FM m B (w.alloc ob) bl a f t o C F S X O tv rv R := h.keep fun g hg => Below.heap_alloc w ob g hg
theorem FM.appA (h : FM m B w bl a f t o C F S X O tv rv R) {w1 : World} {g cap H : Nat} {x : Int} (hown : w1.ownsRow B 3 1 (.slice (some ⟨g, 0, none⟩) (C.length + 1) cap) (C.length + 1) (C.map iv ++ [iv x]))
    (hgr : w.grownBy w1 (sl a C.length).ownBlock) (hat : (sl a C.length).ownBlock = some g ∨ g = H) (hH : w.heap.size ≤ H) : FM m B (w1.setCell ⟨bl, 0, none⟩ (sl (g, cap) (C.length + 1))) bl (g, cap) f t o (C ++ [x]) F S X O tv rv R := by
  have hat' : a.1 = g ∨ g = H := by simpa [Value.ownBlock] using hat
  have hk : ∀ y, y < w.heap.size → y ≠ a.1 → y ≠ bl → (w1.setCell ⟨bl, 0, none⟩ (sl (g, cap) (C.length + 1))).heap[y]? = w.heap[y]? := fun y y1 y2 y3 =>
    (heap_setCell_other w1 ⟨bl, 0, none⟩ y _ y3).trans (hgr.block y y1 (by simpa [Value.ownBlock] using y2))
  have hg : ∀ y, y < w.heap.size → y ≠ a.1 → y ≠ g := fun y y1 y2 e => by subst e; omega
  refine ⟨h.fs.appA hown hgr hat hH, Own.kept h.ts fun y hy => ?_, fun y hy => ?_, Own.kept h.row fun y hy => ?_, fun y hy => ?_⟩
  · have q := h.ap y hy
    exact hk y (Own.lt h.ts y hy) (by omega) q.1
  · have q := h.ap y hy
    have q2 := hg y (Own.lt h.ts y hy) (by omega)
    exact ⟨q.1, q2, q.2.2.1, q.2.2.2.1, q.2.2.2.2⟩
  · have q := h.rp y hy
    exact hk y (Own.lt h.row y hy) (by omega) q.2.1
  · have q := h.rp y hy
    have q2 := hg y (Own.lt h.row y hy) (by omega)
    exact ⟨q.1, q.2.1, q2, q.2.2.2.1, q.2.2.2.2.1, q.2.2.2.2.2⟩
theorem FM.appF (h : FM m B w bl a f t o C F S X O tv rv R) {w1 : World} {g cap H : Nat} {x : Int} (hown : w1.ownsRow B 3 1 (.slice (some ⟨g, 0, none⟩) (F.length + 1) cap) (F.length + 1) (F.map iv ++ [iv x]))
    (hgr : w.grownBy w1 (sl f F.length).ownBlock) (hat : (sl f F.length).ownBlock = some g ∨ g = H) (hH : w.heap.size ≤ H) : FM m B (w1.setCell ⟨bl, 1, none⟩ (sl (g, cap) (F.length + 1))) bl a (g, cap) t o C (F ++ [x]) S X O tv rv R := by
  have hat' : f.1 = g ∨ g = H := by simpa [Value.ownBlock] using hat
  have hk : ∀ y, y < w.heap.size → y ≠ f.1 → y ≠ bl → (w1.setCell ⟨bl, 1, none⟩ (sl (g, cap) (F.length + 1))).heap[y]? = w.heap[y]? := fun y y1 y2 y3 =>
    (heap_setCell_other w1 ⟨bl, 1, none⟩ y _ y3).trans (hgr.block y y1 (by simpa [Value.ownBlock] using y2))
  have hg : ∀ y, y < w.heap.size → y ≠ f.1 → y ≠ g := fun y y1 y2 e => by subst e; omega
  refine ⟨h.fs.appF hown hgr hat hH, Own.kept h.ts fun y hy => ?_, fun y hy => ?_, Own.kept h.row fun y hy => ?_, fun y hy => ?_⟩
  · have q := h.ap y hy
    exact hk y (Own.lt h.ts y hy) (by omega) q.1
  · have q := h.ap y hy
    have q2 := hg y (Own.lt h.ts y hy) (by omega)
    exact ⟨q.1, q.2.1, q2, q.2.2.2.1, q.2.2.2.2⟩
  · have q := h.rp y hy
    exact hk y (Own.lt h.row y hy) (by omega) q.2.1
  · have q := h.rp y hy
    have q2 := hg y (Own.lt h.row y hy) (by omega)
    exact ⟨q.1, q.2.1, q.2.2.1, q2, q.2.2.2.2.1, q.2.2.2.2.2⟩
theorem FM.appT (h : FM m B w bl a f t o C F S X O tv rv R) {w1 : World} {g cap H : Nat} (hown : w1.ownsRow B 22 1 (.slice (some ⟨g, 0, none⟩) (S.length + 1) cap) (S.length + 1) (S ++ [rv]))
    (hgr : w.grownBy w1 (sl t S.length).ownBlock) (hat : (sl t S.length).ownBlock = some g ∨ g = H) (hH : w.heap.size ≤ H) : FM m B (w1.setCell ⟨bl, 2, none⟩ (sl (g, cap) (S.length + 1))) bl a f (g, cap) o C F (S ++ [rv]) (X ++ [R]) O tv rv R := by
  have hat' : t.1 = g ∨ g = H := by simpa [Value.ownBlock] using hat
  have hk : ∀ y, y < w.heap.size → y ≠ t.1 → y ≠ bl → (w1.setCell ⟨bl, 2, none⟩ (sl (g, cap) (S.length + 1))).heap[y]? = w.heap[y]? := fun y y1 y2 y3 =>
    (heap_setCell_other w1 ⟨bl, 2, none⟩ y _ y3).trans (hgr.block y y1 (by simpa [Value.ownBlock] using y2))
  have hg : ∀ y, y < w.heap.size → y ≠ t.1 → y ≠ g := fun y y1 y2 e => by subst e; omega
  refine ⟨h.fs.appT hown hgr hat hH h.row h.rp, Own.kept h.ts fun y hy => ?_, fun y hy => ?_, Own.kept h.row fun y hy => ?_, fun y hy => ?_⟩
  · have q := h.ap y hy
    exact hk y (Own.lt h.ts y hy) (by omega) q.1
  · have q := h.ap y hy
    have q2 := hg y (Own.lt h.ts y hy) (by omega)
    exact ⟨q.1, q.2.1, q.2.2.1, q2, q.2.2.2.2⟩
  · have q := h.rp y hy
    exact hk y (Own.lt h.row y hy) (by omega) q.2.1
  · have q := h.rp y hy
    have q2 := hg y (Own.lt h.row y hy) (by omega)
    exact ⟨q.1, q.2.1, q.2.2.1, q.2.2.2.1, q2, q.2.2.2.2.2⟩
theorem FM.appO (h : FM m B w bl a f t o C F S X O tv rv R) {w1 : World} {g cap H : Nat} {x : Int} (hown : w1.ownsRow B 3 1 (.slice (some ⟨g, 0, none⟩) (O.length + 1) cap) (O.length + 1) (O.map iv ++ [iv x]))
    (hgr : w.grownBy w1 (sl o O.length).ownBlock) (hat : (sl o O.length).ownBlock = some g ∨ g = H) (hH : w.heap.size ≤ H) : FM m B w1 bl a f t (g, cap) C F S X (O ++ [x]) tv rv R := by
  have hat' : o.1 = g ∨ g = H := by simpa [Value.ownBlock] using hat
  have hk : ∀ y, y < w.heap.size → y ≠ o.1 → y ≠ bl → w1.heap[y]? = w.heap[y]? := fun y y1 y2 _ => hgr.block y y1 (by simpa [Value.ownBlock] using y2)
  have hg : ∀ y, y < w.heap.size → y ≠ o.1 → y ≠ g := fun y y1 y2 e => by subst e; omega
  refine ⟨h.fs.appO hown hgr hat hH, Own.kept h.ts fun y hy => ?_, fun y hy => ?_, Own.kept h.row fun y hy => ?_, fun y hy => ?_⟩
  · have q := h.ap y hy
    exact hk y (Own.lt h.ts y hy) (by omega) q.1
  · have q := h.ap y hy
    have q2 := hg y (Own.lt h.ts y hy) (by omega)
    exact ⟨q.1, q.2.1, q.2.2.1, q.2.2.2.1, q2⟩
  · have q := h.rp y hy
    exact hk y (Own.lt h.row y hy) (by omega) q.2.1
  · have q := h.rp y hy
    have q2 := hg y (Own.lt h.row y hy) (by omega)
    exact ⟨q.1, q.2.1, q.2.2.1, q.2.2.2.1, q.2.2.2.2.1, q2⟩
theorem FM.setO (h : FM m B w bl a f t o C F S X O tv rv R) {w1 : World} {O' : List Int} (hgr : w.grownBy w1 (some o.1)) (hl : O'.length = O.length) (hown : w1.ownsRow B 3 1 (sl o O'.length) O'.length (O'.map iv)) : FM m B w1 bl a f t o C F S X O' tv rv R := by
  have hk : ∀ y, y < w.heap.size → y ≠ o.1 → w1.heap[y]? = w.heap[y]? := fun y y1 y2 => hgr.block y y1 (by simpa using y2)
  exact ⟨h.fs.setO hgr hl hown, Own.kept h.ts fun y hy => hk y (Own.lt h.ts y hy) (h.ap y hy).2.2.2.2, h.ap, Own.kept h.row fun y hy => hk y (Own.lt h.row y hy) (h.rp y hy).2.2.2.2.2, h.rp⟩
end
end Go.Proofs.Ytkeenoklghkonaa
