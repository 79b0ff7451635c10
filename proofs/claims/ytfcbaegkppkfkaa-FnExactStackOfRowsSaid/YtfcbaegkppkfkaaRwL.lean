import Derived.Test.YtfcbaegkppkfkaaRwN
import Derived.Test.YtfcbaegkppkfkaaPsA
import Derived.Test.YtfcbaegkppkfkaaPsS
namespace Go.Pan
open Go Go.RowKit Go.Proofs.Ytfcbaegkppkfkaa
/-- the blocks of a slice of slices -/
def Ft (v : Value) (hs : List Value) (g : Nat) : Prop := v.ownBlock = some g ∨ ∃ (i : Nat) (u : Value), hs[i]? = some u ∧ u.ownBlock = some g
theorem SS.ft {w : World} {B N g : Nat} {v : Value} {hs : List Value} {xss : List (List Int)} (h : SS w B N v hs xss) (hf : Ft v hs g) : B ≤ g ∧ g < N := by
  rcases hf with hf | ⟨i, u, hi, hu⟩
  · exact h.inn g hf
  · have := (List.getElem?_eq_some_iff.1 hi).1
    exact (h.row i u _ hi (List.getElem?_eq_getElem (by have := h.len; omega))).2.1 g hu
theorem SS.keptF {w w' : World} {B N : Nat} {v : Value} {hs : List Value} {xss : List (List Int)} (h : SS w B N v hs xss) (hk : ∀ g, Ft v hs g → w'.heap[g]? = w.heap[g]?) : SS w' B N v hs xss :=
  ⟨h.len, h.own.kept fun g hg => hk g (.inl hg), h.inn, fun i u xs hu hx => ⟨(h.row i u xs hu hx).1.kept fun g hg => hk g (.inr ⟨i, u, hu, hg⟩), (h.row i u xs hu hx).2⟩, h.apart⟩
theorem ownsRow_keptF {w w' : World} {B n : Nat} {e : TypeId} {v : Value} {xs : List Value} (h : w.ownsRow B e 1 v n xs) (hk : ∀ g, v.ownBlock = some g → w'.heap[g]? = w.heap[g]?) : w'.ownsRow B e 1 v n xs := by
  obtain ⟨hl, h⟩ := h
  rcases h with h | ⟨g, cap, cur, rfl, hB, hh, h⟩
  · exact ⟨hl, .inl h⟩
  · exact ⟨hl, .inr ⟨g, cap, cur, rfl, hB, by rw [hk g rfl]; exact hh, h⟩⟩
/-- two slices of slices, apart from one another -/
structure S2 (w : World) (B : Nat) (ty : TypeId) (u : Value) (hR : List Value) (R : List (List Int)) (v : Value) (hP : List Value) (P : List (List Int)) : Prop where
  r : SS w B w.heap.size u hR R
  p : SS w B w.heap.size v hP P
  ro : w.ownsRow B ty 1 u R.length hR
  po : w.ownsRow B ty 1 v P.length hP
  d : ∀ g, Ft u hR g → ¬ Ft v hP g
theorem S2.swap {w : World} {B : Nat} {ty : TypeId} {u v : Value} {hR hP : List Value} {R P : List (List Int)} (h : S2 w B ty u hR R v hP P) : S2 w B ty v hP P u hR R := ⟨h.p, h.r, h.po, h.ro, fun g h1 h2 => h.d g h2 h1⟩
theorem S2.nil (w : World) (B : Nat) (ty : TypeId) : S2 w B ty (.slice none 0 0) [] [] (.slice none 0 0) [] [] :=
  ⟨SS.nil _ _ _, SS.nil _ _ _, World.ownsRow_nil _ _ _ _, World.ownsRow_nil _ _ _ _, fun g h1 _ => by rcases h1 with h1 | ⟨i, u, hi, _⟩ <;> simp [Value.ownBlock] at *⟩
theorem S2.below {w w' : World} {B : Nat} {ty : TypeId} {u v : Value} {hR hP : List Value} {R P : List (List Int)} (h : S2 w B ty u hR R v hP P) (hb : Below w.heap.size w w') : S2 w' B ty u hR R v hP P :=
  ⟨(h.r.below hb (Nat.le_refl _)).mono (Nat.le_refl _) hb.size, (h.p.below hb (Nat.le_refl _)).mono (Nat.le_refl _) hb.size, ownsRow_keptF h.ro fun g hg => hb.block g (h.r.ft (.inl hg)).2, ownsRow_keptF h.po fun g hg => hb.block g (h.p.ft (.inl hg)).2, h.d⟩
/-- a row of none at the end of the first -/
theorem S2.app {w w' : World} {B g cap : Nat} {ty : TypeId} {o : Obj} {u v : Value} {hR hP : List Value} {R P : List (List Int)} (h : S2 w B ty u hR R v hP P) (hB : B ≤ w.heap.size)
    (hown : w'.ownsRow B ty 1 (.slice (some ⟨g, 0, none⟩) (R.length + 1) cap) (R.length + 1) (hR ++ [.slice none 0 0])) (hgr : (w.alloc o).grownBy w' u.ownBlock) (hat : u.ownBlock = some g ∨ g = w.heap.size + 1) (hlt : g < w'.heap.size) :
    S2 w' B ty (.slice (some ⟨g, 0, none⟩) (R.length + 1) cap) (hR ++ [.slice none 0 0]) (R ++ [[]]) v hP P := by
  have hz : w.heap.size + 1 ≤ w'.heap.size := by have := hgr.size; simpa using this
  have hk : ∀ k, k < w.heap.size → u.ownBlock ≠ some k → w'.heap[k]? = w.heap[k]? := fun k h1 h2 => (hgr.block k (by simp; omega) (fun e => h2 e.symm)).trans (Below.heap_alloc w o k h1)
  have hkP : ∀ k, Ft v hP k → w'.heap[k]? = w.heap[k]? := fun k hf => hk k (h.p.ft hf).2 (fun e => h.d k (.inl e) hf)
  have hrl := h.r.len
  refine ⟨?_, (h.p.keptF hkP).mono (Nat.le_refl _) (by omega), by rw [List.length_append]; exact hown, ownsRow_keptF h.po fun k hk2 => hkP k (.inl hk2), fun k h1 h2 => ?_⟩
  · have := SS.app (cap := cap) (h.r.below (below_new w o) (Nat.le_refl _)) (by simp) (OwnI.nil _) (fun g hg => by simp [Value.ownBlock] at hg) (by rw [hrl]; exact hown) hgr (by simpa using hat) hlt hB
    rw [hrl] at this
    exact this
  · have hkN := (h.p.ft h2).2
    rcases h1 with h1 | ⟨i, a, hi, ha⟩
    · have e : g = k := by simpa [Value.ownBlock] using h1
      subst e
      rcases hat with h3 | h3
      · exact h.d g (.inl h3) h2
      · omega
    · rcases Nat.lt_or_ge i hR.length with hl | hl
      · rw [List.getElem?_append_left hl] at hi
        exact h.d k (.inr ⟨i, a, hi, ha⟩) h2
      · rw [List.getElem?_append_right hl] at hi
        have : i - hR.length < 1 := by have := (List.getElem?_eq_some_iff.1 hi).1; simpa using this
        rw [show i - hR.length = 0 by omega] at hi
        simp at hi
        subst hi
        simp [Value.ownBlock] at ha
theorem S2.appN {w w' : World} {B g cap n : Nat} {ty : TypeId} {o : Obj} {u v : Value} {hR hP : List Value} {R P : List (List Int)} (h : S2 w B ty u hR R v hP P) (hB : B ≤ w.heap.size) (hn : R.length = n)
    (hown : w'.ownsRow B ty 1 (.slice (some ⟨g, 0, none⟩) (n + 1) cap) (n + 1) (hR ++ [.slice none 0 0])) (hgr : (w.alloc o).grownBy w' u.ownBlock) (hat : u.ownBlock = some g ∨ g = w.heap.size + 1) (hlt : g < w'.heap.size) :
    S2 w' B ty (.slice (some ⟨g, 0, none⟩) (n + 1) cap) (hR ++ [.slice none 0 0]) (R ++ [[]]) v hP P := by
  subst hn
  exact h.app hB hown hgr hat hlt
/-- a row of the first has grown -/
theorem S2.push {w w' : World} {B g n cap i : Nat} {ty : TypeId} {cs : List Value} {v u0 u1 : Value} {hR hP : List Value} {R P : List (List Int)} {r1 : List Int} (h : S2 w B ty (.slice (some ⟨g, 0, none⟩) n cap) hR R v hP P) (hB : B ≤ w.heap.size) (hn : R.length = n)
    (hb : Blk w g ty cs) (hi : hR[i]? = some u0) (hgr : w.grownBy w' u0.ownBlock) (hu : OwnI w' u1 r1) (hat : ∀ b, u1.ownBlock = some b → u0.ownBlock = some b ∨ w.heap.size ≤ b) :
    S2 (w'.setCell ⟨g, i, none⟩ u1) B ty (.slice (some ⟨g, 0, none⟩) n cap) (hR.set i u1) (R.set i r1) v hP P := by
  have hz := hgr.size
  have hrl := h.r.len
  have hil : i < hR.length := (List.getElem?_eq_some_iff.1 hi).1
  have hug : u0.ownBlock ≠ some g := fun e => (h.r.row i u0 _ hi (List.getElem?_eq_getElem (by omega))).2.2 g rfl e
  have hgN := h.r.ft (.inl rfl : Ft (.slice (some ⟨g, 0, none⟩) n cap) hR g)
  have hb' : Blk w' g ty cs := by
    unfold Blk at hb ⊢
    rw [hgr.block g hgN.2 (fun e => hug e.symm), hb]
  have hkP : ∀ k, Ft v hP k → (w'.setCell ⟨g, i, none⟩ u1).heap[k]? = w.heap[k]? := fun k hf => by
    rw [heap_setCell_other w' ⟨g, i, none⟩ k u1 (fun e => h.d k (.inl (by rw [e]; rfl)) hf)]
    exact hgr.block k (h.p.ft hf).2 (fun e => h.d k (.inr ⟨i, u0, hi, e.symm⟩) hf)
  refine ⟨by rw [World.size_setCell]; exact SS.push h.r (Nat.le_refl _) hb' hi hgr hu hat hB, by rw [World.size_setCell]; exact (h.p.keptF hkP).mono (Nat.le_refl _) hz, ?_, ownsRow_keptF h.po fun k hk2 => hkP k (.inl hk2), fun k h1 h2 => ?_⟩
  · rw [List.length_set, hn]
    have h5 := h.ro
    rw [hn] at h5
    exact owns_set (owns_keepP h5 hb hb') (by omega) u1
  · have hkN := (h.p.ft h2).2
    rcases h1 with h1 | ⟨j, a, hj, ha⟩
    · exact h.d k (.inl h1) h2
    · by_cases e : i = j
      · subst e
        rw [List.getElem?_set_self hil] at hj
        cases hj
        rcases hat k ha with h3 | h3
        · exact h.d k (.inr ⟨i, u0, hi, h3⟩) h2
        · omega
      · rw [List.getElem?_set_ne e] at hj
        exact h.d k (.inr ⟨j, a, hj, ha⟩) h2
theorem S2.cellP {w : World} {B g n cap q : Nat} {ty : TypeId} {u x : Value} {hR hP : List Value} {R P : List (List Int)} (h : S2 w B ty u hR R (.slice (some ⟨g, 0, none⟩) n cap) hP P) (hn : P.length = n) (hq : q < n) (hi : hP[q]? = some x) : w.cell? ⟨g, q, none⟩ = some x := by
  have h5 := h.po
  rw [hn] at h5
  rw [owns_cell h5 hq]
  exact hi
theorem S2.poN {w : World} {B n : Nat} {ty : TypeId} {u v : Value} {hR hP : List Value} {R P : List (List Int)} (h : S2 w B ty u hR R v hP P) (hn : P.length = n) : w.ownsRow B ty 1 v n hP := by
  have h5 := h.po
  rwa [hn] at h5
/-- one of a list of one's own is set -/
theorem OwnI.put {w : World} {gu ou c j n : Nat} {r : List Int} (h : OwnI w (.slice (some ⟨gu, ou, none⟩) n c) r) (hj : j < r.length) (x : Int) : OwnI (w.setCell ⟨gu, ou + j, none⟩ (iv x)) (.slice (some ⟨gu, ou, none⟩) n c) (r.set j x) := by
  obtain ⟨ad, cap, hv, h1, h2, h3, h4, h5⟩ := h
  simp only [Value.slice.injEq] at hv
  obtain ⟨rfl, hnn, rfl⟩ := hv
  obtain ⟨hs0, cur, ty, hh, hroom, hcells⟩ := h5 _ rfl
  have hb : Blk w gu ty cur.toList := hh
  have hb2 := hb.set (ou + j) (iv x)
  refine ⟨_, c, by rw [List.length_set, hnn], by simp, by rw [List.length_set]; exact h2, h3, by simp, fun a ha => ?_⟩
  cases ha
  refine ⟨rfl, _, ty, hb2, by simpa using hroom, fun i hi => ?_⟩
  rw [List.length_set] at hi
  have hc := hcells i hi
  simp only at hc
  simp only [List.getElem?_toArray]
  have hlen : cur.toList.length = cur.size := Array.length_toList
  rw [List.getElem?_set, List.map_set, List.getElem?_set, List.length_map]
  by_cases e : j = i
  · subst e
    have hlt : ou + j < cur.size := by simp only at hroom; omega
    simp [hlt, hj]
  · rw [if_neg (by omega), if_neg e]
    rw [← hc]
    simp
theorem S2.put {w : World} {B i j gu ou n c : Nat} {ty : TypeId} {u v : Value} {hR hP : List Value} {R P : List (List Int)} {r : List Int} (h : S2 w B ty u hR R v hP P)
    (hi : hR[i]? = some (.slice (some ⟨gu, ou, none⟩) n c)) (hr : R[i]? = some r) (hj : j < r.length) (x : Int) :
    S2 (w.setCell ⟨gu, ou + j, none⟩ (iv x)) B ty u hR (R.set i (r.set j x)) v hP P := by
  have hil : i < hR.length := (List.getElem?_eq_some_iff.1 hi).1
  have hiR : i < R.length := (List.getElem?_eq_some_iff.1 hr).1
  have hgF : Ft u hR gu := .inr ⟨i, _, hi, rfl⟩
  have hk : ∀ k, k ≠ gu → (w.setCell ⟨gu, ou + j, none⟩ (iv x)).heap[k]? = w.heap[k]? := fun k hk => heap_setCell_other w ⟨gu, ou + j, none⟩ k _ hk
  have hr0 := h.r.row i _ r hi hr
  have hug : ∀ k, u.ownBlock = some k → k ≠ gu := fun k hk e => hr0.2.2 k hk (by rw [e]; rfl)
  have hkP : ∀ k, Ft v hP k → (w.setCell ⟨gu, ou + j, none⟩ (iv x)).heap[k]? = w.heap[k]? := fun k hf => hk k (fun e => h.d gu hgF (by rw [← e]; exact hf))
  refine ⟨⟨by rw [List.length_set]; exact h.r.len, h.r.own.kept fun k hk2 => hk k (hug k hk2), fun k hk2 => by rw [World.size_setCell]; exact h.r.inn k hk2, fun a b xs ha hx => ?_, h.r.apart⟩, by rw [World.size_setCell]; exact h.p.keptF hkP, by rw [List.length_set]; exact ownsRow_keptF h.ro fun k hk2 => hk k (hug k hk2), ownsRow_keptF h.po fun k hk2 => hkP k (.inl hk2), h.d⟩
  rw [World.size_setCell]
  by_cases e : i = a
  · subst e
    rw [List.getElem?_set_self hiR] at hx
    rw [hi] at ha
    cases hx; cases ha
    exact ⟨hr0.1.put hj x, hr0.2⟩
  · rw [List.getElem?_set_ne e] at hx
    have hra := h.r.row a b xs ha hx
    exact ⟨hra.1.kept fun k hk2 => hk k (fun e2 => h.r.apart i a _ b e hi ha gu rfl (by rw [← e2]; exact hk2)), hra.2⟩

end Go.Pan
