import Derived.Test.YtfcbaegkppkfkaaPsP
namespace Go.Proofs.Ytfcbaegkppkfkaa
open Go Go.RowKit Go.Pan

/-- a list of piles -/
structure PC (w : World) (B : Nat) (v : Value) (bs : List Nat) (hs : List Value) (P : List (List Int)) : Prop where
  own : w.ownsRow B 41 2 v P.length (fl cP.c bs)
  pb : PB w B w.heap.size 22 bs hs P
  cont : ∀ g, v.ownBlock = some g → B ≤ g ∧ g < w.heap.size ∧ (∀ (i b : Nat), bs[i]? = some b → b ≠ g) ∧ (∀ (i : Nat) (h : Value), hs[i]? = some h → h.ownBlock ≠ some g)

theorem PC.nil (w : World) (B : Nat) : PC w B (.slice none 0 0) [] [] [] :=
  ⟨World.ownsRow_nil _ _ _ _, PB.nil _ _ _ _, fun g hg => by simp [Value.ownBlock] at hg⟩
theorem PC.below {w w' : World} {B : Nat} {v : Value} {bs : List Nat} {hs : List Value} {P : List (List Int)} (h : PC w B v bs hs P) (hb : Below w.heap.size w w') : PC w' B v bs hs P := by
  refine ⟨h.own.kept (row := none) ⟨hb.os, hb.tape, hb.output, hb.size, fun k hk _ => hb.block k hk⟩ (by cases h : Value.ownBlock v with | none => exact .inl rfl | some g => exact .inr (by simp)), (h.pb.kept fun g _ h2 _ => hb.block g h2).mono hb.size, fun g hg => ?_⟩
  have h1 := h.cont g hg
  exact ⟨h1.1, Nat.lt_of_lt_of_le h1.2.1 hb.size, h1.2.2⟩
theorem PC.push {w w' : World} {B i b : Nat} {v : Value} {bs : List Nat} {hs : List Value} {P : List (List Int)} {u0 u1 : Value} {r1 : List Int} (h : PC w B v bs hs P) (hB : B ≤ w.heap.size)
    (hib : bs[i]? = some b) (hiu : hs[i]? = some u0) (hgr : w.grownBy w' u0.ownBlock) (hu : OwnI w' u1 r1) (hat : ∀ g, u1.ownBlock = some g → u0.ownBlock = some g ∨ w.heap.size ≤ g) :
    PC (w'.setCell ⟨b, 0, none⟩ u1) B v bs (hs.set i u1) (P.set i r1) := by
  have hsz := hgr.size
  have hp := h.pb.push (Nat.le_refl _) hB hib hiu hgr hu hat
  have hub : u0.ownBlock ≠ some b := h.pb.ap i i b u0 hib hiu
  refine ⟨?_, by rw [World.size_setCell]; exact hp, fun g hg => ?_⟩
  · rw [List.length_set]
    have h1 : w'.ownsRow B 41 2 v P.length (fl cP.c bs) := h.own.kept hgr (by
      cases hv : Value.ownBlock v with
      | none => exact .inl rfl
      | some g => exact .inr (fun e => (h.cont g hv).2.2.2 i u0 hiu e.symm))
    refine h1.kept (row := some b) ⟨rfl, rfl, rfl, by rw [World.size_setCell]; exact Nat.le_refl _, fun k _ hk => heap_setCell_other w' ⟨b, 0, none⟩ k u1 (fun e => hk (by rw [e]))⟩ (by
      cases hv : Value.ownBlock v with
      | none => exact .inl rfl
      | some g => exact .inr (fun e => (h.cont g hv).2.2.1 i b hib (by simpa using e.symm)))
  · have h1 := h.cont g hg
    refine ⟨h1.1, by rw [World.size_setCell]; omega, h1.2.2.1, fun j u hj e => ?_⟩
    rcases getElem?_setP hj with ⟨_, rfl⟩ | ⟨_, hj⟩
    · rcases hat g e with h2 | h2
      · exact h1.2.2.2 i u0 hiu h2
      · omega
    · exact h1.2.2.2 j u hj e
theorem PC.snoc {w w1 w3 : World} {B b g8 cap : Nat} {o : Obj} {v u : Value} {bs : List Nat} {hs : List Value} {P : List (List Int)} {xs : List Int} (h : PC w B v bs hs P) (hB : B ≤ w.heap.size)
    (hb : Below w.heap.size w w1) (hbk : Blk w1 b 22 [u]) (hu : OwnI w1 u xs) (h1 : w.heap.size ≤ b) (h2 : b < w1.heap.size) (h3 : ∀ g, u.ownBlock = some g → w.heap.size ≤ g ∧ g < w1.heap.size ∧ g ≠ b)
    (hown : w3.ownsRow B 41 2 (.slice (some ⟨g8, 0, none⟩) (P.length + 1) cap) (P.length + 1) (fl cP.c bs ++ cP.c b)) (hgr : (w1.alloc o).grownBy w3 v.ownBlock) (hat : v.ownBlock = some g8 ∨ g8 = w1.heap.size + 1) (hlt : g8 < w3.heap.size) :
    PC w3 B (.slice (some ⟨g8, 0, none⟩) (P.length + 1) cap) (bs ++ [b]) (hs ++ [u]) (P ++ [xs]) := by
  have hz := hb.size
  have hz3 : w1.heap.size + 1 ≤ w3.heap.size := by have := hgr.size; simpa using this
  have hk : ∀ g, g < w1.heap.size → v.ownBlock ≠ some g → w3.heap[g]? = w1.heap[g]? := fun g hg hne => (hgr.block g (by simp; omega) (fun e => hne e.symm)).trans (Below.heap_alloc w1 o g hg)
  have hvg : ∀ g, v.ownBlock = some g → g < w.heap.size := fun g hg => (h.cont g hg).2.1
  have hp1 : PB w1 B w.heap.size 22 bs hs P := h.pb.kept fun g _ h2 _ => hb.block g h2
  have hp3 : PB w3 B w.heap.size 22 bs hs P := hp1.kept fun g _ h2 h3 => hk g (by omega) (fun e => by
    rcases h3 with ⟨i, hi⟩ | ⟨i, u', hi, hu'⟩
    · exact (h.cont g e).2.2.1 i g hi rfl
    · exact (h.cont g e).2.2.2 i u' hi hu')
  refine ⟨by rw [List.length_append, fl_append, fl_one]; exact hown, ?_, fun g hg => ?_⟩
  · refine hp3.snoc hB ?_ (hu.kept fun g hg => hk g (h3 g hg).2.1 (fun e => by have := hvg g e; have := h3 g hg; omega)) h1 (by omega) (fun g hg => by have := h3 g hg; exact ⟨this.1, by omega, this.2.2⟩) (by omega)
    unfold Blk at hbk ⊢
    rw [hk b h2 (fun e => by have := hvg b e; omega), hbk]
  · have e : g8 = g := by simpa [Value.ownBlock] using hg
    subst e
    have hBg : B ≤ g8 := by
      rcases hat with h4 | h4
      · exact (h.cont g8 h4).1
      · omega
    refine ⟨hBg, hlt, fun i c hc e => ?_, fun i u' hu' e => ?_⟩
    · subst e
      rcases getElem?_snoc hc with hc | ⟨_, rfl⟩
      · rcases hat with h4 | h4
        · exact (h.cont c h4).2.2.1 i c hc rfl
        · have := h.pb.inb i c hc; omega
      · rcases hat with h4 | h4
        · have := hvg c h4; omega
        · omega
    · rcases getElem?_snoc hu' with hc | ⟨_, rfl⟩
      · rcases hat with h4 | h4
        · exact (h.cont g8 h4).2.2.2 i u' hc e
        · have := h.pb.inh i u' hc g8 e; omega
      · have := h3 g8 e
        rcases hat with h4 | h4
        · have := hvg g8 h4; omega
        · omega

end Go.Proofs.Ytfcbaegkppkfkaa
