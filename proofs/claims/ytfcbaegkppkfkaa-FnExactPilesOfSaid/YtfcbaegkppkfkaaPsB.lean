import Derived.Test.YtfcbaegkppkfkaaPsA
namespace Go.Pan
open Go Go.RowKit
/-- piles, each in a variable of its own -/
structure PB (w : World) (B N : Nat) (ty : TypeId) (bs : List Nat) (hs : List Value) (P : List (List Int)) : Prop where
  lb : bs.length = P.length
  lh : hs.length = P.length
  box : ∀ (i b : Nat) (h : Value) (xs : List Int), bs[i]? = some b → hs[i]? = some h → P[i]? = some xs → Blk w b ty [h] ∧ OwnI w h xs
  inb : ∀ (i b : Nat), bs[i]? = some b → B ≤ b ∧ b < N
  inh : ∀ (i : Nat) (h : Value), hs[i]? = some h → ∀ g, h.ownBlock = some g → B ≤ g ∧ g < N
  ap : ∀ (i j b : Nat) (h : Value), bs[i]? = some b → hs[j]? = some h → h.ownBlock ≠ some b
  dis : ∀ (i j b : Nat), bs[i]? = some b → bs[j]? = some b → i = j
  apart : ∀ (i j : Nat) (h k : Value), i ≠ j → hs[i]? = some h → hs[j]? = some k → ∀ g, h.ownBlock = some g → k.ownBlock ≠ some g
theorem PB.nil (w : World) (B N : Nat) (ty : TypeId) : PB w B N ty [] [] [] := by
  constructor <;> simp
theorem PB.kept {w w' : World} {B N : Nat} {ty : TypeId} {bs : List Nat} {hs : List Value} {P : List (List Int)} (h : PB w B N ty bs hs P) (hk : ∀ g, B ≤ g → g < N → (∃ i : Nat, bs[i]? = some g) ∨ (∃ (i : Nat) (u : Value), hs[i]? = some u ∧ u.ownBlock = some g) → w'.heap[g]? = w.heap[g]?) : PB w' B N ty bs hs P := by
  refine ⟨h.lb, h.lh, fun i b u xs hb hu hx => ?_, h.inb, h.inh, h.ap, h.dis, h.apart⟩
  obtain ⟨h1, h2⟩ := h.box i b u xs hb hu hx
  have hbI := h.inb i b hb
  refine ⟨?_, h2.kept fun g hg => hk g (h.inh i u hu g hg).1 (h.inh i u hu g hg).2 (.inr ⟨i, u, hu, hg⟩)⟩
  unfold Blk at h1 ⊢
  rw [hk b hbI.1 hbI.2 (.inl ⟨i, hb⟩), h1]
theorem PB.mono {w : World} {B N N' : Nat} {ty : TypeId} {bs : List Nat} {hs : List Value} {P : List (List Int)} (h : PB w B N ty bs hs P) (hN : N ≤ N') : PB w B N' ty bs hs P :=
  ⟨h.lb, h.lh, h.box, fun i b hb => ⟨(h.inb i b hb).1, Nat.lt_of_lt_of_le (h.inb i b hb).2 hN⟩, fun i u hu g hg => ⟨(h.inh i u hu g hg).1, Nat.lt_of_lt_of_le (h.inh i u hu g hg).2 hN⟩, h.ap, h.dis, h.apart⟩
theorem getElem?_snoc {α : Type} {l : List α} {a x : α} {i : Nat} (h : (l ++ [a])[i]? = some x) : l[i]? = some x ∨ (i = l.length ∧ x = a) := by
  rw [List.getElem?_append] at h
  split at h
  · exact .inl h
  · have hi : i - l.length < 1 := by have := (List.getElem?_eq_some_iff.1 h).1; simpa using this
    have e : i = l.length := by omega
    subst e
    rw [Nat.sub_self] at h
    simp at h
    exact .inr ⟨rfl, h.symm⟩
theorem PB.snoc {w : World} {B N N' : Nat} {ty : TypeId} {bs : List Nat} {hs : List Value} {P : List (List Int)} {b : Nat} {u : Value} {xs : List Int} (h : PB w B N ty bs hs P) (hBN : B ≤ N) (hb : Blk w b ty [u]) (hu : OwnI w u xs) (hNb : N ≤ b) (hbN : b < N') (hg : ∀ g, u.ownBlock = some g → N ≤ g ∧ g < N' ∧ g ≠ b) (hNN : N ≤ N') : PB w B N' ty (bs ++ [b]) (hs ++ [u]) (P ++ [xs]) := by
  have hl1 := h.lb
  have hl2 := h.lh
  refine ⟨by simp [h.lb], by simp [h.lh], fun i b' u' xs' h1 h2 h3 => ?_, fun i b' h1 => ?_, fun i u' h1 g hg' => ?_, fun i j b' u' h1 h2 e => ?_, fun i j b' h1 h2 => ?_, fun i j u' k hij h1 h2 g hg1 hg2 => ?_⟩
  · rcases getElem?_snoc h1 with h1' | ⟨e1, rfl⟩
    · have hi : i < bs.length := (List.getElem?_eq_some_iff.1 h1').1
      rw [List.getElem?_append_left (by omega)] at h2 h3
      exact h.box i b' u' xs' h1' h2 h3
    · rcases getElem?_snoc h2 with h2' | ⟨_, rfl⟩
      · have := (List.getElem?_eq_some_iff.1 h2').1; omega
      · rcases getElem?_snoc h3 with h3' | ⟨_, rfl⟩
        · have := (List.getElem?_eq_some_iff.1 h3').1; omega
        · exact ⟨hb, hu⟩
  · rcases getElem?_snoc h1 with h1' | ⟨_, rfl⟩
    · have := h.inb i b' h1'; omega
    · omega
  · rcases getElem?_snoc h1 with h1' | ⟨_, rfl⟩
    · have := h.inh i u' h1' g hg'; omega
    · have := hg g hg'; omega
  · rcases getElem?_snoc h1 with h1' | ⟨_, rfl⟩
    · rcases getElem?_snoc h2 with h2' | ⟨_, rfl⟩
      · exact h.ap i j b' u' h1' h2' e
      · have := h.inb i b' h1'; have := hg _ e; omega
    · rcases getElem?_snoc h2 with h2' | ⟨_, rfl⟩
      · have := h.inh j u' h2' _ e; omega
      · exact (hg _ e).2.2 rfl
  · rcases getElem?_snoc h1 with h1' | ⟨e1, rfl⟩
    · rcases getElem?_snoc h2 with h2' | ⟨_, rfl⟩
      · exact h.dis i j b' h1' h2'
      · have := h.inb i _ h1'; omega
    · rcases getElem?_snoc h2 with h2' | ⟨e2, _⟩
      · have := h.inb j _ h2'; omega
      · omega
  · rcases getElem?_snoc h1 with h1' | ⟨e1, rfl⟩
    · rcases getElem?_snoc h2 with h2' | ⟨_, rfl⟩
      · exact h.apart i j u' k hij h1' h2' g hg1 hg2
      · have := h.inh i u' h1' g hg1; have := hg g hg2; omega
    · rcases getElem?_snoc h2 with h2' | ⟨e2, _⟩
      · have := h.inh j k h2' g hg2; have := hg g hg1; omega
      · omega
theorem getElem?_setP {α : Type} {l : List α} {a x : α} {i j : Nat} (h : (l.set i a)[j]? = some x) : (i = j ∧ x = a) ∨ (i ≠ j ∧ l[j]? = some x) := by
  by_cases e : i = j
  · subst e
    have hi : i < (l.set i a).length := (List.getElem?_eq_some_iff.1 h).1
    rw [List.length_set] at hi
    rw [List.getElem?_set_self hi] at h
    cases h
    exact .inl ⟨rfl, rfl⟩
  · rw [List.getElem?_set_ne e] at h
    exact .inr ⟨e, h⟩
/-- a pile has grown -/
theorem PB.push {w w' : World} {B N i b : Nat} {ty : TypeId} {bs : List Nat} {hs : List Value} {P : List (List Int)} {u0 u1 : Value} {r1 : List Int} (h : PB w B N ty bs hs P) (hN : N ≤ w.heap.size) (hBN : B ≤ N)
    (hib : bs[i]? = some b) (hiu : hs[i]? = some u0) (hgr : w.grownBy w' u0.ownBlock) (hu : OwnI w' u1 r1) (hat : ∀ g, u1.ownBlock = some g → u0.ownBlock = some g ∨ w.heap.size ≤ g) :
    PB (w'.setCell ⟨b, 0, none⟩ u1) B w'.heap.size ty bs (hs.set i u1) (P.set i r1) := by
  have hsz := hgr.size
  have hlb := h.lb
  have hlh := h.lh
  have hbI := h.inb i b hib
  have hub : u0.ownBlock ≠ some b := h.ap i i b u0 hib hiu
  have hb' : ∀ (j : Nat) (c : Nat) (u : Value) (xs : List Int), bs[j]? = some c → hs[j]? = some u → P[j]? = some xs → Blk w' c ty [u] := fun j c u xs h1 h2 h3 => by
    have h4 := (h.box j c u xs h1 h2 h3).1
    unfold Blk at h4 ⊢
    rw [hgr.block c (by have := h.inb j c h1; omega) (fun e => h.ap j i c u0 h1 hiu e.symm), h4]
  have hu1b : ∀ (j c : Nat), bs[j]? = some c → u1.ownBlock ≠ some c := fun j c h1 e => by
    rcases hat c e with h2 | h2
    · exact h.ap j i c u0 h1 hiu h2
    · have := h.inb j c h1; omega
  have hin1 : ∀ g, u1.ownBlock = some g → B ≤ g ∧ g < w'.heap.size := fun g hg => by
    have h3 := hu.lt g hg
    rcases hat g hg with h2 | h2
    · have := h.inh i u0 hiu g h2; omega
    · omega
  have hap1 : ∀ (j : Nat) (k : Value), i ≠ j → hs[j]? = some k → ∀ g, u1.ownBlock = some g → k.ownBlock ≠ some g := fun j k hij hk g hg e => by
    rcases hat g hg with h2 | h2
    · exact h.apart i j u0 k hij hiu hk g h2 e
    · have := h.inh j k hk g e; omega
  refine ⟨by simp [h.lb], by simp [h.lh], fun j c u xs h1 h2 h3 => ?_, fun j c h1 => ?_, fun j u h1 g hg => ?_, fun j k c u h1 h2 => ?_, h.dis, fun j k u u2 hjk h1 h2 => ?_⟩
  · by_cases e : i = j
    · subst e
      have hi : i < hs.length := (List.getElem?_eq_some_iff.1 hiu).1
      rw [List.getElem?_set_self hi] at h2
      rw [List.getElem?_set_self (by omega)] at h3
      cases h2; cases h3
      have hcb : c = b := by rw [hib] at h1; cases h1; rfl
      subst hcb
      have h5 := (hb' i c u0 (P[i]'(by omega)) h1 hiu (List.getElem?_eq_getElem _)).set 0 u1
      exact ⟨h5, hu.kept fun g hg => heap_setCell_other w' ⟨c, 0, none⟩ g u1 (fun e => hu1b i c h1 (by rw [hg]; exact congrArg some e))⟩
    · rw [List.getElem?_set_ne e] at h2 h3
      have h6 := hb' j c u xs h1 h2 h3
      have hcb : c ≠ b := fun e2 => e (h.dis i j b hib (by rw [← e2]; exact h1))
      refine ⟨?_, (h.box j c u xs h1 h2 h3).2.kept fun g hg => ?_⟩
      · unfold Blk at h6 ⊢
        rw [heap_setCell_other w' ⟨b, 0, none⟩ c u1 hcb, h6]
      · rw [heap_setCell_other w' ⟨b, 0, none⟩ g u1 (fun e2 => h.ap i j b u hib h2 (by rw [hg]; exact congrArg some e2))]
        exact hgr.block g (by have := h.inh j u h2 g hg; omega) (fun e2 => h.apart i j u0 u e hiu h2 g e2.symm hg)
  · have := h.inb j c h1; omega
  · rcases getElem?_setP h1 with ⟨_, rfl⟩ | ⟨_, h2⟩
    · exact hin1 g hg
    · have := h.inh j u h2 g hg; omega
  · rcases getElem?_setP h2 with ⟨_, rfl⟩ | ⟨_, h2⟩
    · exact hu1b j c h1
    · exact h.ap j k c u h1 h2
  · rcases getElem?_setP h1 with ⟨e1, rfl⟩ | ⟨e1, h3⟩
    · rcases getElem?_setP h2 with ⟨e2, _⟩ | ⟨_, h4⟩
      · omega
      · exact hap1 k u2 (by omega) h4
    · rcases getElem?_setP h2 with ⟨e2, rfl⟩ | ⟨_, h4⟩
      · exact fun g hg e => hap1 j u (by omega) h3 g e hg
      · exact h.apart j k u u2 hjk h3 h4

end Go.Pan
