import Derived.Test.YtdlnniciccpchaaSS
import Derived.Deep.AppendLies
namespace Go.Pan
open Go Go.RowKit
theorem SS.one {w : World} {B : Nat} {ty : TypeId} {u : Value} {x : List Int} (hu : OwnI w u x) (hi : In B w.heap.size u) :
    SS (w.alloc (.cells #[u] ty)) B (w.heap.size + 1) (.slice (some ⟨w.heap.size, 0, none⟩) 1 1) [u] [x] ∨ w.heap.size < B := by
  by_cases hB : B ≤ w.heap.size
  · left
    refine ⟨rfl, ⟨_, 1, rfl, rfl, Nat.le_refl _, by simp [maxLen], by simp, fun a ha => ?_⟩, fun g hg => ?_, fun i u' xs hu' hx' => ?_, fun i j u' u'' hij h1 h2 => ?_⟩
    · cases ha
      exact ⟨rfl, #[u], ty, heap_alloc_new w _, by simp, fun j hj => by simp⟩
    · simp [Value.ownBlock] at hg
      omega
    · have h0 : i < 1 := (List.getElem?_eq_some_iff.1 hu').1
      obtain rfl : i = 0 := by omega
      simp at hu' hx'
      subst hu'
      subst hx'
      refine ⟨hu.alloc _, hi.mono (Nat.le_refl _) (Nat.le_succ _), fun g hg e => ?_⟩
      simp [Value.ownBlock] at hg
      have := (hi g e).2
      omega
    · have h1' : i < 1 := (List.getElem?_eq_some_iff.1 h1).1
      have h2' : j < 1 := (List.getElem?_eq_some_iff.1 h2).1
      omega
  · right; omega

theorem SS.app {w w' : World} {B N g cap : Nat} {ty : TypeId} {v u : Value} {hs : List Value} {xss : List (List Int)} {x : List Int} (h : SS w B N v hs xss) (hN : N ≤ w.heap.size)
    (hu : OwnI w u x) (hi : In N w.heap.size u) (hown : w'.ownsRow B ty 1 (.slice (some ⟨g, 0, none⟩) (hs.length + 1) cap) (hs.length + 1) (hs ++ [u])) (hgr : w.grownBy w' v.ownBlock) (hat : v.ownBlock = some g ∨ g = w.heap.size) (hlt : g < w'.heap.size) (hBN : B ≤ N) :
    SS w' B w'.heap.size (.slice (some ⟨g, 0, none⟩) (hs.length + 1) cap) (hs ++ [u]) (xss ++ [x]) := by
  have hO := Own.of_row hown
  have hz := hgr.size
  have hnv : ∀ g', u.ownBlock = some g' → v.ownBlock ≠ some g' := fun g' h1 h2 => by
    have := (hi g' h1).1
    have := (h.inn g' h2).2
    omega
  refine ⟨by simp [h.len], by simpa using hO.1, fun g' hg' => ⟨hO.2 g' hg', ?_⟩, fun i u' xs hu' hx' => ?_, fun i j u' u'' hij h1 h2 => ?_⟩
  · simp [Value.ownBlock] at hg'
    omega
  · by_cases hil : i < hs.length
    · rw [List.getElem?_append_left hil] at hu'
      rw [List.getElem?_append_left (by rw [← h.len]; exact hil)] at hx'
      have hr := h.row i u' xs hu' hx'
      refine ⟨hr.1.grown hgr hr.2.2.symm, hr.2.1.mono (Nat.le_refl _) (Nat.le_trans hN hz), fun g' hg' e => ?_⟩
      simp [Value.ownBlock] at hg'
      subst hg'
      rcases hat with hat | hat
      · exact hr.2.2 g hat e
      · have := (hr.2.1 g e).2
        omega
    · rw [List.getElem?_append_right (by omega)] at hu'
      rw [List.getElem?_append_right (by rw [← h.len]; omega)] at hx'
      have h0 : i - hs.length < 1 := (List.getElem?_eq_some_iff.1 hu').1
      have h1 : i - hs.length = 0 := by omega
      rw [h1] at hu'
      rw [← h.len, h1] at hx'
      simp at hu' hx'
      subst hu'
      subst hx'
      refine ⟨hu.grown hgr hnv, hi.mono hBN hz, fun g' hg' e => ?_⟩
      simp [Value.ownBlock] at hg'
      subst hg'
      rcases hat with hat | hat
      · exact hnv g e hat
      · have := (hi g e).2
        omega
  · have key : ∀ i j u' u'', i < hs.length → ¬ j < hs.length → (hs ++ [u])[i]? = some u' → (hs ++ [u])[j]? = some u'' → Apart u' u'' := fun i j u' u'' hi' hj' h1 h2 g' hg' e => by
      rw [List.getElem?_append_left hi'] at h1
      rw [List.getElem?_append_right (by omega)] at h2
      have h0 : j - hs.length < 1 := (List.getElem?_eq_some_iff.1 h2).1
      have h3 : j - hs.length = 0 := by omega
      rw [h3] at h2
      simp at h2
      subst h2
      have hr := h.row i u' _ h1 (List.getElem?_eq_getElem (by rw [← h.len]; exact hi'))
      have := (hr.2.1 g' hg').2
      have := (hi g' e).1
      omega
    by_cases hil : i < hs.length
    · by_cases hjl : j < hs.length
      · rw [List.getElem?_append_left hil] at h1
        rw [List.getElem?_append_left hjl] at h2
        exact h.apart i j u' u'' hij h1 h2
      · exact key i j u' u'' hil hjl h1 h2
    · by_cases hjl : j < hs.length
      · exact (key j i u'' u' hjl hil h2 h1).symm
      · have h1' : i < (hs ++ [u]).length := (List.getElem?_eq_some_iff.1 h1).1
        have h2' : j < (hs ++ [u]).length := (List.getElem?_eq_some_iff.1 h2).1
        simp at h1' h2'
        omega

end Go.Pan

namespace Go.Proofs.Ytdlnniciccpchaa
open Go Go.RowKit Go.Pan


/-- the first k stacks along a plan -/
def stkN (xs p : List Int) (k : Nat) : List (List Int) := (List.range k).map fun j => PlayTo xs p j
theorem stkN_one (xs p : List Int) : stkN xs p 1 = [xs] := rfl
theorem stkN_succ (xs p : List Int) (k : Nat) : stkN xs p (k + 1) = stkN xs p k ++ [PlayTo xs p k] := by simp [stkN, List.range_succ]
theorem stkN_length (xs p : List Int) (k : Nat) : (stkN xs p k).length = k := by simp [stkN]
theorem stkN_get (xs p : List Int) (k j : Nat) (h : j < k) : (stkN xs p k)[j]'(by rw [stkN_length]; exact h) = PlayTo xs p j := by simp [stkN]
def mStacksAlong (xs p : List Int) : List (List Int) := if okPlay xs p = true then stkN xs p (p.length + 1) else []
theorem mStacksAlong_length (xs p : List Int) : (mStacksAlong xs p).length ≤ 41 := by
  unfold mStacksAlong
  split
  · rename_i h; rw [stkN_length]; have := (okPlay_iff.1 h).2.2.1; omega
  · simp
theorem mStacksAlong_rows (xs p : List Int) : ∀ l ∈ mStacksAlong xs p, l.length ≤ 9 := by
  unfold mStacksAlong
  split
  · rename_i h
    intro l hl
    simp only [stkN, List.mem_map] at hl
    obtain ⟨j, _, rfl⟩ := hl
    rw [PlayTo_length]
    exact (okPlay_iff.1 h).1.le9
  · simp
theorem pre_bound : ∀ (xss : List (List Int)) (_ : ∀ l ∈ xss, l.length ≤ 9), pre xss xss.length ≤ xss.length * 9
  | [], _ => by simp [pre]
  | l :: r, h => by
    have ih := pre_bound r (fun l hl => h l (List.mem_cons_of_mem _ hl))
    have h1 := h l (List.mem_cons_self ..)
    unfold pre at ih ⊢
    rw [List.take_length] at ih ⊢
    simp only [List.map_cons, List.sum_cons, List.length_cons]
    omega
theorem len_mStacksAlong (xs p : List Int) : (mStacksAlong xs p).length ≤ 1048576 := Nat.le_trans (mStacksAlong_length xs p) (by omega)
theorem rows_mStacksAlong (xs p : List Int) : ∀ l ∈ mStacksAlong xs p, l.length ≤ 1048576 := fun l hl => Nat.le_trans (mStacksAlong_rows xs p l hl) (by omega)
theorem tot_mStacksAlong (xs p : List Int) : pre (mStacksAlong xs p) (mStacksAlong xs p).length ≤ 1048576 := by
  have h1 := pre_bound _ (mStacksAlong_rows xs p)
  have h2 := mStacksAlong_length xs p
  omega

end Go.Proofs.Ytdlnniciccpchaa

