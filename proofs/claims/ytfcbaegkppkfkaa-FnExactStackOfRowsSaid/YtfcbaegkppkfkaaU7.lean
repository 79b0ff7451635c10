import Derived.Test.YtfcbaegkppkfkaaU6
namespace Go.Proofs.Ytfcbaegkppkfkaa
open Go Go.RowKit Go.Pan

abbrev nilS : Value := .slice none 0 0
theorem ownsRow_of_blk {w : World} {B g n cap : Nat} {ty : TypeId} {cs hs : List Value} (h : Blk w g ty cs) (hB : B ≤ g) (hn : hs.length = n) (hnc : n ≤ cap) (hcm : cap ≤ maxLen) (hl : cs.length = cap) (ht : cs.take n = hs) : w.ownsRow B ty 1 (.slice (some ⟨g, 0, none⟩) n cap) n hs :=
  ⟨by omega, .inr ⟨g, cap, cs.toArray, rfl, hB, h, hnc, hcm, by simp [hl], by simpa using ht⟩⟩

theorem rowAt {w : World} {g off cap : Nat} {L : List (List Int)} (hv : Own w 9 (.slice (some ⟨g, off, none⟩) L.length cap) L.length (tws L)) (h9 : ∀ q ∈ L, q.length ≤ 9) (k : Nat) (hk : k < L.length) (hcap : 0 < cap) :
    w.rangeAt g (off + k * 9) (twl L[k]) ∧ g < w.heap.size := by
  obtain ⟨g', off', he, hgl, hcell, _⟩ := hv.at hcap
  simp only [Option.some.injEq, Addr.mk.injEq, and_true] at he
  obtain ⟨rfl, rfl⟩ := he
  refine ⟨fun j x hx => ?_, hgl⟩
  have hj : j < 9 := by rw [← twl_length _ (h9 _ (List.getElem_mem hk))]; exact (List.getElem?_eq_some_iff.1 hx).1
  rw [Nat.add_assoc, hcell (k * 9 + j) (by omega), tws_get L k j hk h9 hj]
  exact hx

theorem tot_mStacksBefore (xs : List Int) : pre (mStacksBefore xs) (mStacksBefore xs).length ≤ 1048576 := by
  have h1 := pre_bound _ (mStacksBefore_rows xs)
  have h2 := mStacksBefore_length xs
  omega

end Go.Proofs.Ytfcbaegkppkfkaa

