import Derived.Test.YtocccocpacohaabHR2
namespace Go.Pan
open Go Go.RowKit
/-- a slice of slices of ints that may be marked: rows in one block, or each with memory of its own -/
def RX (w : World) (B N : Nat) (v : Value) (hs : List Value) (xss : List (List Int)) : Prop := (∃ g ty post, RR w B N v hs xss g ty post) ∨ SS w B N v hs xss
theorem RX.below {w w' : World} {B N N' : Nat} {v : Value} {hs : List Value} {xss : List (List Int)} (h : RX w B N v hs xss) (hb : Below N' w w') (hN : N ≤ N') : RX w' B N v hs xss := by
  rcases h with ⟨g, ty, post, h⟩ | h
  · exact .inl ⟨g, ty, post, h.below hb hN⟩
  · exact .inr (h.below hb hN)
theorem RX.grown {w w' : World} {B N : Nat} {v : Value} {hs : List Value} {xss : List (List Int)} {row : Option Nat} (h : RX w B N v hs xss) (hg : w.grownBy w' row) (hN : N ≤ w.heap.size) (hne : ∀ g, row = some g → g < B ∨ N ≤ g) : RX w' B N v hs xss := by
  rcases h with ⟨g, ty, post, h⟩ | h
  · exact .inl ⟨g, ty, post, h.grown hg hN hne⟩
  · exact .inr (h.grown hg hN hne)
theorem RX.rs {w : World} {B N : Nat} {v : Value} {hs : List Value} {xss : List (List Int)} (h : RX w B N v hs xss) (hm : ∀ xs ∈ xss, xs.length ≤ 1048576) : RS w N v hs xss := by
  rcases h with ⟨g, ty, post, h⟩ | h
  · exact h.rs hm
  · exact h.rs
theorem rows_markAt (xss : List (List Int)) (k : Int) (n : Nat) (hm : ∀ xs ∈ xss, xs.length ≤ 1048576) : ∀ xs ∈ markAt xss k n, xs.length ≤ 1048576 := by
  intro xs hx
  obtain ⟨i, hi, rfl⟩ := List.getElem_of_mem hx
  rw [len_markAt xss k n i (by rw [markAt_length] at hi; exact hi)]
  exact hm _ (List.getElem_mem _)
end Go.Pan
namespace Go.Proofs.Ytocccocpacohaab
open Go Go.RowKit Go.Pan
theorem markIntRX_any (v : Value) (B N : Nat) (hs : List Value) (xss : List (List Int)) (k : Int) (w : World) (hv : RX w B N v hs xss) (hn : xss.length ≤ 1048576) (hm : ∀ xs ∈ xss, xs.length ≤ 1048576) (ht : pre xss xss.length ≤ 1048576) (h0 : 0 ≤ k) (h1 : k ≤ 1048576) (hBw : B ≤ w.heap.size) :
    Calls Try.prog 31 #[v, .int .i64 k] w fun e w' => e = .returned (.int .i64 (k + (pre xss xss.length : Nat))) ∧ RX w' B N v hs (markAt xss k xss.length) ∧ Below B w w' := by
  rcases hv with ⟨g, ty, post, h⟩ | h
  · exact (markIntRR_any v B N g ty post hs xss k w h hn hm ht h0 h1 hBw).mono fun _ _ ⟨a, b, c⟩ => ⟨a, .inl ⟨g, ty, post, b⟩, c⟩
  · exact (markIntSS_any v B N hs xss k w h hn hm ht h0 h1 hBw).mono fun _ _ ⟨a, b, c⟩ => ⟨a, .inr b, c⟩
end Go.Proofs.Ytocccocpacohaab
