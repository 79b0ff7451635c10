import Derived.Test.YtdlnniciccpchaaS23
namespace Go.Proofs.Ytdlnniciccpchaa
open Go Go.RowKit Go.Pan

theorem farL_get {n r : Nat} (h : r < fact n) : (farL n)[r]'(by rw [farL_length]; exact h) = (dS n r : Int) := by simp [farL]
theorem cntL_get {n r : Nat} (h : r < fact n) : (cntL n)[r]'(by rw [cntL_length]; exact h) = (Pan.ways n (dS n r) (ramp 1 n) (unrank n r) : Int) := by simp [cntL]
theorem run_layer0 (v0 v1 v2 : Value) (w : World) : (Instr.field 62 (.agg #[v0, v1, v2]) 0).run Try.prog w = .ok v0 w := by kernel_rfl
theorem run_layer1 (v0 v1 v2 : Value) (w : World) : (Instr.field 62 (.agg #[v0, v1, v2]) 1).run Try.prog w = .ok v1 w := by kernel_rfl
/-- what is read of the layers at a stack's rank -/
theorem FAR.at {n : Nat} {w : World} {a c s : Nat} {S : List Value} (h : FAR n w (.slice (some ⟨a, 0, none⟩) (fact n) (fact n)) (.slice (some ⟨c, 0, none⟩) (fact n) (fact n)) (.slice (some ⟨s, 0, none⟩) (fact n) (fact n)) S) {r : Nat} (hr : r < fact n) :
    w.cell? ⟨a, r, none⟩ = some (iv (dS n r : Int)) ∧ w.cell? ⟨c, r, none⟩ = some (iv (Pan.ways n (dS n r) (ramp 1 n) (unrank n r) : Int)) ∧ a < w.heap.size ∧ c < w.heap.size := by
  have h1 := (OwnI.cellAt h.far r (by rw [farL_length]; exact hr)).1
  have h2 := (OwnI.cellAt h.cnt r (by rw [cntL_length]; exact hr)).1
  rw [farL_get hr] at h1
  rw [cntL_get hr] at h2
  exact ⟨h1, h2, World.block_lt_of_cell? w _ h1, World.block_lt_of_cell? w _ h2⟩

/-- the stack at a rank -/
theorem FAR.stAt {n : Nat} {w : World} {v1 v2 : Value} {s : Nat} {S : List Value} (h : FAR n w v1 v2 (.slice (some ⟨s, 0, none⟩) (fact n) (fact n)) S) (hn : Cnt n) {i : Nat} (hi : i < fact n) :
    ∃ va vc, w.cell? ⟨s, i, none⟩ = some (.slice va n vc) ∧ OwnI w (.slice va n vc) (unrank n i) := by
  obtain ⟨g, off, he, _, hc, _⟩ := Own.at h.st (by omega)
  simp only [Option.some.injEq, Addr.mk.injEq, and_true] at he
  obtain ⟨rfl, rfl⟩ := he
  have h1 := hc i (by omega)
  rw [Nat.zero_add] at h1
  obtain ⟨u, hu⟩ : ∃ u, S[i]? = some u := by
    obtain ⟨_, _, _, _, _, _, hl, _⟩ := h.st
    exact ⟨_, List.getElem?_eq_getElem (by omega)⟩
  have h2 := h.row i u _ hu (unrank_get hi)
  obtain ⟨va, vc, rfl, _, _, _⟩ := h2.shape
  rw [(unrank_st hn.pos hn.le hi).2] at hu h2
  exact ⟨va, vc, h1.trans hu, h2⟩

end Go.Proofs.Ytdlnniciccpchaa

