import Derived.Test.YtieongcagkfedaaS4
import Derived.Test.YtieongcagkfedaaM5
namespace Go.Proofs.Ytieongcagkfedaa
open Go Go.RowKit Go.Pan

theorem boundL_gaps {xs : List Int} (h : gapsL xs = []) : boundL xs = 0 := by unfold boundL; rw [if_neg (by simp [h]), h]; rfl
theorem boundL_turns {xs : List Int} (h : turnsL xs ≠ []) : boundL xs = (gapsL xs).length := by unfold boundL; rw [if_neg (fun e => h e.2)]
theorem boundL_more {xs : List Int} (h : gapsL xs ≠ []) (h2 : turnsL xs = []) : boundL xs = ((gapsL xs).length : Int) + 1 := if_pos ⟨h, h2⟩

end Go.Proofs.Ytieongcagkfedaa

