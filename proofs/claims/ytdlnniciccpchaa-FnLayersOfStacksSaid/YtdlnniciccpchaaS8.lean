import Derived.Test.YtdlnniciccpchaaS4
import Derived.Test.YtdlnniciccpchaaM5
namespace Go.Proofs.Ytdlnniciccpchaa
open Go Go.RowKit Go.Pan

theorem l1Most_any (a b : Int) (w : World) :
    Calls Try.prog 54 #[.int .i64 a, .int .i64 b] w fun e w' => e = .returned (.int .i64 (if b < a then a else b)) ∧ w = w' := by
  by_cases h : b < a
  · rw [if_pos h]
    go_enter Try.func54, Try.ntmps54
    go_wp2
    go_ret
    exact ⟨rfl, rfl⟩
  · rw [if_neg h]
    have h' : a ≤ b := by omega
    go_enter Try.func54, Try.ntmps54
    go_wp2
    go_ret
    exact ⟨rfl, rfl⟩

theorem boundL_gaps {xs : List Int} (h : gapsL xs = []) : boundL xs = 0 := by unfold boundL; rw [if_neg (by simp [h]), h]; rfl
theorem boundL_turns {xs : List Int} (h : turnsL xs ≠ []) : boundL xs = (gapsL xs).length := by unfold boundL; rw [if_neg (fun e => h e.2)]
theorem boundL_more {xs : List Int} (h : gapsL xs ≠ []) (h2 : turnsL xs = []) : boundL xs = ((gapsL xs).length : Int) + 1 := if_pos ⟨h, h2⟩

end Go.Proofs.Ytdlnniciccpchaa

