import Derived.Test.YtmlikchhkblohaaS4
import Derived.Test.YtmlikchhkblohaaM5
namespace Go.Proofs.Ytmlikchhkblohaa
open Go Go.RowKit Go.Pan

theorem l1Most_any (a b : Int) (w : World) :
    Calls Try.prog 128 #[.int .i64 a, .int .i64 b] w fun e w' => e = .returned (.int .i64 (if b < a then a else b)) ∧ w = w' := by
  by_cases h : b < a
  · rw [if_pos h]
    go_enter Try.func128, Try.ntmps128
    go_wp2
    go_ret
    exact ⟨rfl, rfl⟩
  · rw [if_neg h]
    have h' : a ≤ b := by omega
    go_enter Try.func128, Try.ntmps128
    go_wp2
    go_ret
    exact ⟨rfl, rfl⟩

theorem l1Abs_any (a : Int) (w : World) (h1 : -1048576 ≤ a) (h2 : a ≤ 1048576) :
    Calls Try.prog 159 #[.int .i64 a] w fun e w' => e = .returned (.int .i64 (absI a)) ∧ w = w' := by
  have c := l1Most_any a (-a)
  rw [show (if -a < a then a else -a) = absI a from rfl] at c
  go_enter Try.func159, Try.ntmps159
  go_wp2_with fail
  refine (c _).mono ?_
  rintro e w1 ⟨rfl, rfl⟩
  go_wp2
  go_ret
  exact ⟨rfl, rfl⟩

theorem boundL_gaps {xs : List Int} (h : gapsL xs = []) : boundL xs = 0 := by unfold boundL; rw [if_neg (by simp [h]), h]; rfl
theorem boundL_turns {xs : List Int} (h : turnsL xs ≠ []) : boundL xs = (gapsL xs).length := by unfold boundL; rw [if_neg (fun e => h e.2)]
theorem boundL_more {xs : List Int} (h : gapsL xs ≠ []) (h2 : turnsL xs = []) : boundL xs = ((gapsL xs).length : Int) + 1 := if_pos ⟨h, h2⟩

end Go.Proofs.Ytmlikchhkblohaa

