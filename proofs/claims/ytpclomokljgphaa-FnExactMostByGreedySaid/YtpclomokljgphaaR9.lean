import Derived.Test.YtpclomokljgphaaR8
import Derived.Test.YtpclomokljgphaaS20
namespace Go.Proofs.Ytpclomokljgphaa
open Go Go.RowKit Go.Pan Go.Shelf

attribute [local go_sem] Oper.semAt_some

theorem growB_no (bs : List Int) (x : Int) : growB noPairB bs x = mayB bs x := by
  unfold growB mayB
  by_cases hx : x ∈ bs
  · simp [hx]
  · by_cases hb : bs = []
    · simp [hb]
    · have hl : bs.getLastD 0 ∈ bs := by
        rw [List.getLastD_eq_getLast?, List.getLast?_eq_some_getLast hb]
        exact List.getLast_mem hb
      have hne : bs.getLastD 0 ≠ x := fun e => hx (e ▸ hl)
      rw [← abs_pair _ _ hne, decide_eq_false hx, decide_eq_false hb]
      simp only [Bool.not_false, Bool.true_and, Bool.false_or]
      by_cases h1 : absI (bs.getLastD 0 - x) ≤ 1
      · rw [decide_eq_true h1, decide_eq_false (by omega)]; rfl
      · rw [decide_eq_false h1, decide_eq_true (by omega)]; rfl
theorem growL_no (n : Nat) : ∀ (f : Nat) (bs : List Int), growL noPairB n f bs = lookL n f bs
  | 0, _ => rfl
  | f + 1, bs => by
    have h1 : gmayTo noPairB bs n = mayTo bs n := by
      unfold gmayTo mayTo
      congr 1
      funext x
      exact growB_no bs x
    rw [growL, lookL, h1]
    congr 1
    funext x
    exact growL_no n f _

theorem no_calls : Hid (∀ (a b : Int) (u : World), -1048576 ≤ a → a ≤ 1048576 → -1048576 ≤ b → b ≤ 1048576 → Calls Try.prog 102 #[.int .i64 a, .int .i64 b] u fun e w' => e = .returned (.bool (noPairB a b)) ∧ u = w') :=
  Lib.hid fun a b u h1 h2 h3 h4 => areNoPair_any a b u h1 h2 h3 h4