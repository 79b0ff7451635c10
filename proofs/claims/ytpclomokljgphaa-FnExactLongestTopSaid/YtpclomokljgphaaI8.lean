import Derived.Test.YtpclomokljgphaaI4
import Derived.Test.YtpclomokljgphaaS8
import Derived.Test.YtpclomokljgphaaTw
import Derived.Test.YtpclomokljgphaaM10
import Derived.IntWalk
namespace Go.Proofs.Ytpclomokljgphaa
open Go Go.RowKit Go.Pan

theorem arePair_any (a b : Int) (w : World) (a1 : -1048576 ≤ a) (a2 : a ≤ 1048576) (b1 : -1048576 ≤ b) (b2 : b ≤ 1048576) :
    Calls Try.prog 128 #[.int .i64 a, .int .i64 b] w fun e w' => e = .returned (.bool (pairB a b)) ∧ w = w' := by
  by_cases h1 : a - b = 1
  · have hq : ((a - b : Int) == 1) = true := by simp [h1]
    have HP := Lib.hid (show pairB a b = true by simp [pairB, h1])
    clear h1
    go_enter Try.func128, Try.ntmps128
    go_wp2
    go_ret
    exact ⟨by rw [HP.out]; rfl, rfl⟩
  · have hq : ((a - b : Int) == 1) = false := by simp [h1]
    by_cases h2 : b - a = 1
    · have hq2 : ((b - a : Int) == 1) = true := by simp [h2]
      have HP := Lib.hid (show pairB a b = true by simp [pairB, h2])
      clear h1 h2
      go_enter Try.func128, Try.ntmps128
      go_wp2
      go_ret
      exact ⟨by rw [HP.out]; rfl, rfl⟩
    · have hq2 : ((b - a : Int) == 1) = false := by simp [h2]
      have HP := Lib.hid (show pairB a b = false by simp [pairB, h1, h2])
      clear h1 h2
      go_enter Try.func128, Try.ntmps128
      go_wp2
      go_ret
      exact ⟨by rw [HP.out]; rfl, rfl⟩

theorem areNoPair_any (a b : Int) (w : World) (a1 : -1048576 ≤ a) (a2 : a ≤ 1048576) (b1 : -1048576 ≤ b) (b2 : b ≤ 1048576) :
    Calls Try.prog 102 #[.int .i64 a, .int .i64 b] w fun e w' => e = .returned (.bool (noPairB a b)) ∧ w = w' := by
  go_enter Try.func102, Try.ntmps102
  go_wp2_with fail
  refine (arePair_any _ _ _ a1 a2 b1 b2).mono ?_
  rintro e w1 ⟨rfl, rfl⟩
  go_wp2
  go_ret
  exact ⟨rfl, rfl⟩

theorem twl_get (xs : List Int) (k : Nat) (h : k < xs.length) : (twl xs)[k]? = some (iv xs[k]) := by
  unfold twl
  rw [List.getElem?_map, List.getElem?_append_left h, List.getElem?_eq_getElem h]
  rfl

def takenL (xs : List Int) (k : Nat) : Int := ((gapsL xs).length : Int) - (gapsL (turnL xs k)).length

end Go.Proofs.Ytpclomokljgphaa
