import Derived.JoinedOf
import Derived.KernelRfl
namespace Go.PanHd
open Go
theorem words_append (t : List Char) : ∀ p : List Char, wordsSigns (p ++ Char.ofNat 32 :: t) = wordsSigns p ++ wordsSigns t
  | [] => rfl
  | c :: p => by
    have ih := words_append t p
    by_cases hc : c = Char.ofNat 32
    · subst hc
      have h : ∀ r, wordsSigns (Char.ofNat 32 :: r) = [] :: wordsSigns r := fun r => rfl
      rw [List.cons_append, h, h, ih]
      rfl
    · have hne : ∀ r, wordsSigns (c :: r) = match wordsSigns r with | w :: ws => (c :: w) :: ws | [] => [[c]] := fun r => by
        exact wordsSigns.eq_3 c r (fun h => hc h)
      have hnn : ∀ q : List Char, wordsSigns q ≠ [] := by
        intro q
        cases q with
        | nil => simp [wordsSigns]
        | cons d q =>
          by_cases hd : d = Char.ofNat 32
          · subst hd
            intro h
            cases h
          · have h := wordsSigns.eq_3 d q (fun h => hd h)
            rw [h]
            split <;> simp
      rw [List.cons_append, hne, hne, ih]
      cases hp : wordsSigns p with
      | nil => exact absurd hp (hnn p)
      | cons w ws => simp
def cutL : List Char := [Char.ofNat 99, Char.ofNat 117, Char.ofNat 116]
theorem make_of (P : Program) (b : List (List Char)) (h : behindMainWord (wordsSigns P.initOrder.toList) = cutL :: b) : P.make = some .cut := by
  unfold Program.make
  rw [h]
  rfl
theorem lifts_of (P : Program) (b : List (List Char)) (h : behindMainWord (wordsSigns P.initOrder.toList) = cutL :: b) : P.liftsFinal = false := by
  have hl : P.headLifts = [] := by
    unfold Program.headLifts
    rw [h]
    rfl
  unfold Program.liftsFinal
  rw [h, hl]
  rfl
theorem may_of (P : Program) (b : List (List Char)) (h : behindMainWord (wordsSigns P.initOrder.toList) = cutL :: b) (h1 : P.laysLater = false) (h2 : P.bearsReflect = false) (h3 : P.doorFits [] = true) : P.mayEnter = true := by
  have hs : stripLifts liftWords (cutL :: b) = ([], cutL :: b) := rfl
  unfold Program.mayEnter
  rw [h]
  simp only [hs, h1, h2, h3]
  rfl

end Go.PanHd

