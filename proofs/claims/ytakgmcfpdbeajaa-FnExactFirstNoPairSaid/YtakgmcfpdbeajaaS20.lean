import Derived.Test.YtakgmcfpdbeajaaS19
namespace Go.Proofs.Ytakgmcfpdbeajaa
open Go Go.RowKit Go.Pan

/-- the stacks of n without a good pair, in order -/
def noPairs (n : Int) : List (List Int) := lookL n.toNat n.toNat []
def mCountNoPairs (n : Int) : Int := if inB n 1 9 = true then ((noPairs n).length : Int) else 0
def okFirst (n : Int) : Bool := inB n 1 9 && decide ((noPairs n).length ≠ 0)
def mFirstNoPair (n : Int) : List Int := if inB n 1 9 = true then (noPairs n).headD [] else []

set_option maxHeartbeats 800000 in
theorem sCountNoPairs_any (n : Int) (w : World) :
    Calls Try.prog 21 #[.int .i64 n] w fun e w' => e = .returned (.tuple #[.int .i64 (mCountNoPairs n), .bool (inB n 1 9)]) ∧ Below w.heap.size w w' := by
  have c := l1In_any n 1 9 w
  cases hi : inB n 1 9 with
  | true =>
    obtain ⟨m, hm⟩ : ∃ m : Nat, n = (m : Int) := ⟨n.toNat, by have := inB_iff.1 hi; omega⟩
    subst hm
    have hb := inB_iff.1 hi
    have HM := Lib.hid (show mCountNoPairs (m : Int) = ((lookL m m []).length : Int) by unfold mCountNoPairs noPairs; rw [if_pos hi]; rfl)
    have HB := Lib.hid hb
    rw [hi] at c
    clear hi hb
    go_enter Try.func21, Try.ntmps21
    go_wp2_with fail
    refine c.mono ?_
    rintro e w1 ⟨rfl, rfl⟩
    clear c
    go_wp2_with fail
    refine (gaLook_any m (by have := HB.out; omega) (by have := HB.out; omega) m [] _ _ (OwnI.nil _) (by simp) (Lib.hid (fun x hx => by cases hx))).mono ?_
    rintro e w2 ⟨r, rfl, ho, hf, hb⟩
    clear ho hf
    go_wp2
    go_ret2
    exact ⟨by rw [HM.out]; rfl, hb⟩
  | false =>
    have HM := Lib.hid (show mCountNoPairs n = 0 from if_neg (by rw [hi]; exact Bool.false_ne_true))
    rw [hi] at c
    clear hi
    go_enter Try.func21, Try.ntmps21
    go_wp2_with fail
    refine c.mono ?_
    rintro e w1 ⟨rfl, rfl⟩
    clear c
    go_wp2
    go_ret2
    exact ⟨by rw [HM.out]; rfl, Below.refl _ _⟩

end Go.Proofs.Ytakgmcfpdbeajaa
