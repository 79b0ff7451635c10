import Derived.Test.YtieongcagkfedaaS3
import Derived.Test.YtieongcagkfedaaI3
namespace Go.Pan

-- chapter 9: books asked for on a shelf
def askB (xs ps : List Int) : Bool := goodB xs && (decide ((ps.length : Int) ≤ 60) && allB ps 1 xs.length)
theorem askB_iff {xs ps : List Int} : askB xs ps = true ↔ Good xs ∧ ps.length ≤ 60 ∧ ∀ k ∈ ps, 1 ≤ k ∧ k ≤ (xs.length : Int) := by
  simp only [askB, Bool.and_eq_true, goodB_iff, allB_iff, decide_eq_true_eq]
  constructor
  · rintro ⟨h1, h2, h3⟩; exact ⟨h1, by omega, h3⟩
  · rintro ⟨h1, h2, h3⟩; exact ⟨h1, by omega, h3⟩
def mAreAsked (xs ps : List Int) : Bool := askB xs ps
end Go.Pan

namespace Go.Proofs.Ytieongcagkfedaa
open Go Go.RowKit Go.Pan

set_option maxHeartbeats 400000 in
theorem shAsked_any (v : Value) (xs : List Int) (u : Value) (ys : List Int) (w : World) (hv : OwnI w v xs) (hn : xs.length ≤ 1048576) (hu : OwnI w u ys) (hm : ys.length ≤ 1048576) :
    Calls Try.prog 73 #[v, u] w fun e w' => e = .returned (.bool (askB xs ys)) ∧ Below w.heap.size w w' := by
  obtain ⟨ad, cap, rfl, hc, _, _⟩ := hv.shape
  obtain ⟨bd, cbp, rfl, hc', _, _⟩ := hu.shape
  cases hg : goodB xs with
  | true =>
    have HG := Lib.hid hg
    by_cases h2 : (ys.length : Int) ≤ 60
    · have HA := Lib.hid (show askB xs ys = allB ys 1 xs.length by unfold askB; rw [hg, decide_eq_true h2]; rfl)
      go_enter Try.func73, Try.ntmps73
      go_wp2_with fail
      refine (stGood_any _ _ _ hv hn).mono ?_
      rintro e w1 ⟨rfl, hb⟩
      go_wp2_with fail
      refine (l1All_any _ ys _ _ _ (hu.same hb) hm).mono ?_
      rintro e w2 ⟨rfl, hb2⟩
      go_wp2
      go_ret
      exact ⟨by rw [HA.out]; rfl, hb.trans (hb2.mono hb.size)⟩
    · have HA := Lib.hid (show askB xs ys = false by unfold askB; rw [hg, decide_eq_false h2]; rfl)
      go_enter Try.func73, Try.ntmps73
      go_wp2_with fail
      refine (stGood_any _ _ _ hv hn).mono ?_
      rintro e w1 ⟨rfl, hb⟩
      go_wp2
      go_ret
      exact ⟨by rw [HA.out]; rfl, hb⟩
  | false =>
    have HA := Lib.hid (show askB xs ys = false by unfold askB; rw [hg]; rfl)
    go_enter Try.func73, Try.ntmps73
    go_wp2_with fail
    refine (stGood_any _ _ _ hv hn).mono ?_
    rintro e w1 ⟨rfl, hb⟩
    go_wp2
    go_ret
    exact ⟨by rw [HA.out]; rfl, hb⟩

set_option maxHeartbeats 400000 in
theorem sAreAsked_any (v : Value) (xs : List Int) (u : Value) (ys : List Int) (w : World) (hv : OwnI w v xs) (hn : xs.length ≤ 1048576) (hu : OwnI w u ys) (hm : ys.length ≤ 1048576) :
    Calls Try.prog 23 #[v, u] w fun e w' => e = .returned (.tuple #[.bool (mAreAsked xs ys), .bool (goodB xs)]) ∧ Below w.heap.size w w' := by
  cases hg : goodB xs with
  | true =>
    have HG := Lib.hid hg
    go_enter Try.func23, Try.ntmps23
    go_wp2_with fail
    refine (stGood_any _ _ _ hv hn).mono ?_
    rintro e w1 ⟨rfl, hb⟩
    go_wp2_with fail
    refine (shAsked_any _ xs _ ys _ (hv.same hb) hn (hu.same hb) hm).mono ?_
    rintro e w2 ⟨rfl, hb2⟩
    go_wp2
    go_ret2
    exact ⟨rfl, hb.trans (hb2.mono hb.size)⟩
  | false =>
    have HA := Lib.hid (show mAreAsked xs ys = false by unfold mAreAsked askB; rw [hg]; rfl)
    go_enter Try.func23, Try.ntmps23
    go_wp2_with fail
    refine (stGood_any _ _ _ hv hn).mono ?_
    rintro e w1 ⟨rfl, hb⟩
    go_wp2
    go_ret2
    exact ⟨by rw [HA.out]; rfl, hb⟩

end Go.Proofs.Ytieongcagkfedaa
