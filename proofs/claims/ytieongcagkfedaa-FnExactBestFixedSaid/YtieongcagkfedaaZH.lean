import Derived.Test.YtieongcagkfedaaZG
import Derived.Test.YtieongcagkfedaaZD
import Derived.Test.YtieongcagkfedaaI2
namespace Go.Pan

-- the program's side: a stable insertion sort
def cmpZ (x y : Int) : Int := if x < y then -1 else if y < x then 1 else 0
theorem cmpZ_eq (x y : Int) : cmpZ x y = if x < y then -1 else if y < x then 1 else 0 := rfl
theorem cmpZ_lt (x y : Int) : cmpZ x y < 0 ↔ x < y := by
  unfold cmpZ
  split
  · simp [*]
  · split <;> simp [*]
/-- how often each of 1, .., 9 is asked for, as far as the first k tell it -/
def timesT (ps : List Int) (k : Nat) : List Int := (List.range 9).map fun j : Nat => cntA (ps.take k) ((j : Int) + 1)
theorem timesT_length (ps : List Int) (k : Nat) : (timesT ps k).length = 9 := by simp [timesT]
theorem timesT_get (ps : List Int) (k j : Nat) (h : j < (timesT ps k).length) : (timesT ps k)[j] = cntA (ps.take k) ((j : Int) + 1) := by simp [timesT]
theorem timesT_zero (ps : List Int) : timesT ps 0 = List.replicate 9 0 := by
  apply List.ext_getElem
  · simp [timesT]
  · intro j h1 h2
    rw [timesT_get, List.getElem_replicate]
    simp [cntA]
theorem timesT_step (ps : List Int) (k j : Nat) (hk : k < ps.length) (hj : ps[k] = (j : Int) + 1) : (timesT ps k).set j (cntA (ps.take k) ((j : Int) + 1) + 1) = timesT ps (k + 1) := by
  apply List.ext_getElem
  · simp [timesT]
  · intro i h1 h2
    rw [List.getElem_set, timesT_get, timesT_get]
    unfold cntA
    rw [List.take_succ_eq_append_getElem hk, List.count_append, hj]
    by_cases e : j = i
    · subst e; simp
    · rw [if_neg e]
      have : ((j : Int) + 1 = (i : Int) + 1) = False := by simp; omega
      simp [this]
/-- a book on its way down -/
def stL (O : List Int) (b : Int) (j : Nat) (R : List Int) : List Int := O.take j ++ b :: (O.drop j ++ R)
theorem stL_length (O : List Int) (b : Int) (j : Nat) (R : List Int) (h : j ≤ O.length) : (stL O b j R).length = O.length + 1 + R.length := by simp [stL]; omega
theorem stL_b (O : List Int) (b : Int) (j : Nat) (R : List Int) (h : j ≤ O.length) (h2 : j < (stL O b j R).length) : (stL O b j R)[j] = b := by
  simp only [stL]
  rw [List.getElem_append_right (by rw [List.length_take]; omega)]
  simp [List.length_take, Nat.min_eq_left h]
theorem stL_m (O : List Int) (b : Int) (j m : Nat) (R : List Int) (h : j ≤ O.length) (hm : m < j) (h2 : m < (stL O b j R).length) : (stL O b j R)[m] = O[m] := by
  simp only [stL]
  rw [List.getElem_append_left (by simp; omega)]
  simp
theorem stL_swap (O : List Int) (b : Int) (m : Nat) (R : List Int) (h : m < O.length) : ((stL O b (m + 1) R).set (m + 1) O[m]).set m b = stL O b m R := by
  have e1 : (O.take m).length = m := by rw [List.length_take]; omega
  unfold stL
  rw [List.take_succ_eq_append_getElem h, List.append_assoc]
  rw [List.set_append_right _ _ (by omega), e1, show m + 1 - m = 1 by omega]
  simp only [List.singleton_append, List.set_cons_succ, List.set_cons_zero]
  rw [List.set_append_right _ _ (by omega), e1, Nat.sub_self, List.set_cons_zero, List.drop_eq_getElem_cons h]
  rfl
theorem stL_all (O : List Int) (b : Int) (R : List Int) : stL O b O.length R = O ++ b :: R := by simp [stL]
theorem stL_ins (ts : Int → Int) (O : List Int) (b : Int) (R : List Int) : stL O b (downK ts O b O.length) R = insB ts O b ++ R := by simp [stL, insB]
theorem bestL_one (ts : Int → Int) (L : List Int) (h : 1 ≤ L.length) : bestL ts (L.take 1) ++ L.drop 1 = L := by
  cases L with
  | nil => simp at h
  | cons x L => simp [bestL, insB, downK]
end Go.Pan

namespace Go.Proofs.Ytieongcagkfedaa
open Go Go.RowKit Go.Pan

theorem isNaNZ_any (x : Int) (w : World) : Calls Try.prog 130 #[.int .i64 x] w fun e w' => e = .returned (.bool false) ∧ w = w' := by
  have hx : (x != x) = false := by simp
  go_enter Try.func130, Try.ntmps130
  go_wp2
  go_ret
  exact ⟨rfl, rfl⟩
theorem cmpZ_any (x y : Int) (w : World) : Calls Try.prog 89 #[.int .i64 x, .int .i64 y] w fun e w' => e = .returned (.int .i64 (cmpZ x y)) ∧ w = w' := by
  rw [cmpZ_eq]
  obtain ⟨z, hz⟩ : ∃ z, (if x < y then (-1 : Int) else if y < x then 1 else 0) = z := ⟨_, rfl⟩
  rw [hz]
  by_cases h1 : x < y
  · rw [if_pos h1] at hz
    have HZ := Lib.hid hz
    clear hz
    go_enter Try.func89, Try.ntmps89
    go_wp2_with fail
    refine (isNaNZ_any x _).mono ?_
    rintro e w1 ⟨rfl, rfl⟩
    go_wp2_with fail
    refine (isNaNZ_any y _).mono ?_
    rintro e w1 ⟨rfl, rfl⟩
    go_wp2
    go_ret
    exact ⟨by rw [← HZ.out]; rfl, rfl⟩
  · rw [if_neg h1] at hz
    by_cases h2 : y < x
    · rw [if_pos h2] at hz
      have HZ := Lib.hid hz
      clear hz
      go_enter Try.func89, Try.ntmps89
      go_wp2_with fail
      refine (isNaNZ_any x _).mono ?_
      rintro e w1 ⟨rfl, rfl⟩
      go_wp2_with fail
      refine (isNaNZ_any y _).mono ?_
      rintro e w1 ⟨rfl, rfl⟩
      go_wp2
      go_ret
      exact ⟨by rw [← HZ.out]; rfl, rfl⟩
    · rw [if_neg h2] at hz
      have HZ := Lib.hid hz
      clear hz
      go_enter Try.func89, Try.ntmps89
      go_wp2_with fail
      refine (isNaNZ_any x _).mono ?_
      rintro e w1 ⟨rfl, rfl⟩
      go_wp2_with fail
      refine (isNaNZ_any y _).mono ?_
      rintro e w1 ⟨rfl, rfl⟩
      go_wp2
      go_ret
      exact ⟨by rw [← HZ.out]; rfl, rfl⟩

theorem quietL {f : FuncId} {args : Array Value} {w : World} {n : Nat} {v : Value} (h : Calls Try.prog f args (w.drewN n) fun e w' => e = .returned v ∧ w.drewN n = w') :
    Calls Try.prog f args (w.drewN n) fun e w' => e = .returned v ∧ ∃ m, w' = w.drewN m :=
  h.mono fun _ _ ⟨he, hw⟩ => ⟨he, n, hw.symm⟩

set_option maxHeartbeats 800000 in
set_option maxRecDepth 100000 in
theorem cmpBest_any (A B : Int) (a b : Nat) (za zb : Int) (b0 : Nat) (W : World) (hA : A = (a : Int) + 1) (hB : B = (b : Int) + 1) (ha : a < 9) (hb : b < 9) (hca : W.cell? ⟨b0, a, none⟩ = some (.int .i64 za)) (hcb : W.cell? ⟨b0, b, none⟩ = some (.int .i64 zb)) :
    Calls Try.prog 88 #[.int .i64 A, .int .i64 B, .pointer (some ⟨b0, 0, none⟩)] W fun e w' => e = .returned (.int .i64 (cmpZ zb za)) ∧ ∃ m, w' = W.drewN m := by
  have c := fun n => cmpZ_any zb za (W.drewN n)
  have hw1 : IntKind.i64.wrap (A - 1) = (a : Int) := by rw [hA, Int.add_sub_cancel]; exact IntWalk.i64_in _ (by omega)
  have hw2 : IntKind.i64.wrap (B - 1) = (b : Int) := by rw [hB, Int.add_sub_cancel]; exact IntWalk.i64_in _ (by omega)
  have h1 : (a : Int) < 9 := by omega
  have h2 : (b : Int) < 9 := by omega
  have h3 : (0 : Int) ≤ (a : Int) := by omega
  have h4 : (0 : Int) ≤ (b : Int) := by omega
  have HC := Lib.hid c
  clear hA hB c
  go_enter Try.func88, Try.ntmps88
  go_wp2_with fail
  go_quiet ((go_at_call 89; with_reducible exact quietL (HC.out _)))
  go_wp2
  go_ret
  exact ⟨rfl, _, rfl⟩

end Go.Proofs.Ytieongcagkfedaa
