import Derived.Test.YtmlikchhkblohaaS25
import Derived.Test.YtmlikchhkblohaaS21
import Derived.Test.YtmlikchhkblohaaGE
namespace Go.Pan
theorem signN_snoc (l : List Int) (x : Int) : signN (l ++ [x]) = 2 * signN l + if x < 0 then 1 else 0 := by
  induction l with
  | nil => simp [signN]
  | cons y l ih =>
    simp only [List.cons_append, signN, ih, List.length_append, List.length_cons, List.length_nil]
    rw [Nat.pow_succ]
    split <;> omega
theorem signN_step (xs : List Int) (k : Nat) (h : k < xs.length) : signN (xs.take (k + 1)) = 2 * signN (xs.take k) + if xs[k] < 0 then 1 else 0 := by
  rw [List.take_succ_eq_append_getElem h, signN_snoc]
theorem signN_few (xs : List Int) (k : Nat) (h : xs.length ≤ 9) : signN (xs.take k) ≤ 512 := by
  have h1 := signN_lt (xs.take k)
  have h2 : (2 : Nat) ^ (xs.take k).length ≤ 2 ^ 9 := Nat.pow_le_pow_right (by omega) (by rw [List.length_take]; omega)
  omega

end Go.Pan

namespace Go.Proofs.Ytmlikchhkblohaa
open Go Go.RowKit Go.Pan

set_option maxHeartbeats 800000 in
set_option maxRecDepth 100000 in
theorem buRank_any (v : Value) (xs : List Int) (w : World) (hv : OwnI w v xs) (h9 : xs.length ≤ 9) (hb : Hid (∀ x ∈ xs, -1048576 ≤ x ∧ x ≤ 1048576)) :
    Calls Try.prog 119 #[v] w fun e w' => e = .returned (.int .i64 (brank xs : Nat)) ∧ Below w.heap.size w w' := by
  obtain ⟨ad, cap, rfl, hc, _, _⟩ := hv.shape
  have hn : xs.length ≤ 1048576 := by omega
  have c := buForget_any _ xs w hv hn hb
  have ha9 : (absL xs).length ≤ 9 := by rw [absL_length]; exact h9
  have hrb : rankL (absL xs) ≤ 362880 := by
    have h1 := rankL_lt (absL xs)
    have h2 := fact_mono ha9
    have h3 : fact 9 = 362880 := rfl
    omega
  have hpw : (2 : Nat) ^ xs.length ≤ 512 := by
    have h2 : (2 : Nat) ^ xs.length ≤ 2 ^ 9 := Nat.pow_le_pow_right (by omega) h9
    omega
  have hm := Nat.mul_le_mul hrb hpw
  have HS := Lib.hid (show ((brank xs : Nat) : Int) = ((rankL (absL xs) : Nat) : Int) * 2 ^ xs.length + (signN xs : Nat) by unfold brank; simp)
  have hp0 : (0 : Int) ≤ ((rankL (absL xs) : Nat) : Int) * 2 ^ xs.length := Int.mul_nonneg (by omega) (Int.le_of_lt (Int.pow_pos (by decide)))
  have hp1 : ((rankL (absL xs) : Nat) : Int) * 2 ^ xs.length ≤ (185794560 : Int) := by
    have h : (((rankL (absL xs) * 2 ^ xs.length : Nat)) : Int) = ((rankL (absL xs) : Nat) : Int) * 2 ^ xs.length := by simp
    omega
  clear hrb hpw hm
  go_enter Try.func119, Try.ntmps119
  go_wp2
  go_loop [3, 5, 8] (fun s _ i => ∃ k : Nat, k ≤ xs.length ∧ i = .int .i64 k ∧ s = .int .i64 (signN (xs.take k) : Nat)) (fun _ _ i => xs.length - (intOf i).toNat)
  case atStart => exact ⟨0, Nat.zero_le _, rfl, rfl⟩
  case round =>
    obtain ⟨k, hk, rfl, rfl⟩ := hrel
    have hsf := signN_few xs k h9
    by_cases hlt : k < xs.length
    · obtain ⟨g, off, rfl, hgl, hcell, hfz⟩ := hv.at (by omega)
      have hck := hcell k (by omega)
      rw [List.getElem?_map, List.getElem?_eq_getElem hlt] at hck
      have HT := Lib.hid (signN_step xs k hlt)
      obtain ⟨x, hx⟩ : ∃ x, xs[k] = x := ⟨_, rfl⟩
      rw [hx] at hck HT
      clear hcell hfz hv hx c
      by_cases hx0 : x < 0
      · have HN := Lib.hid (show ((signN (xs.take (k + 1)) : Nat) : Int) = (signN (xs.take k) : Nat) * 2 + 1 by rw [HT.out, if_pos hx0]; omega)
        go_wp2
        go_round
        case rel => exact ⟨k + 1, by omega, by go_num, by rw [HN.out]⟩
        case measure => simp [intOf] <;> omega
      · have HN := Lib.hid (show ((signN (xs.take (k + 1)) : Nat) : Int) = (signN (xs.take k) : Nat) * 2 by rw [HT.out, if_neg hx0]; omega)
        have hx0' : 0 ≤ x := by omega
        go_wp2
        go_round
        case rel => exact ⟨k + 1, by omega, by go_num, by rw [HN.out]⟩
        case measure => simp [intOf] <;> omega
    · obtain rfl : k = xs.length := by omega
      have HA := Lib.hid (show xs.take xs.length = xs from List.take_length)
      go_wp2_with fail
      refine c.mono ?_
      rintro e w1 ⟨r, rfl, ho, hf, hb1⟩
      clear c
      go_wp2_with fail
      refine (faRank_any _ _ w1 ho ha9).mono ?_
      rintro e w2 ⟨rfl, rfl⟩
      rw [HA.out] at hsf
      go_wp2
      go_ret
      exact ⟨by rw [HS.out]; rfl, hb1⟩

theorem buFew_any (v : Value) (xs : List Int) (w : World) (hv : OwnI w v xs) (hn : xs.length ≤ 1048576) :
    Calls Try.prog 117 #[v] w fun e w' => e = .returned (.bool (bfewB xs)) ∧ Below w.heap.size w w' := by
  obtain ⟨ad, cap, rfl, hc, _, _⟩ := hv.shape
  have c := buGood_any _ xs w hv hn
  cases hg : burntB xs with
  | true =>
    have HF := Lib.hid (show bfewB xs = decide ((xs.length : Int) ≤ 5) by
      have h1 := (burntB_iff.1 hg).len
      unfold bfewB inB
      rw [hg]
      simp
      omega)
    rw [hg] at c
    clear hg
    go_enter Try.func117, Try.ntmps117
    go_wp2_with fail
    refine c.mono ?_
    rintro e w1 ⟨rfl, hb⟩
    clear c
    go_wp2
    go_ret
    exact ⟨by rw [HF.out]; rfl, hb⟩
  | false =>
    have HF := Lib.hid (show bfewB xs = false by unfold bfewB; rw [hg]; rfl)
    rw [hg] at c
    clear hg
    go_enter Try.func117, Try.ntmps117
    go_wp2_with fail
    refine c.mono ?_
    rintro e w1 ⟨rfl, hb⟩
    clear c
    go_wp2
    go_ret
    exact ⟨by rw [HF.out]; rfl, hb⟩

end Go.Proofs.Ytmlikchhkblohaa

