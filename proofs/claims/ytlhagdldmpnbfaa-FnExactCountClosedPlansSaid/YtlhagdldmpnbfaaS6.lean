import Derived.Test.YtlhagdldmpnbfaaS5
namespace Go.Proofs.Ytlhagdldmpnbfaa
open Go Go.RowKit Go.Pan

set_option maxHeartbeats 400000 in
theorem stBring_any (v : Value) (xs : List Int) (x k : Int) (w : World) (hv : OwnI w v xs) (hn : xs.length ≤ 1048576) (hx : 1 ≤ placeL xs x) (hk : 1 ≤ k) :
    Calls Try.prog 117 #[v, .int .i64 x, .int .i64 k] w fun e w' => ∃ r, e = .returned r ∧ OwnI w' r (bringL xs x k) ∧ From w.heap.size r ∧ Below w.heap.size w w' := by
  obtain ⟨p, hp⟩ : ∃ p, p = placeL xs x := ⟨_, rfl⟩
  have c := stPlace_any v xs x
  rw [← hp] at c hx
  have HB := Lib.hid (show bringL xs x k = if p = k then [] else noOne [p, k] by unfold bringL; rw [← hp])
  clear hp
  by_cases h1 : p = k
  · have hq : (p == k) = true := by simp [h1]
    have H := Lib.hid (show bringL xs x k = [] by rw [HB.out, if_pos h1])
    clear h1 HB
    go_enter Try.func117, Try.ntmps117
    go_wp2_with fail
    refine (c _ hv hn).mono ?_
    rintro e w1 ⟨rfl, hb⟩
    go_wp2
    go_ret
    exact ⟨_, rfl, by rw [H.out]; exact OwnI.nil _, From.nil _ _ _, hb⟩
  · have hq : (p == k) = false := by simp [h1]
    have H0 := Lib.hid (show bringL xs x k = noOne [p, k] by rw [HB.out, if_neg h1])
    by_cases h2 : 1 < p
    · by_cases h3 : 1 < k
      · have H := Lib.hid (show bringL xs x k = [p, k] by rw [H0.out]; simp [noOne, show p ≠ 1 by omega, show k ≠ 1 by omega])
        clear h1 HB H0
        go_enter Try.func117, Try.ntmps117
        go_wp2_with fail
        refine (c _ hv hn).mono ?_
        rintro e w1 ⟨rfl, hb⟩
        go_wp2_with (at_builtin; refine wpList_app1 Try.intSl rfl _ _ rfl (.slice none 0 0) [] rfl (OwnI.nil _) w.heap.size (From.nil _ _ _) w1.heap.size p rfl ?c1 w (hb.alloc hb.size _) ?c2 (by simp) ?_)
        case c1 => simp [go_sem]
        case c2 => simp; exact Nat.le_succ_of_le hb.size
        intro v1 w2 ho1 hf1 hb1 _
        have hs1 := hb1.size
        go_wp2_with (at_builtin; refine wpList_app1 Try.intSl rfl _ _ rfl v1 ([] ++ [p]) rfl (ho1.alloc _) w.heap.size hf1 w2.heap.size k rfl ?d1 w (hb1.alloc hs1 _) ?d2 (by simp) ?_)
        case d1 => simp [go_sem]
        case d2 => simp; exact Nat.le_succ_of_le hs1
        intro v2 w3 ho2 hf2 hb2 _
        go_wp2
        go_ret
        exact ⟨_, rfl, by rw [H.out]; exact ho2, hf2, hb2⟩
      · have H := Lib.hid (show bringL xs x k = [p] by rw [H0.out]; simp [noOne, show p ≠ 1 by omega, show k = 1 by omega])
        have h3' : k ≤ 1 := by omega
        clear h1 HB H0 h3
        go_enter Try.func117, Try.ntmps117
        go_wp2_with fail
        refine (c _ hv hn).mono ?_
        rintro e w1 ⟨rfl, hb⟩
        go_wp2_with (at_builtin; refine wpList_app1 Try.intSl rfl _ _ rfl (.slice none 0 0) [] rfl (OwnI.nil _) w.heap.size (From.nil _ _ _) w1.heap.size p rfl ?c1 w (hb.alloc hb.size _) ?c2 (by simp) ?_)
        case c1 => simp [go_sem]
        case c2 => simp; exact Nat.le_succ_of_le hb.size
        intro v1 w2 ho1 hf1 hb1 _
        go_wp2
        go_ret
        exact ⟨_, rfl, by rw [H.out]; exact ho1, hf1, hb1⟩
    · have h2' : p ≤ 1 := by omega
      have h3 : 1 < k := by omega
      have H := Lib.hid (show bringL xs x k = [k] by rw [H0.out]; simp [noOne, show p = 1 by omega, show k ≠ 1 by omega])
      clear h1 HB H0 h2
      go_enter Try.func117, Try.ntmps117
      go_wp2_with fail
      refine (c _ hv hn).mono ?_
      rintro e w1 ⟨rfl, hb⟩
      go_wp2_with (at_builtin; refine wpList_app1 Try.intSl rfl _ _ rfl (.slice none 0 0) [] rfl (OwnI.nil _) w.heap.size (From.nil _ _ _) w1.heap.size k rfl ?c1 w (hb.alloc hb.size _) ?c2 (by simp) ?_)
      case c1 => simp [go_sem]
      case c2 => simp; exact Nat.le_succ_of_le hb.size
      intro v1 w2 ho1 hf1 hb1 _
      go_wp2
      go_ret
      exact ⟨_, rfl, by rw [H.out]; exact ho1, hf1, hb1⟩

theorem okBring_iff {xs : List Int} {x k : Int} : okBring xs x k = true ↔ Go.Pan.Good xs ∧ (1 ≤ x ∧ x ≤ xs.length) ∧ 1 ≤ k ∧ k ≤ xs.length := by
  simp only [okBring, okPlace, Bool.and_eq_true, goodB_iff, inB_iff, and_assoc]

end Go.Proofs.Ytlhagdldmpnbfaa

