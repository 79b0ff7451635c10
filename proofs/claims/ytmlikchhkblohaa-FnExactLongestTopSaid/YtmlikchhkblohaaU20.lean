import Derived.Test.YtmlikchhkblohaaU19
namespace Go.Pan
open Go Go.RowKit
theorem best_in {n : Nat} (h1 : 1 ≤ n) (h9 : n ≤ 9) : (allC (allL n)).2 ∈ allL n ∧ (allC (allL n)).2.length = n := by
  obtain ⟨t0, ht0⟩ := allL_head n
  obtain ⟨pre, q, post, e, hq, hb, _⟩ := (allC_is (allL n)).2.2 (by rw [ht0]; simp)
  have hm : q ∈ allL n := by rw [e]; simp
  rw [hb]
  exact ⟨hm, (allL_good h1 h9 hm).2⟩
theorem len_mLongest (n : Int) : (mLongest n).length ≤ 1048576 := by
  unfold mLongest
  split
  · rename_i h
    have hb := inB_iff.1 h
    have := (best_in (n := n.toNat) (by omega) (by omega)).2
    omega
  · simp

end Go.Pan

namespace Go.Proofs.Ytmlikchhkblohaa
open Go Go.RowKit Go.Pan

theorem sCountBySteps_any (n : Int) (w : World) :
    Calls Try.prog 49 #[.int .i64 n] w fun e w' => ∃ r, e = .returned (.tuple #[r, .bool (inB n 1 8)]) ∧ OwnI w' r (mCountBySteps n) ∧ From w.heap.size r ∧ Below w.heap.size w w' := by
  have c := l1In_any n 1 8 w
  cases hi : inB n 1 8 with
  | true =>
    obtain ⟨m, hm⟩ : ∃ m : Nat, n = (m : Int) := ⟨n.toNat, by have := inB_iff.1 hi; omega⟩
    subst hm
    have hb := inB_iff.1 hi
    have HM := Lib.hid (show mCountBySteps (m : Int) = (allC (allL m)).1 from if_pos hi)
    have h1 : 1 ≤ m := by omega
    have h8 : m ≤ 8 := by omega
    rw [hi] at c
    clear hi hb
    go_enter Try.func49, Try.ntmps49
    go_wp2_with fail
    refine c.mono ?_
    rintro e w1 ⟨rfl, rfl⟩
    clear c
    go_wp2_with fail
    refine (toAll_any m _ h1 h8).mono ?_
    rintro e w2 ⟨r1, r2, rfl, ho1, ho2, hf1, hf2, hb⟩
    clear ho2
    go_wp2
    go_ret2
    exact ⟨_, rfl, by rw [HM.out]; exact ho1, hf1, hb⟩
  | false =>
    have HM := Lib.hid (show mCountBySteps n = [] from if_neg (by rw [hi]; exact Bool.false_ne_true))
    rw [hi] at c
    clear hi
    go_enter Try.func49, Try.ntmps49
    go_wp2_with fail
    refine c.mono ?_
    rintro e w1 ⟨rfl, rfl⟩
    clear c
    go_wp2
    go_ret2
    exact ⟨_, rfl, by rw [HM.out]; exact OwnI.nil _, From.nil _ _ _, Below.refl _ _⟩

theorem sCountLongest_any (n : Int) (w : World) :
    Calls Try.prog 47 #[.int .i64 n] w fun e w' => e = .returned (.tuple #[.int .i64 (mCountLongest n), .bool (inB n 1 8)]) ∧ Below w.heap.size w w' := by
  have c := l1In_any n 1 8 w
  cases hi : inB n 1 8 with
  | true =>
    obtain ⟨m, hm⟩ : ∃ m : Nat, n = (m : Int) := ⟨n.toNat, by have := inB_iff.1 hi; omega⟩
    subst hm
    have hb := inB_iff.1 hi
    have HM := Lib.hid (show mCountLongest (m : Int) = (allC (allL m)).1.getD ((allC (allL m)).1.length - 1) 0 from if_pos hi)
    have h1 : 1 ≤ m := by omega
    have h8 : m ≤ 8 := by omega
    have hp := all_pos (n := m)
    have h55 := (allC_bd (allL m)).1 (fun q hq => (allL_good h1 (by omega) hq).1)
    obtain ⟨C, hC⟩ : ∃ C, (allC (allL m)).1 = C := ⟨_, rfl⟩
    have HC := Lib.hid hC
    rw [hC] at hp h55 HM
    obtain ⟨d, hd⟩ : ∃ d, C.length = d + 1 := ⟨C.length - 1, by omega⟩
    have HD := Lib.hid hd
    have hd55 : d ≤ 54 := by omega
    rw [hi] at c
    clear hi hb hC hp h55 hd
    go_enter Try.func47, Try.ntmps47
    go_wp2_with fail
    refine c.mono ?_
    rintro e w1 ⟨rfl, rfl⟩
    clear c
    go_wp2_with fail
    refine (toAll_any m _ h1 h8).mono ?_
    rintro e w2 ⟨r1, r2, rfl, ho1, ho2, hf1, hf2, hb⟩
    rw [HC.out] at ho1
    clear ho2
    obtain ⟨ad, cap, rfl, hcc, _, _⟩ := ho1.shape
    obtain ⟨g, off, rfl, hgl, hcell, hfz⟩ := ho1.at (by have := HD.out; omega)
    have hck := hcell d (by rw [HD.out]; omega)
    have hfd := hfz (off + d)
    rw [List.getElem?_map, List.getElem?_eq_getElem (by rw [HD.out]; omega), Option.map_some, ← getD_eq (by rw [HD.out]; omega)] at hck
    obtain ⟨x, hx⟩ : ∃ x, C.getD d 0 = x := ⟨_, rfl⟩
    rw [hx] at hck
    have HX := Lib.hid hx
    rw [HD.out]
    clear hcell hx ho1 hfz hcc
    go_wp2
    go_ret2
    exact ⟨by rw [HM.out, HD.out, show d + 1 - 1 = d from rfl, HX.out]; rfl, hb⟩
  | false =>
    have HM := Lib.hid (show mCountLongest n = 0 from if_neg (by rw [hi]; exact Bool.false_ne_true))
    rw [hi] at c
    clear hi
    go_enter Try.func47, Try.ntmps47
    go_wp2_with fail
    refine c.mono ?_
    rintro e w1 ⟨rfl, rfl⟩
    clear c
    go_wp2
    go_ret2
    exact ⟨by rw [HM.out]; rfl, Below.refl _ _⟩

theorem sLongestTop_any (n : Int) (w : World) :
    Calls Try.prog 43 #[.int .i64 n] w fun e w' => ∃ r, e = .returned (.tuple #[r, .int .i64 (mMostSteps n), .bool (inB n 1 8)]) ∧ OwnI w' r (mLongest n) ∧ From w.heap.size r ∧ Below w.heap.size w w' := by
  have c := l1In_any n 1 8 w
  cases hi : inB n 1 8 with
  | true =>
    obtain ⟨m, hm⟩ : ∃ m : Nat, n = (m : Int) := ⟨n.toNat, by have := inB_iff.1 hi; omega⟩
    subst hm
    have hb := inB_iff.1 hi
    have HM := Lib.hid (show mLongest (m : Int) = (allC (allL m)).2 from if_pos hi)
    have HS := Lib.hid (show mMostSteps (m : Int) = ((allC (allL m)).1.length : Int) - 1 from if_pos hi)
    have h1 : 1 ≤ m := by omega
    have h8 : m ≤ 8 := by omega
    have h55 := (allC_bd (allL m)).1 (fun q hq => (allL_good h1 (by omega) hq).1)
    obtain ⟨C, hC⟩ : ∃ C, (allC (allL m)).1 = C := ⟨_, rfl⟩
    have HC := Lib.hid hC
    rw [hC] at h55 HS
    obtain ⟨d, hd⟩ : ∃ d, C.length = d := ⟨_, rfl⟩
    rw [hd] at h55 HS
    have HD := Lib.hid hd
    rw [hi] at c
    clear hi hb hC hd
    go_enter Try.func43, Try.ntmps43
    go_wp2_with fail
    refine c.mono ?_
    rintro e w1 ⟨rfl, rfl⟩
    clear c
    go_wp2_with fail
    refine (toAll_any m _ h1 h8).mono ?_
    rintro e w2 ⟨r1, r2, rfl, ho1, ho2, hf1, hf2, hb⟩
    rw [HC.out] at ho1
    obtain ⟨ad, cap, rfl, hcc, _, _⟩ := ho1.shape
    rw [HD.out]
    have HO2 := Lib.hid ho2
    clear ho1 ho2 hcc
    go_wp2
    go_ret3
    exact ⟨_, by rw [HS.out]; rfl, by rw [HM.out]; exact HO2.out, hf2, hb⟩
  | false =>
    have HM := Lib.hid (show mLongest n = [] from if_neg (by rw [hi]; exact Bool.false_ne_true))
    have HS := Lib.hid (show mMostSteps n = 0 from if_neg (by rw [hi]; exact Bool.false_ne_true))
    rw [hi] at c
    clear hi
    go_enter Try.func43, Try.ntmps43
    go_wp2_with fail
    refine c.mono ?_
    rintro e w1 ⟨rfl, rfl⟩
    clear c
    go_wp2
    go_ret3
    exact ⟨_, by rw [HS.out]; rfl, by rw [HM.out]; exact OwnI.nil _, From.nil _ _ _, Below.refl _ _⟩

end Go.Proofs.Ytmlikchhkblohaa

