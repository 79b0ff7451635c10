import Derived.Test.YtmlikchhkblohaaF10
import Derived.Test.YtmlikchhkblohaaMF
import Derived.Test.YtmlikchhkblohaaU20
namespace Go.Pan
open Go Go.RowKit
theorem len_mLongestTop (n : Int) : (mLongest n).length ≤ 1048576 := len_mLongest n
theorem ltL_lex {q r : List Int} (h : lexLt q r) : ltL q r = true := by
  obtain ⟨p, x, y, u, v, rfl, rfl, hxy⟩ := h
  induction p with
  | nil => rw [List.nil_append, List.nil_append, ltL_cons]; simp [hxy]
  | cons a p ih => rw [List.cons_append, List.cons_append, ltL_cons, ih]; simp
theorem lexLt_pad {q r : List Int} (h : lexLt q r) : lexLt (pad9 q) (pad9 r) := by
  obtain ⟨p, x, y, u, v, rfl, rfl, hxy⟩ := h
  exact ⟨p, x, y, _, _, by unfold pad9; rw [List.append_assoc, List.cons_append], by unfold pad9; rw [List.append_assoc, List.cons_append], hxy⟩
theorem minTo_le {L : List (List Int)} : ∀ k, 1 ≤ k → k ≤ L.length → ∀ x ∈ L.take k, ltL (pad9 x) (pad9 (minTo L k)) = false
  | 0, h, _ => by omega
  | k + 1, _, h => fun x hx => by
    by_cases hk : k = 0
    · subst hk
      cases L with
      | nil => simp at h
      | cons a t => simp at hx; subst hx; rw [minTo_one]; exact ltL_irrefl _
    · have ih := minTo_le (L := L) k (by omega) (by omega)
      rw [List.take_succ_eq_append_getElem (show k < L.length by omega)] at hx
      rw [minTo_succ (L := L) (k := k) (by omega) (by omega)]
      obtain ⟨y, hy⟩ : ∃ y, minTo L k = y := ⟨_, rfl⟩
      obtain ⟨z, hz⟩ : ∃ z, L[k] = z := ⟨_, rfl⟩
      rw [hy] at ih ⊢
      rw [hz] at hx ⊢
      unfold minS
      cases hd : decide (cmpL (pad9 z) (pad9 y) < 0) with
      | true =>
        rw [if_pos rfl]
        have hzy : ltL (pad9 z) (pad9 y) = true := hd
        rcases List.mem_append.1 hx with hx | hx
        · cases hxz : ltL (pad9 x) (pad9 z) with
          | false => rfl
          | true =>
            have h1 := ltL_trans _ _ _ hxz hzy
            rw [ih x hx] at h1
            cases h1
        · simp at hx; subst hx; exact ltL_irrefl _
      | false =>
        rw [if_neg Bool.false_ne_true]
        rcases List.mem_append.1 hx with hx | hx
        · exact ih x hx
        · simp at hx; subst hx; exact hd
theorem best_min {n : Nat} (h1 : 1 ≤ n) (h9 : n ≤ 9) (D : Nat) (hD : (allC (allL n)).1.length = D + 1) : lvl D (homesL n) ≠ [] ∧ minTo (lvl D (homesL n)) (lvl D (homesL n)).length = (allC (allL n)).2 := by
  obtain ⟨t0, ht0⟩ := allL_head n
  obtain ⟨pre, q, post, e, hq, hb, hpre⟩ := (allC_is (allL n)).2.2 (by rw [ht0]; simp)
  rw [hD] at hq hpre
  have hqa : q ∈ allL n := by rw [e]; simp
  have hqg := allL_good h1 h9 hqa
  have hql : q ∈ lvl D (homesL n) := (mem_lvl_home h1 h9).2 ⟨hqg.1, hqg.2, by omega⟩
  have hne : lvl D (homesL n) ≠ [] := fun h => by rw [h] at hql; cases hql
  have hpos : 1 ≤ (lvl D (homesL n)).length := List.length_pos_iff.2 hne
  refine ⟨hne, ?_⟩
  rw [hb]
  have hin := minTo_in hne _ hpos (Nat.le_refl _)
  have hle := minTo_le (L := lvl D (homesL n)) _ hpos (Nat.le_refl _) q (by rw [List.take_length]; exact hql)
  obtain ⟨y, hy⟩ : ∃ y, minTo (lvl D (homesL n)) (lvl D (homesL n)).length = y := ⟨_, rfl⟩
  rw [hy] at hin hle ⊢
  have hym := (mem_lvl_home h1 h9).1 hin
  have hya := (mem_allL h1 h9).2 ⟨hym.1, hym.2.1⟩
  rw [e] at hya
  rcases List.mem_append.1 hya with h | h
  · have := hpre y h
    omega
  · rcases List.mem_cons.1 h with h | h
    · exact h
    · exfalso
      have hlex := allL_lex n
      rw [e] at hlex
      have := (List.pairwise_cons.1 (List.pairwise_append.1 hlex).2.1).1 y h
      rw [ltL_lex (lexLt_pad this)] at hle
      cases hle

end Go.Pan

namespace Go.Proofs.Ytmlikchhkblohaa
open Go Go.RowKit Go.Pan

set_option maxHeartbeats 4000000 in
theorem LongestTop_any (n : Int) (w : World) :
    Calls Try.prog 44 #[.int .i64 n] w fun e w' => ∃ r, e = .returned (.tuple #[r, .int .i64 (mMostSteps n), .bool (inB n 1 8)]) ∧ OwnI w' r (mLongest n) ∧ From w.heap.size r ∧ Below w.heap.size w w' := by
  cases hi : inB n 1 8 with
  | true =>
    obtain ⟨m, hm⟩ : ∃ m : Nat, n = (m : Int) := ⟨n.toNat, by have := inB_iff.1 hi; omega⟩
    subst hm
    have hb := inB_iff.1 hi
    have h1 : 1 ≤ m := by omega
    have h9 : m ≤ 9 := by omega
    have cL := longestLevel_any m w hi
    have hv : lvN (m : Int) = (allC (allL m)).1.length := by unfold lvN; rw [if_pos hi]; exact lev_homes h1 h9
    have hp := all_pos (n := m)
    have HM := Lib.hid (show mLongest (m : Int) = (allC (allL m)).2 from if_pos hi)
    obtain ⟨D, hD⟩ : ∃ D, (allC (allL m)).1.length = D + 1 := ⟨(allC (allL m)).1.length - 1, by omega⟩
    have hbm := best_min h1 h9 D hD
    have hbi := best_in h1 h9
    rw [hv, hD, show D + 1 - 1 = D from rfl, show (m : Int).toNat = m from rfl] at cL
    have hlg := lvl_good D (homes_good h1 h9)
    have hfew := stacks_few hlg (lvl_nodup D (homes_good h1 h9) homes_nodup)
    have H9 := Lib.hid (show ∀ q ∈ lvl D (homesL m), q.length ≤ 9 from fun q hq => by have := (hlg q hq).2; omega)
    obtain ⟨L, hL⟩ : ∃ L, lvl D (homesL m) = L := ⟨_, rfl⟩
    rw [hL] at cL hbm hfew H9
    obtain ⟨b, hbb⟩ : ∃ b, (allC (allL m)).2 = b := ⟨_, rfl⟩
    rw [hbb] at hbm hbi HM
    have HBM := Lib.hid hbm
    have hbl : b.length = m := hbi.2
    obtain ⟨M, hMs⟩ : ∃ M, mMostSteps (m : Int) = M := ⟨_, rfl⟩
    rw [hMs] at cL ⊢
    clear hi hb h1 hv hp hD hbm hbi hlg hL hbb hMs
    go_enter Try.func44, Try.ntmps44
    go_wp2_with fail
    refine cL.mono ?_
    rintro e w1 ⟨r, rfl, ho, hb1⟩
    have cM := MinFunc_any r L w1 ho HBM.out.1 H9 hfew
    rw [HBM.out.2] at cM
    clear cL ho
    go_wp2_with fail
    refine cM.mono ?_
    rintro e w2 ⟨rfl, hb2⟩
    clear cM
    go_wp2_with fail
    refine (list_any b m _ hbl h9).mono ?_
    rintro e w3 ⟨r3, rfl, ho3, hf3, hb3⟩
    have hb12 := hb1.trans (hb2.mono hb1.size)
    have HO := Lib.hid ho3
    have hB := hb12.trans (hb3.mono hb12.size)
    have hf := hf3.mono hb12.size
    clear ho3 hbl
    go_wp2
    go_ret3
    exact ⟨_, rfl, by rw [HM.out]; exact HO.out, hf, hB⟩
  | false =>
    have cL := longestLevel_no n w hi
    have HM := Lib.hid (show mLongest n = [] from if_neg (by rw [hi]; exact Bool.false_ne_true))
    have HS := Lib.hid (show mMostSteps n = 0 from if_neg (by rw [hi]; exact Bool.false_ne_true))
    clear hi
    go_enter Try.func44, Try.ntmps44
    go_wp2_with fail
    refine cL.mono ?_
    rintro e w1 ⟨rfl, hb1⟩
    clear cL
    go_wp2
    go_ret3
    exact ⟨_, by rw [HS.out]; rfl, by rw [HM.out]; exact OwnI.nil _, From.nil _ _ _, hb1⟩

end Go.Proofs.Ytmlikchhkblohaa

