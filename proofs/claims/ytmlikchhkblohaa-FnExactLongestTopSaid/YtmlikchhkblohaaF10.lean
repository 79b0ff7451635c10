import Derived.Test.YtmlikchhkblohaaF9
import Derived.Test.YtmlikchhkblohaaI2
namespace Go.Pan
open Go Go.RowKit
/-- how many levels -/
def lvN (n : Int) : Nat := if inB n 1 8 = true then levF 60 (homesL n.toNat) else 0
def lenL (H : List (List Int)) (i : Nat) : Int := ((lvl i H).length : Int)
def cntTo (H : List (List Int)) (D k : Nat) : List Int := (List.range k).map (lenL H) ++ List.replicate (D - k) 0
theorem cntTo_length {H : List (List Int)} {D k : Nat} (h : k ≤ D) : (cntTo H D k).length = D := by simp [cntTo]; omega
theorem cntTo_zero (H : List (List Int)) (D : Nat) : cntTo H D 0 = List.replicate D 0 := by simp [cntTo]
theorem cntTo_set {H : List (List Int)} {D k : Nat} (h : k < D) : (cntTo H D k).set k (lenL H k) = cntTo H D (k + 1) := by
  unfold cntTo
  obtain ⟨d, hd⟩ : ∃ d, D - k = d + 1 := ⟨D - k - 1, by omega⟩
  rw [hd, show D - (k + 1) = d by omega, List.range_succ, List.map_append, List.replicate_succ, List.set_append]
  simp
theorem lvN_le (n : Int) : lvN n ≤ 60 := by
  unfold lvN
  split
  · exact levF_le 60 _
  · omega
theorem mCount_is (n : Int) : mCountBySteps n = cntTo (homesL n.toNat) (lvN n) (lvN n) := by
  unfold mCountBySteps lvN
  cases hi : inB n 1 8 with
  | true =>
    have hb := inB_iff.1 hi
    have h1 : 1 ≤ n.toNat := by omega
    have h9 : n.toNat ≤ 9 := by omega
    rw [if_pos rfl, if_pos rfl, lev_homes h1 h9]
    apply List.ext_getElem?
    intro i
    by_cases hl : i < (allC (allL n.toNat)).1.length
    · have hs := steps_at h1 h9 (d := i)
      rw [getD_eq hl] at hs
      rw [List.getElem?_eq_getElem hl, hs]
      simp [cntTo, lenL, hl]
    · rw [List.getElem?_eq_none (by omega), List.getElem?_eq_none (by rw [cntTo_length (Nat.le_refl _)]; omega)]
  | false => simp [cntTo]
theorem mLong_is {n : Int} (hi : inB n 1 8 = true) : mCountLongest n = lenL (homesL n.toNat) (lvN n - 1) ∧ 1 ≤ lvN n ∧ mMostSteps n = (lvN n : Int) - 1 := by
  have hb := inB_iff.1 hi
  have h1 : 1 ≤ n.toNat := by omega
  have h9 : n.toNat ≤ 9 := by omega
  have hv : lvN n = (allC (allL n.toNat)).1.length := by unfold lvN; rw [if_pos hi, lev_homes h1 h9]
  refine ⟨?_, by rw [hv]; exact all_pos, by rw [hv]; exact if_pos hi⟩
  unfold mCountLongest
  rw [if_pos hi, steps_at h1 h9, hv]
  rfl

end Go.Pan

namespace Go.Proofs.Ytmlikchhkblohaa
open Go Go.RowKit Go.Pan

theorem stepLevelsI_any (n : Int) (w : World) :
    Calls Try.prog 99 #[.int .i64 n] w fun e w' => ∃ r hs, e = .returned (.tuple #[r, .bool (inB n 1 8)]) ∧ LvOk w' r hs (homesL n.toNat) (lvN n) ∧ Below w.heap.size w w' := by
  cases hi : inB n 1 8 with
  | true =>
    obtain ⟨m, hm⟩ : ∃ m : Nat, n = (m : Int) := ⟨n.toNat, by have := inB_iff.1 hi; omega⟩
    subst hm
    have hb := inB_iff.1 hi
    have hv : lvN (m : Int) = levF 60 (homesL m) := if_pos hi
    rw [hv]
    exact stepLevels_any m w (by omega) (by omega)
  | false =>
    have hv : lvN n = 0 := if_neg (by rw [hi]; exact Bool.false_ne_true)
    have HV := Lib.hid hv
    have hno : ¬ (1 ≤ n ∧ n ≤ 8) := fun h => by rw [inB_iff.2 h] at hi; cases hi
    clear hi hv
    go_enter Try.func99, Try.ntmps99
    by_cases hq1 : n < 1
    · clear hno
      go_wp2
      go_ret2
      first | exact ⟨_, [], rfl, by rw [HV.out]; exact LvOk.nil _ _, Below.refl _ _⟩ | exact ⟨_, rfl, ⟨[], by rw [HV.out]; exact LvOk.nil _ _⟩, Below.refl _ _⟩
    · have hq8 : (8 : Int) < n := by omega
      clear hno
      go_wp2
      go_ret2
      first | exact ⟨_, [], rfl, by rw [HV.out]; exact LvOk.nil _ _, Below.refl _ _⟩ | exact ⟨_, rfl, ⟨[], by rw [HV.out]; exact LvOk.nil _ _⟩, Below.refl _ _⟩

set_option maxHeartbeats 4000000 in
set_option maxRecDepth 100000 in
theorem CountBySteps_any (n : Int) (w : World) :
    Calls Try.prog 50 #[.int .i64 n] w fun e w' => ∃ r, e = .returned (.tuple #[r, .bool (inB n 1 8)]) ∧ OwnI w' r (mCountBySteps n) ∧ From w.heap.size r ∧ Below w.heap.size w w' := by
  have hM := mCount_is n
  have hd60 := lvN_le n
  obtain ⟨H, hH⟩ : ∃ H, homesL n.toNat = H := ⟨_, rfl⟩
  obtain ⟨D, hD⟩ : ∃ D, lvN n = D := ⟨_, rfl⟩
  have cS := stepLevelsI_any n w
  obtain ⟨b, hb⟩ : ∃ b, inB n 1 8 = b := ⟨_, rfl⟩
  rw [hH, hD] at hM cS
  rw [hD] at hd60
  rw [hb] at cS ⊢
  have HM := Lib.hid hM
  obtain ⟨i0, hi, hz0, hz1, hz2⟩ := info_parts Try.info3
  have HI := Lib.hid hi
  have HZ0 := Lib.hid hz0
  have HZ1 := Lib.hid hz1
  have HZ2 := Lib.hid hz2
  clear hM hH hD hb hi hz0 hz1 hz2
  go_enter Try.func50, Try.ntmps50
  go_wp2_with fail
  refine cS.mono ?_
  rintro e w1 ⟨r, hs, rfl, hL, hb1⟩
  obtain ⟨ad, cap, rfl, hcc, _, _⟩ := hL.own.shape
  have HL := Lib.hid hL
  clear cS hL
  go_wp2_with (at_make; refine wpList_make_full _ rfl _ _ 22 rfl w1.heap.size 3 i0 (.int .i64 0) 1 Try.underlying22 HI.out HZ0.out HZ1.out _ _ _ _ D rfl rfl rfl rfl ?b1 ?b2 ?b3 ?_)
  case b1 => rw [HZ2.out]; omega
  case b2 => unfold maxLen; omega
  case b3 => exact Nat.le_refl _
  intro w2 hown hgrow
  have ho0 : OwnI w2 (.slice (some ⟨w1.heap.size, 0, none⟩) D D) (cntTo H D 0) := by rw [cntTo_zero]; exact OwnI.of_made hown
  have hb12 : Below w1.heap.size w1 w2 := (Below.refl _ _).grown hgrow (Nat.le_refl _) (by intro k hk; cases hk)
  have hs0 := hb1.size
  clear hgrow hown
  go_wp2
  go_loopw [7, 8, 19] (fun _ _ i wr => ∃ k : Nat, k ≤ D ∧ i = .int .i64 k ∧ OwnI wr (.slice (some ⟨w1.heap.size, 0, none⟩) D D) (cntTo H D k) ∧ Below w1.heap.size w1 wr) (fun _ _ i _ => D - (intOf i).toNat)
  case atStart => exact ⟨0, Nat.zero_le _, rfl, ho0, hb12⟩
  case round =>
    obtain ⟨k, hk, rfl, ho, hbr⟩ := hrel
    clear ho0 hb12
    by_cases hlt : k < D
    · obtain ⟨g, off, rfl, hgl, hcell, _⟩ := HL.out.own.at (by omega)
      have hkl : k < hs.length := by rw [HL.out.len]; exact hlt
      have hck := hcell k (by omega)
      rw [List.getElem?_eq_getElem hkl] at hck
      have hr := (HL.out.row k _ (List.getElem?_eq_getElem hkl)).1
      obtain ⟨au, cu, hue, _, _, _⟩ := hr.shape
      rw [hue] at hck
      have hc1 := (hbr.cell (p := ⟨g, off + k, none⟩) hgl).trans hck
      obtain ⟨hd, hfd, hst⟩ := OwnI.cellAt ho k (by rw [cntTo_length (by omega)]; exact hlt)
      have hst := hst (lenL H k)
      rw [cntTo_set hlt] at hst
      have HST := Lib.hid hst
      have HB2 := Lib.hid (hbr.setCell (p := ⟨w1.heap.size, k, none⟩) (Nat.le_refl _) (iv (lenL H k)))
      clear hcell hck hkl hr hue ho hbr hst
      go_wp2
      go_roundw
      case rel => exact ⟨k + 1, by omega, by go_num, HST.out, HB2.out⟩
      case measure => simp [intOf] <;> omega
    · obtain rfl : k = D := by omega
      have HO := Lib.hid ho
      have hB := hb1.trans (hbr.mono hs0)
      clear ho hbr
      go_wp2
      go_ret2
      exact ⟨_, rfl, by rw [HM.out]; exact HO.out, From.at _ _ _ _ _ hs0, hB⟩

theorem longestLevel_any (n : Int) (w : World) (hi : inB n 1 8 = true) :
    Calls Try.prog 95 #[.int .i64 n] w fun e w' => ∃ r, e = .returned (.tuple #[r, .int .i64 (mMostSteps n), .bool true]) ∧ Go.Pan.Own w' 9 r (lvl (lvN n - 1) (homesL n.toNat)).length (tws (lvl (lvN n - 1) (homesL n.toNat))) ∧ Below w.heap.size w w' := by
  have hM := mLong_is hi
  have hd60 := lvN_le n
  obtain ⟨H, hH⟩ : ∃ H, homesL n.toNat = H := ⟨_, rfl⟩
  obtain ⟨D, hD⟩ : ∃ D, lvN n = D + 1 := ⟨lvN n - 1, by omega⟩
  have cS := stepLevelsI_any n w
  rw [hH, hD, hi] at cS
  rw [hH, hD]
  have HM := Lib.hid (show mMostSteps n = (D : Int) by rw [hM.2.2, hD]; omega)
  have hd : D ≤ 59 := by omega
  clear hM hH hD hd60 hi
  go_enter Try.func95, Try.ntmps95
  go_wp2_with fail
  refine cS.mono ?_
  rintro e w1 ⟨r, hs, rfl, hL, hb1⟩
  obtain ⟨ad, cap, rfl, hcc, _, _⟩ := hL.own.shape
  obtain ⟨g, off, rfl, hgl, hcell, _⟩ := hL.own.at (by omega)
  have hkl : D < hs.length := by rw [hL.len]; omega
  have hck := hcell D (by omega)
  obtain ⟨u, hu⟩ : ∃ u, hs[D]? = some u := ⟨_, List.getElem?_eq_getElem hkl⟩
  rw [hu] at hck
  have hr := (hL.row D u hu).1
  obtain ⟨au, cu, rfl, _, _, _⟩ := hr.shape
  have HR := Lib.hid hr
  clear hL hcell hr hu hkl cS
  go_wp2
  go_ret3
  exact ⟨_, by rw [HM.out]; rfl, HR.out, hb1⟩
theorem longestLevel_no (n : Int) (w : World) (hi : inB n 1 8 = false) :
    Calls Try.prog 95 #[.int .i64 n] w fun e w' => e = .returned (.tuple #[.slice none 0 0, .int .i64 0, .bool false]) ∧ Below w.heap.size w w' := by
  have cS := stepLevelsI_any n w
  rw [hi] at cS
  clear hi
  go_enter Try.func95, Try.ntmps95
  go_wp2_with fail
  refine cS.mono ?_
  rintro e w1 ⟨r, hs, rfl, hL, hb1⟩
  clear hL cS
  go_wp2
  go_ret3
  exact ⟨rfl, hb1⟩

theorem CountLongest_any (n : Int) (w : World) :
    Calls Try.prog 48 #[.int .i64 n] w fun e w' => e = .returned (.tuple #[.int .i64 (mCountLongest n), .bool (inB n 1 8)]) ∧ Below w.heap.size w w' := by
  cases hi : inB n 1 8 with
  | true =>
    have cL := longestLevel_any n w hi
    have HM := Lib.hid (mLong_is hi).1
    obtain ⟨L, hL⟩ : ∃ L, lvl (lvN n - 1) (homesL n.toNat) = L := ⟨_, rfl⟩
    rw [hL] at cL
    have HL := Lib.hid hL
    clear hi hL
    go_enter Try.func48, Try.ntmps48
    go_wp2_with fail
    refine cL.mono ?_
    rintro e w1 ⟨r, rfl, ho, hb1⟩
    obtain ⟨ad, cap, rfl, hcc, _, _⟩ := ho.shape
    clear cL ho
    go_wp2
    go_ret2
    exact ⟨by rw [HM.out]; unfold lenL; rw [HL.out]; rfl, hb1⟩
  | false =>
    have cL := longestLevel_no n w hi
    have HM := Lib.hid (show mCountLongest n = 0 from if_neg (by rw [hi]; exact Bool.false_ne_true))
    clear hi
    go_enter Try.func48, Try.ntmps48
    go_wp2_with fail
    refine cL.mono ?_
    rintro e w1 ⟨rfl, hb1⟩
    clear cL
    go_wp2
    go_ret2
    exact ⟨by rw [HM.out]; rfl, hb1⟩

end Go.Proofs.Ytmlikchhkblohaa

