import Derived.Test.YtdkidfilnbglgaaWY
import Derived.Test.YtdkidfilnbglgaaWG
namespace Go.Pan
open Go Go.RowKit
theorem lvG_tables {q : List Int} (hs : ShR q) (h9 : q.length ≤ 9) {D : Nat} (hD : q.sum = (D : Int)) (h : D ≤ 9) : D ≤ 9 ∧ (∀ i, i ≤ D → lvG wbR i [q] ≠ []) ∧ lvG wbR (D + 1) [q] = [] ∧ ∀ i, (lvG wbR i [q]).length ≤ 400000000 := by
  refine ⟨h, fun i hi e => ?_, ?_, fun i => ?_⟩
  · have h1 := wayR_pos i hs (by omega)
    rw [← lvG_one, e] at h1
    simp at h1
  · have h1 := wayR_none (D + 1) hs (by omega)
    rw [← lvG_one] at h1
    exact List.eq_nil_of_length_eq_zero h1
  · rw [lvG_one]
    by_cases hi : i ≤ 9
    · have h1 := wayR_le 9 i hs h9
      have h2 : 9 ^ i ≤ 9 ^ 9 := Nat.pow_le_pow_right (by omega) hi
      omega
    · rw [wayR_none i hs (by omega)]
      omega
end Go.Pan
namespace Go.Proofs.Ytdkidfilnbglgaa
open Go Go.RowKit Go.Pan

set_option maxHeartbeats 1600000 in
theorem CountTables_any (v : Value) (xs : List Int) (w : World) (hv : OwnI w v xs) (hn : xs.length ≤ 1048576) :
    Calls Try.prog 65 #[v] w fun e w' => e = .returned (.tuple #[.int .i64 (mCountTables xs), .bool (shpB xs)]) ∧ Below w.heap.size w w' := by
  have c := isShape_any v xs w hv hn
  cases hg : shpB xs with
  | true =>
    have hS := shpB_iff.1 hg
    have hsh := ShR_of xs hS.2.2.1 hS.2.2.2.1
    have h1 := hsh.sum
    have h2 := hsh.head
    have h9 := hS.2.1
    have hle := hS.2.2.2.2
    obtain ⟨D, hd⟩ : ∃ D : Nat, xs.sum = (D : Int) := ⟨xs.sum.toNat, by omega⟩
    have HD := Lib.hid (lvG_tables hsh h9 hd (by omega))
    have HM := Lib.hid (show mCountTables xs = (((lvG wbR D [xs]).length : Nat) : Int) by
      unfold mCountTables
      rw [if_pos hg, hd, lvG_one]
      rfl)
    have HSH := Lib.hid hsh
    have HS := Lib.hid hS
    rw [hg] at c
    obtain ⟨ad, cap, rfl, hcc, _, _⟩ := hv.shape
    have HV := Lib.hid hv
    clear hg hS hsh h1 h2 hv hle
    go_enter Try.func65, Try.ntmps65
    go_wp2_with fail
    refine c.mono ?_
    rintro e w1 ⟨rfl, hb1⟩
    have hv1 := HV.out.below hb1 (Nat.le_refl _)
    have hR0 := RL.one (e := 22) (ty := 22) hv1 hv1.lt rfl
    obtain ⟨w3, hw3⟩ : ∃ x, w1.alloc (.cells #[.slice ad xs.length cap] 22) = x := ⟨_, rfl⟩
    have hB3 : Below w.heap.size w w3 := by rw [← hw3]; exact hb1.alloc hb1.size _
    rw [hw3] at hR0
    have CL := Lib.hid (lastLevelB_any _ [xs] wbR D _ 0 w3 hR0 HD (Lib.hid fun q u W hq hu hbW => by
      obtain ⟨i, hq⟩ := hq
      obtain ⟨h1, h2, h3⟩ := lvG_mem HSH.out i q hq
      have hs1 := HS.out.1
      have hs5 := HS.out.2.2.2.2
      refine (withoutBox_any u q W hu (by omega) (by omega) (Lib.hid ⟨h1, by omega⟩)).mono ?_
      rintro e W' ⟨r, hs, h⟩
      exact ⟨r, hs, h⟩))
    have HW3 := Lib.hid hw3
    clear c hw3 hR0 hv1 hb1
    go_wp2_with fail
    rw [HW3.out]
    refine CL.out.mono ?_
    rintro e w4 ⟨r, hs, B, rfl, hR, hF, hb4⟩
    obtain ⟨a4, c4, hre, _⟩ := hR.slice
    subst hre
    have hB4 := hB3.trans (hb4.mono hB3.size)
    clear hR hF CL
    go_wp2
    go_ret2
    exact ⟨by rw [HM.out]; rfl, hB4⟩
  | false =>
    have HM := Lib.hid (show mCountTables xs = 0 from if_neg (by rw [hg]; exact Bool.false_ne_true))
    rw [hg] at c
    obtain ⟨ad, cap, rfl, hcc, _, _⟩ := hv.shape
    clear hg
    go_enter Try.func65, Try.ntmps65
    go_wp2_with fail
    refine c.mono ?_
    rintro e w1 ⟨rfl, hb⟩
    clear c
    go_wp2
    go_ret2
    exact ⟨by rw [HM.out]; rfl, hb⟩
end Go.Proofs.Ytdkidfilnbglgaa

