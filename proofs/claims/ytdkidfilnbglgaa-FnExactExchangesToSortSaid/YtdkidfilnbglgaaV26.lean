import Derived.Test.YtdkidfilnbglgaaV25
import Derived.Test.YtdkidfilnbglgaaI3
import Derived.Test.YtdkidfilnbglgaaU4
import Derived.ScopeJumps
namespace Go.Proofs.Ytdkidfilnbglgaa
open Go Go.RowKit Go.Pan

set_option maxRecDepth 100000 in
set_option maxHeartbeats 1600000 in
theorem numberBefore_any (xs : List Int) (y : Nat) (w : World) (hg : Hid (Pan.Good xs)) (hy : y ≤ xs.length) :
    Calls Try.prog 221 #[tw xs, .int .i64 ((y : Int) + 1), .int .i64 xs.length] w fun e w' => e = .returned (.int .i64 (bfN xs y : Nat)) ∧ Below w.heap.size w w' := by
  have h9 := hg.out.le9
  have hbx : Blk (w.alloc (.cells (twl xs).toArray 69)) w.heap.size 69 (twl xs) := Blk.new w _ (twl xs) _ rfl
  have hb0 := below_new w (.cells (twl xs).toArray 69)
  have HR := Lib.hid (bf_cast hg.out y)
  have hix := idx_le xs ((y : Int) + 1)
  have h9i : (xs.length : Int) ≤ 9 := by omega
  go_enter Try.func221, Try.ntmps221
  go_wp2
  go_loopw [7, 9, 13] (fun v7 _ v13 wr => ∃ k : Nat, k ≤ xs.length ∧ k ≤ xs.idxOf ((y : Int) + 1) ∧ v13 = .int .i64 k ∧ v7 = .int .i64 (extD xs k) ∧ Blk wr w.heap.size 69 (twl xs) ∧ Below w.heap.size w wr) (fun _ _ v13 _ => xs.length - (intOf v13).toNat)
  case atStart => exact ⟨0, Nat.zero_le _, Nat.zero_le _, rfl, rfl, hbx, hb0⟩
  case round =>
    obtain ⟨k, hk, hki, rfl, rfl, hB, hbr⟩ := hrel
    clear hbx hb0
    by_cases hlt : k < xs.length
    · have hck := (hB.cell k).trans ((twl_at (xs := xs) (i := k) (by omega)).resolve_right (by omega))
      rw [getD_eq hlt] at hck
      replace hck : wr.cell? ⟨w.heap.size, k, none⟩ = some (.int .i64 xs[k]) := hck
      have hEX := Lib.hid (extD_get hlt)
      have hkl : (k : Int) < xs.length := by omega
      by_cases hq : xs[k] = (y : Int) + 1
      · have hidx := idx_of hg.out hlt
        rw [hq] at hidx hck
        have HF := Lib.hid (show extD xs k = ((bfN xs y : Nat) : Int) by rw [HR.out, hidx])
        clear hq hidx
        go_wp2
        go_ret
        exact ⟨by rw [← HF.out]; rfl, hbr⟩
      · have hne : k ≠ xs.idxOf ((y : Int) + 1) := fun e => by
          have h1 : xs.idxOf ((y : Int) + 1) < xs.length := by omega
          have := idx_at h1
          simp only [← e] at this
          exact hq this
        obtain ⟨z, hz⟩ : ∃ z, xs[k] = z := ⟨_, rfl⟩
        rw [hz] at hck hEX hq
        have hq2 : (z == (y : Int) + 1) = false := by rw [beq_eq_false_iff_ne]; exact hq
        clear hz
        go_wp2
        go_roundw
        case rel => exact ⟨k + 1, by omega, by omega, by go_num, by rw [hEX.out], hB, hbr⟩
        case measure => simp [intOf] <;> omega
    · obtain rfl : k = xs.length := by omega
      have hidx : xs.idxOf ((y : Int) + 1) = xs.length := by omega
      have HF := Lib.hid (show extD xs xs.length = ((bfN xs y : Nat) : Int) by rw [HR.out, hidx])
      have hge : ¬ ((xs.length : Int) < (xs.length : Int)) := by omega
      clear hidx
      go_wp2
      go_ret
      exact ⟨by rw [← HF.out]; rfl, hbr⟩

theorem lenV_of {w : World} {v : Value} {xs : List Int} (h : OwnI w v xs) : lenV v = xs.length := by
  obtain ⟨a, c, rfl, _, _, _⟩ := h.shape
  rfl

set_option maxRecDepth 100000 in
set_option maxHeartbeats 1600000 in
theorem cycleFrom_any (xs : List Int) (k : Nat) (w : World) (hg : Hid (Pan.Good xs)) (hk : k ≤ xs.length) :
    Calls Try.prog 199 #[tw xs, .int .i64 k, .int .i64 xs.length] w fun e w' => ∃ r, e = .returned r ∧ OwnI w' r (castL (cycL (bfN xs) (xs.length + 1) k)) ∧ From w.heap.size r ∧ Below w.heap.size w w' := by
  have h9 := hg.out.le9
  have hbx : Blk (w.alloc (.cells (twl xs).toArray 69)) w.heap.size 69 (twl xs) := Blk.new w _ (twl xs) _ rfl
  have hb0 := below_new w (.cells (twl xs).toArray 69)
  have hper := per_spec (bf_onto hg.out) (show k < xs.length + 1 by omega)
  have hp1 := hper.1
  have hp2 := hper.2.1
  obtain ⟨i0, hi, hz0, hz1, hz2⟩ := info_parts Try.info3
  clear hper
  go_enter Try.func199, Try.ntmps199
  go_wp2
  refine wp_scope_jumps 0 (fun a W => ∃ (j : Nat) (v : Value) (u9 u10 u11 u12 u13 u14 u15 u16 u17 u18 u19 u20 u21 u22 u23 u24 u25 u26 : Value), j < per (bfN xs) (xs.length + 1) k ∧ a = { tmps := #[tw xs, .int .i64 k, .int .i64 xs.length, .pointer (some ⟨w.heap.size, 0, none⟩), undef, undef, .slice none 0 0, v, .int .i64 (itN (bfN xs) j k : Nat), u9, u10, u11, u12, u13, u14, u15, u16, u17, u18, u19, u20, u21, u22, u23, u24, u25, u26], defers := [] } ∧ OwnI W v (castL (cycTo (bfN xs) k j)) ∧ From (w.heap.size + 1) v ∧ Blk W w.heap.size 69 (twl xs) ∧ Below w.heap.size w W) (fun a _ => per (bfN xs) (xs.length + 1) k - lenV (a.tmps.getD 7 undef)) rfl ?_ ?_
  · go_wp2_with (at_make; refine wpList_make_own _ rfl _ _ 22 rfl (w.heap.size + 1) 3 i0 (.int .i64 0) 1 Try.underlying22 hi hz0 hz1 _ _ _ (xs.length + 1) rfl rfl rfl ?b1 ?b2 ?b3 ?_)
    case b1 => rw [hz2]; omega
    case b2 => unfold maxLen; omega
    case b3 => simp
    intro W hown hgr
    obtain ⟨j, hj0⟩ : ∃ j : Nat, j = 0 := ⟨_, rfl⟩
    have key : ∀ v, Own W 1 v 0 [] → OwnI W v (castL (cycTo (bfN xs) k j)) := fun v h => by rw [hj0]; exact h
    have ho := key _ (Own.of_row hown).1
    clear key
    have hf := (Own.of_row hown).2
    have hB := hbx.grown hgr (by simp)
    have hbr := hb0.grown hgr hb0.size (fun k hk => by simp at hk)
    clear hi hz0 hz1 hz2 hgr hown hbx hb0
    go_wp2
    go_step3
    have hjp0 : j < per (bfN xs) (xs.length + 1) k := by omega
    have hjl : j + 1 ≤ per (bfN xs) (xs.length + 1) k := by omega
    have hCY := cyc_next (bf_onto hg.out) (show k < xs.length + 1 by omega) (show 1 ≤ j + 1 by omega) hjl
    have hxl := (bf_onto hg.out).it (show k < xs.length + 1 by omega) j
    have HXE := Lib.hid (show bfN xs (itN (bfN xs) j k) = itN (bfN xs) (j + 1) k from rfl)
    have HCS := Lib.hid (show castL (cycTo (bfN xs) k j) ++ [((itN (bfN xs) j k : Nat) : Int)] = castL (cycTo (bfN xs) k (j + 1)) by rw [cycTo_succ]; simp [castL])
    have hyl := (bf_onto hg.out).it (show k < xs.length + 1 by omega) (j + 1)
    have hlC : (castL (cycTo (bfN xs) k j)).length = j := by rw [castL_length, cycTo_length]
    have hx : itN (bfN xs) j k = k := by rw [hj0]; rfl
    obtain ⟨y, hy⟩ : ∃ y, itN (bfN xs) (j + 1) k = y := ⟨_, rfl⟩
    rw [hx, hy] at HXE
    rw [hx] at hxl HCS
    rw [hy] at hyl hCY
    have HY := Lib.hid hy
    have hs1 := hbr.size
    have hBa := hB.alloc (.cells #[.int .i64 (k : Nat)] 3)
    have hbra := hbr.alloc hs1 (.cells #[.int .i64 (k : Nat)] 3)
    clear hx hy hj0
    go_wp2_with (at_builtin; refine wpList_app1 Try.intSl rfl _ _ rfl _ (castL (cycTo (bfN xs) k j)) rfl (ho.alloc _) (w.heap.size + 1) hf W.heap.size (k : Nat) rfl ?c1 _ (Below.refl _ _) ?c2 (by omega) ?_)
    case c1 => simp [go_sem]
    case c2 => have := hB.lt; simp; omega
    intro v3 w3 ho3 hf3 hb3 _
    rw [HCS.out] at ho3
    have hB3 := hBa.below hb3 (by have := hB.lt; omega)
    have hbr3 := hbra.trans (hb3.mono (by omega))
    clear ho hB hbr hBa hbra hb3
    go_wp2_with (first | (refine wpList_load_tower rfl _ rfl w.heap.size xs h9 rfl hB3 ?_))
    refine (numberBefore_any xs k _ hg (by omega)).mono ?_
    rintro e w4 ⟨rfl, hb4⟩
    rw [HXE.out]
    have hB4 := hB3.below hb4 hB3.lt
    have ho4 := ho3.same hb4
    have hbr4 := hbr3.trans (hb4.mono hbr3.size)
    clear ho3 hB3 hbr3 hb4
    by_cases hyk : y = k
    · have hjp := hCY.1 hyk
      subst hyk
      have HCL := Lib.hid (show castL (cycTo (bfN xs) y (j + 1)) = castL (cycL (bfN xs) (xs.length + 1) y) by rw [hjp]; rfl)
      rw [HCL.out] at ho4
      clear hCY hjp
      go_wp2_with fail
      refine (Clip_any _ _ _ ho4).mono ?_
      rintro e w5 ⟨r, rfl, hor, hob, rfl⟩
      have hfr : From w.heap.size r := fun g hg => Nat.le_of_succ_le (hf3 g (by rw [← hob]; exact hg))
      clear hob
      go_wp2
      simp only [Exit.jump]
      go_ret
      exact ⟨_, rfl, hor, hfr, hbr4⟩
    · have hjn : j + 1 ≠ per (bfN xs) (xs.length + 1) k := fun e => hyk (hCY.2 e)
      have hq : ((y : Int) == (k : Int)) = false := by rw [beq_eq_false_iff_ne]; omega
      clear hCY
      have HL3 := Lib.hid (lenV_of ho4)
      go_wp2
      go_step3
      exact ⟨rfl, j + 1, v3, _, _, _, _, _, _, _, _, _, _, _, _, _, _, _, _, _, _, by omega, by rw [HY.out], ho4, hf3, hB4, hbr4⟩
  · rintro a W ⟨j, v, u9, u10, u11, u12, u13, u14, u15, u16, u17, u18, u19, u20, u21, u22, u23, u24, u25, u26, hjp0, rfl, ho, hf, hB, hbr⟩
    clear hi hz0 hz1 hz2 hbx hb0
    have hjl : j + 1 ≤ per (bfN xs) (xs.length + 1) k := by omega
    have hCY := cyc_next (bf_onto hg.out) (show k < xs.length + 1 by omega) (show 1 ≤ j + 1 by omega) hjl
    have hxl := (bf_onto hg.out).it (show k < xs.length + 1 by omega) j
    have HXE := Lib.hid (show bfN xs (itN (bfN xs) j k) = itN (bfN xs) (j + 1) k from rfl)
    have HCS := Lib.hid (show castL (cycTo (bfN xs) k j) ++ [((itN (bfN xs) j k : Nat) : Int)] = castL (cycTo (bfN xs) k (j + 1)) by rw [cycTo_succ]; simp [castL])
    have hyl := (bf_onto hg.out).it (show k < xs.length + 1 by omega) (j + 1)
    have hlC : (castL (cycTo (bfN xs) k j)).length = j := by rw [castL_length, cycTo_length]
    obtain ⟨x, hx⟩ : ∃ x, itN (bfN xs) j k = x := ⟨_, rfl⟩
    obtain ⟨y, hy⟩ : ∃ y, itN (bfN xs) (j + 1) k = y := ⟨_, rfl⟩
    rw [hx, hy] at HXE
    rw [hx] at hxl HCS
    rw [hy] at hyl hCY
    have HY := Lib.hid hy
    rw [hx]
    have HLV := Lib.hid (lenV_of ho)
    have hs1 := hbr.size
    have hBa := hB.alloc (.cells #[.int .i64 (x : Nat)] 3)
    have hbra := hbr.alloc hs1 (.cells #[.int .i64 (x : Nat)] 3)
    clear hx hy
    go_wp2_with (at_builtin; refine wpList_app1 Try.intSl rfl _ _ rfl _ (castL (cycTo (bfN xs) k j)) rfl (ho.alloc _) (w.heap.size + 1) hf W.heap.size (x : Nat) rfl ?c1 _ (Below.refl _ _) ?c2 (by omega) ?_)
    case c1 => simp [go_sem]
    case c2 => have := hB.lt; simp; omega
    intro v3 w3 ho3 hf3 hb3 _
    rw [HCS.out] at ho3
    have hB3 := hBa.below hb3 (by have := hB.lt; omega)
    have hbr3 := hbra.trans (hb3.mono (by omega))
    clear ho hB hbr hBa hbra hb3
    go_wp2_with (first | (refine wpList_load_tower rfl _ rfl w.heap.size xs h9 rfl hB3 ?_))
    refine (numberBefore_any xs x _ hg (by omega)).mono ?_
    rintro e w4 ⟨rfl, hb4⟩
    rw [HXE.out]
    have hB4 := hB3.below hb4 hB3.lt
    have ho4 := ho3.same hb4
    have hbr4 := hbr3.trans (hb4.mono hbr3.size)
    clear ho3 hB3 hbr3 hb4
    by_cases hyk : y = k
    · have hjp := hCY.1 hyk
      subst hyk
      have HCL := Lib.hid (show castL (cycTo (bfN xs) y (j + 1)) = castL (cycL (bfN xs) (xs.length + 1) y) by rw [hjp]; rfl)
      rw [HCL.out] at ho4
      clear hCY hjp
      go_wp2_with fail
      refine (Clip_any _ _ _ ho4).mono ?_
      rintro e w5 ⟨r, rfl, hor, hob, rfl⟩
      have hfr : From w.heap.size r := fun g hg => Nat.le_of_succ_le (hf3 g (by rw [← hob]; exact hg))
      clear hob
      go_wp2
      simp only [Exit.jump]
      go_ret
      exact ⟨_, rfl, hor, hfr, hbr4⟩
    · have hjn : j + 1 ≠ per (bfN xs) (xs.length + 1) k := fun e => hyk (hCY.2 e)
      have hq : ((y : Int) == (k : Int)) = false := by rw [beq_eq_false_iff_ne]; omega
      clear hCY
      have HL3 := Lib.hid (lenV_of ho4)
      go_wp2
      go_step3
      refine ⟨rfl, ⟨j + 1, v3, _, _, _, _, _, _, _, _, _, _, _, _, _, _, _, _, _, _, by omega, by rw [HY.out], ho4, hf3, hB4, hbr4⟩, ?_⟩
      show per (bfN xs) (xs.length + 1) k - lenV v3 < per (bfN xs) (xs.length + 1) k - lenV v
      rw [HL3.out, HLV.out, castL_length, castL_length, cycTo_length, cycTo_length]
      omega
end Go.Proofs.Ytdkidfilnbglgaa
