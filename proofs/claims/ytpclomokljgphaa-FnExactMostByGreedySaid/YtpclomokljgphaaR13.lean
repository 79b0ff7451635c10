import Derived.Test.YtpclomokljgphaaR12
import Derived.Test.YtpclomokljgphaaP2
import Derived.Test.YtpclomokljgphaaS9
import Derived.Deep.LoopGhost
namespace Go.Proofs.Ytpclomokljgphaa
open Go Go.RowKit Go.Pan

set_option maxHeartbeats 4000000 in
set_option maxRecDepth 100000 in
theorem sMostByGreedy_any (n : Int) (w : World) :
    Calls Try.prog 63 #[.int .i64 n] w fun e w' => ∃ r, e = .returned (.tuple #[r, .int .i64 (mMostLong n), .bool (inB n 1 7)]) ∧ OwnI w' r (mMostByGreedy n) ∧ From w.heap.size r ∧ Below w.heap.size w w' := by
  have c := l1In_any n 1 7 w
  cases hi : inB n 1 7 with
  | true =>
    obtain ⟨m, hm⟩ : ∃ m : Nat, n = (m : Int) := ⟨n.toNat, by have := inB_iff.1 hi; omega⟩
    subst hm
    have hb := inB_iff.1 hi
    have HM := Lib.hid (show mMostByGreedy (m : Int) = (mostOf (allL m)).1 from if_pos hi)
    have HS := Lib.hid (show mMostLong (m : Int) = (mostOf (allL m)).2 from if_pos hi)
    have HG := Lib.hid (show ∀ q ∈ allL m, Pan.Good q ∧ q.length = m from fun q hq => allL_good (by omega) (by omega) hq)
    have HLEN := Lib.hid (show (allL m).length ≤ 387420489 from Nat.le_trans (growL_length anyMay m (by omega) m []) (pow9_le m (by omega)))
    obtain ⟨t0, ht0⟩ := allL_head m
    have HT0 := Lib.hid ht0
    have hm8 : m ≤ 1048575 := by omega
    rw [hi] at c
    clear hi hb ht0
    go_enter Try.func63, Try.ntmps63
    go_wp2_with fail
    refine c.mono ?_
    rintro e w1 ⟨rfl, rfl⟩
    clear c
    go_wp2_with fail
    refine (stFirst_any m _ hm8).mono ?_
    rintro e w2 ⟨r2, rfl, ho2, hf2, hb2⟩
    have HS2 := Lib.hid ho2
    have HB0 := Lib.hid (OwnI.nil w2)
    clear ho2
    go_wp2
    go_loopg [5, 6, 7, 8] 400000000 (fun gk bv kv sv ok wr => ∃ (pre rest : List (List Int)), pre.length + gk = 400000000 ∧ Hid (allL m = pre ++ rest) ∧ ok = .bool (!rest.isEmpty) ∧ Hid (OwnI wr sv (rest.headD [])) ∧
      kv = .int .i64 (mostOf pre).2 ∧ Hid (OwnI wr bv (mostOf pre).1) ∧ From w.heap.size bv ∧ From w.heap.size sv ∧ Below w.heap.size w wr)
    case atStart => exact ⟨[], allL m, by simp, Lib.hid rfl, by rw [HT0.out]; rfl, Lib.hid (by rw [HT0.out]; exact HS2.out), rfl, Lib.hid (by simpa [mostOf] using HB0.out), From.nil _ _ _, hf2, hb2⟩
    case round =>
      obtain ⟨pre, rest, hpg, hL, rfl, hsv, rfl, hbv, hfb, hfs, hbr⟩ := hrel
      clear HS2 HB0
      have HPG := Lib.hid hpg
      clear hpg
      cases rest with
      | nil =>
        have HE := Lib.hid (show allL m = pre by have := hL.out; simpa using this)
        have HB := Lib.hid (show OwnI wr u5 (mMostByGreedy m) by rw [HM.out, HE.out]; exact hbv.out)
        have HK := Lib.hid (show mMostLong (m : Int) = (mostOf pre).2 by rw [HS.out, HE.out])
        clear hsv hbv hL
        go_wp2
        go_ret3
        exact ⟨_, by rw [HK.out]; rfl, HB.out, hfb, hbr⟩
      | cons q t =>
        have hqm : q ∈ allL m := by rw [hL.out]; simp
        have hqg := HG.out q hqm
        have HGQ := Lib.hid hqg.1
        have hgl := greedyL_length q
        have hq9 := hqg.1.2.1
        have hpl : pre.length ≤ 387420489 := by have h1 := HLEN.out; have h2 := congrArg List.length hL.out; rw [List.length_append] at h2; omega
        have HSV := Lib.hid (show OwnI wr u7 q from hsv.out)
        obtain ⟨G, hG⟩ : ∃ G, (greedyL q).length = G := ⟨_, rfl⟩
        have HGL := Lib.hid hG
        rw [hG] at hgl
        obtain ⟨k, hk⟩ : ∃ k, (mostOf pre).2 = k := ⟨_, rfl⟩
        have HK := Lib.hid hk
        rw [hk]
        have HLL := Lib.hid (show lastB q = t.isEmpty ∧ mNext q = t.headD [] by
          cases t with
          | nil =>
            have h1 := perms_last (n := m) (pre := pre) (q := q) hL.out
            exact ⟨h1, if_pos h1⟩
          | cons r t' =>
            have h1 := perms_next (n := m) (pre := pre) (q := q) (r := r) (t := t') hL.out
            exact ⟨h1.1, (if_neg (by rw [h1.1]; exact Bool.false_ne_true)).trans h1.2⟩)
        have HL2 := Lib.hid (show allL m = (pre ++ [q]) ++ t by rw [hL.out]; simp)
        have hwz := hbr.size
        clear hqm hqg hG hk hsv hL
        go_wp2_with fail
        refine (gaGreedy_any u7 q wr HSV.out HGQ).mono ?_
        rintro e w3 ⟨r3, rfl, ho3, hf3, hb3⟩
        obtain ⟨a3, c3, rfl, _, _, _⟩ := ho3.shape
        have hz3 := hb3.size
        have HSV3 := Lib.hid (HSV.out.below hb3 (Nat.le_refl _))
        have HBV3 := Lib.hid (hbv.out.below hb3 (Nat.le_refl _))
        have hB3 := hbr.trans (hb3.mono hwz)
        have hwz3 := hB3.size
        have cN := gaNext_any u7 q w3 HSV3.out HGQ
        rw [HLL.out.1, HLL.out.2] at cN
        have CN := Lib.hid cN
        rw [HGL.out]
        clear ho3 hf3 hb3 hbv hbr cN
        by_cases hlt : k < (G : Int)
        · have HN := Lib.hid (show mostOf (pre ++ [q]) = (q, (G : Int)) by rw [mostOf_yes (by rw [HK.out, HGL.out]; exact decide_eq_true hlt), HGL.out])
          go_wp2_with fail
          refine CN.out.mono ?_
          rintro e w5 ⟨r5, rfl, ho5, hf5, hb5⟩
          have HR5 := Lib.hid ho5
          have HBV5 := Lib.hid (show OwnI w5 u7 (mostOf (pre ++ [q])).1 by rw [HN.out]; exact HSV3.out.below hb5 (Nat.le_refl _))
          have hB5 := hB3.trans (hb5.mono hwz3)
          have hf5' := hf5.mono hwz3
          clear ho5 hf5 hb5 hB3
          go_wp2
          go_roundg (gk - 1)
          case measure => have := HPG.out; omega
          case rel => exact ⟨pre ++ [q], t, by have := HPG.out; simp; omega, HL2, rfl, HR5, by rw [HN.out], HBV5, hfs, hf5', hB5⟩
        · have hge : ¬ (k < (G : Int)) := hlt
          have HN := Lib.hid (show mostOf (pre ++ [q]) = mostOf pre from mostOf_no (by rw [HK.out, HGL.out]; exact decide_eq_false hlt))
          clear hlt
          go_wp2_with fail
          refine CN.out.mono ?_
          rintro e w5 ⟨r5, rfl, ho5, hf5, hb5⟩
          have HR5 := Lib.hid ho5
          have HBV5 := Lib.hid (show OwnI w5 u5 (mostOf (pre ++ [q])).1 by rw [HN.out]; exact HBV3.out.below hb5 (Nat.le_refl _))
          have hB5 := hB3.trans (hb5.mono hwz3)
          have hf5' := hf5.mono hwz3
          clear ho5 hf5 hb5 hB3
          go_wp2
          go_roundg (gk - 1)
          case measure => have := HPG.out; omega
          case rel => exact ⟨pre ++ [q], t, by have := HPG.out; simp; omega, HL2, rfl, HR5, by rw [HN.out, HK.out], HBV5, hfb, hf5', hB5⟩
  | false =>
    have HM := Lib.hid (show mMostByGreedy n = [] from if_neg (by rw [hi]; exact Bool.false_ne_true))
    have HS := Lib.hid (show mMostLong n = 0 from if_neg (by rw [hi]; exact Bool.false_ne_true))
    rw [hi] at c
    clear hi
    go_enter Try.func63, Try.ntmps63
    go_wp2_with fail
    refine c.mono ?_
    rintro e w1 ⟨rfl, rfl⟩
    clear c
    go_wp2
    go_ret3
    exact ⟨_, by rw [HS.out]; rfl, by rw [HM.out]; exact OwnI.nil _, From.nil _ _ _, Below.refl _ _⟩
end Go.Proofs.Ytpclomokljgphaa
