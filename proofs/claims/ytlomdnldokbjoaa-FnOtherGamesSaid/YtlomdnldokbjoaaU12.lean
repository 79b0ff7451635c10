import Derived.Test.YtlomdnldokbjoaaU11
import Derived.Test.YtlomdnldokbjoaaU7
namespace Go.Proofs.Ytlomdnldokbjoaa
open Go Go.RowKit Go.Pan

theorem seenIdx_no {V : List (List Int)} {q : List Int} (h : q ∉ V) : seenIdx V q = -1 := if_neg h
theorem seenIdx_yes {V : List (List Int)} {q : List Int} (h : q ∈ V) : seenIdx V q = (V.idxOf q : Int) := if_pos h

set_option maxHeartbeats 4000000 in
set_option maxRecDepth 100000 in
theorem sBottomGame_any (v : Value) (xs : List Int) (w : World) (hv : OwnI w v xs) (hn : xs.length ≤ 1048576) :
    Calls Try.prog 105 #[v] w fun e w' => e = .returned (.tuple #[.int .i64 (mBottomGame xs), .bool (goodB xs)]) ∧ Below w.heap.size w w' := by
  have c := stGood_any _ _ _ hv hn
  cases hg : goodB xs with
  | true =>
    have hG := goodB_iff.1 hg
    have HM := Lib.hid (show mBottomGame xs = (againI botT xs : Int) + (againP botT xs : Int) - 1 from if_pos hg)
    have hit := iter_good (st := botT) hG botT_good
    have HIT := Lib.hid hit
    have HV := Lib.hid (again_val hit)
    obtain ⟨p, hp⟩ : ∃ p, xs.length = p + 1 := ⟨xs.length - 1, by have := hG.1; omega⟩
    have HP := Lib.hid hp
    have hp9 : p < 9 := by have := hG.2.1; omega
    obtain ⟨i0, hi, hz0, hz1, hz2⟩ := info_parts Try.info22
    have HI := Lib.hid hi
    have HZ0 := Lib.hid hz0
    have HZ1 := Lib.hid hz1
    have HZ2 := Lib.hid hz2
    rw [hg] at c
    clear hg hG hit hp hi hz0 hz1 hz2
    go_enter Try.func105, Try.ntmps105
    go_wp2_with fail
    refine c.mono ?_
    rintro e w1 ⟨rfl, hb1⟩
    have hv1 := hv.same hb1
    have hs1 := hb1.size
    clear c hv
    go_wp2_with fail
    refine (l1Own_any _ _ _ hv1 hn).mono ?_
    rintro e w2 ⟨r2, rfl, ho2, hf2, hb2⟩
    have hB2 := hb1.trans (hb2.mono hb1.size)
    have hs2 := hB2.size
    have hI2 : In w.heap.size w2.heap.size r2 := fun g hg => ⟨Nat.le_trans hs1 (hf2 g hg), ho2.lt g hg⟩
    have hS3 := (SS.one (ty := 24) ho2 hI2).resolve_right (by omega)
    obtain ⟨a2, c2, rfl, _, _, _⟩ := ho2.shape
    have hown3 : (w2.alloc (.cells #[.slice a2 xs.length c2] 24)).ownsRow w.heap.size 24 1 (.slice (some ⟨w2.heap.size, 0, none⟩) 1 1) 1 [.slice a2 xs.length c2] := ⟨rfl, .inr ⟨w2.heap.size, 1, #[.slice a2 xs.length c2], rfl, hs2, heap_alloc_new w2 _, Nat.le_refl _, by simp [maxLen], rfl, rfl⟩⟩
    have hB3 := hB2.alloc hs2 (.cells #[.slice a2 xs.length c2] 24)
    have hv3 := (hv1.same hb2).alloc (.cells #[.slice a2 xs.length c2] 24)
    have HS3 := Lib.hid (show SS (w2.alloc (.cells #[.slice a2 xs.length c2] 24)) w.heap.size (w2.alloc (.cells #[.slice a2 xs.length c2] 24)).heap.size (.slice (some ⟨w2.heap.size, 0, none⟩) 1 1) [.slice a2 xs.length c2] (orbL botT xs (0 + 1)) by
      have := hS3.mono (Nat.le_refl _) (show w2.heap.size + 1 ≤ (w2.alloc (.cells #[.slice a2 xs.length c2] 24)).heap.size by simp)
      simpa [orbL, iterL] using this)
    have HO3 := Lib.hid hown3
    have HV3 := Lib.hid (show OwnI (w2.alloc (.cells #[.slice a2 xs.length c2] 24)) v (iterL botT 0 xs) from hv3)
    clear hb1 hb2 ho2 hf2 hv1 hI2 hB2 hS3 hown3 hv3
    go_wp2
    go_loopg [0, 4, 5] 1000000002 (fun gk sv al i wr => ∃ (m : Nat) (hs : List Value), i = .int .i64 m ∧ m + gk = 1000000002 ∧ Hid ((orbL botT xs (m + 1)).Nodup) ∧ Hid (OwnI wr sv (iterL botT m xs)) ∧ Hid (SS wr w.heap.size wr.heap.size al hs (orbL botT xs (m + 1))) ∧ Hid (wr.ownsRow w.heap.size 24 1 al (m + 1) hs) ∧ hs.length = m + 1 ∧ Below w.heap.size w wr)
    case atStart => exact ⟨0, _, rfl, by omega, Lib.hid (by simp [orbL]), HV3, HS3, HO3, rfl, hB3⟩
    case round =>
      obtain ⟨m, hs, rfl, hmg, hnd, hsv, hS, hown, hhl, hbr⟩ := hrel
      clear HS3 HO3 HV3 hB3
      have HMG := Lib.hid hmg
      have HHL := Lib.hid hhl
      have hfew := orb_few HIT.out hnd.out
      have hq := HIT.out m
      have hq1 := HIT.out (m + 1)
      obtain ⟨q, hqe⟩ : ∃ q, iterL botT m xs = q := ⟨_, rfl⟩
      have HQE := Lib.hid hqe
      have HNX := Lib.hid (show iterL botT (m + 1) xs = botT q by rw [← hqe]; rfl)
      rw [HNX.out] at hq1
      rw [hqe] at hq hsv
      obtain ⟨t, ht⟩ : ∃ t : Nat, q.getD p 0 = (t : Int) := ⟨(q.getD p 0).toNat, by have := hq.1.at (i := p) (by have := HP.out; omega); omega⟩
      have htb := hq.1.at (i := p) (by have := HP.out; omega)
      have htl : t ≤ q.length := by omega
      have ht1 : 1 ≤ t := by omega
      have HBT := Lib.hid (show botT q = turnL q t by unfold botT; rw [show q.length - 1 = p by have := HP.out; omega, ht, Int.toNat_natCast])
      have hql : q.length = p + 1 := by have := HP.out; omega
      obtain ⟨ad, cap, rfl, hcc, _, _⟩ := hsv.out.shape
      obtain ⟨g, off, rfl, hgl, hcell, _⟩ := hsv.out.at (by omega)
      have hcp := hcell p (by omega)
      rw [List.getElem?_map, List.getElem?_eq_getElem (by omega), Option.map_some, ← getD_eq (by omega), ht] at hcp
      have HQL := Lib.hid hql
      have hqn : q.length ≤ 1048576 := by omega
      have HSV := Lib.hid (show OwnI wr (.slice (some ⟨g, off, none⟩) (p + 1) cap) q by rw [← hql]; exact hsv.out)
      rw [hql]
      have hwz := hbr.size
      clear hmg hhl hqe hq ht htb hql hsv hcell
      by_cases h1 : t = 1
      · have hA : Again botT xs m 1 := ⟨by omega, hnd.out, by rw [HNX.out, HQE.out, HBT.out, h1, turnL_one]⟩
        have hu := HV.out.uniq hA
        have HI' := Lib.hid hu.1
        have HP' := Lib.hid hu.2
        subst h1
        clear hA hu hq1
        go_wp2
        go_ret2
        exact ⟨by rw [HM.out, HI'.out, HP'.out, show (m : Int) + ((1 : Nat) : Int) - 1 = (m : Int) by omega]; rfl, hbr⟩
      · have he : ((t : Int) == 1) = false := by rw [beq_eq_false_iff_ne]; omega
        have c5 := stTurn_any _ q t wr HSV.out hqn htl
        rw [← HBT.out] at c5
        have hln : (botT q).length ≤ 1048576 := by unfold botT; rw [turnL_length]; exact hqn
        have HLV := Lib.hid (show ∀ x ∈ orbL botT xs (m + 1), x.length ≤ 1048576 from fun x hx => by obtain ⟨j, _, rfl⟩ := mem_orbL.1 hx; rw [(HIT.out j).2]; exact hn)
        have hol : (orbL botT xs (m + 1)).length ≤ 1000000001 := by rw [orbL_length]; omega
        clear h1 HSV hq1
        go_wp2_with fail
        refine c5.mono ?_
        rintro e w5 ⟨r5, rfl, ho5, hf5, hb5⟩
        have hz5 := hb5.size
        have hS5 := Lib.hid (hS.out.below hb5 (Nat.le_refl _))
        have hown5 := hown.out.kept (grown_of_below hb5 none) (by cases h : Value.ownBlock u4 with | none => exact .inl rfl | some g => exact .inr (by simp))
        have hB5 := hbr.trans (hb5.mono hwz)
        have HI5 := Lib.hid (show In wr.heap.size w5.heap.size r5 from fun g hg => ⟨hf5 g hg, ho5.lt g hg⟩)
        clear hb5 hS hown c5 hbr hf5 hcp
        go_wp2_with fail
        refine (toSeen_any u4 r5 hs (orbL botT xs (m + 1)) (botT q) w.heap.size wr.heap.size w5 hS5 ho5 hln HLV hol).mono ?_
        rintro e w6 ⟨rfl, hb6⟩
        have hz6 := hb6.size
        have ho6 := ho5.same hb6
        have hS6 := Lib.hid (hS5.out.below hb6 (by omega))
        have hown6 := hown5.kept (grown_of_below hb6 none) (by cases h : Value.ownBlock u4 with | none => exact .inl rfl | some g => exact .inr (by simp))
        have hB6 := hB5.trans (hb6.mono hB5.size)
        clear hb6 ho5 hS5 hown5 hB5
        by_cases hin : botT q ∈ orbL botT xs (m + 1)
        · obtain ⟨i, hi, e⟩ := mem_orbL.1 hin
          have hA : Again botT xs i (m + 1 - i) := ⟨by omega, by rw [show i + (m + 1 - i) = m + 1 by omega]; exact hnd.out, by rw [show i + (m + 1 - i) = m + 1 by omega, HNX.out, e]⟩
          have hu := HV.out.uniq hA
          have HI' := Lib.hid hu.1
          have HP' := Lib.hid hu.2
          obtain ⟨j, hj⟩ : ∃ j : Nat, seenIdx (orbL botT xs (m + 1)) (botT q) = (j : Int) := ⟨_, seenIdx_yes hin⟩
          have HiM : (i : Int) ≤ m := by omega
          rw [hj]
          clear hin e hA hu hj hi
          go_wp2
          go_ret2
          exact ⟨by rw [HM.out, HI'.out, HP'.out, show (i : Int) + ((m + 1 - i : Nat) : Int) - 1 = (m : Int) by omega]; rfl, hB6⟩
        · rw [seenIdx_no hin]
          have HN2 := Lib.hid (show (orbL botT xs (m + 1 + 1)).Nodup by
            rw [orbL_succ, List.nodup_append]
            exact ⟨hnd.out, by simp, fun a ha b hb e => by rw [List.mem_singleton] at hb; subst hb e; rw [HNX.out] at ha; exact hin ha⟩)
          have HO2 := Lib.hid (show orbL botT xs (m + 1 + 1) = orbL botT xs (m + 1) ++ [botT q] by rw [orbL_succ, HNX.out])
          obtain ⟨a6, c6, rfl, _, _, _⟩ := ho6.shape
          have HI6 := Lib.hid (show In wr.heap.size (w6.heap.size + 1) (.slice a6 (botT q).length c6) from HI5.out.mono (Nat.le_refl _) (by omega))
          have HS6 := Lib.hid (hS6.out.below (below_new w6 (.cells #[.slice a6 (botT q).length c6] 24)) (by omega))
          have HOw := Lib.hid (ho6.alloc (.cells #[.slice a6 (botT q).length c6] 24))
          have hs6 := hB6.size
          clear hin HI5 hS6
          go_wp2_with (at_builtin; refine wpList_append_lies _ rfl _ _ 27 rfl w.heap.size 24 i0 _ 1 24 Try.underlying27 HI.out HZ0.out HZ1.out HZ2.out rfl (by omega) _ (m + 1) hs rfl (hown6.alloc _) _ 1 1 [.slice a6 (botT q).length c6] rfl (by simp) (World.news_of_block (heap_alloc_new _ _)) (by simp [Value.oneCell']) (by omega) (by unfold maxLen; omega) (by omega) (by simp; omega) (w6.heap.size + 1) (by simp) ?_)
          intro g8 cap8 w8 hown8 hgr8 hat8 hlt8
          have hS8 := SS.app (cap := cap8) HS6.out (by simp; omega) HOw.out (by simpa using HI6.out) (by rw [HHL.out]; exact hown8) hgr8 (by simpa using hat8) hlt8 (by omega)
          rw [HHL.out, ← HO2.out] at hS8
          have hB8 := (hB6.alloc hs6 (.cells #[.slice a6 (botT q).length c6] 24)).grown hgr8 (by simp; omega) (fun b hb => (HS6.out.inn b hb).1)
          have HS8 := Lib.hid hS8
          have HW8 := Lib.hid hown8
          have HL8 := Lib.hid (show (hs ++ [Value.slice a6 (botT q).length c6]).length = m + 1 + 1 by rw [List.length_append, HHL.out]; rfl)
          have hap : ∀ g, (Value.slice a6 (botT q).length c6).ownBlock = some g → Value.ownBlock u4 ≠ some g := fun g h1 h2 => by
            have := (HI6.out g h1).1
            have := (HS6.out.inn g h2).2
            omega
          have HV8 := Lib.hid (show OwnI w8 (.slice a6 (botT q).length c6) (iterL botT (m + 1) xs) by rw [HNX.out]; exact HOw.out.grown hgr8 hap)
          clear hS8 hgr8 hat8 hB6 hown6 hown8 hap
          go_wp2
          go_roundg (gk - 1)
          case measure => have := HMG.out; omega
          case rel => exact ⟨m + 1, _, by go_num, by have := HMG.out; omega, HN2, HV8, HS8, HW8, HL8.out, hB8⟩
  | false =>
    have HM := Lib.hid (show mBottomGame xs = 0 from if_neg (by rw [hg]; exact Bool.false_ne_true))
    rw [hg] at c
    clear hg
    go_enter Try.func105, Try.ntmps105
    go_wp2_with fail
    refine c.mono ?_
    rintro e w1 ⟨rfl, hb1⟩
    clear c hv
    go_wp2
    go_ret2
    exact ⟨by rw [HM.out]; rfl, hb1⟩

end Go.Proofs.Ytlomdnldokbjoaa

