import Derived.Test.YtlomdnldokbjoaaU12
import Derived.Test.YtlomdnldokbjoaaLO
namespace Go.Proofs.Ytlomdnldokbjoaa
open Go Go.RowKit Go.Pan

set_option maxHeartbeats 4000000 in
set_option maxRecDepth 100000 in
theorem sCardGame_any (v : Value) (xs : List Int) (k : Int) (w : World) (hv : OwnI w v xs) (hn : xs.length ≤ 1048576) :
    Calls Try.prog 102 #[v, .int .i64 k] w fun e w' => e = .returned (.tuple #[.int .i64 (mCardFirst xs k), .int .i64 (mCardMore xs k), .bool (okCard xs k)]) ∧ Below w.heap.size w w' := by
  have c := stGood_any _ _ _ hv hn
  obtain ⟨adv, capv, rfl, _, _, _⟩ := hv.shape
  cases hg : goodB xs with
  | true =>
    cases hi : inB k 1 xs.length with
    | true =>
      have hkb := inB_iff.1 hi
      obtain ⟨n, rfl⟩ : ∃ n : Nat, k = n := ⟨k.toNat, by omega⟩
      have hkl : n ≤ xs.length := by omega
      have hk1 : 1 ≤ n := by omega
      have hO : okCard xs n = true := by unfold okCard; rw [hg, hi]; rfl
      have HO := Lib.hid hO
      have hG := goodB_iff.1 hg
      have HM1 := Lib.hid (show mCardFirst xs (n : Int) = (againI (cardT n) xs : Int) by unfold mCardFirst; rw [if_pos hO]; simp)
      have HM2 := Lib.hid (show mCardMore xs (n : Int) = (againP (cardT n) xs : Int) by unfold mCardMore; rw [if_pos hO]; simp)
      have hit := iter_good (st := cardT n) hG (fun x hx => ⟨cardT_good hx, cardT_length n x⟩)
      have HIT := Lib.hid hit
      have HV := Lib.hid (again_val hit)
      obtain ⟨i0, hi', hz0, hz1, hz2⟩ := info_parts Try.info22
      have HI := Lib.hid hi'
      have HZ0 := Lib.hid hz0
      have HZ1 := Lib.hid hz1
      have HZ2 := Lib.hid hz2
      obtain ⟨i1, hj, hk0, hk1', hk2⟩ := info_parts Try.info3
      have HJ := Lib.hid hj
      have HK0 := Lib.hid hk0
      have HK1 := Lib.hid hk1'
      have HK2 := Lib.hid hk2
      have ci := l1In_any (n : Int) 1 (xs.length : Int)
      rw [hi] at ci
      rw [hg] at c
      have hx9 := hG.2.1
      clear hg hG hit hi hkb hi' hz0 hz1 hz2 hO hj hk0 hk1' hk2
      go_enter Try.func102, Try.ntmps102
      go_wp2_with fail
      refine c.mono ?_
      rintro e w1 ⟨rfl, hb1⟩
      have hv1 := hv.same hb1
      have hs1 := hb1.size
      clear c hv
      go_wp2_with fail
      refine (ci w1).mono ?_
      rintro e w1' ⟨rfl, rfl⟩
      clear ci
      go_wp2_with fail
      refine (l1Own_any _ _ _ hv1 hn).mono ?_
      rintro e w2 ⟨r2, rfl, ho2, hf2, hb2⟩
      have hB2 := hb1.trans (hb2.mono hb1.size)
      have hs2 := hB2.size
      have hI2 : In w.heap.size w2.heap.size r2 := fun g hg => ⟨Nat.le_trans hs1 (hf2 g hg), ho2.lt g hg⟩
      have hS3 := (SS.one (ty := 24) ho2 hI2).resolve_right (by omega)
      obtain ⟨a2, c2, rfl, _, _, _⟩ := ho2.shape
      have hown3 : (w2.alloc (.cells #[.slice a2 xs.length c2] 24)).ownsRow w.heap.size 24 1 (.slice (some ⟨w2.heap.size, 0, none⟩) 1 1) 1 [.slice a2 xs.length c2] := ⟨rfl, .inr ⟨w2.heap.size, 1, #[.slice a2 xs.length c2], rfl, hs2, heap_alloc_new w2 _, Nat.le_refl _, by simp [maxLen], rfl, rfl⟩⟩
      have hB3 := hB2.alloc hs2 (.cells #[.slice a2 xs.length c2] 24)
      have hv3 := (hv1.same hb2).alloc (.cells #[.slice a2 xs.length c2] 24)
      have HS3 := Lib.hid (show SS (w2.alloc (.cells #[.slice a2 xs.length c2] 24)) w.heap.size (w2.alloc (.cells #[.slice a2 xs.length c2] 24)).heap.size (.slice (some ⟨w2.heap.size, 0, none⟩) 1 1) [.slice a2 xs.length c2] (orbL (cardT n) xs (0 + 1)) by
        have := hS3.mono (Nat.le_refl _) (show w2.heap.size + 1 ≤ (w2.alloc (.cells #[.slice a2 xs.length c2] 24)).heap.size by simp)
        simpa [orbL, iterL] using this)
      have HO3 := Lib.hid hown3
      have HV3 := Lib.hid (show OwnI (w2.alloc (.cells #[.slice a2 xs.length c2] 24)) (.slice adv xs.length capv) (iterL (cardT n) 0 xs) from hv3)
      clear hb1 hb2 ho2 hf2 hv1 hI2 hB2 hS3 hown3 hv3
      go_wp2
      go_loopg [0, 7] 1000000002 (fun gk sv al wr => ∃ (m : Nat) (hs : List Value), m + gk = 1000000002 ∧ Hid ((orbL (cardT n) xs (m + 1)).Nodup) ∧ Hid (OwnI wr sv (iterL (cardT n) m xs)) ∧ Hid (SS wr w.heap.size wr.heap.size al hs (orbL (cardT n) xs (m + 1))) ∧ Hid (wr.ownsRow w.heap.size 24 1 al (m + 1) hs) ∧ hs.length = m + 1 ∧ Below w.heap.size w wr)
      case atStart => exact ⟨0, _, by omega, Lib.hid (by simp [orbL]), HV3, HS3, HO3, rfl, hB3⟩
      case round =>
        obtain ⟨m, hs, hmg, hnd, hsv, hS, hown, hhl, hbr⟩ := hrel
        clear HS3 HO3 HV3 hB3
        have HMG := Lib.hid hmg
        have HHL := Lib.hid hhl
        have hfew := orb_few HIT.out hnd.out
        have hq := HIT.out m
        obtain ⟨q, hqe⟩ : ∃ q, iterL (cardT n) m xs = q := ⟨_, rfl⟩
        have HQE := Lib.hid hqe
        have HNX := Lib.hid (show iterL (cardT n) (m + 1) xs = cardT n q by rw [← hqe]; rfl)
        rw [hqe] at hq hsv
        have hnq : n ≤ q.length := by rw [hq.2]; exact hkl
        have hq9 : q.length ≤ 9 := hq.1.2.1
        obtain ⟨ad, cap, rfl, hcc, hcm, _⟩ := hsv.out.shape
        obtain ⟨g, off, rfl, hgl, _, _⟩ := hsv.out.at (by omega)
        have hncap : n ≤ cap := by omega
        have H2 := Lib.hid (fun W => run_toI q.length cap n (some ⟨g, off, none⟩) hncap W)
        have hwz := hbr.size
        have HSV := Lib.hid hsv.out
        obtain ⟨D, hD⟩ : ∃ D, q.drop n = D := ⟨_, rfl⟩
        obtain ⟨T, hT⟩ : ∃ T, q.take n = T := ⟨_, rfl⟩
        obtain ⟨R, hR⟩ : ∃ R, T.reverse = R := ⟨_, rfl⟩
        have HD := Lib.hid hD
        have HTT := Lib.hid hT
        have HRR := Lib.hid hR
        have hdl : D.length ≤ 1048576 := by rw [← hD, List.length_drop]; omega
        have htn : T.length = n := by rw [← hT, List.length_take]; omega
        have htl : T.length ≤ 1048576 := by omega
        have hrn : R.length = n := by rw [← hR, List.length_reverse]; exact htn
        have HRN := Lib.hid hrn
        have HCT := Lib.hid (show D ++ R = cardT n q by rw [← hD, ← hR, ← hT]; rfl)
        have HCL := Lib.hid (show (cardT n q).length = q.length from cardT_length n q)
        have hcl : (cardT n q).length ≤ 1048576 := by rw [cardT_length]; omega
        have HLV := Lib.hid (show ∀ x ∈ orbL (cardT n) xs (m + 1), x.length ≤ 1048576 from fun x hx => by obtain ⟨j, _, rfl⟩ := mem_orbL.1 hx; rw [(HIT.out j).2]; exact hn)
        have hol : (orbL (cardT n) xs (m + 1)).length ≤ 1000000001 := by rw [orbL_length]; omega
        clear hmg hhl hqe hq hsv hD hR htn hrn
        have HF := Lib.hid (from_some (ad := ⟨g, off, none⟩) (cap := cap) hnq)
        obtain ⟨a0, c0, hf1, hf2⟩ := HF.out
        rw [HD.out] at hf1 hf2
        have H1 := Lib.hid hf1
        have H3 := Lib.hid hf2
        have hT0 : ∀ w', Below wr.heap.size wr w' → OwnI w' (.slice (some ⟨g, off, none⟩) n cap) T := fun w' hb => by rw [← hT]; exact OwnI.take (HSV.out.below hb (Nat.le_refl _)) hnq
        have HT0 := Lib.hid (show ∀ w', Below wr.heap.size wr w' → OwnI w' (.slice (some ⟨g, off, none⟩) n cap) T from hT0)
        clear hf1 hf2 HF hT0 hT
        go_wp2_with fail
        refine wp_region_held_drew (S := fun w' => Below wr.heap.size wr w') (by kernel_rfl) ((Below.refl _ _).drew) (fun hHeld => ?_)
        refine wpAnyH_take (i := 0) (v := ?_) rfl (by kernel_rfl) (by kernel_rfl) (by kernel_rfl) (fun _ _ _ h => h) (Or.inl ⟨by rfl, ?_⟩) (by assumption) ?_
        rotate_left
        · intro w _; go_simp; with_reducible rfl
        try simp only [List.getElem_toArray, List.getElem_cons_zero, Act.put, List.setIfInBounds_toArray, List.set_cons_zero, List.set_cons_succ]
        refine wpAnyH_take (i := 1) (v := ?_) rfl (by kernel_rfl) (by kernel_rfl) (by kernel_rfl) (fun _ _ _ h => h) (Or.inl ⟨by rfl, ?_⟩) (by assumption) ?_
        rotate_left
        · intro w _; go_simp; with_reducible rfl
        try simp only [List.getElem_toArray, List.getElem_cons_zero, List.getElem_cons_succ, Act.put, List.setIfInBounds_toArray, List.set_cons_zero, List.set_cons_succ]
        refine wpAnyH_take (i := 2) (v := .slice (some a0) D.length c0) rfl (by kernel_rfl) (by kernel_rfl) (by kernel_rfl) (fun _ _ _ h => h) (Or.inl ⟨by rfl, ?_⟩) (by assumption) ?_
        · intro w' _
          have h := H1.out w'
          simp [execOp, Act.eval, h]
        try simp only [List.getElem_toArray, List.getElem_cons_zero, List.getElem_cons_succ, Act.put, List.setIfInBounds_toArray, List.set_cons_zero, List.set_cons_succ]
        refine wpAnyH_take (i := 4) (v := ?_) rfl (by kernel_rfl) (by kernel_rfl) (by kernel_rfl) (fun _ _ _ h => h) (Or.inl ⟨by rfl, ?_⟩) (by assumption) ?_
        rotate_left
        · intro w _; go_simp; with_reducible rfl
        try simp only [List.getElem_toArray, List.getElem_cons_zero, List.getElem_cons_succ, Act.put, List.setIfInBounds_toArray, List.set_cons_zero, List.set_cons_succ]
        refine wpAnyH_take (i := 5) (v := ?_) rfl (by kernel_rfl) (by kernel_rfl) (by kernel_rfl) (fun _ _ _ h => h) (Or.inl ⟨by rfl, ?_⟩) (by assumption) ?_
        rotate_left
        · intro w _; go_simp; with_reducible rfl
        try simp only [List.getElem_toArray, List.getElem_cons_zero, List.getElem_cons_succ, Act.put, List.setIfInBounds_toArray, List.set_cons_zero, List.set_cons_succ]
        refine wpAnyH_take (i := 6) (v := .slice (some ⟨g, off, none⟩) n cap) rfl (by kernel_rfl) (by kernel_rfl) (by kernel_rfl) (fun _ _ _ h => h) (Or.inl ⟨by rfl, ?_⟩) (by assumption) ?_
        · intro w' _
          have h := H2.out w'
          simp [execOp, Act.eval, h]
        try simp only [List.getElem_toArray, List.getElem_cons_zero, List.getElem_cons_succ, Act.put, List.setIfInBounds_toArray, List.set_cons_zero, List.set_cons_succ]
        refine wpAnyH_ready (rs := [3]) (by kernel_rfl) (by simp) ?_
        refine AllReadyH.cons rfl (fun K hK => ?_) AllReadyH.nil
        go_simp
        refine (l1OwnRow_any a0 c0 D _ (H3.out _ (HSV.out.below hHeld (Nat.le_refl _))) hdl).mono ?_
        rintro e w5 ⟨r5, rfl, ho5, hb5⟩
        go_wp2_with fail
        refine hK.out _ _ (hHeld.trans (hb5.mono hHeld.size)) (fun hHeld => ?_)
        clear hK K
        have CR := stReverse_any (.slice (some ⟨g, off, none⟩) n cap) T w5 (HT0.out _ hHeld) htl
        rw [HRR.out] at CR
        have CRH := Lib.hid CR
        clear CR
        try simp only [List.getElem_toArray, List.getElem_cons_zero, List.getElem_cons_succ, Act.put, List.setIfInBounds_toArray, List.set_cons_zero, List.set_cons_succ]
        refine wpAnyH_ready (rs := [7]) (by kernel_rfl) (by simp) ?_
        refine AllReadyH.cons rfl (fun K hK => ?_) AllReadyH.nil
        go_simp
        refine (CRH.out).mono ?_
        rintro e w6 ⟨r6, rfl, ho6, hf6, hb6⟩
        go_wp2_with fail
        refine hK.out _ _ (hHeld.trans (hb6.mono hHeld.size)) (fun hHeld => ?_)
        clear hK K
        obtain ⟨a6, c6, rfl, hc6, _, hn6⟩ := ho6.shape
        have hown6 := ho5.kept (grown_of_below hb6 none) (by cases h : Value.ownBlock r5 with | none => exact .inl rfl | some g => exact .inr (by simp))
        have hrp : 0 < R.length := by rw [HRN.out]; omega
        obtain ⟨g6, off6, rfl, _, _, _⟩ := ho6.at (by omega)
        have hnews : ∀ j u, (R.map iv)[j]? = some u → w6.cell? ((⟨g6, off6, none⟩ : Addr).add j) = some u := by
          rcases Own.src ho6 with ⟨h, _⟩ | ⟨ad, h, hc⟩
          · cases h
          · cases h; exact hc
        have hrl : R.length ≤ 9 := by rw [HRN.out]; omega
        have hr5f : ∀ b, r5.ownBlock = some b → wr.heap.size ≤ b := fun b hb => (Own.of_row ho5).2 b hb
        have hwr6 : wr.heap.size ≤ w6.heap.size := hHeld.size
        try simp only [List.getElem_toArray, List.getElem_cons_zero, List.getElem_cons_succ, Act.put, List.setIfInBounds_toArray, List.set_cons_zero, List.set_cons_succ]
        refine wpAnyH_ready (rs := [8]) (by kernel_rfl) (by simp) ?_
        refine AllReadyH.cons rfl (fun K hK => ?_) AllReadyH.nil
        refine step_append_lies _ rfl _ _ 24 rfl wr.heap.size 3 i1 _ 1 8 Try.underlying24 HJ.out HK0.out HK1.out HK2.out rfl (by omega) r5 D.length (D.map iv) rfl hown6 ⟨g6, off6, none⟩ R.length c6 (R.map iv) rfl (by simp) hnews (by simp [Value.oneCell']) hrp (by unfold maxLen; omega) (by omega) hwr6 w6.heap.size rfl ?_
        intro g8 cap8 w8 hown8 hgr8 hat8 hlt8
        have hb8 : Below wr.heap.size wr w8 := hHeld.grown hgr8 hwr6 hr5f
        refine hK.out _ _ hb8 (fun hHeld => ?_)
        clear hK K
        try simp only [List.getElem_toArray, List.getElem_cons_zero, List.getElem_cons_succ, Act.put, List.setIfInBounds_toArray, List.set_cons_zero, List.set_cons_succ]
        refine wpAnyH_take (i := 9) (v := ?_) rfl (by kernel_rfl) (by kernel_rfl) (by kernel_rfl) (fun _ _ _ h => h) (Or.inl ⟨by rfl, ?_⟩) (by assumption) ?_
        rotate_left
        · intro w _; go_simp; with_reducible rfl
        try simp only [List.getElem_toArray, List.getElem_cons_zero, List.getElem_cons_succ, Act.put, List.setIfInBounds_toArray, List.set_cons_zero, List.set_cons_succ]
        refine wpAnyH_done (by kernel_rfl) ?_ _
        have ho8 : OwnI w8 (.slice (some ⟨g8, 0, none⟩) (D.length + R.length) cap8) (cardT n q) := by
          rw [← HCT.out]
          unfold OwnI
          rw [List.length_append, List.map_append]
          have := (Own.of_row hown8).1
          exact this
        have hf8 : From wr.heap.size (.slice (some ⟨g8, 0, none⟩) (D.length + R.length) cap8) := (Own.of_row hown8).2
        obtain ⟨m8, hm8⟩ : ∃ m8, D.length + R.length = m8 := ⟨_, rfl⟩
        rw [hm8] at ho8 hf8 ⊢
        have hS8 := Lib.hid (hS.out.below hb8 (Nat.le_refl _))
        have hown9 := hown.out.kept (grown_of_below hb8 none) (by cases h : Value.ownBlock u7 with | none => exact .inl rfl | some g => exact .inr (by simp))
        have hB8 := hbr.trans (hb8.mono hwz)
        have HI8 := Lib.hid (show In wr.heap.size w8.heap.size (.slice (some ⟨g8, 0, none⟩) m8 cap8) from fun g hg => ⟨hf8 g hg, ho8.lt g hg⟩)
        have hz8 := hb8.size
        clear hown8 hgr8 hat8 hlt8 hHeld hb8 hown6 ho5 hb5 ho6 hf6 hb6 hnews hr5f hS hown hbr hf8 hrp hrl hn6 hc6 hm8 CRH
        go_wp2_with fail
        refine (toSeen_any u7 (.slice (some ⟨g8, 0, none⟩) m8 cap8) hs (orbL (cardT n) xs (m + 1)) (cardT n q) w.heap.size wr.heap.size w8 hS8 ho8 hcl HLV hol).mono ?_
        rintro e w9 ⟨rfl, hb9⟩
        have hz9 := hb9.size
        have ho9 := ho8.same hb9
        have hS9 := Lib.hid (hS8.out.below hb9 (by omega))
        have hownA := hown9.kept (grown_of_below hb9 none) (by cases h : Value.ownBlock u7 with | none => exact .inl rfl | some g => exact .inr (by simp))
        have hB9 := hB8.trans (hb9.mono hB8.size)
        obtain ⟨ada, cpa, hval, hca, _, _⟩ := hS9.out.own.shape
        have hla : hs.length = m + 1 := HHL.out
        rw [hla] at hval
        subst hval
        clear hb9 ho8 hS8 hown9 hB8 hla hca
        by_cases hin : cardT n q ∈ orbL (cardT n) xs (m + 1)
        · obtain ⟨i, hi, e⟩ := mem_orbL.1 hin
          have hA : Again (cardT n) xs i (m + 1 - i) := ⟨by omega, by rw [show i + (m + 1 - i) = m + 1 by omega]; exact hnd.out, by rw [show i + (m + 1 - i) = m + 1 by omega, HNX.out, e]⟩
          have hu := HV.out.uniq hA
          have HI' := Lib.hid hu.1
          have HP' := Lib.hid hu.2
          have hidx : seenIdx (orbL (cardT n) xs (m + 1)) (cardT n q) = (i : Int) := by
            rw [seenIdx_yes hin, ← e, again_idx hnd.out hi]
          have HiM : (i : Int) ≤ m := by omega
          rw [hidx]
          clear hin e hA hu hi hidx
          go_wp2
          go_ret3
          exact ⟨by rw [HM1.out, HM2.out, HI'.out, HP'.out, HO.out, show ((m + 1 - i : Nat) : Int) = (m : Int) + 1 - (i : Int) by omega]; rfl, hB9⟩
        · rw [seenIdx_no hin]
          have HN2 := Lib.hid (show (orbL (cardT n) xs (m + 1 + 1)).Nodup by
            rw [orbL_succ, List.nodup_append]
            exact ⟨hnd.out, by simp, fun a ha b hb e => by rw [List.mem_singleton] at hb; subst hb e; rw [HNX.out] at ha; exact hin ha⟩)
          have HO2 := Lib.hid (show orbL (cardT n) xs (m + 1 + 1) = orbL (cardT n) xs (m + 1) ++ [cardT n q] by rw [orbL_succ, HNX.out])
          have HI9 := Lib.hid (show In wr.heap.size (w9.heap.size + 1) (.slice (some ⟨g8, 0, none⟩) m8 cap8) from HI8.out.mono (Nat.le_refl _) (by omega))
          have HSA := Lib.hid (hS9.out.below (below_new w9 (.cells #[.slice (some ⟨g8, 0, none⟩) m8 cap8] 24)) (by omega))
          have HOw := Lib.hid (ho9.alloc (.cells #[.slice (some ⟨g8, 0, none⟩) m8 cap8] 24))
          have hs9 := hB9.size
          clear hin HI8 hS9 ho9
          go_wp2_with (at_builtin; refine wpList_append_lies _ rfl _ _ 27 rfl w.heap.size 24 i0 _ 1 24 Try.underlying27 HI.out HZ0.out HZ1.out HZ2.out rfl (by omega) _ (m + 1) hs rfl (hownA.alloc _) _ 1 1 [.slice (some ⟨g8, 0, none⟩) m8 cap8] rfl (by simp) (World.news_of_block (heap_alloc_new _ _)) (by simp [Value.oneCell']) (by omega) (by unfold maxLen; omega) (by omega) (by simp; omega) (w9.heap.size + 1) (by simp) ?_)
          intro gB capB wB hownB hgrB hatB hltB
          have hSB := SS.app (cap := capB) HSA.out (by simp; omega) HOw.out (by simpa using HI9.out) (by rw [HHL.out]; exact hownB) hgrB (by simpa using hatB) hltB (by omega)
          rw [HHL.out, ← HO2.out] at hSB
          have hBB := (hB9.alloc hs9 (.cells #[.slice (some ⟨g8, 0, none⟩) m8 cap8] 24)).grown hgrB (by simp; omega) (fun b hb => (HSA.out.inn b hb).1)
          have HSB := Lib.hid hSB
          have HWB := Lib.hid hownB
          have HLB := Lib.hid (show (hs ++ [Value.slice (some ⟨g8, 0, none⟩) m8 cap8]).length = m + 1 + 1 by rw [List.length_append, HHL.out]; rfl)
          have hap : ∀ g, (Value.slice (some ⟨g8, 0, none⟩) m8 cap8).ownBlock = some g → Value.ownBlock (.slice ada (m + 1) cpa) ≠ some g := fun g h1 h2 => by
            have := (HI9.out g h1).1
            have := (HSA.out.inn g h2).2
            omega
          have HVB := Lib.hid (show OwnI wB (.slice (some ⟨g8, 0, none⟩) m8 cap8) (iterL (cardT n) (m + 1) xs) by rw [HNX.out]; exact HOw.out.grown hgrB hap)
          clear hSB hgrB hatB hB9 hownA hownB hap
          go_wp2
          go_roundg (gk - 1)
          case measure => have := HMG.out; omega
          case rel => exact ⟨m + 1, _, by have := HMG.out; omega, HN2, HVB, HSB, HWB, HLB.out, hBB⟩
    | false =>
      have HO := Lib.hid (show okCard xs k = false by unfold okCard; rw [hg, hi]; rfl)
      have HM1 := Lib.hid (show mCardFirst xs k = 0 from if_neg (by rw [HO.out]; exact Bool.false_ne_true))
      have HM2 := Lib.hid (show mCardMore xs k = 0 from if_neg (by rw [HO.out]; exact Bool.false_ne_true))
      have ci := l1In_any k 1 (xs.length : Int)
      rw [hi] at ci
      rw [hg] at c
      clear hg hi
      go_enter Try.func102, Try.ntmps102
      go_wp2_with fail
      refine c.mono ?_
      rintro e w1 ⟨rfl, hb1⟩
      clear c hv
      go_wp2_with fail
      refine (ci w1).mono ?_
      rintro e w1' ⟨rfl, rfl⟩
      clear ci
      go_wp2
      go_ret3
      exact ⟨by rw [HM1.out, HM2.out, HO.out]; rfl, hb1⟩
  | false =>
    have HO := Lib.hid (show okCard xs k = false by unfold okCard; rw [hg]; rfl)
    have HM1 := Lib.hid (show mCardFirst xs k = 0 from if_neg (by rw [HO.out]; exact Bool.false_ne_true))
    have HM2 := Lib.hid (show mCardMore xs k = 0 from if_neg (by rw [HO.out]; exact Bool.false_ne_true))
    rw [hg] at c
    clear hg
    go_enter Try.func102, Try.ntmps102
    go_wp2_with fail
    refine c.mono ?_
    rintro e w1 ⟨rfl, hb1⟩
    clear c hv
    go_wp2
    go_ret3
    exact ⟨by rw [HM1.out, HM2.out, HO.out]; rfl, hb1⟩

end Go.Proofs.Ytlomdnldokbjoaa

