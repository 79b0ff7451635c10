import Derived.Test.YtfcbaegkppkfkaaMd
namespace Go.Proofs.Ytfcbaegkppkfkaa
open Go Go.RowKit Go.Pan

set_option maxHeartbeats 8000000 in
set_option maxRecDepth 100000 in
theorem inTable_any (v : Value) (B N : Nat) (hs : List Value) (R : List (List Int)) (w : World) (hv : SS w B N v hs R) (hN : N ≤ w.heap.size) (ht : R.length + pre R R.length ≤ 1048576) :
    Calls Try.prog 35 #[v] w fun e w' => e = .returned (.bool (mAreRows R)) ∧ Below w.heap.size w w' := by
  have hn : R.length ≤ 1048576 := by omega
  have c1 := inShape_any v B N hs R w hv hN hn
  obtain ⟨ad, cap, rfl, _, _, _⟩ := hv.own.shape
  have HV := Lib.hid hv
  have HHL := Lib.hid hv.len
  cases hsh : shpB (lensL R) with
  | false =>
    have HNO := Lib.hid (show mAreRows R = false by unfold mAreRows; rw [hsh]; rfl)
    clear hv
    go_enter Try.func35, Try.ntmps35
    go_wp2_with fail
    refine (c1).mono ?_
    rintro e w1 ⟨r1, rfl, ho1, hf1, hb1⟩
    have c2 := inShapeGood_any r1 (lensL R) w1 ho1 (by rw [lensL_length]; exact hn)
    rw [hsh] at c2
    clear c1 hsh
    go_wp2_with fail
    refine (c2).mono ?_
    rintro e w2 ⟨rfl, hb2⟩
    have hB2 := hb1.trans (hb2.mono hb1.size)
    clear ho1 hf1 hb1 hb2 c2
    go_wp2
    go_ret
    exact ⟨by rw [HNO.out]; rfl, hB2⟩
  | true =>
    have h9 := lens_few hsh
    have hT9 := few_all hsh
    have HLE := Lib.hid (fun k (hk : k < R.length) (h0 : 0 < k) => lens_le hsh hk h0)
    have HMM := Lib.hid (show mAreRows R = (goodB R.flatten && okR R) by unfold mAreRows; rw [hsh, Bool.true_and])
    have HGA := Lib.hid (fun h => good_all hsh h)
    have HPM := Lib.hid (fun k => pre_le_all R k)
    have HBR := Lib.hid (fun x (hx : x ∈ R.flatten) h => bad_range hx h)
    clear hv
    go_enter Try.func35, Try.ntmps35
    go_wp2_with fail
    refine (c1).mono ?_
    rintro e w1 ⟨r1, rfl, ho1, hf1, hb1⟩
    have c2 := inShapeGood_any r1 (lensL R) w1 ho1 (by rw [lensL_length]; exact hn)
    rw [hsh] at c2
    clear c1 hsh
    go_wp2_with fail
    refine (c2).mono ?_
    rintro e w2 ⟨rfl, hb2⟩
    have hB2 := hb1.trans (hb2.mono hb1.size)
    clear ho1 hf1 hb1 hb2 c2
    obtain ⟨T, hTe⟩ : ∃ T, pre R R.length = T := ⟨_, rfl⟩
    have HTE := Lib.hid hTe
    rw [hTe] at hT9 HGA HPM HBR
    obtain ⟨n, hnn⟩ : ∃ n, hs.length = n := ⟨_, rfl⟩
    have HRN := Lib.hid (show R.length = n by rw [← HHL.out]; exact hnn)
    rw [hnn]
    rw [hnn] at HV
    have hn9 : n ≤ 9 := by rw [← HRN.out]; exact h9
    clear hnn h9 hTe ht
    go_wp2
    go_loopw [3, 6, 17] (fun sv _ iv' wr => ∃ k : Nat, k ≤ n ∧ iv' = .int .i64 k ∧ sv = .int .i64 (pre R k : Nat) ∧ wr = w2) (fun _ _ iv' _ => n - (intOf iv').toNat)
    case atStart => exact ⟨0, Nat.zero_le _, rfl, by simp [pre], rfl⟩
    case round =>
      obtain ⟨k, hk, rfl, rfl, rfl⟩ := hrel
      by_cases hlt : k < n
      · have hlt' : (k : Int) < (n : Int) := by omega
        have hkR : k < R.length := by rw [HRN.out]; exact hlt
        obtain ⟨g, off, rfl, u, hu, hOu, _, _, hcu⟩ := (HV.out.below hB2 hN).at k hkR
        obtain ⟨a2, c2, rfl, _, _, _⟩ := hOu.shape
        have hps := pre_succ R k hkR
        have hpb := HPM.out (k + 1)
        obtain ⟨l, hl⟩ : ∃ l, R[k].length = l := ⟨_, rfl⟩
        obtain ⟨q, hq⟩ : ∃ q, pre R k = q := ⟨_, rfl⟩
        rw [hl] at hcu hps
        rw [hq] at hps ⊢
        have hs1 : IntKind.i64.wrap ((q : Int) + (l : Int)) = (q : Int) + (l : Int) := IntWalk.i64_in _ (by omega)
        have HPS := Lib.hid (show ((pre R (k + 1) : Nat) : Int) = (q : Int) + (l : Int) by rw [hps]; push_cast; rfl)
        clear hu hOu hl hq hps hpb
        go_wp2
        go_roundw
        case rel => exact ⟨k + 1, by omega, by go_num, by rw [HPS.out], by first | rfl | trivial⟩
        case measure => simp [intOf] <;> omega
      · obtain rfl : n = k := by omega
        have HT2 := Lib.hid (show pre R n = T by rw [← HTE.out, HRN.out])
        rw [HT2.out]
        have hge0 : (n : Int) ≤ (n : Int) := Int.le_refl _
        obtain ⟨wz, rfl⟩ : ∃ z, z = wr := ⟨_, rfl⟩
        have hbr := hB2
        go_wp2
        go_loopw [4, 7, 8, 9, 10, 28] (fun sv _ _ _ _ iv' wr => ∃ k : Nat, k ≤ n ∧ iv' = .int .i64 k ∧ sv = .int .i64 (mskN (R.take k).flatten : Nat) ∧ Hid (GPr T (R.take k).flatten) ∧ Hid (∀ k', k' < k → ∀ j, j < (R.getD k' []).length → badR R k' j = false) ∧ wr = wz) (fun _ _ _ _ _ iv' _ => n - (intOf iv').toNat)
        case atStart => exact ⟨0, Nat.zero_le _, rfl, by simp [mskN], Lib.hid ⟨by simp, by simp⟩, Lib.hid (fun k' h => by omega), rfl⟩
        case round =>
          obtain ⟨k, hk, rfl, rfl, hG, hok, rfl⟩ := hrel
          by_cases hlt : k < n
          · have hkR : k < R.length := by rw [HRN.out]; exact hlt
            have hlt' : (k : Int) < (n : Int) := by omega
            obtain ⟨g, off, rfl, u, hu, hOu, _, _, hcu⟩ := (HV.out.below hbr hN).at k hkR
            obtain ⟨a2, c2, rfl, hlc, _, _⟩ := hOu.shape
            have hgd : R.getD k [] = R[k] := by simp [hkR]
            have hl1 := row_le_all R k hkR
            have HFN := Lib.hid (show (R.take (k + 1)).flatten = (R.take k).flatten ++ R[k].take R[k].length by
              rw [List.take_succ_eq_append_getElem hkR, List.flatten_append, List.take_length]; simp)
            obtain ⟨l, hl⟩ : ∃ l, R[k].length = l := ⟨_, rfl⟩
            rw [hl] at hl1 HFN
            have HLL := Lib.hid hl
            have HOU := Lib.hid hOu
            have HGD := Lib.hid hgd
            rw [HTE.out] at hl1
            rw [hl] at hcu
            have HG0 := Lib.hid (show GPr T ((R.take k).flatten ++ R[k].take 0) by rw [List.take_zero, List.append_nil]; exact hG.out)
            have HS0 := Lib.hid (show mskN (R.take k).flatten = mskN ((R.take k).flatten ++ R[k].take 0) by rw [List.take_zero, List.append_nil])
            clear hu hOu hgd hl hlc hG
            go_wp2
            go_loopw [4, 9, 10, 35] (fun sv _ _ iv' wi => ∃ j : Nat, j ≤ l ∧ iv' = .int .i64 j ∧ sv = .int .i64 (mskN ((R.take k).flatten ++ R[k].take j) : Nat) ∧ Hid (GPr T ((R.take k).flatten ++ R[k].take j)) ∧ Hid (∀ j', j' < j → badR R k j' = false) ∧ wi = wr) (fun _ _ _ iv' _ => l - (intOf iv').toNat)
            case atStart => exact ⟨0, Nat.zero_le _, rfl, by rw [HS0.out], HG0, Lib.hid (fun j' h => by omega), rfl⟩
            case round =>
              obtain ⟨j, hj, rfl, rfl, hG, hok2, hww⟩ := hrel
              subst hww
              clear HS0 HG0
              by_cases hjl : j < l
              · have hjl' : (j : Int) < (l : Int) := by omega
                have hjR : j < R[k].length := by rw [HLL.out]; exact hjl
                have hjd : j < (R.getD k []).length := by rw [HGD.out]; exact hjR
                have hOu := HOU.out
                obtain ⟨ar, cr, er, hcr, _, _⟩ := hOu.shape
                simp only [Value.slice.injEq] at er
                obtain ⟨rfl, _, rfl⟩ := er
                obtain ⟨g2, o2, rfl, _, hc2, _⟩ := Own.at hOu (by omega)
                have hx := hc2 j (by omega)
                rw [List.getElem?_map, List.getElem?_eq_getElem hjR, atR_get hkR hjR, Option.map_some] at hx
                obtain ⟨rest, hrest⟩ := flat_pre R hkR hjR
                rw [atR_get hkR hjR] at hrest
                obtain ⟨x, hxe⟩ : ∃ x, atR R k j = x := ⟨_, rfl⟩
                have HXE := Lib.hid hxe
                have hts : R[k].take (j + 1) = R[k].take j ++ [x] := by rw [List.take_add_one, List.getElem?_eq_getElem hjR, atR_get hkR hjR, hxe]; rfl
                rw [hxe] at hx hrest
                obtain ⟨P, hP⟩ : ∃ P, (R.take k).flatten ++ R[k].take j = P := ⟨_, rfl⟩
                have HTS := Lib.hid (show (R.take k).flatten ++ R[k].take (j + 1) = P ++ [x] by rw [hts, ← List.append_assoc, hP])
                have HPE := Lib.hid hP
                rw [hP] at hG hrest ⊢
                have hxm : x ∈ R.flatten := by rw [← hrest]; simp
                have cI := l1In_any x 1 (T : Int) wr
                cases hir : inB x 1 (T : Int) with
                | false =>
                  have HNO := Lib.hid (show mAreRows R = false by
                    rw [HMM.out, HBR.out x hxm (fun h => by rw [inB_true h] at hir; cases hir), Bool.false_and])
                  rw [hir] at cI
                  clear hir hxe hc2 hOu hrest hxm hts hP
                  go_wp2_with fail
                  refine cI.mono ?_
                  rintro e5 w5 ⟨rfl, rfl⟩
                  clear cI
                  go_wp2
                  go_ret
                  exact ⟨by rw [HNO.out]; rfl, hbr⟩
                | true =>
                  have hxr := inB_iff.1 hir
                  rw [hir] at cI
                  have hx0 : 0 ≤ x := by omega
                  have hx9 : x ≤ 9 := by omega
                  have hml := mskN_lt P (fun y hy => by have := hG.out.1 y hy; omega)
                  have hdv := mskN_div P hx0 (fun y hy => by have := hG.out.1 y hy; omega)
                  have HMS := Lib.hid (mskN_snoc P x)
                  have hp1 : 2 ^ x.toNat < 1024 := Nat.pow_lt_pow_right (m := x.toNat) (n := 10) (by omega) (by omega)
                  obtain ⟨M, hM⟩ : ∃ M, mskN P = M := ⟨_, rfl⟩
                  rw [hM] at hml hdv HMS ⊢
                  have hshr : ∀ u, (Op.shift .shr .i64 (M : Int) .i64 x).run Try.prog u = .ok (.int .i64 ((M / 2 ^ x.toNat : Nat) : Int)) u := fun u => run_shrX M x u hx0 hx9
                  have hshl : ∀ u, (Op.shift .shl .i64 1 .i64 x).run Try.prog u = .ok (.int .i64 ((2 ^ x.toNat : Nat) : Int)) u := fun u => run_shlX x u hx0 hx9
                  have hor : ∀ u, (Op.intBits .or .i64 (M : Int) ((2 ^ x.toNat : Nat) : Int)).run Try.prog u = .ok (.int .i64 ((M ||| 2 ^ x.toNat : Nat) : Int)) u := fun u => run_orX M _ u hml hp1
                  obtain ⟨D, hD⟩ : ∃ D, M / 2 ^ x.toNat = D := ⟨_, rfl⟩
                  obtain ⟨S, hS⟩ : ∃ S, 2 ^ x.toNat = S := ⟨_, rfl⟩
                  obtain ⟨M2, hM2⟩ : ∃ M2, M ||| S = M2 := ⟨_, rfl⟩
                  rw [hS, hM2] at HMS
                  rw [hD] at hshr hdv
                  rw [hS] at hshl hor
                  rw [hM2] at hor
                  have hqd : (M : Int) / 2 ^ x.toNat = (D : Int) := by
                    rw [← hD]
                    push_cast
                    rfl
                  have htm : ((D : Int).tmod 2) = ((D % 2 : Nat) : Int) := by rw [Int.tmod_eq_emod_of_nonneg (by omega)]; push_cast; rfl
                  have hSi : (2 : Int) ^ x.toNat = (S : Int) := by rw [← hS]; push_cast; rfl
                  have hSl : S < 1024 := by rw [← hS]; exact hp1
                  have hwr : wrap64 (2 ^ x.toNat) = (S : Int) := by rw [hSi]; unfold wrap64; omega
                  have hor2 : Go.bits BinOp.or IntKind.i64 (M : Int) (S : Int) = (M2 : Int) := by
                    have h := hor wr
                    rw [Go.intBits_or] at h
                    simpa using h
                  have hDl : D ≤ 1024 := by rw [← hD]; exact Nat.le_trans (Nat.div_le_self _ _) (by omega)
                  have HGN := Lib.hid (show x ∉ P → GPr T (P ++ [x]) from fun hni => ⟨fun y hy => by
                    rcases List.mem_append.1 hy with h | h
                    · exact hG.out.1 y h
                    · rw [List.mem_singleton.1 h]; exact hxr, List.nodup_append.2 ⟨hG.out.2, by simp, fun a ha b hb e => by
                      rw [List.mem_singleton.1 hb] at e
                      exact hni (by rw [← e]; exact ha)⟩⟩)
                  by_cases hin : x ∈ P
                  · have HNO := Lib.hid (show mAreRows R = false by rw [HMM.out, bad_twice hrest hin, Bool.false_and])
                    have hr1 : ((D : Int) % 2 == 1) = true := by have := hdv.2 hin; rw [beq_iff_eq]; omega
                    have hr2 : (D : Int) % 2 = 1 := by have := hdv.2 hin; omega
                    clear hir hxe hc2 hOu hrest hxm hts hP hM hD hS hM2 hdv hor hshl hin hshr htm hSi hSl hwr hor2
                    go_wp2_with fail
                    refine cI.mono ?_
                    rintro e5 w5 ⟨rfl, rfl⟩
                    clear cI
                    go_wp2
                    go_ret
                    exact ⟨by rw [HNO.out]; rfl, hbr⟩
                  · have hr2 : ¬ (D : Int) % 2 = 1 := by
                      have : ¬ D % 2 = 1 := fun h => hin (hdv.1 h)
                      omega
                    have hr1 : ((D : Int) % 2 == 1) = false := by rw [beq_eq_false_iff_ne]; exact hr2
                    have HNI := Lib.hid (show x ∉ (R.take k).flatten ++ R[k].take j by rw [HPE.out]; exact hin)
                    have HGN := Lib.hid (show GPr T ((R.take k).flatten ++ R[k].take (j + 1)) by rw [HTS.out]; exact HGN.out hin)
                    clear hir hrest hxm hts hP hM hD hS hM2 hdv hin hG hshr htm hSi hSl hor hshl
                    have HC2 := Lib.hid hc2
                    clear hxe hc2 hOu
                    go_wp2_with fail
                    refine cI.mono ?_
                    rintro e5 w5 ⟨rfl, rfl⟩
                    clear cI
                    by_cases hj0 : 0 < j
                    · have hj0' : (0 : Int) < (j : Int) := by omega
                      obtain ⟨j1, hj1⟩ : ∃ j1, j = j1 + 1 := ⟨j - 1, by omega⟩
                      have hs1 : IntKind.i64.wrap ((j : Int) - 1) = (j1 : Int) := by rw [hj1]; push_cast; rw [Int.add_sub_cancel]; exact IntWalk.i64_in _ (by omega)
                      have hj1R : j1 < R[k].length := by omega
                      have hj1l : (j1 : Int) < (l : Int) := by omega
                      have hy := HC2.out j1 (by omega)
                      rw [List.getElem?_map, List.getElem?_eq_getElem hj1R, atR_get hkR hj1R, Option.map_some] at hy
                      have hym : R[k][j1] ∈ R[k].take j := List.mem_take_iff_getElem.2 ⟨j1, by omega, rfl⟩
                      rw [atR_get hkR hj1R] at hym
                      obtain ⟨y, hye⟩ : ∃ y, atR R k j1 = y := ⟨_, rfl⟩
                      have HYE := Lib.hid (show atR R k (j - 1) = y by rw [hj1, Nat.add_sub_cancel]; exact hye)
                      rw [hye] at hy hym
                      have hyne : y ≠ x := fun e => HNI.out (List.mem_append_right _ (by rw [← e]; exact hym))
                      clear hye hj1 hym
                      by_cases hyx : x ≤ y
                      · have hyx' : y > x := by omega
                        have HNO := Lib.hid (show mAreRows R = false by
                          rw [HMM.out, okR_no hkR hjd (by
                            unfold badR
                            rw [HYE.out, HXE.out, decide_eq_true hj0, decide_eq_true hyx', Bool.and_self, Bool.true_or]), Bool.and_false])
                        clear hyx' hyne
                        go_wp2
                        go_ret
                        exact ⟨by rw [HNO.out]; rfl, hbr⟩
                      · have hyx' : y < x := by omega
                        clear hyne
                        by_cases hk0 : 0 < k
                        · have hk0' : (0 : Int) < (k : Int) := by omega
                          obtain ⟨k1, hk1⟩ : ∃ k1, k = k1 + 1 := ⟨k - 1, by omega⟩
                          have hs2 : IntKind.i64.wrap ((k : Int) - 1) = (k1 : Int) := by rw [hk1]; push_cast; rw [Int.add_sub_cancel]; exact IntWalk.i64_in _ (by omega)
                          have hk1R : k1 < R.length := by omega
                          have hk1n : (k1 : Int) < (n : Int) := by omega
                          obtain ⟨gb, ob, eb, u3, hu3, hOu3, _, _, hcu3⟩ := (HV.out.below hbr hN).at k1 hk1R
                          simp only [Option.some.injEq, Addr.mk.injEq, and_true] at eb
                          obtain ⟨rfl, rfl⟩ := eb
                          have hlen3 : R[k].length ≤ R[k1].length := by
                            have h := HLE.out k hkR hk0
                            have e : R[k - 1]'(by omega) = R[k1] := by congr 1; omega
                            rw [e] at h
                            exact h
                          have hj3 : j < R[k1].length := by omega
                          obtain ⟨a3, c3, rfl, _, _, _⟩ := hOu3.shape
                          obtain ⟨g3, o3, rfl, _, hc3, _⟩ := Own.at hOu3 (by omega)
                          have hz := hc3 j (by omega)
                          have hzm : R[k1][j] ∈ (R.take k).flatten := List.mem_flatten.2 ⟨R[k1], List.mem_take_iff_getElem.2 ⟨k1, by omega, rfl⟩, List.getElem_mem hj3⟩
                          rw [atR_get hk1R hj3] at hzm
                          rw [List.getElem?_map, List.getElem?_eq_getElem hj3, atR_get hk1R hj3, Option.map_some] at hz
                          have hj3' : (j : Int) < (R[k1].length : Int) := by omega
                          obtain ⟨l3, hl3⟩ : ∃ l3, R[k1].length = l3 := ⟨_, rfl⟩
                          rw [hl3] at hcu3 hj3'
                          obtain ⟨z, hze⟩ : ∃ z, atR R k1 j = z := ⟨_, rfl⟩
                          have HZE := Lib.hid (show atR R (k - 1) j = z by rw [hk1, Nat.add_sub_cancel]; exact hze)
                          rw [hze] at hz hzm
                          have hzne : z ≠ x := fun e => HNI.out (List.mem_append_left _ (by rw [← e]; exact hzm))
                          clear hk1 hzm
                          by_cases hzx : x ≤ z
                          · have hzx' : z > x := by omega
                            have HNO := Lib.hid (show mAreRows R = false by
                              rw [HMM.out, okR_no hkR hjd (by
                                unfold badR
                                rw [HZE.out, HXE.out, decide_eq_true hk0, decide_eq_true hzx', Bool.and_self, Bool.or_true]), Bool.and_false])
                            clear hu3 hOu3 hc3 hl3 hze hzx' hzne
                            go_wp2
                            go_ret
                            exact ⟨by rw [HNO.out]; rfl, hbr⟩
                          · have hzx' : z < x := by omega
                            have HGO := Lib.hid (show badR R k j = false by
                              unfold badR
                              rw [HZE.out, HXE.out, decide_eq_false (show ¬ z > x by omega), Bool.and_false, Bool.or_false]
                              rw [HYE.out, decide_eq_false (show ¬ y > x by omega), Bool.and_false])
                            have HOK := Lib.hid (show ∀ j', j' < j + 1 → badR R k j' = false from fun j' h => by
                              by_cases e : j' = j
                              · rw [e]; exact HGO.out
                              · exact hok2.out j' (by omega))
                            clear hu3 hOu3 hc3 hl3 hze hzx hzne
                            go_wp2
                            go_roundw
                            case rel => exact ⟨j + 1, by omega, by go_num, by rw [HTS.out, HMS.out], HGN, HOK, by first | rfl | trivial⟩
                            case measure => simp [intOf] <;> omega
                        · have hk0' : (k : Int) ≤ 0 := by omega
                          have HGO := Lib.hid (show badR R k j = false by
                            unfold badR
                            rw [HXE.out, decide_eq_false hk0, Bool.false_and, Bool.or_false]
                            rw [HYE.out, decide_eq_false (show ¬ y > x by omega), Bool.and_false])
                          have HOK := Lib.hid (show ∀ j', j' < j + 1 → badR R k j' = false from fun j' h => by
                            by_cases e : j' = j
                            · rw [e]; exact HGO.out
                            · exact hok2.out j' (by omega))
                          clear hk0
                          go_wp2
                          go_roundw
                          case rel => exact ⟨j + 1, by omega, by go_num, by rw [HTS.out, HMS.out], HGN, HOK, by first | rfl | trivial⟩
                          case measure => simp [intOf] <;> omega
                    · have hj0' : (j : Int) ≤ 0 := by omega
                      by_cases hk0 : 0 < k
                      · have hk0' : (0 : Int) < (k : Int) := by omega
                        obtain ⟨k1, hk1⟩ : ∃ k1, k = k1 + 1 := ⟨k - 1, by omega⟩
                        have hs2 : IntKind.i64.wrap ((k : Int) - 1) = (k1 : Int) := by rw [hk1]; push_cast; rw [Int.add_sub_cancel]; exact IntWalk.i64_in _ (by omega)
                        have hk1R : k1 < R.length := by omega
                        have hk1n : (k1 : Int) < (n : Int) := by omega
                        obtain ⟨gb, ob, eb, u3, hu3, hOu3, _, _, hcu3⟩ := (HV.out.below hbr hN).at k1 hk1R
                        simp only [Option.some.injEq, Addr.mk.injEq, and_true] at eb
                        obtain ⟨rfl, rfl⟩ := eb
                        have hlen3 : R[k].length ≤ R[k1].length := by
                          have h := HLE.out k hkR hk0
                          have e : R[k - 1]'(by omega) = R[k1] := by congr 1; omega
                          rw [e] at h
                          exact h
                        have hj3 : j < R[k1].length := by omega
                        obtain ⟨a3, c3, rfl, _, _, _⟩ := hOu3.shape
                        obtain ⟨g3, o3, rfl, _, hc3, _⟩ := Own.at hOu3 (by omega)
                        have hz := hc3 j (by omega)
                        have hzm : R[k1][j] ∈ (R.take k).flatten := List.mem_flatten.2 ⟨R[k1], List.mem_take_iff_getElem.2 ⟨k1, by omega, rfl⟩, List.getElem_mem hj3⟩
                        rw [atR_get hk1R hj3] at hzm
                        rw [List.getElem?_map, List.getElem?_eq_getElem hj3, atR_get hk1R hj3, Option.map_some] at hz
                        have hj3' : (j : Int) < (R[k1].length : Int) := by omega
                        obtain ⟨l3, hl3⟩ : ∃ l3, R[k1].length = l3 := ⟨_, rfl⟩
                        rw [hl3] at hcu3 hj3'
                        obtain ⟨z, hze⟩ : ∃ z, atR R k1 j = z := ⟨_, rfl⟩
                        have HZE := Lib.hid (show atR R (k - 1) j = z by rw [hk1, Nat.add_sub_cancel]; exact hze)
                        rw [hze] at hz hzm
                        have hzne : z ≠ x := fun e => HNI.out (List.mem_append_left _ (by rw [← e]; exact hzm))
                        clear hk1 hzm
                        by_cases hzx : x ≤ z
                        · have hzx' : z > x := by omega
                          have HNO := Lib.hid (show mAreRows R = false by
                            rw [HMM.out, okR_no hkR hjd (by
                              unfold badR
                              rw [HZE.out, HXE.out, decide_eq_true hk0, decide_eq_true hzx', Bool.and_self, Bool.or_true]), Bool.and_false])
                          clear hu3 hOu3 hc3 hl3 hze hzx' hzne
                          go_wp2
                          go_ret
                          exact ⟨by rw [HNO.out]; rfl, hbr⟩
                        · have hzx' : z < x := by omega
                          have HGO := Lib.hid (show badR R k j = false by
                            unfold badR
                            rw [HZE.out, HXE.out, decide_eq_false (show ¬ z > x by omega), Bool.and_false, Bool.or_false]
                            rw [decide_eq_false hj0, Bool.false_and])
                          have HOK := Lib.hid (show ∀ j', j' < j + 1 → badR R k j' = false from fun j' h => by
                            by_cases e : j' = j
                            · rw [e]; exact HGO.out
                            · exact hok2.out j' (by omega))
                          clear hu3 hOu3 hc3 hl3 hze hzx hzne
                          go_wp2
                          go_roundw
                          case rel => exact ⟨j + 1, by omega, by go_num, by rw [HTS.out, HMS.out], HGN, HOK, by first | rfl | trivial⟩
                          case measure => simp [intOf] <;> omega
                      · have hk0' : (k : Int) ≤ 0 := by omega
                        have HGO := Lib.hid (show badR R k j = false by
                          unfold badR
                          rw [HXE.out, decide_eq_false hk0, Bool.false_and, Bool.or_false]
                          rw [decide_eq_false hj0, Bool.false_and])
                        have HOK := Lib.hid (show ∀ j', j' < j + 1 → badR R k j' = false from fun j' h => by
                          by_cases e : j' = j
                          · rw [e]; exact HGO.out
                          · exact hok2.out j' (by omega))
                        clear hk0
                        go_wp2
                        go_roundw
                        case rel => exact ⟨j + 1, by omega, by go_num, by rw [HTS.out, HMS.out], HGN, HOK, by first | rfl | trivial⟩
                        case measure => simp [intOf] <;> omega
              · obtain rfl : j = l := by omega
                have HOK := Lib.hid (show ∀ k', k' < k + 1 → ∀ j', j' < (R.getD k' []).length → badR R k' j' = false from fun k' h j' hj' => by
                  by_cases e : k' = k
                  · rw [e] at hj' ⊢
                    rw [HGD.out, HLL.out] at hj'
                    exact hok2.out j' hj'
                  · exact hok.out k' (by omega) j' hj')
                have HGG := Lib.hid (show GPr T (R.take (k + 1)).flatten by rw [HFN.out]; exact hG.out)
                have hge2 : (j : Int) ≤ (j : Int) := Int.le_refl _
                clear hok2 hG
                go_wp2
                go_roundw
                case rel => exact ⟨k + 1, by omega, by go_num, by rw [HFN.out], HGG, HOK, by first | rfl | trivial⟩
                case measure => simp [intOf] <;> omega
          · obtain rfl : k = n := by omega
            have HYES := Lib.hid (show mAreRows R = true by
              rw [HMM.out]
              have h1 : goodB R.flatten = true := HGA.out (by
                have h := hG.out
                rw [← HRN.out, List.take_length] at h
                exact h)
              have h2 : okR R = true := by
                unfold okR
                rw [decide_eq_true]
                intro k' hk' j hj
                exact hok.out k' (by rw [← HRN.out]; exact hk') j hj
              rw [h1, h2]; rfl)
            have hge : (k : Int) ≤ (k : Int) := Int.le_refl _
            clear hok hG
            go_wp2
            go_ret
            exact ⟨by rw [HYES.out]; rfl, hbr⟩

end Go.Proofs.Ytfcbaegkppkfkaa
