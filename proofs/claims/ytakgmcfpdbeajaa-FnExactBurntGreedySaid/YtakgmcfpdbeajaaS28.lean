import Derived.Test.YtakgmcfpdbeajaaS27
namespace Go.Proofs.Ytakgmcfpdbeajaa
open Go Go.RowKit Go.Pan

set_option maxRecDepth 100000 in
set_option maxHeartbeats 4000000 in
theorem sBurntGreedy_any (v : Value) (xs : List Int) (w : World) (hv : OwnI w v xs) (hn : xs.length ≤ 1048576) :
    Calls Try.prog 46 #[v] w fun e w' => ∃ r, e = .returned (.tuple #[r, .bool (burntB xs)]) ∧ OwnI w' r (mBurntGreedy xs) ∧ From w.heap.size r ∧ Below w.heap.size w w' := by
  obtain ⟨ad, cap, rfl, hc, _, _⟩ := hv.shape
  cases hg : burntB xs with
  | true =>
    have hBu := burntB_iff.1 hg
    have hl := hBu.len
    have hl9 := hl.2
    have HB := Lib.hid hBu
    have HG := Lib.hid hg
    have HM := Lib.hid (show mBurntGreedy xs = bgrTo xs xs.length from if_pos hg)
    clear hBu hg hl
    go_enter Try.func46, Try.ntmps46
    go_wp2_with fail
    refine (buGood_any _ _ _ hv hn).mono ?_
    rintro e w1 ⟨rfl, hb⟩
    rw [HG.out]
    go_wp2_with fail
    refine (l1Own_any _ _ _ (hv.same hb) hn).mono ?_
    rintro e w2 ⟨r0, rfl, ho0, hf0, hb0⟩
    have hB0 := hb.trans (hb0.mono hb.size)
    have hf00 : From w.heap.size r0 := hf0.mono hb.size
    clear hb hb0 hf0 hv
    go_wp2
    go_loopw [4, 5, 6, 7, 8, 9] (fun nw o i _ _ _ wr => ∃ j m : Nat, m + j = xs.length ∧ i = .int .i64 m ∧ OwnI wr nw (bplayL xs (bgrTo xs j)) ∧ From w.heap.size nw ∧ OwnI wr o (bgrTo xs j) ∧ From w.heap.size o ∧ Below w.heap.size w wr) (fun _ _ i _ _ _ _ => (intOf i).toNat)
    case atStart => exact ⟨0, xs.length, rfl, rfl, ho0, hf00, OwnI.nil _, From.nil _ _ _, hB0⟩
    case round =>
      obtain ⟨j, m, hjm, rfl, hoN, hfN, hoO, hfO, hbr⟩ := hrel
      clear ho0 hf00 hB0
      cases m with
      | zero =>
        obtain rfl : j = xs.length := by omega
        go_wp2
        go_ret2
        exact ⟨_, rfl, by rw [HM.out]; exact hoO, hfO, hbr⟩
      | succ q =>
        rw [Int.natCast_add, Int.natCast_one]
        obtain ⟨ys, hys⟩ : ∃ ys, bplayL xs (bgrTo xs j) = ys := ⟨_, rfl⟩
        rw [hys] at hoN
        have HYE := Lib.hid hys
        have hyl : ys.length = xs.length := by rw [← hys, bplayL_length]
        have HY := Lib.hid (show Burnt ys by rw [← hys]; exact bplayL_burnt HB.out _)
        have hyn : ys.length ≤ 9 := by omega
        have hqy : q < ys.length := by omega
        have hyl9 : ys.length ≤ 1048576 := by omega
        have HYS := Lib.hid (Burnt.small HY.out)
        have hal9 : (absL ys).length ≤ 1048576 := by rw [absL_length]; omega
        have hgl : (bgrTo xs j).length ≤ 1048576 := by have := bgrTo_length xs j; omega
        have HQJ := Lib.hid (show xs.length - j = q + 1 by omega)
        have HTB := Lib.hid (topTo_bd HY.out (m := q + 1) (by omega) (by omega))
        obtain ⟨p, hp⟩ : ∃ p, placeL (absL ys) ((q : Int) + 1) = p := ⟨_, rfl⟩
        have HPL := Lib.hid hp
        obtain ⟨t0, ht0⟩ : ∃ t0, (bplayL ys (topTo ys (q + 1))).getD 0 0 = t0 := ⟨_, rfl⟩
        have HT0 := Lib.hid ht0
        have hy0 : 0 < ys.length := by omega
        have hjlt : j < xs.length := by omega
        have HJM := Lib.hid hjm
        obtain ⟨adn, capn, rfl, hcn, _, _⟩ := hoN.shape
        obtain ⟨gn, on, rfl, hgn, hcell, _⟩ := hoN.at (by omega)
        have hck := hcell q (by omega)
        rw [List.getElem?_map, List.getElem?_eq_getElem hqy] at hck
        obtain ⟨y, hy⟩ : ∃ y, ys[q] = y := ⟨_, rfl⟩
        rw [hy] at hck
        have hqi : (q : Int) < ys.length := by omega
        have HYL := Lib.hid hyl
        have HQY := Lib.hid (show ys.getD (q + 1 - 1) 0 = y by rw [Nat.add_sub_cancel, getD_eq hqy, hy])
        clear hys hyl hp ht0 hjm hcell hy
        by_cases hxy : y = (q : Int) + 1
        · have hq1 : (y == (q : Int) + 1) = true := by simp [hxy]
          have HD := Lib.hid (show downB ys (q + 1) = [] by unfold downB; rw [if_pos (by rw [HQY.out, hxy]; simp)])
          have HS := Lib.hid (show bgrTo xs (j + 1) = bgrTo xs j by
            have : bgrTo xs (j + 1) = bgrTo xs j ++ downB (bplayL xs (bgrTo xs j)) (xs.length - j) := rfl
            rw [this, HYE.out, HQJ.out, HD.out, List.append_nil])
          clear hxy
          go_wp2
          go_roundw
          case rel => exact ⟨j + 1, q, by have := HJM.out; omega, by go_num, by rw [HS.out, HYE.out]; exact hoN, hfN, by rw [HS.out]; exact hoO, hfO, hbr⟩
          case measure => simp [intOf] <;> omega
        · have hq1 : (y == (q : Int) + 1) = false := by simp [hxy]
          have HNE := Lib.hid (show ¬ ys.getD (q + 1 - 1) 0 = ((q + 1 : Nat) : Int) by rw [HQY.out]; simpa using hxy)
          clear hxy
          by_cases h1 : 1 < p
          · by_cases h2 : 0 < t0
            · skip
              have HP1 := Lib.hid (show topTo ys (q + 1) = [p] by unfold topTo; rw [Int.natCast_add, Int.natCast_one, HPL.out, if_pos (by omega)])
              have HP2 := Lib.hid (show sideTo ys (q + 1) = [1] by unfold sideTo; rw [HT0.out, if_pos (by omega)])
              have HD := Lib.hid (show downB ys (q + 1) = [p, 1, (q : Int) + 1] by unfold downB; rw [if_neg HNE.out, HP1.out, HP2.out]; simp)
              have hDb := downB_bd HY.out (m := q + 1) (by omega) (by omega)
              rw [HD.out] at hDb
              have HDB := Lib.hid hDb
              clear hDb
              go_wp2_with fail
              refine (buForget_any _ _ _ hoN hyl9 HYS).mono ?_
              rintro e w1 ⟨r1, rfl, ho1, hf1, hb1⟩
              have hB1 : Below wr.heap.size wr w1 := hb1
              go_wp2_with fail
              refine (stPlace_any _ _ _ _ ho1 hal9).mono ?_
              rintro e w2 ⟨rfl, hb2⟩
              have hB2 := hB1.trans (hb2.mono hB1.size)
              have hs2 := hB2.size
              rw [HPL.out]
              clear ho1 hf1 hb1 hB1 hb2
              go_wp2_with (at_builtin; refine wpList_app1 Try.intSl rfl _ _ rfl _ [] rfl (OwnI.nil _) wr.heap.size (From.nil _ _ _) w2.heap.size p rfl (cell_lit _ rfl _ _) wr (hB2.alloc hs2 _) (by simp; exact Nat.le_succ_of_le hs2) (by simp) ?_)
              intro v3 w3 ho3 hf3 hB3 _
              have hs3 := hB3.size
              have hp3 := HTB.out
              rw [HP1.out] at hp3
              clear hB2 hs2
              have hop : OwnI w3 v3 [p] := ho3
              clear ho3
              have hN3 := hoN.below hB3 (Nat.le_refl _)
              go_wp2_with fail
              refine (buPlay_any _ _ ys [p] _ hN3 HY hop (by simp) (Lib.hid hp3)).mono ?_
              rintro e w4 ⟨r4, rfl, ho4, hf4, hb4⟩
              have hB4 := hB3.trans (hb4.mono hs3)
              have hop4 := hop.same hb4
              have hfp : From wr.heap.size v3 := hf3
              clear hN3 hop hf3 hB3 hs3 hb4 hf4 hp3
              have hs4 := hB4.size
              obtain ⟨ad4, cap4, rfl, hc4, _, _⟩ := ho4.shape
              have htl : 0 < (bplayL ys [p]).length := by rw [bplayL_length]; omega
              obtain ⟨g4, o4, rfl, _, hc40, _⟩ := ho4.at (by omega)
              have hcz := hc40 0 (by omega)
              rw [List.getElem?_map, List.getElem?_eq_getElem htl] at hcz
              have HZ := HT0.out
              rw [HP1.out, getD_eq htl] at HZ
              rw [HZ, Nat.add_zero] at hcz
              have htl' : (0 : Int) < ((bplayL ys [p]).length : Int) := by omega
              clear ho4 hc40 HZ
              go_wp2_with (at_builtin; refine wpList_app1 Try.intSl rfl _ _ rfl _ [p] rfl (hop4.alloc _) wr.heap.size hfp w4.heap.size 1 rfl (cell_lit _ rfl _ _) wr (hB4.alloc hs4 _) (by simp; exact Nat.le_succ_of_le hs4) (by simp) ?_)
              intro v5 w5 ho5 hf5 hB5 _
              have hs5 := hB5.size
              have hop5 : OwnI w5 v5 [p, 1] := ho5
              clear ho5 hop4 hB4 hs4 hfp hcz
              go_wp2_with (at_builtin; refine wpList_app1 Try.intSl rfl _ _ rfl _ [p, 1] rfl (hop5.alloc _) wr.heap.size hf5 w5.heap.size ((q : Int) + 1) rfl (cell_lit _ rfl _ _) wr (hB5.alloc hs5 _) (by simp; exact Nat.le_succ_of_le hs5) (by simp) ?_)
              intro v6 w6 ho6 hf6 hB6 _
              have hs6 := hB6.size
              have hop6 : OwnI w6 v6 [p, 1, (q : Int) + 1] := ho6
              clear ho6 hop5 hB5 hs5 hf5
              have hN6 := hoN.below hB6 (Nat.le_refl _)
              go_wp2_with fail
              refine (buPlay_any _ _ ys [p, 1, (q : Int) + 1] _ hN6 HY hop6 (by simp) HDB).mono ?_
              rintro e w7 ⟨r7, rfl, ho7, hf7, hb7⟩
              have hB7 := hB6.trans (hb7.mono hs6)
              have hop7 := hop6.same hb7
              have hO7 := hoO.below hB7 (Nat.le_refl _)
              have hw7 := hbr.trans (hB7.mono hbr.size)
              obtain ⟨ad7, cap7, rfl, _, _, _⟩ := hop7.shape
              have hsrc := Own.src hop7
              have hap : ∀ g, r7.ownBlock = some g → u5.ownBlock ≠ some g := fun g hg e => by have h1 := hf7 g hg; have h2 := Own.lt hoO g e; omega
              have HAP := Lib.hid hap
              clear hap hN6 hop6 hB6 hb7 hoN hop7
              go_wp2_with (at_builtin; refine wpList_appI Try.intSl rfl _ _ rfl u5 (bgrTo xs j) rfl hO7 w.heap.size hfO ad7 _ cap7 [p, 1, (q : Int) + 1] rfl rfl hsrc w hw7 hw7.size hgl (by simp) ?_)
              intro v8 w8 ho8 hf8 hB8 hg8
              have hN8 := Own.grown ho7 hg8 HAP.out
              have HS := Lib.hid (show bgrTo xs (j + 1) = bgrTo xs j ++ [p, 1, (q : Int) + 1] by rw [← HD.out, ← HYE.out, ← HQJ.out]; rfl)
              have HN := Lib.hid (show bplayL ys [p, 1, (q : Int) + 1] = bplayL xs (bgrTo xs (j + 1)) by rw [HS.out, bplayL_append, HYE.out])
              rw [← HS.out] at ho8
              rw [HN.out] at hN8
              have hfn8 : From w.heap.size r7 := hf7.mono (Nat.le_trans hbr.size hs6)
              clear ho7 hO7 hw7 hg8 hsrc hf7
              go_wp2
              go_roundw
              case rel => exact ⟨j + 1, q, by have := HJM.out; omega, by go_num, hN8, hfn8, ho8, hf8, hB8⟩
              case measure => simp [intOf] <;> omega
            · have h2' : t0 ≤ 0 := by omega
              clear h2
              have HP1 := Lib.hid (show topTo ys (q + 1) = [p] by unfold topTo; rw [Int.natCast_add, Int.natCast_one, HPL.out, if_pos (by omega)])
              have HP2 := Lib.hid (show sideTo ys (q + 1) = [] by unfold sideTo; rw [HT0.out, if_neg (by omega)])
              have HD := Lib.hid (show downB ys (q + 1) = [p, (q : Int) + 1] by unfold downB; rw [if_neg HNE.out, HP1.out, HP2.out]; simp)
              have hDb := downB_bd HY.out (m := q + 1) (by omega) (by omega)
              rw [HD.out] at hDb
              have HDB := Lib.hid hDb
              clear hDb
              go_wp2_with fail
              refine (buForget_any _ _ _ hoN hyl9 HYS).mono ?_
              rintro e w1 ⟨r1, rfl, ho1, hf1, hb1⟩
              have hB1 : Below wr.heap.size wr w1 := hb1
              go_wp2_with fail
              refine (stPlace_any _ _ _ _ ho1 hal9).mono ?_
              rintro e w2 ⟨rfl, hb2⟩
              have hB2 := hB1.trans (hb2.mono hB1.size)
              have hs2 := hB2.size
              rw [HPL.out]
              clear ho1 hf1 hb1 hB1 hb2
              go_wp2_with (at_builtin; refine wpList_app1 Try.intSl rfl _ _ rfl _ [] rfl (OwnI.nil _) wr.heap.size (From.nil _ _ _) w2.heap.size p rfl (cell_lit _ rfl _ _) wr (hB2.alloc hs2 _) (by simp; exact Nat.le_succ_of_le hs2) (by simp) ?_)
              intro v3 w3 ho3 hf3 hB3 _
              have hs3 := hB3.size
              have hp3 := HTB.out
              rw [HP1.out] at hp3
              clear hB2 hs2
              have hop : OwnI w3 v3 [p] := ho3
              clear ho3
              have hN3 := hoN.below hB3 (Nat.le_refl _)
              go_wp2_with fail
              refine (buPlay_any _ _ ys [p] _ hN3 HY hop (by simp) (Lib.hid hp3)).mono ?_
              rintro e w4 ⟨r4, rfl, ho4, hf4, hb4⟩
              have hB4 := hB3.trans (hb4.mono hs3)
              have hop4 := hop.same hb4
              have hfp : From wr.heap.size v3 := hf3
              clear hN3 hop hf3 hB3 hs3 hb4 hf4 hp3
              have hs4 := hB4.size
              obtain ⟨ad4, cap4, rfl, hc4, _, _⟩ := ho4.shape
              have htl : 0 < (bplayL ys [p]).length := by rw [bplayL_length]; omega
              obtain ⟨g4, o4, rfl, _, hc40, _⟩ := ho4.at (by omega)
              have hcz := hc40 0 (by omega)
              rw [List.getElem?_map, List.getElem?_eq_getElem htl] at hcz
              have HZ := HT0.out
              rw [HP1.out, getD_eq htl] at HZ
              rw [HZ, Nat.add_zero] at hcz
              have htl' : (0 : Int) < ((bplayL ys [p]).length : Int) := by omega
              clear ho4 hc40 HZ
              have hop5 := hop4
              have hf5 := hfp
              have hB5 := hB4
              have hs5 := hs4
              clear hop4 hB4 hs4 hfp
              go_wp2_with (at_builtin; refine wpList_app1 Try.intSl rfl _ _ rfl _ [p] rfl (hop5.alloc _) wr.heap.size hf5 w4.heap.size ((q : Int) + 1) rfl (cell_lit _ rfl _ _) wr (hB5.alloc hs5 _) (by simp; exact Nat.le_succ_of_le hs5) (by simp) ?_)
              intro v6 w6 ho6 hf6 hB6 _
              have hs6 := hB6.size
              have hop6 : OwnI w6 v6 [p, (q : Int) + 1] := ho6
              clear ho6 hop5 hB5 hs5 hf5
              have hN6 := hoN.below hB6 (Nat.le_refl _)
              go_wp2_with fail
              refine (buPlay_any _ _ ys [p, (q : Int) + 1] _ hN6 HY hop6 (by simp) HDB).mono ?_
              rintro e w7 ⟨r7, rfl, ho7, hf7, hb7⟩
              have hB7 := hB6.trans (hb7.mono hs6)
              have hop7 := hop6.same hb7
              have hO7 := hoO.below hB7 (Nat.le_refl _)
              have hw7 := hbr.trans (hB7.mono hbr.size)
              obtain ⟨ad7, cap7, rfl, _, _, _⟩ := hop7.shape
              have hsrc := Own.src hop7
              have hap : ∀ g, r7.ownBlock = some g → u5.ownBlock ≠ some g := fun g hg e => by have h1 := hf7 g hg; have h2 := Own.lt hoO g e; omega
              have HAP := Lib.hid hap
              clear hap hN6 hop6 hB6 hb7 hoN hop7
              go_wp2_with (at_builtin; refine wpList_appI Try.intSl rfl _ _ rfl u5 (bgrTo xs j) rfl hO7 w.heap.size hfO ad7 _ cap7 [p, (q : Int) + 1] rfl rfl hsrc w hw7 hw7.size hgl (by simp) ?_)
              intro v8 w8 ho8 hf8 hB8 hg8
              have hN8 := Own.grown ho7 hg8 HAP.out
              have HS := Lib.hid (show bgrTo xs (j + 1) = bgrTo xs j ++ [p, (q : Int) + 1] by rw [← HD.out, ← HYE.out, ← HQJ.out]; rfl)
              have HN := Lib.hid (show bplayL ys [p, (q : Int) + 1] = bplayL xs (bgrTo xs (j + 1)) by rw [HS.out, bplayL_append, HYE.out])
              rw [← HS.out] at ho8
              rw [HN.out] at hN8
              have hfn8 : From w.heap.size r7 := hf7.mono (Nat.le_trans hbr.size hs6)
              clear ho7 hO7 hw7 hg8 hsrc hf7
              go_wp2
              go_roundw
              case rel => exact ⟨j + 1, q, by have := HJM.out; omega, by go_num, hN8, hfn8, ho8, hf8, hB8⟩
              case measure => simp [intOf] <;> omega
          · have h1' : p ≤ 1 := by omega
            clear h1
            by_cases h2 : 0 < t0
            · skip
              have HP1 := Lib.hid (show topTo ys (q + 1) = [] by unfold topTo; rw [Int.natCast_add, Int.natCast_one, HPL.out, if_neg (by omega)])
              have HP2 := Lib.hid (show sideTo ys (q + 1) = [1] by unfold sideTo; rw [HT0.out, if_pos (by omega)])
              have HD := Lib.hid (show downB ys (q + 1) = [1, (q : Int) + 1] by unfold downB; rw [if_neg HNE.out, HP1.out, HP2.out]; simp)
              have hDb := downB_bd HY.out (m := q + 1) (by omega) (by omega)
              rw [HD.out] at hDb
              have HDB := Lib.hid hDb
              clear hDb
              go_wp2_with fail
              refine (buForget_any _ _ _ hoN hyl9 HYS).mono ?_
              rintro e w1 ⟨r1, rfl, ho1, hf1, hb1⟩
              have hB1 : Below wr.heap.size wr w1 := hb1
              go_wp2_with fail
              refine (stPlace_any _ _ _ _ ho1 hal9).mono ?_
              rintro e w2 ⟨rfl, hb2⟩
              have hB2 := hB1.trans (hb2.mono hB1.size)
              have hs2 := hB2.size
              rw [HPL.out]
              clear ho1 hf1 hb1 hB1 hb2
              have hN3 := hoN.below hB2 (Nat.le_refl _)
              go_wp2_with fail
              refine (buPlay_any _ _ ys [] _ hN3 HY (OwnI.nil _) (by simp) (Lib.hid (by simp))).mono ?_
              rintro e w4 ⟨r4, rfl, ho4, hf4, hb4⟩
              have hB4 := hB2.trans (hb4.mono hs2)
              have hop4 : OwnI w4 (.slice none 0 0) [] := OwnI.nil _
              have hfp : From wr.heap.size (.slice none 0 0) := From.nil _ _ _
              clear hN3 hB2 hs2 hb4 hf4
              have hs4 := hB4.size
              obtain ⟨ad4, cap4, rfl, hc4, _, _⟩ := ho4.shape
              have htl : 0 < (bplayL ys []).length := by rw [bplayL_length]; omega
              obtain ⟨g4, o4, rfl, _, hc40, _⟩ := ho4.at (by omega)
              have hcz := hc40 0 (by omega)
              rw [List.getElem?_map, List.getElem?_eq_getElem htl] at hcz
              have HZ := HT0.out
              rw [HP1.out, getD_eq htl] at HZ
              rw [HZ, Nat.add_zero] at hcz
              have htl' : (0 : Int) < ((bplayL ys []).length : Int) := by omega
              clear ho4 hc40 HZ
              go_wp2_with (at_builtin; refine wpList_app1 Try.intSl rfl _ _ rfl _ [] rfl (hop4.alloc _) wr.heap.size hfp w4.heap.size 1 rfl (cell_lit _ rfl _ _) wr (hB4.alloc hs4 _) (by simp; exact Nat.le_succ_of_le hs4) (by simp) ?_)
              intro v5 w5 ho5 hf5 hB5 _
              have hs5 := hB5.size
              have hop5 : OwnI w5 v5 [1] := ho5
              clear ho5 hop4 hB4 hs4 hfp hcz
              go_wp2_with (at_builtin; refine wpList_app1 Try.intSl rfl _ _ rfl _ [1] rfl (hop5.alloc _) wr.heap.size hf5 w5.heap.size ((q : Int) + 1) rfl (cell_lit _ rfl _ _) wr (hB5.alloc hs5 _) (by simp; exact Nat.le_succ_of_le hs5) (by simp) ?_)
              intro v6 w6 ho6 hf6 hB6 _
              have hs6 := hB6.size
              have hop6 : OwnI w6 v6 [1, (q : Int) + 1] := ho6
              clear ho6 hop5 hB5 hs5 hf5
              have hN6 := hoN.below hB6 (Nat.le_refl _)
              go_wp2_with fail
              refine (buPlay_any _ _ ys [1, (q : Int) + 1] _ hN6 HY hop6 (by simp) HDB).mono ?_
              rintro e w7 ⟨r7, rfl, ho7, hf7, hb7⟩
              have hB7 := hB6.trans (hb7.mono hs6)
              have hop7 := hop6.same hb7
              have hO7 := hoO.below hB7 (Nat.le_refl _)
              have hw7 := hbr.trans (hB7.mono hbr.size)
              obtain ⟨ad7, cap7, rfl, _, _, _⟩ := hop7.shape
              have hsrc := Own.src hop7
              have hap : ∀ g, r7.ownBlock = some g → u5.ownBlock ≠ some g := fun g hg e => by have h1 := hf7 g hg; have h2 := Own.lt hoO g e; omega
              have HAP := Lib.hid hap
              clear hap hN6 hop6 hB6 hb7 hoN hop7
              go_wp2_with (at_builtin; refine wpList_appI Try.intSl rfl _ _ rfl u5 (bgrTo xs j) rfl hO7 w.heap.size hfO ad7 _ cap7 [1, (q : Int) + 1] rfl rfl hsrc w hw7 hw7.size hgl (by simp) ?_)
              intro v8 w8 ho8 hf8 hB8 hg8
              have hN8 := Own.grown ho7 hg8 HAP.out
              have HS := Lib.hid (show bgrTo xs (j + 1) = bgrTo xs j ++ [1, (q : Int) + 1] by rw [← HD.out, ← HYE.out, ← HQJ.out]; rfl)
              have HN := Lib.hid (show bplayL ys [1, (q : Int) + 1] = bplayL xs (bgrTo xs (j + 1)) by rw [HS.out, bplayL_append, HYE.out])
              rw [← HS.out] at ho8
              rw [HN.out] at hN8
              have hfn8 : From w.heap.size r7 := hf7.mono (Nat.le_trans hbr.size hs6)
              clear ho7 hO7 hw7 hg8 hsrc hf7
              go_wp2
              go_roundw
              case rel => exact ⟨j + 1, q, by have := HJM.out; omega, by go_num, hN8, hfn8, ho8, hf8, hB8⟩
              case measure => simp [intOf] <;> omega
            · have h2' : t0 ≤ 0 := by omega
              clear h2
              have HP1 := Lib.hid (show topTo ys (q + 1) = [] by unfold topTo; rw [Int.natCast_add, Int.natCast_one, HPL.out, if_neg (by omega)])
              have HP2 := Lib.hid (show sideTo ys (q + 1) = [] by unfold sideTo; rw [HT0.out, if_neg (by omega)])
              have HD := Lib.hid (show downB ys (q + 1) = [(q : Int) + 1] by unfold downB; rw [if_neg HNE.out, HP1.out, HP2.out]; simp)
              have hDb := downB_bd HY.out (m := q + 1) (by omega) (by omega)
              rw [HD.out] at hDb
              have HDB := Lib.hid hDb
              clear hDb
              go_wp2_with fail
              refine (buForget_any _ _ _ hoN hyl9 HYS).mono ?_
              rintro e w1 ⟨r1, rfl, ho1, hf1, hb1⟩
              have hB1 : Below wr.heap.size wr w1 := hb1
              go_wp2_with fail
              refine (stPlace_any _ _ _ _ ho1 hal9).mono ?_
              rintro e w2 ⟨rfl, hb2⟩
              have hB2 := hB1.trans (hb2.mono hB1.size)
              have hs2 := hB2.size
              rw [HPL.out]
              clear ho1 hf1 hb1 hB1 hb2
              have hN3 := hoN.below hB2 (Nat.le_refl _)
              go_wp2_with fail
              refine (buPlay_any _ _ ys [] _ hN3 HY (OwnI.nil _) (by simp) (Lib.hid (by simp))).mono ?_
              rintro e w4 ⟨r4, rfl, ho4, hf4, hb4⟩
              have hB4 := hB2.trans (hb4.mono hs2)
              have hop4 : OwnI w4 (.slice none 0 0) [] := OwnI.nil _
              have hfp : From wr.heap.size (.slice none 0 0) := From.nil _ _ _
              clear hN3 hB2 hs2 hb4 hf4
              have hs4 := hB4.size
              obtain ⟨ad4, cap4, rfl, hc4, _, _⟩ := ho4.shape
              have htl : 0 < (bplayL ys []).length := by rw [bplayL_length]; omega
              obtain ⟨g4, o4, rfl, _, hc40, _⟩ := ho4.at (by omega)
              have hcz := hc40 0 (by omega)
              rw [List.getElem?_map, List.getElem?_eq_getElem htl] at hcz
              have HZ := HT0.out
              rw [HP1.out, getD_eq htl] at HZ
              rw [HZ, Nat.add_zero] at hcz
              have htl' : (0 : Int) < ((bplayL ys []).length : Int) := by omega
              clear ho4 hc40 HZ
              have hop5 := hop4
              have hf5 := hfp
              have hB5 := hB4
              have hs5 := hs4
              clear hop4 hB4 hs4 hfp
              go_wp2_with (at_builtin; refine wpList_app1 Try.intSl rfl _ _ rfl _ [] rfl (hop5.alloc _) wr.heap.size hf5 w4.heap.size ((q : Int) + 1) rfl (cell_lit _ rfl _ _) wr (hB5.alloc hs5 _) (by simp; exact Nat.le_succ_of_le hs5) (by simp) ?_)
              intro v6 w6 ho6 hf6 hB6 _
              have hs6 := hB6.size
              have hop6 : OwnI w6 v6 [(q : Int) + 1] := ho6
              clear ho6 hop5 hB5 hs5 hf5
              have hN6 := hoN.below hB6 (Nat.le_refl _)
              go_wp2_with fail
              refine (buPlay_any _ _ ys [(q : Int) + 1] _ hN6 HY hop6 (by simp) HDB).mono ?_
              rintro e w7 ⟨r7, rfl, ho7, hf7, hb7⟩
              have hB7 := hB6.trans (hb7.mono hs6)
              have hop7 := hop6.same hb7
              have hO7 := hoO.below hB7 (Nat.le_refl _)
              have hw7 := hbr.trans (hB7.mono hbr.size)
              obtain ⟨ad7, cap7, rfl, _, _, _⟩ := hop7.shape
              have hsrc := Own.src hop7
              have hap : ∀ g, r7.ownBlock = some g → u5.ownBlock ≠ some g := fun g hg e => by have h1 := hf7 g hg; have h2 := Own.lt hoO g e; omega
              have HAP := Lib.hid hap
              clear hap hN6 hop6 hB6 hb7 hoN hop7
              go_wp2_with (at_builtin; refine wpList_appI Try.intSl rfl _ _ rfl u5 (bgrTo xs j) rfl hO7 w.heap.size hfO ad7 _ cap7 [(q : Int) + 1] rfl rfl hsrc w hw7 hw7.size hgl (by simp) ?_)
              intro v8 w8 ho8 hf8 hB8 hg8
              have hN8 := Own.grown ho7 hg8 HAP.out
              have HS := Lib.hid (show bgrTo xs (j + 1) = bgrTo xs j ++ [(q : Int) + 1] by rw [← HD.out, ← HYE.out, ← HQJ.out]; rfl)
              have HN := Lib.hid (show bplayL ys [(q : Int) + 1] = bplayL xs (bgrTo xs (j + 1)) by rw [HS.out, bplayL_append, HYE.out])
              rw [← HS.out] at ho8
              rw [HN.out] at hN8
              have hfn8 : From w.heap.size r7 := hf7.mono (Nat.le_trans hbr.size hs6)
              clear ho7 hO7 hw7 hg8 hsrc hf7
              go_wp2
              go_roundw
              case rel => exact ⟨j + 1, q, by have := HJM.out; omega, by go_num, hN8, hfn8, ho8, hf8, hB8⟩
              case measure => simp [intOf] <;> omega
  | false =>
    have HM := Lib.hid (show mBurntGreedy xs = [] from if_neg (by rw [hg]; exact Bool.false_ne_true))
    have HG := Lib.hid hg
    clear hg
    go_enter Try.func46, Try.ntmps46
    go_wp2_with fail
    refine (buGood_any _ _ _ hv hn).mono ?_
    rintro e w1 ⟨rfl, hb⟩
    rw [HG.out]
    go_wp2
    go_ret2
    exact ⟨_, rfl, by rw [HM.out]; exact OwnI.nil _, From.nil _ _ _, hb⟩
end Go.Proofs.Ytakgmcfpdbeajaa
