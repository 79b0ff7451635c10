import Derived.Test.YtakgmcfpdbeajaaI23
namespace Go.Proofs.Ytakgmcfpdbeajaa
open Go Go.RowKit Go.Pan


theorem cell_lit1 {w : World} (g : Nat) (hg : g = w.heap.size) (v : Value) (ty : TypeId) : (w.alloc (.cells #[v] ty)).cell? ⟨g, 0, none⟩ = some v := by
  subst hg
  exact (Blk.new w ty [v] _ rfl).cell 0

set_option maxRecDepth 100000 in
set_option maxHeartbeats 4000000 in
theorem turnsDown_any (ys : List Int) (q : Nat) (w : World) (hY : Hid (Burnt ys)) (hq : q < ys.length) :
    Calls Try.prog 99 #[tw ys, .int .i64 ((q : Int) + 1)] w fun e w' => ∃ r, e = .returned r ∧ OwnI w' r (downB ys (q + 1)) ∧ From w.heap.size r ∧ Below w.heap.size w w' := by
  have hyn := hY.out.len.2
  obtain ⟨i0, hi, hz0, hz1, hz2⟩ := info_parts Try.info3
  have hbx : Blk (w.alloc (.cells (twl ys).toArray 54)) w.heap.size 54 (twl ys) := Blk.new w _ (twl ys) _ rfl
  have hb0 := below_new w (.cells (twl ys).toArray 54)
  have HT := Lib.hid (twl_length ys hyn)
  have HN9 := Lib.hid (Burnt.nine hY.out)
  have hmem : (q : Int) + 1 ∈ absL ys := by have := hY.out.has (m := q + 1) (by omega) (by omega); simpa using this
  have HPP := Lib.hid (place_pad (9 - ys.length) hmem)
  have HPAD := Lib.hid (sides_pad hY.out (9 - ys.length))
  have hpb := placeL_bd hmem
  rw [absL_length] at hpb
  obtain ⟨p, hp⟩ : ∃ p, placeL (absL ys) ((q : Int) + 1) = p := ⟨_, rfl⟩
  rw [hp] at hpb HPP
  have hp1 := hpb.1
  have hp2 := hpb.2
  have HPL := Lib.hid hp
  obtain ⟨t0, ht0⟩ : ∃ t0, (bplayL ys (topTo ys (q + 1))).getD 0 0 = t0 := ⟨_, rfl⟩
  have HT0 := Lib.hid ht0
  obtain ⟨y, hy⟩ : ∃ y, ys[q] = y := ⟨_, rfl⟩
  have HQY := Lib.hid (show ys.getD (q + 1 - 1) 0 = y by rw [Nat.add_sub_cancel, getD_eq hq, hy])
  have hpl : (ys ++ List.replicate (9 - ys.length) (0 : Int)).length ≤ 1048576 := by simp; omega
  have hpl2 : (absL ys ++ List.replicate (9 - ys.length) (0 : Int)).length ≤ 1048576 := by rw [List.length_append, absL_length]; simp; omega
  have HY := Lib.hid hy
  have hq9 : (q : Int) < 9 := by omega
  clear hpb hp ht0 hmem
  go_enter Try.func99, Try.ntmps99
  go_wp2_with (at_make; refine wpList_make_own _ rfl _ _ 25 rfl (w.heap.size + 1) 3 i0 (.int .i64 0) 1 Try.underlying25 hi hz0 hz1 _ _ _ 3 rfl rfl rfl ?b1 ?b2 ?b3 ?_)
  case b1 => rw [hz2]; omega
  case b2 => unfold maxLen; omega
  case b3 => simp
  intro w1 hown hgrow
  have hot : OwnI w1 (.slice (some ⟨w.heap.size + 1, 0, none⟩) 0 3) [] := by simpa [OwnI] using (Own.of_row hown).1
  have hft : From (w.heap.size + 1) (.slice (some ⟨w.heap.size + 1, 0, none⟩) 0 3) := From.at _ _ _ _ _ (Nat.le_refl _)
  have hbx1 := hbx.grown hgrow (by simp)
  have hB1 := hb0.grown hgrow hb0.size (fun k hk => by simp at hk)
  have hck := hbx1.cell q
  rw [twl_get ys q hq, hy] at hck
  clear hi hz0 hz1 hz2 hgrow hown hbx hb0 hy
  by_cases hxy : y = (q : Int) + 1
  · have hq1 : (y == (q : Int) + 1) = true := by simp [hxy]
    have HD := Lib.hid (show downB ys (q + 1) = [] by unfold downB; rw [if_pos (by rw [HQY.out, hxy]; simp)])
    clear hxy
    go_wp2
    go_ret
    exact ⟨_, rfl, by rw [HD.out]; exact hot, hft.mono (Nat.le_succ _), hB1⟩
  · have hq1 : (y == (q : Int) + 1) = false := by simp [hxy]
    have HNE := Lib.hid (show ¬ ys.getD (q + 1 - 1) 0 = ((q + 1 : Nat) : Int) by rw [HQY.out]; simpa using hxy)
    have hsl : OwnI w1 (.slice (some ⟨w.heap.size, 0, none⟩) 9 9) (ys ++ List.replicate (9 - ys.length) 0) := OwnI.of_blk0 hbx1 (by simp; omega) (by omega)
    clear hxy
    by_cases h1 : 1 < p
    · by_cases h2 : 0 < t0
      · skip
        obtain ⟨k, hk⟩ : ∃ k : Nat, p = (k : Int) := ⟨p.toNat, by omega⟩
        subst hk
        have HP1 := Lib.hid (show topTo ys (q + 1) = [(k : Int)] by unfold topTo; rw [Int.natCast_add, Int.natCast_one, HPL.out, if_pos (by omega)])
        have HP2 := Lib.hid (show sideTo ys (q + 1) = [1] by unfold sideTo; rw [HT0.out, if_pos (by omega)])
        have HD := Lib.hid (show downB ys (q + 1) = [(k : Int), 1, (q : Int) + 1] by unfold downB; rw [if_neg HNE.out, HP1.out, HP2.out]; simp)
        go_wp2_with fail
        refine (withoutSides_any _ (ys ++ List.replicate (9 - ys.length) 0) _ hsl hpl).mono ?_
        rintro e w2 ⟨r2, rfl, ho2, hf2, hb2⟩
        rw [HPAD.out] at ho2
        have hbx2 := hbx1.below hb2 hbx1.lt
        have hB2 := hB1.trans (hb2.mono hB1.size)
        have hot2 := hot.same hb2
        have hs2 := hB2.size
        clear hsl hf2 hot hB1 hbx1 hb2
        go_wp2_with fail
        refine (Index_any _ _ _ _ ho2 hpl2).mono ?_
        rintro e w3 ⟨rfl, hb3⟩
        rw [HPP.out]
        have hbx3 := hbx2.below hb3 hbx2.lt
        have hB3 := hB2.trans (hb3.mono hs2)
        have hot3 := hot2.same hb3
        have hs3 := hB3.size
        have hl3 := hbx3.lt
        clear ho2 hot2 hB2 hbx2 hb3 hs2
        go_wp2_with (first | (at_builtin; refine wpList_app1 Try.intSl rfl _ _ rfl _ [] rfl (hot3.alloc _) (w.heap.size + 1) hft w3.heap.size (k : Int) rfl (cell_lit1 _ rfl _ _) w3 ((Below.refl _ _).alloc hl3 _) (by simp; omega) (by simp) ?_; intro v4 w4 ho4 hf4 hB4 _; have hbx4 := hbx3.below hB4 (Nat.lt_succ_self _)) | (refine wpList_load_tower rfl _ rfl w.heap.size ys hyn rfl hbx4 ?_))
        have hop4 : OwnI w4 v4 [(k : Int)] := ho4
        have hb4 := hB3.trans (hB4.mono (Nat.le_succ _))
        have hs4 := hb4.size
        have hl4 := hbx4.lt
        have hkl : k ≤ ys.length := by omega
        have HBT := Lib.hid (show (bturnL ys k).length = ys.length from bturnL_length _ _)
        have hk9 : (bturnL ys k).length ≤ 9 := by have := HBT.out; omega
        clear ho4 hB4 hot3 hB3 hbx3 hs3 hl3
        refine (turnedOver_any _ _ _ hyn hkl HN9).mono ?_
        rintro e w5 ⟨rfl, hb5⟩
        have hbx5 := hbx4.below hb5 hl4
        have hop5 := hop4.same hb5
        have hB5 := hb4.trans (hb5.mono hs4)
        have HNE5 := Lib.hid (show ∀ g, v4.ownBlock = some g → some w.heap.size ≠ some g from fun g hg e => by have := hf4 g hg; cases e; omega)
        have hs5 := hB5.size
        clear hbx4 hop4 hb4 hb5 hs4 hl4
        have HTZ := Lib.hid (show (bturnL ys k)[0]'(by have := HBT.out; omega) = t0 by have h := HT0.out; rw [HP1.out] at h; rw [← h, ← getD_eq (by have := HBT.out; omega)]; rfl)
        have HCZ := Lib.hid (show (twl (bturnL ys k))[0]? = some (iv t0) by rw [twl_get _ 0 (by have := HBT.out; omega), HTZ.out])
        go_wp2_with (first | (refine wpList_store_tower rfl _ _ rfl w.heap.size ys (bturnL ys k) hyn hk9 rfl rfl hbx5 ?_; intro w6 hbx6 hg6; have hcz := (hbx6.cell 0).trans HCZ.out; have hl6 := hbx6.lt) | (at_builtin; refine wpList_app1 Try.intSl rfl _ _ rfl _ [(k : Int)] rfl ((Own.grown hop5 hg6 HNE5.out).alloc _) (w.heap.size + 1) hf4 w6.heap.size 1 rfl (cell_lit1 _ rfl _ _) w6 ((Below.refl _ _).alloc hl6 _) (by simp; omega) (by simp) ?_))
        intro v7 w7 ho7 hf7 hB7 _
        have hb6 := hB5.grown hg6 hs5 (by intro k hk; cases hk; exact Nat.le_refl _)
        have hb7 := hb6.trans (hB7.mono (Nat.le_succ _))
        have hop7 : OwnI w7 v7 ([(k : Int)] ++ [1]) := ho7
        have hl7 : w.heap.size < w7.heap.size := Nat.lt_of_lt_of_le hl6 hB7.size
        clear ho7 hB7 hb6 hg6 hcz hop5 hB5 hbx5 hbx6 hs5 hl6
        have hop8 : OwnI w7 v7 [(k : Int), 1] := hop7
        clear hop7
        go_wp2_with (first | (at_builtin; refine wpList_app1 Try.intSl rfl _ _ rfl _ [(k : Int), 1] rfl (hop8.alloc _) (w.heap.size + 1) hf7 w7.heap.size ((q : Int) + 1) rfl (cell_lit1 _ rfl _ _) w7 ((Below.refl _ _).alloc hl7 _) (by simp; omega) (by simp) ?_))
        intro v9 w9 ho9 hf9 hB9 _
        have hb9 := hb7.trans (hB9.mono (Nat.le_succ _))
        have hop9 : OwnI w9 v9 [(k : Int), 1, (q : Int) + 1] := ho9
        clear ho9 hB9 hb7 hop8
        go_wp2
        go_ret
        exact ⟨_, rfl, by rw [HD.out]; exact hop9, hf9.mono (Nat.le_succ _), hb9⟩
      · have h2' : t0 ≤ 0 := by omega
        clear h2
        obtain ⟨k, hk⟩ : ∃ k : Nat, p = (k : Int) := ⟨p.toNat, by omega⟩
        subst hk
        have HP1 := Lib.hid (show topTo ys (q + 1) = [(k : Int)] by unfold topTo; rw [Int.natCast_add, Int.natCast_one, HPL.out, if_pos (by omega)])
        have HP2 := Lib.hid (show sideTo ys (q + 1) = [] by unfold sideTo; rw [HT0.out, if_neg (by omega)])
        have HD := Lib.hid (show downB ys (q + 1) = [(k : Int), (q : Int) + 1] by unfold downB; rw [if_neg HNE.out, HP1.out, HP2.out]; simp)
        go_wp2_with fail
        refine (withoutSides_any _ (ys ++ List.replicate (9 - ys.length) 0) _ hsl hpl).mono ?_
        rintro e w2 ⟨r2, rfl, ho2, hf2, hb2⟩
        rw [HPAD.out] at ho2
        have hbx2 := hbx1.below hb2 hbx1.lt
        have hB2 := hB1.trans (hb2.mono hB1.size)
        have hot2 := hot.same hb2
        have hs2 := hB2.size
        clear hsl hf2 hot hB1 hbx1 hb2
        go_wp2_with fail
        refine (Index_any _ _ _ _ ho2 hpl2).mono ?_
        rintro e w3 ⟨rfl, hb3⟩
        rw [HPP.out]
        have hbx3 := hbx2.below hb3 hbx2.lt
        have hB3 := hB2.trans (hb3.mono hs2)
        have hot3 := hot2.same hb3
        have hs3 := hB3.size
        have hl3 := hbx3.lt
        clear ho2 hot2 hB2 hbx2 hb3 hs2
        go_wp2_with (first | (at_builtin; refine wpList_app1 Try.intSl rfl _ _ rfl _ [] rfl (hot3.alloc _) (w.heap.size + 1) hft w3.heap.size (k : Int) rfl (cell_lit1 _ rfl _ _) w3 ((Below.refl _ _).alloc hl3 _) (by simp; omega) (by simp) ?_; intro v4 w4 ho4 hf4 hB4 _; have hbx4 := hbx3.below hB4 (Nat.lt_succ_self _)) | (refine wpList_load_tower rfl _ rfl w.heap.size ys hyn rfl hbx4 ?_))
        have hop4 : OwnI w4 v4 [(k : Int)] := ho4
        have hb4 := hB3.trans (hB4.mono (Nat.le_succ _))
        have hs4 := hb4.size
        have hl4 := hbx4.lt
        have hkl : k ≤ ys.length := by omega
        have HBT := Lib.hid (show (bturnL ys k).length = ys.length from bturnL_length _ _)
        have hk9 : (bturnL ys k).length ≤ 9 := by have := HBT.out; omega
        clear ho4 hB4 hot3 hB3 hbx3 hs3 hl3
        refine (turnedOver_any _ _ _ hyn hkl HN9).mono ?_
        rintro e w5 ⟨rfl, hb5⟩
        have hbx5 := hbx4.below hb5 hl4
        have hop5 := hop4.same hb5
        have hB5 := hb4.trans (hb5.mono hs4)
        have HNE5 := Lib.hid (show ∀ g, v4.ownBlock = some g → some w.heap.size ≠ some g from fun g hg e => by have := hf4 g hg; cases e; omega)
        have hs5 := hB5.size
        clear hbx4 hop4 hb4 hb5 hs4 hl4
        have HTZ := Lib.hid (show (bturnL ys k)[0]'(by have := HBT.out; omega) = t0 by have h := HT0.out; rw [HP1.out] at h; rw [← h, ← getD_eq (by have := HBT.out; omega)]; rfl)
        have HCZ := Lib.hid (show (twl (bturnL ys k))[0]? = some (iv t0) by rw [twl_get _ 0 (by have := HBT.out; omega), HTZ.out])
        go_wp2_with (first | (refine wpList_store_tower rfl _ _ rfl w.heap.size ys (bturnL ys k) hyn hk9 rfl rfl hbx5 ?_; intro w6 hbx6 hg6; have hcz := (hbx6.cell 0).trans HCZ.out; have hl6 := hbx6.lt) | (at_builtin; refine wpList_app1 Try.intSl rfl _ _ rfl _ [(k : Int)] rfl ((Own.grown hop5 hg6 HNE5.out).alloc _) (w.heap.size + 1) hf4 w6.heap.size ((q : Int) + 1) rfl (cell_lit1 _ rfl _ _) w6 ((Below.refl _ _).alloc hl6 _) (by simp; omega) (by simp) ?_))
        intro v7 w7 ho7 hf7 hB7 _
        have hb6 := hB5.grown hg6 hs5 (by intro k hk; cases hk; exact Nat.le_refl _)
        have hb7 := hb6.trans (hB7.mono (Nat.le_succ _))
        have hop7 : OwnI w7 v7 ([(k : Int)] ++ [((q : Int) + 1)]) := ho7
        have hl7 : w.heap.size < w7.heap.size := Nat.lt_of_lt_of_le hl6 hB7.size
        clear ho7 hB7 hb6 hg6 hcz hop5 hB5 hbx5 hbx6 hs5 hl6
        have hop9 : OwnI w7 v7 [(k : Int), (q : Int) + 1] := hop7
        have hb9 := hb7
        have hf9 := hf7
        clear hop7 hb7
        go_wp2
        go_ret
        exact ⟨_, rfl, by rw [HD.out]; exact hop9, hf9.mono (Nat.le_succ _), hb9⟩
    · have h1' : p ≤ 1 := by omega
      clear h1
      by_cases h2 : 0 < t0
      · skip
        have HP1 := Lib.hid (show topTo ys (q + 1) = [] by unfold topTo; rw [Int.natCast_add, Int.natCast_one, HPL.out, if_neg (by omega)])
        have HP2 := Lib.hid (show sideTo ys (q + 1) = [1] by unfold sideTo; rw [HT0.out, if_pos (by omega)])
        have HD := Lib.hid (show downB ys (q + 1) = [1, (q : Int) + 1] by unfold downB; rw [if_neg HNE.out, HP1.out, HP2.out]; simp)
        go_wp2_with fail
        refine (withoutSides_any _ (ys ++ List.replicate (9 - ys.length) 0) _ hsl hpl).mono ?_
        rintro e w2 ⟨r2, rfl, ho2, hf2, hb2⟩
        rw [HPAD.out] at ho2
        have hbx2 := hbx1.below hb2 hbx1.lt
        have hB2 := hB1.trans (hb2.mono hB1.size)
        have hot2 := hot.same hb2
        have hs2 := hB2.size
        clear hsl hf2 hot hB1 hbx1 hb2
        go_wp2_with fail
        refine (Index_any _ _ _ _ ho2 hpl2).mono ?_
        rintro e w3 ⟨rfl, hb3⟩
        rw [HPP.out]
        have hbx3 := hbx2.below hb3 hbx2.lt
        have hB3 := hB2.trans (hb3.mono hs2)
        have hot3 := hot2.same hb3
        have hs3 := hB3.size
        have hl3 := hbx3.lt
        clear ho2 hot2 hB2 hbx2 hb3 hs2
        have HTZ := Lib.hid (show ys[0]'(by omega) = t0 by have h := HT0.out; rw [HP1.out] at h; rw [← h, ← getD_eq (by omega)]; rfl)
        have HCZ := Lib.hid (show (twl ys)[0]? = some (iv t0) by rw [twl_get _ 0 (by omega), HTZ.out])
        have hcz := (hbx3.cell 0).trans HCZ.out
        go_wp2_with (first | (at_builtin; refine wpList_app1 Try.intSl rfl _ _ rfl _ [] rfl (hot3.alloc _) (w.heap.size + 1) hft w3.heap.size 1 rfl (cell_lit1 _ rfl _ _) w3 ((Below.refl _ _).alloc hl3 _) (by simp; omega) (by simp) ?_))
        intro v7 w7 ho7 hf7 hB7 _
        have hb7 := hB3.trans (hB7.mono (Nat.le_succ _))
        have hop7 : OwnI w7 v7 ([] ++ [1]) := ho7
        have hl7 : w.heap.size < w7.heap.size := Nat.lt_of_lt_of_le hl3 hB7.size
        clear ho7 hB7 hot3 hB3 hbx3 hs3 hl3 hcz
        have hop8 : OwnI w7 v7 [1] := hop7
        clear hop7
        go_wp2_with (first | (at_builtin; refine wpList_app1 Try.intSl rfl _ _ rfl _ [1] rfl (hop8.alloc _) (w.heap.size + 1) hf7 w7.heap.size ((q : Int) + 1) rfl (cell_lit1 _ rfl _ _) w7 ((Below.refl _ _).alloc hl7 _) (by simp; omega) (by simp) ?_))
        intro v9 w9 ho9 hf9 hB9 _
        have hb9 := hb7.trans (hB9.mono (Nat.le_succ _))
        have hop9 : OwnI w9 v9 [1, (q : Int) + 1] := ho9
        clear ho9 hB9 hb7 hop8
        go_wp2
        go_ret
        exact ⟨_, rfl, by rw [HD.out]; exact hop9, hf9.mono (Nat.le_succ _), hb9⟩
      · have h2' : t0 ≤ 0 := by omega
        clear h2
        have HP1 := Lib.hid (show topTo ys (q + 1) = [] by unfold topTo; rw [Int.natCast_add, Int.natCast_one, HPL.out, if_neg (by omega)])
        have HP2 := Lib.hid (show sideTo ys (q + 1) = [] by unfold sideTo; rw [HT0.out, if_neg (by omega)])
        have HD := Lib.hid (show downB ys (q + 1) = [(q : Int) + 1] by unfold downB; rw [if_neg HNE.out, HP1.out, HP2.out]; simp)
        go_wp2_with fail
        refine (withoutSides_any _ (ys ++ List.replicate (9 - ys.length) 0) _ hsl hpl).mono ?_
        rintro e w2 ⟨r2, rfl, ho2, hf2, hb2⟩
        rw [HPAD.out] at ho2
        have hbx2 := hbx1.below hb2 hbx1.lt
        have hB2 := hB1.trans (hb2.mono hB1.size)
        have hot2 := hot.same hb2
        have hs2 := hB2.size
        clear hsl hf2 hot hB1 hbx1 hb2
        go_wp2_with fail
        refine (Index_any _ _ _ _ ho2 hpl2).mono ?_
        rintro e w3 ⟨rfl, hb3⟩
        rw [HPP.out]
        have hbx3 := hbx2.below hb3 hbx2.lt
        have hB3 := hB2.trans (hb3.mono hs2)
        have hot3 := hot2.same hb3
        have hs3 := hB3.size
        have hl3 := hbx3.lt
        clear ho2 hot2 hB2 hbx2 hb3 hs2
        have HTZ := Lib.hid (show ys[0]'(by omega) = t0 by have h := HT0.out; rw [HP1.out] at h; rw [← h, ← getD_eq (by omega)]; rfl)
        have HCZ := Lib.hid (show (twl ys)[0]? = some (iv t0) by rw [twl_get _ 0 (by omega), HTZ.out])
        have hcz := (hbx3.cell 0).trans HCZ.out
        go_wp2_with (first | (at_builtin; refine wpList_app1 Try.intSl rfl _ _ rfl _ [] rfl (hot3.alloc _) (w.heap.size + 1) hft w3.heap.size ((q : Int) + 1) rfl (cell_lit1 _ rfl _ _) w3 ((Below.refl _ _).alloc hl3 _) (by simp; omega) (by simp) ?_))
        intro v7 w7 ho7 hf7 hB7 _
        have hb7 := hB3.trans (hB7.mono (Nat.le_succ _))
        have hop7 : OwnI w7 v7 ([] ++ [((q : Int) + 1)]) := ho7
        have hl7 : w.heap.size < w7.heap.size := Nat.lt_of_lt_of_le hl3 hB7.size
        clear ho7 hB7 hot3 hB3 hbx3 hs3 hl3 hcz
        have hop9 : OwnI w7 v7 [(q : Int) + 1] := hop7
        have hb9 := hb7
        have hf9 := hf7
        clear hop7 hb7
        go_wp2
        go_ret
        exact ⟨_, rfl, by rw [HD.out]; exact hop9, hf9.mono (Nat.le_succ _), hb9⟩

set_option maxRecDepth 100000 in
set_option maxHeartbeats 4000000 in
theorem BurntGreedy_any (v : Value) (xs : List Int) (w : World) (hv : OwnI w v xs) (hn : xs.length ≤ 1048576) (hw : Wf64 xs) :
    Calls Try.prog 47 #[v] w fun e w' => ∃ r, e = .returned (.tuple #[r, .bool (burntB xs)]) ∧ OwnI w' r (mBurntGreedy xs) ∧ From w.heap.size r ∧ Below w.heap.size w w' := by
  obtain ⟨ad, cap, rfl, hc, _, _⟩ := hv.shape
  cases hg : burntB xs with
  | true =>
    have hBu := burntB_iff.1 hg
    have hl := hBu.len
    have hl9 := hl.2
    have HB := Lib.hid hBu
    have HG := Lib.hid hg
    have HM := Lib.hid (show mBurntGreedy xs = bgrTo xs xs.length from if_pos hg)
    obtain ⟨i0, hi, hz0, hz1, hz2⟩ := info_parts Try.info3
    have HI := Lib.hid hi
    have HZ1 := Lib.hid hz1
    have h3 : 3 * (xs.length : Int) ≤ 27 := by omega
    clear hBu hg hl
    go_enter Try.func47, Try.ntmps47
    go_wp2_with fail
    refine (IsBurnt_any _ _ _ hv hn hw).mono ?_
    rintro e w1 ⟨rfl, hb⟩
    rw [HG.out]
    go_wp2_with fail
    refine (towerOf_any _ _ _ (hv.same hb) hl9).mono ?_
    rintro e w2 ⟨rfl, hb2⟩
    have hB2 := hb.trans (hb2.mono hb.size)
    have hz : Blk (w2.alloc (.cells (twl []).toArray 54)) w2.heap.size 54 (twl []) := Blk.new _ _ (twl []) _ rfl
    have hBa := hB2.alloc hB2.size (.cells (twl []).toArray 54)
    have hs2 := hB2.size
    clear hb hb2 hv
    go_wp2_with (first | (refine wpList_store_tower rfl _ _ rfl w2.heap.size [] xs (by simp) hl9 rfl rfl hz ?_; intro w3 hbx3 hg3; have hl3 := hbx3.lt; have hB3 := hBa.grown hg3 (by simp; omega) (by intro k hk; cases hk; exact hs2)) | (at_make; refine wpList_make_own _ rfl _ _ 25 rfl (w2.heap.size + 1) 3 i0 (.int .i64 0) 1 Try.underlying25 hi hz0 hz1 _ _ _ (3 * xs.length) rfl rfl (by first | rfl | simp | omega) ?b1 ?b2 ?b3 ?_))
    case b1 => rw [hz2]; omega
    case b2 => unfold maxLen; omega
    case b3 => omega
    intro w4 hown hgrow
    have hbx4 := hbx3.grown hgrow (by simp)
    have hB4 := hB3.grown hgrow hB3.size (fun k hk => by simp at hk)
    have hl4 := (Own.of_row hown).1.lt _ rfl
    clear hi hz0 hz1 hz2 hgrow hbx3 hB3 hg3 hz hBa
    go_wp2
    go_loopw [5, 6, 8, 28] (fun o i _ _ wr => ∃ j m : Nat, m + j = xs.length ∧ i = .int .i64 m ∧ o = .slice (some ⟨w3.heap.size, 0, none⟩) (bgrTo xs j).length (3 * xs.length) ∧ wr.ownsRow (w2.heap.size + 1) 3 1 (.slice (some ⟨w3.heap.size, 0, none⟩) (bgrTo xs j).length (3 * xs.length)) (bgrTo xs j).length ((bgrTo xs j).map iv) ∧ Blk wr w2.heap.size 54 (twl (bplayL xs (bgrTo xs j))) ∧ Below w.heap.size w wr) (fun _ i _ _ _ => (intOf i).toNat)
    case atStart => exact ⟨0, xs.length, rfl, rfl, rfl, hown, hbx4, hB4⟩
    case round =>
      obtain ⟨j, m, hjm, rfl, rfl, hoO, hbx, hbr⟩ := hrel
      clear hown hbx4 hB4
      cases m with
      | zero =>
        obtain rfl : j = xs.length := by omega
        have hoo := (Own.of_row hoO).1
        have hof := (Own.of_row hoO).2
        clear hoO
        go_wp2_with fail
        refine (Clip_any _ _ _ hoo).mono ?_
        rintro e w5 ⟨r, rfl, hor, hob, rfl⟩
        have hfr : From w.heap.size r := fun g hg => by have := hof g (by rw [← hob]; exact hg); omega
        clear hob
        go_wp2
        go_ret2
        exact ⟨_, rfl, by rw [HM.out]; exact hor, hfr, hbr⟩
      | succ q =>
        rw [Int.natCast_add, Int.natCast_one]
        obtain ⟨ys, hys⟩ : ∃ ys, bplayL xs (bgrTo xs j) = ys := ⟨_, rfl⟩
        rw [hys] at hbx
        have HYE := Lib.hid hys
        have hyl : ys.length = xs.length := by rw [← hys, bplayL_length]
        have HY := Lib.hid (show Burnt ys by rw [← hys]; exact bplayL_burnt HB.out _)
        have hyn : ys.length ≤ 9 := by omega
        have hqy : q < ys.length := by omega
        have hgl : (bgrTo xs j).length + 3 ≤ 3 * xs.length := by have := bgrTo_length xs j; omega
        have HQJ := Lib.hid (show xs.length - j = q + 1 by omega)
        have HJM := Lib.hid hjm
        have HDB := Lib.hid (downB_bd HY.out (m := q + 1) (by omega) (by omega))
        obtain ⟨D, hD⟩ : ∃ D, downB ys (q + 1) = D := ⟨_, rfl⟩
        have HD := Lib.hid hD
        have hDl : D.length ≤ 3 := by rw [← hD]; exact downB_length _ _
        have HS := Lib.hid (show bgrTo xs (j + 1) = bgrTo xs j ++ D by rw [← hD, ← hys, ← HQJ.out]; rfl)
        have hlw := hbx.lt
        have hl3w := (Own.of_row hoO).1.lt _ rfl
        have HYL := Lib.hid hyl
        rw [hD] at HDB
        obtain ⟨G, hG⟩ : ∃ G, bgrTo xs j = G := ⟨_, rfl⟩
        have HGE := Lib.hid hG
        rw [hG] at hgl hoO ⊢
        clear hys hyl hjm hD hG
        go_wp2_with (first | (refine wpList_load_tower rfl _ rfl w2.heap.size ys hyn rfl hbx ?_))
        refine (turnsDown_any ys q _ HY hqy).mono ?_
        rintro e w5 ⟨r5, rfl, hor5, hfr5, hb5⟩
        rw [HD.out] at hor5
        have hbx5 := hbx.below hb5 hlw
        have ho5 := hoO.kept (grown_of_below hb5 none) (.inr (by intro h; cases h))
        have hB5 := hbr.trans (hb5.mono hbr.size)
        obtain ⟨ad5, cap5, rfl, hc5, _, _⟩ := hor5.shape
        have HNB := Lib.hid (show ∀ g, (Value.slice ad5 D.length cap5).ownBlock = some g → g ≠ w3.heap.size ∧ g ≠ w2.heap.size from fun g hg => by have := hfr5 g hg; omega)
        clear hbx hoO hbr hb5 hfr5
        go_wp2
        go_loopw [5, 8, 28] (fun o _ i wi => ∃ t : Nat, t ≤ D.length ∧ i = .int .i64 t ∧ o = .slice (some ⟨w3.heap.size, 0, none⟩) (G.length + t) (3 * xs.length) ∧ wi.ownsRow (w2.heap.size + 1) 3 1 (.slice (some ⟨w3.heap.size, 0, none⟩) (G.length + t) (3 * xs.length)) (G.length + t) ((G ++ D.take t).map iv) ∧ Blk wi w2.heap.size 54 (twl (bplayL ys (D.take t))) ∧ OwnI wi (.slice ad5 D.length cap5) D ∧ Below w.heap.size w wi) (fun _ _ i _ => D.length - (intOf i).toNat)
        case atStart => exact ⟨0, Nat.zero_le _, rfl, rfl, by simpa using ho5, hbx5, hor5, hB5⟩
        case round =>
          obtain ⟨t, ht, rfl, rfl, hoi, hbxi, hori, hbi⟩ := hrel
          clear ho5 hbx5 hor5 hB5
          by_cases hlt : t < D.length
          · obtain ⟨gD, oD, rfl, hgD, hcell, _⟩ := hori.at (by omega)
            have hck := hcell t (by omega)
            rw [List.getElem?_map, List.getElem?_eq_getElem hlt] at hck
            have hin := HDB.out _ (List.getElem_mem hlt)
            obtain ⟨k, hk⟩ : ∃ k : Nat, D[t] = (k : Int) := ⟨D[t].toNat, by omega⟩
            rw [hk] at hck hin
            have hin1 := hin.1
            have hin2 := hin.2
            obtain ⟨zs, hzs⟩ : ∃ zs, bplayL ys (D.take t) = zs := ⟨_, rfl⟩
            rw [hzs] at hbxi
            have hzl : zs.length = ys.length := by rw [← hzs, bplayL_length]
            have hz9 : zs.length ≤ 9 := by omega
            have hkz : k ≤ zs.length := by omega
            have HZ9 := Lib.hid (show ∀ x ∈ zs, -9 ≤ x ∧ x ≤ 9 by rw [← hzs]; exact Burnt.nine (bplayL_burnt HY.out _))
            have HBL := Lib.hid (bturnL_length zs k)
            have hb9 : (bturnL zs k).length ≤ 9 := by have := HBL.out; omega
            have HTN := Lib.hid (show bplayL ys (D.take (t + 1)) = bturnL zs k by rw [bplayL_take_succ ys D t hlt, hzs, hk]; simp)
            have HON := Lib.hid (show (G ++ D.take t).map iv ++ [iv (k : Int)] = (G ++ D.take (t + 1)).map iv by simp [List.take_succ_eq_append_getElem hlt, hk, iv])
            have hl2 := hbxi.lt
            have hlsi := hbi.size
            have HZL := Lib.hid hzl
            have HGD := Lib.hid (show w3.heap.size ≠ gD from fun e => (HNB.out gD rfl).1 e.symm)
            clear hcell hin hk hzs hzl
            go_wp2_with (first | (at_builtin; refine wpList_append_fits _ rfl _ _ 25 rfl (w2.heap.size + 1) 3 i0 1 Try.underlying25 HI.out HZ1.out w3.heap.size (G.length + t) (3 * xs.length) _ rfl (hoi.alloc _) _ 1 1 [iv (k : Int)] rfl (by simp) (World.news_of_block (heap_alloc_new _ _)) (by simp [Value.oneCell']) (by omega) ?_; intro w6 hoi6 hgr6; have hbx6 := (hbxi.alloc (.cells #[iv (k : Int)] 3)).grown hgr6 (by simp [Value.ownBlock]; omega)) | (refine wpList_load_tower rfl _ rfl w2.heap.size zs hz9 rfl hbx6 ?_))
            rw [HON.out, Nat.add_assoc] at hoi6
            have hor6 := Own.grown (hori.alloc (.cells #[iv (k : Int)] 3)) hgr6 (by intro g hg e; simp [Value.ownBlock] at hg e; exact HGD.out (by omega))
            have hb6 := (hbi.alloc hlsi (.cells #[iv (k : Int)] 3)).grown hgr6 (by simp; omega) (by intro g hg; simp [Value.ownBlock] at hg; omega)
            have hl6 := hbx6.lt
            clear hoi hbxi hori hbi hgr6
            refine (turnedOver_any _ _ _ hz9 hkz HZ9).mono ?_
            rintro e w7 ⟨rfl, hb7⟩
            have hbx7 := hbx6.below hb7 hl6
            have hoi7 := hoi6.kept (grown_of_below hb7 none) (.inr (by intro h; cases h))
            have hor7 := hor6.same hb7
            have hB7 := hb6.trans (hb7.mono hb6.size)
            have hs7 := hB7.size
            have HGD2 := Lib.hid (show w2.heap.size ≠ gD from fun e => (HNB.out gD rfl).2 e.symm)
            clear hbx6 hoi6 hor6 hb6 hb7
            go_wp2_with (first | (refine wpList_store_tower rfl _ _ rfl w2.heap.size zs (bturnL zs k) hz9 hb9 rfl rfl hbx7 ?_; intro w8 hbx8 hg8))
            have hoi8 := hoi7.kept hg8 (.inr (by intro h; simp [Value.ownBlock] at h; omega))
            have hor8 := Own.grown hor7 hg8 (by intro g hg e; simp [Value.ownBlock] at hg e; exact HGD2.out (by omega))
            have hB8 := hB7.grown hg8 hs7 (by intro g hg; cases hg; exact hs2)
            rw [← HTN.out] at hbx8
            go_roundw
            case rel => exact ⟨t + 1, by omega, by go_num, rfl, hoi8, hbx8, hor8, hB8⟩
            case measure => simp [intOf] <;> omega
          · obtain rfl : t = D.length := by omega
            have HSG := Lib.hid (show bgrTo xs (j + 1) = G ++ D by rw [HS.out, HGE.out])
            have HSL := Lib.hid (show (bgrTo xs (j + 1)).length = G.length + D.length by rw [HSG.out, List.length_append])
            rw [List.take_length] at hoi hbxi
            have HN := Lib.hid (show bplayL ys D = bplayL xs (bgrTo xs (j + 1)) by rw [HSG.out, bplayL_append, ← HGE.out, HYE.out])
            rw [← HSL.out, ← HSG.out] at hoi
            rw [HN.out] at hbxi
            have HO9 := Lib.hid hoi
            have HX9 := Lib.hid hbxi
            clear hoi hbxi hori
            go_wp2
            go_roundw
            case rel => exact ⟨j + 1, q, by have := HJM.out; omega, by go_num, by rw [HSL.out], HO9.out, HX9.out, hbi⟩
            case measure => simp [intOf] <;> omega
  | false =>
    have HM := Lib.hid (show mBurntGreedy xs = [] from if_neg (by rw [hg]; exact Bool.false_ne_true))
    have HG := Lib.hid hg
    clear hg
    go_enter Try.func47, Try.ntmps47
    go_wp2_with fail
    refine (IsBurnt_any _ _ _ hv hn hw).mono ?_
    rintro e w1 ⟨rfl, hb⟩
    rw [HG.out]
    go_wp2
    go_ret2
    exact ⟨_, rfl, by rw [HM.out]; exact OwnI.nil _, From.nil _ _ _, hb⟩
end Go.Proofs.Ytakgmcfpdbeajaa
