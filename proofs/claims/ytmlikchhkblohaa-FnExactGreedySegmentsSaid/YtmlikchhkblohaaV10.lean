import Derived.Test.YtmlikchhkblohaaV8
namespace Go.Proofs.Ytmlikchhkblohaa
open Go Go.RowKit Go.Pan

/-- the place of a size among the cells of a tower -/
theorem placeL_pad {xs : List Int} (x : Int) (h : x ∈ xs) (m : Nat) : placeL (xs ++ List.replicate m 0) x = placeL xs x := by
  rw [placeL_of_mem h, placeL_of_mem (List.mem_append_left _ h), List.idxOf_append, if_pos h]

set_option maxHeartbeats 4000000 in
set_option maxRecDepth 100000 in
theorem selection_any (xs : List Int) (w : World) (hg : Hid (Go.Pan.Good xs)) :
    Calls Try.prog 164 #[tw xs, .int .i64 xs.length] w fun e w' => ∃ r, e = .returned r ∧ OwnC c2 w' r (selL xs) ∧ From w.heap.size r ∧ Below w.heap.size w w' := by
  obtain ⟨i0, hi, hz0, hz1, hz2⟩ := info_parts infoSegment3
  have HI := Lib.hid hi
  have HZ0 := Lib.hid hz0
  have HZ1 := Lib.hid hz1
  have hl9 := hg.out.le9
  have hl1 := hg.out.1
  have hbx : Blk (w.alloc (.cells (twl xs).toArray 86)) w.heap.size 86 (twl xs) := Blk.new w _ (twl xs) _ rfl
  have hb0 := below_new w (.cells (twl xs).toArray 86)
  have HT := Lib.hid (twl_length xs hl9)
  go_enter Try.func164, Try.ntmps164
  go_wp2_with (at_make; refine wpList_make_own _ rfl _ _ 54 rfl (w.heap.size + 1) 62 i0 _ 2 Try.underlying54 hi hz0 hz1 _ _ _ (xs.length - 1) rfl rfl ?b0 ?b1 ?b2 ?b3 ?_)
  case b0 => omega
  case b1 => rw [hz2]; omega
  case b2 => unfold maxLen; omega
  case b3 => simp
  intro w1 hown hgr
  have ho0 : OwnC c2 w1 (.slice (some ⟨w.heap.size + 1, 0, none⟩) 0 (xs.length - 1)) [] := (Own.of_row hown).1
  have hf0 := (Own.of_row hown).2
  have hbx1 := hbx.grown hgr (by simp)
  have hb1 := hb0.grown hgr hb0.size (fun k hk => by simp at hk)
  clear hown hgr hi hz0 hz1 hz2 hb0 hbx
  go_wp2
  have HBS := Lib.hid hb1
  have hl9t := HT.out
  go_loopw [5, 6, 7, 8] (fun o i _ _ wr => ∃ k : Nat, k ≤ xs.length ∧ i = .int .i64 ((k : Int) + 1) ∧ OwnC c2 wr o (selTo xs k).l ∧ From (w.heap.size + 1) o ∧ Blk wr w.heap.size 86 (twl (selTo xs k).xs) ∧ Below w.heap.size w wr) (fun _ i _ _ _ => xs.length + 2 - (intOf i).toNat)
  case atStart => exact ⟨0, by omega, by go_num, ho0, hf0, hbx1, hb1⟩
  case round =>
    obtain ⟨k, hk, rfl, ho, hf, hbl, hbr⟩ := hrel
    clear ho0 hf0 hbx1 hb1
    have hinv := selInv hg.out k hk
    have hsl := hinv.len
    have hol : (selTo xs k).l.length ≤ 1048576 := by have := selTo_len xs k; omega
    by_cases hlt : k < xs.length
    · obtain ⟨i, hki, hin, hgt, hpl⟩ := hinv.place hlt
      have hlt' : (k : Int) + 1 ≤ xs.length := by omega
      have hmem : ((k : Int) + 1) ∈ (selTo xs k).xs := List.mem_of_getElem? hgt
      have hseg : i ≠ k → segB xs.length ((k : Int) + 1, (i : Int) + 1) = true := fun h => by
        have := hinv.seg hlt (by rw [hpl]; omega)
        rw [hpl] at this; exact this
      have hnx : selTo xs (k + 1) = if (i : Int) + 1 = (k : Int) + 1 then selTo xs k else ⟨(selTo xs k).l ++ [((k : Int) + 1, (i : Int) + 1)], segT (selTo xs k).xs ((k : Int) + 1, (i : Int) + 1)⟩ := by
        rw [selTo, selStep, hpl]
      obtain ⟨Y, hY⟩ : ∃ Y, (selTo xs k).xs = Y := ⟨_, rfl⟩
      obtain ⟨Z, hZ⟩ : ∃ Z, (selTo xs k).l = Z := ⟨_, rfl⟩
      have HY := Lib.hid hY
      have HZ := Lib.hid hZ
      rw [hY] at hbl hsl hnx hpl hmem
      rw [hZ] at ho hol hnx
      have hY9 : Y.length ≤ 9 := by omega
      have hsl9 : OwnI wr (.slice (some ⟨w.heap.size, 0, none⟩) 9 9) (Y ++ List.replicate (9 - Y.length) 0) := OwnI.of_blk0 hbl (by simp; omega) (by omega)
      have ci := Index_any _ _ ((k : Int) + 1) wr hsl9 (by simp; omega)
      rw [placeL_pad _ hmem, hpl, show (i : Int) + 1 - 1 = (i : Int) by omega] at ci
      have hlr := hbl.lt
      have HNX := Lib.hid hnx
      have HLY := Lib.hid (show (Y.length : Int) = (xs.length : Int) by omega)
      clear hinv hsl hpl hgt hmem hnx hsl9 hY hZ
      by_cases he : i = k
      · subst he
        have HS := Lib.hid (show selTo xs (i + 1) = selTo xs i by rw [HNX.out, if_pos rfl])
        go_wp2_with fail
        refine ci.mono ?_
        rintro e w2 ⟨rfl, hb2⟩
        have hbl2 := hbl.below hb2 hlr
        have ho2 := ho.same hb2
        have hB2 := hbr.trans (hb2.mono hbr.size)
        clear ho hbr hb2 ci hbl
        go_wp2
        go_roundw
        case rel => exact ⟨i + 1, by omega, by go_num, by rw [HS.out, HZ.out]; exact ho2, hf, by rw [HS.out, HY.out]; exact hbl2, hB2⟩
        case measure => simp [intOf] <;> omega
      · have HB := Lib.hid (hseg he)
        have hne : ¬ ((i : Int) + 1 = (k : Int) + 1) := by omega
        have hq : (((i : Int) + 1) != (k : Int) + 1) = true := by simp; omega
        have HSx := Lib.hid (show (selTo xs (k + 1)).xs = segT Y ((k : Int) + 1, (i : Int) + 1) by rw [HNX.out, if_neg hne])
        have HSl := Lib.hid (show (selTo xs (k + 1)).l = Z ++ [((k : Int) + 1, (i : Int) + 1)] by rw [HNX.out, if_neg hne])
        clear hseg
        go_wp2_with fail
        refine ci.mono ?_
        rintro e w2 ⟨rfl, hb2⟩
        have hbl2 := hbl.below hb2 hlr
        have ho2 := ho.same hb2
        have hB2 := hbr.trans (hb2.mono hbr.size)
        have hl2 := hbl2.lt
        clear ho hbr hb2 ci hbl
        have hs2 := hB2.size
        have hz2 : Blk (w2.alloc (.cells #[iv 0, iv 0] 62)) w2.heap.size 62 [iv 0, iv 0] := Blk.new w2 _ [iv 0, iv 0] _ rfl
        have hbla := hbl2.alloc (.cells #[iv 0, iv 0] 62)
        have hoa := ho2.alloc (.cells #[iv 0, iv 0] 62)
        have hBa := hB2.alloc hs2 (.cells #[iv 0, iv 0] 62)
        have HLT := Lib.hid (Own.lt ho2)
        have hsz2 : (Try.prog.info? 62).map (·.size) = some 2 := infoSegment
        clear hbl2 ho2 hB2
        go_wp2_with (first
          | (refine wpList_storeS2 rfl 62 _ _ rfl w2.heap.size (.int .i64 ((k : Int) + 1)) (.int .i64 ((i : Int) + 1)) rfl rfl _ _ hz2 hsz2 rfl ⟨rfl, rfl⟩ ?_
             intro w3 hz3 hgr3
             have hbl3 := hbla.grown hgr3 (by simp <;> omega)
             have ho3 := hoa.grown hgr3 (by intro g hg e; have := HLT.out g hg; cases e; omega)
             have hB3 := hBa.grown hgr3 hBa.size (by intro j hj; cases hj; exact hs2)
             have hs3 := hB3.size
             have hl3 := hz3.lt
             have hbl4 := hbl3.alloc (.cells #[.int .i64 ((k : Int) + 1), .int .i64 ((i : Int) + 1)] 62)
             have ho4 := ho3.alloc (.cells #[.int .i64 ((k : Int) + 1), .int .i64 ((i : Int) + 1)] 62)
             have hz4 := hz3.alloc (.cells #[.int .i64 ((k : Int) + 1), .int .i64 ((i : Int) + 1)] 62)
             have hB4 := hB3.alloc hs3 (.cells #[.int .i64 ((k : Int) + 1), .int .i64 ((i : Int) + 1)] 62)
             have hsrc := Src.pair (p := ((k : Int) + 1, (i : Int) + 1)) (Blk.new w3 62 [iv ((k : Int) + 1), iv ((i : Int) + 1)] _ rfl)
             clear hz2 hbla hoa hBa hgr3 hbl3 ho3 hB3)
          | (refine wpList_loadS2 rfl 62 _ rfl w2.heap.size _ _ rfl _ hz3 Try.underlying62 rfl hsz2 ?_)
          | (refine wpList_build_pair Try.underlying54 HI.out HZ0.out HZ1.out rfl _ rfl (.int .i64 ((k : Int) + 1)) (.int .i64 ((i : Int) + 1)) rfl ?_)
          | (at_builtin; go_loud (
             refine wpList_appC segSl (by omega) (by omega) rfl _ _ rfl u5 Z rfl ho4 (w.heap.size + 1) hf (some ⟨w3.heap.size, 0, none⟩) 1 1 [((k : Int) + 1, (i : Int) + 1)] rfl rfl hsrc _ (Below.refl _ _) (by simp <;> omega) hol (by simp) ?_
             intro v7 w7 ho7 hf7 hb7 hg7
             have hbl7 := hbl4.below hb7 (by omega)
             have hB7 := hB4.trans (hb7.mono (by simp <;> omega))
             have HZ7 := Lib.hid (hz4.grown hg7 (fun e => by
               have h1 := HLT.out w2.heap.size e
               omega))
             clear hbl4 ho4 hB4 hz3 hz4 hg7))
          | (refine wpList_loadS2 rfl 62 _ rfl w2.heap.size _ _ rfl _ HZ7.out Try.underlying62 rfl hsz2 ?_)
          | (refine wpList_load_tower rfl _ rfl w.heap.size Y hY9 rfl hbl7 ?_))
        refine (segmentTurned_any Y _ ((k : Int) + 1, (i : Int) + 1) _ hY9 HB HLY).mono ?_
        rintro e w8 ⟨rfl, hb8⟩
        have hlb7 := hbl7.lt
        have hbl8 := hbl7.below hb8 hlb7
        have ho8 := ho7.same hb8
        have hB8 := hB7.trans (hb8.mono hB7.size)
        have hq9 : (segT Y ((k : Int) + 1, (i : Int) + 1)).length ≤ 9 := by rw [segT_length HB.out]; exact hY9
        clear ho7 hB7 hbl7 hb8
        go_wp2_with (first | (refine wpList_store_tower rfl _ _ rfl w.heap.size Y (segT Y ((k : Int) + 1, (i : Int) + 1)) hY9 hq9 rfl rfl hbl8 ?_; intro w9 hbl9 hgr9))
        have hB9 := hB8.grown hgr9 hB8.size (by intro j hj; cases hj; omega)
        have ho9 := ho8.grown hgr9 (by intro g hg e; have := hf7 g hg; cases e; omega)
        rw [← HSx.out] at hbl9
        have HO9 := Lib.hid (show OwnC c2 w9 v7 (selTo xs (k + 1)).l by rw [HSl.out]; exact ho9)
        clear hgr9 hbl8 hB8 ho8 ho9
        go_roundw
        case rel => exact ⟨k + 1, by omega, by go_num, HO9.out, hf7, hbl9, hB9⟩
        case measure => simp [intOf] <;> omega
    · obtain rfl : k = xs.length := by omega
      have hge : (xs.length : Int) < (xs.length : Int) + 1 := by omega
      have HO := Lib.hid (show OwnC c2 wr u5 (selL xs) by rw [selL_all hg.out]; exact ho)
      clear ho hinv hsl hbl
      go_wp2_with fail
      refine (ClipS_any _ _ _ HO.out).mono ?_
      rintro e w6 ⟨r, rfl, hor, hob, rfl⟩
      have hfr : From w.heap.size r := fun g hg => Nat.le_of_succ_le (hf g (by rw [← hob]; exact hg))
      clear hob
      go_wp2
      go_ret
      exact ⟨_, rfl, hor, hfr, hbr⟩

end Go.Proofs.Ytmlikchhkblohaa

