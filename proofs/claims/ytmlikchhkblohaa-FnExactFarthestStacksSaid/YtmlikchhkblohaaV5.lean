import Derived.Test.YtmlikchhkblohaaV4
import Derived.Test.YtmlikchhkblohaaV2
import Derived.Test.YtmlikchhkblohaaU4
import Derived.Test.YtmlikchhkblohaaI8
namespace Go.Proofs.Ytmlikchhkblohaa
open Go Go.RowKit Go.Pan

theorem tw_seg (xs : List Int) (a b : Nat) (h : a ≤ b) (hb : b ≤ xs.length) :
    twl xs = (xs.take a).map iv ++ ((xs.drop a).take (b - a)).map iv ++ (twl xs).drop b ∧ (xs.take a).map iv ++ ((xs.drop a).take (b - a)).reverse.map iv ++ (twl xs).drop b = twl (segL xs a b) := by
  have hd : (twl xs).drop b = (xs.drop b ++ List.replicate (9 - xs.length) 0).map iv := by
    unfold twl
    rw [← List.map_drop, List.drop_append_of_le_length hb]
  rw [hd]
  constructor
  · unfold twl
    rw [← List.map_append, ← List.map_append]
    congr 1
    rw [← List.append_assoc]
    congr 1
    have : xs.drop b = (xs.drop a).drop (b - a) := by rw [List.drop_drop]; congr 1; omega
    rw [this, List.append_assoc, List.take_append_drop, List.take_append_drop]
  · unfold twl
    rw [← List.map_append, ← List.map_append, segL_length _ _ _ h, ← List.append_assoc]
    rfl

set_option maxHeartbeats 800000 in
theorem segmentTurned_any (xs : List Int) (n : Int) (p : Int × Int) (w : World) (h9 : xs.length ≤ 9) (hp : Hid (segB n p = true)) (hl : Hid ((xs.length : Int) = n)) :
    Calls Try.prog 105 #[tw xs, .agg #[.int .i64 p.1, .int .i64 p.2]] w fun e w' => e = .returned (tw (segT xs p)) ∧ Below w.heap.size w w' := by
  have hB := segB_iff.1 hp.out
  have hln := hl.out
  obtain ⟨p0, p1⟩ := p
  obtain ⟨a, rfl⟩ : ∃ a : Nat, p0 = (a : Int) + 1 := ⟨(p0 - 1).toNat, by simp only at hB; omega⟩
  obtain ⟨b, rfl⟩ : ∃ b : Nat, p1 = (b : Int) := ⟨p1.toNat, by simp only at hB; omega⟩
  have hab : b ≤ xs.length ∧ a < b := by simp only at hB; omega
  have hE : segT xs ((a : Int) + 1, (b : Int)) = segL xs a b := by
    unfold segT
    rw [show ((a : Int) + 1 - 1).toNat = a by omega, Int.toNat_natCast]
  have HE := Lib.hid hE
  have hbl := hab.1
  have habl := hab.2
  have hb9 : b ≤ 9 := by omega
  have hm := tw_seg xs a b (by omega) hbl
  have h9t : (twl xs).length = 9 := twl_length xs h9
  have hs0 : (Try.prog.info? 86).map (·.size) = some (twl xs).toArray.size := by rw [Try.infoT]; simp [h9t]
  obtain ⟨W, hW⟩ : ∃ W, W = (((w.alloc (.cells (twl xs).toArray 86)).alloc (.cells #[.int .i64 ((a : Int) + 1), .int .i64 (b : Int)] 62)).alloc (.cells (twl []).toArray 86)) := ⟨_, rfl⟩
  have hbx : Blk W w.heap.size 86 (twl xs) := by rw [hW]; exact ((Blk.new w _ (twl xs) _ rfl).alloc _).alloc _
  have hz : Blk W (w.heap.size + 1 + 1) 86 (twl []) := by rw [hW]; exact Blk.new _ _ (twl []) _ (by simp)
  have hb0 : Below w.heap.size w W := by rw [hW]; exact (((Below.refl _ _).alloc (Nat.le_refl _) _).alloc (by simp) _).alloc (by simp; omega) _
  have hk0 : W.cell? ⟨w.heap.size + 1, 0, none⟩ = some (.int .i64 ((a : Int) + 1)) := by rw [hW]; simp [go_sem]
  have hk1 : W.cell? ⟨w.heap.size + 1, 1, none⟩ = some (.int .i64 (b : Int)) := by rw [hW]; simp [go_sem]
  have hbx2 : Blk W w.heap.size 86 ((xs.take a).map iv ++ ((xs.drop a).take (b - a)).map iv ++ (twl xs).drop b) := by rw [← hm.1]; exact hbx
  have HM := Lib.hid hm.2
  have hb9' : (b : Int) ≤ 9 := by omega
  have hab' : (a : Int) ≤ b := by omega
  have ha0 : (0 : Int) ≤ (a : Int) := by omega
  have hpl : ((xs.take a).map iv).length = a := by rw [List.length_map, List.length_take]; omega
  have hml : ((xs.drop a).take (b - a)).length = b - a := by rw [List.length_take, List.length_drop]; omega
  have HPL := Lib.hid hpl
  have HML := Lib.hid hml
  have hes : (a : Int) + 1 - 1 = (a : Int) := by omega
  clear hm hpl hml hE hB hln hl hp hbx
  subst hW
  go_enter Try.func105, Try.ntmps105
  go_wp2_with fail
  refine (Reverse_blk w.heap.size a (b - a) (9 - a) 86 ((xs.take a).map iv) ((twl xs).drop b) ((xs.drop a).take (b - a)) _ hbx2 HPL.out HML.out (by omega)).mono ?_
  rintro e w2 ⟨rfl, hb2, hg2⟩
  rw [HM.out] at hb2
  have hz2 := hz.grown hg2 (by simp; omega)
  have hB2 := hb0.grown hg2 hb0.size (fun k hk => by simp at hk; omega)
  have hsl : (segL xs a b).length = xs.length := segL_length _ _ _ (by omega)
  have h9' : (twl (segL xs a b)).length = 9 := twl_length _ (by rw [hsl]; exact h9)
  have hz9 : (twl []).length = 9 := by simp [twl]
  have hs : (Try.prog.info? 86).map (·.size) = some (twl (segL xs a b)).toArray.size := by rw [Try.infoT]; simp [h9']
  have h0 : ((twl []).toArray).size = (twl (segL xs a b)).toArray.size := by simp [h9', hz9]
  have hon : (twl (segL xs a b)).toArray.all (·.oneCell') = true := by simp [twl, Value.oneCell']
  have hr := hz2.setRow (twl (segL xs a b))
  have hb3 := below_setRow hB2 (by omega : w.heap.size ≤ w.heap.size + 1 + 1) (twl (segL xs a b)).toArray
  have HS := Lib.hid h9'
  have HT := Lib.hid h9t
  have HSL := Lib.hid hsl
  clear h9' hz9 h9t hs0 HM hz hb0 hg2 hB2 hbx2 hk0 hk1 hes hsl
  go_wp2_with (first | (refine wpList_load_row rfl 86 _ rfl w.heap.size rfl 86 _ _ _ hb2 Try.underlying86 rfl hs ?_) | (refine wpList_store_row rfl 86 _ _ rfl (w.heap.size + 1 + 1) (twl (segL xs a b)).toArray rfl rfl 86 _ hz2 hs h0 hon ?_))
  exact bodyPost_ret (results_cell_row rfl _ _ (w.heap.size + 1 + 1) 86 _ _ _ rfl hr Try.underlying86 rfl hs) rfl ⟨by rw [HE.out], hb3⟩

theorem segCap (n : Nat) (h1 : 1 ≤ n) (h9 : n ≤ 9) : ∃ K : Nat, ((n : Int) * ((n : Int) - 1)) / 2 = (K : Int) ∧ 0 ≤ (n : Int) * ((n : Int) - 1) ∧ (n : Int) * ((n : Int) - 1) ≤ 72 ∧ K ≤ 36 := by
  have h0 : 0 ≤ (n : Int) * ((n : Int) - 1) := Int.mul_nonneg (by omega) (by omega)
  have h2 : (n : Int) * ((n : Int) - 1) ≤ 9 * 8 := Int.mul_le_mul (by omega) (by omega) (by omega) (by omega)
  exact ⟨(((n : Int) * ((n : Int) - 1)) / 2).toNat, by omega, h0, by omega, by omega⟩

set_option maxHeartbeats 4000000 in
set_option maxRecDepth 100000 in
theorem segmentsFor_any (n : Nat) (w : World) (h1 : 1 ≤ n) (h9 : n ≤ 9) :
    Calls Try.prog 157 #[.int .i64 n] w fun e w' => ∃ r, e = .returned r ∧ OwnC c2 w' r (segsAll n) ∧ From w.heap.size r ∧ Below w.heap.size w w' := by
  obtain ⟨i0, hi, hz0, hz1, hz2⟩ := info_parts infoSegment3
  have HI := Lib.hid hi
  have HZ0 := Lib.hid hz0
  have HZ1 := Lib.hid hz1
  obtain ⟨K, hK, hK0, hK1, hK2⟩ := segCap n h1 h9
  have HPR := Lib.hid (segsAll_pred n h1)
  have h1' : (1 : Int) ≤ n := by omega
  go_enter Try.func157, Try.ntmps157
  go_wp2_with (at_make; refine wpList_make_own _ rfl _ _ 143 rfl w.heap.size 62 i0 _ 2 Try.underlying143 hi hz0 hz1 _ _ _ K rfl rfl hK ?b1 ?b2 ?b3 ?_)
  case b1 => rw [hz2]; omega
  case b2 => unfold maxLen; omega
  case b3 => exact Nat.le_refl _
  intro w1 hown hgr
  have ho0 : OwnC c2 w1 (.slice (some ⟨w.heap.size, 0, none⟩) 0 K) [] := (Own.of_row hown).1
  have hf0 := (Own.of_row hown).2
  have hb0 : Below w.heap.size w w1 := (Below.refl _ _).grown hgr (Nat.le_refl _) (by intro k hk; cases hk)
  clear hown hgr hi hz0 hz1 hz2 hK hK0 hK1
  go_wp2
  go_loopw [3, 4] (fun o i wr => ∃ k : Nat, k + 1 ≤ n ∧ i = .int .i64 ((k : Int) + 1) ∧ OwnC c2 wr o (segsTo n k) ∧ From w.heap.size o ∧ Below w.heap.size w wr) (fun _ i _ => n + 1 - (intOf i).toNat)
  case atStart => exact ⟨0, by omega, by go_num, ho0, hf0, hb0⟩
  case round =>
    obtain ⟨k, hk, rfl, ho, hf, hbr⟩ := hrel
    clear ho0 hf0 hb0
    by_cases hlt : k + 1 < n
    · have hlt' : (k : Int) + 1 < n := by omega
      have HO := Lib.hid (show OwnC c2 wr u3 (segsAt n k 0) by rw [segsAt_zero]; exact ho)
      clear ho
      go_wp2
      obtain ⟨wo, hwo⟩ : ∃ x, wr = x := ⟨_, rfl⟩
      rw [hwo] at HO hbr ⊢
      clear hwo
      go_loopw [3, 5] (fun o i wr => ∃ j : Nat, k + 1 + j ≤ n ∧ i = .int .i64 ((k : Int) + 2 + j) ∧ OwnC c2 wr o (segsAt n k j) ∧ From w.heap.size o ∧ Below w.heap.size w wr) (fun _ i _ => n + 2 - (intOf i).toNat)
      case atStart => exact ⟨0, by omega, by go_num, HO.out, hf, hbr⟩
      case round =>
        obtain ⟨j, hj, rfl, hoi, hfi, hbi⟩ := hrel
        clear HO hf hbr
        by_cases hjl : k + 1 + j < n
        · have hle : (k : Int) + 2 + j ≤ n := by omega
          have hlen : (segsAt n k j).length ≤ 1048576 := by
            have h3 := segsTo_le n k
            have h4 : n * k ≤ 9 * 9 := Nat.mul_le_mul h9 (by omega)
            unfold segsAt
            rw [List.length_append, segsUp_length]; omega
          have HS := Lib.hid (segsAt_succ n k j)
          have hsi := hbi.size
          have hba := hbi.alloc hsi (.cells #[.int .i64 ((k : Int) + 1), .int .i64 ((k : Int) + 2 + j)] 62)
          have hsrc := Src.pair (p := ((k : Int) + 1, (k : Int) + 2 + j)) (Blk.new wr 62 [iv ((k : Int) + 1), iv ((k : Int) + 2 + j)] _ rfl)
          have hoa := hoi.alloc (.cells #[.int .i64 ((k : Int) + 1), .int .i64 ((k : Int) + 2 + j)] 62)
          clear hoi hbi
          go_wp2_with (first | (refine wpList_build_pair Try.underlying143 HI.out HZ0.out HZ1.out rfl _ rfl (.int .i64 ((k : Int) + 1)) (.int .i64 ((k : Int) + 2 + j)) rfl ?_) | (at_builtin; refine wpList_appC segSl2 (by omega) (by omega) rfl _ _ rfl _ (segsAt n k j) rfl hoa w.heap.size hfi (some ⟨wr.heap.size, 0, none⟩) 1 1 [((k : Int) + 1, (k : Int) + 2 + j)] rfl rfl hsrc w hba (by simp; omega) hlen (by simp) ?_; intro v7 w7 ho7 hf7 hb7 hg7))
          rw [← HS.out] at ho7
          go_roundw
          case rel => exact ⟨j + 1, by omega, by go_num, ho7, hf7, hb7⟩
          case measure => simp [intOf] <;> omega
        · obtain rfl : j = n - (k + 1) := by omega
          have hgt : (n : Int) < (k : Int) + 2 + ((n - (k + 1) : Nat) : Int) := by omega
          have HO2 := Lib.hid (show OwnC c2 wr u3 (segsTo n (k + 1)) by rw [← segsAt_end]; exact hoi)
          clear hoi
          go_wp2
          go_roundw
          case rel => exact ⟨k + 1, by omega, by go_num, HO2.out, hfi, hbi⟩
          case measure => simp [intOf] <;> omega
    · obtain rfl : k = n - 1 := by omega
      have hge : (n : Int) ≤ ((n - 1 : Nat) : Int) + 1 := by omega
      have HO2 := Lib.hid (show OwnC c2 wr u3 (segsAll n) by rw [HPR.out]; exact ho)
      clear ho
      go_wp2
      go_ret
      exact ⟨_, rfl, HO2.out, hf, hbr⟩

set_option maxHeartbeats 1600000 in
set_option maxRecDepth 100000 in
theorem IsSegment_any (n : Int) (p : Int × Int) (w : World) :
    Calls Try.prog 104 #[.int .i64 n, .agg #[.int .i64 p.1, .int .i64 p.2]] w fun e w' => e = .returned (.bool (segB n p)) ∧ Below w.heap.size w w' := by
  obtain ⟨W, hW⟩ : ∃ W, W = w.alloc (.cells #[.int .i64 p.1, .int .i64 p.2] 62) := ⟨_, rfl⟩
  have hz : Blk W w.heap.size 62 [.int .i64 p.1, .int .i64 p.2] := by rw [hW]; exact Blk.new w _ _ _ rfl
  have hb0 : Below w.heap.size w W := by rw [hW]; exact below_new w _
  have HW := Lib.hid hW
  have hWs : w.heap.size < W.heap.size := by rw [hW]; simp
  have hut := Try.underlying62
  have hsz : (Try.prog.info? 62).map (·.size) = some ([.int .i64 p.1, .int .i64 p.2] : List Value).length := infoSegment
  have ci := isCount_any n
  clear hW
  cases hn : inB n 1 9 with
  | true =>
    rw [hn] at ci
    obtain ⟨m, rfl⟩ : ∃ m : Nat, n = m := ⟨n.toNat, by have := inB_iff.1 hn; omega⟩
    have hm := inB_iff.1 hn
    have h1 : 1 ≤ m := by omega
    have h9 : m ≤ 9 := by omega
    have HR := Lib.hid (show segB m p = decide (p ∈ segsAll m) by
      rw [Bool.eq_iff_iff, decide_eq_true_iff, segsAll_B h1 h9])
    have hal := segsAll_le h9
    clear hn hm
    go_enter Try.func104, Try.ntmps104
    go_wp2_with fail
    rw [← HW.out]
    refine wp_region_held_drew (S := (fun w' => w'.rangeAt w.heap.size 0 [.int .i64 p.1, .int .i64 p.2] ∧ w.heap.size < w'.heap.size ∧ Below w.heap.size w w')) (by kernel_rfl) (⟨hz.range, hWs, hb0.drew⟩) (fun hHeld => ?_)
    refine wpAnyH_take (i := 0) (v := ?_) rfl (by kernel_rfl) (by kernel_rfl) (by kernel_rfl) (fun _ _ _ h => h) (Or.inl ⟨by rfl, ?_⟩) (by assumption) ?_
    rotate_left
    · intro w _; go_simp; with_reducible rfl
    try simp only [List.getElem_toArray, List.getElem_cons_zero, Act.put, List.setIfInBounds_toArray, List.set_cons_zero, List.set_cons_succ]
    refine wpAnyH_ready (rs := [1]) (by kernel_rfl) (by simp) ?_
    refine AllReadyH.cons rfl (fun K hK => ?_) AllReadyH.nil
    go_simp
    refine (ci _).mono ?_
    rintro e w1 ⟨rfl, rfl⟩
    go_wp2_with fail
    refine hK.out _ _ (hHeld) (fun hHeld => ?_)
    clear hK K
    try simp only [List.getElem_toArray, List.getElem_cons_zero, List.getElem_cons_succ, Act.put, List.setIfInBounds_toArray, List.set_cons_zero, List.set_cons_succ]
    refine wpAnyH_take (i := 2) (v := ?_) rfl (by kernel_rfl) (by kernel_rfl) (by kernel_rfl) (fun _ _ _ h => h) (Or.inl ⟨by rfl, ?_⟩) (by assumption) ?_
    rotate_left
    · intro w _; go_simp; with_reducible rfl
    try simp only [List.getElem_toArray, List.getElem_cons_zero, List.getElem_cons_succ, Act.put, List.setIfInBounds_toArray, List.set_cons_zero, List.set_cons_succ]
    refine wpAnyH_take (i := 3) (v := ?_) rfl (by kernel_rfl) (by kernel_rfl) (by kernel_rfl) (fun _ _ _ h => h) (Or.inl ⟨by rfl, ?_⟩) (by assumption) ?_
    rotate_left
    · intro w _; go_simp; with_reducible rfl
    try simp only [List.getElem_toArray, List.getElem_cons_zero, List.getElem_cons_succ, Act.put, List.setIfInBounds_toArray, List.set_cons_zero, List.set_cons_succ]
    refine wpAnyH_take (i := 5) rfl (by kernel_rfl) (by kernel_rfl) (by kernel_rfl) (fun _ _ _ h => h) (yieldsIf_load_mid (by rfl) _ _ rfl _ _ rfl _ _ (fun w hw => hw.1) hut rfl hsz) (by assumption) ?_
    try simp only [List.getElem_toArray, List.getElem_cons_zero, List.getElem_cons_succ, Act.put, List.setIfInBounds_toArray, List.set_cons_zero, List.set_cons_succ]
    refine wpAnyH_ready (rs := [4]) (by kernel_rfl) (by simp) ?_
    refine AllReadyH.cons rfl (fun K hK => ?_) AllReadyH.nil
    go_simp
    refine (segmentsFor_any m _ h1 h9).mono ?_
    rintro e w2 ⟨r2, rfl, ho2, hf2, hb2⟩
    go_wp2_with fail
    refine hK.out _ _ (⟨range_below hHeld.1 hb2 hHeld.2.1, Nat.lt_of_lt_of_le hHeld.2.1 hb2.size, hHeld.2.2.trans (hb2.mono hHeld.2.2.size)⟩) (fun hHeld => ?_)
    clear hK K
    try simp only [List.getElem_toArray, List.getElem_cons_zero, List.getElem_cons_succ, Act.put, List.setIfInBounds_toArray, List.set_cons_zero, List.set_cons_succ]
    refine wpAnyH_ready (rs := [6]) (by kernel_rfl) (by simp) ?_
    refine AllReadyH.cons rfl (fun K hK => ?_) AllReadyH.nil
    go_simp
    refine (ContainsS_any r2 _ p _ ho2 (by omega)).mono ?_
    rintro e w3 ⟨rfl, hb3⟩
    go_wp2_with fail
    refine hK.out _ _ (⟨range_below hHeld.1 hb3 hHeld.2.1, Nat.lt_of_lt_of_le hHeld.2.1 hb3.size, hHeld.2.2.trans (hb3.mono hHeld.2.2.size)⟩) (fun hHeld => ?_)
    clear hK K
    try simp only [List.getElem_toArray, List.getElem_cons_zero, List.getElem_cons_succ, Act.put, List.setIfInBounds_toArray, List.set_cons_zero, List.set_cons_succ]
    refine wpAnyH_take (i := 7) (v := ?_) rfl (by kernel_rfl) (by kernel_rfl) (by kernel_rfl) (fun _ _ _ h => h) (Or.inl ⟨by rfl, ?_⟩) (by assumption) ?_
    rotate_left
    · intro w _; go_simp; with_reducible rfl
    try simp only [List.getElem_toArray, List.getElem_cons_zero, List.getElem_cons_succ, Act.put, List.setIfInBounds_toArray, List.set_cons_zero, List.set_cons_succ]
    refine wpAnyH_take (i := 8) (v := ?_) rfl (by kernel_rfl) (by kernel_rfl) (by kernel_rfl) (fun _ _ _ h => h) (Or.inl ⟨by rfl, ?_⟩) (by assumption) ?_
    rotate_left
    · intro w _; go_simp; with_reducible rfl
    try simp only [List.getElem_toArray, List.getElem_cons_zero, List.getElem_cons_succ, Act.put, List.setIfInBounds_toArray, List.set_cons_zero, List.set_cons_succ]
    refine wpAnyH_done (by kernel_rfl) ?_ _
    have hB := hHeld.2.2
    go_wp2
    go_ret
    exact ⟨by rw [HR.out]; rfl, hB⟩
  | false =>
    rw [hn] at ci
    have HR := Lib.hid (show segB n p = false by unfold segB; rw [hn]; rfl)
    clear hn
    go_enter Try.func104, Try.ntmps104
    go_wp2_with fail
    rw [← HW.out]
    refine wp_region_held_drew (S := (fun w' => w' = W.drew)) (by kernel_rfl) (rfl) (fun hHeld => ?_)
    refine wpAnyH_take (i := 0) (v := ?_) rfl (by kernel_rfl) (by kernel_rfl) (by kernel_rfl) (fun _ _ _ h => h) (Or.inl ⟨by rfl, ?_⟩) (by assumption) ?_
    rotate_left
    · intro w _; go_simp; with_reducible rfl
    try simp only [List.getElem_toArray, List.getElem_cons_zero, Act.put, List.setIfInBounds_toArray, List.set_cons_zero, List.set_cons_succ]
    refine wpAnyH_ready (rs := [1]) (by kernel_rfl) (by simp) ?_
    refine AllReadyH.cons rfl (fun K hK => ?_) AllReadyH.nil
    go_simp
    refine (ci _).mono ?_
    rintro e w1 ⟨rfl, rfl⟩
    go_wp2_with fail
    refine hK.out _ _ (rfl) (fun hHeld => ?_)
    clear hK K
    try simp only [List.getElem_toArray, List.getElem_cons_zero, List.getElem_cons_succ, Act.put, List.setIfInBounds_toArray, List.set_cons_zero, List.set_cons_succ]
    refine wpAnyH_take (i := 2) (v := ?_) rfl (by kernel_rfl) (by kernel_rfl) (by kernel_rfl) (fun _ _ _ h => h) (Or.inl ⟨by rfl, ?_⟩) (by assumption) ?_
    rotate_left
    · intro w _; go_simp; with_reducible rfl
    try simp only [List.getElem_toArray, List.getElem_cons_zero, List.getElem_cons_succ, Act.put, List.setIfInBounds_toArray, List.set_cons_zero, List.set_cons_succ]
    refine wpAnyH_take (i := 3) (v := undef) rfl (by kernel_rfl) (by kernel_rfl) (by kernel_rfl) (fun _ _ _ h => h) (Or.inr ⟨by rfl, rfl⟩) (by assumption) ?_
    try simp only [List.getElem_toArray, List.getElem_cons_zero, List.getElem_cons_succ, Act.put, List.setIfInBounds_toArray, List.set_cons_zero, List.set_cons_succ]
    refine wpAnyH_take (i := 4) (v := undef) rfl (by kernel_rfl) (by kernel_rfl) (by kernel_rfl) (fun _ _ _ h => h) (Or.inr ⟨by rfl, rfl⟩) (by assumption) ?_
    try simp only [List.getElem_toArray, List.getElem_cons_zero, List.getElem_cons_succ, Act.put, List.setIfInBounds_toArray, List.set_cons_zero, List.set_cons_succ]
    refine wpAnyH_take (i := 5) (v := undef) rfl (by kernel_rfl) (by kernel_rfl) (by kernel_rfl) (fun _ _ _ h => h) (Or.inr ⟨by rfl, rfl⟩) (by assumption) ?_
    try simp only [List.getElem_toArray, List.getElem_cons_zero, List.getElem_cons_succ, Act.put, List.setIfInBounds_toArray, List.set_cons_zero, List.set_cons_succ]
    refine wpAnyH_take (i := 6) (v := undef) rfl (by kernel_rfl) (by kernel_rfl) (by kernel_rfl) (fun _ _ _ h => h) (Or.inr ⟨by rfl, rfl⟩) (by assumption) ?_
    try simp only [List.getElem_toArray, List.getElem_cons_zero, List.getElem_cons_succ, Act.put, List.setIfInBounds_toArray, List.set_cons_zero, List.set_cons_succ]
    refine wpAnyH_take (i := 7) (v := ?_) rfl (by kernel_rfl) (by kernel_rfl) (by kernel_rfl) (fun _ _ _ h => h) (Or.inl ⟨by rfl, ?_⟩) (by assumption) ?_
    rotate_left
    · intro w _; go_simp; with_reducible rfl
    try simp only [List.getElem_toArray, List.getElem_cons_zero, List.getElem_cons_succ, Act.put, List.setIfInBounds_toArray, List.set_cons_zero, List.set_cons_succ]
    refine wpAnyH_take (i := 8) (v := ?_) rfl (by kernel_rfl) (by kernel_rfl) (by kernel_rfl) (fun _ _ _ h => h) (Or.inl ⟨by rfl, ?_⟩) (by assumption) ?_
    rotate_left
    · intro w _; go_simp; with_reducible rfl
    try simp only [List.getElem_toArray, List.getElem_cons_zero, List.getElem_cons_succ, Act.put, List.setIfInBounds_toArray, List.set_cons_zero, List.set_cons_succ]
    refine wpAnyH_done (by kernel_rfl) ?_ _
    have hB := hb0.drew
    go_wp2
    go_ret
    exact ⟨by rw [HR.out]; rfl, hB⟩

end Go.Proofs.Ytmlikchhkblohaa

