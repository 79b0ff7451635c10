import Derived.Test.YtfbadpabefdleaaV3
import Derived.Test.YtfbadpabefdleaaV4
import Derived.Test.YtfbadpabefdleaaQ3
namespace Go.Proofs.Ytfbadpabefdleaa
open Go Go.RowKit Go.Pan

set_option maxHeartbeats 1600000 in
set_option maxRecDepth 100000 in
theorem sSegmentsOfPlan_any (n : Int) (v : Value) (xs : List Int) (w : World) (hv : OwnI w v xs) (hn : xs.length ≤ 1048576) :
    Calls Try.prog 71 #[.int .i64 n, v] w fun e w' => ∃ r, e = .returned (.tuple #[r, .bool (planB n xs)]) ∧ OwnC c2 w' r (mSegmentsOfPlan n xs) ∧ From w.heap.size r ∧ Below w.heap.size w w' := by
  obtain ⟨ad, cap, rfl, hc, _, _⟩ := hv.shape
  obtain ⟨i0, hi, hz0, hz1, hz2⟩ := info_parts infoSegment3
  have HI := Lib.hid hi
  have HZ0 := Lib.hid hz0
  have HZ1 := Lib.hid hz1
  clear hi hz0 hz1 hz2
  have cg := stPlan_any n _ _ _ hv hn
  cases hg : planB n xs with
  | true =>
    have HM := Lib.hid (show mSegmentsOfPlan n xs = planG (xs.take xs.length) by rw [List.take_length]; exact if_pos hg)
    have hP := planB_iff.1 hg
    have h40 : xs.length ≤ 40 := hP.2.1
    have HP := Lib.hid hP.2.2
    rw [hg] at cg
    clear hg hP
    go_enter Try.func71, Try.ntmps71
    go_wp2_with fail
    refine (cg).mono ?_
    rintro e w1 ⟨rfl, hb⟩
    have HV := Lib.hid hv
    clear hv cg
    go_wp2
    go_loopw [6, 15] (fun o i wr => ∃ k : Nat, k ≤ xs.length ∧ i = .int .i64 k ∧ OwnC c2 wr o (planG (xs.take k)) ∧ From w.heap.size o ∧ Below w.heap.size w wr) (fun _ i _ => xs.length - (intOf i).toNat)
    case atStart => exact ⟨0, Nat.zero_le _, rfl, OwnC.nil _, From.nil _ _ _, hb⟩
    case round =>
      obtain ⟨k, hk, rfl, ho, hf, hbr⟩ := hrel
      clear hb
      have hvr := HV.out.below hbr (Nat.le_refl _)
      by_cases hlt : k < xs.length
      · obtain ⟨g, off, rfl, hgl, hcell, _⟩ := hvr.at (by omega)
        have hck := hcell k (by omega)
        rw [List.getElem?_map, List.getElem?_eq_getElem hlt] at hck
        have h1 := (HP.out _ (List.getElem_mem hlt)).1
        have ht := List.take_succ_eq_append_getElem hlt
        obtain ⟨x, hx⟩ : ∃ x, xs[k] = x := ⟨_, rfl⟩
        rw [hx] at hck h1 ht
        have hck' : wr.cell? ⟨g, off + k, none⟩ = some (.int .i64 x) := hck
        have hlen : (planG (xs.take k)).length ≤ 1048576 := by have := planG_length (xs.take k); rw [List.length_take] at this; omega
        have hlr := hbr.size
        by_cases hx1 : x = 1
        · have HS := Lib.hid (show planG (xs.take (k + 1)) = planG (xs.take k) by rw [ht, hx1]; exact planG_no)
          have hng : x ≤ 1 := by omega
          clear hcell hck hx ht hx1 hvr h1
          go_wp2
          go_roundw
          case rel => exact ⟨k + 1, by omega, by go_num, by rw [HS.out]; exact ho, hf, hbr⟩
          case measure => simp [intOf] <;> omega
        · have HS := Lib.hid (show planG (xs.take (k + 1)) = planG (xs.take k) ++ [(1, x)] by rw [ht]; exact planG_yes hx1)
          have hgt : 1 < x := by omega
          have hba := hbr.alloc hlr (.cells #[.int .i64 1, .int .i64 x] 41)
          have hsrc := Src.pair (p := ((1 : Int), x)) (Blk.new wr 41 [iv 1, iv x] _ rfl)
          have hoa := ho.alloc (.cells #[.int .i64 1, .int .i64 x] 41)
          clear hcell hck hx ht hx1 hvr h1 ho hbr
          go_wp2_with (first | (refine wpList_build_pair Try.underlying49 HI.out HZ0.out HZ1.out rfl _ rfl (.int .i64 1) (.int .i64 x) rfl ?_) | (at_builtin; refine wpList_appC segSl (by omega) (by omega) rfl _ _ rfl u6 (planG (xs.take k)) rfl hoa w.heap.size hf (some ⟨wr.heap.size, 0, none⟩) 1 1 [((1 : Int), x)] rfl rfl hsrc w hba (by simp; omega) hlen (by simp) ?_; intro v7 w7 ho7 hf7 hb7 hg7))
          rw [← HS.out] at ho7
          go_roundw
          case rel => exact ⟨k + 1, by omega, by go_num, ho7, hf7, hb7⟩
          case measure => simp [intOf] <;> omega
      · obtain rfl : k = xs.length := by omega
        have HO := Lib.hid (show OwnC c2 wr u6 (mSegmentsOfPlan n xs) by rw [HM.out]; exact ho)
        clear ho
        go_wp2
        go_ret2
        exact ⟨_, rfl, HO.out, hf, hbr⟩
  | false =>
    have HM := Lib.hid (show mSegmentsOfPlan n xs = [] from if_neg (by rw [hg]; exact Bool.false_ne_true))
    rw [hg] at cg
    clear hg
    go_enter Try.func71, Try.ntmps71
    go_wp2_with fail
    refine (cg).mono ?_
    rintro e w1 ⟨rfl, hb⟩
    go_wp2
    go_ret2
    exact ⟨_, rfl, by rw [HM.out]; exact OwnC.nil _, From.nil _ _ _, hb⟩

set_option maxHeartbeats 1600000 in
set_option maxRecDepth 100000 in
theorem sgAll_any (n : Nat) (w : World) (h1 : 1 ≤ n) (h9 : n ≤ 9) :
    Calls Try.prog 111 #[.int .i64 n] w fun e w' => ∃ r, e = .returned r ∧ OwnC c2 w' r (segsAll n) ∧ From w.heap.size r ∧ Below w.heap.size w w' := by
  obtain ⟨i0, hi, hz0, hz1, hz2⟩ := info_parts infoSegment3
  have HI := Lib.hid hi
  have HZ0 := Lib.hid hz0
  have HZ1 := Lib.hid hz1
  clear hi hz0 hz1 hz2
  go_enter Try.func111, Try.ntmps111
  go_wp2
  go_loopw [3, 4] (fun o i wr => ∃ k : Nat, k ≤ n ∧ i = .int .i64 ((k : Int) + 1) ∧ OwnC c2 wr o (segsTo n k) ∧ From w.heap.size o ∧ Below w.heap.size w wr) (fun _ i _ => n + 1 - (intOf i).toNat)
  case atStart => exact ⟨0, by omega, by go_num, OwnC.nil _, From.nil _ _ _, Below.refl _ _⟩
  case round =>
    obtain ⟨k, hk, rfl, ho, hf, hbr⟩ := hrel
    by_cases hlt : k < n
    · have hlt' : (k : Int) + 1 ≤ n := by omega
      have HO := Lib.hid (show OwnC c2 wr u3 (segsAt n k 0) by rw [segsAt_zero]; exact ho)
      clear ho
      go_wp2
      obtain ⟨wo, hwo⟩ : ∃ x, wr = x := ⟨_, rfl⟩
      rw [hwo] at HO hbr ⊢
      clear hwo
      go_loopw [3, 5] (fun o i wr => ∃ j : Nat, k + 1 + j ≤ n ∧ i = .int .i64 ((k : Int) + 2 + j) ∧ OwnC c2 wr o (segsAt n k j) ∧ From w.heap.size o ∧ Below w.heap.size w wr) (fun _ i _ => n + 2 - (intOf i).toNat)
      case atStart => exact ⟨0, by omega, by go_num, HO.out, hf, hbr⟩
      case round =>
        obtain ⟨j, hj, rfl, hoi, hfi, hbi⟩ := hrel
        clear HO hf hbr
        by_cases hjl : k + 1 + j < n
        · have hle : (k : Int) + 2 + j ≤ n := by omega
          have hlen : (segsAt n k j).length ≤ 1048576 := by
            have h3 := segsTo_le n k
            have h4 : n * k ≤ 9 * 9 := Nat.mul_le_mul h9 (by omega)
            unfold segsAt
            rw [List.length_append, segsUp_length]; omega
          have HS := Lib.hid (segsAt_succ n k j)
          have hsi := hbi.size
          have hba := hbi.alloc hsi (.cells #[.int .i64 ((k : Int) + 1), .int .i64 ((k : Int) + 2 + j)] 41)
          have hsrc := Src.pair (p := ((k : Int) + 1, (k : Int) + 2 + j)) (Blk.new wr 41 [iv ((k : Int) + 1), iv ((k : Int) + 2 + j)] _ rfl)
          have hoa := hoi.alloc (.cells #[.int .i64 ((k : Int) + 1), .int .i64 ((k : Int) + 2 + j)] 41)
          clear hoi hbi
          go_wp2_with (first | (refine wpList_build_pair Try.underlying49 HI.out HZ0.out HZ1.out rfl _ rfl (.int .i64 ((k : Int) + 1)) (.int .i64 ((k : Int) + 2 + j)) rfl ?_) | (at_builtin; refine wpList_appC segSl (by omega) (by omega) rfl _ _ rfl _ (segsAt n k j) rfl hoa w.heap.size hfi (some ⟨wr.heap.size, 0, none⟩) 1 1 [((k : Int) + 1, (k : Int) + 2 + j)] rfl rfl hsrc w hba (by simp; omega) hlen (by simp) ?_; intro v7 w7 ho7 hf7 hb7 hg7))
          rw [← HS.out] at ho7
          go_roundw
          case rel => exact ⟨j + 1, by omega, by go_num, ho7, hf7, hb7⟩
          case measure => simp [intOf] <;> omega
        · obtain rfl : j = n - (k + 1) := by omega
          have hgt : (n : Int) < (k : Int) + 2 + ((n - (k + 1) : Nat) : Int) := by omega
          have HO2 := Lib.hid (show OwnC c2 wr u3 (segsTo n (k + 1)) by rw [← segsAt_end]; exact hoi)
          clear hoi
          go_wp2
          go_roundw
          case rel => exact ⟨k + 1, by omega, by go_num, HO2.out, hfi, hbi⟩
          case measure => simp [intOf] <;> omega
    · obtain rfl : k = n := by omega
      have hge : (k : Int) < (k : Int) + 1 := by omega
      have HO2 := Lib.hid (show OwnC c2 wr u3 (segsAll k) from ho)
      clear ho
      go_wp2
      go_ret
      exact ⟨_, rfl, HO2.out, hf, hbr⟩

set_option maxHeartbeats 4000000 in
set_option maxRecDepth 100000 in
theorem sgSelection_any (v : Value) (xs : List Int) (w : World) (hv : OwnI w v xs) (hg : Hid (Go.Pan.Good xs)) :
    Calls Try.prog 101 #[v] w fun e w' => ∃ r, e = .returned r ∧ OwnC c2 w' r (selL xs) ∧ From w.heap.size r ∧ Below w.heap.size w w' := by
  obtain ⟨i0, hi, hz0, hz1, hz2⟩ := info_parts infoSegment3
  have HI := Lib.hid hi
  have HZ0 := Lib.hid hz0
  have HZ1 := Lib.hid hz1
  have hl9 := hg.out.le9
  have hl1 := hg.out.1
  have hsv : OwnI w v (selTo xs 0).xs := hv
  clear hi hz0 hz1 hz2 hv
  go_enter Try.func101, Try.ntmps101
  go_wp2
  go_loopw [0, 3, 4] (fun s o i wr => ∃ k : Nat, k + 1 ≤ xs.length ∧ i = .int .i64 ((k : Int) + 1) ∧ OwnI wr s (selTo xs k).xs ∧ OwnC c2 wr o (selTo xs k).l ∧ From w.heap.size o ∧ Below w.heap.size w wr) (fun _ _ i _ => xs.length + 1 - (intOf i).toNat)
  case atStart => exact ⟨0, by omega, by go_num, hsv, OwnC.nil _, From.nil _ _ _, Below.refl _ _⟩
  case round =>
    obtain ⟨k, hk, rfl, hs, ho, hf, hbr⟩ := hrel
    clear hsv
    have hinv := selInv hg.out k (by omega)
    have hsl := hinv.len
    obtain ⟨a0, c0, rfl, hc0, _, _⟩ := hs.shape
    have hsn : (selTo xs k).xs.length ≤ 1048576 := by omega
    have HSN := Lib.hid (show ((selTo xs k).xs.length : Int) = (xs.length : Int) by rw [hsl])
    have HSL := Lib.hid hsl
    have hol : (selTo xs k).l.length ≤ 1048576 := by have := selTo_len xs k; omega
    by_cases hlt : k + 1 < xs.length
    · have hlt' : (k : Int) + 1 < (selTo xs k).xs.length := by omega
      have hlr := hbr.size
      by_cases he : placeL (selTo xs k).xs ((k : Int) + 1) = (k : Int) + 1
      · have HS := Lib.hid (show selTo xs (k + 1) = selTo xs k by rw [selTo, selStep, if_pos he])
        have hq : (placeL (selTo xs k).xs ((k : Int) + 1) != (k : Int) + 1) = false := by simp [he]
        obtain ⟨Y, hY⟩ : ∃ Y, (selTo xs k).xs = Y := ⟨_, rfl⟩
        obtain ⟨Z, hZ⟩ : ∃ Z, (selTo xs k).l = Z := ⟨_, rfl⟩
        have HY := Lib.hid hY
        have HZ := Lib.hid hZ
        rw [hY] at hs hsn hq hlt' hc0 ⊢
        rw [hZ] at ho
        have cp := stPlace_any _ Y ((k : Int) + 1) wr hs hsn
        obtain ⟨pl, hpl⟩ : ∃ pl, placeL Y ((k : Int) + 1) = pl := ⟨_, rfl⟩
        rw [hpl] at cp hq
        clear he hinv hsl hY hZ hpl
        go_wp2_with fail
        refine cp.mono ?_
        rintro e w2 ⟨rfl, hb2⟩
        have hs2 := hs.same hb2
        have ho2 := ho.same hb2
        have hB2 := hbr.trans (hb2.mono hlr)
        clear hs ho hbr hb2 cp
        go_wp2
        go_roundw
        case rel => exact ⟨k + 1, by omega, by go_num, by rw [HS.out, HY.out]; exact hs2, by rw [HS.out, HZ.out]; exact ho2, hf, hB2⟩
        case measure => simp [intOf] <;> omega
      · have HB := Lib.hid (hinv.seg (by omega) he)
        have HSx := Lib.hid (show (selTo xs (k + 1)).xs = segT (selTo xs k).xs ((k : Int) + 1, placeL (selTo xs k).xs ((k : Int) + 1)) by rw [selTo, selStep, if_neg he])
        have HSl := Lib.hid (show (selTo xs (k + 1)).l = (selTo xs k).l ++ [((k : Int) + 1, placeL (selTo xs k).xs ((k : Int) + 1))] by rw [selTo, selStep, if_neg he])
        have hq : (placeL (selTo xs k).xs ((k : Int) + 1) != (k : Int) + 1) = true := by simp [he]
        obtain ⟨Y, hY⟩ : ∃ Y, (selTo xs k).xs = Y := ⟨_, rfl⟩
        obtain ⟨Z, hZ⟩ : ∃ Z, (selTo xs k).l = Z := ⟨_, rfl⟩
        rw [hY] at hs hsn hq hlt' HB HSx HSl HSN hc0 ⊢
        rw [hZ] at ho HSl hol
        have cp := stPlace_any _ Y ((k : Int) + 1) wr hs hsn
        obtain ⟨pl, hpl⟩ : ∃ pl, placeL Y ((k : Int) + 1) = pl := ⟨_, rfl⟩
        rw [hpl] at cp hq HB HSx HSl
        clear he hinv hsl hY hZ hpl
        go_wp2_with fail
        refine cp.mono ?_
        rintro e w2 ⟨rfl, hb2⟩
        have hs2 := hs.same hb2
        have ho2 := ho.same hb2
        have hB2 := hbr.trans (hb2.mono hlr)
        have hz2 := hB2.size
        have hoa := ho2.alloc (.cells #[.int .i64 ((k : Int) + 1), .int .i64 pl] 41)
        have hsa := hs2.alloc (.cells #[.int .i64 ((k : Int) + 1), .int .i64 pl] 41)
        have hBa := hB2.alloc hz2 (.cells #[.int .i64 ((k : Int) + 1), .int .i64 pl] 41)
        have hz : Blk (w2.alloc (.cells [.int .i64 ((k : Int) + 1), .int .i64 pl].toArray 41)) w2.heap.size 41 [.int .i64 ((k : Int) + 1), .int .i64 pl] := Blk.new w2 _ _ _ rfl
        clear hs ho hbr hb2 cp hs2 ho2 hB2
        go_wp2_with fail
        refine (sgTurn_any _ Y (xs.length : Int) ((k : Int) + 1, pl) _ hsa hsn HB HSN).mono ?_
        rintro e w3 ⟨r3, rfl, ho3, hf3, hb3⟩
        have hz3 := hz.below hb3 (by simp)
        have k0 : w3.cell? ⟨w2.heap.size, 0, none⟩ = some (.int .i64 ((k : Int) + 1)) := hz3.cell 0
        have k1 : w3.cell? ⟨w2.heap.size, 1, none⟩ = some (.int .i64 pl) := hz3.cell 1
        have hou3 := hoa.same hb3
        have hB3 := hBa.trans (hb3.mono hBa.size)
        have hsz3 := hB3.size
        have HAP := Lib.hid (show ∀ g, r3.ownBlock = some g → Value.ownBlock u3 ≠ some g from fun g hg e => by
          have h1 := hf3 g hg
          have h2 := hoa.lt g e
          omega)
        have hou4 := hou3.alloc (.cells #[.int .i64 ((k : Int) + 1), .int .i64 pl] 41)
        have hB4 := hB3.alloc hsz3 (.cells #[.int .i64 ((k : Int) + 1), .int .i64 pl] 41)
        have hsrc := Src.pair (p := ((k : Int) + 1, pl)) (Blk.new w3 41 [iv ((k : Int) + 1), iv pl] _ rfl)
        have HR3 := Lib.hid (Own.alloc ho3 (.cells #[.int .i64 ((k : Int) + 1), .int .i64 pl] 41))
        clear hoa hsa hBa hz hz3 hou3 hB3 hb3 ho3 hf3
        go_wp2_with (first | (refine wpList_build_pair Try.underlying49 HI.out HZ0.out HZ1.out rfl _ rfl (.int .i64 ((k : Int) + 1)) (.int .i64 pl) rfl ?_) | (at_builtin; refine wpList_appC segSl (by omega) (by omega) rfl _ _ rfl u3 Z rfl hou4 w.heap.size hf (some ⟨w3.heap.size, 0, none⟩) 1 1 [((k : Int) + 1, pl)] rfl rfl hsrc w hB4 (by simp; omega) hol (by simp) ?_; intro v7 w7 ho7 hf7 hb7 hg7))
        rw [← HSl.out] at ho7
        have hr7 : OwnI w7 r3 (selTo xs (k + 1)).xs := by rw [HSx.out]; exact Own.grown HR3.out hg7 HAP.out
        clear hg7
        go_roundw
        case rel => exact ⟨k + 1, by omega, by go_num, hr7, ho7, hf7, hb7⟩
        case measure => simp [intOf] <;> omega
    · have hge : ((selTo xs k).xs.length : Int) ≤ (k : Int) + 1 := by omega
      have HO := Lib.hid (show OwnC c2 wr u3 (selL xs) by unfold selL; rw [show xs.length - 1 = k by omega]; exact ho)
      clear ho hinv hsl hs
      go_wp2
      go_ret
      exact ⟨_, rfl, HO.out, hf, hbr⟩

theorem sSelectionSegments_any (v : Value) (xs : List Int) (w : World) (hv : OwnI w v xs) (hn : xs.length ≤ 1048576) :
    Calls Try.prog 59 #[v] w fun e w' => ∃ r, e = .returned (.tuple #[r, .bool (goodB xs)]) ∧ OwnC c2 w' r (mSelectionSegments xs) ∧ From w.heap.size r ∧ Below w.heap.size w w' := by
  have cg := stGood_any _ _ _ hv hn
  cases hg : goodB xs with
  | true =>
    have HM := Lib.hid (show mSelectionSegments xs = selL xs from if_pos hg)
    have HG := Lib.hid (goodB_iff.1 hg)
    rw [hg] at cg
    clear hg
    go_enter Try.func59, Try.ntmps59
    go_wp2_with fail
    refine (cg).mono ?_
    rintro e w1 ⟨rfl, hb⟩
    go_wp2_with fail
    refine (sgSelection_any _ xs _ (hv.same hb) HG).mono ?_
    rintro e w2 ⟨r, rfl, ho, hf, hb2⟩
    go_wp2
    go_ret2
    exact ⟨_, rfl, by rw [HM.out]; exact ho, hf.mono hb.size, hb.trans (hb2.mono hb.size)⟩
  | false =>
    have HM := Lib.hid (show mSelectionSegments xs = [] from if_neg (by rw [hg]; exact Bool.false_ne_true))
    rw [hg] at cg
    clear hg
    go_enter Try.func59, Try.ntmps59
    go_wp2_with fail
    refine (cg).mono ?_
    rintro e w1 ⟨rfl, hb⟩
    go_wp2
    go_ret2
    exact ⟨_, rfl, by rw [HM.out]; exact OwnC.nil _, From.nil _ _ _, hb⟩
end Go.Proofs.Ytfbadpabefdleaa
