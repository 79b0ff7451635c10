import Derived.Test.YtdkidfilnbglgaaWV
namespace Go.Pan
open Go Go.RowKit
theorem ShR.at : ∀ {q : List Int}, ShR q → ∀ i, q.getD (i + 1) 0 ≤ q.getD i 0 ∧ 0 ≤ q.getD i 0
  | [], _, i => by simp
  | a :: l, h, 0 => by
    have h1 := h.1
    have h2 := ShR.head h.2
    cases l with
    | nil => simp at h1 ⊢; omega
    | cons b l => simp at h1 h2 ⊢; omega
  | a :: l, h, i + 1 => by have := ShR.at h.2 i; simpa using this
theorem ShR.mem : ∀ {q : List Int}, ShR q → ∀ x ∈ q, 0 ≤ x ∧ x ≤ q.sum
  | [], _, x, hx => by cases hx
  | a :: l, h, x, hx => by
    have h1 := h.1
    have h2 := ShR.head h.2
    have h3 := ShR.sum h.2
    rw [List.sum_cons]
    rcases List.mem_cons.1 hx with rfl | hx
    · omega
    · have := ShR.mem h.2 x hx; omega
theorem wbTo_sub {q : List Int} {k j : Nat} (h : k ≤ j) {r : List Int} (hr : r ∈ wbTo q k) : r ∈ wbTo q j := by
  unfold wbTo at hr ⊢
  obtain ⟨i, hi, rfl⟩ := List.mem_map.1 hr
  rw [List.mem_filter, List.mem_range] at hi
  exact List.mem_map.2 ⟨i, List.mem_filter.2 ⟨List.mem_range.2 (by omega), hi.2⟩, rfl⟩
theorem wbTo_sum_le {q : List Int} (hs : ShR q) (h9 : q.length ≤ 9) {d : Nat} (hd : d ≤ 8) (k : Nat) (hk : k ≤ q.length) : ((wbTo q k).map (wayR d)).sum ≤ 387420489 := by
  have h1 := sum_map_le (f := wayR d) (b := 43046721) (L := wbTo q k) fun r hr => by
    have hr' : r ∈ wbR q := by rw [← wbTo_all]; exact wbTo_sub hk hr
    obtain ⟨h1, _, h3, _⟩ := wbR_spec hs hr'
    exact Nat.le_trans (wayR_le 9 d h1 (by omega)) (Nat.pow_le_pow_right (by omega) hd : 9 ^ d ≤ 9 ^ 8)
  have h2 := wbTo_le q k
  have h3 : (wbTo q k).length * 43046721 ≤ 9 * 43046721 := Nat.mul_le_mul_right _ (by omega)
  omega
end Go.Pan
namespace Go.Proofs.Ytdkidfilnbglgaa
open Go Go.RowKit Go.Pan

set_option maxHeartbeats 4000000 in
set_option maxRecDepth 100000 in
theorem inCount_any : ∀ (d : Nat) (q : List Int) (v : Value) (w : World) (_ : OwnI w v q) (_ : Hid (ShR q)) (_ : q.length ≤ 9) (_ : q.sum = (d : Int)) (_ : d ≤ 9),
    Calls Try.prog 119 #[v] w fun e w' => e = .returned (.int .i64 (wayR (d - 1) q : Nat)) ∧ Below w.heap.size w w' := by
  intro d
  induction d with
  | zero =>
    intro q v w hv hG hl9 hsum hd
    have hG0 := hG
    have HBD := Lib.hid (show ∀ k, 0 ≤ (q.take k).sum ∧ (q.take k).sum ≤ 9 * (k : Int) from sum_take_bd (hi := 9) (by omega) (fun x hx => by have := hG.out.mem x hx; omega))
    have hM := hv
    obtain ⟨ad, cap, rfl, hcc, _, _⟩ := hv.shape
    go_enter Try.func119, Try.ntmps119
    go_wp2
    go_loopw [3, 12] (fun n i wr => ∃ k : Nat, k ≤ q.length ∧ n = .int .i64 (q.take k).sum ∧ i = .int .i64 k ∧ Below w.heap.size w wr) (fun _ i _ => q.length - (intOf i).toNat)
    case atStart => exact ⟨0, Nat.zero_le _, rfl, rfl, Below.refl _ _⟩
    case round =>
      obtain ⟨k, hk, rfl, rfl, hbr⟩ := hrel
      have hbd := HBD.out k
      by_cases hlt : k < q.length
      · have hlt' : (k : Int) < q.length := by omega
        have hv1 := hv.below hbr (Nat.le_refl _)
        obtain ⟨g, off, rfl, hgl, hcell⟩ := cells9 hv1 (by omega)
        have hck := hcell k hlt
        have hmx := hG.out.mem _ (List.getElem_mem hlt)
        rw [← getDI hlt, hsum] at hmx
        have HT := Lib.hid (show (q.take (k + 1)).sum = (q.take k).sum + q.getD k 0 by rw [sum_take_succ hlt, getDI hlt])
        obtain ⟨S, hS⟩ : ∃ S, (q.take k).sum = S := ⟨_, rfl⟩
        obtain ⟨x, hx⟩ : ∃ x, q.getD k 0 = x := ⟨_, rfl⟩
        rw [hS] at hbd HT
        rw [hS]
        rw [hx] at hck hmx HT
        have hS9 : S ≤ 81 := by omega
        clear hv hM hv1 hcell hS hx
        go_wp2
        go_roundw
        case rel => exact ⟨k + 1, by omega, by rw [HT.out], by go_num, hbr⟩
        case measure => simp [intOf] <;> omega
      · obtain rfl : k = q.length := by omega
        rw [List.take_length, hsum]
        go_wp2
        go_ret
        exact ⟨rfl, hbr⟩
  | succ f ih =>
    intro q v w hv hG hl9 hsum hd
    have IH := Lib.hid ih
    clear ih
    by_cases hf0 : f = 0
    · subst hf0
      have HBD := Lib.hid (show ∀ k, 0 ≤ (q.take k).sum ∧ (q.take k).sum ≤ 9 * (k : Int) from sum_take_bd (hi := 9) (by omega) (fun x hx => by have := hG.out.mem x hx; omega))
      have hM := hv
      obtain ⟨ad, cap, rfl, hcc, _, _⟩ := hv.shape
      go_enter Try.func119, Try.ntmps119
      go_wp2
      go_loopw [3, 12] (fun n i wr => ∃ k : Nat, k ≤ q.length ∧ n = .int .i64 (q.take k).sum ∧ i = .int .i64 k ∧ Below w.heap.size w wr) (fun _ i _ => q.length - (intOf i).toNat)
      case atStart => exact ⟨0, Nat.zero_le _, rfl, rfl, Below.refl _ _⟩
      case round =>
        obtain ⟨k, hk, rfl, rfl, hbr⟩ := hrel
        have hbd := HBD.out k
        by_cases hlt : k < q.length
        · have hlt' : (k : Int) < q.length := by omega
          have hv1 := hv.below hbr (Nat.le_refl _)
          obtain ⟨g, off, rfl, hgl, hcell⟩ := cells9 hv1 (by omega)
          have hck := hcell k hlt
          have hmx := hG.out.mem _ (List.getElem_mem hlt)
          rw [← getDI hlt, hsum] at hmx
          have HT := Lib.hid (show (q.take (k + 1)).sum = (q.take k).sum + q.getD k 0 by rw [sum_take_succ hlt, getDI hlt])
          obtain ⟨S, hS⟩ : ∃ S, (q.take k).sum = S := ⟨_, rfl⟩
          obtain ⟨x, hx⟩ : ∃ x, q.getD k 0 = x := ⟨_, rfl⟩
          rw [hS] at hbd HT
          rw [hS]
          rw [hx] at hck hmx HT
          have hS9 : S ≤ 81 := by omega
          clear hv hM hv1 hcell hS hx
          go_wp2
          go_roundw
          case rel => exact ⟨k + 1, by omega, by rw [HT.out], by go_num, hbr⟩
          case measure => simp [intOf] <;> omega
        · obtain rfl : k = q.length := by omega
          rw [List.take_length, hsum]
          go_wp2
          go_ret
          exact ⟨rfl, hbr⟩
    · obtain ⟨m, hm⟩ : ∃ m : Int, ((f + 1 : Nat) : Int) = m := ⟨_, rfl⟩
      rw [hm] at hsum
      have hm9 : m ≤ 9 := by omega
      have hm2 : (1 : Int) < m := by omega
      have HM1 := Lib.hid (show m = (f : Int) + 1 by omega)
      clear hm
      have HBD := Lib.hid (show ∀ k, 0 ≤ (q.take k).sum ∧ (q.take k).sum ≤ 9 * (k : Int) from sum_take_bd (hi := 9) (by omega) (fun x hx => by have := hG.out.mem x hx; omega))
      have hM := hv
      obtain ⟨ad, cap, rfl, hcc, _, _⟩ := hv.shape
      go_enter Try.func119, Try.ntmps119
      go_wp2
      go_loopw [3, 12] (fun n i wr => ∃ k : Nat, k ≤ q.length ∧ n = .int .i64 (q.take k).sum ∧ i = .int .i64 k ∧ Below w.heap.size w wr) (fun _ i _ => q.length - (intOf i).toNat)
      case atStart => exact ⟨0, Nat.zero_le _, rfl, rfl, Below.refl _ _⟩
      case round =>
        obtain ⟨k, hk, rfl, rfl, hbr⟩ := hrel
        have hbd := HBD.out k
        by_cases hlt : k < q.length
        · have hlt' : (k : Int) < q.length := by omega
          have hv1 := hv.below hbr (Nat.le_refl _)
          obtain ⟨g, off, rfl, hgl, hcell⟩ := cells9 hv1 (by omega)
          have hck := hcell k hlt
          have hmx := hG.out.mem _ (List.getElem_mem hlt)
          rw [← getDI hlt, hsum] at hmx
          have HT := Lib.hid (show (q.take (k + 1)).sum = (q.take k).sum + q.getD k 0 by rw [sum_take_succ hlt, getDI hlt])
          obtain ⟨S, hS⟩ : ∃ S, (q.take k).sum = S := ⟨_, rfl⟩
          obtain ⟨x, hx⟩ : ∃ x, q.getD k 0 = x := ⟨_, rfl⟩
          rw [hS] at hbd HT
          rw [hS]
          rw [hx] at hck hmx HT
          have hS9 : S ≤ 81 := by omega
          clear hv hM hv1 hcell hS hx
          go_wp2
          go_roundw
          case rel => exact ⟨k + 1, by omega, by rw [HT.out], by go_num, hbr⟩
          case measure => simp [intOf] <;> omega
        · obtain rfl : k = q.length := by omega
          rw [List.take_length, hsum]
          have HCN := Lib.hid (show ∀ j, j ≤ q.length → ((wbTo q j).map (wayR (f - 1))).sum ≤ 387420489 from fun j hj => wbTo_sum_le hG.out hl9 (by omega) j hj)
          have hBr := hbr
          clear hM hbr
          go_wp2
          go_loopw [6, 7, 8, 9, 24] (fun c _ _ _ i wr => ∃ k : Nat, k ≤ q.length ∧ i = .int .i64 k ∧ c = .int .i64 (((wbTo q k).map (wayR (f - 1))).sum : Nat) ∧ Below w.heap.size w wr) (fun _ _ _ _ i _ => q.length - (intOf i).toNat)
          case atStart => exact ⟨0, Nat.zero_le _, rfl, rfl, hBr⟩
          case round =>
            obtain ⟨k, hk, rfl, rfl, hbr⟩ := hrel
            have hw0 := hBr
            clear hBr
            by_cases hlt : k < q.length
            · have hlt' : (k : Int) < q.length := by omega
              have hvr := hv.below hbr (Nat.le_refl _)
              obtain ⟨g, off, rfl, hgl, hcell⟩ := cells9 hvr (by omega)
              have hck := hcell k hlt
              have hat := hG.out.at k
              have hat1 := (hG.out.at (k + 1)).2
              have hmx := hG.out.mem _ (List.getElem_mem hlt)
              rw [← getDI hlt, hsum] at hmx
              have HYES := Lib.hid (wbTo_yes (q := q) (k := k))
              have HNO := Lib.hid (wbTo_no (q := q) (k := k))
              obtain ⟨x, hx⟩ : ∃ x, q.getD k 0 = x := ⟨_, rfl⟩
              have HX := Lib.hid hx
              rw [hx] at hck hat hmx
              have hnx := hcell (k + 1)
              obtain ⟨y, hy⟩ : ∃ y, q.getD (k + 1) 0 = y := ⟨_, rfl⟩
              have HY := Lib.hid hy
              rw [hy] at hat hnx hat1
              clear hcell hx hy
              by_cases h0 : x = 0
              · have HS := Lib.hid (HNO.out (by rw [HX.out, HY.out]; omega))
                have hAb := HCN.out k (by omega)
                subst h0
                clear HYES HNO hnx hv hvr
                go_wp2
                go_roundw
                case rel => exact ⟨k + 1, by omega, by go_num, by rw [HS.out], hbr⟩
                case measure => simp [intOf] <;> omega
              · have hxb : (x == 0) = false := by simpa using h0
                by_cases hk1 : k + 1 < q.length
                · have hny := hnx hk1
                  have hk1' : (k : Int) + 1 < (q.length : Int) := by omega
                  clear hnx
                  by_cases hyx : y = x
                  · have HS := Lib.hid (HNO.out (by rw [HX.out, HY.out]; omega))
                    have hAb := HCN.out k (by omega)
                    subst hyx
                    clear HYES HNO hv hvr
                    go_wp2
                    go_roundw
                    case rel => exact ⟨k + 1, by omega, by go_num, by rw [HS.out], hbr⟩
                    case measure => simp [intOf] <;> omega
                  · have hyb : (y == x) = false := by simpa using hyx
                    have HTY := Lib.hid (HYES.out (by rw [HX.out, HY.out]; omega))
                    rw [HX.out] at HTY
                    clear HYES HNO
                    have hmem : q.set k (x - 1) ∈ wbR q := by
                      have h1 := HTY.out
                      rw [← wbTo_all]
                      exact wbTo_sub (k := k + 1) (by omega) (by rw [h1]; simp)
                    have hsp := wbR_spec hG.out hmem
                    have HGL := Lib.hid hsp.1
                    have hll : (q.set k (x - 1)).length ≤ 9 := by rw [List.length_set]; exact hl9
                    have hls : (q.set k (x - 1)).sum = ((f : Nat) : Int) := by rw [hsp.2.1, hsum, HM1.out]; omega
                    have hcn := HCN.out (k + 1) (by omega)
                    rw [HTY.out, List.map_append, List.sum_append] at hcn
                    simp only [List.map_cons, List.map_nil, List.sum_cons, List.sum_nil, Nat.add_zero] at hcn
                    obtain ⟨V, hV⟩ : ∃ V, wayR (f - 1) (q.set k (x - 1)) = V := ⟨_, rfl⟩
                    obtain ⟨A, hA⟩ : ∃ A, ((wbTo q k).map (wayR (f - 1))).sum = A := ⟨_, rfl⟩
                    rw [hA, hV] at hcn
                    rw [hA]
                    have HSUM := Lib.hid (show ((wbTo q (k + 1)).map (wayR (f - 1))).sum = A + V by rw [HTY.out, List.map_append, List.sum_append, hA]; simp [hV])
                    have HV := Lib.hid hV
                    have cO := l1Own_any _ q wr hvr (by omega)
                    have HCC := Lib.hid hck
                    clear hmem hsp hA hV HTY hv hw0
                    go_wp2_with fail
                    refine cO.mono ?_
                    rintro e w2 ⟨r2, rfl, ho2, hf2, hb2⟩
                    obtain ⟨a2, c2, rfl, hcc2, _, hnil2⟩ := ho2.shape
                    obtain ⟨g2, o2, rfl, hg2, hcell2⟩ := cells9 ho2 (by omega)
                    have hck2 := hcell2 k hlt
                    rw [HX.out] at hck2
                    obtain ⟨hfz2, hs3⟩ := setI1 ho2 hlt (x - 1)
                    have hg2f : wr.heap.size ≤ g2 := hf2 _ rfl
                    have hwz := hbr.size
                    have hB2 := hbr.trans (hb2.mono hwz)
                    have hB3 := hB2.setCell (p := ⟨g2, o2 + k, none⟩) (by show w.heap.size ≤ g2; omega) (.int .i64 (x - 1))
                    obtain ⟨w3, hw3⟩ : ∃ y, w2.setCell ⟨g2, o2 + k, none⟩ (.int .i64 (x - 1)) = y := ⟨_, rfl⟩
                    rw [hw3] at hs3 hB3
                    have hll2 : (q.set k (x - 1)).length = q.length := List.length_set ..
                    have hs4 : OwnI w3 (.slice (some ⟨g2, o2, none⟩) q.length c2) (q.set k (x - 1)) := hs3
                    have cR := IH.out (q.set k (x - 1)) _ w3 hs4 HGL hll hls (by omega)
                    rw [HV.out] at cR
                    have CR := Lib.hid cR
                    have HW3 := Lib.hid hw3
                    have hB3z := hB3.size
                    clear cO ho2 hf2 hb2 hcell2 hs3 hs4 hB2 hw3 hll hls cR hll2 hnil2
                    go_wp2_with fail
                    rw [HW3.out]
                    refine CR.out.mono ?_
                    rintro e w4 ⟨rfl, hb4⟩
                    have hB4 := hB3.trans (hb4.mono hB3z)
                    clear hck2 hfz2 hb4 hB3
                    go_wp2
                    go_roundw
                    case rel => exact ⟨k + 1, by omega, by go_num, by rw [HSUM.out]; go_num, hB4⟩
                    case measure => simp [intOf] <;> omega
                · have hk1' : ¬ (k : Int) + 1 < (q.length : Int) := by omega
                  have hy0 : y = 0 := by rw [← HY.out]; simp [List.getD, List.getElem?_eq_none (show q.length ≤ k + 1 by omega)]
                  have HTY := Lib.hid (HYES.out (by rw [HX.out, HY.out]; omega))
                  rw [HX.out] at HTY
                  clear HYES HNO hnx
                  have hmem : q.set k (x - 1) ∈ wbR q := by
                    have h1 := HTY.out
                    rw [← wbTo_all]
                    exact wbTo_sub (k := k + 1) (by omega) (by rw [h1]; simp)
                  have hsp := wbR_spec hG.out hmem
                  have HGL := Lib.hid hsp.1
                  have hll : (q.set k (x - 1)).length ≤ 9 := by rw [List.length_set]; exact hl9
                  have hls : (q.set k (x - 1)).sum = ((f : Nat) : Int) := by rw [hsp.2.1, hsum, HM1.out]; omega
                  have hcn := HCN.out (k + 1) (by omega)
                  rw [HTY.out, List.map_append, List.sum_append] at hcn
                  simp only [List.map_cons, List.map_nil, List.sum_cons, List.sum_nil, Nat.add_zero] at hcn
                  obtain ⟨V, hV⟩ : ∃ V, wayR (f - 1) (q.set k (x - 1)) = V := ⟨_, rfl⟩
                  obtain ⟨A, hA⟩ : ∃ A, ((wbTo q k).map (wayR (f - 1))).sum = A := ⟨_, rfl⟩
                  rw [hA, hV] at hcn
                  rw [hA]
                  have HSUM := Lib.hid (show ((wbTo q (k + 1)).map (wayR (f - 1))).sum = A + V by rw [HTY.out, List.map_append, List.sum_append, hA]; simp [hV])
                  have HV := Lib.hid hV
                  have cO := l1Own_any _ q wr hvr (by omega)
                  have HCC := Lib.hid hck
                  clear hmem hsp hA hV HTY hv hw0
                  go_wp2_with fail
                  refine cO.mono ?_
                  rintro e w2 ⟨r2, rfl, ho2, hf2, hb2⟩
                  obtain ⟨a2, c2, rfl, hcc2, _, hnil2⟩ := ho2.shape
                  obtain ⟨g2, o2, rfl, hg2, hcell2⟩ := cells9 ho2 (by omega)
                  have hck2 := hcell2 k hlt
                  rw [HX.out] at hck2
                  obtain ⟨hfz2, hs3⟩ := setI1 ho2 hlt (x - 1)
                  have hg2f : wr.heap.size ≤ g2 := hf2 _ rfl
                  have hwz := hbr.size
                  have hB2 := hbr.trans (hb2.mono hwz)
                  have hB3 := hB2.setCell (p := ⟨g2, o2 + k, none⟩) (by show w.heap.size ≤ g2; omega) (.int .i64 (x - 1))
                  obtain ⟨w3, hw3⟩ : ∃ y, w2.setCell ⟨g2, o2 + k, none⟩ (.int .i64 (x - 1)) = y := ⟨_, rfl⟩
                  rw [hw3] at hs3 hB3
                  have hll2 : (q.set k (x - 1)).length = q.length := List.length_set ..
                  have hs4 : OwnI w3 (.slice (some ⟨g2, o2, none⟩) q.length c2) (q.set k (x - 1)) := hs3
                  have cR := IH.out (q.set k (x - 1)) _ w3 hs4 HGL hll hls (by omega)
                  rw [HV.out] at cR
                  have CR := Lib.hid cR
                  have HW3 := Lib.hid hw3
                  have hB3z := hB3.size
                  clear cO ho2 hf2 hb2 hcell2 hs3 hs4 hB2 hw3 hll hls cR hll2 hnil2
                  go_wp2_with fail
                  rw [HW3.out]
                  refine CR.out.mono ?_
                  rintro e w4 ⟨rfl, hb4⟩
                  have hB4 := hB3.trans (hb4.mono hB3z)
                  clear hck2 hfz2 hb4 hB3
                  go_wp2
                  go_roundw
                  case rel => exact ⟨k + 1, by omega, by go_num, by rw [HSUM.out]; go_num, hB4⟩
                  case measure => simp [intOf] <;> omega
            · obtain rfl : k = q.length := by omega
              have hAb := HCN.out q.length (Nat.le_refl _)
              have HF := Lib.hid (show wayR (f + 1 - 1) q = ((wbTo q q.length).map (wayR (f - 1))).sum by
                obtain ⟨f', rfl⟩ : ∃ f', f = f' + 1 := ⟨f - 1, by omega⟩
                rw [wbTo_all]
                rfl)
              go_wp2
              go_ret
              exact ⟨by rw [HF.out]; rfl, hbr⟩

set_option maxHeartbeats 1600000 in
theorem sCountTables_any (v : Value) (xs : List Int) (w : World) (hv : OwnI w v xs) (hn : xs.length ≤ 1048576) :
    Calls Try.prog 64 #[v] w fun e w' => e = .returned (.tuple #[.int .i64 (mCountTables xs), .bool (shpB xs)]) ∧ Below w.heap.size w w' := by
  have c := inShapeGood_any v xs w hv hn
  cases hg : shpB xs with
  | true =>
    have hS := shpB_iff.1 hg
    have hsh := ShR_of xs hS.2.2.1 hS.2.2.2.1
    have h1 := hsh.sum
    have h2 := hsh.head
    have h9 := hS.2.1
    have hpos : 1 ≤ xs.sum := by
      have h1 := hS.1
      have h3 := hsh.mem _ (List.getElem_mem (show 0 < xs.length by omega))
      have h4 := hS.2.2.1 _ (List.getElem_mem (show 0 < xs.length by omega))
      omega
    have hle := hS.2.2.2.2
    obtain ⟨d, hd⟩ : ∃ d : Nat, xs.sum = (d : Int) + 1 := ⟨(xs.sum - 1).toNat, by omega⟩
    have HM := Lib.hid (show mCountTables xs = ((wayR (d + 1 - 1) xs : Nat) : Int) by
      unfold mCountTables
      rw [if_pos hg, hd, show ((d : Int) + 1).toNat = d + 1 by omega, wayR_last d hsh hd]
      rfl)
    have HSH := Lib.hid hsh
    have hsum : xs.sum = ((d + 1 : Nat) : Int) := by rw [hd]; simp
    rw [hg] at c
    have HV := Lib.hid (fun (w' : World) (hb : Below w.heap.size w w') => inCount_any (d + 1) xs v w' (hv.below hb (Nat.le_refl _)) HSH h9 hsum (by omega))
    obtain ⟨ad, cap, rfl, hcc, _, _⟩ := hv.shape
    clear hg hS hsh h1 h2 hv
    go_enter Try.func64, Try.ntmps64
    go_wp2_with fail
    refine c.mono ?_
    rintro e w1 ⟨rfl, hb1⟩
    have c2 := HV.out w1 hb1
    clear c HV
    go_wp2_with fail
    refine c2.mono ?_
    rintro e w2 ⟨rfl, hb2⟩
    have hB := hb1.trans (hb2.mono hb1.size)
    clear c2
    go_wp2
    go_ret2
    exact ⟨by rw [HM.out]; rfl, hB⟩
  | false =>
    have HM := Lib.hid (show mCountTables xs = 0 from if_neg (by rw [hg]; exact Bool.false_ne_true))
    rw [hg] at c
    obtain ⟨ad, cap, rfl, hcc, _, _⟩ := hv.shape
    clear hg
    go_enter Try.func64, Try.ntmps64
    go_wp2_with fail
    refine c.mono ?_
    rintro e w1 ⟨rfl, hb⟩
    clear c
    go_wp2
    go_ret2
    exact ⟨by rw [HM.out]; rfl, hb⟩
end Go.Proofs.Ytdkidfilnbglgaa

