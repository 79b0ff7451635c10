import Derived.Test.YtdkidfilnbglgaaWX
import Derived.Deep.LoopGhost
import Derived.Lib.SliceRun
namespace Go.Pan
open Go Go.RowKit
theorem sum_take_le {q : List Int} (h : ∀ x ∈ q, 0 ≤ x) (k : Nat) : (q.take k).sum ≤ q.sum := by
  have e : (q.take k).sum + (q.drop k).sum = q.sum := by rw [← List.sum_append, List.take_append_drop]
  have h2 : ∀ (l : List Int), (∀ x ∈ l, 0 ≤ x) → 0 ≤ l.sum := fun l => by
    induction l with
    | nil => intro _; simp
    | cons a l ih =>
      intro h
      have h1 := h a (List.mem_cons_self ..)
      have h3 := ih fun x hx => h x (List.mem_cons_of_mem _ hx)
      rw [List.sum_cons]; omega
  have := h2 (q.drop k) fun x hx => h x (List.mem_of_mem_drop hx)
  omega
end Go.Pan
namespace Go.Proofs.Ytdkidfilnbglgaa
open Go Go.RowKit Go.Pan

set_option maxHeartbeats 1600000 in
theorem isShape_any (v : Value) (xs : List Int) (w : World) (hv : OwnI w v xs) (hn : xs.length ≤ 1048576) :
    Calls Try.prog 120 #[v] w fun e w' => e = .returned (.bool (shpB xs)) ∧ Below w.heap.size w w' := by
  obtain ⟨ad, cap, rfl, hc, _, _⟩ := hv.shape
  go_enter Try.func120, Try.ntmps120
  go_wp2
  go_loopw [3, 4, 9] (fun lg lf i wr => ∃ (k : Nat) (L F : Int), k ≤ xs.length ∧ i = .int .i64 k ∧ lg = .int .i64 L ∧ lf = .int .i64 F ∧ F + (xs.take k).sum = 9 ∧ 0 ≤ F ∧ (k : Int) ≤ 9 - F ∧ 1 ≤ L ∧ L ≤ 9 ∧ (k = 0 → L = 9) ∧ Hid (∀ j, k = j + 1 → L = xs.getD j 0) ∧ Hid (∀ j, j < k → 1 ≤ xs.getD j 0 ∧ xs.getD j 0 ≤ 9) ∧ Hid (∀ j, j < k → 0 < j → xs.getD j 0 ≤ xs.getD (j - 1) 0) ∧ Below w.heap.size w wr) (fun _ _ i _ => xs.length - (intOf i).toNat)
  case atStart => exact ⟨0, 9, 9, Nat.zero_le _, rfl, rfl, rfl, by simp, by omega, by omega, by omega, by omega, fun _ => rfl, Lib.hid (fun j h => by omega), Lib.hid (fun j h => by omega), Lib.hid (fun j h => by omega), Below.refl _ _⟩
  case round =>
    obtain ⟨k, L, F, hk, rfl, rfl, rfl, hF, hF0, hkF, hL1, hL9, hLz, hLp, hA, hD, hbr⟩ := hrel
    by_cases hlt : k < xs.length
    · have hlt' : (k : Int) < xs.length := by omega
      have hv1 := hv.below hbr (Nat.le_refl _)
      obtain ⟨g, off, rfl, hgl, hcell⟩ := cells9 hv1 (by omega)
      have hck := hcell k hlt
      have HT := Lib.hid (show (xs.take (k + 1)).sum = (xs.take k).sum + xs.getD k 0 by rw [sum_take_succ hlt, getDI hlt])
      have HMEM := Lib.hid (show xs.getD k 0 ∈ xs by rw [getDI hlt]; exact List.getElem_mem hlt)
      obtain ⟨S, hS⟩ : ∃ S, (xs.take k).sum = S := ⟨_, rfl⟩
      have HSS := Lib.hid hS
      obtain ⟨x, hx⟩ : ∃ x, xs.getD k 0 = x := ⟨_, rfl⟩
      rw [hS] at hF HT
      rw [hx] at hck HT HMEM
      have HX := Lib.hid hx
      clear hv hv1 hcell hS hx
      by_cases h1 : x < 1
      · have HS := Lib.hid (shpB_no (q := xs) fun h => by have := h.2.2.1 x HMEM.out; omega)
        go_wp2
        go_ret
        exact ⟨by rw [HS.out]; rfl, hbr⟩
      · by_cases h2 : L < x
        · have HS := Lib.hid (shpB_no (q := xs) fun h => by
            have h3 := h.2.2.1 x HMEM.out
            by_cases hk0 : k = 0
            · have := hLz hk0; omega
            · have h4 := h.2.2.2.1 k hlt (by omega)
              have h5 := hLp.out (k - 1) (by omega)
              rw [HX.out] at h4
              omega)
          go_wp2
          go_ret
          exact ⟨by rw [HS.out]; rfl, hbr⟩
        · by_cases h3 : F < x
          · have HS := Lib.hid (shpB_no (q := xs) fun h => by
              have h4 := sum_take_le (q := xs) (fun x hx => by have := h.2.2.1 x hx; omega) (k + 1)
              rw [HT.out] at h4
              have := h.2.2.2.2
              omega)
            go_wp2
            go_ret
            exact ⟨by rw [HS.out]; rfl, hbr⟩
          · have HL2 := Lib.hid (show ∀ j, k + 1 = j + 1 → x = xs.getD j 0 from fun j h => by obtain rfl : k = j := by omega
                                                                                              exact HX.out.symm)
            have HA2 := Lib.hid (show ∀ j, j < k + 1 → 1 ≤ xs.getD j 0 ∧ xs.getD j 0 ≤ 9 from fun j h => by
              by_cases e : j = k
              · subst e; rw [HX.out]; omega
              · exact hA.out j (by omega))
            have HD2 := Lib.hid (show ∀ j, j < k + 1 → 0 < j → xs.getD j 0 ≤ xs.getD (j - 1) 0 from fun j h h0 => by
              by_cases e : j = k
              · subst e
                have h5 := hLp.out (j - 1) (by omega)
                rw [HX.out, ← h5]; omega
              · exact hD.out j (by omega) h0)
            have HT2 := Lib.hid (show F - x + (xs.take (k + 1)).sum = 9 by rw [HT.out]; omega)
            go_wp2
            go_roundw
            case rel => exact ⟨k + 1, x, F - x, by omega, by go_num, rfl, rfl, HT2.out, by omega, by omega, by omega, by omega, fun h => by omega, HL2, HA2, HD2, hbr⟩
            case measure => simp [intOf] <;> omega
    · obtain rfl : k = xs.length := by omega
      rw [List.take_length] at hF
      have HS := Lib.hid (show shpB xs = decide (0 < xs.length) by
        by_cases h : 0 < xs.length
        · rw [decide_eq_true h]
          refine shpB_iff.2 ⟨by omega, by omega, fun x hx => ?_, hD.out, by omega⟩
          obtain ⟨i, hi, rfl⟩ := List.mem_iff_getElem.1 hx
          rw [← getDI hi]
          exact hA.out i hi
        · rw [decide_eq_false h]; exact shpB_no fun h2 => h (by omega))
      go_wp2
      go_ret
      exact ⟨by rw [HS.out]; rfl, hbr⟩

set_option maxHeartbeats 1600000 in
theorem CloneO_any (v : Value) (xs : List Int) (w : World) (hv : OwnI w v xs) (h1 : 1 ≤ xs.length) (hn : xs.length ≤ 1048576) :
    Calls Try.prog 161 #[v] w fun e w' => ∃ r, e = .returned r ∧ OwnI w' r xs ∧ From w.heap.size r ∧ Below w.heap.size w w' := by
  obtain ⟨ad, cap, rfl, hc, _, _⟩ := hv.shape
  have hs := Own.src hv
  obtain ⟨g0, off, rfl, _, _, _⟩ := hv.at (by omega)
  have qT : ∀ (w : World) (a : Option Addr) (n c n' c' : Nat), (binOp .eql 22 (.slice a n c) (.slice none n' c')).run Try.prog w = .ok (.bool a.isNone) w := fun w a n c n' c' => Lib.run_eql_slice_nil w _ _ a n c n' c' Try.underlying22
  go_enter Try.func161, Try.ntmps161
  go_wp2_with (at_builtin; refine wpList_appI Try.intSl rfl _ _ rfl (.slice (some ⟨w.heap.size, 0, none⟩) 0 0) [] rfl (OwnI.lit w _ [] 0 rfl (by simp) _ rfl) w.heap.size (From.at _ _ _ _ _ (Nat.le_refl _)) (some ⟨g0, off, none⟩) xs.length cap xs rfl rfl (hs.alloc _) w (below_new w _) (by simp) (by simp) hn ?_)
  intro v' w1 ho hf hb _
  go_wp2
  go_ret
  exact ⟨_, rfl, by simpa using ho, hf, hb⟩

set_option maxHeartbeats 4000000 in
set_option maxRecDepth 100000 in
theorem withoutBox_any (v : Value) (q : List Int) (w : World) (hv : OwnI w v q) (hq : 1 ≤ q.length) (h9 : q.length ≤ 9) (hG : Hid (ShR q ∧ q.sum ≤ 9)) :
    Calls Try.prog 122 #[v] w fun e w' => ∃ r hs, e = .returned r ∧ RL w' 22 w.heap.size r hs (wbR q) ∧ RowsFrom w.heap.size hs ∧ (wbR q = [] → r = .slice none 0 0) ∧ Below w.heap.size w w' := by
  obtain ⟨ad, cap, rfl, hcc, _, _⟩ := hv.shape
  obtain ⟨i0, hi, hz0, hz1, hz2⟩ := info_parts infoL1
  have HI := Lib.hid hi
  have HZ0 := Lib.hid hz0
  have HZ1 := Lib.hid hz1
  have HZ2 := Lib.hid hz2
  have HALL := Lib.hid (wbTo_all q)
  have hv0 := hv
  clear hi hz0 hz1 hz2
  go_enter Try.func122, Try.ntmps122
  go_wp2
  go_loopw [3, 10] (fun o i wr => ∃ (k : Nat) (hs : List Value), k ≤ q.length ∧ i = .int .i64 k ∧ Hid (RL wr 22 w.heap.size o hs (wbTo q k)) ∧ Hid (RowsFrom w.heap.size hs) ∧ Hid (wbTo q k = [] → o = .slice none 0 0) ∧ Below w.heap.size w wr) (fun _ i _ => q.length - (intOf i).toNat)
  case atStart => exact ⟨0, [], Nat.zero_le _, rfl, Lib.hid (RL.nil _ _ _), Lib.hid (RowsFrom.nil _), Lib.hid (fun _ => rfl), Below.refl _ _⟩
  case round =>
    obtain ⟨k, hs, hk, rfl, hR, hF, hZ, hbr⟩ := hrel
    by_cases hlt : k < q.length
    · have hlt' : (k : Int) < q.length := by omega
      have hvr := hv.below hbr (Nat.le_refl _)
      obtain ⟨g, off, rfl, hgl, hcell⟩ := cells9 hvr (by omega)
      have hck := hcell k hlt
      have hat := hG.out.1.at k
      have hat1 := (hG.out.1.at (k + 1)).2
      have hmx := hG.out.1.mem _ (List.getElem_mem hlt)
      have hs9 := hG.out.2
      rw [← getDI hlt] at hmx
      have HYES := Lib.hid (wbTo_yes (q := q) (k := k))
      have HNO := Lib.hid (wbTo_no (q := q) (k := k))
      obtain ⟨x, hx⟩ : ∃ x, q.getD k 0 = x := ⟨_, rfl⟩
      have HX := Lib.hid hx
      rw [hx] at hck hat hmx
      have hx9 : x ≤ 9 := by omega
      have hnx := hcell (k + 1)
      obtain ⟨y, hy⟩ : ∃ y, q.getD (k + 1) 0 = y := ⟨_, rfl⟩
      have HY := Lib.hid hy
      rw [hy] at hat hnx hat1
      have hw0 := hv0
      clear hcell hx hy hs9 hmx hv0
      by_cases hk1 : k + 1 < q.length
      · have hny := hnx hk1
        have hk1' : (k : Int) + 1 < (q.length : Int) := by omega
        clear hnx
        by_cases hyx : y < x
        · have HTY := Lib.hid (HYES.out (by rw [HX.out, HY.out]; omega))
          rw [HX.out] at HTY
          have cO := CloneO_any _ q wr hvr hq (by omega)
          have HRLT := Lib.hid hR.out.lt
          have HRF := Lib.hid hR.out.from
          clear HYES HNO hv hw0
          go_wp2_with fail
          refine cO.mono ?_
          rintro e w2 ⟨r2, rfl, ho2, hf2, hb2⟩
          obtain ⟨a2, c2, rfl, hcc2, _, hnil2⟩ := ho2.shape
          obtain ⟨g2, o2, rfl, hg2, hcell2⟩ := cells9 ho2 (by omega)
          have hck2 := hcell2 k hlt
          rw [HX.out] at hck2
          obtain ⟨hfz2, hs3⟩ := setI1 ho2 hlt (x - 1)
          have hg2f : wr.heap.size ≤ g2 := hf2 _ rfl
          have hwz := hbr.size
          have hB2 := hbr.trans (hb2.mono hwz)
          have hB3 := hB2.setCell (p := ⟨g2, o2 + k, none⟩) (by show w.heap.size ≤ g2; omega) (.int .i64 (x - 1))
          have hR2 := hR.out.below hb2 (Nat.le_refl _)
          have hR3 := hR2.grown (grownBy_setCell w2 g2 (o2 + k) (.int .i64 (x - 1))) (fun g hg e => by have := HRLT.out g hg; cases e; omega) (fun i u hu g hg e => by have := hR.out.rowlt i u hu g hg; cases e; omega)
          obtain ⟨w3, hw3⟩ : ∃ y, w2.setCell ⟨g2, o2 + k, none⟩ (.int .i64 (x - 1)) = y := ⟨_, rfl⟩
          rw [hw3] at hs3 hB3 hR3
          have ho3 : OwnI w3 (.slice (some ⟨g2, o2, none⟩) q.length c2) (q.set k (x - 1)) := hs3
          have hz3 : w2.heap.size = w3.heap.size := by rw [← hw3]; simp
          have hlen := wbTo_le q k
          have HW3 := Lib.hid hw3
          have HR5 := Lib.hid (hR3.below (below_new w3 (.cells #[.slice (some ⟨g2, o2, none⟩) q.length c2] 22)) (Nat.le_refl _))
          have HO5 := Lib.hid (ho3.alloc (.cells #[.slice (some ⟨g2, o2, none⟩) q.length c2] 22))
          have hbz := hB3.size
          have hb5 := hB3.alloc hbz (.cells #[.slice (some ⟨g2, o2, none⟩) q.length c2] 22)
          clear cO ho2 hf2 hb2 hcell2 hs3 hB2 hw3 hnil2 hR2 hR3 ho3 hR hZ
          go_wp2_with (at_builtin; rw [HW3.out]; refine wpList_append_lies _ rfl _ _ 47 rfl w.heap.size 22 i0 _ 1 24 Try.underlying47 HI.out HZ0.out HZ1.out HZ2.out rfl (by omega) u3 (wbTo q k).length hs rfl HR5.out.own _ 1 1 [.slice (some ⟨g2, o2, none⟩) q.length c2] rfl (by simp) (World.news_of_block (heap_alloc_new _ _)) (by simp [Value.oneCell']) (by omega) (by unfold maxLen; omega) (by omega) (by simp; omega) (w3.heap.size + 1) (by simp) ?_)
          intro g6 cap6 w6 hown6 hgr6 hat6 hlt6
          have hf6 : RowsFrom wr.heap.size [Value.slice (some ⟨g2, o2, none⟩) q.length c2] := fun i u hu => by
            have h0 : i < 1 := (List.getElem?_eq_some_iff.1 hu).1
            obtain rfl : i = 0 := by omega
            simp at hu
            subst hu
            intro b hb
            simp [Value.ownBlock] at hb
            omega
          have hR6 := RL.app (N := wr.heap.size) (yss := [q.set k (x - 1)]) HR5.out (fun i u ys hu hy => by
            have h0 : i < 1 := (List.getElem?_eq_some_iff.1 hu).1
            obtain rfl : i = 0 := by omega
            simp at hu hy
            subst hu
            subst hy
            exact HO5.out) hf6 HRLT.out rfl hown6 rfl hgr6 (by simpa using hat6)
          have HR6 := Lib.hid (show RL w6 22 w.heap.size _ _ (wbTo q (k + 1)) by rw [HTY.out]; exact hR6)
          have HL6 := Lib.hid (show (wbTo q (k + 1)).length = (wbTo q k).length + 1 by rw [HTY.out]; simp)
          have HF6 := Lib.hid (hF.out.app (hf6.mono hwz))
          have HZ6 := Lib.hid (show wbTo q (k + 1) = [] → (Value.slice (some ⟨g6, 0, none⟩) ((wbTo q k).length + 1) cap6) = .slice none 0 0 from fun h => by rw [HTY.out] at h; simp at h)
          have hb6 := hb5.grown hgr6 (by simp; omega) (fun b hb => HRF.out b hb)
          clear hown6 hgr6 hat6 hR6 hf6 hb5 hB3
          go_wp2
          go_roundw
          case rel => exact ⟨k + 1, _, by omega, by go_num, HR6, HF6, HZ6, hb6⟩
          case measure => simp [intOf] <;> omega
        · have HS := Lib.hid (HNO.out (by rw [HX.out, HY.out]; omega))
          clear HYES HNO hv hvr
          go_wp2
          go_roundw
          case rel => exact ⟨k + 1, hs, by omega, by go_num, by rw [HS.out]; exact hR, hF, by rw [HS.out]; exact hZ, hbr⟩
          case measure => simp [intOf] <;> omega
      · have hk1' : ¬ (k : Int) + 1 < (q.length : Int) := by omega
        have hy0 : y = 0 := by rw [← HY.out]; simp [List.getD, List.getElem?_eq_none (show q.length ≤ k + 1 by omega)]
        subst hy0
        clear hnx
        by_cases hyx : 0 < x
        · have HTY := Lib.hid (HYES.out (by rw [HX.out, HY.out]; omega))
          rw [HX.out] at HTY
          have cO := CloneO_any _ q wr hvr hq (by omega)
          have HRLT := Lib.hid hR.out.lt
          have HRF := Lib.hid hR.out.from
          clear HYES HNO hv hw0
          go_wp2_with fail
          refine cO.mono ?_
          rintro e w2 ⟨r2, rfl, ho2, hf2, hb2⟩
          obtain ⟨a2, c2, rfl, hcc2, _, hnil2⟩ := ho2.shape
          obtain ⟨g2, o2, rfl, hg2, hcell2⟩ := cells9 ho2 (by omega)
          have hck2 := hcell2 k hlt
          rw [HX.out] at hck2
          obtain ⟨hfz2, hs3⟩ := setI1 ho2 hlt (x - 1)
          have hg2f : wr.heap.size ≤ g2 := hf2 _ rfl
          have hwz := hbr.size
          have hB2 := hbr.trans (hb2.mono hwz)
          have hB3 := hB2.setCell (p := ⟨g2, o2 + k, none⟩) (by show w.heap.size ≤ g2; omega) (.int .i64 (x - 1))
          have hR2 := hR.out.below hb2 (Nat.le_refl _)
          have hR3 := hR2.grown (grownBy_setCell w2 g2 (o2 + k) (.int .i64 (x - 1))) (fun g hg e => by have := HRLT.out g hg; cases e; omega) (fun i u hu g hg e => by have := hR.out.rowlt i u hu g hg; cases e; omega)
          obtain ⟨w3, hw3⟩ : ∃ y, w2.setCell ⟨g2, o2 + k, none⟩ (.int .i64 (x - 1)) = y := ⟨_, rfl⟩
          rw [hw3] at hs3 hB3 hR3
          have ho3 : OwnI w3 (.slice (some ⟨g2, o2, none⟩) q.length c2) (q.set k (x - 1)) := hs3
          have hz3 : w2.heap.size = w3.heap.size := by rw [← hw3]; simp
          have hlen := wbTo_le q k
          have HW3 := Lib.hid hw3
          have HR5 := Lib.hid (hR3.below (below_new w3 (.cells #[.slice (some ⟨g2, o2, none⟩) q.length c2] 22)) (Nat.le_refl _))
          have HO5 := Lib.hid (ho3.alloc (.cells #[.slice (some ⟨g2, o2, none⟩) q.length c2] 22))
          have hbz := hB3.size
          have hb5 := hB3.alloc hbz (.cells #[.slice (some ⟨g2, o2, none⟩) q.length c2] 22)
          clear cO ho2 hf2 hb2 hcell2 hs3 hB2 hw3 hnil2 hR2 hR3 ho3 hR hZ
          go_wp2_with (at_builtin; rw [HW3.out]; refine wpList_append_lies _ rfl _ _ 47 rfl w.heap.size 22 i0 _ 1 24 Try.underlying47 HI.out HZ0.out HZ1.out HZ2.out rfl (by omega) u3 (wbTo q k).length hs rfl HR5.out.own _ 1 1 [.slice (some ⟨g2, o2, none⟩) q.length c2] rfl (by simp) (World.news_of_block (heap_alloc_new _ _)) (by simp [Value.oneCell']) (by omega) (by unfold maxLen; omega) (by omega) (by simp; omega) (w3.heap.size + 1) (by simp) ?_)
          intro g6 cap6 w6 hown6 hgr6 hat6 hlt6
          have hf6 : RowsFrom wr.heap.size [Value.slice (some ⟨g2, o2, none⟩) q.length c2] := fun i u hu => by
            have h0 : i < 1 := (List.getElem?_eq_some_iff.1 hu).1
            obtain rfl : i = 0 := by omega
            simp at hu
            subst hu
            intro b hb
            simp [Value.ownBlock] at hb
            omega
          have hR6 := RL.app (N := wr.heap.size) (yss := [q.set k (x - 1)]) HR5.out (fun i u ys hu hy => by
            have h0 : i < 1 := (List.getElem?_eq_some_iff.1 hu).1
            obtain rfl : i = 0 := by omega
            simp at hu hy
            subst hu
            subst hy
            exact HO5.out) hf6 HRLT.out rfl hown6 rfl hgr6 (by simpa using hat6)
          have HR6 := Lib.hid (show RL w6 22 w.heap.size _ _ (wbTo q (k + 1)) by rw [HTY.out]; exact hR6)
          have HL6 := Lib.hid (show (wbTo q (k + 1)).length = (wbTo q k).length + 1 by rw [HTY.out]; simp)
          have HF6 := Lib.hid (hF.out.app (hf6.mono hwz))
          have HZ6 := Lib.hid (show wbTo q (k + 1) = [] → (Value.slice (some ⟨g6, 0, none⟩) ((wbTo q k).length + 1) cap6) = .slice none 0 0 from fun h => by rw [HTY.out] at h; simp at h)
          have hb6 := hb5.grown hgr6 (by simp; omega) (fun b hb => HRF.out b hb)
          clear hown6 hgr6 hat6 hR6 hf6 hb5 hB3
          go_wp2
          go_roundw
          case rel => exact ⟨k + 1, _, by omega, by go_num, HR6, HF6, HZ6, hb6⟩
          case measure => simp [intOf] <;> omega
        · have HS := Lib.hid (HNO.out (by rw [HX.out, HY.out]; omega))
          clear HYES HNO hv hvr
          go_wp2
          go_roundw
          case rel => exact ⟨k + 1, hs, by omega, by go_num, by rw [HS.out]; exact hR, hF, by rw [HS.out]; exact hZ, hbr⟩
          case measure => simp [intOf] <;> omega
    · obtain rfl : k = q.length := by omega
      rw [HALL.out] at hR hZ
      clear hv hv0
      obtain ⟨ao, co, rfl, hco⟩ := hR.out.slice
      go_wp2
      go_ret
      exact ⟨_, hs, rfl, hR.out, hF.out, hZ.out, hbr⟩
end Go.Proofs.Ytdkidfilnbglgaa

