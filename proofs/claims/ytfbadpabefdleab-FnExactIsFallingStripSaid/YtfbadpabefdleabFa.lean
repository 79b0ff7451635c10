import Derived.Test.YtfbadpabefdleabCe
import Derived.Test.YtfbadpabefdleabQ1
import Derived.Test.YtfbadpabefdleabI1
import Derived.BigRegion
import Derived.Outline
namespace Go.Pan
open Go Go.RowKit
/-- a law of a plain region's list, at a step of a region that draws -/
theorem Oper.wp_weaken {P : Program} {o : Oper} {a : Act} {w : World} {K : Act → World → Prop} {Q Q' : Exit → Act → World → Prop} (h : Oper.wp P o a w K Q') (hp : ∀ ch a w, Q' (.panic ch) a w → Q (.panic ch) a w) (ho : ¬ LetsOut Q') :
    Oper.wp P o a w K Q := by
  unfold Oper.wp Oper.upon at *
  split <;> simp_all
  · exact Calls.mono h fun e w' hr => by
      cases e with
      | returned v => exact hr
      | panicked ch => exact hp _ _ _ hr
      | outgrown => exact hr.elim
theorem step_of_list {P : Program} {ops : Array Oper} {o : Oper} {a : Act} {w : World} {K : Act → World → Prop} {Q : Exit → Act → World → Prop} {E : Prop} (hg : o.guard = none)
    (h : ∀ Q' : Exit → Act → World → Prop, (∀ a w, K a w → Q' .normal a w) → wpList P ops Q' [o] a w) : if Region.wanted o (yielded ops a.tmps) = true then Oper.wp P o a w K Q else E := by
  have hw : Region.wanted o (yielded ops a.tmps) = true := by simp [Region.wanted, hg]
  rw [if_pos hw]
  have h1 := h (fun e a w => match e with | .normal => K a w | .outgrown => False | e => Q e a w) (fun a w hk => hk)
  simp only [wpList, hw, if_true] at h1
  rcases h1 with h1 | ⟨_, a', w', hf⟩
  · exact Oper.wp_weaken h1 (fun ch a w h => h) (fun ⟨a', w', hf⟩ => hf)
  · exact hf.elim
end Go.Pan
namespace Go.Proofs.Ytfbadpabefdleab
open Go Go.RowKit Go.Pan

theorem toSegment_any (x : Int × Int) (w : World) :
    Calls Try.prog 6 #[.agg #[.int .i64 x.1, .int .i64 x.2]] w fun e w' => e = .returned (.agg #[.int .i64 x.1, .int .i64 x.2]) ∧ Below w.heap.size w w' := by
  go_enter Try.func6, Try.ntmps6
  go_wp2
  exact bodyPost_ret (v := .agg #[.int .i64 x.1, .int .i64 x.2]) (by simp [results, Try.results6, go_sem]) rfl ⟨rfl, (((Below.refl _ _).alloc (Nat.le_refl _) _).alloc (by simp) _).alloc (by simp; omega) _⟩

theorem infoSegment : (Try.prog.info? 28).map (·.size) = some 2 := by kernel_rfl
theorem infoSegmentW : (Try.prog.info? 24).map (·.size) = some 2 := by kernel_rfl
theorem infoSegment3 : (Try.prog.info? 28).map (fun i => (i.zero, i.size, i.bytes)) = some (some (.agg #[.int .i64 0, .int .i64 0]), 2, 16) := by kernel_rfl

theorem sgIs_any (n : Int) (p : Int × Int) (w : World) :
    Calls Try.prog 10 #[.int .i64 n, .agg #[.int .i64 p.1, .int .i64 p.2]] w fun e w' => e = .returned (.bool (segB n p)) ∧ Below w.heap.size w w' := by
  have hb0 : Below w.heap.size w (w.alloc (.cells #[.int .i64 p.1, .int .i64 p.2] 28)) := (Below.refl _ _).alloc (Nat.le_refl _) _
  cases h1 : inB n 1 9 with
  | false =>
    have HR := Lib.hid (show segB n p = false by unfold segB; rw [h1]; rfl)
    have c1 := l1In_any n 1 9
    rw [h1] at c1
    clear h1
    go_enter Try.func10, Try.ntmps10
    go_wp2_with fail
    refine (c1 _).mono ?_
    rintro e w1 ⟨rfl, rfl⟩
    go_wp2
    go_ret
    exact ⟨by rw [HR.out]; rfl, hb0⟩
  | true =>
    have c1 := l1In_any n 1 9
    rw [h1] at c1
    cases h2 : inB p.1 1 n with
    | false =>
      have HR := Lib.hid (show segB n p = false by unfold segB; rw [h1, h2]; rfl)
      have c2 := l1In_any p.1 1 n
      rw [h2] at c2
      clear h1 h2
      go_enter Try.func10, Try.ntmps10
      go_wp2_with fail
      refine (c1 _).mono ?_
      rintro e w1 ⟨rfl, rfl⟩
      go_wp2_with fail
      refine (c2 _).mono ?_
      rintro e w1 ⟨rfl, rfl⟩
      go_wp2
      go_ret
      exact ⟨by rw [HR.out]; rfl, hb0⟩
    | true =>
      have c2 := l1In_any p.1 1 n
      rw [h2] at c2
      cases h3 : inB p.2 1 n with
      | false =>
        have HR := Lib.hid (show segB n p = false by unfold segB; rw [h1, h2, h3]; rfl)
        have c3 := l1In_any p.2 1 n
        rw [h3] at c3
        clear h1 h2 h3
        go_enter Try.func10, Try.ntmps10
        go_wp2_with fail
        refine (c1 _).mono ?_
        rintro e w1 ⟨rfl, rfl⟩
        go_wp2_with fail
        refine (c2 _).mono ?_
        rintro e w1 ⟨rfl, rfl⟩
        go_wp2_with fail
        refine (c3 _).mono ?_
        rintro e w1 ⟨rfl, rfl⟩
        go_wp2
        go_ret
        exact ⟨by rw [HR.out]; rfl, hb0⟩
      | true =>
        have c3 := l1In_any p.2 1 n
        rw [h3] at c3
        have HR := Lib.hid (show segB n p = decide (p.1 < p.2) by unfold segB; rw [h1, h2, h3]; simp)
        clear h1 h2 h3
        go_enter Try.func10, Try.ntmps10
        go_wp2_with fail
        refine (c1 _).mono ?_
        rintro e w1 ⟨rfl, rfl⟩
        go_wp2_with fail
        refine (c2 _).mono ?_
        rintro e w1 ⟨rfl, rfl⟩
        go_wp2_with fail
        refine (c3 _).mono ?_
        rintro e w1 ⟨rfl, rfl⟩
        go_wp2
        go_ret
        exact ⟨by rw [HR.out]; rfl, hb0⟩

theorem seg_eq (p q : Int × Int) (W : World) : (Op.equalIn 10000 28 (.agg #[.int .i64 p.1, .int .i64 p.2]) (.agg #[.int .i64 q.1, .int .i64 q.2])).run Try.prog W = .ok (decide (p = q)) W := by
  have h := run_equalIn_struct (P := Try.prog) (w := W) 9999 28 #[.int .i64 p.1, .int .i64 p.2] #[.int .i64 q.1, .int .i64 q.2] (by kernel_rfl) (by kernel_rfl)
  rw [show (10000 : Nat) = 9999 + 1 from rfl, h]
  obtain ⟨a, b⟩ := p
  obtain ⟨c, d⟩ := q
  have hu := Try.underlying3
  simp [Program.fieldsOf, Try.underlying28, go_sem, hu, isAgg, part]
  by_cases h1 : a = c <;> by_cases h2 : b = d <;> simp [h1, h2]

theorem segSl : CelSl c2 Try.prog 41 28 16 := by
  obtain ⟨i, hi, hz0, hz1, hz2⟩ := info_parts infoSegment3
  exact ⟨Try.underlying41, i, _, hi, hz0, rfl, hz1, hz2⟩
theorem segSl2 : CelSl c2 Try.prog 42 28 16 := by
  obtain ⟨i, hi, hz0, hz1, hz2⟩ := info_parts infoSegment3
  exact ⟨Try.underlying42, i, _, hi, hz0, rfl, hz1, hz2⟩

def IdxP (l : List (Int × Int)) (p : Int × Int) (i : Int) : Prop := if p ∈ l then 0 ≤ i else i = -1

set_option maxHeartbeats 1600000 in
set_option maxRecDepth 100000 in
theorem IndexS_any (v : Value) (l : List (Int × Int)) (p : Int × Int) (w : World) (hv : OwnC c2 w v l) (hn : l.length ≤ 1048576) :
    Calls Try.prog 20 #[v, .agg #[.int .i64 p.1, .int .i64 p.2]] w fun e w' => ∃ i : Int, e = .returned (.int .i64 i) ∧ IdxP l p i ∧ Below w.heap.size w w' := by
  obtain ⟨ad, cap, rfl, hc, _, _⟩ := hv.shape
  obtain ⟨W, hW⟩ : ∃ W, W = w.alloc (.cells #[.int .i64 p.1, .int .i64 p.2] 28) := ⟨_, rfl⟩
  have hz : Blk W w.heap.size 28 [.int .i64 p.1, .int .i64 p.2] := by rw [hW]; exact Blk.new w _ _ _ rfl
  have hb0 : Below w.heap.size w W := by rw [hW]; exact below_new w _
  have HW := Lib.hid hW
  clear hW
  go_enter Try.func20, Try.ntmps20
  go_wp2
  rw [← HW.out]
  go_loopw [5, 8] (fun _ i wr => ∃ k : Nat, k ≤ l.length ∧ i = .int .i64 k ∧ Hid (p ∉ l.take k) ∧ Below w.heap.size w wr ∧ Blk wr w.heap.size 28 [.int .i64 p.1, .int .i64 p.2]) (fun _ i _ => l.length - (intOf i).toNat)
  case atStart => exact ⟨0, Nat.zero_le _, rfl, Lib.hid (by simp), hb0, hz⟩
  case round =>
    obtain ⟨k, hk, rfl, HX, hbr, hzr⟩ := hrel
    clear hb0 hz
    by_cases hlt : k < l.length
    · obtain ⟨b, off, rfl, hbl, hra⟩ := OwnC.rowAt hv hlt
      have hr1 := range_below hra hbr hbl
      obtain ⟨q, hq⟩ : ∃ q, l[k] = q := ⟨_, rfl⟩
      rw [hq] at hr1
      have hr1' : wr.rangeAt b (off + k * 2) [.int .i64 q.1, .int .i64 q.2] := hr1
      have hzz : wr.rangeAt w.heap.size 0 [.int .i64 p.1, .int .i64 p.2] := hzr.range
      have HQ := Lib.hid hq
      have heq := seg_eq p q
      have hut := Try.underlying28
      have hsz : (Try.prog.info? 28).map (·.size) = some ([.int .i64 p.1, .int .i64 p.2] : List Value).length := infoSegment
      have hsz2 : (Try.prog.info? 28).map (·.size) = some ([.int .i64 q.1, .int .i64 q.2] : List Value).length := infoSegment
      have hsr := hbr.size
      clear hra hr1 hq hv
      go_wp2_with fail
      refine wp_region_held_drew (S := (fun w' => w'.rangeAt w.heap.size 0 [.int .i64 p.1, .int .i64 p.2] ∧ w'.rangeAt b (off + k * 2) [.int .i64 q.1, .int .i64 q.2] ∧ w' = wr.drew)) (by kernel_rfl) (⟨hzz, hr1', rfl⟩) (fun hHeld => ?_)
      refine wpAnyH_take (i := 0) rfl (by kernel_rfl) (by kernel_rfl) (by kernel_rfl) (fun _ _ _ h => h) (yieldsIf_load_mid (by rfl) _ _ rfl _ _ rfl _ _ (fun w hw => hw.1) hut rfl hsz) (by assumption) ?_
      try simp only [List.getElem_toArray, List.getElem_cons_zero, List.getElem_cons_succ, Act.put, List.setIfInBounds_toArray, List.set_cons_zero, List.set_cons_succ]
      refine wpAnyH_take (i := 1) (v := ?_) rfl (by kernel_rfl) (by kernel_rfl) (by kernel_rfl) (fun _ _ _ h => h) (Or.inl ⟨by rfl, ?_⟩) (by assumption) ?_
      rotate_left
      · intro w _; go_simp; with_reducible rfl
      try simp only [List.getElem_toArray, List.getElem_cons_zero, List.getElem_cons_succ, Act.put, List.setIfInBounds_toArray, List.set_cons_zero, List.set_cons_succ]
      refine wpAnyH_take (i := 2) (v := ?_) rfl (by kernel_rfl) (by kernel_rfl) (by kernel_rfl) (fun _ _ _ h => h) (Or.inl ⟨by rfl, ?_⟩) (by assumption) ?_
      rotate_left
      · intro w _; go_simp; with_reducible rfl
      try simp only [List.getElem_toArray, List.getElem_cons_zero, List.getElem_cons_succ, Act.put, List.setIfInBounds_toArray, List.set_cons_zero, List.set_cons_succ]
      refine wpAnyH_take (i := 3) (v := ?_) rfl (by kernel_rfl) (by kernel_rfl) (by kernel_rfl) (fun _ _ _ h => h) (Or.inl ⟨by rfl, ?_⟩) (by assumption) ?_
      rotate_left
      · intro w _; go_simp; with_reducible rfl
      try simp only [List.getElem_toArray, List.getElem_cons_zero, List.getElem_cons_succ, Act.put, List.setIfInBounds_toArray, List.set_cons_zero, List.set_cons_succ]
      refine wpAnyH_take (i := 4) rfl (by kernel_rfl) (by kernel_rfl) (by kernel_rfl) (fun _ _ _ h => h) (yieldsIf_load_mid (by rfl) _ _ rfl _ _ rfl _ _ (fun w hw => hw.2.1) hut rfl hsz2) (by assumption) ?_
      try simp only [List.getElem_toArray, List.getElem_cons_zero, List.getElem_cons_succ, Act.put, List.setIfInBounds_toArray, List.set_cons_zero, List.set_cons_succ]
      refine wpAnyH_take (i := 5) (v := ?_) rfl (by kernel_rfl) (by kernel_rfl) (by kernel_rfl) (fun _ _ _ h => h) (Or.inl ⟨by rfl, ?_⟩) (by assumption) ?_
      rotate_left
      · intro w _; go_simp; with_reducible rfl
      try simp only [List.getElem_toArray, List.getElem_cons_zero, List.getElem_cons_succ, Act.put, List.setIfInBounds_toArray, List.set_cons_zero, List.set_cons_succ]
      refine wpAnyH_done (by kernel_rfl) ?_ _
      have hbD := hbr.drew
      have hzD := hzr.drew
      by_cases he : p = q
      · have HE := Lib.hid he
        have hd : decide (p = q) = true := decide_eq_true he
        rw [hd]
        clear he hd heq
        go_wp2
        go_ret
        exact ⟨_, rfl, by unfold IdxP; rw [if_pos (by rw [HE.out, ← HQ.out]; exact List.getElem_mem hlt)]; omega, hbD⟩
      · have HE := Lib.hid he
        have hd : decide (p = q) = false := decide_eq_false he
        rw [hd]
        have HX2 := Lib.hid (show p ∉ l.take (k + 1) by
          rw [List.take_succ_eq_append_getElem hlt, List.mem_append, List.mem_singleton, HQ.out]
          rintro (h | h)
          · exact HX.out h
          · exact HE.out h)
        clear he hd heq
        go_wp2
        go_roundw
        case rel => exact ⟨k + 1, by omega, by go_num, HX2, hbD, hzD⟩
        case measure => simp [intOf] <;> omega
    · obtain rfl : k = l.length := by omega
      clear hv
      go_wp2
      go_ret
      have h := HX.out
      rw [List.take_length] at h
      exact ⟨_, rfl, by unfold IdxP; rw [if_neg h], hbr⟩

theorem ContainsS_any (v : Value) (l : List (Int × Int)) (p : Int × Int) (w : World) (hv : OwnC c2 w v l) (hn : l.length ≤ 1048576) :
    Calls Try.prog 18 #[v, .agg #[.int .i64 p.1, .int .i64 p.2]] w fun e w' => e = .returned (.bool (decide (p ∈ l))) ∧ Below w.heap.size w w' := by
  obtain ⟨ad, cap, rfl, hc, _, _⟩ := hv.shape
  have hb0 := below_new w (.cells #[.int .i64 p.1, .int .i64 p.2] 28)
  have hva := hv.alloc (.cells #[.int .i64 p.1, .int .i64 p.2] 28)
  go_enter Try.func18, Try.ntmps18
  go_wp2_with fail
  refine (IndexS_any _ l p _ hva hn).mono ?_
  rintro e w1 ⟨i, rfl, hi, hb⟩
  have HI := Lib.hid hi
  have hB := hb0.trans (hb.mono (by simp))
  clear hi
  go_wp2
  go_ret
  refine ⟨?_, hB⟩
  have h := HI.out
  unfold IdxP at h
  by_cases hm : p ∈ l
  · rw [if_pos hm] at h
    rw [decide_eq_true hm]
    simp [h]
  · rw [if_neg hm] at h
    rw [decide_eq_false hm]
    simp [h]
theorem segCap (n : Nat) (h1 : 1 ≤ n) (h9 : n ≤ 9) : ∃ K : Nat, ((n : Int) * ((n : Int) - 1)) / 2 = (K : Int) ∧ 0 ≤ (n : Int) * ((n : Int) - 1) ∧ (n : Int) * ((n : Int) - 1) ≤ 72 ∧ K ≤ 36 := by
  have h0 : 0 ≤ (n : Int) * ((n : Int) - 1) := Int.mul_nonneg (by omega) (by omega)
  have h2 : (n : Int) * ((n : Int) - 1) ≤ 9 * 8 := Int.mul_le_mul (by omega) (by omega) (by omega) (by omega)
  exact ⟨(((n : Int) * ((n : Int) - 1)) / 2).toNat, by omega, h0, by omega, by omega⟩

set_option maxHeartbeats 4000000 in
set_option maxRecDepth 100000 in
theorem segmentsFor_any (n : Nat) (w : World) (h1 : 1 ≤ n) (h9 : n ≤ 9) :
    Calls Try.prog 19 #[.int .i64 n] w fun e w' => ∃ r, e = .returned r ∧ OwnC c2 w' r (segsAll n) ∧ From w.heap.size r ∧ Below w.heap.size w w' := by
  obtain ⟨i0, hi, hz0, hz1, hz2⟩ := info_parts infoSegment3
  have HI := Lib.hid hi
  have HZ0 := Lib.hid hz0
  have HZ1 := Lib.hid hz1
  obtain ⟨K, hK, hK0, hK1, hK2⟩ := segCap n h1 h9
  have HPR := Lib.hid (segsAll_pred n h1)
  have h1' : (1 : Int) ≤ n := by omega
  go_enter Try.func19, Try.ntmps19
  go_wp2_with (at_make; refine wpList_make_own _ rfl _ _ 42 rfl w.heap.size 28 i0 _ 2 Try.underlying42 hi hz0 hz1 _ _ _ K rfl rfl hK ?b1 ?b2 ?b3 ?_)
  case b1 => rw [hz2]; omega
  case b2 => unfold maxLen; omega
  case b3 => exact Nat.le_refl _
  intro w1 hown hgr
  have ho0 : OwnC c2 w1 (.slice (some ⟨w.heap.size, 0, none⟩) 0 K) [] := (Own.of_row hown).1
  have hf0 := (Own.of_row hown).2
  have hb0 : Below w.heap.size w w1 := (Below.refl _ _).grown hgr (Nat.le_refl _) (by intro k hk; cases hk)
  clear hown hgr hi hz0 hz1 hz2 hK hK0 hK1
  go_wp2
  go_loopw [3, 4] (fun o i wr => ∃ k : Nat, k + 1 ≤ n ∧ i = .int .i64 ((k : Int) + 1) ∧ OwnC c2 wr o (segsTo n k) ∧ From w.heap.size o ∧ Below w.heap.size w wr) (fun _ i _ => n + 1 - (intOf i).toNat)
  case atStart => exact ⟨0, by omega, by go_num, ho0, hf0, hb0⟩
  case round =>
    obtain ⟨k, hk, rfl, ho, hf, hbr⟩ := hrel
    clear ho0 hf0 hb0
    by_cases hlt : k + 1 < n
    · have hlt' : (k : Int) + 1 < n := by omega
      have HO := Lib.hid (show OwnC c2 wr u3 (segsAt n k 0) by rw [segsAt_zero]; exact ho)
      clear ho
      go_wp2
      obtain ⟨wo, hwo⟩ : ∃ x, wr = x := ⟨_, rfl⟩
      rw [hwo] at HO hbr ⊢
      clear hwo
      go_loopw [3, 5] (fun o i wr => ∃ j : Nat, k + 1 + j ≤ n ∧ i = .int .i64 ((k : Int) + 2 + j) ∧ OwnC c2 wr o (segsAt n k j) ∧ From w.heap.size o ∧ Below w.heap.size w wr) (fun _ i _ => n + 2 - (intOf i).toNat)
      case atStart => exact ⟨0, by omega, by go_num, HO.out, hf, hbr⟩
      case round =>
        obtain ⟨j, hj, rfl, hoi, hfi, hbi⟩ := hrel
        clear HO hf hbr
        by_cases hjl : k + 1 + j < n
        · have hle : (k : Int) + 2 + j ≤ n := by omega
          have hlen : (segsAt n k j).length ≤ 1048576 := by
            have h3 := segsTo_le n k
            have h4 : n * k ≤ 9 * 9 := Nat.mul_le_mul h9 (by omega)
            unfold segsAt
            rw [List.length_append, segsUp_length]; omega
          have HS := Lib.hid (segsAt_succ n k j)
          have hsi := hbi.size
          have hba := hbi.alloc hsi (.cells #[.int .i64 ((k : Int) + 1), .int .i64 ((k : Int) + 2 + j)] 28)
          have hsrc := Src.pair (p := ((k : Int) + 1, (k : Int) + 2 + j)) (Blk.new wr 28 [iv ((k : Int) + 1), iv ((k : Int) + 2 + j)] _ rfl)
          have hoa := hoi.alloc (.cells #[.int .i64 ((k : Int) + 1), .int .i64 ((k : Int) + 2 + j)] 28)
          clear hoi hbi
          go_wp2_with (first | (refine wpList_build_pair Try.underlying42 HI.out HZ0.out HZ1.out rfl _ rfl (.int .i64 ((k : Int) + 1)) (.int .i64 ((k : Int) + 2 + j)) rfl ?_) | (at_builtin; refine wpList_appC segSl2 (by omega) (by omega) rfl _ _ rfl _ (segsAt n k j) rfl hoa w.heap.size hfi (some ⟨wr.heap.size, 0, none⟩) 1 1 [((k : Int) + 1, (k : Int) + 2 + j)] rfl rfl hsrc w hba (by simp; omega) hlen (by simp) ?_; intro v7 w7 ho7 hf7 hb7 hg7))
          rw [← HS.out] at ho7
          go_roundw
          case rel => exact ⟨j + 1, by omega, by go_num, ho7, hf7, hb7⟩
          case measure => simp [intOf] <;> omega
        · obtain rfl : j = n - (k + 1) := by omega
          have hgt : (n : Int) < (k : Int) + 2 + ((n - (k + 1) : Nat) : Int) := by omega
          have HO2 := Lib.hid (show OwnC c2 wr u3 (segsTo n (k + 1)) by rw [← segsAt_end]; exact hoi)
          clear hoi
          go_wp2
          go_roundw
          case rel => exact ⟨k + 1, by omega, by go_num, HO2.out, hfi, hbi⟩
          case measure => simp [intOf] <;> omega
    · obtain rfl : k = n - 1 := by omega
      have hge : (n : Int) ≤ ((n - 1 : Nat) : Int) + 1 := by omega
      have HO2 := Lib.hid (show OwnC c2 wr u3 (segsAll n) by rw [HPR.out]; exact ho)
      clear ho
      go_wp2
      go_ret
      exact ⟨_, rfl, HO2.out, hf, hbr⟩

set_option maxHeartbeats 1600000 in
set_option maxRecDepth 100000 in
theorem IsSegment_any (n : Int) (p : Int × Int) (w : World) :
    Calls Try.prog 12 #[.int .i64 n, .agg #[.int .i64 p.1, .int .i64 p.2]] w fun e w' => e = .returned (.bool (segB n p)) ∧ Below w.heap.size w w' := by
  obtain ⟨W, hW⟩ : ∃ W, W = w.alloc (.cells #[.int .i64 p.1, .int .i64 p.2] 28) := ⟨_, rfl⟩
  have hz : Blk W w.heap.size 28 [.int .i64 p.1, .int .i64 p.2] := by rw [hW]; exact Blk.new w _ _ _ rfl
  have hb0 : Below w.heap.size w W := by rw [hW]; exact below_new w _
  have HW := Lib.hid hW
  have hWs : w.heap.size < W.heap.size := by rw [hW]; simp
  have hut := Try.underlying28
  have hsz : (Try.prog.info? 28).map (·.size) = some ([.int .i64 p.1, .int .i64 p.2] : List Value).length := infoSegment
  have ci := isCount_any n
  clear hW
  cases hn : inB n 1 9 with
  | true =>
    rw [hn] at ci
    obtain ⟨m, rfl⟩ : ∃ m : Nat, n = m := ⟨n.toNat, by have := inB_iff.1 hn; omega⟩
    have hm := inB_iff.1 hn
    have h1 : 1 ≤ m := by omega
    have h9 : m ≤ 9 := by omega
    have HR := Lib.hid (show segB m p = decide (p ∈ segsAll m) by
      rw [Bool.eq_iff_iff, decide_eq_true_iff, segsAll_B h1 h9])
    have hal := segsAll_le h9
    clear hn hm
    go_enter Try.func12, Try.ntmps12
    go_wp2_with fail
    rw [← HW.out]
    refine wp_region_held_drew (S := (fun w' => w'.rangeAt w.heap.size 0 [.int .i64 p.1, .int .i64 p.2] ∧ w.heap.size < w'.heap.size ∧ Below w.heap.size w w')) (by kernel_rfl) (⟨hz.range, hWs, hb0.drew⟩) (fun hHeld => ?_)
    refine wpAnyH_take (i := 0) (v := ?_) rfl (by kernel_rfl) (by kernel_rfl) (by kernel_rfl) (fun _ _ _ h => h) (Or.inl ⟨by rfl, ?_⟩) (by assumption) ?_
    rotate_left
    · intro w _; go_simp; with_reducible rfl
    try simp only [List.getElem_toArray, List.getElem_cons_zero, List.getElem_cons_succ, Act.put, List.setIfInBounds_toArray, List.set_cons_zero, List.set_cons_succ]
    refine wpAnyH_ready (rs := [1]) (by kernel_rfl) (by simp) ?_
    refine AllReadyH.cons rfl (fun K hK => ?_) AllReadyH.nil
    go_simp
    refine (ci _).mono ?_
    rintro e w1 ⟨rfl, rfl⟩
    go_wp2_with fail
    refine hK.out _ _ (hHeld) (fun hHeld => ?_)
    clear hK K
    try simp only [List.getElem_toArray, List.getElem_cons_zero, List.getElem_cons_succ, Act.put, List.setIfInBounds_toArray, List.set_cons_zero, List.set_cons_succ]
    refine wpAnyH_take (i := 2) (v := ?_) rfl (by kernel_rfl) (by kernel_rfl) (by kernel_rfl) (fun _ _ _ h => h) (Or.inl ⟨by rfl, ?_⟩) (by assumption) ?_
    rotate_left
    · intro w _; go_simp; with_reducible rfl
    try simp only [List.getElem_toArray, List.getElem_cons_zero, List.getElem_cons_succ, Act.put, List.setIfInBounds_toArray, List.set_cons_zero, List.set_cons_succ]
    refine wpAnyH_take (i := 3) (v := ?_) rfl (by kernel_rfl) (by kernel_rfl) (by kernel_rfl) (fun _ _ _ h => h) (Or.inl ⟨by rfl, ?_⟩) (by assumption) ?_
    rotate_left
    · intro w _; go_simp; with_reducible rfl
    try simp only [List.getElem_toArray, List.getElem_cons_zero, List.getElem_cons_succ, Act.put, List.setIfInBounds_toArray, List.set_cons_zero, List.set_cons_succ]
    refine wpAnyH_take (i := 5) rfl (by kernel_rfl) (by kernel_rfl) (by kernel_rfl) (fun _ _ _ h => h) (yieldsIf_load_mid (by rfl) _ _ rfl _ _ rfl _ _ (fun w hw => hw.1) hut rfl hsz) (by assumption) ?_
    try simp only [List.getElem_toArray, List.getElem_cons_zero, List.getElem_cons_succ, Act.put, List.setIfInBounds_toArray, List.set_cons_zero, List.set_cons_succ]
    refine wpAnyH_ready (rs := [4]) (by kernel_rfl) (by simp) ?_
    refine AllReadyH.cons rfl (fun K hK => ?_) AllReadyH.nil
    go_simp
    refine (segmentsFor_any m _ h1 h9).mono ?_
    rintro e w2 ⟨r2, rfl, ho2, hf2, hb2⟩
    go_wp2_with fail
    refine hK.out _ _ (⟨range_below hHeld.1 hb2 hHeld.2.1, Nat.lt_of_lt_of_le hHeld.2.1 hb2.size, hHeld.2.2.trans (hb2.mono hHeld.2.2.size)⟩) (fun hHeld => ?_)
    clear hK K
    try simp only [List.getElem_toArray, List.getElem_cons_zero, List.getElem_cons_succ, Act.put, List.setIfInBounds_toArray, List.set_cons_zero, List.set_cons_succ]
    refine wpAnyH_ready (rs := [6]) (by kernel_rfl) (by simp) ?_
    refine AllReadyH.cons rfl (fun K hK => ?_) AllReadyH.nil
    go_simp
    refine (ContainsS_any r2 _ p _ ho2 (by omega)).mono ?_
    rintro e w3 ⟨rfl, hb3⟩
    go_wp2_with fail
    refine hK.out _ _ (⟨range_below hHeld.1 hb3 hHeld.2.1, Nat.lt_of_lt_of_le hHeld.2.1 hb3.size, hHeld.2.2.trans (hb3.mono hHeld.2.2.size)⟩) (fun hHeld => ?_)
    clear hK K
    try simp only [List.getElem_toArray, List.getElem_cons_zero, List.getElem_cons_succ, Act.put, List.setIfInBounds_toArray, List.set_cons_zero, List.set_cons_succ]
    refine wpAnyH_take (i := 7) (v := ?_) rfl (by kernel_rfl) (by kernel_rfl) (by kernel_rfl) (fun _ _ _ h => h) (Or.inl ⟨by rfl, ?_⟩) (by assumption) ?_
    rotate_left
    · intro w _; go_simp; with_reducible rfl
    try simp only [List.getElem_toArray, List.getElem_cons_zero, List.getElem_cons_succ, Act.put, List.setIfInBounds_toArray, List.set_cons_zero, List.set_cons_succ]
    refine wpAnyH_take (i := 8) (v := ?_) rfl (by kernel_rfl) (by kernel_rfl) (by kernel_rfl) (fun _ _ _ h => h) (Or.inl ⟨by rfl, ?_⟩) (by assumption) ?_
    rotate_left
    · intro w _; go_simp; with_reducible rfl
    try simp only [List.getElem_toArray, List.getElem_cons_zero, List.getElem_cons_succ, Act.put, List.setIfInBounds_toArray, List.set_cons_zero, List.set_cons_succ]
    refine wpAnyH_done (by kernel_rfl) ?_ _
    have hB := hHeld.2.2
    go_wp2
    go_ret
    exact ⟨by rw [HR.out]; rfl, hB⟩
  | false =>
    rw [hn] at ci
    have HR := Lib.hid (show segB n p = false by unfold segB; rw [hn]; rfl)
    clear hn
    go_enter Try.func12, Try.ntmps12
    go_wp2_with fail
    rw [← HW.out]
    refine wp_region_held_drew (S := (fun w' => w' = W.drew)) (by kernel_rfl) (rfl) (fun hHeld => ?_)
    refine wpAnyH_take (i := 0) (v := ?_) rfl (by kernel_rfl) (by kernel_rfl) (by kernel_rfl) (fun _ _ _ h => h) (Or.inl ⟨by rfl, ?_⟩) (by assumption) ?_
    rotate_left
    · intro w _; go_simp; with_reducible rfl
    try simp only [List.getElem_toArray, List.getElem_cons_zero, List.getElem_cons_succ, Act.put, List.setIfInBounds_toArray, List.set_cons_zero, List.set_cons_succ]
    refine wpAnyH_ready (rs := [1]) (by kernel_rfl) (by simp) ?_
    refine AllReadyH.cons rfl (fun K hK => ?_) AllReadyH.nil
    go_simp
    refine (ci _).mono ?_
    rintro e w1 ⟨rfl, rfl⟩
    go_wp2_with fail
    refine hK.out _ _ (rfl) (fun hHeld => ?_)
    clear hK K
    try simp only [List.getElem_toArray, List.getElem_cons_zero, List.getElem_cons_succ, Act.put, List.setIfInBounds_toArray, List.set_cons_zero, List.set_cons_succ]
    refine wpAnyH_take (i := 2) (v := ?_) rfl (by kernel_rfl) (by kernel_rfl) (by kernel_rfl) (fun _ _ _ h => h) (Or.inl ⟨by rfl, ?_⟩) (by assumption) ?_
    rotate_left
    · intro w _; go_simp; with_reducible rfl
    try simp only [List.getElem_toArray, List.getElem_cons_zero, List.getElem_cons_succ, Act.put, List.setIfInBounds_toArray, List.set_cons_zero, List.set_cons_succ]
    refine wpAnyH_take (i := 3) (v := undef) rfl (by kernel_rfl) (by kernel_rfl) (by kernel_rfl) (fun _ _ _ h => h) (Or.inr ⟨by rfl, rfl⟩) (by assumption) ?_
    try simp only [List.getElem_toArray, List.getElem_cons_zero, List.getElem_cons_succ, Act.put, List.setIfInBounds_toArray, List.set_cons_zero, List.set_cons_succ]
    refine wpAnyH_take (i := 4) (v := undef) rfl (by kernel_rfl) (by kernel_rfl) (by kernel_rfl) (fun _ _ _ h => h) (Or.inr ⟨by rfl, rfl⟩) (by assumption) ?_
    try simp only [List.getElem_toArray, List.getElem_cons_zero, List.getElem_cons_succ, Act.put, List.setIfInBounds_toArray, List.set_cons_zero, List.set_cons_succ]
    refine wpAnyH_take (i := 5) (v := undef) rfl (by kernel_rfl) (by kernel_rfl) (by kernel_rfl) (fun _ _ _ h => h) (Or.inr ⟨by rfl, rfl⟩) (by assumption) ?_
    try simp only [List.getElem_toArray, List.getElem_cons_zero, List.getElem_cons_succ, Act.put, List.setIfInBounds_toArray, List.set_cons_zero, List.set_cons_succ]
    refine wpAnyH_take (i := 6) (v := undef) rfl (by kernel_rfl) (by kernel_rfl) (by kernel_rfl) (fun _ _ _ h => h) (Or.inr ⟨by rfl, rfl⟩) (by assumption) ?_
    try simp only [List.getElem_toArray, List.getElem_cons_zero, List.getElem_cons_succ, Act.put, List.setIfInBounds_toArray, List.set_cons_zero, List.set_cons_succ]
    refine wpAnyH_take (i := 7) (v := ?_) rfl (by kernel_rfl) (by kernel_rfl) (by kernel_rfl) (fun _ _ _ h => h) (Or.inl ⟨by rfl, ?_⟩) (by assumption) ?_
    rotate_left
    · intro w _; go_simp; with_reducible rfl
    try simp only [List.getElem_toArray, List.getElem_cons_zero, List.getElem_cons_succ, Act.put, List.setIfInBounds_toArray, List.set_cons_zero, List.set_cons_succ]
    refine wpAnyH_take (i := 8) (v := ?_) rfl (by kernel_rfl) (by kernel_rfl) (by kernel_rfl) (fun _ _ _ h => h) (Or.inl ⟨by rfl, ?_⟩) (by assumption) ?_
    rotate_left
    · intro w _; go_simp; with_reducible rfl
    try simp only [List.getElem_toArray, List.getElem_cons_zero, List.getElem_cons_succ, Act.put, List.setIfInBounds_toArray, List.set_cons_zero, List.set_cons_succ]
    refine wpAnyH_done (by kernel_rfl) ?_ _
    have hB := hb0.drew
    go_wp2
    go_ret
    exact ⟨by rw [HR.out]; rfl, hB⟩
end Go.Proofs.Ytfbadpabefdleab
