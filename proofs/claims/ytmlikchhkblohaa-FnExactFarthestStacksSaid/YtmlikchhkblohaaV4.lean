import Derived.Test.YtmlikchhkblohaaI4
import Derived.Test.YtmlikchhkblohaaTSg
import Derived.Test.YtmlikchhkblohaaQ1
import Derived.Test.YtmlikchhkblohaaTw
namespace Go.Proofs.Ytmlikchhkblohaa
open Go Go.RowKit Go.Pan

theorem seg_eq (p q : Int × Int) (W : World) : (Op.equalIn 10000 62 (.agg #[.int .i64 p.1, .int .i64 p.2]) (.agg #[.int .i64 q.1, .int .i64 q.2])).run Try.prog W = .ok (decide (p = q)) W := by
  have h := run_equalIn_struct (P := Try.prog) (w := W) 9999 62 #[.int .i64 p.1, .int .i64 p.2] #[.int .i64 q.1, .int .i64 q.2] (by kernel_rfl) (by kernel_rfl)
  rw [show (10000 : Nat) = 9999 + 1 from rfl, h]
  obtain ⟨a, b⟩ := p
  obtain ⟨c, d⟩ := q
  have hu := Try.underlying3
  simp [Program.fieldsOf, Try.underlying62, go_sem, hu, isAgg, part]
  by_cases h1 : a = c <;> by_cases h2 : b = d <;> simp [h1, h2]

theorem segSl : CelSl c2 Try.prog 54 62 16 := by
  obtain ⟨i, hi, hz0, hz1, hz2⟩ := info_parts infoSegment3
  exact ⟨Try.underlying54, i, _, hi, hz0, rfl, hz1, hz2⟩
theorem segSl2 : CelSl c2 Try.prog 143 62 16 := by
  obtain ⟨i, hi, hz0, hz1, hz2⟩ := info_parts infoSegment3
  exact ⟨Try.underlying143, i, _, hi, hz0, rfl, hz1, hz2⟩

def IdxP (l : List (Int × Int)) (p : Int × Int) (i : Int) : Prop := if p ∈ l then 0 ≤ i else i = -1

set_option maxHeartbeats 1600000 in
set_option maxRecDepth 100000 in
theorem IndexS_any (v : Value) (l : List (Int × Int)) (p : Int × Int) (w : World) (hv : OwnC c2 w v l) (hn : l.length ≤ 1048576) :
    Calls Try.prog 184 #[v, .agg #[.int .i64 p.1, .int .i64 p.2]] w fun e w' => ∃ i : Int, e = .returned (.int .i64 i) ∧ IdxP l p i ∧ Below w.heap.size w w' := by
  obtain ⟨ad, cap, rfl, hc, _, _⟩ := hv.shape
  obtain ⟨W, hW⟩ : ∃ W, W = w.alloc (.cells #[.int .i64 p.1, .int .i64 p.2] 62) := ⟨_, rfl⟩
  have hz : Blk W w.heap.size 62 [.int .i64 p.1, .int .i64 p.2] := by rw [hW]; exact Blk.new w _ _ _ rfl
  have hb0 : Below w.heap.size w W := by rw [hW]; exact below_new w _
  have HW := Lib.hid hW
  clear hW
  go_enter Try.func184, Try.ntmps184
  go_wp2
  rw [← HW.out]
  go_loopw [5, 8] (fun _ i wr => ∃ k : Nat, k ≤ l.length ∧ i = .int .i64 k ∧ Hid (p ∉ l.take k) ∧ Below w.heap.size w wr ∧ Blk wr w.heap.size 62 [.int .i64 p.1, .int .i64 p.2]) (fun _ i _ => l.length - (intOf i).toNat)
  case atStart => exact ⟨0, Nat.zero_le _, rfl, Lib.hid (by simp), hb0, hz⟩
  case round =>
    obtain ⟨k, hk, rfl, HX, hbr, hzr⟩ := hrel
    clear hb0 hz
    by_cases hlt : k < l.length
    · obtain ⟨b, off, rfl, hbl, hra⟩ := OwnC.rowAt hv hlt
      have hr1 := range_below hra hbr hbl
      obtain ⟨q, hq⟩ : ∃ q, l[k] = q := ⟨_, rfl⟩
      rw [hq] at hr1
      have hr1' : wr.rangeAt b (off + k * 2) [.int .i64 q.1, .int .i64 q.2] := hr1
      have hzz : wr.rangeAt w.heap.size 0 [.int .i64 p.1, .int .i64 p.2] := hzr.range
      have HQ := Lib.hid hq
      have heq := seg_eq p q
      have hut := Try.underlying62
      have hsz : (Try.prog.info? 62).map (·.size) = some ([.int .i64 p.1, .int .i64 p.2] : List Value).length := infoSegment
      have hsz2 : (Try.prog.info? 62).map (·.size) = some ([.int .i64 q.1, .int .i64 q.2] : List Value).length := infoSegment
      have hsr := hbr.size
      clear hra hr1 hq hv
      go_wp2_with fail
      refine wp_region_held_drew (S := (fun w' => w'.rangeAt w.heap.size 0 [.int .i64 p.1, .int .i64 p.2] ∧ w'.rangeAt b (off + k * 2) [.int .i64 q.1, .int .i64 q.2] ∧ w' = wr.drew)) (by kernel_rfl) (⟨hzz, hr1', rfl⟩) (fun hHeld => ?_)
      refine wpAnyH_take (i := 0) rfl (by kernel_rfl) (by kernel_rfl) (by kernel_rfl) (fun _ _ _ h => h) (yieldsIf_load_mid (by rfl) _ _ rfl _ _ rfl _ _ (fun w hw => hw.1) hut rfl hsz) (by assumption) ?_
      try simp only [List.getElem_toArray, List.getElem_cons_zero, Act.put, List.setIfInBounds_toArray, List.set_cons_zero, List.set_cons_succ]
      refine wpAnyH_take (i := 1) (v := ?_) rfl (by kernel_rfl) (by kernel_rfl) (by kernel_rfl) (fun _ _ _ h => h) (Or.inl ⟨by rfl, ?_⟩) (by assumption) ?_
      rotate_left
      · intro w _; go_simp; with_reducible rfl
      try simp only [List.getElem_toArray, List.getElem_cons_zero, List.getElem_cons_succ, Act.put, List.setIfInBounds_toArray, List.set_cons_zero, List.set_cons_succ]
      refine wpAnyH_take (i := 2) (v := ?_) rfl (by kernel_rfl) (by kernel_rfl) (by kernel_rfl) (fun _ _ _ h => h) (Or.inl ⟨by rfl, ?_⟩) (by assumption) ?_
      rotate_left
      · intro w _; go_simp; with_reducible rfl
      try simp only [List.getElem_toArray, List.getElem_cons_zero, List.getElem_cons_succ, Act.put, List.setIfInBounds_toArray, List.set_cons_zero, List.set_cons_succ]
      refine wpAnyH_take (i := 3) (v := ?_) rfl (by kernel_rfl) (by kernel_rfl) (by kernel_rfl) (fun _ _ _ h => h) (Or.inl ⟨by rfl, ?_⟩) (by assumption) ?_
      rotate_left
      · intro w _; go_simp; with_reducible rfl
      try simp only [List.getElem_toArray, List.getElem_cons_zero, List.getElem_cons_succ, Act.put, List.setIfInBounds_toArray, List.set_cons_zero, List.set_cons_succ]
      refine wpAnyH_take (i := 4) rfl (by kernel_rfl) (by kernel_rfl) (by kernel_rfl) (fun _ _ _ h => h) (yieldsIf_load_mid (by rfl) _ _ rfl _ _ rfl _ _ (fun w hw => hw.2.1) hut rfl hsz2) (by assumption) ?_
      try simp only [List.getElem_toArray, List.getElem_cons_zero, List.getElem_cons_succ, Act.put, List.setIfInBounds_toArray, List.set_cons_zero, List.set_cons_succ]
      refine wpAnyH_take (i := 5) (v := ?_) rfl (by kernel_rfl) (by kernel_rfl) (by kernel_rfl) (fun _ _ _ h => h) (Or.inl ⟨by rfl, ?_⟩) (by assumption) ?_
      rotate_left
      · intro w _; go_simp; with_reducible rfl
      try simp only [List.getElem_toArray, List.getElem_cons_zero, List.getElem_cons_succ, Act.put, List.setIfInBounds_toArray, List.set_cons_zero, List.set_cons_succ]
      refine wpAnyH_done (by kernel_rfl) ?_ _
      have hbD := hbr.drew
      have hzD := hzr.drew
      by_cases he : p = q
      · have HE := Lib.hid he
        have hd : decide (p = q) = true := decide_eq_true he
        rw [hd]
        clear he hd heq
        go_wp2
        go_ret
        exact ⟨_, rfl, by unfold IdxP; rw [if_pos (by rw [HE.out, ← HQ.out]; exact List.getElem_mem hlt)]; omega, hbD⟩
      · have HE := Lib.hid he
        have hd : decide (p = q) = false := decide_eq_false he
        rw [hd]
        have HX2 := Lib.hid (show p ∉ l.take (k + 1) by
          rw [List.take_succ_eq_append_getElem hlt, List.mem_append, List.mem_singleton, HQ.out]
          rintro (h | h)
          · exact HX.out h
          · exact HE.out h)
        clear he hd heq
        go_wp2
        go_roundw
        case rel => exact ⟨k + 1, by omega, by go_num, HX2, hbD, hzD⟩
        case measure => simp [intOf] <;> omega
    · obtain rfl : k = l.length := by omega
      clear hv
      go_wp2
      go_ret
      have h := HX.out
      rw [List.take_length] at h
      exact ⟨_, rfl, by unfold IdxP; rw [if_neg h], hbr⟩

theorem ContainsS_any (v : Value) (l : List (Int × Int)) (p : Int × Int) (w : World) (hv : OwnC c2 w v l) (hn : l.length ≤ 1048576) :
    Calls Try.prog 156 #[v, .agg #[.int .i64 p.1, .int .i64 p.2]] w fun e w' => e = .returned (.bool (decide (p ∈ l))) ∧ Below w.heap.size w w' := by
  obtain ⟨ad, cap, rfl, hc, _, _⟩ := hv.shape
  have hb0 := below_new w (.cells #[.int .i64 p.1, .int .i64 p.2] 62)
  have hva := hv.alloc (.cells #[.int .i64 p.1, .int .i64 p.2] 62)
  go_enter Try.func156, Try.ntmps156
  go_wp2_with fail
  refine (IndexS_any _ l p _ hva hn).mono ?_
  rintro e w1 ⟨i, rfl, hi, hb⟩
  have HI := Lib.hid hi
  have hB := hb0.trans (hb.mono (by simp))
  clear hi
  go_wp2
  go_ret
  refine ⟨?_, hB⟩
  have h := HI.out
  unfold IdxP at h
  by_cases hm : p ∈ l
  · rw [if_pos hm] at h
    rw [decide_eq_true hm]
    simp [h]
  · rw [if_neg hm] at h
    rw [decide_eq_false hm]
    simp [h]

end Go.Proofs.Ytmlikchhkblohaa

