import Derived.Test.YtlomdnldokbjoaaI2
namespace Go.Proofs.Ytlomdnldokbjoaa
open Go Go.RowKit Go.Pan

set_option maxHeartbeats 400000 in
theorem planOf_any (v : Value) (p : List Int) (w : World) (hv : OwnI w v p) (hm : p.length ≤ 1048576) :
    Calls Try.prog 123 #[v] w fun e w' => ∃ r, e = .returned r ∧ OwnI w' r (noOne p) ∧ From w.heap.size r ∧ Below w.heap.size w w' := by
  obtain ⟨ad, cap, rfl, hc, _, _⟩ := hv.shape
  obtain ⟨i0, hi, hz0, hz1, hz2⟩ := info_parts Try.info3
  go_enter Try.func123, Try.ntmps123
  go_wp2_with (at_make; refine wpList_make_own _ rfl _ _ 24 rfl w.heap.size 3 i0 (.int .i64 0) 1 Try.underlying24 hi hz0 hz1 _ _ _ p.length rfl rfl rfl ?b1 ?b2 ?b3 ?_)
  case b1 => rw [hz2]; omega
  case b2 => unfold maxLen; omega
  case b3 => exact Nat.le_refl _
  intro w1 hown hgrow
  have hb : Below w.heap.size w w1 := (Below.refl _ _).grown hgrow (Nat.le_refl _) (by intro k hk; cases hk)
  have ho0 := (Own.of_row hown).1
  have hf0 := (Own.of_row hown).2
  clear hi hz0 hz1 hz2 hgrow hown
  go_wp2
  go_loopw [3, 5, 11] (fun o _ i wr => ∃ k : Nat, k ≤ p.length ∧ i = .int .i64 k ∧ OwnI wr o (noOne (p.take k)) ∧ From w.heap.size o ∧ Below w.heap.size w wr) (fun _ _ i _ => p.length - (intOf i).toNat)
  case atStart => exact ⟨0, Nat.zero_le _, rfl, by simpa [noOne, OwnI] using ho0, hf0, hb⟩
  case round =>
    obtain ⟨k, hk, rfl, ho, hf, hbr⟩ := hrel
    by_cases hlt : k < p.length
    · obtain ⟨g, off, rfl, hgl, hcell, hfz⟩ := hv.at (by omega)
      have hck := hcell k (by omega)
      rw [List.getElem?_map, List.getElem?_eq_getElem hlt] at hck
      have hc1 := (hbr.cell (p := ⟨g, off + k, none⟩) hgl).trans hck
      have HS := Lib.hid (noOne_snoc (p.take k) p[k])
      have HT := Lib.hid (List.take_succ_eq_append_getElem hlt)
      have hlen : (noOne (p.take k)).length ≤ 1048576 := by have := noOne_length (p.take k); rw [List.length_take] at this; omega
      clear hcell hfz hck hv ho0 hf0 hb
      by_cases he : p[k] = 1
      · have hq : ((p[k] : Int) != 1) = false := by simp [he]
        have HE := Lib.hid he
        clear he
        go_wp2
        go_roundw
        case rel => exact ⟨k + 1, by omega, by go_num, by rw [HT.out, HS.out, if_pos HE.out]; exact ho, hf, hbr⟩
        case measure => simp [intOf] <;> omega
      · have hq : ((p[k] : Int) != 1) = true := by simp [he]
        have HE := Lib.hid he
        clear he
        go_wp2_with (at_builtin; refine wpList_app1 Try.intSl rfl _ _ rfl _ (noOne (p.take k)) rfl (ho.alloc _) w.heap.size hf wr.heap.size p[k] rfl ?c1 w (hbr.alloc hbr.size _) ?c2 hlen ?_)
        case c1 => simp [go_sem]
        case c2 => simp; exact Nat.le_succ_of_le hbr.size
        intro v' w1 ho' hf' hb' _
        have ho2 : OwnI w1 v' (noOne (p.take (k + 1))) := by rw [HT.out, HS.out, if_neg HE.out]; exact ho'
        clear HS ho hf hbr hc1 ho' HT
        go_wp2
        go_roundw
        case rel => exact ⟨k + 1, by omega, by go_num, ho2, hf', hb'⟩
        case measure => simp [intOf] <;> omega
    · obtain rfl : k = p.length := by omega
      rw [List.take_length] at ho
      clear hv ho0 hf0 hb
      go_wp2_with fail
      refine (Clip_any _ _ _ ho).mono ?_
      rintro e w2 ⟨r, rfl, hor, hob, rfl⟩
      have hfr : From w.heap.size r := fun g hg => hf g (by rw [← hob]; exact hg)
      clear hob
      go_wp2
      go_ret
      exact ⟨_, rfl, hor, hfr, hbr⟩

set_option maxHeartbeats 400000 in
theorem Index_any (v : Value) (xs : List Int) (x : Int) (w : World) (hv : OwnI w v xs) (hn : xs.length ≤ 1048576) :
    Calls Try.prog 144 #[v, .int .i64 x] w fun e w' => e = .returned (.int .i64 (placeL xs x - 1)) ∧ Below w.heap.size w w' := by
  obtain ⟨ad, cap, rfl, hc, _, _⟩ := hv.shape
  go_enter Try.func144, Try.ntmps144
  go_wp2
  go_loopw [5, 8] (fun _ i wr => ∃ k : Nat, k ≤ xs.length ∧ i = .int .i64 k ∧ x ∉ xs.take k ∧ Below w.heap.size w wr) (fun _ i _ => xs.length - (intOf i).toNat)
  case atStart => exact ⟨0, Nat.zero_le _, rfl, by simp, Below.refl _ _⟩
  case round =>
    obtain ⟨k, hk, rfl, hx, hbr⟩ := hrel
    have HX := Lib.hid hx
    clear hx
    by_cases hlt : k < xs.length
    · obtain ⟨g, off, rfl, hgl, hcell, hf⟩ := hv.at (by omega)
      have hck := hcell k (by omega)
      rw [List.getElem?_map, List.getElem?_eq_getElem hlt] at hck
      have hc1 := (hbr.cell (p := ⟨g, off + k, none⟩) hgl).trans hck
      clear hcell hf hck hv
      by_cases he : xs[k] = x
      · have hq : (x == (xs[k] : Int)) = true := by simp [he]
        have HE := Lib.hid he
        clear he
        go_wp2
        go_ret
        exact ⟨by rw [placeL_at hlt HX.out HE.out, Int.add_sub_cancel]; rfl, hbr⟩
      · have hq : (x == (xs[k] : Int)) = false := by simp; exact fun e => he e.symm
        have HE := Lib.hid he
        clear he
        go_wp2
        go_roundw
        case rel => exact ⟨k + 1, by omega, by go_num, not_mem_take hlt HX.out HE.out, hbr⟩
        case measure => simp [intOf] <;> omega
    · obtain rfl : k = xs.length := by omega
      clear hv
      go_wp2
      go_ret
      have h := HX.out
      rw [List.take_length] at h
      exact ⟨by rw [show placeL xs x = 0 from by simp [placeL, h]]; rfl, hbr⟩

set_option maxHeartbeats 400000 in
theorem IsPlan_any (n : Int) (v : Value) (xs : List Int) (w : World) (hv : OwnI w v xs) (hn : xs.length ≤ 1048576) :
    Calls Try.prog 17 #[.int .i64 n, v] w fun e w' => e = .returned (.bool (planB n xs)) ∧ Below w.heap.size w w' := by
  obtain ⟨ad, cap, rfl, hc, _, _⟩ := hv.shape
  have HP := Lib.hid (planB_eq n xs)
  by_cases h1 : 1 ≤ n ∧ n ≤ 9
  · have hq : inB n 1 9 = true := inB_true h1
    by_cases h2 : (xs.length : Int) ≤ 40
    · go_enter Try.func17, Try.ntmps17
      go_wp2_with (go_at_call 118; refine (isCount_any _ _).mono ?_; rintro e w' ⟨rfl, rfl⟩)
      go_loopw [6, 17] (fun _ i wr => ∃ k : Nat, k ≤ xs.length ∧ i = .int .i64 k ∧ AllTo xs k 1 n ∧ Below w.heap.size w wr) (fun _ i _ => xs.length - (intOf i).toNat)
      case atStart => exact ⟨0, Nat.zero_le _, rfl, by simp [AllTo], Below.refl _ _⟩
      case round =>
        obtain ⟨k, hk, rfl, hx, hbr⟩ := hrel
        have HX := Lib.hid hx
        clear hx
        by_cases hlt : k < xs.length
        · obtain ⟨g, off, rfl, hgl, hcell, hf⟩ := hv.at (by omega)
          have hck := hcell k (by omega)
          rw [List.getElem?_map, List.getElem?_eq_getElem hlt] at hck
          have hc1 := (hbr.cell (p := ⟨g, off + k, none⟩) hgl).trans hck
          clear hcell hf hck hv
          by_cases he1 : 1 ≤ xs[k]
          · by_cases he2 : xs[k] ≤ n
            · go_wp2
              go_roundw
              case rel => exact ⟨k + 1, by omega, by go_num, mem_take_bd hlt HX.out ⟨he1, he2⟩, hbr⟩
              case measure => simp [intOf] <;> omega
            · have hlt2 : n < xs[k] := by omega
              go_wp2
              go_ret
              refine ⟨?_, hbr⟩
              rw [HP.out, show allB xs 1 n = false from decide_eq_false fun h => absurd (h _ (List.getElem_mem hlt)).2 (by omega), Bool.and_false]
              rfl
          · have hlt2 : xs[k] < 1 := by omega
            go_wp2
            go_ret
            refine ⟨?_, hbr⟩
            rw [HP.out, show allB xs 1 n = false from decide_eq_false fun h => absurd (h _ (List.getElem_mem hlt)).1 (by omega), Bool.and_false]
            rfl
        · obtain rfl : k = xs.length := by omega
          clear hv
          go_wp2
          go_ret
          refine ⟨?_, hbr⟩
          have h := HX.out
          unfold AllTo at h
          rw [List.take_length] at h
          rw [HP.out, show allB xs 1 n = true from allB_iff.2 h, hq, decide_eq_true h2]
          rfl
    · have h3 : (40 : Int) < xs.length := by omega
      go_enter Try.func17, Try.ntmps17
      go_wp2_with (first | (go_at_call 118; refine (isCount_any _ _).mono ?_; rintro e w' ⟨rfl, rfl⟩))
      go_ret
      exact ⟨by rw [HP.out, hq, decide_eq_false (by omega)]; rfl, Below.refl _ _⟩
  · have hq : inB n 1 9 = false := inB_false h1
    go_enter Try.func17, Try.ntmps17
    go_wp2_with (first | (go_at_call 118; refine (isCount_any _ _).mono ?_; rintro e w' ⟨rfl, rfl⟩))
    go_ret
    exact ⟨by rw [HP.out, hq]; rfl, Below.refl _ _⟩

theorem isPlanFor_any (v u : Value) (xs ys : List Int) (w : World) (hv : OwnI w v xs) (hn : xs.length ≤ 1048576) (hu : OwnI w u ys) (hm : ys.length ≤ 1048576) :
    Calls Try.prog 107 #[v, u] w fun e w' => e = .returned (.bool (okPlay xs ys)) ∧ Below w.heap.size w w' := by
  obtain ⟨ad, cap, rfl, hc, _, _⟩ := hv.shape
  cases hg : goodB xs with
  | true =>
    have HG := Lib.hid hg
    go_enter Try.func107, Try.ntmps107
    go_wp2_with (first | (go_at_call 16; refine (IsStack_any _ _ _ hv hn).mono ?_; rintro e w1 ⟨rfl, hb⟩) | (go_at_call 17; refine (IsPlan_any _ _ ys _ (hu.same hb) hm).mono ?_; rintro e w' ⟨rfl, hb2⟩))
    go_ret
    exact ⟨by unfold okPlay; rw [HG.out]; rfl, hb.trans (hb2.mono hb.size)⟩
  | false =>
    have HG := Lib.hid hg
    go_enter Try.func107, Try.ntmps107
    go_wp2_with (first | (go_at_call 16; refine (IsStack_any _ _ _ hv hn).mono ?_; rintro e w1 ⟨rfl, hb⟩))
    go_ret
    exact ⟨by unfold okPlay; rw [HG.out]; rfl, hb⟩

end Go.Proofs.Ytlomdnldokbjoaa

