import Derived.Test.YtfcbaegkppkfkaaProg
import Derived.Test.YtfcbaegkppkfkaaLib
namespace Go.Proofs.Ytfcbaegkppkfkaa
open Go Go.RowKit Go.Pan

theorem Try.info3 : (Try.prog.info? 3).map (fun i => (i.zero, i.size, i.bytes)) = some (some (.int .i64 0), 1, 8) := by kernel_rfl
theorem Try.info22 : (Try.prog.info? 22).map (fun i => (i.zero, i.size, i.bytes)) = some (some (.slice none 0 0), 1, 24) := by kernel_rfl

theorem copy_step (xs : List Int) (k : Nat) (hk : k < xs.length) :
    ((xs.take k ++ List.replicate (xs.length - k) 0).map iv).set k (iv xs[k]) = (xs.take (k+1) ++ List.replicate (xs.length - (k+1)) 0).map iv := by
  rw [← List.map_set]
  congr 1
  have e : List.replicate (xs.length - k) (0 : Int) = 0 :: List.replicate (xs.length - (k + 1)) 0 := by
    rw [← List.replicate_succ]; congr 1; omega
  have e2 : k - (xs.take k).length = 0 := by simp; omega
  rw [e, List.set_append_right _ _ (by simp; omega), e2, List.set_cons_zero, List.take_succ_eq_append_getElem hk, List.append_assoc]
  rfl

set_option maxHeartbeats 400000 in
theorem toIntS_any (v : Value) (xs : List Int) (w : World) (hv : Ints w v xs) (hn : xs.length ≤ 1048576) :
    Calls Try.prog 9 #[v] w fun e w' => ∃ v', e = .returned v' ∧ OwnI w' v' xs ∧ From w.heap.size v' ∧ Below w.heap.size w w' := by
  obtain ⟨ad, cap, rfl, hc, hm, hr⟩ := hv
  obtain ⟨i0, hi, hz0, hz1, hz2⟩ := info_parts Try.info3
  go_enter Try.func9, Try.ntmps9
  go_wp2_with (at_make; refine wpList_make_full _ rfl _ _ 22 rfl w.heap.size 3 i0 (.int .i64 0) 1 Try.underlying22 hi hz0 hz1 _ _ _ _ xs.length rfl rfl rfl rfl ?b1 ?b2 ?b3 ?_)
  case b1 => rw [hz2]; omega
  case b2 => unfold maxLen; omega
  case b3 => exact Nat.le_refl _
  intro w1 hown hgrow
  go_wp2
  have hb : Below w.heap.size w w1 := (Below.refl _ _).grown hgrow (Nat.le_refl _) (by intro k hk; cases hk)
  clear hi hz0 hz1 hz2 hgrow
  go_loopw [4] (fun i wr => ∃ k : Nat, k ≤ xs.length ∧ i = .int .i64 k ∧ wr.ownsRow w.heap.size 3 1 (.slice (some ⟨w.heap.size, 0, none⟩) xs.length xs.length) xs.length ((xs.take k ++ List.replicate (xs.length - k) 0).map iv) ∧ Below w.heap.size w wr) (fun i _ => xs.length - (intOf i).toNat)
  case atStart => exact ⟨0, Nat.zero_le _, rfl, by simpa [toList_madeCells_one] using hown, hb⟩
  case round =>
    obtain ⟨k, hk, rfl, ho, hbr⟩ := hrel
    by_cases hlt : k < xs.length
    · obtain ⟨b, off, rfl, hbl, hcell⟩ := hr (by intro h; simp [h] at hlt)
      have hck := hcell k hlt
      have hc1 := (hbr.cell (p := ⟨b, off + k, none⟩) hbl).trans hck
      have hf := ho.frozenAt k
      have hd := ho.cellAt k (by omega)
      have hst := ho.stored k (iv xs[k])
      rw [copy_step xs k hlt] at hst
      clear hr hcell hck hown hb ho
      go_wp2
      go_roundw
      case rel => exact ⟨k + 1, by omega, by go_num, hst.1, hbr.setCell (Nat.le_refl _) _⟩
      case measure => simp [intOf]; omega
    · obtain rfl : k = xs.length := by omega
      clear hr hown hb
      go_wp2
      go_ret
      simp at ho
      exact ⟨_, rfl, (Own.of_row ho).1, (Own.of_row ho).2, hbr⟩

theorem eq_take_succ (xs ys : List Int) (k : Nat) (h : xs.length = ys.length) (hk : k < xs.length) (e : xs.take k = ys.take k) (hx : xs[k] = ys[k]'(by omega)) : xs.take (k + 1) = ys.take (k + 1) := by
  rw [List.take_succ_eq_append_getElem hk, List.take_succ_eq_append_getElem (by omega : k < ys.length), e, hx]

set_option maxHeartbeats 400000 in
theorem eqIntS_any (v u : Value) (xs ys : List Int) (w : World) (hv : Ints w v xs) (hu : Ints w u ys) (hn : xs.length ≤ 1048576) (_hm : ys.length ≤ 1048576) :
    Calls Try.prog 12 #[v, u] w fun e w' => e = .returned (.bool (decide (xs = ys))) ∧ Below w.heap.size w w' := by
  obtain ⟨ad, cap, rfl, hc, _, hr⟩ := hv
  obtain ⟨bd, cbp, rfl, hc', _, hs⟩ := hu
  by_cases hl : xs.length = ys.length
  · rw [← hl]
    have HL := Lib.hid hl
    clear hl
    go_enter Try.func12, Try.ntmps12
    go_wp2
    go_loopw [5] (fun i wr => ∃ k : Nat, k ≤ xs.length ∧ i = .int .i64 k ∧ xs.take k = ys.take k ∧ Below w.heap.size w wr) (fun i _ => xs.length - (intOf i).toNat)
    case atStart => exact ⟨0, Nat.zero_le _, rfl, by simp, Below.refl _ _⟩
    case round =>
      obtain ⟨k, hk, rfl, he, hbr⟩ := hrel
      have HE := Lib.hid he
      clear he
      by_cases hlt : k < xs.length
      · have hlt2 : k < ys.length := by have := HL.out; omega
        obtain ⟨b, off, rfl, hbl, hcell⟩ := hr (by intro h; simp [h] at hlt)
        obtain ⟨b', off', rfl, hbl', hcell'⟩ := hs (by intro h; simp [h] at hlt2)
        have hc1 := (hbr.cell (p := ⟨b, off + k, none⟩) hbl).trans (hcell k hlt)
        have hc2 := (hbr.cell (p := ⟨b', off' + k, none⟩) hbl').trans (hcell' k hlt2)
        clear hr hcell hs hcell'
        by_cases hx : xs[k] = ys[k]
        · have hq : ((xs[k] : Int) != ys[k]) = false := by simp [hx]
          have HX := Lib.hid hx
          clear hx
          go_wp2
          go_quiet (fail)
          go_wp2
          go_roundw
          case rel => exact ⟨k + 1, by omega, by go_num, eq_take_succ xs ys k HL.out hlt HE.out HX.out, hbr.drewN _⟩
          case measure => simp [intOf]; omega
        · have hq : ((xs[k] : Int) != ys[k]) = true := by simp [hx]
          have HX := Lib.hid hx
          clear hx
          go_wp2
          go_quiet (fail)
          go_wp2
          go_ret
          exact ⟨by rw [show decide (xs = ys) = false from decide_eq_false fun e => HX.out (by simp [e])]; rfl, hbr.drewN _⟩
      · obtain rfl : k = xs.length := by omega
        clear hr hs
        go_wp2
        go_ret
        have h := HE.out
        rw [List.take_length, HL.out, List.take_length] at h
        exact ⟨by rw [show decide (xs = ys) = true from decide_eq_true h]; rfl, hbr⟩
  · have hq : (((xs.length : Nat) : Int) != (ys.length : Int)) = true := by simp; omega
    have HL := Lib.hid hl
    clear hl
    go_enter Try.func12, Try.ntmps12
    go_wp2
    go_ret
    exact ⟨by rw [show decide (xs = ys) = false from decide_eq_false fun e => HL.out (by rw [e])]; rfl, Below.refl _ _⟩

theorem mark_step (cs : List Value) (k0 : Int) (k : Nat) (hk : k < cs.length) :
    ((ramp k0 k).map iv ++ cs.drop k).set k (iv (k0 + k)) = (ramp k0 (k + 1)).map iv ++ cs.drop (k + 1) := by
  rw [List.set_append_right _ _ (by simp [ramp]), List.drop_eq_getElem_cons hk, show k - ((ramp k0 k).map iv).length = 0 from by simp [ramp], List.set_cons_zero]
  simp [ramp, List.range_succ]

theorem grown_set {w wr : World} {g off n cap : Nat} (h : w.grownBy wr (Value.slice (some ⟨g, off, none⟩) n cap).ownBlock) (j : Nat) (u : Value) :
    w.grownBy (wr.setCell ⟨g, j, none⟩ u) (Value.slice (some ⟨g, off, none⟩) n cap).ownBlock :=
  ⟨h.os, h.tape, h.output, by have := h.size; simpa [World.setCell] using this, fun k hk hne => (heap_setCell_other wr ⟨g, j, none⟩ k u (fun e => hne (by simp [Value.ownBlock, e]))).trans (h.block k hk hne)⟩

set_option maxHeartbeats 400000 in
theorem markIntS_any (v : Value) (n : Nat) (cs : List Value) (k0 : Int) (w : World) (hv : Own w 1 v n cs) (hn : n ≤ 1048576) (h0 : 0 ≤ k0) (h1 : k0 ≤ 1099511627776) :
    Calls Try.prog 13 #[v, .int .i64 k0] w fun e w' => e = .returned (.int .i64 (k0 + n)) ∧ OwnI w' v (ramp k0 n) ∧ w.grownBy w' v.ownBlock := by
  obtain ⟨ad, cap, rfl, hc, _, _⟩ := hv.shape
  have hl := hv.len
  simp at hl
  have HL := Lib.hid hl
  clear hl
  go_enter Try.func13, Try.ntmps13
  go_wp2
  go_loopw [1, 5] (fun q i wr => ∃ k : Nat, k ≤ n ∧ i = .int .i64 k ∧ q = .int .i64 (k0 + k) ∧ Own wr 1 (.slice ad n cap) n ((ramp k0 k).map iv ++ cs.drop k) ∧ w.grownBy wr (Value.slice ad n cap).ownBlock) (fun _ i _ => n - (intOf i).toNat)
  case atStart => exact ⟨0, Nat.zero_le _, rfl, by simp, by simpa [ramp] using hv, World.grownBy.refl _ _⟩
  case round =>
    obtain ⟨k, hk, rfl, rfl, ho, hg⟩ := hrel
    by_cases hlt : k < n
    · obtain ⟨g, off, rfl, hgl, hcell, hf⟩ := ho.at (by omega)
      have hck := hcell k (by omega)
      have hfk := hf (off + k)
      have hkc : k < ((ramp k0 k).map iv ++ cs.drop k).length := by rw [ho.len]; omega
      rw [List.getElem?_eq_getElem hkc] at hck
      have hst := ho.stored k (by omega) (iv (k0 + k))
      rw [mark_step cs k0 k (by rw [HL.out]; exact hlt)] at hst
      have hg2 := grown_set hg (off + k) (iv (k0 + k))
      clear hcell hf ho hv hg
      go_wp2
      go_roundw
      case rel => exact ⟨k + 1, by omega, by go_num, by go_num, hst, hg2⟩
      case measure => simp [intOf]; omega
    · obtain rfl : k = n := by omega
      have he : cs.drop k = [] := by rw [List.drop_eq_nil_iff, HL.out]; exact Nat.le_refl _
      rw [he, List.append_nil] at ho
      have HE := Lib.hid he
      clear he hv
      go_wp2
      go_ret
      refine ⟨rfl, ?_, hg⟩
      show Own _ _ _ (ramp k0 k).length _
      rw [ramp_length]
      exact ho

set_option maxHeartbeats 400000 in
theorem heldIntS_any (v : Value) (n : Nat) (k0 : Int) (w : World) (hv : OwnI w v (ramp k0 n)) (hn : n ≤ 1048576) (h0 : 0 ≤ k0) (h1 : k0 ≤ 1099511627776) :
    Calls Try.prog 22 #[v, .int .i64 k0] w fun e w' => e = .returned (.int .i64 (k0 + n)) ∧ Below w.heap.size w w' := by
  have hv2 : Own w 1 v n ((ramp k0 n).map iv) := by have := hv; unfold OwnI at this; rwa [ramp_length] at this
  obtain ⟨ad, cap, rfl, hc, _, _⟩ := hv2.shape
  clear hv
  go_enter Try.func22, Try.ntmps22
  go_wp2
  go_loopw [1, 5] (fun q i wr => ∃ k : Nat, k ≤ n ∧ i = .int .i64 k ∧ q = .int .i64 (k0 + k) ∧ Below w.heap.size w wr) (fun _ i _ => n - (intOf i).toNat)
  case atStart => exact ⟨0, Nat.zero_le _, rfl, by simp, Below.refl _ _⟩
  case round =>
    obtain ⟨k, hk, rfl, rfl, hbr⟩ := hrel
    by_cases hlt : k < n
    · obtain ⟨g, off, rfl, hgl, hcell, hf⟩ := hv2.at (by omega)
      have hck := hcell k (by omega)
      have hkc : k < ((ramp k0 n).map iv).length := by simpa [ramp] using hlt
      rw [List.getElem?_eq_getElem hkc, List.getElem_map, ramp_get k0 n k hlt] at hck
      have hc1 := (hbr.cell (p := ⟨g, off + k, none⟩) hgl).trans hck
      clear hcell hf hck hv2
      have hq : (((k0 + (k : Int)) : Int) != (k0 + (k : Int))) = false := by simp
      go_wp2
      go_roundw
      case rel => exact ⟨k + 1, by omega, by go_num, by go_num, hbr⟩
      case measure => simp [intOf]; omega
    · obtain rfl : k = n := by omega
      clear hv2
      go_wp2
      go_ret
      exact ⟨rfl, hbr⟩

end Go.Proofs.Ytfcbaegkppkfkaa

