import Derived.Test.YticpdlgnaphnkaaI4
import Derived.Test.YticpdlgnaphnkaaS8
import Derived.Test.YticpdlgnaphnkaaTw
import Derived.IntWalk
namespace Go.Proofs.Yticpdlgnaphnkaa
open Go Go.RowKit Go.Pan

theorem arePair_any (a b : Int) (w : World) (a1 : -1048576 ≤ a) (a2 : a ≤ 1048576) (b1 : -1048576 ≤ b) (b2 : b ≤ 1048576) :
    Calls Try.prog 109 #[.int .i64 a, .int .i64 b] w fun e w' => e = .returned (.bool (pairB a b)) ∧ w = w' := by
  by_cases h1 : a - b = 1
  · have hq : ((a - b : Int) == 1) = true := by simp [h1]
    have HP := Lib.hid (show pairB a b = true by simp [pairB, h1])
    clear h1
    go_enter Try.func109, Try.ntmps109
    go_wp2
    go_ret
    exact ⟨by rw [HP.out]; rfl, rfl⟩
  · have hq : ((a - b : Int) == 1) = false := by simp [h1]
    by_cases h2 : b - a = 1
    · have hq2 : ((b - a : Int) == 1) = true := by simp [h2]
      have HP := Lib.hid (show pairB a b = true by simp [pairB, h2])
      clear h1 h2
      go_enter Try.func109, Try.ntmps109
      go_wp2
      go_ret
      exact ⟨by rw [HP.out]; rfl, rfl⟩
    · have hq2 : ((b - a : Int) == 1) = false := by simp [h2]
      have HP := Lib.hid (show pairB a b = false by simp [pairB, h1, h2])
      clear h1 h2
      go_enter Try.func109, Try.ntmps109
      go_wp2
      go_ret
      exact ⟨by rw [HP.out]; rfl, rfl⟩

theorem areNoPair_any (a b : Int) (w : World) (a1 : -1048576 ≤ a) (a2 : a ≤ 1048576) (b1 : -1048576 ≤ b) (b2 : b ≤ 1048576) :
    Calls Try.prog 65 #[.int .i64 a, .int .i64 b] w fun e w' => e = .returned (.bool (noPairB a b)) ∧ w = w' := by
  go_enter Try.func65, Try.ntmps65
  go_wp2_with fail
  refine (arePair_any _ _ _ a1 a2 b1 b2).mono ?_
  rintro e w1 ⟨rfl, rfl⟩
  go_wp2
  go_ret
  exact ⟨rfl, rfl⟩

theorem twl_get (xs : List Int) (k : Nat) (h : k < xs.length) : (twl xs)[k]? = some (iv xs[k]) := by
  unfold twl
  rw [List.getElem?_map, List.getElem?_append_left h, List.getElem?_eq_getElem h]
  rfl

set_option maxHeartbeats 800000 in
theorem gaps_any (xs : List Int) (w : World) (hg : Hid (Go.Pan.Good xs)) :
    Calls Try.prog 127 #[tw xs, .int .i64 xs.length] w fun e w' => ∃ r, e = .returned r ∧ OwnI w' r (gapsL xs) ∧ From w.heap.size r ∧ Below w.heap.size w w' := by
  obtain ⟨i0, hi, hz0, hz1, hz2⟩ := info_parts Try.info3
  have hl9 := hg.out.le9
  have hl1 := hg.out.1
  have hbx : Blk (w.alloc (.cells (twl xs).toArray 54)) w.heap.size 54 (twl xs) := Blk.new w _ (twl xs) _ rfl
  have hb0 := below_new w (.cells (twl xs).toArray 54)
  have HT := Lib.hid (twl_length xs hl9)
  go_enter Try.func127, Try.ntmps127
  go_wp2_with (at_make; refine wpList_make_own _ rfl _ _ 25 rfl (w.heap.size + 1) 3 i0 (.int .i64 0) 1 Try.underlying25 hi hz0 hz1 _ _ _ xs.length rfl rfl rfl ?b1 ?b2 ?b3 ?_)
  case b1 => rw [hz2]; omega
  case b2 => unfold maxLen; omega
  case b3 => simp
  intro w1 hown hgrow
  have ho0 := (Own.of_row hown).1
  have hf0 := (Own.of_row hown).2
  have hbx1 := hbx.grown hgrow (by simp)
  have hb1 := hb0.grown hgrow hb0.size (fun k hk => by simp at hk)
  clear hi hz0 hz1 hz2 hgrow hown hbx hb0
  go_wp2
  go_loopw [5, 6, 7] (fun o i _ wr => ∃ k : Nat, k ≤ xs.length ∧ i = .int .i64 ((k : Int) + 1) ∧ OwnI wr o (gapsTo xs k) ∧ From (w.heap.size + 1) o ∧ Blk wr w.heap.size 54 (twl xs) ∧ Below w.heap.size w wr) (fun _ i _ _ => xs.length + 1 - (intOf i).toNat)
  case atStart => exact ⟨0, Nat.zero_le _, by go_num, by simpa [gapsTo, OwnI] using ho0, hf0, hbx1, hb1⟩
  case round =>
    obtain ⟨k, hk, rfl, ho, hf, hbl, hbr⟩ := hrel
    by_cases hlt : k < xs.length
    · have hle : (k : Int) + 1 ≤ xs.length := by omega
      have hlen : (gapsTo xs k).length ≤ 1048576 := by have := gapsTo_length xs k; omega
      have hck := hbl.cell k
      rw [twl_get xs k hlt] at hck
      have hbd := hg.out.2.2.1 _ (List.getElem_mem hlt)
      have d1 := hbd.1
      have d2 := hbd.2
      have hk9 : (k : Int) < 9 := by omega
      have hGeq := gapB_eq hg.out (show 1 ≤ k + 1 by omega) (show k + 1 ≤ xs.length by omega)
      rw [Nat.add_sub_cancel, getD_eq hlt] at hGeq
      have hsz := hbr.size
      have hlw := hbl.lt
      by_cases hlt2 : k + 1 < xs.length
      · have hck2 := hbl.cell (k + 1)
        rw [twl_get xs (k + 1) hlt2] at hck2
        have hbd2 := hg.out.2.2.1 _ (List.getElem_mem hlt2)
        have d3 := hbd2.1
        have d4 := hbd2.2
        have hbe : below xs (k + 1) = xs[k + 1] := by unfold below; rw [if_pos hlt2, getD_eq hlt2]
        rw [hbe] at hGeq
        have hk10 : (k : Int) + 1 < 9 := by omega
        have hlti : (k : Int) + 1 < xs.length := by omega
        clear hbd hbd2 hbe ho0 hf0 hbx1 hb1
        cases hb : gapB xs (k + 1) with
        | true =>
          rw [hb] at hGeq
          have hGs := hGeq.symm
          have HS := Lib.hid (gapsTo_yes hb)
          clear hb hGeq
          go_wp2_with (first | (go_at_call 65; refine (areNoPair_any _ _ _ (by omega) (by omega) (by omega) (by omega)).mono ?_; rintro e w2 ⟨rfl, rfl⟩) | (at_builtin; refine wpList_app1 Try.intSl rfl _ _ rfl _ (gapsTo xs k) rfl (ho.alloc _) (w.heap.size + 1) hf wr.heap.size ((k : Int) + 1) rfl ?c1 _ (Below.refl _ _) ?d1 hlen ?_))
          case c1 => simp [go_sem]
          case d1 => simp; omega
          intro v' w2 ho' hf' hb' _
          have hbl' := (hbl.alloc (.cells #[.int .i64 ((k : Int) + 1)] 3)).below hb' (by omega)
          have hbr' := (hbr.alloc hsz (.cells #[.int .i64 ((k : Int) + 1)] 3)).trans (hb'.mono (by omega))
          rw [← HS.out] at ho'
          clear HS ho hf hbr hbl hck
          go_wp2
          go_roundw
          case rel => exact ⟨k + 1, by omega, by go_num, ho', hf', hbl', hbr'⟩
          case measure => simp [intOf] <;> omega
        | false =>
          rw [hb] at hGeq
          have hGs := hGeq.symm
          have HS := Lib.hid (gapsTo_no hb)
          clear hb hGeq
          go_wp2_with (first | (go_at_call 65; refine (areNoPair_any _ _ _ (by omega) (by omega) (by omega) (by omega)).mono ?_; rintro e w2 ⟨rfl, rfl⟩))
          go_roundw
          case rel => exact ⟨k + 1, by omega, by go_num, by rw [HS.out]; exact ho, hf, hbl, hbr⟩
          case measure => simp [intOf] <;> omega
      · have hbe : below xs (k + 1) = (xs.length : Int) + 1 := by unfold below; rw [if_neg hlt2]
        rw [hbe] at hGeq
        have hlti : (xs.length : Int) ≤ k + 1 := by omega
        clear hbd hbe ho0 hf0 hbx1 hb1
        cases hb : gapB xs (k + 1) with
        | true =>
          rw [hb] at hGeq
          have hGs := hGeq.symm
          have HS := Lib.hid (gapsTo_yes hb)
          clear hb hGeq
          go_wp2_with (first | (go_at_call 65; refine (areNoPair_any _ _ _ (by omega) (by omega) (by omega) (by omega)).mono ?_; rintro e w2 ⟨rfl, rfl⟩) | (at_builtin; refine wpList_app1 Try.intSl rfl _ _ rfl _ (gapsTo xs k) rfl (ho.alloc _) (w.heap.size + 1) hf wr.heap.size ((k : Int) + 1) rfl ?c2 _ (Below.refl _ _) ?d2 hlen ?_))
          case c2 => simp [go_sem]
          case d2 => simp; omega
          intro v' w2 ho' hf' hb' _
          have hbl' := (hbl.alloc (.cells #[.int .i64 ((k : Int) + 1)] 3)).below hb' (by omega)
          have hbr' := (hbr.alloc hsz (.cells #[.int .i64 ((k : Int) + 1)] 3)).trans (hb'.mono (by omega))
          rw [← HS.out] at ho'
          clear HS ho hf hbr hbl hck
          go_wp2
          go_roundw
          case rel => exact ⟨k + 1, by omega, by go_num, ho', hf', hbl', hbr'⟩
          case measure => simp [intOf] <;> omega
        | false =>
          rw [hb] at hGeq
          have hGs := hGeq.symm
          have HS := Lib.hid (gapsTo_no hb)
          clear hb hGeq
          go_wp2_with (first | (go_at_call 65; refine (areNoPair_any _ _ _ (by omega) (by omega) (by omega) (by omega)).mono ?_; rintro e w2 ⟨rfl, rfl⟩))
          go_roundw
          case rel => exact ⟨k + 1, by omega, by go_num, by rw [HS.out]; exact ho, hf, hbl, hbr⟩
          case measure => simp [intOf] <;> omega
    · obtain rfl : k = xs.length := by omega
      have hle : (xs.length : Int) < xs.length + 1 := by omega
      clear ho0 hf0 hbx1 hb1
      go_wp2_with fail
      refine (Clip_any _ _ _ ho).mono ?_
      rintro e w2 ⟨r, rfl, hor, hob, rfl⟩
      have hfr : From w.heap.size r := fun g hg => Nat.le_of_succ_le (hf g (by rw [← hob]; exact hg))
      clear hob
      go_wp2
      go_ret
      exact ⟨_, rfl, hor, hfr, hbr⟩

theorem countGaps_any (xs : List Int) (w : World) (hg : Hid (Go.Pan.Good xs)) :
    Calls Try.prog 96 #[tw xs, .int .i64 xs.length] w fun e w' => e = .returned (.int .i64 (gapsL xs).length) ∧ Below w.heap.size w w' := by
  have hl9 := hg.out.le9
  have hbx : Blk (w.alloc (.cells (twl xs).toArray 54)) w.heap.size 54 (twl xs) := Blk.new w _ (twl xs) _ rfl
  have hb0 := below_new w (.cells (twl xs).toArray 54)
  have HT := Lib.hid (twl_length xs hl9)
  go_enter Try.func96, Try.ntmps96
  go_wp2_with (first | (refine wpList_load_tower rfl _ rfl w.heap.size xs hl9 rfl hbx ?_))
  refine (gaps_any _ _ hg).mono ?_
  rintro e w1 ⟨r, rfl, ho, hf, hb⟩
  obtain ⟨ad, cap, rfl, _⟩ := ho.shape
  go_wp2
  go_ret
  exact ⟨rfl, hb0.trans (hb.mono hb0.size)⟩

def takenL (xs : List Int) (k : Nat) : Int := ((gapsL xs).length : Int) - (gapsL (turnL xs k)).length

end Go.Proofs.Yticpdlgnaphnkaa
