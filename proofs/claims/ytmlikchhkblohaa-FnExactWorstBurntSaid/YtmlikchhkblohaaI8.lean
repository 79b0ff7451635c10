import Derived.Test.YtmlikchhkblohaaI4
import Derived.Test.YtmlikchhkblohaaS8
import Derived.Test.YtmlikchhkblohaaTw
import Derived.Test.YtmlikchhkblohaaM10
import Derived.IntWalk
namespace Go.Proofs.Ytmlikchhkblohaa
open Go Go.RowKit Go.Pan

theorem arePair_any (a b : Int) (w : World) (a1 : -1048576 ≤ a) (a2 : a ≤ 1048576) (b1 : -1048576 ≤ b) (b2 : b ≤ 1048576) :
    Calls Try.prog 187 #[.int .i64 a, .int .i64 b] w fun e w' => e = .returned (.bool (pairB a b)) ∧ w = w' := by
  by_cases h1 : a - b = 1
  · have hq : ((a - b : Int) == 1) = true := by simp [h1]
    have HP := Lib.hid (show pairB a b = true by simp [pairB, h1])
    clear h1
    go_enter Try.func187, Try.ntmps187
    go_wp2
    go_ret
    exact ⟨by rw [HP.out]; rfl, rfl⟩
  · have hq : ((a - b : Int) == 1) = false := by simp [h1]
    by_cases h2 : b - a = 1
    · have hq2 : ((b - a : Int) == 1) = true := by simp [h2]
      have HP := Lib.hid (show pairB a b = true by simp [pairB, h2])
      clear h1 h2
      go_enter Try.func187, Try.ntmps187
      go_wp2
      go_ret
      exact ⟨by rw [HP.out]; rfl, rfl⟩
    · have hq2 : ((b - a : Int) == 1) = false := by simp [h2]
      have HP := Lib.hid (show pairB a b = false by simp [pairB, h1, h2])
      clear h1 h2
      go_enter Try.func187, Try.ntmps187
      go_wp2
      go_ret
      exact ⟨by rw [HP.out]; rfl, rfl⟩

theorem areNoPair_any (a b : Int) (w : World) (a1 : -1048576 ≤ a) (a2 : a ≤ 1048576) (b1 : -1048576 ≤ b) (b2 : b ≤ 1048576) :
    Calls Try.prog 161 #[.int .i64 a, .int .i64 b] w fun e w' => e = .returned (.bool (noPairB a b)) ∧ w = w' := by
  go_enter Try.func161, Try.ntmps161
  go_wp2_with fail
  refine (arePair_any _ _ _ a1 a2 b1 b2).mono ?_
  rintro e w1 ⟨rfl, rfl⟩
  go_wp2
  go_ret
  exact ⟨rfl, rfl⟩

theorem twl_get (xs : List Int) (k : Nat) (h : k < xs.length) : (twl xs)[k]? = some (iv xs[k]) := by
  unfold twl
  rw [List.getElem?_map, List.getElem?_append_left h, List.getElem?_eq_getElem h]
  rfl

set_option maxRecDepth 100000 in
set_option maxHeartbeats 1600000 in
theorem gapsQ_any (F : FuncId) (q : Int → Int → Bool) (xs : List Int) (w : World) (hl1 : 1 ≤ xs.length) (hl9 : xs.length ≤ 9) (hX : Hid (∀ x ∈ xs, -9 ≤ x ∧ x ≤ 9))
    (hC : ∀ (args : Array Value) (u : World), (callFunc F args).run Try.prog u = .ok (.enter F args) u) (hF : Hid (∀ (a b : Int) (u : World), -1048576 ≤ a → a ≤ 1048576 → -1048576 ≤ b → b ≤ 1048576 → Calls Try.prog F #[.int .i64 a, .int .i64 b] u fun e w' => e = .returned (.bool (q a b)) ∧ u = w')) :
    Calls Try.prog 186 #[tw xs, .int .i64 xs.length, .func (Fn.func F) #[] #[]] w fun e w' => ∃ r, e = .returned r ∧ OwnI w' r (qgapsL q xs) ∧ From w.heap.size r ∧ Below w.heap.size w w' := by
  obtain ⟨i0, hi, hz0, hz1, hz2⟩ := info_parts Try.info3
  have hbx : Blk (w.alloc (.cells (twl xs).toArray 86)) w.heap.size 86 (twl xs) := Blk.new w _ (twl xs) _ rfl
  have hb0 := below_new w (.cells (twl xs).toArray 86)
  have HT := Lib.hid (twl_length xs hl9)
  go_enter Try.func186, Try.ntmps186
  go_wp2_with (at_make; refine wpList_make_own _ rfl _ _ 22 rfl (w.heap.size + 1) 3 i0 (.int .i64 0) 1 Try.underlying22 hi hz0 hz1 _ _ _ xs.length rfl rfl rfl ?b1 ?b2 ?b3 ?_)
  case b1 => rw [hz2]; omega
  case b2 => unfold maxLen; omega
  case b3 => simp
  intro w1 hown hgrow
  have ho0 := (Own.of_row hown).1
  have hf0 := (Own.of_row hown).2
  have hbx1 := hbx.grown hgrow (by simp)
  have hb1 := hb0.grown hgrow hb0.size (fun k hk => by simp at hk)
  clear hi hz0 hz1 hz2 hgrow hown hbx hb0
  go_wp2
  go_loopw [7, 8, 9] (fun o i _ wr => ∃ k : Nat, k ≤ xs.length ∧ i = .int .i64 ((k : Int) + 1) ∧ OwnI wr o (qgapsTo q xs k) ∧ From (w.heap.size + 1) o ∧ Blk wr w.heap.size 86 (twl xs) ∧ Below w.heap.size w wr) (fun _ i _ _ => xs.length + 1 - (intOf i).toNat)
  case atStart => exact ⟨0, Nat.zero_le _, by go_num, by simpa [qgapsTo, OwnI] using ho0, hf0, hbx1, hb1⟩
  case round =>
    obtain ⟨k, hk, rfl, ho, hf, hbl, hbr⟩ := hrel
    by_cases hlt : k < xs.length
    · have hle : (k : Int) + 1 ≤ xs.length := by omega
      have hlen : (qgapsTo q xs k).length ≤ 1048576 := by have := qgapsTo_length q xs k; omega
      have hck := hbl.cell k
      rw [twl_get xs k hlt] at hck
      have hbd := hX.out _ (List.getElem_mem hlt)
      have d1 := hbd.1
      have d2 := hbd.2
      have hk9 : (k : Int) < 9 := by omega
      have hGeq : qgapB q xs k = q xs[k] (below xs (k + 1)) := by unfold qgapB; rw [getD_eq hlt]
      have hsz := hbr.size
      have hlw := hbl.lt
      by_cases hlt2 : k + 1 < xs.length
      · have hck2 := hbl.cell (k + 1)
        rw [twl_get xs (k + 1) hlt2] at hck2
        have hbd2 := hX.out _ (List.getElem_mem hlt2)
        have d3 := hbd2.1
        have d4 := hbd2.2
        have hbe : below xs (k + 1) = xs[k + 1] := by unfold below; rw [if_pos hlt2, getD_eq hlt2]
        rw [hbe] at hGeq
        have hk10 : (k : Int) + 1 < 9 := by omega
        have hlti : (k : Int) + 1 < xs.length := by omega
        clear hbd hbd2 hbe ho0 hf0 hbx1 hb1
        cases hb : qgapB q xs k with
        | true =>
          rw [hb] at hGeq
          have hGs := Lib.hid hGeq.symm
          have HS := Lib.hid (qgapsTo_yes hb)
          clear hb hGeq
          go_wp2_with fail
          refine (hF.out xs[k] xs[k + 1] _ (by omega) (by omega) (by omega) (by omega)).mono ?_
          rintro e w2 ⟨rfl, rfl⟩
          rw [hGs.out]
          go_wp2_with (at_builtin; refine wpList_app1 Try.intSl rfl _ _ rfl _ (qgapsTo q xs k) rfl (ho.alloc _) (w.heap.size + 1) hf wr.heap.size ((k : Int) + 1) rfl ?c1 _ (Below.refl _ _) ?d1 hlen ?_)
          case c1 => simp [go_sem]
          case d1 => simp; omega
          intro v' w2 ho' hf' hb' _
          have hbl' := (hbl.alloc (.cells #[.int .i64 ((k : Int) + 1)] 3)).below hb' (by omega)
          have hbr' := (hbr.alloc hsz (.cells #[.int .i64 ((k : Int) + 1)] 3)).trans (hb'.mono (by omega))
          rw [← HS.out] at ho'
          clear HS ho hf hbr hbl hck
          go_wp2
          go_roundw
          case rel => exact ⟨k + 1, by omega, by go_num, ho', hf', hbl', hbr'⟩
          case measure => simp [intOf] <;> omega
        | false =>
          rw [hb] at hGeq
          have hGs := Lib.hid hGeq.symm
          have HS := Lib.hid (qgapsTo_no hb)
          clear hb hGeq
          go_wp2_with fail
          refine (hF.out xs[k] xs[k + 1] _ (by omega) (by omega) (by omega) (by omega)).mono ?_
          rintro e w2 ⟨rfl, rfl⟩
          rw [hGs.out]
          go_wp2
          go_roundw
          case rel => exact ⟨k + 1, by omega, by go_num, by rw [HS.out]; exact ho, hf, hbl, hbr⟩
          case measure => simp [intOf] <;> omega
      · have hbe : below xs (k + 1) = (xs.length : Int) + 1 := by unfold below; rw [if_neg hlt2]
        rw [hbe] at hGeq
        have hlti : (xs.length : Int) ≤ k + 1 := by omega
        clear hbd hbe ho0 hf0 hbx1 hb1
        cases hb : qgapB q xs k with
        | true =>
          rw [hb] at hGeq
          have hGs := Lib.hid hGeq.symm
          have HS := Lib.hid (qgapsTo_yes hb)
          clear hb hGeq
          go_wp2_with fail
          refine (hF.out xs[k] ((xs.length : Int) + 1) _ (by omega) (by omega) (by omega) (by omega)).mono ?_
          rintro e w2 ⟨rfl, rfl⟩
          rw [hGs.out]
          go_wp2_with (at_builtin; refine wpList_app1 Try.intSl rfl _ _ rfl _ (qgapsTo q xs k) rfl (ho.alloc _) (w.heap.size + 1) hf wr.heap.size ((k : Int) + 1) rfl ?c2 _ (Below.refl _ _) ?d2 hlen ?_)
          case c2 => simp [go_sem]
          case d2 => simp; omega
          intro v' w2 ho' hf' hb' _
          have hbl' := (hbl.alloc (.cells #[.int .i64 ((k : Int) + 1)] 3)).below hb' (by omega)
          have hbr' := (hbr.alloc hsz (.cells #[.int .i64 ((k : Int) + 1)] 3)).trans (hb'.mono (by omega))
          rw [← HS.out] at ho'
          clear HS ho hf hbr hbl hck
          go_wp2
          go_roundw
          case rel => exact ⟨k + 1, by omega, by go_num, ho', hf', hbl', hbr'⟩
          case measure => simp [intOf] <;> omega
        | false =>
          rw [hb] at hGeq
          have hGs := Lib.hid hGeq.symm
          have HS := Lib.hid (qgapsTo_no hb)
          clear hb hGeq
          go_wp2_with fail
          refine (hF.out xs[k] ((xs.length : Int) + 1) _ (by omega) (by omega) (by omega) (by omega)).mono ?_
          rintro e w2 ⟨rfl, rfl⟩
          rw [hGs.out]
          go_wp2
          go_roundw
          case rel => exact ⟨k + 1, by omega, by go_num, by rw [HS.out]; exact ho, hf, hbl, hbr⟩
          case measure => simp [intOf] <;> omega
    · obtain rfl : k = xs.length := by omega
      have hle : (xs.length : Int) < xs.length + 1 := by omega
      clear ho0 hf0 hbx1 hb1
      go_wp2_with fail
      refine (Clip_any _ _ _ ho).mono ?_
      rintro e w2 ⟨r, rfl, hor, hob, rfl⟩
      have hfr : From w.heap.size r := fun g hg => Nat.le_of_succ_le (hf g (by rw [← hob]; exact hg))
      clear hob
      go_wp2
      go_ret
      exact ⟨_, rfl, hor, hfr, hbr⟩

theorem gaps_any (xs : List Int) (w : World) (hg : Hid (Go.Pan.Good xs)) :
    Calls Try.prog 186 #[tw xs, .int .i64 xs.length, .func (Fn.func 161) #[] #[]] w fun e w' => ∃ r, e = .returned r ∧ OwnI w' r (gapsL xs) ∧ From w.heap.size r ∧ Below w.heap.size w w' := by
  have h := gapsQ_any 161 noPairB xs w hg.out.1 hg.out.le9 (Lib.hid fun x hx => by have := hg.out.2.2.1 x hx; have := hg.out.le9; omega) (fun args u => by go_simp) (Lib.hid fun a b u => areNoPair_any a b u)
  rw [qgaps_plain hg.out] at h
  exact h

def takenL (xs : List Int) (k : Nat) : Int := ((gapsL xs).length : Int) - (gapsL (turnL xs k)).length


end Go.Proofs.Ytmlikchhkblohaa

