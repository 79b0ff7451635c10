import Derived.Test.YtocccocpacohaaaI5
import Derived.Test.YtocccocpacohaaaS12
namespace Go.Proofs.Ytocccocpacohaaa
open Go Go.RowKit Go.Pan

set_option maxHeartbeats 800000 in
theorem ParseStack_any (s : ByteArray) (w : World) (hs : s.size ≤ 1048576) :
    Calls Try.prog 69 #[.string s] w fun e w' => ∃ r, e = .returned (.tuple #[r, .bool (goodB (dig s))]) ∧ OwnI w' r (mParseStack s) ∧ From w.heap.size r ∧ Below w.heap.size w w' := by
  by_cases h19 : 1 ≤ s.size ∧ s.size ≤ 9
  · have hin : inB s.size 1 9 = true := inB_true (by omega)
    obtain ⟨i0, hi, hz0, hz1, hz2⟩ := info_parts Try.info3
    go_enter Try.func69, Try.ntmps69
    go_wp2_with fail
    refine (isCount_any _ _).mono ?_
    rintro e w0 ⟨rfl, rfl⟩
    go_wp2_with (at_make; refine wpList_make_full _ rfl _ _ 22 rfl w.heap.size 3 i0 (.int .i64 0) 1 Try.underlying22 hi hz0 hz1 _ _ _ _ s.size rfl rfl rfl rfl ?b1 ?b2 ?b3 ?_)
    case b1 => rw [hz2]; omega
    case b2 => unfold maxLen; omega
    case b3 => exact Nat.le_refl _
    intro w1 hown hgrow
    have ho0 : OwnI w1 (.slice (some ⟨w.heap.size, 0, none⟩) s.size s.size) (fillTo (dig s) 0) := by rw [fillTo_zero, dig_length]; exact OwnI.of_made hown
    have hb0 : Below w.heap.size w w1 := (Below.refl _ _).grown hgrow (Nat.le_refl _) (by intro k hk; cases hk)
    clear hi hz0 hz1 hz2 hgrow hown
    go_wp2
    go_loopw [5, 15] (fun _ i wr => ∃ k : Nat, k ≤ s.size ∧ i = .int .i64 k ∧ OwnI wr (.slice (some ⟨w.heap.size, 0, none⟩) s.size s.size) (fillTo (dig s) k) ∧ Below w.heap.size w wr) (fun _ i _ => s.size - (intOf i).toNat)
    case atStart => exact ⟨0, Nat.zero_le _, rfl, ho0, hb0⟩
    case round =>
      obtain ⟨k, hk, rfl, ho, hbr⟩ := hrel
      clear ho0 hb0
      by_cases hlt : k < s.size
      · obtain ⟨hd, hfd, hst⟩ := OwnI.cellAt ho k (by rw [fillTo_length _ _ (by rw [dig_length]; omega), dig_length]; exact hlt)
        have hst := hst ((s[k].toNat : Int) - 48)
        rw [fillTo_step (dig s) k (by rw [dig_length]; exact hlt) ((s[k].toNat : Int) - 48) (dig_get s k hlt)] at hst
        have hb2 := hbr.setCell (p := ⟨w.heap.size, k, none⟩) (Nat.le_refl _) (iv ((s[k].toNat : Int) - 48))
        have hby : (s[k].toNat : Int) ≤ 255 := by have := s[k].toNat_lt; omega
        clear ho hbr
        go_wp2
        go_roundw
        case rel => exact ⟨k + 1, by omega, by go_num, hst, hb2⟩
        case measure => simp [intOf] <;> omega
      · obtain rfl : k = s.size := by omega
        have ho2 : OwnI wr (.slice (some ⟨w.heap.size, 0, none⟩) s.size s.size) (dig s) := by have h := fillTo_all (dig s); rw [dig_length] at h; rw [← h]; exact ho
        clear ho
        cases hg : goodB (dig s) with
        | true =>
          have c := IsStack_any (.slice (some ⟨w.heap.size, 0, none⟩) s.size s.size) (dig s) wr ho2 (by rw [dig_length]; exact hs)
          rw [hg] at c
          have HM := Lib.hid (show mParseStack s = dig s from if_pos hg)
          have HG := Lib.hid hg
          clear hg
          go_wp2_with fail
          refine c.mono ?_
          rintro e w2 ⟨rfl, hb2⟩
          have ho3 := ho2.same hb2
          clear c ho2
          go_wp2
          go_ret2
          exact ⟨_, by rw [HG.out]; rfl, by rw [HM.out]; exact ho3, From.at _ _ _ _ _ (Nat.le_refl _), hbr.trans (hb2.mono hbr.size)⟩
        | false =>
          have c := IsStack_any (.slice (some ⟨w.heap.size, 0, none⟩) s.size s.size) (dig s) wr ho2 (by rw [dig_length]; exact hs)
          rw [hg] at c
          have HM := Lib.hid (show mParseStack s = [] from if_neg (by rw [hg]; exact Bool.false_ne_true))
          have HG := Lib.hid hg
          clear hg
          go_wp2_with fail
          refine c.mono ?_
          rintro e w2 ⟨rfl, hb2⟩
          clear c ho2
          go_wp2
          go_ret2
          exact ⟨_, by rw [HG.out]; rfl, by rw [HM.out]; exact OwnI.nil _, From.nil _ _ _, hbr.trans (hb2.mono hbr.size)⟩
  · have hin : inB s.size 1 9 = false := inB_false (by omega)
    have HD := Lib.hid (show goodB (dig s) = false from decide_eq_false fun hg => h19 (by have h1 := hg.1; have h2 := hg.le9; rw [dig_length] at h1 h2; exact ⟨h1, h2⟩))
    have HM := Lib.hid (show mParseStack s = [] from if_neg (by rw [HD.out]; exact Bool.false_ne_true))
    go_enter Try.func69, Try.ntmps69
    go_wp2_with fail
    refine (isCount_any _ _).mono ?_
    rintro e w0 ⟨rfl, rfl⟩
    go_wp2
    go_ret2
    exact ⟨_, by rw [HD.out]; rfl, by rw [HM.out]; exact OwnI.nil _, From.nil _ _ _, Below.refl _ _⟩

end Go.Proofs.Ytocccocpacohaaa
