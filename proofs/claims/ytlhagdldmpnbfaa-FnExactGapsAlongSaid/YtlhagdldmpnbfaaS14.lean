import Derived.Test.YtlhagdldmpnbfaaS8
namespace Go.Proofs.Ytlhagdldmpnbfaa
open Go Go.RowKit Go.Pan

/-- the numbers of gaps of the first k stacks along a plan -/
def gapN (xs p : List Int) (k : Nat) : List Int := (List.range k).map fun j => ((gapsL (PlayTo xs p j)).length : Int)
theorem gapN_zero (xs p : List Int) : gapN xs p 0 = [] := rfl
theorem gapN_one (xs p : List Int) : gapN xs p 1 = [((gapsL xs).length : Int)] := rfl
theorem gapN_succ (xs p : List Int) (k : Nat) : gapN xs p (k + 1) = gapN xs p k ++ [((gapsL (PlayTo xs p k)).length : Int)] := by simp [gapN, List.range_succ]
theorem gapN_length (xs p : List Int) (k : Nat) : (gapN xs p k).length = k := by simp [gapN]
def mGapsAlong (xs p : List Int) : List Int := if okPlay xs p = true then gapN xs p (p.length + 1) else []
theorem len_mGapsAlong (xs p : List Int) : (mGapsAlong xs p).length ≤ 1048576 := by
  unfold mGapsAlong
  split
  · rename_i h; rw [gapN_length]; have := (okPlay_iff.1 h).2.2.1; omega
  · simp

set_option maxHeartbeats 800000 in
theorem sGapsAlong_any (v : Value) (xs : List Int) (u : Value) (p : List Int) (w : World) (hv : OwnI w v xs) (hn : xs.length ≤ 1048576) (hu : OwnI w u p) (hm : p.length ≤ 1048576) :
    Calls Try.prog 39 #[v, u] w fun e w' => ∃ r, e = .returned (.tuple #[r, .bool (okPlay xs p)]) ∧ OwnI w' r (mGapsAlong xs p) ∧ From w.heap.size r ∧ Below w.heap.size w w' := by
  obtain ⟨ad, cap, rfl, hc, _, _⟩ := hu.shape
  have c := stAsked_any v _ xs p w hv hn hu hm
  cases hg : okPlay xs p with
  | true =>
    have hok := okPlay_iff.1 hg
    have HP := Lib.hid hok.2.2.2
    have HG := Lib.hid hok.1
    have HO := Lib.hid hg
    have HM := Lib.hid (show mGapsAlong xs p = gapN xs p (p.length + 1) from if_pos hg)
    rw [hg] at c
    clear hok hg
    go_enter Try.func39, Try.ntmps39
    go_wp2_with fail
    refine c.mono ?_
    rintro e w1 ⟨rfl, hb1⟩
    have hv1 := hv.same hb1
    clear c hv
    go_wp2_with fail
    refine (gaAll_any _ xs _ hv1 HG).mono ?_
    rintro e w2 ⟨r2, rfl, ho2, hf2, hb2⟩
    have hB2 := hb1.trans (hb2.mono hb1.size)
    have hv2 := hv1.same hb2
    obtain ⟨ad2, cap2, rfl, _, _, _⟩ := ho2.shape
    have ho3 : OwnI (w2.alloc (.cells #[iv ((gapsL xs).length : Int)] 3)) (.slice (some ⟨w2.heap.size, 0, none⟩) 1 1) (gapN xs p 1) := OwnI.of_blk0 (Blk.new w2 3 [iv ((gapsL xs).length : Int)] _ rfl) rfl (by omega)
    have hs2 := hB2.size
    have hB3 := hB2.alloc hs2 (.cells #[iv ((gapsL xs).length : Int)] 3)
    have hv3 := hv2.alloc (.cells #[iv ((gapsL xs).length : Int)] 3)
    have hf3 : From w.heap.size (.slice (some ⟨w2.heap.size, 0, none⟩) 1 1) := From.at _ _ _ _ _ hs2
    generalize hW : w2.alloc (.cells #[iv ((gapsL xs).length : Int)] 3) = W3 at ho3 hB3 hv3
    have HW := Lib.hid hW
    clear hW ho2 hf2 hb2 hB2 hv2 hv1 hb1
    go_wp2_with fail
    rw [HW.out]
    go_loopw [0, 6, 8, 19] (fun s o _ i wr => ∃ k : Nat, k ≤ p.length ∧ i = .int .i64 k ∧ OwnI wr s (PlayTo xs p k) ∧ OwnI wr o (gapN xs p (k + 1)) ∧ From w.heap.size o ∧ Below w.heap.size w wr) (fun _ _ _ i _ => p.length - (intOf i).toNat)
    case atStart => exact ⟨0, Nat.zero_le _, rfl, hv3, ho3, hf3, hB3⟩
    case round =>
      obtain ⟨k, hk, rfl, hs, ho, hf, hbr⟩ := hrel
      clear ho3 hf3 hv3 hB3
      by_cases hlt : k < p.length
      · obtain ⟨g, off, rfl, hgl, hcell, hfz⟩ := hu.at (by omega)
        have hck := hcell k (by omega)
        rw [List.getElem?_map, List.getElem?_eq_getElem hlt] at hck
        have hc1 := (hbr.cell (p := ⟨g, off + k, none⟩) hgl).trans hck
        have hin := HP.out _ (List.getElem_mem hlt)
        obtain ⟨j, hj⟩ : ∃ j : Nat, p[k] = (j : Int) := ⟨p[k].toNat, by omega⟩
        have hjl : j ≤ (PlayTo xs p k).length := by rw [PlayTo_length]; omega
        have HS := Lib.hid (PlayTo_step xs p k hlt j hj)
        have HN := Lib.hid (gapN_succ xs p (k + 1)).symm
        have hl : (PlayTo xs p k).length ≤ 1048576 := by rw [PlayTo_length]; exact hn
        have hc2 : wr.cell? ⟨g, off + k, none⟩ = some (iv (j : Int)) := by rw [hc1, ← hj]; rfl
        have HGk := Lib.hid (show Pan.Good (PlayTo xs p (k + 1)) from playL_good HG.out _)
        have hlen : (gapN xs p (k + 1)).length ≤ 1048576 := by rw [gapN_length]; omega
        clear hcell hfz hck hc1 hj hin hu
        go_wp2_with fail
        refine (stTurn_any _ _ _ _ hs hl hjl).mono ?_
        rintro e w4 ⟨r4, rfl, hs4, hf4, hb4⟩
        have hA := Lib.hid (apart_gt hf4 ho.lt)
        rw [HS.out] at hs4
        have ho4 := ho.same hb4
        have hB4 := hbr.trans (hb4.mono hbr.size)
        clear hs ho hbr hb4 hc2
        go_wp2_with fail
        refine (gaAll_any _ _ _ hs4 HGk).mono ?_
        rintro e w5 ⟨r5, rfl, ho5, _, hb5⟩
        obtain ⟨ad5, cap5, rfl, _, _, _⟩ := ho5.shape
        have hs5 := hs4.same hb5
        have hoo := ho4.same hb5
        have hB5 := hB4.trans (hb5.mono hB4.size)
        have hz5 := hB5.size
        clear ho5 hs4 ho4 hb5 hB4
        go_wp2_with (at_builtin; refine wpList_app1 Try.intSl rfl _ _ rfl _ (gapN xs p (k + 1)) rfl (hoo.alloc _) w.heap.size hf w5.heap.size ((gapsL (PlayTo xs p (k + 1))).length : Int) rfl ?c1 w (hB5.alloc hz5 _) ?c2 hlen ?_)
        case c1 => simp [go_sem]
        case c2 => simp; exact Nat.le_succ_of_le hz5
        intro v' w6 ho' hf' hb' hgr
        rw [HN.out] at ho'
        have hs6 := Own.grown (hs5.alloc _) hgr hA.out
        clear hs5 hoo hB5 hgr
        go_wp2
        go_roundw
        case rel => exact ⟨k + 1, by omega, by go_num, hs6, ho', hf', hb'⟩
        case measure => simp [intOf] <;> omega
      · obtain rfl : k = p.length := by omega
        clear hu
        go_wp2
        go_ret2
        exact ⟨_, rfl, by rw [HM.out]; exact ho, hf, hbr⟩
  | false =>
    have HM := Lib.hid (show mGapsAlong xs p = [] from if_neg (by rw [hg]; exact Bool.false_ne_true))
    rw [hg] at c
    have HO := Lib.hid hg
    clear hg
    go_enter Try.func39, Try.ntmps39
    go_wp2_with fail
    refine c.mono ?_
    rintro e w1 ⟨rfl, hb1⟩
    clear c hv hu
    go_wp2
    go_ret2
    exact ⟨_, by first | rfl | (rw [HO.out]; rfl), by rw [HM.out]; exact OwnI.nil _, From.nil _ _ _, hb1⟩

end Go.Proofs.Ytlhagdldmpnbfaa

