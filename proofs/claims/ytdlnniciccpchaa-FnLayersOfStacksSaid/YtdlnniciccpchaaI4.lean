import Derived.Test.YtdlnniciccpchaaI3
namespace Go.Proofs.Ytdlnniciccpchaa
open Go Go.RowKit Go.Pan

theorem tower_eq (xs ys : List Int) (hx : xs.length ≤ 9) (hl : xs.length = ys.length) : ∀ W, (Op.equalIn 10000 52 (tw xs) (tw ys)).run Try.prog W = .ok (decide (xs = ys)) W := fun W => by
  obtain ⟨i0, hi, _⟩ := info_parts Try.info3
  have h := run_equalIn_ints W 9998 (xs ++ List.replicate (9 - xs.length) 0) (ys ++ List.replicate (9 - ys.length) 0) Try.underlying52 hi Try.underlying3 (by kernel_rfl) (by simp; omega) (by simp; omega)
  rw [show decide (xs = ys) = decide (xs ++ List.replicate (9 - xs.length) (0 : Int) = ys ++ List.replicate (9 - ys.length) 0) from by rw [decide_eq_decide]; exact (twl_inj hl).symm]
  exact h

theorem planB_nil {n : Int} : planB n [] = inB n 1 9 := by
  rw [Bool.eq_iff_iff, planB_iff, inB_iff]
  simp [Plan]
theorem okPlay_nil (xs : List Int) : okPlay xs [] = goodB xs := by
  unfold okPlay
  rw [planB_nil]
  cases h : goodB xs with
  | true =>
    have hg := goodB_iff.1 h
    rw [inB_true ⟨by have := hg.1; omega, by have := hg.2.1; omega⟩]
    rfl
  | false => rfl

theorem PlayPlan_any (v : Value) (xs : List Int) (u : Value) (ys : List Int) (w : World) (hv : OwnI w v xs) (hn : xs.length ≤ 1048576) (hu : OwnI w u ys) (hm : ys.length ≤ 1048576) :
    Calls Try.prog 14 #[v, u] w fun e w' => ∃ r, e = .returned (.tuple #[r, .bool (okPlay xs ys)]) ∧ OwnI w' r (mPlayPlan xs ys) ∧ From w.heap.size r ∧ Below w.heap.size w w' := by
  obtain ⟨ad, cap, rfl, hc, _, _⟩ := hv.shape
  cases hg : okPlay xs ys with
  | true =>
    have hok := okPlay_iff.1 hg
    have HP := Lib.hid hok.2.2.2
    have h9 := hok.1.le9
    have HM := Lib.hid (show mPlayPlan xs ys = playL xs ys from if_pos hg)
    clear hok
    go_enter Try.func14, Try.ntmps14
    go_wp2_with fail
    refine (isPlanFor_any _ _ _ _ _ hv hn hu hm).mono ?_
    rintro e w1 ⟨rfl, hb⟩
    go_wp2_with fail
    refine (towerOf_any _ _ _ (hv.same hb) h9).mono ?_
    rintro e w2 ⟨rfl, hb2⟩
    go_wp2_with fail
    refine (played_any _ _ _ _ h9 ((hu.same hb).same hb2) HP hm).mono ?_
    rintro e w3 ⟨rfl, hb3⟩
    go_wp2_with fail
    refine (list_any _ _ _ (playL_length _ _) h9).mono ?_
    rintro e w4 ⟨r, rfl, ho, hf, hb4⟩
    go_wp2
    go_ret2
    have hb12 := hb.trans (hb2.mono hb.size)
    have hb13 := hb12.trans (hb3.mono hb12.size)
    exact ⟨_, rfl, by rw [HM.out]; exact ho, hf.mono hb13.size, hb13.trans (hb4.mono hb13.size)⟩
  | false =>
    have HM := Lib.hid (show mPlayPlan xs ys = [] from if_neg (by rw [hg]; exact Bool.false_ne_true))
    go_enter Try.func14, Try.ntmps14
    go_wp2_with fail
    refine (isPlanFor_any _ _ _ _ _ hv hn hu hm).mono ?_
    rintro e w1 ⟨rfl, hb⟩
    go_wp2
    go_ret2
    exact ⟨_, rfl, by rw [HM.out]; exact OwnI.nil _, From.nil _ _ _, hb⟩

end Go.Proofs.Ytdlnniciccpchaa

