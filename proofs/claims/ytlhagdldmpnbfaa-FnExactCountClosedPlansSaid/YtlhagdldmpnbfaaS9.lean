import Derived.Test.YtlhagdldmpnbfaaS8
import Derived.Test.YtlhagdldmpnbfaaS6
import Derived.Test.YtlhagdldmpnbfaaM6
namespace Go.Proofs.Ytlhagdldmpnbfaa
open Go Go.RowKit Go.Pan

set_option maxHeartbeats 800000 in
theorem gaGreedy_any (v : Value) (xs : List Int) (w : World) (hv : OwnI w v xs) (hg : Hid (Go.Pan.Good xs)) :
    Calls Try.prog 75 #[v] w fun e w' => ∃ r, e = .returned r ∧ OwnI w' r (greedyL xs) ∧ From w.heap.size r ∧ Below w.heap.size w w' := by
  obtain ⟨ad, cap, rfl, hc, _, _⟩ := hv.shape
  have hl9 := hg.out.le9
  go_enter Try.func75, Try.ntmps75
  go_wp2
  go_loopw [0, 3, 4, 5] (fun s o i _ wr => ∃ (m : Nat) (ys out : List Int), i = .int .i64 m ∧ OwnI wr s ys ∧ OwnI wr o out ∧ From w.heap.size o ∧ Hid (GreedyAt xs m ys out) ∧ Below w.heap.size w wr) (fun _ _ i _ _ => (intOf i).toNat)
  case atStart => exact ⟨xs.length, xs, [], rfl, hv, OwnI.nil w, From.nil _ _ _, GreedyAt.start hg.out, Below.refl _ _⟩
  case round =>
    obtain ⟨m, ys, out, rfl, hs, ho, hf, hat, hbr⟩ := hrel
    have hgy := hat.out.1
    have hly := hat.out.2.1
    have hml := hat.out.2.2.1
    have hol := hat.out.len
    have HY := Lib.hid hly
    have HGY := Lib.hid hgy
    have hly9 : ys.length ≤ 9 := by omega
    have hmy : m ≤ ys.length := by omega
    clear hgy hly
    by_cases hlt : 2 ≤ m
    · have hlti : (1 : Int) < m := by omega
      have hx := (placeL_self_bd HGY.out (show 1 ≤ m by omega) hmy).1
      have HB := Lib.hid (bringL_bd HGY.out (show 1 ≤ m by omega) hmy)
      have hbl := len_bringL ys (m : Int) (m : Int)
      have HN := Lib.hid (hat.out.step hlt)
      obtain ⟨q, hq⟩ : ∃ q : Nat, m = q + 1 := ⟨m - 1, by omega⟩
      have HQ := Lib.hid hq
      clear hq
      go_wp2_with fail
      refine (stBring_any _ ys _ _ _ hs (by omega) hx (by omega)).mono ?_
      rintro e w1 ⟨r1, rfl, ho1, hf1, hb1⟩
      go_wp2_with fail
      refine (stPlay_any _ _ ys _ _ (hs.same hb1) (by omega) ho1 (by omega) HB).mono ?_
      rintro e w2 ⟨r2, rfl, ho2, hf2, hb2⟩
      obtain ⟨ad1, cap1, rfl, _⟩ := ho1.shape
      have hsrc := Own.src (ho1.same hb2)
      have hoo := (ho.same hb1).same hb2
      have hB1 := hbr.trans (hb1.mono hbr.size)
      have hB2 := hB1.trans (hb2.mono hB1.size)
      have hs2 := hB2.size
      have hlt2 := ho2.lt
      have hs1 := hB1.size
      have hapart : ∀ g, r2.ownBlock = some g → u3.ownBlock ≠ some g := apart_gt hf2 (fun g hg => Nat.lt_of_lt_of_le (ho.lt g hg) hb1.size)
      clear hs ho ho1 hb1 hb2 hbr hB1 hv
      go_wp2_with (at_builtin; refine wpList_appI Try.intSl rfl _ _ rfl _ out rfl hoo w.heap.size hf ad1 _ cap1 (bringL ys (m : Int) (m : Int)) rfl rfl hsrc w hB2 hs2 (by omega) (by omega) ?_)
      intro v' w3 ho' hf' hb' hgr
      have ho3 := ho2.grown hgr (fun g hg e => hapart g hg e)
      clear hoo hB2 hgr ho2
      go_wp2
      go_roundw
      case rel => exact ⟨m - 1, _, _, by have := HQ.out; go_num, ho3, ho', hf', HN.out, hb'⟩
      case measure => simp [intOf] <;> omega
    · have hlti : (m : Int) ≤ 1 := by omega
      have HD := Lib.hid (hat.out.done (by omega))
      rw [HD.out] at ho
      clear hv
      go_wp2
      go_ret
      exact ⟨_, rfl, ho, hf, hbr⟩

theorem sGreedyPlan_any (v : Value) (xs : List Int) (w : World) (hv : OwnI w v xs) (hn : xs.length ≤ 1048576) :
    Calls Try.prog 107 #[v] w fun e w' => ∃ r, e = .returned (.tuple #[r, .bool (goodB xs)]) ∧ OwnI w' r (mGreedyPlan xs) ∧ From w.heap.size r ∧ Below w.heap.size w w' := by
  cases hg : goodB xs with
  | true =>
    have HM := Lib.hid (show mGreedyPlan xs = greedyL xs from if_pos hg)
    have HG := Lib.hid (goodB_iff.1 hg)
    go_enter Try.func107, Try.ntmps107
    go_wp2_with fail
    refine (stGood_any _ _ _ hv hn).mono ?_
    rintro e w1 ⟨rfl, hb⟩
    go_wp2_with fail
    refine (gaGreedy_any _ _ _ (hv.same hb) HG).mono ?_
    rintro e w2 ⟨r, rfl, ho, hf, hb2⟩
    go_wp2
    go_ret2
    exact ⟨_, rfl, by rw [HM.out]; exact ho, hf.mono hb.size, hb.trans (hb2.mono hb.size)⟩
  | false =>
    have HM := Lib.hid (show mGreedyPlan xs = [] from if_neg (by rw [hg]; exact Bool.false_ne_true))
    go_enter Try.func107, Try.ntmps107
    go_wp2_with fail
    refine (stGood_any _ _ _ hv hn).mono ?_
    rintro e w1 ⟨rfl, hb⟩
    go_wp2
    go_ret2
    exact ⟨_, rfl, by rw [HM.out]; exact OwnI.nil _, From.nil _ _ _, hb⟩

end Go.Proofs.Ytlhagdldmpnbfaa

