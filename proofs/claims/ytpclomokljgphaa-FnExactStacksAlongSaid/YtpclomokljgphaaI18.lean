import Derived.Test.YtpclomokljgphaaI4
import Derived.Test.YtpclomokljgphaaI16
import Derived.Test.YtpclomokljgphaaU7
import Derived.Test.YtpclomokljgphaaS16
namespace Go.Pan
open Go Go.RowKit
theorem SS.made {w : World} {B : Nat} {ty : TypeId} {v : Value} (h : w.ownsRow B ty 1 v 0 []) : SS w B w.heap.size v [] [] :=
  ⟨rfl, (Own.of_row h).1, fun g hg => h.lt g hg, fun i u xs hu => by simp at hu, fun i j u u' _ hu => by simp at hu⟩
end Go.Pan
namespace Go.Proofs.Ytpclomokljgphaa
open Go Go.RowKit Go.Pan

theorem twN_tws (xs p : List Int) (k : Nat) : twN turnL xs p k = tws (stkN xs p k) := by
  unfold twN tws stkN
  rw [List.flatMap_map]
  congr 1
  funext j
  rw [StTo_turn]

set_option maxHeartbeats 3200000 in
theorem StacksAlong_any (v : Value) (xs : List Int) (u : Value) (p : List Int) (w : World) (hv : OwnI w v xs) (hn : xs.length ≤ 1048576) (hu : OwnI w u p) (hm : p.length ≤ 1048576) :
    Calls Try.prog 60 #[v, u] w fun e w' => ∃ r hs, e = .returned (.tuple #[r, .bool (okPlay xs p)]) ∧ SS w' w.heap.size w'.heap.size r hs (mStacksAlong xs p) ∧ Below w.heap.size w w' := by
  obtain ⟨ad, cap, rfl, hc, _, _⟩ := hu.shape
  obtain ⟨adv, capv, rfl, hcv, _, _⟩ := hv.shape
  have c := isPlanFor_any _ _ xs p w hv hn hu hm
  cases hg : okPlay xs p with
  | true =>
    have hok := okPlay_iff.1 hg
    have HG := Lib.hid hok.1
    have HP := Lib.hid hok.2.2.2
    have h40 := hok.2.2.1
    have hl9 := hok.1.le9
    have HM := Lib.hid (show mStacksAlong xs p = stkN xs p (p.length + 1) from if_pos hg)
    have HL := Lib.hid (show ∀ q ∈ stkN xs p (p.length + 1), q.length = xs.length ∧ xs.length ≤ 9 from fun q hq => by
      obtain ⟨j, _, rfl⟩ := List.mem_map.1 hq
      exact ⟨PlayTo_length _ _ _, hl9⟩)
    have hll : (stkN xs p (p.length + 1)).length ≤ 1048576 := by rw [stkN_length]; omega
    rw [hg] at c
    clear hok hg
    go_enter Try.func60, Try.ntmps60
    go_wp2_with fail
    refine (c).mono ?_
    rintro e w1 ⟨rfl, hb⟩
    have hv1 := hv.same hb
    have hu1 := hu.same hb
    clear c hv hu
    go_wp2_with fail
    refine (towerOf_any _ _ _ hv1 hl9).mono ?_
    rintro e w2 ⟨rfl, hb2⟩
    have hu2 := hu1.same hb2
    clear hv1 hu1
    go_wp2_with fail
    refine (along_any xs p _ _ HG hu2 HP h40).mono ?_
    rintro e w3 ⟨r3, rfl, ho3, hf3, hb3⟩
    have ho3' : Own w3 9 r3 (stkN xs p (p.length + 1)).length (tws (stkN xs p (p.length + 1))) := by rw [stkN_length, ← twN_tws]; exact ho3
    clear ho3 hu2
    go_wp2_with fail
    refine (lists_any _ (stkN xs p (p.length + 1)) xs.length _ ho3' HL hll).mono ?_
    rintro e w4 ⟨r4, hs4, rfl, hS4, hb4⟩
    have hb12 := hb.trans (hb2.mono hb.size)
    have hb13 := hb12.trans (hb3.mono hb12.size)
    have HS := Lib.hid (show SS w4 w.heap.size w4.heap.size r4 hs4 (mStacksAlong xs p) by rw [HM.out]; exact hS4.mono hb13.size (Nat.le_refl _))
    have hB := hb13.trans (hb4.mono hb13.size)
    clear hS4
    go_wp2
    go_ret2
    exact ⟨_, _, rfl, HS.out, hB⟩
  | false =>
    have HM := Lib.hid (show mStacksAlong xs p = [] from if_neg (by rw [hg]; exact Bool.false_ne_true))
    rw [hg] at c
    clear hg
    go_enter Try.func60, Try.ntmps60
    go_wp2_with fail
    refine (c).mono ?_
    rintro e w1 ⟨rfl, hb⟩
    go_wp2
    go_ret2
    exact ⟨_, [], rfl, by rw [HM.out]; exact SS.nil _ _ _, hb⟩
end Go.Proofs.Ytpclomokljgphaa
