import Derived.Test.YticpdlgnaphnkaaK11
namespace Go.Proofs.Yticpdlgnaphnkaa
open Go Go.RowKit Go.Pan

def litI : DD → Int
  | .lit (.int _ c) => c
  | _ => 0

theorem CountLeastPlans_any (v : Value) (xs : List Int) (w : World) (hv : OwnI w v xs) (hn : xs.length ≤ 1048576) :
    Calls Try.prog 35 #[v] w fun e w' => e = .returned (.tuple #[.int .i64 (mCountLeastPlans xs), .bool (farB xs)]) ∧ Below w.heap.size w w' := by
  cases hg : farB xs with
  | true =>
    have HM := Lib.hid (show mCountLeastPlans xs = (waysS xs : Int) from if_pos hg)
    have hG := (farB_iff.1 hg).1
    have hle := farS_le hG
    have h9 := hG.le9
    have c := wayHome_yes _ xs w hv hn hg
    have HST := Lib.hid hG.home
    have HWC := Lib.hid (show wayC xs.length xs (ramp 1 xs.length) (farS xs) (farS xs - farS xs) (ramp 1 xs.length) = waysS xs by
      unfold wayC waysS
      rw [if_pos ⟨rfl, by rw [(far_zero hG.home hG.home).2 rfl]; omega⟩])
    obtain ⟨ad, cap, rfl, _, _, _⟩ := hv.shape
    obtain ⟨n, hnn⟩ : ∃ n, xs.length = n := ⟨_, rfl⟩
    rw [hnn] at HST HWC c h9 hle
    rw [hnn]
    obtain ⟨d, hd⟩ : ∃ d, farS xs = d := ⟨_, rfl⟩
    rw [hd] at c hle HWC
    have hd2 : d + 1 ≤ 1048576 := by omega
    rw [hnn] at hv
    clear hG hg hd hnn
    go_enter Try.func35, Try.ntmps35
    go_wp2_with fail
    refine c.mono ?_
    rintro e w1 ⟨g, cap2, ms, rfl, hW, hb1⟩
    clear c
    have hml : ms.length = d + 1 := by rw [hW.len, wayP_length]
    obtain ⟨bl, hbl⟩ : ∃ x, ms[d]? = some x := ⟨_, List.getElem?_eq_getElem (by omega)⟩
    have hlast : ms.getLast? = some bl := by rw [List.getLast?_eq_getElem?, hml]; exact hbl
    have hly := (hW.lay d bl _ hbl (wayP_get _ _ _ _ _ _ (Nat.le_refl _))).1
    have c2 := wlast_any n _ _ ms _ bl w1 hW hlast (by omega)
    clear hW hbl hlast hml
    go_wp2_with fail
    refine c2.mono ?_
    rintro e w2 ⟨rfl, rfl⟩
    clear c2
    go_wp2_with fail
    refine (sortedTower_any n w1 h9).mono ?_
    rintro e w3 ⟨rfl, hb3⟩
    obtain ⟨D, hown, hL⟩ := hly.below hb3 (Nat.le_refl _)
    have hat := hL.at0 HST.out
    rw [HWC.out] at hat
    have HAT := Lib.hid hat
    have hkey := key_tw HST.out
    clear hL hat
    go_wp2_with (at_lookup; refine wpList_lookup_own_int _ rfl _ _ 68 rfl 54 3 .i64 keyd Try.underlying68 Try.underlying3 (zeroI _) bl (fact n) D rfl hown _ (kl (ramp 1 n)) rfl hkey ?_; intro c0 hc0 _)
    go_ret2
    have he : c0 = (waysS xs : Int) := by
      have h1 := HAT.out.symm.trans hc0
      exact (congrArg litI h1).symm
    exact ⟨by rw [HM.out, ← he]; rfl, hb1.trans (hb3.mono hb1.size)⟩
  | false =>
    have HM := Lib.hid (show mCountLeastPlans xs = 0 from if_neg (by rw [hg]; exact Bool.false_ne_true))
    have c := wayHome_no _ xs w hv hn hg
    obtain ⟨ad, cap, rfl, _, _, _⟩ := hv.shape
    clear hg
    go_enter Try.func35, Try.ntmps35
    go_wp2_with fail
    refine c.mono ?_
    rintro e w1 ⟨rfl, hb1⟩
    clear c
    go_wp2
    go_ret2
    exact ⟨by rw [HM.out]; rfl, hb1⟩
end Go.Proofs.Yticpdlgnaphnkaa
