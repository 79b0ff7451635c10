import Derived.Test.YtocccocpacohaaaS4
import Derived.Test.YtocccocpacohaaaM4
namespace Go.Proofs.Ytocccocpacohaaa
open Go Go.RowKit Go.Pan

set_option maxHeartbeats 800000 in
theorem sShortPlan_any (n : Int) (v : Value) (p : List Int) (w : World) (hv : OwnI w v p) (hn : p.length ≤ 1048576) :
    Calls Try.prog 46 #[.int .i64 n, v] w fun e w' => ∃ r, e = .returned (.tuple #[r, .bool (planB n p)]) ∧ OwnI w' r (mShortPlan n p) ∧ From w.heap.size r ∧ Below w.heap.size w w' := by
  obtain ⟨ad, cap, rfl, hc, _, _⟩ := hv.shape
  cases hg : planB n p with
  | true =>
    have HM := Lib.hid (show mShortPlan n p = shortL p from if_pos hg)
    go_enter Try.func46, Try.ntmps46
    go_wp2_with fail
    refine (stPlan_any _ _ _ _ hv hn).mono ?_
    rintro e w1 ⟨rfl, hb⟩
    go_wp2
    go_loopw [6, 8, 15, 23, 26] (fun o _ i _ _ wr => ∃ k : Nat, k ≤ p.length ∧ i = .int .i64 k ∧ OwnI wr o (shortTo p k) ∧ From w.heap.size o ∧ Below w.heap.size w wr) (fun _ _ i _ _ _ => p.length - (intOf i).toNat)
    case atStart => exact ⟨0, Nat.zero_le _, rfl, by simpa [shortTo] using OwnI.nil w1, From.nil _ _ _, hb⟩
    case round =>
      obtain ⟨k, hk, rfl, ho, hf, hbr⟩ := hrel
      by_cases hlt : k < p.length
      · obtain ⟨g, off, rfl, hgl, hcell, hfz⟩ := hv.at (by omega)
        have hck := hcell k (by omega)
        rw [List.getElem?_map, List.getElem?_eq_getElem hlt] at hck
        have hc1 := (hbr.cell (p := ⟨g, off + k, none⟩) hgl).trans hck
        have HS := Lib.hid (shortTo_step p k hlt)
        have hlen : (shortTo p k).length ≤ 1048576 := by have := shortTo_length p k; omega
        clear hcell hfz hck hv hb
        by_cases he : p[k] = 1
        · have hq : ((p[k] : Int) == 1) = true := by simp [he]
          have H := Lib.hid (show shortTo p (k + 1) = shortTo p k by rw [HS.out, he, step_one])
          clear he HS
          go_wp2
          go_roundw
          case rel => exact ⟨k + 1, by omega, by go_num, by rw [H.out]; exact ho, hf, hbr⟩
          case measure => simp [intOf] <;> omega
        · have hq : ((p[k] : Int) == 1) = false := by simp [he]
          obtain ⟨l, hl⟩ : ∃ l, l = shortTo p k := ⟨_, rfl⟩
          rw [← hl] at ho hlen
          have HS' := Lib.hid (show shortTo p (k + 1) = shortStep l p[k] by rw [HS.out, hl])
          clear HS hl
          have HE := Lib.hid he
          clear he
          cases hll : l.length with
          | zero =>
            obtain rfl : l = [] := List.eq_nil_of_length_eq_zero hll
            clear hll
            obtain ⟨ad2, cap2, rfl, _⟩ := ho.shape
            have H := Lib.hid (show shortTo p (k + 1) = [p[k]] by rw [HS'.out, step_nil _ HE.out])
            clear HS'
            go_wp2_with (at_builtin; refine wpList_app1 Try.intSl rfl _ _ rfl _ [] rfl (ho.alloc _) w.heap.size hf wr.heap.size p[k] rfl ?c1 w (hbr.alloc hbr.size _) ?c2 hlen ?_)
            case c1 => simp [go_sem]
            case c2 => simp; exact Nat.le_succ_of_le hbr.size
            intro v' w2 ho' hf' hb' _
            rw [← H.out] at ho'
            clear ho hf hbr hc1
            go_wp2
            go_roundw
            case rel => exact ⟨k + 1, by omega, by go_num, ho', hf', hb'⟩
            case measure => simp [intOf] <;> omega
          | succ m =>
            obtain ⟨ad2, cap2, e2, hc2, hm2, _⟩ := ho.shape
            subst e2
            have ho2 : Own wr 1 (.slice ad2 (m + 1) cap2) (m + 1) (l.map iv) := by rw [← hll]; exact ho
            rw [hll] at hc2
            obtain ⟨g2, off2, rfl, hgl2, hcell2, hfz2⟩ := Own.at ho2 (by omega)
            have hll1 : m < l.length := by omega
            have hcm := hcell2 m (by omega)
            rw [List.getElem?_map, List.getElem?_eq_getElem hll1] at hcm
            by_cases hx : l[m] = p[k]
            · have hq2 : (l[m] == p[k]) = true := by simp [hx]
              have H := Lib.hid (show shortTo p (k + 1) = l.take m by rw [HS'.out, step_pop l p[k] m HE.out hll hx])
              have ho3 : OwnI wr (.slice (some ⟨g2, off2, none⟩) m cap2) (l.take m) := OwnI.take ho (by omega)
              have hf3 : From w.heap.size (.slice (some ⟨g2, off2, none⟩) m cap2) := fun g hg => hf g hg
              have hcl : (m : Int) ≤ cap2 := by omega
              have HL := Lib.hid hll
              rw [hll]
              clear hx HS' hcell2 hfz2 ho ho2 hf hll
              go_wp2
              go_roundw
              case rel => exact ⟨k + 1, by omega, by go_num, by rw [H.out]; exact ho3, hf3, hbr⟩
              case measure => simp [intOf] <;> omega
            · have hq2 : (l[m] == p[k]) = false := by simp [hx]
              have H := Lib.hid (show shortTo p (k + 1) = l ++ [p[k]] by rw [HS'.out, step_push l p[k] m HE.out hll hx])
              have HL := Lib.hid hll
              have HX := Lib.hid hx
              have ho4 : OwnI wr (.slice (some ⟨g2, off2, none⟩) (m + 1) cap2) l := by have := ho; rw [hll] at this; exact this
              have hf4 : From w.heap.size (.slice (some ⟨g2, off2, none⟩) (m + 1) cap2) := fun g hg => hf g hg
              rw [hll]
              clear hx HS' hcell2 hfz2 ho ho2 hf hll
              go_wp2_with (at_builtin; refine wpList_app1 Try.intSl rfl _ _ rfl _ l rfl (ho4.alloc _) w.heap.size hf4 wr.heap.size p[k] rfl ?d1 w (hbr.alloc hbr.size _) ?d2 hlen ?_)
              case d1 => simp [go_sem]
              case d2 => simp; exact Nat.le_succ_of_le hbr.size
              intro v' w2 ho' hf' hb' _
              rw [← H.out] at ho'
              clear hbr hc1
              go_wp2
              go_roundw
              case rel => exact ⟨k + 1, by omega, by go_num, ho', hf', hb'⟩
              case measure => simp [intOf] <;> omega
      · obtain rfl : k = p.length := by omega
        rw [shortTo_all] at ho
        clear hv hb
        go_wp2
        go_ret2
        exact ⟨_, rfl, by rw [HM.out]; exact ho, hf, hbr⟩
  | false =>
    have HM := Lib.hid (show mShortPlan n p = [] from if_neg (by rw [hg]; exact Bool.false_ne_true))
    go_enter Try.func46, Try.ntmps46
    go_wp2_with fail
    refine (stPlan_any _ _ _ _ hv hn).mono ?_
    rintro e w1 ⟨rfl, hb⟩
    go_wp2
    go_ret2
    exact ⟨_, rfl, by rw [HM.out]; exact OwnI.nil _, From.nil _ _ _, hb⟩

end Go.Proofs.Ytocccocpacohaaa
