import Derived.Test.YtocccocpacohaaaI7
import Derived.Outline
import Derived.Deep.LoopGhost
import Derived.IntWalk
import Derived.Scope
import Derived.WalkMore
namespace Go.Proofs.Ytocccocpacohaaa
open Go Go.RowKit Go.Pan

def lenOf : Value → Nat
  | .slice _ n _ => n
  | _ => 0

/-- a plan on its way to being short -/
def ShortAt (p l : List Int) : Prop := (∀ k ∈ l, k ≠ 1) ∧ l.foldl shortStep [] = shortL p
theorem ShortAt.start (p : List Int) : ShortAt p (noOne p) := ⟨noOne_ne p, short_noOne p⟩
theorem ShortAt.step {p l : List Int} (h : ShortAt p l) {i : Nat} (hi : i + 1 < l.length) (e : l[i] = l[i + 1]) : ShortAt p (strike l i) := by
  refine ⟨fun k hk => ?_, by rw [← h.2]; exact short_strike l i hi e⟩
  unfold strike at hk
  rcases List.mem_append.1 hk with hk | hk
  · exact h.1 k (List.mem_of_mem_take hk)
  · exact h.1 k (List.mem_of_mem_drop hk)
theorem ShortAt.done {p l : List Int} (h : ShortAt p l) (hn : NoTwinTo l l.length) : l = shortL p := by rw [← h.2]; exact (short_id l h.1 hn).symm

set_option maxHeartbeats 1600000 in
theorem ShortPlan_any (n : Int) (v : Value) (p : List Int) (w : World) (hv : OwnI w v p) (hn : p.length ≤ 1048576) :
    Calls Try.prog 47 #[.int .i64 n, v] w fun e w' => ∃ r, e = .returned (.tuple #[r, .bool (planB n p)]) ∧ OwnI w' r (mShortPlan n p) ∧ From w.heap.size r ∧ Below w.heap.size w w' := by
  obtain ⟨ad, cap, rfl, hc, _, _⟩ := hv.shape
  cases hg : planB n p with
  | true =>
    have HM := Lib.hid (show mShortPlan n p = shortL p from if_pos hg)
    have hp40 := (planB_iff.1 hg).2.1
    go_enter Try.func47, Try.ntmps47
    go_wp2_with fail
    go_step3
    go_wp2_with fail
    refine (IsPlan_any _ _ _ _ hv hn).mono ?_
    rintro e w1 ⟨rfl, hb⟩
    go_wp2_with fail
    refine (planOf_any _ p _ (hv.same hb) hn).mono ?_
    rintro e w2 ⟨r0, rfl, ho0, hf0, hb2⟩
    have hbr0 := hb.trans (hb2.mono hb.size)
    have hf0' := hf0.mono hb.size
    have hl0 : (noOne p).length ≤ 40 := by have := noOne_length p; omega
    clear hb hb2 hf0
    go_wp2
    go_step3
    go_wp2
    go_loopg [6, 7] 41 (fun gk o _ wr => ∃ l : List Int, l.length ≤ gk ∧ gk ≤ 41 ∧ OwnI wr o l ∧ From w.heap.size o ∧ Hid (ShortAt p l) ∧ Below w.heap.size w wr)
    case atStart => exact ⟨noOne p, by omega, by omega, ho0, hf0', ShortAt.start p, hbr0⟩
    case round =>
      obtain ⟨l, hl, hgk, ho, hf, hat, hbr⟩ := hrel
      obtain ⟨ad2, cap2, rfl, hc2, hm2, hn2⟩ := ho.shape
      clear ho0 hf0' hbr0 hv
      obtain ⟨wo, rfl⟩ : ∃ wo : World, wo = wr := ⟨_, rfl⟩
      go_wp2
      go_loopw [6, 7] (fun s i wr => ∃ k : Nat, k ≤ l.length ∧ i = .int .i64 ((k : Int) + 1) ∧ s = .slice ad2 l.length cap2 ∧ NoTwinTo l (k + 1) ∧ Below wo.heap.size wo wr) (fun _ i _ => l.length + 1 - (intOf i).toNat)
      case atStart => exact ⟨0, Nat.zero_le _, by go_num, rfl, by intro i hi; omega, Below.refl _ _⟩
      case round =>
        obtain ⟨k, hk, rfl, rfl, hnt, hbi⟩ := hrel
        have HN := Lib.hid hnt
        clear hnt
        have hoi := ho.same hbi
        have hBi := hbr.trans (hbi.mono hbr.size)
        by_cases hlt : k + 1 < l.length
        · have hlt0 : k < l.length := by omega
          obtain ⟨g, off, e, hgl, hcell, hfz⟩ := Own.at hoi (by omega)
          have hk1 := hcell k (by omega)
          have hk2 := hcell (k + 1) (by omega)
          rw [List.getElem?_map, List.getElem?_eq_getElem hlt0] at hk1
          rw [List.getElem?_map, List.getElem?_eq_getElem hlt] at hk2
          subst e
          have hci : (k : Int) + 1 < l.length := by omega
          have hci0 : (k : Int) < l.length := by omega
          have hw1 : IntKind.i64.wrap ((k : Int) + 1 - 1) = (k : Int) := by rw [Int.add_sub_cancel]; exact IntWalk.i64_in _ (by omega)
          have hw2 : (0 : Int) ≤ (k : Int) := by omega
          have hw4 : ((k : Int) + 1).toNat = k + 1 := by omega
          by_cases hx : l[k] = l[k + 1]
          · have hq : (l[k] == l[k + 1]) = true := by simp [hx]
            have HAT := Lib.hid (ShortAt.step hat.out hlt hx)
            have hsl := strike_length l k (by omega)
            have HL := Lib.hid hsl
            have hll := ho.lt
            clear hcell hfz hx ho hbr hbi hsl
            go_wp2
            go_quiet (fail)
            clear hw1 hw4
            go_wp2_with fail
            have hoN : ∀ q, OwnI (wr.drewN q) (.slice (some ⟨g, off, none⟩) l.length cap2) l := fun q => Own.kept hoi (fun _ _ => rfl)
            have c := Delete_any (some ⟨g, off, none⟩) cap2 k l
            rw [show (k : Int) + 2 = (k : Int) + 1 + 1 by omega] at c
            refine (c _ (hoN _) (by omega) (by omega)).mono ?_
            rintro e w3 ⟨r, rfl, hor, hrb, hgr⟩
            have hfr : From w.heap.size r := fun b hb => hf b (by rw [← hrb]; exact hb)
            have hB3 := (hBi.drewN _).grown hgr hBi.size (fun b hb => hf b hb)
            clear c hgr hBi hoi hrb
            go_wp2
            go_roundg (gk - 1)
            case measure => omega
            case rel => exact ⟨strike l k, by have := HL.out; omega, by omega, hor, hfr, HAT.out, hB3⟩
          · have hq : (l[k] == l[k + 1]) = false := by simp [hx]
            have HN2 := Lib.hid (show NoTwinTo l (k + 1 + 1) by
              intro i hi
              by_cases e : i = k
              · subst e; rw [getD_eq hlt0, getD_eq hlt]; exact hx
              · exact HN.out i (by omega))
            have HX := Lib.hid hx
            clear hcell hfz hx
            go_wp2
            go_quiet (fail)
            clear hw1 hw4
            go_wp2
            go_roundw
            case rel => exact ⟨k + 1, by omega, by go_num, rfl, HN2.out, hbi.drewN _⟩
            case measure => simp [intOf] <;> omega
        · have hci : (l.length : Int) ≤ k + 1 := by omega
          have HD := Lib.hid (ShortAt.done hat.out (fun i hi => HN.out i (by omega)))
          have hoD : OwnI wr (.slice ad2 l.length cap2) l := hoi
          clear ho hoi
          go_wp2_with fail
          refine (Clip_any _ _ _ hoD).mono ?_
          rintro e w3 ⟨r, rfl, hor, hrb, rfl⟩
          have hfr : From w.heap.size r := fun b hb => hf b (by rw [← hrb]; exact hb)
          clear hrb
          go_wp2
          rw [Exit.noGoto_ret]
          go_ret2
          exact ⟨_, rfl, by rw [HM.out, ← HD.out]; exact hor, hfr, hBi⟩
  | false =>
    have HM := Lib.hid (show mShortPlan n p = [] from if_neg (by rw [hg]; exact Bool.false_ne_true))
    go_enter Try.func47, Try.ntmps47
    go_wp2_with fail
    go_step3
    go_wp2_with fail
    refine (IsPlan_any _ _ _ _ hv hn).mono ?_
    rintro e w1 ⟨rfl, hb⟩
    go_wp2
    rw [Exit.noGoto_ret]
    go_ret2
    exact ⟨_, rfl, by rw [HM.out]; exact OwnI.nil _, From.nil _ _ _, hb⟩

end Go.Proofs.Ytocccocpacohaaa
