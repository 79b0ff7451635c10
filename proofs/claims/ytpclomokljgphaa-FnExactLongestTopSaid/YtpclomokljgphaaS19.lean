import Derived.Test.YtpclomokljgphaaM9
import Derived.Test.YtpclomokljgphaaS8
namespace Go.Proofs.Ytpclomokljgphaa
open Go Go.RowKit Go.Pan

theorem headD_app (A B : List (List Int)) (h : A.length ≠ 0) : (A ++ B).headD [] = A.headD [] := by
  cases A with
  | nil => simp at h
  | cons a r => rfl
theorem headD_nil {A : List (List Int)} (h : A.length = 0) : A.headD [] = [] := by rw [List.length_eq_zero_iff.1 h]; rfl
theorem app_nil {A B : List (List Int)} (h : A.length = 0) : A ++ B = B := by rw [List.length_eq_zero_iff.1 h]; rfl

theorem lastD_eq (bs : List Int) (q : Nat) (h : bs.length = q + 1) : bs.getLastD 0 = bs[q]'(by omega) := by
  have e : bs.length - 1 = q := by omega
  rw [List.getLastD_eq_getLast?, List.getLast?_eq_getElem?, e, List.getElem?_eq_getElem (by omega)]
  rfl
theorem mayB_last (bs : List Int) (x y : Int) (hin : ¬ x ∈ bs) (hn : bs.length ≠ 0) (hy : bs.getLastD 0 = y) : mayB bs x = !(decide (absI (y - x) ≤ 1)) := by
  unfold mayB
  rw [decide_eq_false hin, decide_eq_false (fun e => hn (by rw [e]; rfl)), hy]
  rfl

set_option maxHeartbeats 4000000 in
theorem gaLook_any (n : Nat) (hn1 : 1 ≤ n) (hn9 : n ≤ 9) : ∀ (f : Nat) (bs : List Int) (v : Value) (w : World) (_ : OwnI w v bs) (_ : bs.length + f = n) (_ : Hid (∀ x ∈ bs, 1 ≤ x ∧ x ≤ 9)),
    Calls Try.prog 99 #[.int .i64 n, v] w fun e w' => ∃ r, e = .returned (.tuple #[.int .i64 (lookL n f bs).length, r]) ∧ OwnI w' r ((lookL n f bs).headD []) ∧ From w.heap.size r ∧ Below w.heap.size w w' := by
  intro f
  induction f with
  | zero =>
    intro bs v w hv hf hb
    obtain ⟨ad, cap, rfl, hc, _, _⟩ := hv.shape
    have hq : ((bs.length : Int) == (n : Int)) = true := by simp; omega
    have hlb : bs.length ≤ 1048576 := by omega
    go_enter Try.func99, Try.ntmps99
    go_wp2_with fail
    refine (l1Own_any _ _ _ hv hlb).mono ?_
    rintro e w1 ⟨r, rfl, ho, hf1, hb1⟩
    clear hv
    go_wp2
    go_ret2
    exact ⟨r, rfl, ho, hf1, hb1⟩
  | succ f ih =>
    intro bs v w hv hf hb
    have hlb : bs.length ≤ 1048576 := by omega
    have hlb9 : bs.length < 9 := by omega
    have IH := Lib.hid ih
    have HF := Lib.hid hf
    have HL := Lib.hid (show lookL n (f + 1) bs = lookTo n f bs n from rfl)
    have hp9 := pow9_le (f + 1) (by omega)
    have HP9 := Lib.hid hp9
    clear ih hf hp9
    obtain ⟨ad, cap, rfl, hc, _, _⟩ := hv.shape
    by_cases hnil : bs.length = 0
    case pos =>
      have hq : ((bs.length : Int) == (n : Int)) = false := beq_eq_false_iff_ne.2 (by have := HF.out; omega)
      have HNIL := Lib.hid hnil
      clear hnil
      go_enter Try.func99, Try.ntmps99
      go_wp2
      go_loopw [6, 7, 8, 9, 10] (fun co fi si _ _ wr => ∃ m : Nat, m ≤ n ∧ si = .int .i64 ((m : Int) + 1) ∧ co = .int .i64 (lookTo n f bs m).length ∧ OwnI wr fi ((lookTo n f bs m).headD []) ∧ From w.heap.size fi ∧ Below w.heap.size w wr) (fun _ _ si _ _ _ => n + 1 - (intOf si).toNat)
      case atStart => exact ⟨0, Nat.zero_le _, by go_num, rfl, OwnI.nil w, From.nil _ _ _, Below.refl _ _⟩
      case round =>
        obtain ⟨m, hm, rfl, rfl, hof, hff, hbr⟩ := hrel
        have hsr := hbr.size
        by_cases hlt : m < n
        · have hle : (m : Int) + 1 ≤ n := by omega
          have hvr := hv.below hbr (Nat.le_refl _)
          have hA : (lookTo n f bs m).length ≤ 387420489 := Nat.le_trans (lookTo_length n f hn9 bs m (by omega)) HP9.out
          have chas := l1Has_any _ bs ((m : Int) + 1) wr hvr hlb
          by_cases hin : ((m : Int) + 1) ∈ bs
          · rw [decide_eq_true hin] at chas
            have HT := Lib.hid (lookTo_no (n := n) (f := f) (bs := bs) (m := m) (by unfold mayB; simp [hin]))
            clear hin hv hvr
            go_wp2_with fail
            refine chas.mono ?_
            rintro e w2 ⟨rfl, hb2⟩
            have hof2 := hof.same hb2
            have hB2 := hbr.trans (hb2.mono hsr)
            clear hof hbr hb2 chas
            go_wp2
            go_roundw
            case rel => exact ⟨m + 1, by omega, by go_num, by rw [HT.out], by rw [HT.out]; exact hof2, hff, hB2⟩
            case measure => simp [intOf] <;> omega
          · rw [decide_eq_false hin] at chas
            have HIN := Lib.hid hin
            clear hin
            have hbn := List.eq_nil_of_length_eq_zero HNIL.out
            have HT := Lib.hid (lookTo_yes (n := n) (f := f) (bs := bs) (m := m) (by unfold mayB; rw [decide_eq_false HIN.out, hbn]; rfl))
            have hq0 : (bs.length : Int) ≤ 0 := by have := HNIL.out; omega
            clear hbn hv
            go_wp2_with fail
            refine chas.mono ?_
            rintro e w2 ⟨rfl, hb2⟩
            have hof2 := hof.same hb2
            have hB2 := hbr.trans (hb2.mono hsr)
            have hv2 := hvr.same hb2
            clear hof hbr hb2 chas hvr
            go_wp2_with fail
            refine (l1Own_any _ _ _ hv2 hlb).mono ?_
            rintro e w3 ⟨r3, rfl, ho3, hf3, hb3⟩
            have hz3 := hb3.size
            go_wp2_with (at_builtin; refine wpList_app1 Try.intSl rfl _ _ rfl _ bs rfl (ho3.alloc _) w2.heap.size hf3 w3.heap.size ((m : Int) + 1) rfl ?c1a w2 (hb3.alloc hz3 _) ?c2a hlb ?_)
            case c1a => simp [go_sem]
            case c2a => simp; omega
            intro v4 w4 ho4 hf4 hb4 _
            have hB4 := hB2.trans (hb4.mono hB2.size)
            have hof4 := hof2.below hb4 (Nat.le_refl _)
            have hz4 := hb4.size
            have hr4 : Hid (∀ x ∈ bs ++ [(m : Int) + 1], 1 ≤ x ∧ x ≤ 9) := Lib.hid (fun x hx => by
              rcases List.mem_append.1 hx with hx | hx
              · exact hb.out x hx
              · simp at hx; omega)
            have hl4 : (bs ++ [(m : Int) + 1]).length + f = n := by rw [List.length_append]; have := HF.out; simp; omega
            have HL4 := Lib.hid hl4
            clear hl4 ho3 hf3 hb3 hof2 hB2 hv2 hf4
            go_wp2_with fail
            refine (IH.out (bs ++ [(m : Int) + 1]) v4 w4 ho4 HL4.out hr4).mono ?_
            rintro e w5 ⟨r5, rfl, ho5, hf5, hb5⟩
            have hof5 := hof4.below hb5 (Nat.le_refl _)
            have hB5 := hB4.trans (hb5.mono hB4.size)
            have hs4 := hB4.size
            have hBl : (lookL n f (bs ++ [(m : Int) + 1])).length ≤ 387420489 := Nat.le_trans (lookL_length n hn9 f _) (pow9_le f (by have := HF.out; omega))
            clear ho4 hof4 hb4 hb5 hB4
            by_cases ha : (lookTo n f bs m).length = 0
            · by_cases hbz : (lookL n f (bs ++ [(m : Int) + 1])).length = 0
              · have hqa : (((lookTo n f bs m).length : Int) == 0) = true := by simp [ha]
                have hqb : ((lookL n f (bs ++ [(m : Int) + 1])).length : Int) ≤ 0 := by omega
                have HH := Lib.hid (show (lookTo n f bs (m + 1)).headD [] = (lookTo n f bs m).headD [] by rw [HT.out, app_nil ha, headD_nil hbz, headD_nil ha])
                clear ha hbz ho5
                go_wp2
                go_roundw
                case rel => exact ⟨m + 1, by omega, by go_num, by rw [HT.out, List.length_append]; go_num, by rw [HH.out]; exact hof5, hff, hB5⟩
                case measure => simp [intOf] <;> omega
              · have hqa : (((lookTo n f bs m).length : Int) == 0) = true := by simp [ha]
                have hqb : 0 < ((lookL n f (bs ++ [(m : Int) + 1])).length : Int) := by omega
                have HH := Lib.hid (show (lookTo n f bs (m + 1)).headD [] = (lookL n f (bs ++ [(m : Int) + 1])).headD [] by rw [HT.out, app_nil ha])
                have hf5' := hf5.mono hs4
                clear ha hbz hof5 hf5
                go_wp2
                go_roundw
                case rel => exact ⟨m + 1, by omega, by go_num, by rw [HT.out, List.length_append]; go_num, by rw [HH.out]; exact ho5, hf5', hB5⟩
                case measure => simp [intOf] <;> omega
            · have hqa : (((lookTo n f bs m).length : Int) == 0) = false := beq_eq_false_iff_ne.2 (by omega)
              have HH := Lib.hid (show (lookTo n f bs (m + 1)).headD [] = (lookTo n f bs m).headD [] by rw [HT.out, headD_app _ _ ha])
              clear ha ho5
              go_wp2
              go_roundw
              case rel => exact ⟨m + 1, by omega, by go_num, by rw [HT.out, List.length_append]; go_num, by rw [HH.out]; exact hof5, hff, hB5⟩
              case measure => simp [intOf] <;> omega
        · obtain rfl : m = n := by omega
          have hle : (m : Int) < m + 1 := by omega
          have HO := Lib.hid hof
          clear hv hof
          go_wp2
          go_ret2
          exact ⟨_, by rw [HL.out]; rfl, by rw [HL.out]; exact HO.out, hff, hbr⟩
    case neg =>
      obtain ⟨q, hbq⟩ : ∃ q, bs.length = q + 1 := ⟨bs.length - 1, by omega⟩
      obtain ⟨g, off, rfl, hgl, hcell0, _⟩ := hv.at (by omega)
      have hq : (((q : Int) + 1) == (n : Int)) = false := beq_eq_false_iff_ne.2 (by have := HF.out; omega)
      rw [hbq]
      replace hv : OwnI w (.slice (some ⟨g, off, none⟩) (q + 1) cap) bs := by rw [← hbq]; exact hv
      have HBQ := Lib.hid hbq
      have hq9 : q < 9 := by omega
      clear hnil hbq
      go_enter Try.func99, Try.ntmps99
      go_wp2
      go_loopw [6, 7, 8, 9, 10] (fun co fi si _ _ wr => ∃ m : Nat, m ≤ n ∧ si = .int .i64 ((m : Int) + 1) ∧ co = .int .i64 (lookTo n f bs m).length ∧ OwnI wr fi ((lookTo n f bs m).headD []) ∧ From w.heap.size fi ∧ Below w.heap.size w wr) (fun _ _ si _ _ _ => n + 1 - (intOf si).toNat)
      case atStart => exact ⟨0, Nat.zero_le _, by go_num, rfl, OwnI.nil w, From.nil _ _ _, Below.refl _ _⟩
      case round =>
        obtain ⟨m, hm, rfl, rfl, hof, hff, hbr⟩ := hrel
        have hsr := hbr.size
        by_cases hlt : m < n
        · have hle : (m : Int) + 1 ≤ n := by omega
          have hvr := hv.below hbr (Nat.le_refl _)
          have hA : (lookTo n f bs m).length ≤ 387420489 := Nat.le_trans (lookTo_length n f hn9 bs m (by omega)) HP9.out
          have chas := l1Has_any _ bs ((m : Int) + 1) wr hvr hlb
          by_cases hin : ((m : Int) + 1) ∈ bs
          · rw [decide_eq_true hin] at chas
            have HT := Lib.hid (lookTo_no (n := n) (f := f) (bs := bs) (m := m) (by unfold mayB; simp [hin]))
            clear hin hv hvr
            go_wp2_with fail
            refine chas.mono ?_
            rintro e w2 ⟨rfl, hb2⟩
            have hof2 := hof.same hb2
            have hB2 := hbr.trans (hb2.mono hsr)
            clear hof hbr hb2 chas
            go_wp2
            go_roundw
            case rel => exact ⟨m + 1, by omega, by go_num, by rw [HT.out], by rw [HT.out]; exact hof2, hff, hB2⟩
            case measure => simp [intOf] <;> omega
          · rw [decide_eq_false hin] at chas
            have HIN := Lib.hid hin
            clear hin
            have hlast := hcell0 q (by have := HBQ.out; omega)
            rw [List.getElem?_map, List.getElem?_eq_getElem (by have := HBQ.out; omega)] at hlast
            have hbd := hb.out _ (List.getElem_mem (show q < bs.length by have := HBQ.out; omega))
            have hlD := lastD_eq bs q HBQ.out
            obtain ⟨y, hy⟩ : ∃ y, bs[q]'(by have := HBQ.out; omega) = y := ⟨_, rfl⟩
            rw [hy] at hbd hlD hlast
            have hMB := mayB_last bs ((m : Int) + 1) y HIN.out (by have := HBQ.out; omega) hlD
            obtain ⟨hy1, hy2⟩ := hbd
            have cab := fun W => l1Abs_any (y - ((m : Int) + 1)) W (by omega) (by omega)
            have hm9 : (m : Int) < 9 := by omega
            have hlr := (hbr.cell (p := ⟨g, off + q, none⟩) hgl).trans hlast
            go_wp2_with fail
            refine chas.mono ?_
            rintro e w2 ⟨rfl, hb2⟩
            have hof2 := hof.same hb2
            have hB2 := hbr.trans (hb2.mono hsr)
            have hv2 := hvr.same hb2
            have hl2 : w2.cell? ⟨g, off + q, none⟩ = some (iv y) := (hb2.cell (p := ⟨g, off + q, none⟩) (Nat.lt_of_lt_of_le hgl hsr)).trans hlr
            clear hof hbr hb2 chas hvr hlast hlD hy hlr hv
            by_cases hab : absI (y - ((m : Int) + 1)) ≤ 1
            · have HT := Lib.hid (lookTo_no (n := n) (f := f) (bs := bs) (m := m) (by rw [hMB, decide_eq_true hab]; rfl))
              clear hMB
              go_wp2_with fail
              refine (cab _).mono ?_
              rintro e w7 ⟨rfl, rfl⟩
              go_wp2
              go_roundw
              case rel => exact ⟨m + 1, by omega, by go_num, by rw [HT.out], by rw [HT.out]; exact hof2, hff, hB2⟩
              case measure => simp [intOf] <;> omega
            · have HT := Lib.hid (lookTo_yes (n := n) (f := f) (bs := bs) (m := m) (by rw [hMB, decide_eq_false hab]; rfl))
              have hab' : 1 < absI (y - ((m : Int) + 1)) := by omega
              clear hMB hab
              go_wp2_with fail
              refine (cab _).mono ?_
              rintro e w7 ⟨rfl, rfl⟩
              go_wp2_with fail
              refine (l1Own_any _ _ _ hv2 hlb).mono ?_
              rintro e w3 ⟨r3, rfl, ho3, hf3, hb3⟩
              have hz3 := hb3.size
              go_wp2_with (at_builtin; refine wpList_app1 Try.intSl rfl _ _ rfl _ bs rfl (ho3.alloc _) w2.heap.size hf3 w3.heap.size ((m : Int) + 1) rfl ?c1b w2 (hb3.alloc hz3 _) ?c2b hlb ?_)
              case c1b => simp [go_sem]
              case c2b => simp; omega
              intro v4 w4 ho4 hf4 hb4 _
              have hB4 := hB2.trans (hb4.mono hB2.size)
              have hof4 := hof2.below hb4 (Nat.le_refl _)
              have hz4 := hb4.size
              have hr4 : Hid (∀ x ∈ bs ++ [(m : Int) + 1], 1 ≤ x ∧ x ≤ 9) := Lib.hid (fun x hx => by
                rcases List.mem_append.1 hx with hx | hx
                · exact hb.out x hx
                · simp at hx; omega)
              have hl4 : (bs ++ [(m : Int) + 1]).length + f = n := by rw [List.length_append]; have := HF.out; simp; omega
              have HL4 := Lib.hid hl4
              clear hl4 ho3 hf3 hb3 hof2 hB2 hv2 hf4
              go_wp2_with fail
              refine (IH.out (bs ++ [(m : Int) + 1]) v4 w4 ho4 HL4.out hr4).mono ?_
              rintro e w5 ⟨r5, rfl, ho5, hf5, hb5⟩
              have hof5 := hof4.below hb5 (Nat.le_refl _)
              have hB5 := hB4.trans (hb5.mono hB4.size)
              have hs4 := hB4.size
              have hBl : (lookL n f (bs ++ [(m : Int) + 1])).length ≤ 387420489 := Nat.le_trans (lookL_length n hn9 f _) (pow9_le f (by have := HF.out; omega))
              clear ho4 hof4 hb4 hb5 hB4
              by_cases ha : (lookTo n f bs m).length = 0
              · by_cases hbz : (lookL n f (bs ++ [(m : Int) + 1])).length = 0
                · have hqa : (((lookTo n f bs m).length : Int) == 0) = true := by simp [ha]
                  have hqb : ((lookL n f (bs ++ [(m : Int) + 1])).length : Int) ≤ 0 := by omega
                  have HH := Lib.hid (show (lookTo n f bs (m + 1)).headD [] = (lookTo n f bs m).headD [] by rw [HT.out, app_nil ha, headD_nil hbz, headD_nil ha])
                  clear ha hbz ho5
                  go_wp2
                  go_roundw
                  case rel => exact ⟨m + 1, by omega, by go_num, by rw [HT.out, List.length_append]; go_num, by rw [HH.out]; exact hof5, hff, hB5⟩
                  case measure => simp [intOf] <;> omega
                · have hqa : (((lookTo n f bs m).length : Int) == 0) = true := by simp [ha]
                  have hqb : 0 < ((lookL n f (bs ++ [(m : Int) + 1])).length : Int) := by omega
                  have HH := Lib.hid (show (lookTo n f bs (m + 1)).headD [] = (lookL n f (bs ++ [(m : Int) + 1])).headD [] by rw [HT.out, app_nil ha])
                  have hf5' := hf5.mono hs4
                  clear ha hbz hof5 hf5
                  go_wp2
                  go_roundw
                  case rel => exact ⟨m + 1, by omega, by go_num, by rw [HT.out, List.length_append]; go_num, by rw [HH.out]; exact ho5, hf5', hB5⟩
                  case measure => simp [intOf] <;> omega
              · have hqa : (((lookTo n f bs m).length : Int) == 0) = false := beq_eq_false_iff_ne.2 (by omega)
                have HH := Lib.hid (show (lookTo n f bs (m + 1)).headD [] = (lookTo n f bs m).headD [] by rw [HT.out, headD_app _ _ ha])
                clear ha ho5
                go_wp2
                go_roundw
                case rel => exact ⟨m + 1, by omega, by go_num, by rw [HT.out, List.length_append]; go_num, by rw [HH.out]; exact hof5, hff, hB5⟩
                case measure => simp [intOf] <;> omega
        · obtain rfl : m = n := by omega
          have hle : (m : Int) < m + 1 := by omega
          have HO := Lib.hid hof
          clear hv hof
          go_wp2
          go_ret2
          exact ⟨_, by rw [HL.out]; rfl, by rw [HL.out]; exact HO.out, hff, hbr⟩

end Go.Proofs.Ytpclomokljgphaa
