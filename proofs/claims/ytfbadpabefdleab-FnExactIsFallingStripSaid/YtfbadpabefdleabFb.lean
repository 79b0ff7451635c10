import Derived.Test.YtfbadpabefdleabFa
import Derived.IntWalk
namespace Go.Pan
def fallB (xs : List Int) (p : Int × Int) : Bool := decide (∀ j, j < xs.length → (p.1 ≤ (j : Int) + 1 → (j : Int) + 1 < p.2 → xs.getD j 0 = xs.getD (j + 1) 0 + 1))
def okFall (xs : List Int) (p : Int × Int) : Bool := goodB xs && segB xs.length p
def mIsFallingStrip (xs : List Int) (p : Int × Int) : Bool := if okFall xs p = true then fallB xs p else false
end Go.Pan
namespace Go.Proofs.Ytfbadpabefdleab
open Go Go.RowKit Go.Pan

set_option maxHeartbeats 1600000 in
set_option maxRecDepth 100000 in
theorem sIsFallingStrip_any (v : Value) (xs : List Int) (p : Int × Int) (w : World) (hv : OwnI w v xs) (hn : xs.length ≤ 1048576) :
    Calls Try.prog 4 #[v, .agg #[.int .i64 p.1, .int .i64 p.2]] w fun e w' => e = .returned (.tuple #[.bool (mIsFallingStrip xs p), .bool (okFall xs p)]) ∧ Below w.heap.size w w' := by
  obtain ⟨ad, cap, rfl, hc, _, _⟩ := hv.shape
  have hsz2 : (Try.prog.info? 28).map (·.size) = some 2 := infoSegment
  have hz : Blk (w.alloc (.cells [.int .i64 p.1, .int .i64 p.2].toArray 28)) w.heap.size 28 [.int .i64 p.1, .int .i64 p.2] := Blk.new w _ _ _ rfl
  have hb0 := below_new w (.cells #[.int .i64 p.1, .int .i64 p.2] 28)
  have hva := hv.alloc (.cells #[.int .i64 p.1, .int .i64 p.2] 28)
  have cg := stGood_any _ _ _ hva hn
  cases hg : goodB xs with
  | false =>
    rw [hg] at cg
    have HO := Lib.hid (show okFall xs p = false by unfold okFall; rw [hg]; rfl)
    have HM := Lib.hid (show mIsFallingStrip xs p = false from if_neg (by rw [HO.out]; exact Bool.false_ne_true))
    clear hg
    go_enter Try.func4, Try.ntmps4
    go_wp2_with fail
    refine cg.mono ?_
    rintro e w1 ⟨rfl, hb1⟩
    have hB1 := hb0.trans (hb1.mono hb0.size)
    go_wp2
    go_ret2
    exact ⟨by rw [HO.out, HM.out]; rfl, hB1⟩
  | true =>
    rw [hg] at cg
    have ci := sgIs_any (xs.length : Int) p
    cases hi : segB xs.length p with
    | false =>
      rw [hi] at ci
      have HO := Lib.hid (show okFall xs p = false by unfold okFall; rw [hi, Bool.and_false])
      have HM := Lib.hid (show mIsFallingStrip xs p = false from if_neg (by rw [HO.out]; exact Bool.false_ne_true))
      clear hg hi
      go_enter Try.func4, Try.ntmps4
      go_wp2_with fail
      refine cg.mono ?_
      rintro e w1 ⟨rfl, hb1⟩
      have hB1 := hb0.trans (hb1.mono hb0.size)
      have hz1 := hz.below hb1 hz.lt
      have q0 : w1.cell? ⟨w.heap.size, 0, none⟩ = some (.int .i64 p.1) := hz1.cell 0
      have q1 : w1.cell? ⟨w.heap.size, 1, none⟩ = some (.int .i64 p.2) := hz1.cell 1
      go_wp2_with fail
      refine (ci _).mono ?_
      rintro e w2 ⟨rfl, hb2⟩
      have hB2 := hB1.trans (hb2.mono hB1.size)
      go_wp2
      go_ret2
      exact ⟨by rw [HO.out, HM.out]; rfl, hB2⟩
    | true =>
      rw [hi] at ci
      have HO := Lib.hid (show okFall xs p = true by unfold okFall; rw [hg, hi]; rfl)
      have HM := Lib.hid (show mIsFallingStrip xs p = fallB xs p from if_pos HO.out)
      have HG := Lib.hid (goodB_iff.1 hg)
      have hl9 := HG.out.le9
      have hB := segB_iff.1 hi
      clear hg hi
      obtain ⟨p0, p1⟩ := p
      obtain ⟨a, rfl⟩ : ∃ a : Nat, p0 = (a : Int) + 1 := ⟨(p0 - 1).toNat, by simp only at hB; omega⟩
      obtain ⟨b, rfl⟩ : ∃ b : Nat, p1 = (b : Int) := ⟨p1.toNat, by simp only at hB; omega⟩
      have hab : b ≤ xs.length ∧ a + 1 < b := by simp only at hB; omega
      obtain ⟨hbx, habl⟩ := hab
      have HF := Lib.hid (show fallB xs ((a : Int) + 1, (b : Int)) = decide (∀ j, j < xs.length → ((a : Int) + 1 ≤ (j : Int) + 1 → (j : Int) + 1 < b → xs.getD j 0 = xs.getD (j + 1) 0 + 1)) from rfl)
      clear hB
      go_enter Try.func4, Try.ntmps4
      go_wp2_with fail
      refine cg.mono ?_
      rintro e w1 ⟨rfl, hb1⟩
      have hB1 := hb0.trans (hb1.mono hb0.size)
      have hz1 := hz.below hb1 hz.lt
      have hv1 := hva.same hb1
      clear hz hb0 hva hv cg hb1
      have q0 : w1.cell? ⟨w.heap.size, 0, none⟩ = some (.int .i64 ((a : Int) + 1)) := hz1.cell 0
      have q1 : w1.cell? ⟨w.heap.size, 1, none⟩ = some (.int .i64 (b : Int)) := hz1.cell 1
      go_wp2_with fail
      refine (ci _).mono ?_
      rintro e w2 ⟨rfl, hb2⟩
      have hB2 := hB1.trans (hb2.mono hB1.size)
      have hz2 := hz1.below hb2 hz1.lt
      have hv2 := hv1.same hb2
      have HZ2 := Lib.hid hz2
      have HV2 := Lib.hid hv2
      have k0 : w2.cell? ⟨w.heap.size, 0, none⟩ = some (.int .i64 ((a : Int) + 1)) := hz2.cell 0
      clear hz1 hv1 hB1 hb2 hz2 hv2 ci q0 q1
      go_wp2
      clear k0
      go_loopw [6] (fun i wr => ∃ m : Nat, a ≤ m ∧ m + 1 ≤ b ∧ i = .int .i64 ((m : Int) + 1) ∧ Hid (∀ j, a ≤ j → j < m → xs.getD j 0 = xs.getD (j + 1) 0 + 1) ∧ Below w2.heap.size w2 wr) (fun i _ => b + 1 - (intOf i).toNat)
      case atStart => exact ⟨a, Nat.le_refl _, by omega, rfl, Lib.hid (fun j h1 h2 => by omega), Below.refl _ _⟩
      case round =>
        obtain ⟨m, ham, hmb, rfl, hfl, hbr⟩ := hrel
        have hzr := HZ2.out.below hbr HZ2.out.lt
        have hvr := HV2.out.below hbr (Nat.le_refl _)
        have k1 : wr.cell? ⟨w.heap.size, 1, none⟩ = some (.int .i64 (b : Int)) := hzr.cell 1
        have hBr := hB2.trans (hbr.mono hB2.size)
        by_cases hlt : m + 1 < b
        · have hlt' : (m : Int) + 1 < b := by omega
          obtain ⟨g, off, rfl, hgl, hcell, _⟩ := hvr.at (by omega)
          have hck := hcell m (by omega)
          have hck2 := hcell (m + 1) (by omega)
          rw [List.getElem?_map, List.getElem?_eq_getElem (by omega)] at hck hck2
          have hx := HG.out.2.2.1 _ (List.getElem_mem (show m < xs.length by omega))
          have hy := HG.out.2.2.1 _ (List.getElem_mem (show m + 1 < xs.length by omega))
          have hdx : xs.getD m 0 = xs[m] := by rw [List.getD_eq_getElem?_getD, List.getElem?_eq_getElem (by omega)]; rfl
          have hdy : xs.getD (m + 1) 0 = xs[m + 1] := by rw [List.getD_eq_getElem?_getD, List.getElem?_eq_getElem (by omega)]; rfl
          obtain ⟨x, hxx⟩ : ∃ x, xs[m] = x := ⟨_, rfl⟩
          obtain ⟨y, hyy⟩ : ∃ y, xs[m + 1] = y := ⟨_, rfl⟩
          rw [hxx] at hck hx hdx
          rw [hyy] at hck2 hy hdy
          have hck' : wr.cell? ⟨g, off + m, none⟩ = some (.int .i64 x) := hck
          have hck2' : wr.cell? ⟨g, off + (m + 1), none⟩ = some (.int .i64 y) := hck2
          have HDX := Lib.hid hdx
          have HDY := Lib.hid hdy
          clear hcell hck hck2 hxx hyy hzr hvr hdx hdy
          have hwm : IntKind.i64.wrap (m : Int) = (m : Int) := IntWalk.i64_in _ (by omega)
          by_cases hxy : x = y + 1
          · have hq : (x != y + 1) = false := by simp [hxy]
            have HFN := Lib.hid (show ∀ j, a ≤ j → j < m + 1 → xs.getD j 0 = xs.getD (j + 1) 0 + 1 from fun j h1 h2 => by
              by_cases h3 : j < m
              · exact hfl.out j h1 h3
              · obtain rfl : j = m := by omega
                rw [HDX.out, HDY.out]; exact hxy)
            clear hxy hfl
            go_wp2
            go_quiet (fail)
            go_wp2
            go_roundw
            case rel => exact ⟨m + 1, by omega, by omega, by go_num, HFN, hbr.drewN _⟩
            case measure => simp [intOf] <;> omega
          · have hq : (x != y + 1) = true := by simp [hxy]
            have HT := Lib.hid (show fallB xs ((a : Int) + 1, (b : Int)) = false by
              rw [HF.out]
              refine decide_eq_false (fun h => ?_)
              have h1 := h m (by omega) (by omega) (by omega)
              rw [HDX.out, HDY.out] at h1
              exact hxy h1)
            clear hxy hfl
            go_wp2
            go_quiet (fail)
            go_wp2
            go_ret2
            exact ⟨by rw [HO.out, HM.out, HT.out]; rfl, hBr.drewN _⟩
        · obtain rfl : m + 1 = b := by omega
          have HT := Lib.hid (show fallB xs ((a : Int) + 1, ((m + 1 : Nat) : Int)) = true by
            rw [HF.out]
            exact decide_eq_true (fun j _ h1 h2 => hfl.out j (by omega) (by omega)))
          clear hzr hvr
          go_wp2
          go_ret2
          exact ⟨by rw [HO.out, HM.out, HT.out]; rfl, hBr⟩

set_option maxHeartbeats 1600000 in
set_option maxRecDepth 100000 in
theorem IsFallingStrip_any (v : Value) (xs : List Int) (p : Int × Int) (w : World) (hv : OwnI w v xs) (hn : xs.length ≤ 1048576) :
    Calls Try.prog 7 #[v, .agg #[.int .i64 p.1, .int .i64 p.2]] w fun e w' => e = .returned (.tuple #[.bool (mIsFallingStrip xs p), .bool (okFall xs p)]) ∧ Below w.heap.size w w' := by
  obtain ⟨ad, cap, rfl, hc, _, _⟩ := hv.shape
  have hsz2 : (Try.prog.info? 28).map (·.size) = some 2 := infoSegment
  have hz : Blk (w.alloc (.cells [.int .i64 p.1, .int .i64 p.2].toArray 28)) w.heap.size 28 [.int .i64 p.1, .int .i64 p.2] := Blk.new w _ _ _ rfl
  have hb0 := below_new w (.cells #[.int .i64 p.1, .int .i64 p.2] 28)
  have hva := hv.alloc (.cells #[.int .i64 p.1, .int .i64 p.2] 28)
  have cg := IsStack_any _ _ _ hva hn
  cases hg : goodB xs with
  | false =>
    rw [hg] at cg
    have HO := Lib.hid (show okFall xs p = false by unfold okFall; rw [hg]; rfl)
    have HM := Lib.hid (show mIsFallingStrip xs p = false from if_neg (by rw [HO.out]; exact Bool.false_ne_true))
    clear hg
    go_enter Try.func7, Try.ntmps7
    go_wp2_with fail
    refine cg.mono ?_
    rintro e w1 ⟨rfl, hb1⟩
    have hB1 := hb0.trans (hb1.mono hb0.size)
    go_wp2
    go_ret2
    exact ⟨by rw [HO.out, HM.out]; rfl, hB1⟩
  | true =>
    rw [hg] at cg
    have ci := IsSegment_any (xs.length : Int) p
    cases hi : segB xs.length p with
    | false =>
      rw [hi] at ci
      have HO := Lib.hid (show okFall xs p = false by unfold okFall; rw [hi, Bool.and_false])
      have HM := Lib.hid (show mIsFallingStrip xs p = false from if_neg (by rw [HO.out]; exact Bool.false_ne_true))
      clear hg hi
      go_enter Try.func7, Try.ntmps7
      go_wp2_with fail
      refine cg.mono ?_
      rintro e w1 ⟨rfl, hb1⟩
      have hB1 := hb0.trans (hb1.mono hb0.size)
      have hz1 := hz.below hb1 hz.lt
      have q0 : w1.cell? ⟨w.heap.size, 0, none⟩ = some (.int .i64 p.1) := hz1.cell 0
      have q1 : w1.cell? ⟨w.heap.size, 1, none⟩ = some (.int .i64 p.2) := hz1.cell 1
      go_wp2_with fail
      refine (ci _).mono ?_
      rintro e w2 ⟨rfl, hb2⟩
      have hB2 := hB1.trans (hb2.mono hB1.size)
      go_wp2
      go_ret2
      exact ⟨by rw [HO.out, HM.out]; rfl, hB2⟩
    | true =>
      rw [hi] at ci
      have HO := Lib.hid (show okFall xs p = true by unfold okFall; rw [hg, hi]; rfl)
      have HM := Lib.hid (show mIsFallingStrip xs p = fallB xs p from if_pos HO.out)
      have HG := Lib.hid (goodB_iff.1 hg)
      have hl9 := HG.out.le9
      have hB := segB_iff.1 hi
      clear hg hi
      obtain ⟨p0, p1⟩ := p
      obtain ⟨a, rfl⟩ : ∃ a : Nat, p0 = (a : Int) + 1 := ⟨(p0 - 1).toNat, by simp only at hB; omega⟩
      obtain ⟨b, rfl⟩ : ∃ b : Nat, p1 = (b : Int) := ⟨p1.toNat, by simp only at hB; omega⟩
      have hab : b ≤ xs.length ∧ a + 1 < b := by simp only at hB; omega
      obtain ⟨hbx, habl⟩ := hab
      have HF := Lib.hid (show fallB xs ((a : Int) + 1, (b : Int)) = decide (∀ j, j < xs.length → ((a : Int) + 1 ≤ (j : Int) + 1 → (j : Int) + 1 < b → xs.getD j 0 = xs.getD (j + 1) 0 + 1)) from rfl)
      clear hB
      go_enter Try.func7, Try.ntmps7
      go_wp2_with fail
      refine cg.mono ?_
      rintro e w1 ⟨rfl, hb1⟩
      have hB1 := hb0.trans (hb1.mono hb0.size)
      have hz1 := hz.below hb1 hz.lt
      have hv1 := hva.same hb1
      clear hz hb0 hva hv cg hb1
      have q0 : w1.cell? ⟨w.heap.size, 0, none⟩ = some (.int .i64 ((a : Int) + 1)) := hz1.cell 0
      have q1 : w1.cell? ⟨w.heap.size, 1, none⟩ = some (.int .i64 (b : Int)) := hz1.cell 1
      go_wp2_with fail
      refine (ci _).mono ?_
      rintro e w2 ⟨rfl, hb2⟩
      have hB2 := hB1.trans (hb2.mono hB1.size)
      have hz2 := hz1.below hb2 hz1.lt
      have hv2 := hv1.same hb2
      have HZ2 := Lib.hid hz2
      have HV2 := Lib.hid hv2
      have k0 : w2.cell? ⟨w.heap.size, 0, none⟩ = some (.int .i64 ((a : Int) + 1)) := hz2.cell 0
      clear hz1 hv1 hB1 hb2 hz2 hv2 ci q0 q1
      go_wp2
      clear k0
      go_loopw [6] (fun i wr => ∃ m : Nat, a ≤ m ∧ m + 1 ≤ b ∧ i = .int .i64 ((m : Int) + 1) ∧ Hid (∀ j, a ≤ j → j < m → xs.getD j 0 = xs.getD (j + 1) 0 + 1) ∧ Below w2.heap.size w2 wr) (fun i _ => b + 1 - (intOf i).toNat)
      case atStart => exact ⟨a, Nat.le_refl _, by omega, rfl, Lib.hid (fun j h1 h2 => by omega), Below.refl _ _⟩
      case round =>
        obtain ⟨m, ham, hmb, rfl, hfl, hbr⟩ := hrel
        have hzr := HZ2.out.below hbr HZ2.out.lt
        have hvr := HV2.out.below hbr (Nat.le_refl _)
        have k1 : wr.cell? ⟨w.heap.size, 1, none⟩ = some (.int .i64 (b : Int)) := hzr.cell 1
        have hBr := hB2.trans (hbr.mono hB2.size)
        by_cases hlt : m + 1 < b
        · have hlt' : (m : Int) + 1 < b := by omega
          obtain ⟨g, off, rfl, hgl, hcell, _⟩ := hvr.at (by omega)
          have hck := hcell m (by omega)
          have hck2 := hcell (m + 1) (by omega)
          rw [List.getElem?_map, List.getElem?_eq_getElem (by omega)] at hck hck2
          have hx := HG.out.2.2.1 _ (List.getElem_mem (show m < xs.length by omega))
          have hy := HG.out.2.2.1 _ (List.getElem_mem (show m + 1 < xs.length by omega))
          have hdx : xs.getD m 0 = xs[m] := by rw [List.getD_eq_getElem?_getD, List.getElem?_eq_getElem (by omega)]; rfl
          have hdy : xs.getD (m + 1) 0 = xs[m + 1] := by rw [List.getD_eq_getElem?_getD, List.getElem?_eq_getElem (by omega)]; rfl
          obtain ⟨x, hxx⟩ : ∃ x, xs[m] = x := ⟨_, rfl⟩
          obtain ⟨y, hyy⟩ : ∃ y, xs[m + 1] = y := ⟨_, rfl⟩
          rw [hxx] at hck hx hdx
          rw [hyy] at hck2 hy hdy
          have hck' : wr.cell? ⟨g, off + m, none⟩ = some (.int .i64 x) := hck
          have hck2' : wr.cell? ⟨g, off + (m + 1), none⟩ = some (.int .i64 y) := hck2
          have HDX := Lib.hid hdx
          have HDY := Lib.hid hdy
          clear hcell hck hck2 hxx hyy hzr hvr hdx hdy
          have hwm : IntKind.i64.wrap (m : Int) = (m : Int) := IntWalk.i64_in _ (by omega)
          by_cases hxy : x = y + 1
          · have hq : (x - y != 1) = false := by simp; omega
            have HFN := Lib.hid (show ∀ j, a ≤ j → j < m + 1 → xs.getD j 0 = xs.getD (j + 1) 0 + 1 from fun j h1 h2 => by
              by_cases h3 : j < m
              · exact hfl.out j h1 h3
              · obtain rfl : j = m := by omega
                rw [HDX.out, HDY.out]; exact hxy)
            clear hxy hfl
            go_wp2
            go_quiet (fail)
            go_wp2
            go_roundw
            case rel => exact ⟨m + 1, by omega, by omega, by go_num, HFN, hbr.drewN _⟩
            case measure => simp [intOf] <;> omega
          · have hq : (x - y != 1) = true := by simp; omega
            have HT := Lib.hid (show fallB xs ((a : Int) + 1, (b : Int)) = false by
              rw [HF.out]
              refine decide_eq_false (fun h => ?_)
              have h1 := h m (by omega) (by omega) (by omega)
              rw [HDX.out, HDY.out] at h1
              exact hxy h1)
            clear hxy hfl
            go_wp2
            go_quiet (fail)
            go_wp2
            go_ret2
            exact ⟨by rw [HO.out, HM.out, HT.out]; rfl, hBr.drewN _⟩
        · obtain rfl : m + 1 = b := by omega
          have HT := Lib.hid (show fallB xs ((a : Int) + 1, ((m + 1 : Nat) : Int)) = true by
            rw [HF.out]
            exact decide_eq_true (fun j _ h1 h2 => hfl.out j (by omega) (by omega)))
          clear hzr hvr
          go_wp2
          go_ret2
          exact ⟨by rw [HO.out, HM.out, HT.out]; rfl, hBr⟩

end Go.Proofs.Ytfbadpabefdleab
