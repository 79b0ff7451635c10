import Derived.Test.YtmlikchhkblohaaCe
import Derived.Test.YtmlikchhkblohaaI2
import Derived.Test.YtmlikchhkblohaaTw
namespace Go.Proofs.Ytmlikchhkblohaa
open Go Go.RowKit Go.Pan

theorem toSegment_any (x : Int × Int) (w : World) :
    Calls Try.prog 58 #[.agg #[.int .i64 x.1, .int .i64 x.2]] w fun e w' => e = .returned (.agg #[.int .i64 x.1, .int .i64 x.2]) ∧ Below w.heap.size w w' := by
  go_enter Try.func58, Try.ntmps58
  go_wp2
  exact bodyPost_ret (v := .agg #[.int .i64 x.1, .int .i64 x.2]) (by simp [results, Try.results58, go_sem]) rfl ⟨rfl, (((Below.refl _ _).alloc (Nat.le_refl _) _).alloc (by simp) _).alloc (by simp; omega) _⟩

theorem szSegmentS_yes (ad : Option Addr) (n cap : Nat) (left : Int) (w : World) (h1 : (n : Int) ≤ left) (h2 : left ≤ 1048576) (h3 : 0 ≤ left) :
    Calls Try.prog 51 #[.slice ad n cap, .int .i64 left] w fun e w' => e = .returned (.int .i64 (left - n)) ∧ w = w' := by
  have h4 : (0 : Int) ≤ left - n := by omega
  go_enter Try.func51, Try.ntmps51
  go_wp2
  go_ret
  exact ⟨rfl, rfl⟩
theorem szSegmentS_no (ad : Option Addr) (n cap : Nat) (left : Int) (w : World) (h1 : left < (n : Int)) (h2 : (n : Int) ≤ 9223372036854775807) (h3 : 0 ≤ left) :
    Calls Try.prog 51 #[.slice ad n cap, .int .i64 left] w fun e w' => e = .returned (.int .i64 (-1)) ∧ w = w' := by
  have h4 : left - (n : Int) < 0 := by omega
  go_enter Try.func51, Try.ntmps51
  go_wp2
  go_ret
  exact ⟨rfl, rfl⟩

theorem eqSegment_any (x y : Int × Int) (w : World) :
    Calls Try.prog 106 #[.agg #[.int .i64 x.1, .int .i64 x.2], .agg #[.int .i64 y.1, .int .i64 y.2]] w fun e w' => e = .returned (.bool (decide (x = y))) ∧ Below w.heap.size w w' := by
  obtain ⟨x0, x1⟩ := x
  obtain ⟨y0, y1⟩ := y
  by_cases h0 : x0 = y0
  · by_cases h1 : x1 = y1
    · have HR := Lib.hid (show decide ((x0, x1) = (y0, y1)) = true by simp [h0, h1])
      have q0 : ((x0 : Int) != y0) = false := by simp [h0]
      have q1 : ((x1 : Int) != y1) = false := by simp [h1]
      clear h0 h1
      go_enter Try.func106, Try.ntmps106
      go_wp2
      go_ret
      exact ⟨by rw [HR.out]; rfl, ((Below.refl _ _).alloc (Nat.le_refl _) _).alloc (by simp) _⟩
    · have HR := Lib.hid (show decide ((x0, x1) = (y0, y1)) = false by simp [h1])
      have q0 : ((x0 : Int) != y0) = false := by simp [h0]
      have q1 : ((x1 : Int) != y1) = true := by simp [h1]
      clear h0 h1
      go_enter Try.func106, Try.ntmps106
      go_wp2
      go_ret
      exact ⟨by rw [HR.out]; rfl, ((Below.refl _ _).alloc (Nat.le_refl _) _).alloc (by simp) _⟩
  · have HR := Lib.hid (show decide ((x0, x1) = (y0, y1)) = false by simp [h0])
    have q0 : ((x0 : Int) != y0) = true := by simp [h0]
    clear h0
    go_enter Try.func106, Try.ntmps106
    go_wp2
    go_ret
    exact ⟨by rw [HR.out]; rfl, ((Below.refl _ _).alloc (Nat.le_refl _) _).alloc (by simp) _⟩


theorem infoSegment : (Try.prog.info? 62).map (·.size) = some 2 := by kernel_rfl

theorem infoSegmentW : (Try.prog.info? 60).map (·.size) = some 2 := by kernel_rfl

theorem infoSegment3 : (Try.prog.info? 62).map (fun i => (i.zero, i.size, i.bytes)) = some (some (.agg #[.int .i64 0, .int .i64 0]), 2, 16) := by kernel_rfl

set_option maxRecDepth 100000 in
set_option maxHeartbeats 1600000 in
theorem eqSegmentS_any (v u : Value) (xs ys : List (Int × Int)) (w : World) (hv : Vals c2 w v xs) (hu : Vals c2 w u ys) (hn : xs.length ≤ 1048576) (_hm : ys.length ≤ 1048576) :
    Calls Try.prog 55 #[v, u] w fun e w' => e = .returned (.bool (decide (xs = ys))) ∧ Below w.heap.size w w' := by
  obtain ⟨ad, cap, rfl, hc, _, hr⟩ := hv
  obtain ⟨bd, cbp, rfl, hc', _, hs⟩ := hu
  by_cases hl : xs.length = ys.length
  · rw [← hl]
    have HL := Lib.hid hl
    clear hl
    go_enter Try.func55, Try.ntmps55
    go_wp2
    go_loopw [5] (fun i wr => ∃ k : Nat, k ≤ xs.length ∧ i = .int .i64 k ∧ xs.take k = ys.take k ∧ Below w.heap.size w wr) (fun i _ => xs.length - (intOf i).toNat)
    case atStart => exact ⟨0, Nat.zero_le _, rfl, by simp, Below.refl _ _⟩
    case round =>
      obtain ⟨k, hk, rfl, he, hbr⟩ := hrel
      have HE := Lib.hid he
      clear he
      by_cases hlt : k < xs.length
      · have hlt2 : k < ys.length := by have := HL.out; omega
        obtain ⟨b, off, rfl, hbl, hcell⟩ := hr (by intro h; simp [h] at hlt)
        obtain ⟨b', off', rfl, hbl', hcell'⟩ := hs (by intro h; simp [h] at hlt2)
        have hr1 := range_below (Vals.cells hcell hlt) hbr hbl
        have hr2 := range_below (Vals.cells hcell' hlt2) hbr hbl'
        obtain ⟨p, hp⟩ : ∃ p, xs[k] = p := ⟨_, rfl⟩
        obtain ⟨q, hq⟩ : ∃ q, ys[k] = q := ⟨_, rfl⟩
        rw [hp] at hr1
        rw [hq] at hr2
        have hr1' : wr.rangeAt b (off + k * 2) [iv p.1, iv p.2] := hr1
        have hr2' : wr.rangeAt b' (off' + k * 2) [iv q.1, iv q.2] := hr2
        have HP := Lib.hid hp
        have HQ := Lib.hid hq
        have hut := Try.underlying62
        have hsz : (Try.prog.info? 62).map (·.size) = some ([iv p.1, iv p.2] : List Value).length := infoSegment
        have hsz2 : (Try.prog.info? 62).map (·.size) = some ([iv q.1, iv q.2] : List Value).length := infoSegment
        have hsr := hbr.size
        have hbw : b < wr.heap.size := by omega
        have hbw' : b' < wr.heap.size := by omega
        have hEq : (if p = q then true else false) = decide (p = q) := by by_cases h : p = q <;> simp [h]
        clear hr hcell hs hcell' hr1 hr2 hp hq hEq
        go_wp2_with fail
        refine wp_region_held_drew (S := (fun w' => w'.rangeAt b (off + k * 2) [iv p.1, iv p.2] ∧ w'.rangeAt b' (off' + k * 2) [iv q.1, iv q.2])) (by kernel_rfl) (⟨hr1', hr2'⟩) (fun hHeld => ?_)
        refine wpAnyH_take (i := 0) (v := ?_) rfl (by kernel_rfl) (by kernel_rfl) (by kernel_rfl) (fun _ _ _ h => h) (Or.inl ⟨by rfl, ?_⟩) (by assumption) ?_
        rotate_left
        · intro w _; go_simp; with_reducible rfl
        try simp only [List.getElem_toArray, List.getElem_cons_zero, Act.put, List.setIfInBounds_toArray, List.set_cons_zero, List.set_cons_succ]
        refine wpAnyH_take (i := 1) (v := ?_) rfl (by kernel_rfl) (by kernel_rfl) (by kernel_rfl) (fun _ _ _ h => h) (Or.inl ⟨by rfl, ?_⟩) (by assumption) ?_
        rotate_left
        · intro w _; go_simp; with_reducible rfl
        try simp only [List.getElem_toArray, List.getElem_cons_zero, List.getElem_cons_succ, Act.put, List.setIfInBounds_toArray, List.set_cons_zero, List.set_cons_succ]
        refine wpAnyH_take (i := 2) (v := ?_) rfl (by kernel_rfl) (by kernel_rfl) (by kernel_rfl) (fun _ _ _ h => h) (Or.inl ⟨by rfl, ?_⟩) (by assumption) ?_
        rotate_left
        · intro w _; go_simp; with_reducible rfl
        try simp only [List.getElem_toArray, List.getElem_cons_zero, List.getElem_cons_succ, Act.put, List.setIfInBounds_toArray, List.set_cons_zero, List.set_cons_succ]
        refine wpAnyH_take (i := 3) rfl (by kernel_rfl) (by kernel_rfl) (by kernel_rfl) (fun _ _ _ h => h) (yieldsIf_load_mid (by rfl) _ _ rfl _ _ rfl _ _ (fun w hw => hw.1) hut rfl hsz) (by assumption) ?_
        try simp only [List.getElem_toArray, List.getElem_cons_zero, List.getElem_cons_succ, Act.put, List.setIfInBounds_toArray, List.set_cons_zero, List.set_cons_succ]
        refine wpAnyH_take (i := 4) (v := ?_) rfl (by kernel_rfl) (by kernel_rfl) (by kernel_rfl) (fun _ _ _ h => h) (Or.inl ⟨by rfl, ?_⟩) (by assumption) ?_
        rotate_left
        · intro w _; go_simp; with_reducible rfl
        try simp only [List.getElem_toArray, List.getElem_cons_zero, List.getElem_cons_succ, Act.put, List.setIfInBounds_toArray, List.set_cons_zero, List.set_cons_succ]
        refine wpAnyH_take (i := 5) (v := ?_) rfl (by kernel_rfl) (by kernel_rfl) (by kernel_rfl) (fun _ _ _ h => h) (Or.inl ⟨by rfl, ?_⟩) (by assumption) ?_
        rotate_left
        · intro w _; go_simp; with_reducible rfl
        try simp only [List.getElem_toArray, List.getElem_cons_zero, List.getElem_cons_succ, Act.put, List.setIfInBounds_toArray, List.set_cons_zero, List.set_cons_succ]
        refine wpAnyH_take (i := 6) (v := ?_) rfl (by kernel_rfl) (by kernel_rfl) (by kernel_rfl) (fun _ _ _ h => h) (Or.inl ⟨by rfl, ?_⟩) (by assumption) ?_
        rotate_left
        · intro w _; go_simp; with_reducible rfl
        try simp only [List.getElem_toArray, List.getElem_cons_zero, List.getElem_cons_succ, Act.put, List.setIfInBounds_toArray, List.set_cons_zero, List.set_cons_succ]
        refine wpAnyH_take (i := 7) rfl (by kernel_rfl) (by kernel_rfl) (by kernel_rfl) (fun _ _ _ h => h) (yieldsIf_load_mid (by rfl) _ _ rfl _ _ rfl _ _ (fun w hw => hw.2) hut rfl hsz2) (by assumption) ?_
        try simp only [List.getElem_toArray, List.getElem_cons_zero, List.getElem_cons_succ, Act.put, List.setIfInBounds_toArray, List.set_cons_zero, List.set_cons_succ]
        refine wpAnyH_ready (rs := [8]) (by kernel_rfl) (by simp) ?_
        refine AllReadyH.cons rfl (fun K hK => ?_) AllReadyH.nil
        go_simp
        refine (eqSegment_any p q _).mono ?_
        rintro e w2 ⟨rfl, hb2⟩
        go_wp2_with fail
        refine hK.out _ _ (⟨range_below hHeld.1 hb2 hbw, range_below hHeld.2 hb2 hbw'⟩) (fun hHeld => ?_)
        clear hK K
        try simp only [List.getElem_toArray, List.getElem_cons_zero, List.getElem_cons_succ, Act.put, List.setIfInBounds_toArray, List.set_cons_zero, List.set_cons_succ]
        refine wpAnyH_take (i := 9) (v := ?_) rfl (by kernel_rfl) (by kernel_rfl) (by kernel_rfl) (fun _ _ _ h => h) (Or.inl ⟨by rfl, ?_⟩) (by assumption) ?_
        rotate_left
        · intro w _; go_simp; with_reducible rfl
        try simp only [List.getElem_toArray, List.getElem_cons_zero, List.getElem_cons_succ, Act.put, List.setIfInBounds_toArray, List.set_cons_zero, List.set_cons_succ]
        refine wpAnyH_done (by kernel_rfl) ?_ _
        have hB2 := hbr.drew.trans (hb2.mono hsr)
        by_cases hx : p = q
        · have HX := Lib.hid hx
          have hd : decide (p = q) = true := by simp [hx]
          rw [hd]
          clear hx
          go_wp2
          go_roundw
          case rel => exact ⟨k + 1, by omega, by go_num, by rw [List.take_succ_eq_append_getElem hlt, List.take_succ_eq_append_getElem hlt2, HE.out, HP.out, HQ.out, HX.out], hB2⟩
          case measure => simp [intOf]; omega
        · have HX := Lib.hid hx
          have hd : decide (p = q) = false := by simp [hx]
          rw [hd]
          clear hx
          go_wp2
          go_ret
          exact ⟨by rw [show decide (xs = ys) = false from decide_eq_false fun e => HX.out (by rw [← HP.out, ← HQ.out]; simp [e])]; rfl, hB2⟩
      · obtain rfl : k = xs.length := by omega
        clear hr hs
        go_wp2
        go_ret
        have h := HE.out
        rw [List.take_length, HL.out, List.take_length] at h
        exact ⟨by rw [show decide (xs = ys) = true from decide_eq_true h]; rfl, hbr⟩
  · have hq : (((xs.length : Nat) : Int) != (ys.length : Int)) = true := by simp; omega
    have HL := Lib.hid hl
    clear hl
    go_enter Try.func55, Try.ntmps55
    go_wp2
    go_ret
    exact ⟨by rw [show decide (xs = ys) = false from decide_eq_false fun e => HL.out (by rw [e])]; rfl, Below.refl _ _⟩

set_option maxHeartbeats 1600000 in
theorem markSegmentS_any (v : Value) (n : Nat) (cs : List Value) (k0 : Int) (w : World) (hv : Own w 2 v n cs) (hn : n ≤ 1048576) (h0 : 0 ≤ k0) (h1 : k0 ≤ 1099511627776) :
    Calls Try.prog 56 #[v, .int .i64 k0] w fun e w' => e = .returned (.int .i64 (k0 + ((n * 2 : Nat) : Int))) ∧ Own w' 2 v n ((ramp k0 (n * 2)).map iv) ∧ w.grownBy w' v.ownBlock := by
  obtain ⟨ad, cap, rfl, hc, _, _⟩ := hv.shape
  have hl := hv.len
  have HL := Lib.hid hl
  clear hl
  go_enter Try.func56, Try.ntmps56
  go_wp2
  go_loopw [1, 5] (fun q i wr => ∃ k : Nat, k ≤ n ∧ i = .int .i64 k ∧ q = .int .i64 (k0 + ((k * 2 : Nat) : Int)) ∧ Own wr 2 (.slice ad n cap) n ((ramp k0 (k * 2)).map iv ++ cs.drop (k * 2)) ∧ w.grownBy wr (Value.slice ad n cap).ownBlock) (fun _ i _ => n - (intOf i).toNat)
  case atStart => exact ⟨0, Nat.zero_le _, rfl, by simp, by simpa [ramp] using hv, World.grownBy.refl _ _⟩
  case round =>
    obtain ⟨k, hk, rfl, rfl, ho, hg⟩ := hrel
    by_cases hlt : k < n
    · obtain ⟨g, off, rfl, hgl, hcell, hf⟩ := ho.at (by omega)
      have hl := HL.out
      have hk2 : k * 2 + 1 < n * 2 := by omega
      have hck := hcell (k * 2) (by omega)
      have hck1 := hcell (k * 2 + 1) (by omega)
      have hfk := hf (off + k * 2)
      have hfk1 := hf (off + k * 2 + 1)
      have hkc : k * 2 < ((ramp k0 (k * 2)).map iv ++ cs.drop (k * 2)).length := by rw [ho.len]; omega
      have hkc1 : k * 2 + 1 < ((ramp k0 (k * 2)).map iv ++ cs.drop (k * 2)).length := by rw [ho.len]; omega
      rw [List.getElem?_eq_getElem hkc] at hck
      rw [List.getElem?_eq_getElem hkc1, ← Nat.add_assoc] at hck1
      have hst := ho.stored (k * 2) (by omega) (iv (k0 + ((k * 2 : Nat) : Int)))
      rw [mark_step cs k0 (k * 2) (by omega)] at hst
      have hst1 := hst.stored (k * 2 + 1) (by omega) (iv (k0 + ((k * 2 + 1 : Nat) : Int)))
      rw [mark_step cs k0 (k * 2 + 1) (by omega), show k * 2 + 1 + 1 = (k + 1) * 2 by omega, ← Nat.add_assoc] at hst1
      have hg2 := grown_set (grown_set hg (off + k * 2) (iv (k0 + ((k * 2 : Nat) : Int)))) (off + k * 2 + 1) (iv (k0 + ((k * 2 + 1 : Nat) : Int)))
      have b0 : 0 ≤ k0 + (k : Int) * 2 := by omega
      have b1 : k0 + (k : Int) * 2 ≤ 1099611627776 := by omega
      obtain ⟨d0, hd0⟩ : ∃ d, ((ramp k0 (k * 2)).map iv ++ cs.drop (k * 2))[k * 2] = d := ⟨_, rfl⟩
      obtain ⟨d1, hd1⟩ : ∃ d, ((ramp k0 (k * 2)).map iv ++ cs.drop (k * 2))[k * 2 + 1] = d := ⟨_, rfl⟩
      rw [hd0] at hck
      rw [hd1] at hck1
      have e0 : k0 + ((k * 2 : Nat) : Int) = k0 + (k : Int) * 2 := by omega
      have e1 : k0 + ((k * 2 + 1 : Nat) : Int) = k0 + (k : Int) * 2 + 1 := by omega
      rw [e0, e1] at hst1 hg2
      clear hd0 hd1 hcell hf ho hv hg hst hl hk2 hkc hkc1 e0 e1
      go_wp2
      go_roundw
      case rel => exact ⟨k + 1, by omega, by go_num, ival (by omega), hst1, hg2⟩
      case measure => simp [intOf]; omega
    · obtain rfl : k = n := by omega
      have he : cs.drop (k * 2) = [] := by rw [List.drop_eq_nil_iff, HL.out]; exact Nat.le_refl _
      rw [he, List.append_nil] at ho
      have HE := Lib.hid he
      clear he hv
      go_wp2
      go_ret
      exact ⟨rfl, ho, hg⟩

set_option maxHeartbeats 1600000 in
theorem heldSegmentS_any (v : Value) (n : Nat) (k0 : Int) (w : World) (hv : Own w 2 v n ((ramp k0 (n * 2)).map iv)) (hn : n ≤ 1048576) (h0 : 0 ≤ k0) (h1 : k0 ≤ 1099511627776) :
    Calls Try.prog 66 #[v, .int .i64 k0] w fun e w' => e = .returned (.int .i64 (k0 + ((n * 2 : Nat) : Int))) ∧ Below w.heap.size w w' := by
  obtain ⟨ad, cap, rfl, hc, _, _⟩ := hv.shape
  go_enter Try.func66, Try.ntmps66
  go_wp2
  go_loopw [1, 5] (fun q i wr => ∃ k : Nat, k ≤ n ∧ i = .int .i64 k ∧ q = .int .i64 (k0 + ((k * 2 : Nat) : Int)) ∧ Below w.heap.size w wr) (fun _ i _ => n - (intOf i).toNat)
  case atStart => exact ⟨0, Nat.zero_le _, rfl, by simp, Below.refl _ _⟩
  case round =>
    obtain ⟨k, hk, rfl, rfl, hbr⟩ := hrel
    by_cases hlt : k < n
    · obtain ⟨g, off, rfl, hgl, hcell, hf⟩ := hv.at (by omega)
      have hck := hcell (k * 2) (by omega)
      have hck1 := hcell (k * 2 + 1) (by omega)
      have hkc : k * 2 < ((ramp k0 (n * 2)).map iv).length := by rw [List.length_map, ramp_length]; omega
      have hkc1 : k * 2 + 1 < ((ramp k0 (n * 2)).map iv).length := by rw [List.length_map, ramp_length]; omega
      rw [List.getElem?_eq_getElem hkc, List.getElem_map, ramp_get k0 (n * 2) (k * 2) (by omega)] at hck
      rw [List.getElem?_eq_getElem hkc1, List.getElem_map, ramp_get k0 (n * 2) (k * 2 + 1) (by omega), ← Nat.add_assoc] at hck1
      have hc1 := (hbr.cell (p := ⟨g, off + k * 2, none⟩) hgl).trans hck
      have hc2 := (hbr.cell (p := ⟨g, off + k * 2 + 1, none⟩) hgl).trans hck1
      have b0 : 0 ≤ k0 + (k : Int) * 2 := by omega
      have b1 : k0 + (k : Int) * 2 ≤ 1099611627776 := by omega
      have q0 : ((k0 + (k : Int) * 2) != (k0 + (k : Int) * 2)) = false := by simp
      have q1 : ((k0 + (k : Int) * 2 + 1) != (k0 + (k : Int) * 2 + 1)) = false := by simp
      have e0 : k0 + ((k * 2 : Nat) : Int) = k0 + (k : Int) * 2 := by omega
      have e1 : k0 + ((k * 2 + 1 : Nat) : Int) = k0 + (k : Int) * 2 + 1 := by omega
      rw [e0] at hc1
      rw [e1] at hc2
      clear e0 e1
      clear hcell hf hck hck1 hv hkc hkc1
      go_wp2
      go_roundw
      case rel => exact ⟨k + 1, by omega, by go_num, ival (by omega), hbr⟩
      case measure => simp [intOf]; omega
    · obtain rfl : k = n := by omega
      clear hv
      go_wp2
      go_ret
      exact ⟨rfl, hbr⟩

set_option maxRecDepth 100000 in
set_option maxHeartbeats 1600000 in
theorem toSegmentS_any (v : Value) (xs : List (Int × Int)) (w : World) (hv : Vals c2 w v xs) (hn : xs.length ≤ 1048576) :
    Calls Try.prog 53 #[v] w fun e w' => ∃ v', e = .returned v' ∧ OwnC c2 w' v' xs ∧ From w.heap.size v' ∧ Below w.heap.size w w' := by
  obtain ⟨ad, cap, rfl, hc, hm, hr⟩ := hv
  obtain ⟨i0, hi, hz0, hz1, hz2⟩ := info_parts infoSegment3
  go_enter Try.func53, Try.ntmps53
  go_wp2_with (at_make; refine wpList_make_full _ rfl _ _ 54 rfl w.heap.size 62 i0 _ 2 Try.underlying54 hi hz0 hz1 _ _ _ _ xs.length rfl rfl rfl rfl ?b1 ?b2 ?b3 ?_)
  case b1 => rw [hz2]; omega
  case b2 => unfold maxLen; omega
  case b3 => exact Nat.le_refl _
  intro w1 hown hgrow
  have hb : Below w.heap.size w w1 := (Below.refl _ _).grown hgrow (Nat.le_refl _) (by intro k hk; cases hk)
  have hbl : Blk w1 w.heap.size 62 (fl c2.c (xs.take 0) ++ List.replicate ((xs.length - 0) * 2) (iv 0)) := by
    have h1 := (Blk.of_rowN hown).1
    have h2 := madeCells_zero 2 (xs.length * 2) (by omega)
    have h3 : (#[Value.int .i64 0, Value.int .i64 0] : Array Value) = (List.replicate 2 (iv 0)).toArray := rfl
    rw [h3, h2] at h1
    simpa [fl_nil] using h1
  go_wp2
  clear hi hz0 hz1 hz2 hgrow hown
  go_loopw [4] (fun i wr => ∃ k : Nat, k ≤ xs.length ∧ i = .int .i64 k ∧ Blk wr w.heap.size 62 (fl c2.c (xs.take k) ++ List.replicate ((xs.length - k) * 2) (iv 0)) ∧ Below w.heap.size w wr) (fun i _ => xs.length - (intOf i).toNat)
  case atStart => exact ⟨0, Nat.zero_le _, rfl, hbl, hb⟩
  case round =>
    obtain ⟨k, hk, rfl, ho, hbr⟩ := hrel
    by_cases hlt : k < xs.length
    · obtain ⟨b, off, rfl, hbw, hcell⟩ := hr (by intro h; simp [h] at hlt)
      have hr1 := range_below (Vals.cells hcell hlt) hbr hbw
      have hstep := fl_step c2 xs k hlt
      obtain ⟨p, hp⟩ : ∃ p, xs[k] = p := ⟨_, rfl⟩
      rw [hp] at hr1 hstep
      have hr1' : wr.rangeAt b (off + k * 2) [iv p.1, iv p.2] := hr1
      have hsz : (Try.prog.info? 60).map (·.size) = some ([iv p.1, iv p.2] : List Value).length := infoSegmentW
      have hsz2 : (Try.prog.info? 62).map (·.size) = some ([iv p.1, iv p.2] : List Value).length := infoSegment
      have HSTEP := Lib.hid hstep
      have hlen : (fl c2.c (xs.take k) ++ List.replicate ((xs.length - k) * 2) (iv 0)).length = xs.length * 2 := by
        rw [List.length_append, fl_length c2, List.length_take, Nat.min_eq_left hk, List.length_replicate]; omega
      have HLEN := Lib.hid hlen
      have hsr := hbr.size
      have hlo := ho.lt
      clear hr hcell hr1 hp hb hbl hstep hlen
      go_wp2_with (first | (refine wpList_load_mid rfl 60 _ rfl b (off + k * 2) rfl [iv p.1, iv p.2] _ hr1' Try.underlying60 rfl hsz ?_))
      refine (toSegment_any p _).mono ?_
      rintro e w2 ⟨rfl, hb2⟩
      have ho2 := ho.below hb2 hlo
      have hB2 := hbr.trans (hb2.mono hsr)
      clear ho hbr hr1'
      go_wp2_with (first | (refine wpList_store_blk rfl 62 _ _ rfl w.heap.size (k * 2) [iv p.1, iv p.2] ?_ rfl _ _ ho2 (by rw [HLEN.out]; simp; omega) hsz2 (by intro u hu; simp at hu; rcases hu with rfl | rfl <;> rfl) ?_; (· simp [go_sem]); intro w3 ho3 hg3))
      have ho4 : Blk w3 w.heap.size 62 (fl c2.c (xs.take (k + 1)) ++ List.replicate ((xs.length - (k + 1)) * 2) (iv 0)) := by rw [← HSTEP.out]; exact ho3
      have hB3 := hB2.grown hg3 hB2.size (by intro j hj; cases hj; exact Nat.le_refl _)
      clear ho3 ho2 hB2
      go_wp2
      go_roundw
      case rel => exact ⟨k + 1, by omega, by go_num, ho4, hB3⟩
      case measure => simp [intOf]; omega
    · obtain rfl : k = xs.length := by omega
      clear hr hb hbl
      rw [List.take_length, Nat.sub_self, Nat.zero_mul, List.replicate_zero, List.append_nil] at ho
      go_wp2
      go_ret
      exact ⟨_, rfl, OwnC.of_blk ho rfl (by unfold maxLen; omega), From.at _ _ _ _ _ (Nat.le_refl _), hbr⟩

end Go.Proofs.Ytmlikchhkblohaa

