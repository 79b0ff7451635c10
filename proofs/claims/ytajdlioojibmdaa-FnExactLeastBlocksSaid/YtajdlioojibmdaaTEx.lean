import Derived.Test.YtajdlioojibmdaaCe
import Derived.Test.YtajdlioojibmdaaI2
import Derived.Test.YtajdlioojibmdaaTw
namespace Go.Proofs.Ytajdlioojibmdaa
open Go Go.RowKit Go.Pan

theorem eqBlock_any (x y : Int × Int × Int) (w : World) :
    Calls Try.prog 57 #[.agg #[.int .i64 x.1, .int .i64 x.2.1, .int .i64 x.2.2], .agg #[.int .i64 y.1, .int .i64 y.2.1, .int .i64 y.2.2]] w fun e w' => e = .returned (.bool (decide (x = y))) ∧ Below w.heap.size w w' := by
  obtain ⟨x0, x1, x2⟩ := x
  obtain ⟨y0, y1, y2⟩ := y
  by_cases h0 : x0 = y0
  ·
    by_cases h1 : x1 = y1
    ·
      by_cases h2 : x2 = y2
      ·
        have HR := Lib.hid (show decide ((x0, x1, x2) = (y0, y1, y2)) = true by simp [h0, h1, h2])
        have q0 : ((x0 : Int) != y0) = false := by simp [h0]
        have q1 : ((x1 : Int) != y1) = false := by simp [h1]
        have q2 : ((x2 : Int) != y2) = false := by simp [h2]
        clear h0 h1 h2
        go_enter Try.func57, Try.ntmps57
        go_wp2
        go_ret
        exact ⟨by rw [HR.out]; rfl, ((Below.refl _ _).alloc (Nat.le_refl _) _).alloc (by simp) _⟩
      ·
        have HR := Lib.hid (show decide ((x0, x1, x2) = (y0, y1, y2)) = false by simp [h0, h1, h2])
        have q0 : ((x0 : Int) != y0) = false := by simp [h0]
        have q1 : ((x1 : Int) != y1) = false := by simp [h1]
        have q2 : ((x2 : Int) != y2) = true := by simp [h2]
        clear h0 h1 h2
        go_enter Try.func57, Try.ntmps57
        go_wp2
        go_ret
        exact ⟨by rw [HR.out]; rfl, ((Below.refl _ _).alloc (Nat.le_refl _) _).alloc (by simp) _⟩
    ·
      have HR := Lib.hid (show decide ((x0, x1, x2) = (y0, y1, y2)) = false by simp [h0, h1])
      have q0 : ((x0 : Int) != y0) = false := by simp [h0]
      have q1 : ((x1 : Int) != y1) = true := by simp [h1]
      clear h0 h1
      go_enter Try.func57, Try.ntmps57
      go_wp2
      go_ret
      exact ⟨by rw [HR.out]; rfl, ((Below.refl _ _).alloc (Nat.le_refl _) _).alloc (by simp) _⟩
  ·
    have HR := Lib.hid (show decide ((x0, x1, x2) = (y0, y1, y2)) = false by simp [h0])
    have q0 : ((x0 : Int) != y0) = true := by simp [h0]
    clear h0
    go_enter Try.func57, Try.ntmps57
    go_wp2
    go_ret
    exact ⟨by rw [HR.out]; rfl, ((Below.refl _ _).alloc (Nat.le_refl _) _).alloc (by simp) _⟩

theorem infoBlock : (Try.prog.info? 53).map (·.size) = some 3 := by kernel_rfl

theorem infoBlock3 : (Try.prog.info? 53).map (fun i => (i.zero, i.size, i.bytes)) = some (some (.agg #[.int .i64 0, .int .i64 0, .int .i64 0]), 3, 24) := by kernel_rfl

set_option maxRecDepth 100000 in
set_option maxHeartbeats 1600000 in
theorem eqBlockS_any (v u : Value) (xs ys : List (Int × Int × Int)) (w : World) (hv : Vals c3 w v xs) (hu : Vals c3 w u ys) (hn : xs.length ≤ 1048576) (_hm : ys.length ≤ 1048576) :
    Calls Try.prog 20 #[v, u] w fun e w' => e = .returned (.bool (decide (xs = ys))) ∧ Below w.heap.size w w' := by
  obtain ⟨ad, cap, rfl, hc, _, hr⟩ := hv
  obtain ⟨bd, cbp, rfl, hc', _, hs⟩ := hu
  by_cases hl : xs.length = ys.length
  · rw [← hl]
    have HL := Lib.hid hl
    clear hl
    go_enter Try.func20, Try.ntmps20
    go_wp2
    go_loopw [5] (fun i wr => ∃ k : Nat, k ≤ xs.length ∧ i = .int .i64 k ∧ xs.take k = ys.take k ∧ Below w.heap.size w wr) (fun i _ => xs.length - (intOf i).toNat)
    case atStart => exact ⟨0, Nat.zero_le _, rfl, by simp, Below.refl _ _⟩
    case round =>
      obtain ⟨k, hk, rfl, he, hbr⟩ := hrel
      have HE := Lib.hid he
      clear he
      by_cases hlt : k < xs.length
      · have hlt2 : k < ys.length := by have := HL.out; omega
        obtain ⟨b, off, rfl, hbl, hcell⟩ := hr (by intro h; simp [h] at hlt)
        obtain ⟨b', off', rfl, hbl', hcell'⟩ := hs (by intro h; simp [h] at hlt2)
        have hr1 := range_below (Vals.cells hcell hlt) hbr hbl
        have hr2 := range_below (Vals.cells hcell' hlt2) hbr hbl'
        obtain ⟨p, hp⟩ : ∃ p, xs[k] = p := ⟨_, rfl⟩
        obtain ⟨q, hq⟩ : ∃ q, ys[k] = q := ⟨_, rfl⟩
        rw [hp] at hr1
        rw [hq] at hr2
        have hr1' : wr.rangeAt b (off + k * 3) [iv p.1, iv p.2.1, iv p.2.2] := hr1
        have hr2' : wr.rangeAt b' (off' + k * 3) [iv q.1, iv q.2.1, iv q.2.2] := hr2
        have HP := Lib.hid hp
        have HQ := Lib.hid hq
        have hut := Try.underlying53
        have hsz : (Try.prog.info? 53).map (·.size) = some ([iv p.1, iv p.2.1, iv p.2.2] : List Value).length := infoBlock
        have hsz2 : (Try.prog.info? 53).map (·.size) = some ([iv q.1, iv q.2.1, iv q.2.2] : List Value).length := infoBlock
        have hsr := hbr.size
        have hbw : b < wr.heap.size := by omega
        have hbw' : b' < wr.heap.size := by omega
        have hEq : (if p = q then true else false) = decide (p = q) := by by_cases h : p = q <;> simp [h]
        clear hr hcell hs hcell' hr1 hr2 hp hq hEq
        go_wp2_with fail
        refine wp_region_held_drew (S := (fun w' => w'.rangeAt b (off + k * 3) [iv p.1, iv p.2.1, iv p.2.2] ∧ w'.rangeAt b' (off' + k * 3) [iv q.1, iv q.2.1, iv q.2.2])) (by kernel_rfl) (⟨hr1', hr2'⟩) (fun hHeld => ?_)
        refine wpAnyH_take (i := 0) (v := ?_) rfl (by kernel_rfl) (by kernel_rfl) (by kernel_rfl) (fun _ _ _ h => h) (Or.inl ⟨by rfl, ?_⟩) (by assumption) ?_
        rotate_left
        · intro w _; go_simp; with_reducible rfl
        try simp only [List.getElem_toArray, List.getElem_cons_zero, Act.put, List.setIfInBounds_toArray, List.set_cons_zero, List.set_cons_succ]
        refine wpAnyH_take (i := 1) (v := ?_) rfl (by kernel_rfl) (by kernel_rfl) (by kernel_rfl) (fun _ _ _ h => h) (Or.inl ⟨by rfl, ?_⟩) (by assumption) ?_
        rotate_left
        · intro w _; go_simp; with_reducible rfl
        try simp only [List.getElem_toArray, List.getElem_cons_zero, List.getElem_cons_succ, Act.put, List.setIfInBounds_toArray, List.set_cons_zero, List.set_cons_succ]
        refine wpAnyH_take (i := 2) (v := ?_) rfl (by kernel_rfl) (by kernel_rfl) (by kernel_rfl) (fun _ _ _ h => h) (Or.inl ⟨by rfl, ?_⟩) (by assumption) ?_
        rotate_left
        · intro w _; go_simp; with_reducible rfl
        try simp only [List.getElem_toArray, List.getElem_cons_zero, List.getElem_cons_succ, Act.put, List.setIfInBounds_toArray, List.set_cons_zero, List.set_cons_succ]
        refine wpAnyH_take (i := 3) rfl (by kernel_rfl) (by kernel_rfl) (by kernel_rfl) (fun _ _ _ h => h) (yieldsIf_load_mid (by rfl) _ _ rfl _ _ rfl _ _ (fun w hw => hw.1) hut rfl hsz) (by assumption) ?_
        try simp only [List.getElem_toArray, List.getElem_cons_zero, List.getElem_cons_succ, Act.put, List.setIfInBounds_toArray, List.set_cons_zero, List.set_cons_succ]
        refine wpAnyH_take (i := 4) (v := ?_) rfl (by kernel_rfl) (by kernel_rfl) (by kernel_rfl) (fun _ _ _ h => h) (Or.inl ⟨by rfl, ?_⟩) (by assumption) ?_
        rotate_left
        · intro w _; go_simp; with_reducible rfl
        try simp only [List.getElem_toArray, List.getElem_cons_zero, List.getElem_cons_succ, Act.put, List.setIfInBounds_toArray, List.set_cons_zero, List.set_cons_succ]
        refine wpAnyH_take (i := 5) (v := ?_) rfl (by kernel_rfl) (by kernel_rfl) (by kernel_rfl) (fun _ _ _ h => h) (Or.inl ⟨by rfl, ?_⟩) (by assumption) ?_
        rotate_left
        · intro w _; go_simp; with_reducible rfl
        try simp only [List.getElem_toArray, List.getElem_cons_zero, List.getElem_cons_succ, Act.put, List.setIfInBounds_toArray, List.set_cons_zero, List.set_cons_succ]
        refine wpAnyH_take (i := 6) (v := ?_) rfl (by kernel_rfl) (by kernel_rfl) (by kernel_rfl) (fun _ _ _ h => h) (Or.inl ⟨by rfl, ?_⟩) (by assumption) ?_
        rotate_left
        · intro w _; go_simp; with_reducible rfl
        try simp only [List.getElem_toArray, List.getElem_cons_zero, List.getElem_cons_succ, Act.put, List.setIfInBounds_toArray, List.set_cons_zero, List.set_cons_succ]
        refine wpAnyH_take (i := 7) rfl (by kernel_rfl) (by kernel_rfl) (by kernel_rfl) (fun _ _ _ h => h) (yieldsIf_load_mid (by rfl) _ _ rfl _ _ rfl _ _ (fun w hw => hw.2) hut rfl hsz2) (by assumption) ?_
        try simp only [List.getElem_toArray, List.getElem_cons_zero, List.getElem_cons_succ, Act.put, List.setIfInBounds_toArray, List.set_cons_zero, List.set_cons_succ]
        refine wpAnyH_ready (rs := [8]) (by kernel_rfl) (by simp) ?_
        refine AllReadyH.cons rfl (fun K hK => ?_) AllReadyH.nil
        go_simp
        refine (eqBlock_any p q _).mono ?_
        rintro e w2 ⟨rfl, hb2⟩
        go_wp2_with fail
        refine hK.out _ _ (⟨range_below hHeld.1 hb2 hbw, range_below hHeld.2 hb2 hbw'⟩) (fun hHeld => ?_)
        clear hK K
        try simp only [List.getElem_toArray, List.getElem_cons_zero, List.getElem_cons_succ, Act.put, List.setIfInBounds_toArray, List.set_cons_zero, List.set_cons_succ]
        refine wpAnyH_take (i := 9) (v := ?_) rfl (by kernel_rfl) (by kernel_rfl) (by kernel_rfl) (fun _ _ _ h => h) (Or.inl ⟨by rfl, ?_⟩) (by assumption) ?_
        rotate_left
        · intro w _; go_simp; with_reducible rfl
        try simp only [List.getElem_toArray, List.getElem_cons_zero, List.getElem_cons_succ, Act.put, List.setIfInBounds_toArray, List.set_cons_zero, List.set_cons_succ]
        refine wpAnyH_done (by kernel_rfl) ?_ _
        have hB2 := hbr.drew.trans (hb2.mono hsr)
        by_cases hx : p = q
        · have HX := Lib.hid hx
          have hd : decide (p = q) = true := by simp [hx]
          rw [hd]
          clear hx
          go_wp2
          go_roundw
          case rel => exact ⟨k + 1, by omega, by go_num, by rw [List.take_succ_eq_append_getElem hlt, List.take_succ_eq_append_getElem hlt2, HE.out, HP.out, HQ.out, HX.out], hB2⟩
          case measure => simp [intOf]; omega
        · have HX := Lib.hid hx
          have hd : decide (p = q) = false := by simp [hx]
          rw [hd]
          clear hx
          go_wp2
          go_ret
          exact ⟨by rw [show decide (xs = ys) = false from decide_eq_false fun e => HX.out (by rw [← HP.out, ← HQ.out]; simp [e])]; rfl, hB2⟩
      · obtain rfl : k = xs.length := by omega
        clear hr hs
        go_wp2
        go_ret
        have h := HE.out
        rw [List.take_length, HL.out, List.take_length] at h
        exact ⟨by rw [show decide (xs = ys) = true from decide_eq_true h]; rfl, hbr⟩
  · have hq : (((xs.length : Nat) : Int) != (ys.length : Int)) = true := by simp; omega
    have HL := Lib.hid hl
    clear hl
    go_enter Try.func20, Try.ntmps20
    go_wp2
    go_ret
    exact ⟨by rw [show decide (xs = ys) = false from decide_eq_false fun e => HL.out (by rw [e])]; rfl, Below.refl _ _⟩


set_option maxHeartbeats 1600000 in
theorem markBlockS_any (v : Value) (n : Nat) (cs : List Value) (k0 : Int) (w : World) (hv : Own w 3 v n cs) (hn : n ≤ 1048576) (h0 : 0 ≤ k0) (h1 : k0 ≤ 1099511627776) :
    Calls Try.prog 22 #[v, .int .i64 k0] w fun e w' => e = .returned (.int .i64 (k0 + ((n * 3 : Nat) : Int))) ∧ Own w' 3 v n ((ramp k0 (n * 3)).map iv) ∧ w.grownBy w' v.ownBlock := by
  obtain ⟨ad, cap, rfl, hc, _, _⟩ := hv.shape
  have hl := hv.len
  have HL := Lib.hid hl
  clear hl
  go_enter Try.func22, Try.ntmps22
  go_wp2
  go_loopw [1, 5] (fun q i wr => ∃ k : Nat, k ≤ n ∧ i = .int .i64 k ∧ q = .int .i64 (k0 + ((k * 3 : Nat) : Int)) ∧ Own wr 3 (.slice ad n cap) n ((ramp k0 (k * 3)).map iv ++ cs.drop (k * 3)) ∧ w.grownBy wr (Value.slice ad n cap).ownBlock) (fun _ i _ => n - (intOf i).toNat)
  case atStart => exact ⟨0, Nat.zero_le _, rfl, by simp, by simpa [ramp] using hv, World.grownBy.refl _ _⟩
  case round =>
    obtain ⟨k, hk, rfl, rfl, ho, hg⟩ := hrel
    by_cases hlt : k < n
    · obtain ⟨g, off, rfl, hgl, hcell, hf⟩ := ho.at (by omega)
      have hl := HL.out
      have hck0 := hcell (k * 3) (by omega)
      have hfk0 := hf (off + k * 3)
      have hkc0 : k * 3 < ((ramp k0 (k * 3)).map iv ++ cs.drop (k * 3)).length := by rw [ho.len]; omega
      rw [List.getElem?_eq_getElem hkc0] at hck0
      have hck1 := hcell (k * 3 + 1) (by omega)
      have hfk1 := hf (off + k * 3 + 1)
      have hkc1 : k * 3 + 1 < ((ramp k0 (k * 3)).map iv ++ cs.drop (k * 3)).length := by rw [ho.len]; omega
      rw [List.getElem?_eq_getElem hkc1, ← Nat.add_assoc] at hck1
      have hck2 := hcell (k * 3 + 2) (by omega)
      have hfk2 := hf (off + k * 3 + 2)
      have hkc2 : k * 3 + 2 < ((ramp k0 (k * 3)).map iv ++ cs.drop (k * 3)).length := by rw [ho.len]; omega
      rw [List.getElem?_eq_getElem hkc2, ← Nat.add_assoc] at hck2
      have hst0 := ho.stored (k * 3) (by omega) (iv (k0 + ((k * 3 : Nat) : Int)))
      rw [mark_step cs k0 (k * 3) (by omega)] at hst0
      have hst1 := hst0.stored (k * 3 + 1) (by omega) (iv (k0 + ((k * 3 + 1 : Nat) : Int)))
      rw [mark_step cs k0 (k * 3 + 1) (by omega), ← Nat.add_assoc] at hst1
      have hst2 := hst1.stored (k * 3 + 2) (by omega) (iv (k0 + ((k * 3 + 2 : Nat) : Int)))
      rw [mark_step cs k0 (k * 3 + 2) (by omega), show k * 3 + 2 + 1 = (k + 1) * 3 by omega, ← Nat.add_assoc] at hst2
      have hg2 := (grown_set (grown_set (grown_set hg (off + k * 3) (iv (k0 + ((k * 3 : Nat) : Int)))) (off + k * 3 + 1) (iv (k0 + ((k * 3 + 1 : Nat) : Int)))) (off + k * 3 + 2) (iv (k0 + ((k * 3 + 2 : Nat) : Int))))
      have b0 : 0 ≤ k0 + (k : Int) * 3 := by omega
      have b1 : k0 + (k : Int) * 3 ≤ 1099611627776 := by omega
      obtain ⟨d0, hd0⟩ : ∃ d, ((ramp k0 (k * 3)).map iv ++ cs.drop (k * 3))[k * 3] = d := ⟨_, rfl⟩
      rw [hd0] at hck0
      obtain ⟨d1, hd1⟩ : ∃ d, ((ramp k0 (k * 3)).map iv ++ cs.drop (k * 3))[k * 3 + 1] = d := ⟨_, rfl⟩
      rw [hd1] at hck1
      obtain ⟨d2, hd2⟩ : ∃ d, ((ramp k0 (k * 3)).map iv ++ cs.drop (k * 3))[k * 3 + 2] = d := ⟨_, rfl⟩
      rw [hd2] at hck2
      have e0 : k0 + ((k * 3 : Nat) : Int) = k0 + (k : Int) * 3 := by omega
      have e1 : k0 + ((k * 3 + 1 : Nat) : Int) = k0 + (k : Int) * 3 + 1 := by omega
      have e2 : k0 + ((k * 3 + 2 : Nat) : Int) = k0 + (k : Int) * 3 + 1 + 1 := by omega
      rw [e0, e1, e2] at hst2 hg2
      clear hcell hf ho hv hg hl hd0 hkc0 e0 hd1 hkc1 e1 hd2 hkc2 e2 hst0 hst1
      go_wp2
      go_roundw
      case rel => exact ⟨k + 1, by omega, by go_num, ival (by omega), hst2, hg2⟩
      case measure => simp [intOf] <;> omega
    · obtain rfl : k = n := by omega
      have he : cs.drop (k * 3) = [] := by rw [List.drop_eq_nil_iff, HL.out]; exact Nat.le_refl _
      rw [he, List.append_nil] at ho
      have HE := Lib.hid he
      clear he hv
      go_wp2
      go_ret
      exact ⟨rfl, ho, hg⟩

set_option maxHeartbeats 1600000 in
theorem heldBlockS_any (v : Value) (n : Nat) (k0 : Int) (w : World) (hv : Own w 3 v n ((ramp k0 (n * 3)).map iv)) (hn : n ≤ 1048576) (h0 : 0 ≤ k0) (h1 : k0 ≤ 1099511627776) :
    Calls Try.prog 23 #[v, .int .i64 k0] w fun e w' => e = .returned (.int .i64 (k0 + ((n * 3 : Nat) : Int))) ∧ Below w.heap.size w w' := by
  obtain ⟨ad, cap, rfl, hc, _, _⟩ := hv.shape
  go_enter Try.func23, Try.ntmps23
  go_wp2
  go_loopw [1, 5] (fun q i wr => ∃ k : Nat, k ≤ n ∧ i = .int .i64 k ∧ q = .int .i64 (k0 + ((k * 3 : Nat) : Int)) ∧ Below w.heap.size w wr) (fun _ i _ => n - (intOf i).toNat)
  case atStart => exact ⟨0, Nat.zero_le _, rfl, by simp, Below.refl _ _⟩
  case round =>
    obtain ⟨k, hk, rfl, rfl, hbr⟩ := hrel
    by_cases hlt : k < n
    · obtain ⟨g, off, rfl, hgl, hcell, hf⟩ := hv.at (by omega)
      have hck0 := hcell (k * 3) (by omega)
      have hkc0 : k * 3 < ((ramp k0 (n * 3)).map iv).length := by rw [List.length_map, ramp_length]; omega
      rw [List.getElem?_eq_getElem hkc0, List.getElem_map, ramp_get k0 (n * 3) (k * 3) (by omega)] at hck0
      have hcc0 := (hbr.cell (p := ⟨g, off + k * 3, none⟩) hgl).trans hck0
      have q0 : ((k0 + (k : Int) * 3) != (k0 + (k : Int) * 3)) = false := by simp
      have e0 : k0 + ((k * 3 : Nat) : Int) = k0 + (k : Int) * 3 := by omega
      rw [e0] at hcc0
      have hck1 := hcell (k * 3 + 1) (by omega)
      have hkc1 : k * 3 + 1 < ((ramp k0 (n * 3)).map iv).length := by rw [List.length_map, ramp_length]; omega
      rw [List.getElem?_eq_getElem hkc1, List.getElem_map, ramp_get k0 (n * 3) (k * 3 + 1) (by omega), ← Nat.add_assoc] at hck1
      have hcc1 := (hbr.cell (p := ⟨g, off + k * 3 + 1, none⟩) hgl).trans hck1
      have q1 : ((k0 + (k : Int) * 3 + 1) != (k0 + (k : Int) * 3 + 1)) = false := by simp
      have e1 : k0 + ((k * 3 + 1 : Nat) : Int) = k0 + (k : Int) * 3 + 1 := by omega
      rw [e1] at hcc1
      have hck2 := hcell (k * 3 + 2) (by omega)
      have hkc2 : k * 3 + 2 < ((ramp k0 (n * 3)).map iv).length := by rw [List.length_map, ramp_length]; omega
      rw [List.getElem?_eq_getElem hkc2, List.getElem_map, ramp_get k0 (n * 3) (k * 3 + 2) (by omega), ← Nat.add_assoc] at hck2
      have hcc2 := (hbr.cell (p := ⟨g, off + k * 3 + 2, none⟩) hgl).trans hck2
      have q2 : ((k0 + (k : Int) * 3 + 1 + 1) != (k0 + (k : Int) * 3 + 1 + 1)) = false := by simp
      have e2 : k0 + ((k * 3 + 2 : Nat) : Int) = k0 + (k : Int) * 3 + 1 + 1 := by omega
      rw [e2] at hcc2
      have b0 : 0 ≤ k0 + (k : Int) * 3 := by omega
      have b1 : k0 + (k : Int) * 3 ≤ 1099611627776 := by omega
      clear hcell hf hv hck0 hkc0 e0 hck1 hkc1 e1 hck2 hkc2 e2
      go_wp2
      go_roundw
      case rel => exact ⟨k + 1, by omega, by go_num, ival (by omega), hbr⟩
      case measure => simp [intOf] <;> omega
    · obtain rfl : k = n := by omega
      clear hv
      go_wp2
      go_ret
      exact ⟨rfl, hbr⟩

end Go.Proofs.Ytajdlioojibmdaa

namespace Go.Proofs.Ytajdlioojibmdaa
open Go Go.RowKit Go.Pan

theorem eqExchange_any (x y : Int × Int × Int × Int) (w : World) :
    Calls Try.prog 63 #[.agg #[.int .i64 x.1, .int .i64 x.2.1, .int .i64 x.2.2.1, .int .i64 x.2.2.2], .agg #[.int .i64 y.1, .int .i64 y.2.1, .int .i64 y.2.2.1, .int .i64 y.2.2.2]] w fun e w' => e = .returned (.bool (decide (x = y))) ∧ Below w.heap.size w w' := by
  obtain ⟨x0, x1, x2, x3⟩ := x
  obtain ⟨y0, y1, y2, y3⟩ := y
  by_cases h0 : x0 = y0
  ·
    by_cases h1 : x1 = y1
    ·
      by_cases h2 : x2 = y2
      ·
        by_cases h3 : x3 = y3
        ·
          have HR := Lib.hid (show decide ((x0, x1, x2, x3) = (y0, y1, y2, y3)) = true by simp [h0, h1, h2, h3])
          have q0 : ((x0 : Int) != y0) = false := by simp [h0]
          have q1 : ((x1 : Int) != y1) = false := by simp [h1]
          have q2 : ((x2 : Int) != y2) = false := by simp [h2]
          have q3 : ((x3 : Int) != y3) = false := by simp [h3]
          clear h0 h1 h2 h3
          go_enter Try.func63, Try.ntmps63
          go_wp2
          go_ret
          exact ⟨by rw [HR.out]; rfl, ((Below.refl _ _).alloc (Nat.le_refl _) _).alloc (by simp) _⟩
        ·
          have HR := Lib.hid (show decide ((x0, x1, x2, x3) = (y0, y1, y2, y3)) = false by simp [h0, h1, h2, h3])
          have q0 : ((x0 : Int) != y0) = false := by simp [h0]
          have q1 : ((x1 : Int) != y1) = false := by simp [h1]
          have q2 : ((x2 : Int) != y2) = false := by simp [h2]
          have q3 : ((x3 : Int) != y3) = true := by simp [h3]
          clear h0 h1 h2 h3
          go_enter Try.func63, Try.ntmps63
          go_wp2
          go_ret
          exact ⟨by rw [HR.out]; rfl, ((Below.refl _ _).alloc (Nat.le_refl _) _).alloc (by simp) _⟩
      ·
        have HR := Lib.hid (show decide ((x0, x1, x2, x3) = (y0, y1, y2, y3)) = false by simp [h0, h1, h2])
        have q0 : ((x0 : Int) != y0) = false := by simp [h0]
        have q1 : ((x1 : Int) != y1) = false := by simp [h1]
        have q2 : ((x2 : Int) != y2) = true := by simp [h2]
        clear h0 h1 h2
        go_enter Try.func63, Try.ntmps63
        go_wp2
        go_ret
        exact ⟨by rw [HR.out]; rfl, ((Below.refl _ _).alloc (Nat.le_refl _) _).alloc (by simp) _⟩
    ·
      have HR := Lib.hid (show decide ((x0, x1, x2, x3) = (y0, y1, y2, y3)) = false by simp [h0, h1])
      have q0 : ((x0 : Int) != y0) = false := by simp [h0]
      have q1 : ((x1 : Int) != y1) = true := by simp [h1]
      clear h0 h1
      go_enter Try.func63, Try.ntmps63
      go_wp2
      go_ret
      exact ⟨by rw [HR.out]; rfl, ((Below.refl _ _).alloc (Nat.le_refl _) _).alloc (by simp) _⟩
  ·
    have HR := Lib.hid (show decide ((x0, x1, x2, x3) = (y0, y1, y2, y3)) = false by simp [h0])
    have q0 : ((x0 : Int) != y0) = true := by simp [h0]
    clear h0
    go_enter Try.func63, Try.ntmps63
    go_wp2
    go_ret
    exact ⟨by rw [HR.out]; rfl, ((Below.refl _ _).alloc (Nat.le_refl _) _).alloc (by simp) _⟩

theorem infoExchange : (Try.prog.info? 58).map (·.size) = some 4 := by kernel_rfl

theorem infoExchange3 : (Try.prog.info? 58).map (fun i => (i.zero, i.size, i.bytes)) = some (some (.agg #[.int .i64 0, .int .i64 0, .int .i64 0, .int .i64 0]), 4, 32) := by kernel_rfl

set_option maxRecDepth 100000 in
set_option maxHeartbeats 1600000 in
theorem eqExchangeS_any (v u : Value) (xs ys : List (Int × Int × Int × Int)) (w : World) (hv : Vals c4 w v xs) (hu : Vals c4 w u ys) (hn : xs.length ≤ 1048576) (_hm : ys.length ≤ 1048576) :
    Calls Try.prog 29 #[v, u] w fun e w' => e = .returned (.bool (decide (xs = ys))) ∧ Below w.heap.size w w' := by
  obtain ⟨ad, cap, rfl, hc, _, hr⟩ := hv
  obtain ⟨bd, cbp, rfl, hc', _, hs⟩ := hu
  by_cases hl : xs.length = ys.length
  · rw [← hl]
    have HL := Lib.hid hl
    clear hl
    go_enter Try.func29, Try.ntmps29
    go_wp2
    go_loopw [5] (fun i wr => ∃ k : Nat, k ≤ xs.length ∧ i = .int .i64 k ∧ xs.take k = ys.take k ∧ Below w.heap.size w wr) (fun i _ => xs.length - (intOf i).toNat)
    case atStart => exact ⟨0, Nat.zero_le _, rfl, by simp, Below.refl _ _⟩
    case round =>
      obtain ⟨k, hk, rfl, he, hbr⟩ := hrel
      have HE := Lib.hid he
      clear he
      by_cases hlt : k < xs.length
      · have hlt2 : k < ys.length := by have := HL.out; omega
        obtain ⟨b, off, rfl, hbl, hcell⟩ := hr (by intro h; simp [h] at hlt)
        obtain ⟨b', off', rfl, hbl', hcell'⟩ := hs (by intro h; simp [h] at hlt2)
        have hr1 := range_below (Vals.cells hcell hlt) hbr hbl
        have hr2 := range_below (Vals.cells hcell' hlt2) hbr hbl'
        obtain ⟨p, hp⟩ : ∃ p, xs[k] = p := ⟨_, rfl⟩
        obtain ⟨q, hq⟩ : ∃ q, ys[k] = q := ⟨_, rfl⟩
        rw [hp] at hr1
        rw [hq] at hr2
        have hr1' : wr.rangeAt b (off + k * 4) [iv p.1, iv p.2.1, iv p.2.2.1, iv p.2.2.2] := hr1
        have hr2' : wr.rangeAt b' (off' + k * 4) [iv q.1, iv q.2.1, iv q.2.2.1, iv q.2.2.2] := hr2
        have HP := Lib.hid hp
        have HQ := Lib.hid hq
        have hut := Try.underlying58
        have hsz : (Try.prog.info? 58).map (·.size) = some ([iv p.1, iv p.2.1, iv p.2.2.1, iv p.2.2.2] : List Value).length := infoExchange
        have hsz2 : (Try.prog.info? 58).map (·.size) = some ([iv q.1, iv q.2.1, iv q.2.2.1, iv q.2.2.2] : List Value).length := infoExchange
        have hsr := hbr.size
        have hbw : b < wr.heap.size := by omega
        have hbw' : b' < wr.heap.size := by omega
        have hEq : (if p = q then true else false) = decide (p = q) := by by_cases h : p = q <;> simp [h]
        clear hr hcell hs hcell' hr1 hr2 hp hq hEq
        go_wp2_with fail
        refine wp_region_held_drew (S := (fun w' => w'.rangeAt b (off + k * 4) [iv p.1, iv p.2.1, iv p.2.2.1, iv p.2.2.2] ∧ w'.rangeAt b' (off' + k * 4) [iv q.1, iv q.2.1, iv q.2.2.1, iv q.2.2.2])) (by kernel_rfl) (⟨hr1', hr2'⟩) (fun hHeld => ?_)
        refine wpAnyH_take (i := 0) (v := ?_) rfl (by kernel_rfl) (by kernel_rfl) (by kernel_rfl) (fun _ _ _ h => h) (Or.inl ⟨by rfl, ?_⟩) (by assumption) ?_
        rotate_left
        · intro w _; go_simp; with_reducible rfl
        try simp only [List.getElem_toArray, List.getElem_cons_zero, Act.put, List.setIfInBounds_toArray, List.set_cons_zero, List.set_cons_succ]
        refine wpAnyH_take (i := 1) (v := ?_) rfl (by kernel_rfl) (by kernel_rfl) (by kernel_rfl) (fun _ _ _ h => h) (Or.inl ⟨by rfl, ?_⟩) (by assumption) ?_
        rotate_left
        · intro w _; go_simp; with_reducible rfl
        try simp only [List.getElem_toArray, List.getElem_cons_zero, List.getElem_cons_succ, Act.put, List.setIfInBounds_toArray, List.set_cons_zero, List.set_cons_succ]
        refine wpAnyH_take (i := 2) (v := ?_) rfl (by kernel_rfl) (by kernel_rfl) (by kernel_rfl) (fun _ _ _ h => h) (Or.inl ⟨by rfl, ?_⟩) (by assumption) ?_
        rotate_left
        · intro w _; go_simp; with_reducible rfl
        try simp only [List.getElem_toArray, List.getElem_cons_zero, List.getElem_cons_succ, Act.put, List.setIfInBounds_toArray, List.set_cons_zero, List.set_cons_succ]
        refine wpAnyH_take (i := 3) rfl (by kernel_rfl) (by kernel_rfl) (by kernel_rfl) (fun _ _ _ h => h) (yieldsIf_load_mid (by rfl) _ _ rfl _ _ rfl _ _ (fun w hw => hw.1) hut rfl hsz) (by assumption) ?_
        try simp only [List.getElem_toArray, List.getElem_cons_zero, List.getElem_cons_succ, Act.put, List.setIfInBounds_toArray, List.set_cons_zero, List.set_cons_succ]
        refine wpAnyH_take (i := 4) (v := ?_) rfl (by kernel_rfl) (by kernel_rfl) (by kernel_rfl) (fun _ _ _ h => h) (Or.inl ⟨by rfl, ?_⟩) (by assumption) ?_
        rotate_left
        · intro w _; go_simp; with_reducible rfl
        try simp only [List.getElem_toArray, List.getElem_cons_zero, List.getElem_cons_succ, Act.put, List.setIfInBounds_toArray, List.set_cons_zero, List.set_cons_succ]
        refine wpAnyH_take (i := 5) (v := ?_) rfl (by kernel_rfl) (by kernel_rfl) (by kernel_rfl) (fun _ _ _ h => h) (Or.inl ⟨by rfl, ?_⟩) (by assumption) ?_
        rotate_left
        · intro w _; go_simp; with_reducible rfl
        try simp only [List.getElem_toArray, List.getElem_cons_zero, List.getElem_cons_succ, Act.put, List.setIfInBounds_toArray, List.set_cons_zero, List.set_cons_succ]
        refine wpAnyH_take (i := 6) (v := ?_) rfl (by kernel_rfl) (by kernel_rfl) (by kernel_rfl) (fun _ _ _ h => h) (Or.inl ⟨by rfl, ?_⟩) (by assumption) ?_
        rotate_left
        · intro w _; go_simp; with_reducible rfl
        try simp only [List.getElem_toArray, List.getElem_cons_zero, List.getElem_cons_succ, Act.put, List.setIfInBounds_toArray, List.set_cons_zero, List.set_cons_succ]
        refine wpAnyH_take (i := 7) rfl (by kernel_rfl) (by kernel_rfl) (by kernel_rfl) (fun _ _ _ h => h) (yieldsIf_load_mid (by rfl) _ _ rfl _ _ rfl _ _ (fun w hw => hw.2) hut rfl hsz2) (by assumption) ?_
        try simp only [List.getElem_toArray, List.getElem_cons_zero, List.getElem_cons_succ, Act.put, List.setIfInBounds_toArray, List.set_cons_zero, List.set_cons_succ]
        refine wpAnyH_ready (rs := [8]) (by kernel_rfl) (by simp) ?_
        refine AllReadyH.cons rfl (fun K hK => ?_) AllReadyH.nil
        go_simp
        refine (eqExchange_any p q _).mono ?_
        rintro e w2 ⟨rfl, hb2⟩
        go_wp2_with fail
        refine hK.out _ _ (⟨range_below hHeld.1 hb2 hbw, range_below hHeld.2 hb2 hbw'⟩) (fun hHeld => ?_)
        clear hK K
        try simp only [List.getElem_toArray, List.getElem_cons_zero, List.getElem_cons_succ, Act.put, List.setIfInBounds_toArray, List.set_cons_zero, List.set_cons_succ]
        refine wpAnyH_take (i := 9) (v := ?_) rfl (by kernel_rfl) (by kernel_rfl) (by kernel_rfl) (fun _ _ _ h => h) (Or.inl ⟨by rfl, ?_⟩) (by assumption) ?_
        rotate_left
        · intro w _; go_simp; with_reducible rfl
        try simp only [List.getElem_toArray, List.getElem_cons_zero, List.getElem_cons_succ, Act.put, List.setIfInBounds_toArray, List.set_cons_zero, List.set_cons_succ]
        refine wpAnyH_done (by kernel_rfl) ?_ _
        have hB2 := hbr.drew.trans (hb2.mono hsr)
        by_cases hx : p = q
        · have HX := Lib.hid hx
          have hd : decide (p = q) = true := by simp [hx]
          rw [hd]
          clear hx
          go_wp2
          go_roundw
          case rel => exact ⟨k + 1, by omega, by go_num, by rw [List.take_succ_eq_append_getElem hlt, List.take_succ_eq_append_getElem hlt2, HE.out, HP.out, HQ.out, HX.out], hB2⟩
          case measure => simp [intOf]; omega
        · have HX := Lib.hid hx
          have hd : decide (p = q) = false := by simp [hx]
          rw [hd]
          clear hx
          go_wp2
          go_ret
          exact ⟨by rw [show decide (xs = ys) = false from decide_eq_false fun e => HX.out (by rw [← HP.out, ← HQ.out]; simp [e])]; rfl, hB2⟩
      · obtain rfl : k = xs.length := by omega
        clear hr hs
        go_wp2
        go_ret
        have h := HE.out
        rw [List.take_length, HL.out, List.take_length] at h
        exact ⟨by rw [show decide (xs = ys) = true from decide_eq_true h]; rfl, hbr⟩
  · have hq : (((xs.length : Nat) : Int) != (ys.length : Int)) = true := by simp; omega
    have HL := Lib.hid hl
    clear hl
    go_enter Try.func29, Try.ntmps29
    go_wp2
    go_ret
    exact ⟨by rw [show decide (xs = ys) = false from decide_eq_false fun e => HL.out (by rw [e])]; rfl, Below.refl _ _⟩


set_option maxHeartbeats 1600000 in
theorem markExchangeS_any (v : Value) (n : Nat) (cs : List Value) (k0 : Int) (w : World) (hv : Own w 4 v n cs) (hn : n ≤ 1048576) (h0 : 0 ≤ k0) (h1 : k0 ≤ 1099511627776) :
    Calls Try.prog 30 #[v, .int .i64 k0] w fun e w' => e = .returned (.int .i64 (k0 + ((n * 4 : Nat) : Int))) ∧ Own w' 4 v n ((ramp k0 (n * 4)).map iv) ∧ w.grownBy w' v.ownBlock := by
  obtain ⟨ad, cap, rfl, hc, _, _⟩ := hv.shape
  have hl := hv.len
  have HL := Lib.hid hl
  clear hl
  go_enter Try.func30, Try.ntmps30
  go_wp2
  go_loopw [1, 5] (fun q i wr => ∃ k : Nat, k ≤ n ∧ i = .int .i64 k ∧ q = .int .i64 (k0 + ((k * 4 : Nat) : Int)) ∧ Own wr 4 (.slice ad n cap) n ((ramp k0 (k * 4)).map iv ++ cs.drop (k * 4)) ∧ w.grownBy wr (Value.slice ad n cap).ownBlock) (fun _ i _ => n - (intOf i).toNat)
  case atStart => exact ⟨0, Nat.zero_le _, rfl, by simp, by simpa [ramp] using hv, World.grownBy.refl _ _⟩
  case round =>
    obtain ⟨k, hk, rfl, rfl, ho, hg⟩ := hrel
    by_cases hlt : k < n
    · obtain ⟨g, off, rfl, hgl, hcell, hf⟩ := ho.at (by omega)
      have hl := HL.out
      have hck0 := hcell (k * 4) (by omega)
      have hfk0 := hf (off + k * 4)
      have hkc0 : k * 4 < ((ramp k0 (k * 4)).map iv ++ cs.drop (k * 4)).length := by rw [ho.len]; omega
      rw [List.getElem?_eq_getElem hkc0] at hck0
      have hck1 := hcell (k * 4 + 1) (by omega)
      have hfk1 := hf (off + k * 4 + 1)
      have hkc1 : k * 4 + 1 < ((ramp k0 (k * 4)).map iv ++ cs.drop (k * 4)).length := by rw [ho.len]; omega
      rw [List.getElem?_eq_getElem hkc1, ← Nat.add_assoc] at hck1
      have hck2 := hcell (k * 4 + 2) (by omega)
      have hfk2 := hf (off + k * 4 + 2)
      have hkc2 : k * 4 + 2 < ((ramp k0 (k * 4)).map iv ++ cs.drop (k * 4)).length := by rw [ho.len]; omega
      rw [List.getElem?_eq_getElem hkc2, ← Nat.add_assoc] at hck2
      have hck3 := hcell (k * 4 + 3) (by omega)
      have hfk3 := hf (off + k * 4 + 3)
      have hkc3 : k * 4 + 3 < ((ramp k0 (k * 4)).map iv ++ cs.drop (k * 4)).length := by rw [ho.len]; omega
      rw [List.getElem?_eq_getElem hkc3, ← Nat.add_assoc] at hck3
      have hst0 := ho.stored (k * 4) (by omega) (iv (k0 + ((k * 4 : Nat) : Int)))
      rw [mark_step cs k0 (k * 4) (by omega)] at hst0
      have hst1 := hst0.stored (k * 4 + 1) (by omega) (iv (k0 + ((k * 4 + 1 : Nat) : Int)))
      rw [mark_step cs k0 (k * 4 + 1) (by omega), ← Nat.add_assoc] at hst1
      have hst2 := hst1.stored (k * 4 + 2) (by omega) (iv (k0 + ((k * 4 + 2 : Nat) : Int)))
      rw [mark_step cs k0 (k * 4 + 2) (by omega), ← Nat.add_assoc] at hst2
      have hst3 := hst2.stored (k * 4 + 3) (by omega) (iv (k0 + ((k * 4 + 3 : Nat) : Int)))
      rw [mark_step cs k0 (k * 4 + 3) (by omega), show k * 4 + 3 + 1 = (k + 1) * 4 by omega, ← Nat.add_assoc] at hst3
      have hg2 := (grown_set (grown_set (grown_set (grown_set hg (off + k * 4) (iv (k0 + ((k * 4 : Nat) : Int)))) (off + k * 4 + 1) (iv (k0 + ((k * 4 + 1 : Nat) : Int)))) (off + k * 4 + 2) (iv (k0 + ((k * 4 + 2 : Nat) : Int)))) (off + k * 4 + 3) (iv (k0 + ((k * 4 + 3 : Nat) : Int))))
      have b0 : 0 ≤ k0 + (k : Int) * 4 := by omega
      have b1 : k0 + (k : Int) * 4 ≤ 1099611627776 := by omega
      obtain ⟨d0, hd0⟩ : ∃ d, ((ramp k0 (k * 4)).map iv ++ cs.drop (k * 4))[k * 4] = d := ⟨_, rfl⟩
      rw [hd0] at hck0
      obtain ⟨d1, hd1⟩ : ∃ d, ((ramp k0 (k * 4)).map iv ++ cs.drop (k * 4))[k * 4 + 1] = d := ⟨_, rfl⟩
      rw [hd1] at hck1
      obtain ⟨d2, hd2⟩ : ∃ d, ((ramp k0 (k * 4)).map iv ++ cs.drop (k * 4))[k * 4 + 2] = d := ⟨_, rfl⟩
      rw [hd2] at hck2
      obtain ⟨d3, hd3⟩ : ∃ d, ((ramp k0 (k * 4)).map iv ++ cs.drop (k * 4))[k * 4 + 3] = d := ⟨_, rfl⟩
      rw [hd3] at hck3
      have e0 : k0 + ((k * 4 : Nat) : Int) = k0 + (k : Int) * 4 := by omega
      have e1 : k0 + ((k * 4 + 1 : Nat) : Int) = k0 + (k : Int) * 4 + 1 := by omega
      have e2 : k0 + ((k * 4 + 2 : Nat) : Int) = k0 + (k : Int) * 4 + 1 + 1 := by omega
      have e3 : k0 + ((k * 4 + 3 : Nat) : Int) = k0 + (k : Int) * 4 + 1 + 1 + 1 := by omega
      rw [e0, e1, e2, e3] at hst3 hg2
      clear hcell hf ho hv hg hl hd0 hkc0 e0 hd1 hkc1 e1 hd2 hkc2 e2 hd3 hkc3 e3 hst0 hst1 hst2
      go_wp2
      go_roundw
      case rel => exact ⟨k + 1, by omega, by go_num, ival (by omega), hst3, hg2⟩
      case measure => simp [intOf] <;> omega
    · obtain rfl : k = n := by omega
      have he : cs.drop (k * 4) = [] := by rw [List.drop_eq_nil_iff, HL.out]; exact Nat.le_refl _
      rw [he, List.append_nil] at ho
      have HE := Lib.hid he
      clear he hv
      go_wp2
      go_ret
      exact ⟨rfl, ho, hg⟩

set_option maxHeartbeats 1600000 in
theorem heldExchangeS_any (v : Value) (n : Nat) (k0 : Int) (w : World) (hv : Own w 4 v n ((ramp k0 (n * 4)).map iv)) (hn : n ≤ 1048576) (h0 : 0 ≤ k0) (h1 : k0 ≤ 1099511627776) :
    Calls Try.prog 31 #[v, .int .i64 k0] w fun e w' => e = .returned (.int .i64 (k0 + ((n * 4 : Nat) : Int))) ∧ Below w.heap.size w w' := by
  obtain ⟨ad, cap, rfl, hc, _, _⟩ := hv.shape
  go_enter Try.func31, Try.ntmps31
  go_wp2
  go_loopw [1, 5] (fun q i wr => ∃ k : Nat, k ≤ n ∧ i = .int .i64 k ∧ q = .int .i64 (k0 + ((k * 4 : Nat) : Int)) ∧ Below w.heap.size w wr) (fun _ i _ => n - (intOf i).toNat)
  case atStart => exact ⟨0, Nat.zero_le _, rfl, by simp, Below.refl _ _⟩
  case round =>
    obtain ⟨k, hk, rfl, rfl, hbr⟩ := hrel
    by_cases hlt : k < n
    · obtain ⟨g, off, rfl, hgl, hcell, hf⟩ := hv.at (by omega)
      have hck0 := hcell (k * 4) (by omega)
      have hkc0 : k * 4 < ((ramp k0 (n * 4)).map iv).length := by rw [List.length_map, ramp_length]; omega
      rw [List.getElem?_eq_getElem hkc0, List.getElem_map, ramp_get k0 (n * 4) (k * 4) (by omega)] at hck0
      have hcc0 := (hbr.cell (p := ⟨g, off + k * 4, none⟩) hgl).trans hck0
      have q0 : ((k0 + (k : Int) * 4) != (k0 + (k : Int) * 4)) = false := by simp
      have e0 : k0 + ((k * 4 : Nat) : Int) = k0 + (k : Int) * 4 := by omega
      rw [e0] at hcc0
      have hck1 := hcell (k * 4 + 1) (by omega)
      have hkc1 : k * 4 + 1 < ((ramp k0 (n * 4)).map iv).length := by rw [List.length_map, ramp_length]; omega
      rw [List.getElem?_eq_getElem hkc1, List.getElem_map, ramp_get k0 (n * 4) (k * 4 + 1) (by omega), ← Nat.add_assoc] at hck1
      have hcc1 := (hbr.cell (p := ⟨g, off + k * 4 + 1, none⟩) hgl).trans hck1
      have q1 : ((k0 + (k : Int) * 4 + 1) != (k0 + (k : Int) * 4 + 1)) = false := by simp
      have e1 : k0 + ((k * 4 + 1 : Nat) : Int) = k0 + (k : Int) * 4 + 1 := by omega
      rw [e1] at hcc1
      have hck2 := hcell (k * 4 + 2) (by omega)
      have hkc2 : k * 4 + 2 < ((ramp k0 (n * 4)).map iv).length := by rw [List.length_map, ramp_length]; omega
      rw [List.getElem?_eq_getElem hkc2, List.getElem_map, ramp_get k0 (n * 4) (k * 4 + 2) (by omega), ← Nat.add_assoc] at hck2
      have hcc2 := (hbr.cell (p := ⟨g, off + k * 4 + 2, none⟩) hgl).trans hck2
      have q2 : ((k0 + (k : Int) * 4 + 1 + 1) != (k0 + (k : Int) * 4 + 1 + 1)) = false := by simp
      have e2 : k0 + ((k * 4 + 2 : Nat) : Int) = k0 + (k : Int) * 4 + 1 + 1 := by omega
      rw [e2] at hcc2
      have hck3 := hcell (k * 4 + 3) (by omega)
      have hkc3 : k * 4 + 3 < ((ramp k0 (n * 4)).map iv).length := by rw [List.length_map, ramp_length]; omega
      rw [List.getElem?_eq_getElem hkc3, List.getElem_map, ramp_get k0 (n * 4) (k * 4 + 3) (by omega), ← Nat.add_assoc] at hck3
      have hcc3 := (hbr.cell (p := ⟨g, off + k * 4 + 3, none⟩) hgl).trans hck3
      have q3 : ((k0 + (k : Int) * 4 + 1 + 1 + 1) != (k0 + (k : Int) * 4 + 1 + 1 + 1)) = false := by simp
      have e3 : k0 + ((k * 4 + 3 : Nat) : Int) = k0 + (k : Int) * 4 + 1 + 1 + 1 := by omega
      rw [e3] at hcc3
      have b0 : 0 ≤ k0 + (k : Int) * 4 := by omega
      have b1 : k0 + (k : Int) * 4 ≤ 1099611627776 := by omega
      clear hcell hf hv hck0 hkc0 e0 hck1 hkc1 e1 hck2 hkc2 e2 hck3 hkc3 e3
      go_wp2
      go_roundw
      case rel => exact ⟨k + 1, by omega, by go_num, ival (by omega), hbr⟩
      case measure => simp [intOf] <;> omega
    · obtain rfl : k = n := by omega
      clear hv
      go_wp2
      go_ret
      exact ⟨rfl, hbr⟩

end Go.Proofs.Ytajdlioojibmdaa
