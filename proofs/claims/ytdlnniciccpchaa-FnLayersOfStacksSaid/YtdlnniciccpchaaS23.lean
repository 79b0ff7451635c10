import Derived.Test.YtdlnniciccpchaaS22
namespace Go.Proofs.Ytdlnniciccpchaa
open Go Go.RowKit Go.Pan

set_option maxHeartbeats 4000000 in
set_option maxRecDepth 100000 in
theorem faAll_any (n : Nat) (w : World) (hn : Hid (Cnt n)) (h7 : n ≤ 7) :
    Calls Try.prog 40 #[.int .i64 n] w fun e w' => ∃ a c s S, e = .returned (.agg #[.slice (some ⟨a, 0, none⟩) (fact n) (fact n), .slice (some ⟨c, 0, none⟩) (fact n) (fact n), .slice (some ⟨s, 0, none⟩) (fact n) (fact n)]) ∧
      FAR n w' (.slice (some ⟨a, 0, none⟩) (fact n) (fact n)) (.slice (some ⟨c, 0, none⟩) (fact n) (fact n)) (.slice (some ⟨s, 0, none⟩) (fact n) (fact n)) S ∧ Below w.heap.size w w' := by
  have h1 := hn.out.pos
  obtain ⟨iI, hI, hI0, hI1, hI2⟩ := info_parts Try.info3
  obtain ⟨iS, hS, hS0, hS1, hS2⟩ := info_parts Try.info22
  have HI := Lib.hid hI
  have HI0 := Lib.hid hI0
  have HI1 := Lib.hid hI1
  have HI2 := Lib.hid hI2
  have HS := Lib.hid hS
  have HS0 := Lib.hid hS0
  have HS1 := Lib.hid hS1
  have HS2 := Lib.hid hS2
  have hfm := fact_le (n := n) (by omega)
  clear hI hI0 hI1 hI2 hS hS0 hS1 hS2
  go_enter Try.func40, Try.ntmps40
  go_wp2
  go_loop [3, 4] (fun a k => ∃ j F : Nat, j + 1 ≤ n ∧ k = .int .i64 ((j : Int) + 2) ∧ F = fact (j + 1) ∧ a = .int .i64 F) (fun _ k => n + 1 - (intOf k).toNat)
  case atStart => exact ⟨0, 1, h1, rfl, rfl, rfl⟩
  case round =>
    obtain ⟨j, F, hj, rfl, hF, rfl⟩ := hrel
    have HF := Lib.hid hF
    by_cases hlt : j + 1 < n
    · have hle : (j : Int) + 2 ≤ n := by omega
      have hf1 := fact_le (n := j + 1) (by omega)
      have hf2 := fact_le (n := j + 2) (by omega)
      have HG := Lib.hid (show ((fact (j + 2) : Nat) : Int) = (F : Int) * ((j : Int) + 2) by rw [fact_succ, hF]; simp)
      have hp0 : (0 : Int) ≤ (F : Int) * ((j : Int) + 2) := Int.mul_nonneg (by omega) (by omega)
      have hp1 : (F : Int) * ((j : Int) + 2) ≤ (362880 : Int) := by have := HG.out; omega
      clear hF hf1 hf2
      go_wp2
      go_round
      case rel => exact ⟨j + 1, fact (j + 2), by omega, by go_num, rfl, by rw [HG.out]⟩
      case measure => simp [intOf] <;> omega
    · have hjn : (n : Int) < (j : Int) + 2 := by omega
      obtain rfl : F = fact n := by rw [hF]; congr 1; omega
      clear hF HF hlt
      go_upto_region 6 with fail
      go_cut [5] (fun s5 wx => Cut6 n w (w.alloc (.cells #[.slice none 0 0, .slice none 0 0, .slice none 0 0] 62)) s5 wx)
      case first =>
        obtain ⟨W, hW⟩ : ∃ W, W = (w.alloc (.cells #[.slice none 0 0, .slice none 0 0, .slice none 0 0] 62)) := ⟨_, rfl⟩
        have hWz : W.heap.size = w.heap.size + 1 := by rw [hW]; simp
        rw [← hW]
        have HW := Lib.hid hW
        have HWZ := Lib.hid hWz
        clear hW hWz
        refine wp_region_held_drew (S := (fun _ => True)) (by kernel_rfl) (trivial) (fun hHeld => ?_)
        refine wpAnyH_take (i := 0) (v := ?_) rfl (by kernel_rfl) (by kernel_rfl) (by kernel_rfl) (fun _ _ _ h => h) (Or.inl ⟨by rfl, ?_⟩) (by assumption) ?_
        rotate_left
        · intro w _; go_simp; with_reducible rfl
        refine wpAnyH_take (i := 2) (v := ?_) rfl (by kernel_rfl) (by kernel_rfl) (by kernel_rfl) (fun _ _ _ h => h) (Or.inl ⟨by rfl, ?_⟩) (by assumption) ?_
        rotate_left
        · intro w _; go_simp; with_reducible rfl
        refine wpAnyH_take (i := 4) (v := ?_) rfl (by kernel_rfl) (by kernel_rfl) (by kernel_rfl) (fun _ _ _ h => h) (Or.inl ⟨by rfl, ?_⟩) (by assumption) ?_
        rotate_left
        · intro w _; go_simp; with_reducible rfl
        try simp only [List.getElem_toArray, List.getElem_cons_zero, List.getElem_cons_succ, Act.put, List.setIfInBounds_toArray, List.set_cons_zero, List.set_cons_succ]
        refine wpAnyH_ready (rs := [1, 3, 5, 7]) (by kernel_rfl) (by simp) ?_
        refine AllReadyH.cons rfl (fun K hK => ?_) (AllReadyH.cons rfl (fun K hK => ?_) (AllReadyH.cons rfl (fun K hK => ?_) (AllReadyH.cons rfl (fun K hK => ?_) AllReadyH.nil)))
        · refine step_make_new rfl _ _ 24 rfl 3 iI (.int .i64 0) Try.underlying24 HI.out HI0.out HI1.out rfl _ _ _ _ (fact n) rfl rfl rfl rfl (by rw [HI2.out]; omega) (by unfold maxLen; omega) ?_
          intro m1 h1
          refine hK.out _ _ trivial (fun _ => ?_)
          clear hK K
          try simp only [List.getElem_toArray, List.getElem_cons_zero, List.getElem_cons_succ, Act.put, List.setIfInBounds_toArray, List.set_cons_zero, List.set_cons_succ]
          refine wpAnyH_ready (rs := [3, 5, 7]) (by kernel_rfl) (by simp) ?_
          refine AllReadyH.cons rfl (fun K hK => ?_) (AllReadyH.cons rfl (fun K hK => ?_) (AllReadyH.cons rfl (fun K hK => ?_) AllReadyH.nil))
          · refine step_make_new rfl _ _ 24 rfl 3 iI (.int .i64 0) Try.underlying24 HI.out HI0.out HI1.out rfl _ _ _ _ (fact n) rfl rfl rfl rfl (by rw [HI2.out]; omega) (by unfold maxLen; omega) ?_
            intro m2 h2
            refine hK.out _ _ trivial (fun _ => ?_)
            clear hK K
            try simp only [List.getElem_toArray, List.getElem_cons_zero, List.getElem_cons_succ, Act.put, List.setIfInBounds_toArray, List.set_cons_zero, List.set_cons_succ]
            refine wpAnyH_ready (rs := [5, 7]) (by kernel_rfl) (by simp) ?_
            refine AllReadyH.cons rfl (fun K hK => ?_) (AllReadyH.cons rfl (fun K hK => ?_) AllReadyH.nil)
            · refine step_make_new rfl _ _ 36 rfl 24 iS (.slice none 0 0) Try.underlying36 HS.out HS0.out HS1.out rfl _ _ _ _ (fact n) rfl rfl rfl rfl (by rw [HS2.out]; omega) (by unfold maxLen; omega) ?_
              intro m3 h3
              refine hK.out _ _ trivial (fun _ => ?_)
              clear hK K
              try simp only [List.getElem_toArray, List.getElem_cons_zero, List.getElem_cons_succ, Act.put, List.setIfInBounds_toArray, List.set_cons_zero, List.set_cons_succ]
              refine wpAnyH_take (i := 6) (v := ?_) rfl (by kernel_rfl) (by kernel_rfl) (by kernel_rfl) (fun _ _ _ h => h) (Or.inl ⟨by rfl, ?_⟩) (by assumption) ?_
              rotate_left
              · intro w _; go_simp; with_reducible rfl
              try simp only [List.getElem_toArray, List.getElem_cons_zero, List.getElem_cons_succ, Act.put, List.setIfInBounds_toArray, List.set_cons_zero, List.set_cons_succ]
              refine wpAnyH_ready (rs := [7]) (by kernel_rfl) (by simp) ?_
              refine AllReadyH.cons rfl (fun K hK => ?_) AllReadyH.nil
              go_simp
              obtain ⟨m4, e4⟩ : ∃ x, x = m3.alloc (.cells [.slice none 0 0, .slice none 0 0, .slice none 0 0].toArray 62) := ⟨_, rfl⟩
              have h4 := NewB.alloc (m3) 62 [.slice none 0 0, .slice none 0 0, .slice none 0 0]
              rw [← e4] at h4
              refine hK.out _ _ trivial (fun _ => ?_)
              rw [← e4]
              clear hK K e4
              try simp only [List.getElem_toArray, List.getElem_cons_zero, List.getElem_cons_succ, Act.put, List.setIfInBounds_toArray, List.set_cons_zero, List.set_cons_succ]
              have fl := h4.blk
              have fa := (((h1.blk).grown h2.gr (by simp)).grown h3.gr (by simp)).grown h4.gr (by simp)
              have fc := ((h2.blk).grown h3.gr (by simp)).grown h4.gr (by simp)
              have fs := (h3.blk).grown h4.gr (by simp)
              refine wpAnyH_ready (rs := [8]) (by kernel_rfl) (by simp) ?_
              refine AllReadyH.cons rfl (fun K hK => ?_) AllReadyH.nil
              refine step_store_new3 rfl 62 _ _ rfl _ _ _ _ rfl rfl _ _ fl (by kernel_rfl) rfl ⟨rfl, rfl, rfl⟩ ?_
              intro m5 f5 g5
              refine hK.out _ _ trivial (fun _ => ?_)
              clear hK K
              refine wpAnyH_done (by kernel_rfl) ?_ _
              go_wp2_with fail
              go_meet
              have l0 : W.drew.heap.size = W.heap.size := rfl
              have l1 := h1.lt
              have l2 := h2.lt
              have l3 := h3.lt
              have l4 := h4.lt
              rw [← HW.out]
              exact leaf6 HWZ.out h1.gr h2.gr h3.gr h4.gr l1 l2 l3 l4 g5 f5 fa fc fs (by omega) (by omega) (by omega) (by omega) (by omega)
            · go_simp
              obtain ⟨m3, e3⟩ : ∃ x, x = m2.alloc (.cells [.slice none 0 0, .slice none 0 0, .slice none 0 0].toArray 62) := ⟨_, rfl⟩
              have h3 := NewB.alloc (m2) 62 [.slice none 0 0, .slice none 0 0, .slice none 0 0]
              rw [← e3] at h3
              refine hK.out _ _ trivial (fun _ => ?_)
              rw [← e3]
              clear hK K e3
              try simp only [List.getElem_toArray, List.getElem_cons_zero, List.getElem_cons_succ, Act.put, List.setIfInBounds_toArray, List.set_cons_zero, List.set_cons_succ]
              refine wpAnyH_ready (rs := [5]) (by kernel_rfl) (by simp) ?_
              refine AllReadyH.cons rfl (fun K hK => ?_) AllReadyH.nil
              refine step_make_new rfl _ _ 36 rfl 24 iS (.slice none 0 0) Try.underlying36 HS.out HS0.out HS1.out rfl _ _ _ _ (fact n) rfl rfl rfl rfl (by rw [HS2.out]; omega) (by unfold maxLen; omega) ?_
              intro m4 h4
              refine hK.out _ _ trivial (fun _ => ?_)
              clear hK K
              try simp only [List.getElem_toArray, List.getElem_cons_zero, List.getElem_cons_succ, Act.put, List.setIfInBounds_toArray, List.set_cons_zero, List.set_cons_succ]
              have fl := (h3.blk).grown h4.gr (by simp)
              have fa := (((h1.blk).grown h2.gr (by simp)).grown h3.gr (by simp)).grown h4.gr (by simp)
              have fc := ((h2.blk).grown h3.gr (by simp)).grown h4.gr (by simp)
              have fs := h4.blk
              refine wpAnyH_take (i := 6) (v := ?_) rfl (by kernel_rfl) (by kernel_rfl) (by kernel_rfl) (fun _ _ _ h => h) (Or.inl ⟨by rfl, ?_⟩) (by assumption) ?_
              rotate_left
              · intro w _; go_simp; with_reducible rfl
              try simp only [List.getElem_toArray, List.getElem_cons_zero, List.getElem_cons_succ, Act.put, List.setIfInBounds_toArray, List.set_cons_zero, List.set_cons_succ]
              refine wpAnyH_ready (rs := [8]) (by kernel_rfl) (by simp) ?_
              refine AllReadyH.cons rfl (fun K hK => ?_) AllReadyH.nil
              refine step_store_new3 rfl 62 _ _ rfl _ _ _ _ rfl rfl _ _ fl (by kernel_rfl) rfl ⟨rfl, rfl, rfl⟩ ?_
              intro m5 f5 g5
              refine hK.out _ _ trivial (fun _ => ?_)
              clear hK K
              refine wpAnyH_done (by kernel_rfl) ?_ _
              go_wp2_with fail
              go_meet
              have l0 : W.drew.heap.size = W.heap.size := rfl
              have l1 := h1.lt
              have l2 := h2.lt
              have l3 := h3.lt
              have l4 := h4.lt
              rw [← HW.out]
              exact leaf6 HWZ.out h1.gr h2.gr h3.gr h4.gr l1 l2 l3 l4 g5 f5 fa fc fs (by omega) (by omega) (by omega) (by omega) (by omega)
          · refine step_make_new rfl _ _ 36 rfl 24 iS (.slice none 0 0) Try.underlying36 HS.out HS0.out HS1.out rfl _ _ _ _ (fact n) rfl rfl rfl rfl (by rw [HS2.out]; omega) (by unfold maxLen; omega) ?_
            intro m2 h2
            refine hK.out _ _ trivial (fun _ => ?_)
            clear hK K
            try simp only [List.getElem_toArray, List.getElem_cons_zero, List.getElem_cons_succ, Act.put, List.setIfInBounds_toArray, List.set_cons_zero, List.set_cons_succ]
            refine wpAnyH_ready (rs := [3, 7]) (by kernel_rfl) (by simp) ?_
            refine AllReadyH.cons rfl (fun K hK => ?_) (AllReadyH.cons rfl (fun K hK => ?_) AllReadyH.nil)
            · refine step_make_new rfl _ _ 24 rfl 3 iI (.int .i64 0) Try.underlying24 HI.out HI0.out HI1.out rfl _ _ _ _ (fact n) rfl rfl rfl rfl (by rw [HI2.out]; omega) (by unfold maxLen; omega) ?_
              intro m3 h3
              refine hK.out _ _ trivial (fun _ => ?_)
              clear hK K
              try simp only [List.getElem_toArray, List.getElem_cons_zero, List.getElem_cons_succ, Act.put, List.setIfInBounds_toArray, List.set_cons_zero, List.set_cons_succ]
              refine wpAnyH_take (i := 6) (v := ?_) rfl (by kernel_rfl) (by kernel_rfl) (by kernel_rfl) (fun _ _ _ h => h) (Or.inl ⟨by rfl, ?_⟩) (by assumption) ?_
              rotate_left
              · intro w _; go_simp; with_reducible rfl
              try simp only [List.getElem_toArray, List.getElem_cons_zero, List.getElem_cons_succ, Act.put, List.setIfInBounds_toArray, List.set_cons_zero, List.set_cons_succ]
              refine wpAnyH_ready (rs := [7]) (by kernel_rfl) (by simp) ?_
              refine AllReadyH.cons rfl (fun K hK => ?_) AllReadyH.nil
              go_simp
              obtain ⟨m4, e4⟩ : ∃ x, x = m3.alloc (.cells [.slice none 0 0, .slice none 0 0, .slice none 0 0].toArray 62) := ⟨_, rfl⟩
              have h4 := NewB.alloc (m3) 62 [.slice none 0 0, .slice none 0 0, .slice none 0 0]
              rw [← e4] at h4
              refine hK.out _ _ trivial (fun _ => ?_)
              rw [← e4]
              clear hK K e4
              try simp only [List.getElem_toArray, List.getElem_cons_zero, List.getElem_cons_succ, Act.put, List.setIfInBounds_toArray, List.set_cons_zero, List.set_cons_succ]
              have fl := h4.blk
              have fa := (((h1.blk).grown h2.gr (by simp)).grown h3.gr (by simp)).grown h4.gr (by simp)
              have fc := (h3.blk).grown h4.gr (by simp)
              have fs := ((h2.blk).grown h3.gr (by simp)).grown h4.gr (by simp)
              refine wpAnyH_ready (rs := [8]) (by kernel_rfl) (by simp) ?_
              refine AllReadyH.cons rfl (fun K hK => ?_) AllReadyH.nil
              refine step_store_new3 rfl 62 _ _ rfl _ _ _ _ rfl rfl _ _ fl (by kernel_rfl) rfl ⟨rfl, rfl, rfl⟩ ?_
              intro m5 f5 g5
              refine hK.out _ _ trivial (fun _ => ?_)
              clear hK K
              refine wpAnyH_done (by kernel_rfl) ?_ _
              go_wp2_with fail
              go_meet
              have l0 : W.drew.heap.size = W.heap.size := rfl
              have l1 := h1.lt
              have l2 := h2.lt
              have l3 := h3.lt
              have l4 := h4.lt
              rw [← HW.out]
              exact leaf6 HWZ.out h1.gr h2.gr h3.gr h4.gr l1 l2 l3 l4 g5 f5 fa fc fs (by omega) (by omega) (by omega) (by omega) (by omega)
            · go_simp
              obtain ⟨m3, e3⟩ : ∃ x, x = m2.alloc (.cells [.slice none 0 0, .slice none 0 0, .slice none 0 0].toArray 62) := ⟨_, rfl⟩
              have h3 := NewB.alloc (m2) 62 [.slice none 0 0, .slice none 0 0, .slice none 0 0]
              rw [← e3] at h3
              refine hK.out _ _ trivial (fun _ => ?_)
              rw [← e3]
              clear hK K e3
              try simp only [List.getElem_toArray, List.getElem_cons_zero, List.getElem_cons_succ, Act.put, List.setIfInBounds_toArray, List.set_cons_zero, List.set_cons_succ]
              refine wpAnyH_ready (rs := [3]) (by kernel_rfl) (by simp) ?_
              refine AllReadyH.cons rfl (fun K hK => ?_) AllReadyH.nil
              refine step_make_new rfl _ _ 24 rfl 3 iI (.int .i64 0) Try.underlying24 HI.out HI0.out HI1.out rfl _ _ _ _ (fact n) rfl rfl rfl rfl (by rw [HI2.out]; omega) (by unfold maxLen; omega) ?_
              intro m4 h4
              refine hK.out _ _ trivial (fun _ => ?_)
              clear hK K
              try simp only [List.getElem_toArray, List.getElem_cons_zero, List.getElem_cons_succ, Act.put, List.setIfInBounds_toArray, List.set_cons_zero, List.set_cons_succ]
              have fl := (h3.blk).grown h4.gr (by simp)
              have fa := (((h1.blk).grown h2.gr (by simp)).grown h3.gr (by simp)).grown h4.gr (by simp)
              have fc := h4.blk
              have fs := ((h2.blk).grown h3.gr (by simp)).grown h4.gr (by simp)
              refine wpAnyH_take (i := 6) (v := ?_) rfl (by kernel_rfl) (by kernel_rfl) (by kernel_rfl) (fun _ _ _ h => h) (Or.inl ⟨by rfl, ?_⟩) (by assumption) ?_
              rotate_left
              · intro w _; go_simp; with_reducible rfl
              try simp only [List.getElem_toArray, List.getElem_cons_zero, List.getElem_cons_succ, Act.put, List.setIfInBounds_toArray, List.set_cons_zero, List.set_cons_succ]
              refine wpAnyH_ready (rs := [8]) (by kernel_rfl) (by simp) ?_
              refine AllReadyH.cons rfl (fun K hK => ?_) AllReadyH.nil
              refine step_store_new3 rfl 62 _ _ rfl _ _ _ _ rfl rfl _ _ fl (by kernel_rfl) rfl ⟨rfl, rfl, rfl⟩ ?_
              intro m5 f5 g5
              refine hK.out _ _ trivial (fun _ => ?_)
              clear hK K
              refine wpAnyH_done (by kernel_rfl) ?_ _
              go_wp2_with fail
              go_meet
              have l0 : W.drew.heap.size = W.heap.size := rfl
              have l1 := h1.lt
              have l2 := h2.lt
              have l3 := h3.lt
              have l4 := h4.lt
              rw [← HW.out]
              exact leaf6 HWZ.out h1.gr h2.gr h3.gr h4.gr l1 l2 l3 l4 g5 f5 fa fc fs (by omega) (by omega) (by omega) (by omega) (by omega)
          · go_simp
            obtain ⟨m2, e2⟩ : ∃ x, x = m1.alloc (.cells [.slice none 0 0, .slice none 0 0, .slice none 0 0].toArray 62) := ⟨_, rfl⟩
            have h2 := NewB.alloc (m1) 62 [.slice none 0 0, .slice none 0 0, .slice none 0 0]
            rw [← e2] at h2
            refine hK.out _ _ trivial (fun _ => ?_)
            rw [← e2]
            clear hK K e2
            try simp only [List.getElem_toArray, List.getElem_cons_zero, List.getElem_cons_succ, Act.put, List.setIfInBounds_toArray, List.set_cons_zero, List.set_cons_succ]
            refine wpAnyH_ready (rs := [3, 5]) (by kernel_rfl) (by simp) ?_
            refine AllReadyH.cons rfl (fun K hK => ?_) (AllReadyH.cons rfl (fun K hK => ?_) AllReadyH.nil)
            · refine step_make_new rfl _ _ 24 rfl 3 iI (.int .i64 0) Try.underlying24 HI.out HI0.out HI1.out rfl _ _ _ _ (fact n) rfl rfl rfl rfl (by rw [HI2.out]; omega) (by unfold maxLen; omega) ?_
              intro m3 h3
              refine hK.out _ _ trivial (fun _ => ?_)
              clear hK K
              try simp only [List.getElem_toArray, List.getElem_cons_zero, List.getElem_cons_succ, Act.put, List.setIfInBounds_toArray, List.set_cons_zero, List.set_cons_succ]
              refine wpAnyH_ready (rs := [5]) (by kernel_rfl) (by simp) ?_
              refine AllReadyH.cons rfl (fun K hK => ?_) AllReadyH.nil
              refine step_make_new rfl _ _ 36 rfl 24 iS (.slice none 0 0) Try.underlying36 HS.out HS0.out HS1.out rfl _ _ _ _ (fact n) rfl rfl rfl rfl (by rw [HS2.out]; omega) (by unfold maxLen; omega) ?_
              intro m4 h4
              refine hK.out _ _ trivial (fun _ => ?_)
              clear hK K
              try simp only [List.getElem_toArray, List.getElem_cons_zero, List.getElem_cons_succ, Act.put, List.setIfInBounds_toArray, List.set_cons_zero, List.set_cons_succ]
              have fl := ((h2.blk).grown h3.gr (by simp)).grown h4.gr (by simp)
              have fa := (((h1.blk).grown h2.gr (by simp)).grown h3.gr (by simp)).grown h4.gr (by simp)
              have fc := (h3.blk).grown h4.gr (by simp)
              have fs := h4.blk
              refine wpAnyH_take (i := 6) (v := ?_) rfl (by kernel_rfl) (by kernel_rfl) (by kernel_rfl) (fun _ _ _ h => h) (Or.inl ⟨by rfl, ?_⟩) (by assumption) ?_
              rotate_left
              · intro w _; go_simp; with_reducible rfl
              try simp only [List.getElem_toArray, List.getElem_cons_zero, List.getElem_cons_succ, Act.put, List.setIfInBounds_toArray, List.set_cons_zero, List.set_cons_succ]
              refine wpAnyH_ready (rs := [8]) (by kernel_rfl) (by simp) ?_
              refine AllReadyH.cons rfl (fun K hK => ?_) AllReadyH.nil
              refine step_store_new3 rfl 62 _ _ rfl _ _ _ _ rfl rfl _ _ fl (by kernel_rfl) rfl ⟨rfl, rfl, rfl⟩ ?_
              intro m5 f5 g5
              refine hK.out _ _ trivial (fun _ => ?_)
              clear hK K
              refine wpAnyH_done (by kernel_rfl) ?_ _
              go_wp2_with fail
              go_meet
              have l0 : W.drew.heap.size = W.heap.size := rfl
              have l1 := h1.lt
              have l2 := h2.lt
              have l3 := h3.lt
              have l4 := h4.lt
              rw [← HW.out]
              exact leaf6 HWZ.out h1.gr h2.gr h3.gr h4.gr l1 l2 l3 l4 g5 f5 fa fc fs (by omega) (by omega) (by omega) (by omega) (by omega)
            · refine step_make_new rfl _ _ 36 rfl 24 iS (.slice none 0 0) Try.underlying36 HS.out HS0.out HS1.out rfl _ _ _ _ (fact n) rfl rfl rfl rfl (by rw [HS2.out]; omega) (by unfold maxLen; omega) ?_
              intro m3 h3
              refine hK.out _ _ trivial (fun _ => ?_)
              clear hK K
              try simp only [List.getElem_toArray, List.getElem_cons_zero, List.getElem_cons_succ, Act.put, List.setIfInBounds_toArray, List.set_cons_zero, List.set_cons_succ]
              refine wpAnyH_ready (rs := [3]) (by kernel_rfl) (by simp) ?_
              refine AllReadyH.cons rfl (fun K hK => ?_) AllReadyH.nil
              refine step_make_new rfl _ _ 24 rfl 3 iI (.int .i64 0) Try.underlying24 HI.out HI0.out HI1.out rfl _ _ _ _ (fact n) rfl rfl rfl rfl (by rw [HI2.out]; omega) (by unfold maxLen; omega) ?_
              intro m4 h4
              refine hK.out _ _ trivial (fun _ => ?_)
              clear hK K
              try simp only [List.getElem_toArray, List.getElem_cons_zero, List.getElem_cons_succ, Act.put, List.setIfInBounds_toArray, List.set_cons_zero, List.set_cons_succ]
              have fl := ((h2.blk).grown h3.gr (by simp)).grown h4.gr (by simp)
              have fa := (((h1.blk).grown h2.gr (by simp)).grown h3.gr (by simp)).grown h4.gr (by simp)
              have fc := h4.blk
              have fs := (h3.blk).grown h4.gr (by simp)
              refine wpAnyH_take (i := 6) (v := ?_) rfl (by kernel_rfl) (by kernel_rfl) (by kernel_rfl) (fun _ _ _ h => h) (Or.inl ⟨by rfl, ?_⟩) (by assumption) ?_
              rotate_left
              · intro w _; go_simp; with_reducible rfl
              try simp only [List.getElem_toArray, List.getElem_cons_zero, List.getElem_cons_succ, Act.put, List.setIfInBounds_toArray, List.set_cons_zero, List.set_cons_succ]
              refine wpAnyH_ready (rs := [8]) (by kernel_rfl) (by simp) ?_
              refine AllReadyH.cons rfl (fun K hK => ?_) AllReadyH.nil
              refine step_store_new3 rfl 62 _ _ rfl _ _ _ _ rfl rfl _ _ fl (by kernel_rfl) rfl ⟨rfl, rfl, rfl⟩ ?_
              intro m5 f5 g5
              refine hK.out _ _ trivial (fun _ => ?_)
              clear hK K
              refine wpAnyH_done (by kernel_rfl) ?_ _
              go_wp2_with fail
              go_meet
              have l0 : W.drew.heap.size = W.heap.size := rfl
              have l1 := h1.lt
              have l2 := h2.lt
              have l3 := h3.lt
              have l4 := h4.lt
              rw [← HW.out]
              exact leaf6 HWZ.out h1.gr h2.gr h3.gr h4.gr l1 l2 l3 l4 g5 f5 fa fc fs (by omega) (by omega) (by omega) (by omega) (by omega)
        · refine step_make_new rfl _ _ 24 rfl 3 iI (.int .i64 0) Try.underlying24 HI.out HI0.out HI1.out rfl _ _ _ _ (fact n) rfl rfl rfl rfl (by rw [HI2.out]; omega) (by unfold maxLen; omega) ?_
          intro m1 h1
          refine hK.out _ _ trivial (fun _ => ?_)
          clear hK K
          try simp only [List.getElem_toArray, List.getElem_cons_zero, List.getElem_cons_succ, Act.put, List.setIfInBounds_toArray, List.set_cons_zero, List.set_cons_succ]
          refine wpAnyH_ready (rs := [1, 5, 7]) (by kernel_rfl) (by simp) ?_
          refine AllReadyH.cons rfl (fun K hK => ?_) (AllReadyH.cons rfl (fun K hK => ?_) (AllReadyH.cons rfl (fun K hK => ?_) AllReadyH.nil))
          · refine step_make_new rfl _ _ 24 rfl 3 iI (.int .i64 0) Try.underlying24 HI.out HI0.out HI1.out rfl _ _ _ _ (fact n) rfl rfl rfl rfl (by rw [HI2.out]; omega) (by unfold maxLen; omega) ?_
            intro m2 h2
            refine hK.out _ _ trivial (fun _ => ?_)
            clear hK K
            try simp only [List.getElem_toArray, List.getElem_cons_zero, List.getElem_cons_succ, Act.put, List.setIfInBounds_toArray, List.set_cons_zero, List.set_cons_succ]
            refine wpAnyH_ready (rs := [5, 7]) (by kernel_rfl) (by simp) ?_
            refine AllReadyH.cons rfl (fun K hK => ?_) (AllReadyH.cons rfl (fun K hK => ?_) AllReadyH.nil)
            · refine step_make_new rfl _ _ 36 rfl 24 iS (.slice none 0 0) Try.underlying36 HS.out HS0.out HS1.out rfl _ _ _ _ (fact n) rfl rfl rfl rfl (by rw [HS2.out]; omega) (by unfold maxLen; omega) ?_
              intro m3 h3
              refine hK.out _ _ trivial (fun _ => ?_)
              clear hK K
              try simp only [List.getElem_toArray, List.getElem_cons_zero, List.getElem_cons_succ, Act.put, List.setIfInBounds_toArray, List.set_cons_zero, List.set_cons_succ]
              refine wpAnyH_take (i := 6) (v := ?_) rfl (by kernel_rfl) (by kernel_rfl) (by kernel_rfl) (fun _ _ _ h => h) (Or.inl ⟨by rfl, ?_⟩) (by assumption) ?_
              rotate_left
              · intro w _; go_simp; with_reducible rfl
              try simp only [List.getElem_toArray, List.getElem_cons_zero, List.getElem_cons_succ, Act.put, List.setIfInBounds_toArray, List.set_cons_zero, List.set_cons_succ]
              refine wpAnyH_ready (rs := [7]) (by kernel_rfl) (by simp) ?_
              refine AllReadyH.cons rfl (fun K hK => ?_) AllReadyH.nil
              go_simp
              obtain ⟨m4, e4⟩ : ∃ x, x = m3.alloc (.cells [.slice none 0 0, .slice none 0 0, .slice none 0 0].toArray 62) := ⟨_, rfl⟩
              have h4 := NewB.alloc (m3) 62 [.slice none 0 0, .slice none 0 0, .slice none 0 0]
              rw [← e4] at h4
              refine hK.out _ _ trivial (fun _ => ?_)
              rw [← e4]
              clear hK K e4
              try simp only [List.getElem_toArray, List.getElem_cons_zero, List.getElem_cons_succ, Act.put, List.setIfInBounds_toArray, List.set_cons_zero, List.set_cons_succ]
              have fl := h4.blk
              have fa := ((h2.blk).grown h3.gr (by simp)).grown h4.gr (by simp)
              have fc := (((h1.blk).grown h2.gr (by simp)).grown h3.gr (by simp)).grown h4.gr (by simp)
              have fs := (h3.blk).grown h4.gr (by simp)
              refine wpAnyH_ready (rs := [8]) (by kernel_rfl) (by simp) ?_
              refine AllReadyH.cons rfl (fun K hK => ?_) AllReadyH.nil
              refine step_store_new3 rfl 62 _ _ rfl _ _ _ _ rfl rfl _ _ fl (by kernel_rfl) rfl ⟨rfl, rfl, rfl⟩ ?_
              intro m5 f5 g5
              refine hK.out _ _ trivial (fun _ => ?_)
              clear hK K
              refine wpAnyH_done (by kernel_rfl) ?_ _
              go_wp2_with fail
              go_meet
              have l0 : W.drew.heap.size = W.heap.size := rfl
              have l1 := h1.lt
              have l2 := h2.lt
              have l3 := h3.lt
              have l4 := h4.lt
              rw [← HW.out]
              exact leaf6 HWZ.out h1.gr h2.gr h3.gr h4.gr l1 l2 l3 l4 g5 f5 fa fc fs (by omega) (by omega) (by omega) (by omega) (by omega)
            · go_simp
              obtain ⟨m3, e3⟩ : ∃ x, x = m2.alloc (.cells [.slice none 0 0, .slice none 0 0, .slice none 0 0].toArray 62) := ⟨_, rfl⟩
              have h3 := NewB.alloc (m2) 62 [.slice none 0 0, .slice none 0 0, .slice none 0 0]
              rw [← e3] at h3
              refine hK.out _ _ trivial (fun _ => ?_)
              rw [← e3]
              clear hK K e3
              try simp only [List.getElem_toArray, List.getElem_cons_zero, List.getElem_cons_succ, Act.put, List.setIfInBounds_toArray, List.set_cons_zero, List.set_cons_succ]
              refine wpAnyH_ready (rs := [5]) (by kernel_rfl) (by simp) ?_
              refine AllReadyH.cons rfl (fun K hK => ?_) AllReadyH.nil
              refine step_make_new rfl _ _ 36 rfl 24 iS (.slice none 0 0) Try.underlying36 HS.out HS0.out HS1.out rfl _ _ _ _ (fact n) rfl rfl rfl rfl (by rw [HS2.out]; omega) (by unfold maxLen; omega) ?_
              intro m4 h4
              refine hK.out _ _ trivial (fun _ => ?_)
              clear hK K
              try simp only [List.getElem_toArray, List.getElem_cons_zero, List.getElem_cons_succ, Act.put, List.setIfInBounds_toArray, List.set_cons_zero, List.set_cons_succ]
              have fl := (h3.blk).grown h4.gr (by simp)
              have fa := ((h2.blk).grown h3.gr (by simp)).grown h4.gr (by simp)
              have fc := (((h1.blk).grown h2.gr (by simp)).grown h3.gr (by simp)).grown h4.gr (by simp)
              have fs := h4.blk
              refine wpAnyH_take (i := 6) (v := ?_) rfl (by kernel_rfl) (by kernel_rfl) (by kernel_rfl) (fun _ _ _ h => h) (Or.inl ⟨by rfl, ?_⟩) (by assumption) ?_
              rotate_left
              · intro w _; go_simp; with_reducible rfl
              try simp only [List.getElem_toArray, List.getElem_cons_zero, List.getElem_cons_succ, Act.put, List.setIfInBounds_toArray, List.set_cons_zero, List.set_cons_succ]
              refine wpAnyH_ready (rs := [8]) (by kernel_rfl) (by simp) ?_
              refine AllReadyH.cons rfl (fun K hK => ?_) AllReadyH.nil
              refine step_store_new3 rfl 62 _ _ rfl _ _ _ _ rfl rfl _ _ fl (by kernel_rfl) rfl ⟨rfl, rfl, rfl⟩ ?_
              intro m5 f5 g5
              refine hK.out _ _ trivial (fun _ => ?_)
              clear hK K
              refine wpAnyH_done (by kernel_rfl) ?_ _
              go_wp2_with fail
              go_meet
              have l0 : W.drew.heap.size = W.heap.size := rfl
              have l1 := h1.lt
              have l2 := h2.lt
              have l3 := h3.lt
              have l4 := h4.lt
              rw [← HW.out]
              exact leaf6 HWZ.out h1.gr h2.gr h3.gr h4.gr l1 l2 l3 l4 g5 f5 fa fc fs (by omega) (by omega) (by omega) (by omega) (by omega)
          · refine step_make_new rfl _ _ 36 rfl 24 iS (.slice none 0 0) Try.underlying36 HS.out HS0.out HS1.out rfl _ _ _ _ (fact n) rfl rfl rfl rfl (by rw [HS2.out]; omega) (by unfold maxLen; omega) ?_
            intro m2 h2
            refine hK.out _ _ trivial (fun _ => ?_)
            clear hK K
            try simp only [List.getElem_toArray, List.getElem_cons_zero, List.getElem_cons_succ, Act.put, List.setIfInBounds_toArray, List.set_cons_zero, List.set_cons_succ]
            refine wpAnyH_ready (rs := [1, 7]) (by kernel_rfl) (by simp) ?_
            refine AllReadyH.cons rfl (fun K hK => ?_) (AllReadyH.cons rfl (fun K hK => ?_) AllReadyH.nil)
            · refine step_make_new rfl _ _ 24 rfl 3 iI (.int .i64 0) Try.underlying24 HI.out HI0.out HI1.out rfl _ _ _ _ (fact n) rfl rfl rfl rfl (by rw [HI2.out]; omega) (by unfold maxLen; omega) ?_
              intro m3 h3
              refine hK.out _ _ trivial (fun _ => ?_)
              clear hK K
              try simp only [List.getElem_toArray, List.getElem_cons_zero, List.getElem_cons_succ, Act.put, List.setIfInBounds_toArray, List.set_cons_zero, List.set_cons_succ]
              refine wpAnyH_take (i := 6) (v := ?_) rfl (by kernel_rfl) (by kernel_rfl) (by kernel_rfl) (fun _ _ _ h => h) (Or.inl ⟨by rfl, ?_⟩) (by assumption) ?_
              rotate_left
              · intro w _; go_simp; with_reducible rfl
              try simp only [List.getElem_toArray, List.getElem_cons_zero, List.getElem_cons_succ, Act.put, List.setIfInBounds_toArray, List.set_cons_zero, List.set_cons_succ]
              refine wpAnyH_ready (rs := [7]) (by kernel_rfl) (by simp) ?_
              refine AllReadyH.cons rfl (fun K hK => ?_) AllReadyH.nil
              go_simp
              obtain ⟨m4, e4⟩ : ∃ x, x = m3.alloc (.cells [.slice none 0 0, .slice none 0 0, .slice none 0 0].toArray 62) := ⟨_, rfl⟩
              have h4 := NewB.alloc (m3) 62 [.slice none 0 0, .slice none 0 0, .slice none 0 0]
              rw [← e4] at h4
              refine hK.out _ _ trivial (fun _ => ?_)
              rw [← e4]
              clear hK K e4
              try simp only [List.getElem_toArray, List.getElem_cons_zero, List.getElem_cons_succ, Act.put, List.setIfInBounds_toArray, List.set_cons_zero, List.set_cons_succ]
              have fl := h4.blk
              have fa := (h3.blk).grown h4.gr (by simp)
              have fc := (((h1.blk).grown h2.gr (by simp)).grown h3.gr (by simp)).grown h4.gr (by simp)
              have fs := ((h2.blk).grown h3.gr (by simp)).grown h4.gr (by simp)
              refine wpAnyH_ready (rs := [8]) (by kernel_rfl) (by simp) ?_
              refine AllReadyH.cons rfl (fun K hK => ?_) AllReadyH.nil
              refine step_store_new3 rfl 62 _ _ rfl _ _ _ _ rfl rfl _ _ fl (by kernel_rfl) rfl ⟨rfl, rfl, rfl⟩ ?_
              intro m5 f5 g5
              refine hK.out _ _ trivial (fun _ => ?_)
              clear hK K
              refine wpAnyH_done (by kernel_rfl) ?_ _
              go_wp2_with fail
              go_meet
              have l0 : W.drew.heap.size = W.heap.size := rfl
              have l1 := h1.lt
              have l2 := h2.lt
              have l3 := h3.lt
              have l4 := h4.lt
              rw [← HW.out]
              exact leaf6 HWZ.out h1.gr h2.gr h3.gr h4.gr l1 l2 l3 l4 g5 f5 fa fc fs (by omega) (by omega) (by omega) (by omega) (by omega)
            · go_simp
              obtain ⟨m3, e3⟩ : ∃ x, x = m2.alloc (.cells [.slice none 0 0, .slice none 0 0, .slice none 0 0].toArray 62) := ⟨_, rfl⟩
              have h3 := NewB.alloc (m2) 62 [.slice none 0 0, .slice none 0 0, .slice none 0 0]
              rw [← e3] at h3
              refine hK.out _ _ trivial (fun _ => ?_)
              rw [← e3]
              clear hK K e3
              try simp only [List.getElem_toArray, List.getElem_cons_zero, List.getElem_cons_succ, Act.put, List.setIfInBounds_toArray, List.set_cons_zero, List.set_cons_succ]
              refine wpAnyH_ready (rs := [1]) (by kernel_rfl) (by simp) ?_
              refine AllReadyH.cons rfl (fun K hK => ?_) AllReadyH.nil
              refine step_make_new rfl _ _ 24 rfl 3 iI (.int .i64 0) Try.underlying24 HI.out HI0.out HI1.out rfl _ _ _ _ (fact n) rfl rfl rfl rfl (by rw [HI2.out]; omega) (by unfold maxLen; omega) ?_
              intro m4 h4
              refine hK.out _ _ trivial (fun _ => ?_)
              clear hK K
              try simp only [List.getElem_toArray, List.getElem_cons_zero, List.getElem_cons_succ, Act.put, List.setIfInBounds_toArray, List.set_cons_zero, List.set_cons_succ]
              have fl := (h3.blk).grown h4.gr (by simp)
              have fa := h4.blk
              have fc := (((h1.blk).grown h2.gr (by simp)).grown h3.gr (by simp)).grown h4.gr (by simp)
              have fs := ((h2.blk).grown h3.gr (by simp)).grown h4.gr (by simp)
              refine wpAnyH_take (i := 6) (v := ?_) rfl (by kernel_rfl) (by kernel_rfl) (by kernel_rfl) (fun _ _ _ h => h) (Or.inl ⟨by rfl, ?_⟩) (by assumption) ?_
              rotate_left
              · intro w _; go_simp; with_reducible rfl
              try simp only [List.getElem_toArray, List.getElem_cons_zero, List.getElem_cons_succ, Act.put, List.setIfInBounds_toArray, List.set_cons_zero, List.set_cons_succ]
              refine wpAnyH_ready (rs := [8]) (by kernel_rfl) (by simp) ?_
              refine AllReadyH.cons rfl (fun K hK => ?_) AllReadyH.nil
              refine step_store_new3 rfl 62 _ _ rfl _ _ _ _ rfl rfl _ _ fl (by kernel_rfl) rfl ⟨rfl, rfl, rfl⟩ ?_
              intro m5 f5 g5
              refine hK.out _ _ trivial (fun _ => ?_)
              clear hK K
              refine wpAnyH_done (by kernel_rfl) ?_ _
              go_wp2_with fail
              go_meet
              have l0 : W.drew.heap.size = W.heap.size := rfl
              have l1 := h1.lt
              have l2 := h2.lt
              have l3 := h3.lt
              have l4 := h4.lt
              rw [← HW.out]
              exact leaf6 HWZ.out h1.gr h2.gr h3.gr h4.gr l1 l2 l3 l4 g5 f5 fa fc fs (by omega) (by omega) (by omega) (by omega) (by omega)
          · go_simp
            obtain ⟨m2, e2⟩ : ∃ x, x = m1.alloc (.cells [.slice none 0 0, .slice none 0 0, .slice none 0 0].toArray 62) := ⟨_, rfl⟩
            have h2 := NewB.alloc (m1) 62 [.slice none 0 0, .slice none 0 0, .slice none 0 0]
            rw [← e2] at h2
            refine hK.out _ _ trivial (fun _ => ?_)
            rw [← e2]
            clear hK K e2
            try simp only [List.getElem_toArray, List.getElem_cons_zero, List.getElem_cons_succ, Act.put, List.setIfInBounds_toArray, List.set_cons_zero, List.set_cons_succ]
            refine wpAnyH_ready (rs := [1, 5]) (by kernel_rfl) (by simp) ?_
            refine AllReadyH.cons rfl (fun K hK => ?_) (AllReadyH.cons rfl (fun K hK => ?_) AllReadyH.nil)
            · refine step_make_new rfl _ _ 24 rfl 3 iI (.int .i64 0) Try.underlying24 HI.out HI0.out HI1.out rfl _ _ _ _ (fact n) rfl rfl rfl rfl (by rw [HI2.out]; omega) (by unfold maxLen; omega) ?_
              intro m3 h3
              refine hK.out _ _ trivial (fun _ => ?_)
              clear hK K
              try simp only [List.getElem_toArray, List.getElem_cons_zero, List.getElem_cons_succ, Act.put, List.setIfInBounds_toArray, List.set_cons_zero, List.set_cons_succ]
              refine wpAnyH_ready (rs := [5]) (by kernel_rfl) (by simp) ?_
              refine AllReadyH.cons rfl (fun K hK => ?_) AllReadyH.nil
              refine step_make_new rfl _ _ 36 rfl 24 iS (.slice none 0 0) Try.underlying36 HS.out HS0.out HS1.out rfl _ _ _ _ (fact n) rfl rfl rfl rfl (by rw [HS2.out]; omega) (by unfold maxLen; omega) ?_
              intro m4 h4
              refine hK.out _ _ trivial (fun _ => ?_)
              clear hK K
              try simp only [List.getElem_toArray, List.getElem_cons_zero, List.getElem_cons_succ, Act.put, List.setIfInBounds_toArray, List.set_cons_zero, List.set_cons_succ]
              have fl := ((h2.blk).grown h3.gr (by simp)).grown h4.gr (by simp)
              have fa := (h3.blk).grown h4.gr (by simp)
              have fc := (((h1.blk).grown h2.gr (by simp)).grown h3.gr (by simp)).grown h4.gr (by simp)
              have fs := h4.blk
              refine wpAnyH_take (i := 6) (v := ?_) rfl (by kernel_rfl) (by kernel_rfl) (by kernel_rfl) (fun _ _ _ h => h) (Or.inl ⟨by rfl, ?_⟩) (by assumption) ?_
              rotate_left
              · intro w _; go_simp; with_reducible rfl
              try simp only [List.getElem_toArray, List.getElem_cons_zero, List.getElem_cons_succ, Act.put, List.setIfInBounds_toArray, List.set_cons_zero, List.set_cons_succ]
              refine wpAnyH_ready (rs := [8]) (by kernel_rfl) (by simp) ?_
              refine AllReadyH.cons rfl (fun K hK => ?_) AllReadyH.nil
              refine step_store_new3 rfl 62 _ _ rfl _ _ _ _ rfl rfl _ _ fl (by kernel_rfl) rfl ⟨rfl, rfl, rfl⟩ ?_
              intro m5 f5 g5
              refine hK.out _ _ trivial (fun _ => ?_)
              clear hK K
              refine wpAnyH_done (by kernel_rfl) ?_ _
              go_wp2_with fail
              go_meet
              have l0 : W.drew.heap.size = W.heap.size := rfl
              have l1 := h1.lt
              have l2 := h2.lt
              have l3 := h3.lt
              have l4 := h4.lt
              rw [← HW.out]
              exact leaf6 HWZ.out h1.gr h2.gr h3.gr h4.gr l1 l2 l3 l4 g5 f5 fa fc fs (by omega) (by omega) (by omega) (by omega) (by omega)
            · refine step_make_new rfl _ _ 36 rfl 24 iS (.slice none 0 0) Try.underlying36 HS.out HS0.out HS1.out rfl _ _ _ _ (fact n) rfl rfl rfl rfl (by rw [HS2.out]; omega) (by unfold maxLen; omega) ?_
              intro m3 h3
              refine hK.out _ _ trivial (fun _ => ?_)
              clear hK K
              try simp only [List.getElem_toArray, List.getElem_cons_zero, List.getElem_cons_succ, Act.put, List.setIfInBounds_toArray, List.set_cons_zero, List.set_cons_succ]
              refine wpAnyH_ready (rs := [1]) (by kernel_rfl) (by simp) ?_
              refine AllReadyH.cons rfl (fun K hK => ?_) AllReadyH.nil
              refine step_make_new rfl _ _ 24 rfl 3 iI (.int .i64 0) Try.underlying24 HI.out HI0.out HI1.out rfl _ _ _ _ (fact n) rfl rfl rfl rfl (by rw [HI2.out]; omega) (by unfold maxLen; omega) ?_
              intro m4 h4
              refine hK.out _ _ trivial (fun _ => ?_)
              clear hK K
              try simp only [List.getElem_toArray, List.getElem_cons_zero, List.getElem_cons_succ, Act.put, List.setIfInBounds_toArray, List.set_cons_zero, List.set_cons_succ]
              have fl := ((h2.blk).grown h3.gr (by simp)).grown h4.gr (by simp)
              have fa := h4.blk
              have fc := (((h1.blk).grown h2.gr (by simp)).grown h3.gr (by simp)).grown h4.gr (by simp)
              have fs := (h3.blk).grown h4.gr (by simp)
              refine wpAnyH_take (i := 6) (v := ?_) rfl (by kernel_rfl) (by kernel_rfl) (by kernel_rfl) (fun _ _ _ h => h) (Or.inl ⟨by rfl, ?_⟩) (by assumption) ?_
              rotate_left
              · intro w _; go_simp; with_reducible rfl
              try simp only [List.getElem_toArray, List.getElem_cons_zero, List.getElem_cons_succ, Act.put, List.setIfInBounds_toArray, List.set_cons_zero, List.set_cons_succ]
              refine wpAnyH_ready (rs := [8]) (by kernel_rfl) (by simp) ?_
              refine AllReadyH.cons rfl (fun K hK => ?_) AllReadyH.nil
              refine step_store_new3 rfl 62 _ _ rfl _ _ _ _ rfl rfl _ _ fl (by kernel_rfl) rfl ⟨rfl, rfl, rfl⟩ ?_
              intro m5 f5 g5
              refine hK.out _ _ trivial (fun _ => ?_)
              clear hK K
              refine wpAnyH_done (by kernel_rfl) ?_ _
              go_wp2_with fail
              go_meet
              have l0 : W.drew.heap.size = W.heap.size := rfl
              have l1 := h1.lt
              have l2 := h2.lt
              have l3 := h3.lt
              have l4 := h4.lt
              rw [← HW.out]
              exact leaf6 HWZ.out h1.gr h2.gr h3.gr h4.gr l1 l2 l3 l4 g5 f5 fa fc fs (by omega) (by omega) (by omega) (by omega) (by omega)
        · refine step_make_new rfl _ _ 36 rfl 24 iS (.slice none 0 0) Try.underlying36 HS.out HS0.out HS1.out rfl _ _ _ _ (fact n) rfl rfl rfl rfl (by rw [HS2.out]; omega) (by unfold maxLen; omega) ?_
          intro m1 h1
          refine hK.out _ _ trivial (fun _ => ?_)
          clear hK K
          try simp only [List.getElem_toArray, List.getElem_cons_zero, List.getElem_cons_succ, Act.put, List.setIfInBounds_toArray, List.set_cons_zero, List.set_cons_succ]
          refine wpAnyH_ready (rs := [1, 3, 7]) (by kernel_rfl) (by simp) ?_
          refine AllReadyH.cons rfl (fun K hK => ?_) (AllReadyH.cons rfl (fun K hK => ?_) (AllReadyH.cons rfl (fun K hK => ?_) AllReadyH.nil))
          · refine step_make_new rfl _ _ 24 rfl 3 iI (.int .i64 0) Try.underlying24 HI.out HI0.out HI1.out rfl _ _ _ _ (fact n) rfl rfl rfl rfl (by rw [HI2.out]; omega) (by unfold maxLen; omega) ?_
            intro m2 h2
            refine hK.out _ _ trivial (fun _ => ?_)
            clear hK K
            try simp only [List.getElem_toArray, List.getElem_cons_zero, List.getElem_cons_succ, Act.put, List.setIfInBounds_toArray, List.set_cons_zero, List.set_cons_succ]
            refine wpAnyH_ready (rs := [3, 7]) (by kernel_rfl) (by simp) ?_
            refine AllReadyH.cons rfl (fun K hK => ?_) (AllReadyH.cons rfl (fun K hK => ?_) AllReadyH.nil)
            · refine step_make_new rfl _ _ 24 rfl 3 iI (.int .i64 0) Try.underlying24 HI.out HI0.out HI1.out rfl _ _ _ _ (fact n) rfl rfl rfl rfl (by rw [HI2.out]; omega) (by unfold maxLen; omega) ?_
              intro m3 h3
              refine hK.out _ _ trivial (fun _ => ?_)
              clear hK K
              try simp only [List.getElem_toArray, List.getElem_cons_zero, List.getElem_cons_succ, Act.put, List.setIfInBounds_toArray, List.set_cons_zero, List.set_cons_succ]
              refine wpAnyH_take (i := 6) (v := ?_) rfl (by kernel_rfl) (by kernel_rfl) (by kernel_rfl) (fun _ _ _ h => h) (Or.inl ⟨by rfl, ?_⟩) (by assumption) ?_
              rotate_left
              · intro w _; go_simp; with_reducible rfl
              try simp only [List.getElem_toArray, List.getElem_cons_zero, List.getElem_cons_succ, Act.put, List.setIfInBounds_toArray, List.set_cons_zero, List.set_cons_succ]
              refine wpAnyH_ready (rs := [7]) (by kernel_rfl) (by simp) ?_
              refine AllReadyH.cons rfl (fun K hK => ?_) AllReadyH.nil
              go_simp
              obtain ⟨m4, e4⟩ : ∃ x, x = m3.alloc (.cells [.slice none 0 0, .slice none 0 0, .slice none 0 0].toArray 62) := ⟨_, rfl⟩
              have h4 := NewB.alloc (m3) 62 [.slice none 0 0, .slice none 0 0, .slice none 0 0]
              rw [← e4] at h4
              refine hK.out _ _ trivial (fun _ => ?_)
              rw [← e4]
              clear hK K e4
              try simp only [List.getElem_toArray, List.getElem_cons_zero, List.getElem_cons_succ, Act.put, List.setIfInBounds_toArray, List.set_cons_zero, List.set_cons_succ]
              have fl := h4.blk
              have fa := ((h2.blk).grown h3.gr (by simp)).grown h4.gr (by simp)
              have fc := (h3.blk).grown h4.gr (by simp)
              have fs := (((h1.blk).grown h2.gr (by simp)).grown h3.gr (by simp)).grown h4.gr (by simp)
              refine wpAnyH_ready (rs := [8]) (by kernel_rfl) (by simp) ?_
              refine AllReadyH.cons rfl (fun K hK => ?_) AllReadyH.nil
              refine step_store_new3 rfl 62 _ _ rfl _ _ _ _ rfl rfl _ _ fl (by kernel_rfl) rfl ⟨rfl, rfl, rfl⟩ ?_
              intro m5 f5 g5
              refine hK.out _ _ trivial (fun _ => ?_)
              clear hK K
              refine wpAnyH_done (by kernel_rfl) ?_ _
              go_wp2_with fail
              go_meet
              have l0 : W.drew.heap.size = W.heap.size := rfl
              have l1 := h1.lt
              have l2 := h2.lt
              have l3 := h3.lt
              have l4 := h4.lt
              rw [← HW.out]
              exact leaf6 HWZ.out h1.gr h2.gr h3.gr h4.gr l1 l2 l3 l4 g5 f5 fa fc fs (by omega) (by omega) (by omega) (by omega) (by omega)
            · go_simp
              obtain ⟨m3, e3⟩ : ∃ x, x = m2.alloc (.cells [.slice none 0 0, .slice none 0 0, .slice none 0 0].toArray 62) := ⟨_, rfl⟩
              have h3 := NewB.alloc (m2) 62 [.slice none 0 0, .slice none 0 0, .slice none 0 0]
              rw [← e3] at h3
              refine hK.out _ _ trivial (fun _ => ?_)
              rw [← e3]
              clear hK K e3
              try simp only [List.getElem_toArray, List.getElem_cons_zero, List.getElem_cons_succ, Act.put, List.setIfInBounds_toArray, List.set_cons_zero, List.set_cons_succ]
              refine wpAnyH_ready (rs := [3]) (by kernel_rfl) (by simp) ?_
              refine AllReadyH.cons rfl (fun K hK => ?_) AllReadyH.nil
              refine step_make_new rfl _ _ 24 rfl 3 iI (.int .i64 0) Try.underlying24 HI.out HI0.out HI1.out rfl _ _ _ _ (fact n) rfl rfl rfl rfl (by rw [HI2.out]; omega) (by unfold maxLen; omega) ?_
              intro m4 h4
              refine hK.out _ _ trivial (fun _ => ?_)
              clear hK K
              try simp only [List.getElem_toArray, List.getElem_cons_zero, List.getElem_cons_succ, Act.put, List.setIfInBounds_toArray, List.set_cons_zero, List.set_cons_succ]
              have fl := (h3.blk).grown h4.gr (by simp)
              have fa := ((h2.blk).grown h3.gr (by simp)).grown h4.gr (by simp)
              have fc := h4.blk
              have fs := (((h1.blk).grown h2.gr (by simp)).grown h3.gr (by simp)).grown h4.gr (by simp)
              refine wpAnyH_take (i := 6) (v := ?_) rfl (by kernel_rfl) (by kernel_rfl) (by kernel_rfl) (fun _ _ _ h => h) (Or.inl ⟨by rfl, ?_⟩) (by assumption) ?_
              rotate_left
              · intro w _; go_simp; with_reducible rfl
              try simp only [List.getElem_toArray, List.getElem_cons_zero, List.getElem_cons_succ, Act.put, List.setIfInBounds_toArray, List.set_cons_zero, List.set_cons_succ]
              refine wpAnyH_ready (rs := [8]) (by kernel_rfl) (by simp) ?_
              refine AllReadyH.cons rfl (fun K hK => ?_) AllReadyH.nil
              refine step_store_new3 rfl 62 _ _ rfl _ _ _ _ rfl rfl _ _ fl (by kernel_rfl) rfl ⟨rfl, rfl, rfl⟩ ?_
              intro m5 f5 g5
              refine hK.out _ _ trivial (fun _ => ?_)
              clear hK K
              refine wpAnyH_done (by kernel_rfl) ?_ _
              go_wp2_with fail
              go_meet
              have l0 : W.drew.heap.size = W.heap.size := rfl
              have l1 := h1.lt
              have l2 := h2.lt
              have l3 := h3.lt
              have l4 := h4.lt
              rw [← HW.out]
              exact leaf6 HWZ.out h1.gr h2.gr h3.gr h4.gr l1 l2 l3 l4 g5 f5 fa fc fs (by omega) (by omega) (by omega) (by omega) (by omega)
          · refine step_make_new rfl _ _ 24 rfl 3 iI (.int .i64 0) Try.underlying24 HI.out HI0.out HI1.out rfl _ _ _ _ (fact n) rfl rfl rfl rfl (by rw [HI2.out]; omega) (by unfold maxLen; omega) ?_
            intro m2 h2
            refine hK.out _ _ trivial (fun _ => ?_)
            clear hK K
            try simp only [List.getElem_toArray, List.getElem_cons_zero, List.getElem_cons_succ, Act.put, List.setIfInBounds_toArray, List.set_cons_zero, List.set_cons_succ]
            refine wpAnyH_ready (rs := [1, 7]) (by kernel_rfl) (by simp) ?_
            refine AllReadyH.cons rfl (fun K hK => ?_) (AllReadyH.cons rfl (fun K hK => ?_) AllReadyH.nil)
            · refine step_make_new rfl _ _ 24 rfl 3 iI (.int .i64 0) Try.underlying24 HI.out HI0.out HI1.out rfl _ _ _ _ (fact n) rfl rfl rfl rfl (by rw [HI2.out]; omega) (by unfold maxLen; omega) ?_
              intro m3 h3
              refine hK.out _ _ trivial (fun _ => ?_)
              clear hK K
              try simp only [List.getElem_toArray, List.getElem_cons_zero, List.getElem_cons_succ, Act.put, List.setIfInBounds_toArray, List.set_cons_zero, List.set_cons_succ]
              refine wpAnyH_take (i := 6) (v := ?_) rfl (by kernel_rfl) (by kernel_rfl) (by kernel_rfl) (fun _ _ _ h => h) (Or.inl ⟨by rfl, ?_⟩) (by assumption) ?_
              rotate_left
              · intro w _; go_simp; with_reducible rfl
              try simp only [List.getElem_toArray, List.getElem_cons_zero, List.getElem_cons_succ, Act.put, List.setIfInBounds_toArray, List.set_cons_zero, List.set_cons_succ]
              refine wpAnyH_ready (rs := [7]) (by kernel_rfl) (by simp) ?_
              refine AllReadyH.cons rfl (fun K hK => ?_) AllReadyH.nil
              go_simp
              obtain ⟨m4, e4⟩ : ∃ x, x = m3.alloc (.cells [.slice none 0 0, .slice none 0 0, .slice none 0 0].toArray 62) := ⟨_, rfl⟩
              have h4 := NewB.alloc (m3) 62 [.slice none 0 0, .slice none 0 0, .slice none 0 0]
              rw [← e4] at h4
              refine hK.out _ _ trivial (fun _ => ?_)
              rw [← e4]
              clear hK K e4
              try simp only [List.getElem_toArray, List.getElem_cons_zero, List.getElem_cons_succ, Act.put, List.setIfInBounds_toArray, List.set_cons_zero, List.set_cons_succ]
              have fl := h4.blk
              have fa := (h3.blk).grown h4.gr (by simp)
              have fc := ((h2.blk).grown h3.gr (by simp)).grown h4.gr (by simp)
              have fs := (((h1.blk).grown h2.gr (by simp)).grown h3.gr (by simp)).grown h4.gr (by simp)
              refine wpAnyH_ready (rs := [8]) (by kernel_rfl) (by simp) ?_
              refine AllReadyH.cons rfl (fun K hK => ?_) AllReadyH.nil
              refine step_store_new3 rfl 62 _ _ rfl _ _ _ _ rfl rfl _ _ fl (by kernel_rfl) rfl ⟨rfl, rfl, rfl⟩ ?_
              intro m5 f5 g5
              refine hK.out _ _ trivial (fun _ => ?_)
              clear hK K
              refine wpAnyH_done (by kernel_rfl) ?_ _
              go_wp2_with fail
              go_meet
              have l0 : W.drew.heap.size = W.heap.size := rfl
              have l1 := h1.lt
              have l2 := h2.lt
              have l3 := h3.lt
              have l4 := h4.lt
              rw [← HW.out]
              exact leaf6 HWZ.out h1.gr h2.gr h3.gr h4.gr l1 l2 l3 l4 g5 f5 fa fc fs (by omega) (by omega) (by omega) (by omega) (by omega)
            · go_simp
              obtain ⟨m3, e3⟩ : ∃ x, x = m2.alloc (.cells [.slice none 0 0, .slice none 0 0, .slice none 0 0].toArray 62) := ⟨_, rfl⟩
              have h3 := NewB.alloc (m2) 62 [.slice none 0 0, .slice none 0 0, .slice none 0 0]
              rw [← e3] at h3
              refine hK.out _ _ trivial (fun _ => ?_)
              rw [← e3]
              clear hK K e3
              try simp only [List.getElem_toArray, List.getElem_cons_zero, List.getElem_cons_succ, Act.put, List.setIfInBounds_toArray, List.set_cons_zero, List.set_cons_succ]
              refine wpAnyH_ready (rs := [1]) (by kernel_rfl) (by simp) ?_
              refine AllReadyH.cons rfl (fun K hK => ?_) AllReadyH.nil
              refine step_make_new rfl _ _ 24 rfl 3 iI (.int .i64 0) Try.underlying24 HI.out HI0.out HI1.out rfl _ _ _ _ (fact n) rfl rfl rfl rfl (by rw [HI2.out]; omega) (by unfold maxLen; omega) ?_
              intro m4 h4
              refine hK.out _ _ trivial (fun _ => ?_)
              clear hK K
              try simp only [List.getElem_toArray, List.getElem_cons_zero, List.getElem_cons_succ, Act.put, List.setIfInBounds_toArray, List.set_cons_zero, List.set_cons_succ]
              have fl := (h3.blk).grown h4.gr (by simp)
              have fa := h4.blk
              have fc := ((h2.blk).grown h3.gr (by simp)).grown h4.gr (by simp)
              have fs := (((h1.blk).grown h2.gr (by simp)).grown h3.gr (by simp)).grown h4.gr (by simp)
              refine wpAnyH_take (i := 6) (v := ?_) rfl (by kernel_rfl) (by kernel_rfl) (by kernel_rfl) (fun _ _ _ h => h) (Or.inl ⟨by rfl, ?_⟩) (by assumption) ?_
              rotate_left
              · intro w _; go_simp; with_reducible rfl
              try simp only [List.getElem_toArray, List.getElem_cons_zero, List.getElem_cons_succ, Act.put, List.setIfInBounds_toArray, List.set_cons_zero, List.set_cons_succ]
              refine wpAnyH_ready (rs := [8]) (by kernel_rfl) (by simp) ?_
              refine AllReadyH.cons rfl (fun K hK => ?_) AllReadyH.nil
              refine step_store_new3 rfl 62 _ _ rfl _ _ _ _ rfl rfl _ _ fl (by kernel_rfl) rfl ⟨rfl, rfl, rfl⟩ ?_
              intro m5 f5 g5
              refine hK.out _ _ trivial (fun _ => ?_)
              clear hK K
              refine wpAnyH_done (by kernel_rfl) ?_ _
              go_wp2_with fail
              go_meet
              have l0 : W.drew.heap.size = W.heap.size := rfl
              have l1 := h1.lt
              have l2 := h2.lt
              have l3 := h3.lt
              have l4 := h4.lt
              rw [← HW.out]
              exact leaf6 HWZ.out h1.gr h2.gr h3.gr h4.gr l1 l2 l3 l4 g5 f5 fa fc fs (by omega) (by omega) (by omega) (by omega) (by omega)
          · go_simp
            obtain ⟨m2, e2⟩ : ∃ x, x = m1.alloc (.cells [.slice none 0 0, .slice none 0 0, .slice none 0 0].toArray 62) := ⟨_, rfl⟩
            have h2 := NewB.alloc (m1) 62 [.slice none 0 0, .slice none 0 0, .slice none 0 0]
            rw [← e2] at h2
            refine hK.out _ _ trivial (fun _ => ?_)
            rw [← e2]
            clear hK K e2
            try simp only [List.getElem_toArray, List.getElem_cons_zero, List.getElem_cons_succ, Act.put, List.setIfInBounds_toArray, List.set_cons_zero, List.set_cons_succ]
            refine wpAnyH_ready (rs := [1, 3]) (by kernel_rfl) (by simp) ?_
            refine AllReadyH.cons rfl (fun K hK => ?_) (AllReadyH.cons rfl (fun K hK => ?_) AllReadyH.nil)
            · refine step_make_new rfl _ _ 24 rfl 3 iI (.int .i64 0) Try.underlying24 HI.out HI0.out HI1.out rfl _ _ _ _ (fact n) rfl rfl rfl rfl (by rw [HI2.out]; omega) (by unfold maxLen; omega) ?_
              intro m3 h3
              refine hK.out _ _ trivial (fun _ => ?_)
              clear hK K
              try simp only [List.getElem_toArray, List.getElem_cons_zero, List.getElem_cons_succ, Act.put, List.setIfInBounds_toArray, List.set_cons_zero, List.set_cons_succ]
              refine wpAnyH_ready (rs := [3]) (by kernel_rfl) (by simp) ?_
              refine AllReadyH.cons rfl (fun K hK => ?_) AllReadyH.nil
              refine step_make_new rfl _ _ 24 rfl 3 iI (.int .i64 0) Try.underlying24 HI.out HI0.out HI1.out rfl _ _ _ _ (fact n) rfl rfl rfl rfl (by rw [HI2.out]; omega) (by unfold maxLen; omega) ?_
              intro m4 h4
              refine hK.out _ _ trivial (fun _ => ?_)
              clear hK K
              try simp only [List.getElem_toArray, List.getElem_cons_zero, List.getElem_cons_succ, Act.put, List.setIfInBounds_toArray, List.set_cons_zero, List.set_cons_succ]
              have fl := ((h2.blk).grown h3.gr (by simp)).grown h4.gr (by simp)
              have fa := (h3.blk).grown h4.gr (by simp)
              have fc := h4.blk
              have fs := (((h1.blk).grown h2.gr (by simp)).grown h3.gr (by simp)).grown h4.gr (by simp)
              refine wpAnyH_take (i := 6) (v := ?_) rfl (by kernel_rfl) (by kernel_rfl) (by kernel_rfl) (fun _ _ _ h => h) (Or.inl ⟨by rfl, ?_⟩) (by assumption) ?_
              rotate_left
              · intro w _; go_simp; with_reducible rfl
              try simp only [List.getElem_toArray, List.getElem_cons_zero, List.getElem_cons_succ, Act.put, List.setIfInBounds_toArray, List.set_cons_zero, List.set_cons_succ]
              refine wpAnyH_ready (rs := [8]) (by kernel_rfl) (by simp) ?_
              refine AllReadyH.cons rfl (fun K hK => ?_) AllReadyH.nil
              refine step_store_new3 rfl 62 _ _ rfl _ _ _ _ rfl rfl _ _ fl (by kernel_rfl) rfl ⟨rfl, rfl, rfl⟩ ?_
              intro m5 f5 g5
              refine hK.out _ _ trivial (fun _ => ?_)
              clear hK K
              refine wpAnyH_done (by kernel_rfl) ?_ _
              go_wp2_with fail
              go_meet
              have l0 : W.drew.heap.size = W.heap.size := rfl
              have l1 := h1.lt
              have l2 := h2.lt
              have l3 := h3.lt
              have l4 := h4.lt
              rw [← HW.out]
              exact leaf6 HWZ.out h1.gr h2.gr h3.gr h4.gr l1 l2 l3 l4 g5 f5 fa fc fs (by omega) (by omega) (by omega) (by omega) (by omega)
            · refine step_make_new rfl _ _ 24 rfl 3 iI (.int .i64 0) Try.underlying24 HI.out HI0.out HI1.out rfl _ _ _ _ (fact n) rfl rfl rfl rfl (by rw [HI2.out]; omega) (by unfold maxLen; omega) ?_
              intro m3 h3
              refine hK.out _ _ trivial (fun _ => ?_)
              clear hK K
              try simp only [List.getElem_toArray, List.getElem_cons_zero, List.getElem_cons_succ, Act.put, List.setIfInBounds_toArray, List.set_cons_zero, List.set_cons_succ]
              refine wpAnyH_ready (rs := [1]) (by kernel_rfl) (by simp) ?_
              refine AllReadyH.cons rfl (fun K hK => ?_) AllReadyH.nil
              refine step_make_new rfl _ _ 24 rfl 3 iI (.int .i64 0) Try.underlying24 HI.out HI0.out HI1.out rfl _ _ _ _ (fact n) rfl rfl rfl rfl (by rw [HI2.out]; omega) (by unfold maxLen; omega) ?_
              intro m4 h4
              refine hK.out _ _ trivial (fun _ => ?_)
              clear hK K
              try simp only [List.getElem_toArray, List.getElem_cons_zero, List.getElem_cons_succ, Act.put, List.setIfInBounds_toArray, List.set_cons_zero, List.set_cons_succ]
              have fl := ((h2.blk).grown h3.gr (by simp)).grown h4.gr (by simp)
              have fa := h4.blk
              have fc := (h3.blk).grown h4.gr (by simp)
              have fs := (((h1.blk).grown h2.gr (by simp)).grown h3.gr (by simp)).grown h4.gr (by simp)
              refine wpAnyH_take (i := 6) (v := ?_) rfl (by kernel_rfl) (by kernel_rfl) (by kernel_rfl) (fun _ _ _ h => h) (Or.inl ⟨by rfl, ?_⟩) (by assumption) ?_
              rotate_left
              · intro w _; go_simp; with_reducible rfl
              try simp only [List.getElem_toArray, List.getElem_cons_zero, List.getElem_cons_succ, Act.put, List.setIfInBounds_toArray, List.set_cons_zero, List.set_cons_succ]
              refine wpAnyH_ready (rs := [8]) (by kernel_rfl) (by simp) ?_
              refine AllReadyH.cons rfl (fun K hK => ?_) AllReadyH.nil
              refine step_store_new3 rfl 62 _ _ rfl _ _ _ _ rfl rfl _ _ fl (by kernel_rfl) rfl ⟨rfl, rfl, rfl⟩ ?_
              intro m5 f5 g5
              refine hK.out _ _ trivial (fun _ => ?_)
              clear hK K
              refine wpAnyH_done (by kernel_rfl) ?_ _
              go_wp2_with fail
              go_meet
              have l0 : W.drew.heap.size = W.heap.size := rfl
              have l1 := h1.lt
              have l2 := h2.lt
              have l3 := h3.lt
              have l4 := h4.lt
              rw [← HW.out]
              exact leaf6 HWZ.out h1.gr h2.gr h3.gr h4.gr l1 l2 l3 l4 g5 f5 fa fc fs (by omega) (by omega) (by omega) (by omega) (by omega)
        · go_simp
          obtain ⟨m1, e1⟩ : ∃ x, x = W.drew.alloc (.cells [.slice none 0 0, .slice none 0 0, .slice none 0 0].toArray 62) := ⟨_, rfl⟩
          have h1 := NewB.alloc (W.drew) 62 [.slice none 0 0, .slice none 0 0, .slice none 0 0]
          rw [← e1] at h1
          refine hK.out _ (W.drew.alloc (.cells [.slice none 0 0, .slice none 0 0, .slice none 0 0].toArray 62)) trivial (fun _ => ?_)
          rw [← e1]
          clear hK K e1
          try simp only [List.getElem_toArray, List.getElem_cons_zero, List.getElem_cons_succ, Act.put, List.setIfInBounds_toArray, List.set_cons_zero, List.set_cons_succ]
          refine wpAnyH_ready (rs := [1, 3, 5]) (by kernel_rfl) (by simp) ?_
          refine AllReadyH.cons rfl (fun K hK => ?_) (AllReadyH.cons rfl (fun K hK => ?_) (AllReadyH.cons rfl (fun K hK => ?_) AllReadyH.nil))
          · refine step_make_new rfl _ _ 24 rfl 3 iI (.int .i64 0) Try.underlying24 HI.out HI0.out HI1.out rfl _ _ _ _ (fact n) rfl rfl rfl rfl (by rw [HI2.out]; omega) (by unfold maxLen; omega) ?_
            intro m2 h2
            refine hK.out _ _ trivial (fun _ => ?_)
            clear hK K
            try simp only [List.getElem_toArray, List.getElem_cons_zero, List.getElem_cons_succ, Act.put, List.setIfInBounds_toArray, List.set_cons_zero, List.set_cons_succ]
            refine wpAnyH_ready (rs := [3, 5]) (by kernel_rfl) (by simp) ?_
            refine AllReadyH.cons rfl (fun K hK => ?_) (AllReadyH.cons rfl (fun K hK => ?_) AllReadyH.nil)
            · refine step_make_new rfl _ _ 24 rfl 3 iI (.int .i64 0) Try.underlying24 HI.out HI0.out HI1.out rfl _ _ _ _ (fact n) rfl rfl rfl rfl (by rw [HI2.out]; omega) (by unfold maxLen; omega) ?_
              intro m3 h3
              refine hK.out _ _ trivial (fun _ => ?_)
              clear hK K
              try simp only [List.getElem_toArray, List.getElem_cons_zero, List.getElem_cons_succ, Act.put, List.setIfInBounds_toArray, List.set_cons_zero, List.set_cons_succ]
              refine wpAnyH_ready (rs := [5]) (by kernel_rfl) (by simp) ?_
              refine AllReadyH.cons rfl (fun K hK => ?_) AllReadyH.nil
              refine step_make_new rfl _ _ 36 rfl 24 iS (.slice none 0 0) Try.underlying36 HS.out HS0.out HS1.out rfl _ _ _ _ (fact n) rfl rfl rfl rfl (by rw [HS2.out]; omega) (by unfold maxLen; omega) ?_
              intro m4 h4
              refine hK.out _ _ trivial (fun _ => ?_)
              clear hK K
              try simp only [List.getElem_toArray, List.getElem_cons_zero, List.getElem_cons_succ, Act.put, List.setIfInBounds_toArray, List.set_cons_zero, List.set_cons_succ]
              have fl := (((h1.blk).grown h2.gr (by simp)).grown h3.gr (by simp)).grown h4.gr (by simp)
              have fa := ((h2.blk).grown h3.gr (by simp)).grown h4.gr (by simp)
              have fc := (h3.blk).grown h4.gr (by simp)
              have fs := h4.blk
              refine wpAnyH_take (i := 6) (v := ?_) rfl (by kernel_rfl) (by kernel_rfl) (by kernel_rfl) (fun _ _ _ h => h) (Or.inl ⟨by rfl, ?_⟩) (by assumption) ?_
              rotate_left
              · intro w _; go_simp; with_reducible rfl
              try simp only [List.getElem_toArray, List.getElem_cons_zero, List.getElem_cons_succ, Act.put, List.setIfInBounds_toArray, List.set_cons_zero, List.set_cons_succ]
              refine wpAnyH_ready (rs := [8]) (by kernel_rfl) (by simp) ?_
              refine AllReadyH.cons rfl (fun K hK => ?_) AllReadyH.nil
              refine step_store_new3 rfl 62 _ _ rfl _ _ _ _ rfl rfl _ _ fl (by kernel_rfl) rfl ⟨rfl, rfl, rfl⟩ ?_
              intro m5 f5 g5
              refine hK.out _ _ trivial (fun _ => ?_)
              clear hK K
              refine wpAnyH_done (by kernel_rfl) ?_ _
              go_wp2_with fail
              go_meet
              have l0 : W.drew.heap.size = W.heap.size := rfl
              have l1 := h1.lt
              have l2 := h2.lt
              have l3 := h3.lt
              have l4 := h4.lt
              rw [← HW.out]
              exact leaf6 HWZ.out h1.gr h2.gr h3.gr h4.gr l1 l2 l3 l4 g5 f5 fa fc fs (by omega) (by omega) (by omega) (by omega) (by omega)
            · refine step_make_new rfl _ _ 36 rfl 24 iS (.slice none 0 0) Try.underlying36 HS.out HS0.out HS1.out rfl _ _ _ _ (fact n) rfl rfl rfl rfl (by rw [HS2.out]; omega) (by unfold maxLen; omega) ?_
              intro m3 h3
              refine hK.out _ _ trivial (fun _ => ?_)
              clear hK K
              try simp only [List.getElem_toArray, List.getElem_cons_zero, List.getElem_cons_succ, Act.put, List.setIfInBounds_toArray, List.set_cons_zero, List.set_cons_succ]
              refine wpAnyH_ready (rs := [3]) (by kernel_rfl) (by simp) ?_
              refine AllReadyH.cons rfl (fun K hK => ?_) AllReadyH.nil
              refine step_make_new rfl _ _ 24 rfl 3 iI (.int .i64 0) Try.underlying24 HI.out HI0.out HI1.out rfl _ _ _ _ (fact n) rfl rfl rfl rfl (by rw [HI2.out]; omega) (by unfold maxLen; omega) ?_
              intro m4 h4
              refine hK.out _ _ trivial (fun _ => ?_)
              clear hK K
              try simp only [List.getElem_toArray, List.getElem_cons_zero, List.getElem_cons_succ, Act.put, List.setIfInBounds_toArray, List.set_cons_zero, List.set_cons_succ]
              have fl := (((h1.blk).grown h2.gr (by simp)).grown h3.gr (by simp)).grown h4.gr (by simp)
              have fa := ((h2.blk).grown h3.gr (by simp)).grown h4.gr (by simp)
              have fc := h4.blk
              have fs := (h3.blk).grown h4.gr (by simp)
              refine wpAnyH_take (i := 6) (v := ?_) rfl (by kernel_rfl) (by kernel_rfl) (by kernel_rfl) (fun _ _ _ h => h) (Or.inl ⟨by rfl, ?_⟩) (by assumption) ?_
              rotate_left
              · intro w _; go_simp; with_reducible rfl
              try simp only [List.getElem_toArray, List.getElem_cons_zero, List.getElem_cons_succ, Act.put, List.setIfInBounds_toArray, List.set_cons_zero, List.set_cons_succ]
              refine wpAnyH_ready (rs := [8]) (by kernel_rfl) (by simp) ?_
              refine AllReadyH.cons rfl (fun K hK => ?_) AllReadyH.nil
              refine step_store_new3 rfl 62 _ _ rfl _ _ _ _ rfl rfl _ _ fl (by kernel_rfl) rfl ⟨rfl, rfl, rfl⟩ ?_
              intro m5 f5 g5
              refine hK.out _ _ trivial (fun _ => ?_)
              clear hK K
              refine wpAnyH_done (by kernel_rfl) ?_ _
              go_wp2_with fail
              go_meet
              have l0 : W.drew.heap.size = W.heap.size := rfl
              have l1 := h1.lt
              have l2 := h2.lt
              have l3 := h3.lt
              have l4 := h4.lt
              rw [← HW.out]
              exact leaf6 HWZ.out h1.gr h2.gr h3.gr h4.gr l1 l2 l3 l4 g5 f5 fa fc fs (by omega) (by omega) (by omega) (by omega) (by omega)
          · refine step_make_new rfl _ _ 24 rfl 3 iI (.int .i64 0) Try.underlying24 HI.out HI0.out HI1.out rfl _ _ _ _ (fact n) rfl rfl rfl rfl (by rw [HI2.out]; omega) (by unfold maxLen; omega) ?_
            intro m2 h2
            refine hK.out _ _ trivial (fun _ => ?_)
            clear hK K
            try simp only [List.getElem_toArray, List.getElem_cons_zero, List.getElem_cons_succ, Act.put, List.setIfInBounds_toArray, List.set_cons_zero, List.set_cons_succ]
            refine wpAnyH_ready (rs := [1, 5]) (by kernel_rfl) (by simp) ?_
            refine AllReadyH.cons rfl (fun K hK => ?_) (AllReadyH.cons rfl (fun K hK => ?_) AllReadyH.nil)
            · refine step_make_new rfl _ _ 24 rfl 3 iI (.int .i64 0) Try.underlying24 HI.out HI0.out HI1.out rfl _ _ _ _ (fact n) rfl rfl rfl rfl (by rw [HI2.out]; omega) (by unfold maxLen; omega) ?_
              intro m3 h3
              refine hK.out _ _ trivial (fun _ => ?_)
              clear hK K
              try simp only [List.getElem_toArray, List.getElem_cons_zero, List.getElem_cons_succ, Act.put, List.setIfInBounds_toArray, List.set_cons_zero, List.set_cons_succ]
              refine wpAnyH_ready (rs := [5]) (by kernel_rfl) (by simp) ?_
              refine AllReadyH.cons rfl (fun K hK => ?_) AllReadyH.nil
              refine step_make_new rfl _ _ 36 rfl 24 iS (.slice none 0 0) Try.underlying36 HS.out HS0.out HS1.out rfl _ _ _ _ (fact n) rfl rfl rfl rfl (by rw [HS2.out]; omega) (by unfold maxLen; omega) ?_
              intro m4 h4
              refine hK.out _ _ trivial (fun _ => ?_)
              clear hK K
              try simp only [List.getElem_toArray, List.getElem_cons_zero, List.getElem_cons_succ, Act.put, List.setIfInBounds_toArray, List.set_cons_zero, List.set_cons_succ]
              have fl := (((h1.blk).grown h2.gr (by simp)).grown h3.gr (by simp)).grown h4.gr (by simp)
              have fa := (h3.blk).grown h4.gr (by simp)
              have fc := ((h2.blk).grown h3.gr (by simp)).grown h4.gr (by simp)
              have fs := h4.blk
              refine wpAnyH_take (i := 6) (v := ?_) rfl (by kernel_rfl) (by kernel_rfl) (by kernel_rfl) (fun _ _ _ h => h) (Or.inl ⟨by rfl, ?_⟩) (by assumption) ?_
              rotate_left
              · intro w _; go_simp; with_reducible rfl
              try simp only [List.getElem_toArray, List.getElem_cons_zero, List.getElem_cons_succ, Act.put, List.setIfInBounds_toArray, List.set_cons_zero, List.set_cons_succ]
              refine wpAnyH_ready (rs := [8]) (by kernel_rfl) (by simp) ?_
              refine AllReadyH.cons rfl (fun K hK => ?_) AllReadyH.nil
              refine step_store_new3 rfl 62 _ _ rfl _ _ _ _ rfl rfl _ _ fl (by kernel_rfl) rfl ⟨rfl, rfl, rfl⟩ ?_
              intro m5 f5 g5
              refine hK.out _ _ trivial (fun _ => ?_)
              clear hK K
              refine wpAnyH_done (by kernel_rfl) ?_ _
              go_wp2_with fail
              go_meet
              have l0 : W.drew.heap.size = W.heap.size := rfl
              have l1 := h1.lt
              have l2 := h2.lt
              have l3 := h3.lt
              have l4 := h4.lt
              rw [← HW.out]
              exact leaf6 HWZ.out h1.gr h2.gr h3.gr h4.gr l1 l2 l3 l4 g5 f5 fa fc fs (by omega) (by omega) (by omega) (by omega) (by omega)
            · refine step_make_new rfl _ _ 36 rfl 24 iS (.slice none 0 0) Try.underlying36 HS.out HS0.out HS1.out rfl _ _ _ _ (fact n) rfl rfl rfl rfl (by rw [HS2.out]; omega) (by unfold maxLen; omega) ?_
              intro m3 h3
              refine hK.out _ _ trivial (fun _ => ?_)
              clear hK K
              try simp only [List.getElem_toArray, List.getElem_cons_zero, List.getElem_cons_succ, Act.put, List.setIfInBounds_toArray, List.set_cons_zero, List.set_cons_succ]
              refine wpAnyH_ready (rs := [1]) (by kernel_rfl) (by simp) ?_
              refine AllReadyH.cons rfl (fun K hK => ?_) AllReadyH.nil
              refine step_make_new rfl _ _ 24 rfl 3 iI (.int .i64 0) Try.underlying24 HI.out HI0.out HI1.out rfl _ _ _ _ (fact n) rfl rfl rfl rfl (by rw [HI2.out]; omega) (by unfold maxLen; omega) ?_
              intro m4 h4
              refine hK.out _ _ trivial (fun _ => ?_)
              clear hK K
              try simp only [List.getElem_toArray, List.getElem_cons_zero, List.getElem_cons_succ, Act.put, List.setIfInBounds_toArray, List.set_cons_zero, List.set_cons_succ]
              have fl := (((h1.blk).grown h2.gr (by simp)).grown h3.gr (by simp)).grown h4.gr (by simp)
              have fa := h4.blk
              have fc := ((h2.blk).grown h3.gr (by simp)).grown h4.gr (by simp)
              have fs := (h3.blk).grown h4.gr (by simp)
              refine wpAnyH_take (i := 6) (v := ?_) rfl (by kernel_rfl) (by kernel_rfl) (by kernel_rfl) (fun _ _ _ h => h) (Or.inl ⟨by rfl, ?_⟩) (by assumption) ?_
              rotate_left
              · intro w _; go_simp; with_reducible rfl
              try simp only [List.getElem_toArray, List.getElem_cons_zero, List.getElem_cons_succ, Act.put, List.setIfInBounds_toArray, List.set_cons_zero, List.set_cons_succ]
              refine wpAnyH_ready (rs := [8]) (by kernel_rfl) (by simp) ?_
              refine AllReadyH.cons rfl (fun K hK => ?_) AllReadyH.nil
              refine step_store_new3 rfl 62 _ _ rfl _ _ _ _ rfl rfl _ _ fl (by kernel_rfl) rfl ⟨rfl, rfl, rfl⟩ ?_
              intro m5 f5 g5
              refine hK.out _ _ trivial (fun _ => ?_)
              clear hK K
              refine wpAnyH_done (by kernel_rfl) ?_ _
              go_wp2_with fail
              go_meet
              have l0 : W.drew.heap.size = W.heap.size := rfl
              have l1 := h1.lt
              have l2 := h2.lt
              have l3 := h3.lt
              have l4 := h4.lt
              rw [← HW.out]
              exact leaf6 HWZ.out h1.gr h2.gr h3.gr h4.gr l1 l2 l3 l4 g5 f5 fa fc fs (by omega) (by omega) (by omega) (by omega) (by omega)
          · refine step_make_new rfl _ _ 36 rfl 24 iS (.slice none 0 0) Try.underlying36 HS.out HS0.out HS1.out rfl _ _ _ _ (fact n) rfl rfl rfl rfl (by rw [HS2.out]; omega) (by unfold maxLen; omega) ?_
            intro m2 h2
            refine hK.out _ _ trivial (fun _ => ?_)
            clear hK K
            try simp only [List.getElem_toArray, List.getElem_cons_zero, List.getElem_cons_succ, Act.put, List.setIfInBounds_toArray, List.set_cons_zero, List.set_cons_succ]
            refine wpAnyH_ready (rs := [1, 3]) (by kernel_rfl) (by simp) ?_
            refine AllReadyH.cons rfl (fun K hK => ?_) (AllReadyH.cons rfl (fun K hK => ?_) AllReadyH.nil)
            · refine step_make_new rfl _ _ 24 rfl 3 iI (.int .i64 0) Try.underlying24 HI.out HI0.out HI1.out rfl _ _ _ _ (fact n) rfl rfl rfl rfl (by rw [HI2.out]; omega) (by unfold maxLen; omega) ?_
              intro m3 h3
              refine hK.out _ _ trivial (fun _ => ?_)
              clear hK K
              try simp only [List.getElem_toArray, List.getElem_cons_zero, List.getElem_cons_succ, Act.put, List.setIfInBounds_toArray, List.set_cons_zero, List.set_cons_succ]
              refine wpAnyH_ready (rs := [3]) (by kernel_rfl) (by simp) ?_
              refine AllReadyH.cons rfl (fun K hK => ?_) AllReadyH.nil
              refine step_make_new rfl _ _ 24 rfl 3 iI (.int .i64 0) Try.underlying24 HI.out HI0.out HI1.out rfl _ _ _ _ (fact n) rfl rfl rfl rfl (by rw [HI2.out]; omega) (by unfold maxLen; omega) ?_
              intro m4 h4
              refine hK.out _ _ trivial (fun _ => ?_)
              clear hK K
              try simp only [List.getElem_toArray, List.getElem_cons_zero, List.getElem_cons_succ, Act.put, List.setIfInBounds_toArray, List.set_cons_zero, List.set_cons_succ]
              have fl := (((h1.blk).grown h2.gr (by simp)).grown h3.gr (by simp)).grown h4.gr (by simp)
              have fa := (h3.blk).grown h4.gr (by simp)
              have fc := h4.blk
              have fs := ((h2.blk).grown h3.gr (by simp)).grown h4.gr (by simp)
              refine wpAnyH_take (i := 6) (v := ?_) rfl (by kernel_rfl) (by kernel_rfl) (by kernel_rfl) (fun _ _ _ h => h) (Or.inl ⟨by rfl, ?_⟩) (by assumption) ?_
              rotate_left
              · intro w _; go_simp; with_reducible rfl
              try simp only [List.getElem_toArray, List.getElem_cons_zero, List.getElem_cons_succ, Act.put, List.setIfInBounds_toArray, List.set_cons_zero, List.set_cons_succ]
              refine wpAnyH_ready (rs := [8]) (by kernel_rfl) (by simp) ?_
              refine AllReadyH.cons rfl (fun K hK => ?_) AllReadyH.nil
              refine step_store_new3 rfl 62 _ _ rfl _ _ _ _ rfl rfl _ _ fl (by kernel_rfl) rfl ⟨rfl, rfl, rfl⟩ ?_
              intro m5 f5 g5
              refine hK.out _ _ trivial (fun _ => ?_)
              clear hK K
              refine wpAnyH_done (by kernel_rfl) ?_ _
              go_wp2_with fail
              go_meet
              have l0 : W.drew.heap.size = W.heap.size := rfl
              have l1 := h1.lt
              have l2 := h2.lt
              have l3 := h3.lt
              have l4 := h4.lt
              rw [← HW.out]
              exact leaf6 HWZ.out h1.gr h2.gr h3.gr h4.gr l1 l2 l3 l4 g5 f5 fa fc fs (by omega) (by omega) (by omega) (by omega) (by omega)
            · refine step_make_new rfl _ _ 24 rfl 3 iI (.int .i64 0) Try.underlying24 HI.out HI0.out HI1.out rfl _ _ _ _ (fact n) rfl rfl rfl rfl (by rw [HI2.out]; omega) (by unfold maxLen; omega) ?_
              intro m3 h3
              refine hK.out _ _ trivial (fun _ => ?_)
              clear hK K
              try simp only [List.getElem_toArray, List.getElem_cons_zero, List.getElem_cons_succ, Act.put, List.setIfInBounds_toArray, List.set_cons_zero, List.set_cons_succ]
              refine wpAnyH_ready (rs := [1]) (by kernel_rfl) (by simp) ?_
              refine AllReadyH.cons rfl (fun K hK => ?_) AllReadyH.nil
              refine step_make_new rfl _ _ 24 rfl 3 iI (.int .i64 0) Try.underlying24 HI.out HI0.out HI1.out rfl _ _ _ _ (fact n) rfl rfl rfl rfl (by rw [HI2.out]; omega) (by unfold maxLen; omega) ?_
              intro m4 h4
              refine hK.out _ _ trivial (fun _ => ?_)
              clear hK K
              try simp only [List.getElem_toArray, List.getElem_cons_zero, List.getElem_cons_succ, Act.put, List.setIfInBounds_toArray, List.set_cons_zero, List.set_cons_succ]
              have fl := (((h1.blk).grown h2.gr (by simp)).grown h3.gr (by simp)).grown h4.gr (by simp)
              have fa := h4.blk
              have fc := (h3.blk).grown h4.gr (by simp)
              have fs := ((h2.blk).grown h3.gr (by simp)).grown h4.gr (by simp)
              refine wpAnyH_take (i := 6) (v := ?_) rfl (by kernel_rfl) (by kernel_rfl) (by kernel_rfl) (fun _ _ _ h => h) (Or.inl ⟨by rfl, ?_⟩) (by assumption) ?_
              rotate_left
              · intro w _; go_simp; with_reducible rfl
              try simp only [List.getElem_toArray, List.getElem_cons_zero, List.getElem_cons_succ, Act.put, List.setIfInBounds_toArray, List.set_cons_zero, List.set_cons_succ]
              refine wpAnyH_ready (rs := [8]) (by kernel_rfl) (by simp) ?_
              refine AllReadyH.cons rfl (fun K hK => ?_) AllReadyH.nil
              refine step_store_new3 rfl 62 _ _ rfl _ _ _ _ rfl rfl _ _ fl (by kernel_rfl) rfl ⟨rfl, rfl, rfl⟩ ?_
              intro m5 f5 g5
              refine hK.out _ _ trivial (fun _ => ?_)
              clear hK K
              refine wpAnyH_done (by kernel_rfl) ?_ _
              go_wp2_with fail
              go_meet
              have l0 : W.drew.heap.size = W.heap.size := rfl
              have l1 := h1.lt
              have l2 := h2.lt
              have l3 := h3.lt
              have l4 := h4.lt
              rw [← HW.out]
              exact leaf6 HWZ.out h1.gr h2.gr h3.gr h4.gr l1 l2 l3 l4 g5 f5 fa fc fs (by omega) (by omega) (by omega) (by omega) (by omega)
      case rest =>
        obtain ⟨bl, a, c, s, rfl, H0, hB0⟩ := hcut
        obtain ⟨W, hW⟩ : ∃ W, W = (w.alloc (.cells #[.slice none 0 0, .slice none 0 0, .slice none 0 0] 62)) := ⟨_, rfl⟩
        rw [← hW] at hB0
        have hWz : W.heap.size = w.heap.size + 1 := by rw [hW]; simp
        have hWB : Below w.heap.size w W := by rw [hW]; exact below_new w _
        have hWb : Blk W w.heap.size 62 [.slice none 0 0, .slice none 0 0, .slice none 0 0] := by rw [hW]; exact Blk.new w _ [.slice none 0 0, .slice none 0 0, .slice none 0 0] _ rfl
        rw [hWz] at hB0
        have HW := Lib.hid hW
        have HWZ := Lib.hid hWz
        clear hW hWz
        have hfp := fact_pos n
        have hsz0 : w.heap.size + 1 ≤ wc.heap.size := by have := hB0.size; have := HWZ.out; omega
        obtain ⟨c0, c1, c2⟩ := FA.cl H0
        go_wp2
        clear c0 c1 c2
        have hB0' := hB0
        rw [← negL_zero] at H0
        go_loopw [6, 31] (fun _ i wr => ∃ k : Nat, k ≤ fact n ∧ i = .int .i64 k ∧ FA0 (w.heap.size + 1) n wr bl a c s (negL n k) (List.replicate (fact n) 0) (List.replicate (fact n) (.slice none 0 0)) ∧ Below (w.heap.size + 1) W wr) (fun _ i _ => fact n - (intOf i).toNat)
        case atStart => exact ⟨0, Nat.zero_le _, rfl, H0, hB0'⟩
        case round =>
          obtain ⟨k, hk, rfl, H, hB⟩ := hrel
          clear hB0 hB0' H0
          by_cases hlt : k < fact n
          · obtain ⟨c0, c1, c2⟩ := FA.cl H
            obtain ⟨hc, hf⟩ := FA.cF H k (by simp [negL]; omega)
            have H' := H.setF k (-1)
            rw [negL_step n k hlt] at H'
            have hB' := hB.setCell (p := ⟨a, k, none⟩) (by exact H.ba) (iv (-1))
            clear H hB c1 c2
            go_wp2
            go_roundw
            case rel => exact ⟨k + 1, by omega, by go_num, H', hB'⟩
            case measure => simp [intOf] <;> omega
          · obtain rfl : k = fact n := by omega
            obtain ⟨c0, c1, c2⟩ := FA.cl H
            obtain ⟨hc, hf⟩ := FA.cF H 0 (by simp [negL]; omega)
            have H1 := H.setF 0 0
            rw [negL_all, Fl_start hn.out] at H1
            have hB1 := hB.setCell (p := ⟨a, 0, none⟩) (by exact H.ba) (iv 0)
            obtain ⟨d0, d1, d2⟩ := FA.cl H1
            obtain ⟨hc2, hf2⟩ := FA.cC H1 0 (by simp; omega)
            have H2 := H1.setC 0 1
            rw [← Cl_start hn.out 0] at H2
            have hB2 := hB1.setCell (p := ⟨c, 0, none⟩) (by exact H1.bc) (iv 1)
            have F2 := FA.start H2 (Fl_length n [0]) (Cl_length n _ _ _)
            obtain ⟨W2, hW2⟩ : ∃ W2, W2 = (wr.setCell ⟨a, 0, none⟩ (iv 0)).setCell ⟨c, 0, none⟩ (iv 1) := ⟨_, rfl⟩
            rw [← hW2] at F2 hB2
            have HW2 := Lib.hid hW2
            clear hW2 H H1 hB hB1 H2 hlt c1 c2 d0 d2
            go_wp2
            rw [← HW2.out]
            have F2d : FA (w.heap.size + 1) n W2.drew bl a c s none (Fl n [0]) (Cl n (List.take 0 [0]) 0 2) (List.replicate (fact n) (.slice none 0 0)) (List.replicate (fact n) []) := F2.kept (fun _ _ _ => rfl)
            have hszd : w.heap.size + 1 ≤ W2.drew.heap.size := by have := hB2.size; have := HWZ.out; show _ ≤ W2.heap.size; omega
            have k1 : W2.drew.cell? ⟨bl, 2, none⟩ = some (.slice (some ⟨s, 0, none⟩) (fact n) (fact n)) := (FA.cl F2d.toFA0).2.2
            go_region_held3 (fun w' => w'.cell? ⟨bl, 2, none⟩ = some (.slice (some ⟨s, 0, none⟩) (fact n) (fact n))) (first | exact k1 | exact k2 | exact k3)
              ((go_at_call 70; refine (stFirst_any n _ (by omega)).mono ?_; rintro e w2 ⟨r, rfl, hor, hfr, hb2⟩; obtain ⟨ra, rcap, rfl, _, _, _⟩ := hor.shape; have F3 := F2d.below hb2 (Nat.le_refl _); have hco := F2d.new hfr hszd (fun g hg => by cases hg); have F4 := F3.setS 0 _ (ramp 1 n) hor hco; have k2 := (FA.cl F3.toFA0).2.2; have k3 := (FA.cl F4.toFA0).2.2; obtain ⟨hcs, hfs⟩ := FA.cS F3.toFA0 0 (by simp; omega)))
            rw [Xl_start hn.out] at F4
            have hB4 : Below (w.heap.size + 1) W (w2.setCell ⟨s, 0, none⟩ (.slice ra (ramp 1 n).length rcap)) := (hB2.drew.trans (hb2.mono hszd)).setCell (p := ⟨s, 0, none⟩) (by exact F3.bs) (.slice ra (ramp 1 n).length rcap)
            obtain ⟨W4, hW4⟩ : ∃ W4, W4 = w2.setCell ⟨s, 0, none⟩ (.slice ra (ramp 1 n).length rcap) := ⟨_, rfl⟩
            rw [← hW4] at F4 hB4
            have HW4 := Lib.hid hW4
            clear hW4 F2 F2d hco k1 k2 k3 hcs hfs hor hfr hb2 hB2
            rw [← HW4.out]
            go_wp2
            have hown4 : (W4.alloc (.cells #[.int .i64 0] 3)).ownsRow (w.heap.size + 1) 3 1 (.slice (some ⟨W4.heap.size, 0, none⟩) 1 1) 1 (([0] : List Nat).map fun r : Nat => iv (r : Int)) := World.ownsRow_lit W4 #[.int .i64 0] 1 (by have := hB4.size; have := HWZ.out; omega) (by unfold maxLen; omega) rfl
            have F5 := (F4.alloc (.cells #[.int .i64 0] 3)).kept (w' := W4.alloc (.cells #[.int .i64 0] 3)) (fun _ _ _ => rfl)
            have F6 : FA (w.heap.size + 1) n (W4.alloc (.cells #[.int .i64 0] 3)) bl a c s (some W4.heap.size) (Fl n [0]) (Cl n (List.take 0 [0]) 0 2) ((List.replicate (fact n) (.slice none 0 0)).set 0 (.slice ra (ramp 1 n).length rcap)) (Xl n [0]) := (F4.requeue (.inr (Nat.le_refl _))).alloc _
            have hB6 : Below (w.heap.size + 1) W (W4.alloc (.cells #[.int .i64 0] 3)) := hB4.alloc (by have := hB4.size; have := HWZ.out; omega) _
            have hqs : BQ n [0] 0 := BQ.start hn.out
            clear F4 F5 hB4
            go_loopw [7, 8, 9, 10, 11, 12] (fun qv qi _ _ _ _ wr => ∃ (p : Nat) (Q : List Nat) (g cap : Nat) (S : List Value), qi = .int .i64 p ∧ qv = .slice (some ⟨g, 0, none⟩) Q.length cap ∧ BQ n Q p ∧ wr.ownsRow (w.heap.size + 1) 3 1 (.slice (some ⟨g, 0, none⟩) Q.length cap) Q.length (Q.map fun r : Nat => iv (r : Int)) ∧ FA (w.heap.size + 1) n wr bl a c s (some g) (Fl n Q) (Cl n (Q.take p) 0 2) S (Xl n Q) ∧ Below (w.heap.size + 1) W wr) (fun _ qi _ _ _ _ _ => fact n - (intOf qi).toNat)
            case atStart => exact ⟨0, [0], _, _, _, rfl, rfl, hqs, hown4, F6, hB6⟩
            case round =>
              obtain ⟨p, Q, g, cap, S, rfl, rfl, hQ, hown, hF, hB⟩ := hrel
              clear hqs hown4 F6 hB6
              by_cases hlt : p < Q.length
              · obtain ⟨x, hx⟩ : ∃ x, Q[p]? = some x := ⟨_, List.getElem?_eq_getElem hlt⟩
                have hcx : wr.cell? ⟨g, p, none⟩ = some (iv x) := by rw [hown.cellAt p (by omega), List.getElem?_map, hx]; rfl
                have hlt' : (p : Int) < Q.length := by omega
                have HI0' := hQ.inner hx
                have hxl : x < fact n := hQ.lt x (List.mem_of_getElem? hx)
                have hpN : p < fact n := by have := hQ.length_le; omega
                have HQP := Lib.hid hQ
                clear hx hQ
                rw [Cl_first n _ 0 x] at hF
                go_wp2
                go_loopw [7, 10, 11, 12] (fun qv kv _ _ w5 => ∃ (Q' : List Nat) (K g' cap' : Nat) (S' : List Value), kv = .int .i64 K ∧ 2 ≤ K ∧ K ≤ n + 1 ∧ qv = .slice (some ⟨g', 0, none⟩) Q'.length cap' ∧ BI n Q' p x K ∧ w5.ownsRow (w.heap.size + 1) 3 1 (.slice (some ⟨g', 0, none⟩) Q'.length cap') Q'.length (Q'.map fun r : Nat => iv (r : Int)) ∧ FA (w.heap.size + 1) n w5 bl a c s (some g') (Fl n Q') (Cl n (Q'.take p) x K) S' (Xl n Q') ∧ Below (w.heap.size + 1) W w5) (fun _ kv _ _ _ => n + 1 - (intOf kv).toNat)
                case atStart => exact ⟨Q, 2, g, cap, S, rfl, by omega, by omega, rfl, HI0', hown, hF, hB⟩
                case round =>
                  obtain ⟨Q', K, g', cap', S', rfl, hK2, hKn, rfl, hBI, hown', hF', hB'⟩ := hrel
                  clear HI0' hown hF hB hcx
                  by_cases hKl : K ≤ n
                  · have hkk := mem_ks.2 ⟨hK2, hKl⟩
                    have hKl' : (K : Int) ≤ n := by omega
                    have hxQ := List.mem_of_getElem? hBI.cur
                    obtain ⟨u, hu⟩ : ∃ u, S'[x]? = some u := ⟨_, List.getElem?_eq_getElem (by rw [hF'.lS]; exact hxl)⟩
                    have hXx : (Xl n Q')[x]? = some (unrank n x) := by rw [List.getElem?_eq_getElem (by rw [Xl_length]; exact hxl), Xl_get hxl, if_pos hxQ]
                    obtain ⟨hou, _⟩ := hF'.row x u _ hu hXx
                    have hst := un_st hn.out hxl
                    obtain ⟨ua, uc, rfl, _, _, _⟩ := hou.shape
                    obtain ⟨c0, c1, c2⟩ := FA.cl hF'.toFA0
                    have hsx : wr.cell? ⟨s, x, none⟩ = some (.slice ua (unrank n x).length uc) := by have := (FA.cS hF'.toFA0 x (by rw [hF'.lS]; exact hxl)).1; rw [List.getElem?_eq_getElem (by rw [hF'.lS]; exact hxl)] at hu; rw [this, ← hu]
                    have hxl' : (x : Int) < fact n := by omega
                    have hlu : (unrank n x).length = n := hst.2
                    have HLU := Lib.hid hlu
                    have hu9 : (unrank n x).length ≤ 1048576 := by omega
                    have huK : K ≤ (unrank n x).length := by omega
                    have htl : nb n x K < fact n := nb_lt hn.out hxl K
                    obtain ⟨tq, hto⟩ : ∃ t, nb n x K = t := ⟨_, rfl⟩
                    have htr : rankL (turnL (unrank n x) K) = tq := hto
                    have hun : unrank n tq = turnL (unrank n x) K := by rw [← hto]; exact un_nb hn.out hxl K
                    rw [hto] at htl
                    have HTO := Lib.hid hto
                    have HTR := Lib.hid htr
                    have HUN := Lib.hid hun
                    have hl9 : (turnL (unrank n x) K).length ≤ 9 := by rw [turnL_length]; omega
                    have hgq := hown'.lt g' rfl
                    clear hlu hst hto htr hun hu hXx
                    go_wp2_with fail
                    refine (stTurn_any _ _ K _ hou hu9 huK).mono ?_
                    rintro e w6 ⟨r, rfl, hor, hfr, hb6⟩
                    have hF6 := hF'.below hb6 (Nat.le_refl _)
                    have hB6 := hB'.trans (hb6.mono (by have := hB'.size; have := HWZ.out; omega))
                    have hown6 : w6.ownsRow (w.heap.size + 1) 3 1 (.slice (some ⟨g', 0, none⟩) Q'.length cap') Q'.length (Q'.map fun r : Nat => iv (r : Int)) := hown'.kept (w' := w6) (row := none) ⟨hb6.os, hb6.tape, hb6.output, hb6.size, fun k hk _ => hb6.block k hk⟩ (.inr (by simp [Value.ownBlock]))
                    have hco := hF'.new hfr (by have := hB'.size; have := HWZ.out; omega) (fun g hg => by cases hg; exact hgq.2)
                    have hgq6 : g' < w6.heap.size := Nat.lt_of_lt_of_le hgq.2 hb6.size
                    clear hF' hB' hown' hou hsx c0 c1 c2
                    obtain ⟨rl, ra', rc', hrs⟩ : ∃ rl ra' rc', r = .slice ra' rl rc' ∧ rl = (turnL (unrank n x) K).length := by
                      obtain ⟨ra', rc', rfl, _, _, _⟩ := hor.shape
                      exact ⟨_, ra', rc', rfl, rfl⟩
                    obtain ⟨rfl, hrl⟩ := hrs
                    have HRL := Lib.hid hrl
                    clear hrl
                    go_wp2_with fail
                    refine (faRank_any _ _ _ hor hl9).mono ?_
                    rintro e w7 ⟨rfl, rfl⟩
                    rw [HTR.out]
                    obtain ⟨c0, c1, c2⟩ := FA.cl hF6.toFA0
                    obtain ⟨hct, hft⟩ := FA.cF hF6.toFA0 tq (by rw [Fl_length]; exact htl)
                    obtain ⟨hcx, hfx⟩ := FA.cF hF6.toFA0 x (by rw [Fl_length]; exact hxl)
                    rw [Fl_get htl] at hct
                    rw [Fl_get hxl, if_pos hxQ] at hcx
                    have htl' : (tq : Int) < fact n := by omega
                    have hdx := dS_le hn.out hxl
                    have hdt := dS_le hn.out htl
                    have hmem : (Q'.map fun r : Nat => iv (r : Int)).length = Q'.length := by simp
                    clear hfx hfr
                    obtain ⟨vt, hvt⟩ : ∃ v : Int, (if tq ∈ Q' then (dS n tq : Int) else -1) = v := ⟨_, rfl⟩
                    rw [hvt] at hct
                    have HVT := Lib.hid hvt
                    clear hvt
                    go_upto_if 80 with fail
                    go_cut [7] (fun qv wx => ∃ (Q'' : List Nat) (g'' cap'' : Nat) (S'' : List Value), qv = .slice (some ⟨g'', 0, none⟩) Q''.length cap'' ∧ tq ∈ Q'' ∧ Q''.take p = Q'.take p ∧ BI n Q'' p x (K + 1) ∧ wx.ownsRow (w.heap.size + 1) 3 1 (.slice (some ⟨g'', 0, none⟩) Q''.length cap'') Q''.length (Q''.map fun r : Nat => iv (r : Int)) ∧ FA (w.heap.size + 1) n wx bl a c s (some g'') (Fl n Q'') (Cl n (Q'.take p) x K) S'' (Xl n Q'') ∧ Below (w.heap.size + 1) W wx)
                    case first =>
                      by_cases hq : tq ∈ Q'
                      · have hd0 : 0 ≤ vt := by have := HVT.out; rw [if_pos hq] at this; omega
                        have hBI2 := hBI.next_old (by rw [HTO.out]; exact hq)
                        go_wp2
                        go_meet
                        exact ⟨Q', g', cap', S', rfl, hq, rfl, hBI2, hown6, hF6, hB6⟩
                      · have hd0 : vt < 0 := by have := HVT.out; rw [if_neg hq] at this; omega
                        have hfn := hBI.far_new hn.out hkk (by rw [HTO.out]; exact hq)
                        rw [HTO.out] at hfn
                        have hBI2 := hBI.next_new hn.out hkk (by rw [HTO.out]; exact hq)
                        rw [HTO.out] at hBI2
                        have HFN := Lib.hid hfn
                        have hBI2p : p ≤ Q'.length := Nat.le_of_lt (List.getElem?_eq_some_iff.1 hBI.cur).1
                        clear hfn
                        have hs1 := IntWalk.i64_in ((dS n x : Int) + 1) (by omega)
                        go_upto_region 26 with fail
                        go_region
                        clear hs1 c0 c1 c2 hcx hct hft hd0
                        have F7 := (hF6.setF tq ((dS n x : Int) + 1)).kept (w' := (w6.setCell ⟨a, tq, none⟩ (iv ((dS n x : Int) + 1))).drew) (fun _ _ _ => rfl)
                        rw [show ((dS n x : Int) + 1) = (dS n tq : Nat) by rw [HFN.out]; simp, Fl_snoc] at F7
                        have hB7 : Below (w.heap.size + 1) W (w6.setCell ⟨a, tq, none⟩ (iv ((dS n x : Int) + 1))).drew := (hB6.setCell (p := ⟨a, tq, none⟩) (by exact hF6.ba) _).drew
                        have hown7' := hown6.kept (w' := w6.setCell ⟨a, tq, none⟩ (iv ((dS n x : Int) + 1))) (row := some a) (grownBy_setCell w6 a tq _) (.inr (by have := hF6.nq.2.1; simpa [Value.ownBlock] using this))
                        have hown7 : (w6.setCell ⟨a, tq, none⟩ (iv ((dS n x : Int) + 1))).drew.ownsRow (w.heap.size + 1) 3 1 (.slice (some ⟨g', 0, none⟩) Q'.length cap') Q'.length (Q'.map fun r : Nat => iv (r : Int)) := hown7'
                        clear hown7'
                        have hor7 : OwnI (w6.setCell ⟨a, tq, none⟩ (iv ((dS n x : Int) + 1))).drew (.slice ra' rl rc') (turnL (unrank n x) K) := (hor.kept (w' := w6.setCell ⟨a, tq, none⟩ (iv ((dS n x : Int) + 1))) (fun g hg => heap_setCell_ne (hco g hg).2.2.1)).drew
                        obtain ⟨W7, hW7⟩ : ∃ W7, W7 = (w6.setCell ⟨a, tq, none⟩ (iv ((dS n x : Int) + 1))).drew := ⟨_, rfl⟩
                        rw [show ((dS n tq : Nat) : Int) = (dS n x : Int) + 1 by rw [HFN.out]; simp] at F7
                        rw [← hW7] at F7 hB7 hown7 hor7
                        have HW7 := Lib.hid hW7
                        clear hW7 hF6 hB6 hown6 hor
                        rw [← HW7.out]
                        have hsz7 : g' < W7.heap.size := (hown7.lt g' rfl).2
                        have hz8 : w.heap.size + 1 ≤ W7.heap.size := by have := hB7.size; have := HWZ.out; omega
                        have F8 := F7.setS tq (.slice ra' rl rc') (turnL (unrank n x) K) hor7 hco
                        rw [← HUN.out, Xl_snoc] at F8
                        obtain ⟨c0, c1, c2⟩ := FA.cl F7.toFA0
                        obtain ⟨sv, hcs⟩ : ∃ sv, W7.cell? ⟨s, tq, none⟩ = some sv := ⟨_, (FA.cS F7.toFA0 tq (by rw [F7.lS]; exact htl)).1⟩
                        have hfs := (FA.cS F7.toFA0 tq (by rw [F7.lS]; exact htl)).2
                        have hB8 := hB7.setCell (p := ⟨s, tq, none⟩) (by exact F7.bs) (.slice ra' rl rc')
                        have hown8 := hown7.kept (row := some s) (grownBy_setCell W7 s tq (.slice ra' rl rc')) (.inr (by have := F7.nq.2.2.2; simpa [Value.ownBlock] using this))
                        have hB8g := (hown7.lt g' rfl).1
                        have hQlen := hBI2.length_le
                        rw [List.length_append] at hQlen
                        simp only [List.length_singleton] at hQlen
                        have hnew : ((W7.setCell ⟨s, tq, none⟩ (.slice ra' rl rc')).alloc (.cells #[.int .i64 (tq : Int)] 3)).heap[W7.heap.size]? = some (.cells #[.int .i64 (tq : Int)] 3 (0, 0)) := by
                          have := heap_alloc_new (W7.setCell ⟨s, tq, none⟩ (.slice ra' rl rc')) (.cells #[.int .i64 (tq : Int)] 3)
                          simpa [World.setCell] using this
                        clear F7 hown7 hB7 hor7 hBI
                        go_wp2_with (at_builtin; refine wpList_append_lies _ rfl _ _ 24 rfl (w.heap.size + 1) 3 iI _ 1 8 Try.underlying24 HI.out HI0.out HI1.out HI2.out rfl (by omega) (.slice (some ⟨g', 0, none⟩) Q'.length cap') Q'.length (Q'.map fun r : Nat => iv (r : Int)) rfl (hown8.alloc _) _ 1 1 [iv (tq : Int)] rfl (by simp) (World.news_of_block hnew) (by simp [Value.oneCell']) (by omega) (by unfold maxLen; omega) (by omega) (by simp; omega) (W7.heap.size + 1) (by simp) ?_)
                        intro g8 cap8 w8 hown9 hgr9 hat hlt9
                        have hws : ((W7.setCell ⟨s, tq, none⟩ (.slice ra' rl rc')).alloc (.cells #[.int .i64 (tq : Int)] 3)).heap.size = W7.heap.size + 1 := by simp [World.setCell]
                        have F9 := (F8.alloc (.cells #[.int .i64 (tq : Int)] 3)).grownQ (w' := w8) hgr9 (g0 := g8) (by
                          rcases hat with h | h
                          · left; simpa [Value.ownBlock] using h
                          · right; omega)
                        have hB9 : Below (w.heap.size + 1) W w8 := (hB8.alloc (by simp [World.setCell]; omega) _).grown hgr9 (by simp [World.setCell]; omega) (by intro k hk; simp [Value.ownBlock] at hk; subst hk; exact hB8g)
                        go_wp2
                        go_meet
                        exact ⟨Q' ++ [tq], g8, cap8, _, by simp, by simp, by rw [List.take_append_of_le_length hBI2p], hBI2, by simpa using hown9, F9, hB9⟩
                    case rest =>
                      obtain ⟨Q'', g'', cap'', S'', rfl, hmq, htk, hBI3, hown3, F3', hB3⟩ := hcut
                      clear hF6 hB6 hown6 hor hco hgq hgq6 c0 c1 c2 hct hft hcx
                      obtain ⟨c0, c1, c2⟩ := FA.cl F3'.toFA0
                      obtain ⟨hct, _⟩ := FA.cF F3'.toFA0 tq (by rw [Fl_length]; exact htl)
                      obtain ⟨hcx, _⟩ := FA.cF F3'.toFA0 x (by rw [Fl_length]; exact hxl)
                      obtain ⟨hkt, hfk⟩ := FA.cC F3'.toFA0 tq (by rw [Cl_length]; exact htl)
                      obtain ⟨hkx, _⟩ := FA.cC F3'.toFA0 x (by rw [Cl_length]; exact hxl)
                      have hxQ3 := List.mem_of_getElem? hBI3.cur
                      rw [Fl_get htl, if_pos hmq] at hct
                      rw [Fl_get hxl, if_pos hxQ3] at hcx
                      rw [Cl_get htl] at hkt
                      rw [Cl_get hxl] at hkx
                      have hs1 := IntWalk.i64_in ((dS n x : Int) + 1) (by omega)
                      have hv1 := Cn_le hn.out (Q'.take p) x K tq htl
                      have hv2 := Cn_le hn.out (Q'.take p) x K x hxl
                      have hpw : (n - 1) * (n - 1) ^ (2 * n) ≤ 470184984576 := by
                        have := pow_bound (n := n) (d := 2 * n + 1) h7 (by omega)
                        rwa [Nat.pow_succ, Nat.mul_comm] at this
                      have HYES := Lib.hid (fun hd => hBI.count_yes hn.out hkk hd)
                      have HNO := Lib.hid (fun hd => hBI.count_no hn.out hkk hd)
                      rw [HTO.out] at HYES HNO
                      obtain ⟨v1, hv1e⟩ : ∃ v, Cn n (Q'.take p) x K tq = v := ⟨_, rfl⟩
                      obtain ⟨v2, hv2e⟩ : ∃ v, Cn n (Q'.take p) x K x = v := ⟨_, rfl⟩
                      rw [hv1e] at hkt hv1 HYES
                      rw [hv2e] at hkx hv2 HYES
                      have hv1' : v1 ≤ 470184984577 := by omega
                      have hv2' : v2 ≤ 470184984577 := by omega
                      have hs2 := IntWalk.i64_in ((v1 : Int) + (v2 : Int)) (by omega)
                      clear hv1e hv2e hv1 hv2 hpw
                      by_cases hd : dS n tq = dS n x + 1
                      · have he : (((dS n tq : Nat) : Int) == ((dS n x : Nat) : Int) + 1) = true := by simp; omega
                        have HD := Lib.hid hd
                        clear hd
                        go_wp2_with fail
                        go_quiet (fail)
                        go_wp2
                        go_region
                        have F9 := (F3'.drewN (nq + 1)).setC tq ((v1 : Int) + (v2 : Int))
                        rw [HYES.out HD.out] at F9
                        have hown9 := World.ownsRow.kept (w := wc.drewN (nq + 1)) (w' := (wc.drewN (nq + 1)).setCell ⟨c, tq, none⟩ (iv ((v1 : Int) + (v2 : Int)))) (row := some c) hown3 (grownBy_setCell _ c tq _) (.inr (by have := F3'.nq.2.2.1; simpa [Value.ownBlock] using this))
                        have hB9 := (hB3.drewN (nq + 1)).setCell (p := ⟨c, tq, none⟩) (by exact F3'.bc) (iv ((v1 : Int) + (v2 : Int)))
                        clear F3' hown3 hB3 HYES HNO
                        go_wp2
                        go_roundw
                        case rel => exact ⟨Q'', K + 1, g'', cap'', S'', by go_num, by omega, by omega, rfl, hBI3, hown9, by rw [htk]; exact F9, hB9⟩
                        case measure => simp [intOf] <;> omega
                      · have he : (((dS n tq : Nat) : Int) == ((dS n x : Nat) : Int) + 1) = false := by simp; omega
                        have HD := Lib.hid hd
                        clear hd
                        go_wp2_with fail
                        go_quiet (fail)
                        go_wp2
                        go_roundw
                        case rel => exact ⟨Q'', K + 1, g'', cap'', S'', by go_num, by omega, by omega, rfl, hBI3, hown3, by rw [htk, ← HNO.out HD.out]; exact F3'.drewN _, hB3.drewN _⟩
                        case measure => simp [intOf] <;> omega
                  · obtain rfl : K = n + 1 := by omega
                    have hKf : (n : Int) < ((n + 1 : Nat) : Int) := by omega
                    have HN := hBI.next
                    have HC := hBI.count_last 0
                    rw [HC] at hF'
                    clear HC hKl
                    go_wp2
                    go_roundw
                    case rel => exact ⟨p + 1, Q', g', cap', S', by go_num, rfl, HN, hown', hF', hB'⟩
                    case measure => simp [intOf] <;> omega
              · have hQp : Q.length = p := by have := hQ.hp; omega
                subst hQp
                have hge : (Q.length : Int) ≤ (Q.length : Int) := Int.le_refl _
                have HR := FAR.mk' hF (by omega) (hQ.farL hn.out) (hQ.cntL hn.out 0) (hQ.allS hn.out)
                have hbl := hF.l
                have hbr := hWb.below hB (Nat.lt_succ_self _)
                have hsr := hbr.setRow [.slice (some ⟨a, 0, none⟩) (fact n) (fact n), .slice (some ⟨c, 0, none⟩) (fact n) (fact n), .slice (some ⟨s, 0, none⟩) (fact n) (fact n)]
                have hg9 : wr.grownBy (wr.setRow w.heap.size #[.slice (some ⟨a, 0, none⟩) (fact n) (fact n), .slice (some ⟨c, 0, none⟩) (fact n) (fact n), .slice (some ⟨s, 0, none⟩) (fact n) (fact n)]) (some w.heap.size) := ⟨rfl, rfl, rfl, by simp [World.setRow], fun k _ hk => setRow_other wr w.heap.size k _ (fun e => hk (by rw [e]))⟩
                have hB9 : Below w.heap.size w (wr.setRow w.heap.size #[.slice (some ⟨a, 0, none⟩) (fact n) (fact n), .slice (some ⟨c, 0, none⟩) (fact n) (fact n), .slice (some ⟨s, 0, none⟩) (fact n) (fact n)]) := (hWB.trans (hB.mono (Nat.le_succ _))).grown hg9 (by have := hWB.size; have := hB.size; omega) (fun k hk => by cases hk; exact Nat.le_refl _)
                have HR9 := FAR.mk' (hF.keptB (w' := wr.setRow w.heap.size #[.slice (some ⟨a, 0, none⟩) (fact n) (fact n), .slice (some ⟨c, 0, none⟩) (fact n) (fact n), .slice (some ⟨s, 0, none⟩) (fact n) (fact n)]) (fun g hg1 _ _ => setRow_other wr w.heap.size g _ (by omega))) (by omega) (hQ.farL hn.out) (hQ.cntL hn.out 0) (hQ.allS hn.out)
                clear HR hF hQ hown hB hWB hg9 hlt
                go_wp2_with (first | (refine wpList_load3 rfl 62 _ rfl bl _ _ _ rfl 62 hbl Try.underlying62 rfl (by kernel_rfl) ?_) | (refine wpList_store3 rfl 62 _ _ rfl w.heap.size _ _ _ rfl rfl 62 _ hbr (by kernel_rfl) rfl ⟨rfl, rfl, rfl⟩ ?_))
                exact bodyPost_ret (results_cell_row rfl _ _ w.heap.size 62 _ _ _ rfl hsr Try.underlying62 rfl (by kernel_rfl)) rfl ⟨a, c, s, S, rfl, HR9, hB9⟩

end Go.Proofs.Ytdlnniciccpchaa

