import Derived.Test.YtlomdnldokbjoaaU9
namespace Go.Proofs.Ytlomdnldokbjoaa
open Go Go.RowKit Go.Pan

set_option maxHeartbeats 4000000 in
set_option maxRecDepth 100000 in
theorem botStep_any (q : List Int) (p b : Nat) (ad : Option Addr) (cap : Nat) (u : World) (hg : Hid (Pan.Good q)) (hl : Hid (q.length = p + 1)) (hcs : u.cell? ⟨b, 0, none⟩ = some (.slice ad (p + 1) cap)) (hbu : b < u.heap.size) :
    Calls Try.prog 176 #[tw q, .pointer (some ⟨b, 0, none⟩)] u fun e w' => e = .returned (tw (botT q)) ∧ Below u.heap.size u w' := by
  have h9 := hg.out.le9
  have hp9 : p < 9 := by have := hl.out; omega
  obtain ⟨t, ht⟩ : ∃ t : Nat, q.getD p 0 = (t : Int) := ⟨(q.getD p 0).toNat, by have := hg.out.at (i := p) (by have := hl.out; omega); omega⟩
  have htl : t ≤ q.length := by have := hg.out.at (i := p) (by have := hl.out; omega); omega
  have HT := Lib.hid (show turnL q t = botT q by unfold botT; rw [show q.length - 1 = p by have := hl.out; omega, ht, Int.toNat_natCast])
  obtain ⟨W, hW⟩ : ∃ W, W = (u.alloc (.cells (twl q).toArray 74)).alloc (.cells (twl []).toArray 74) := ⟨_, rfl⟩
  have hbx : Blk W u.heap.size 74 (twl q) := by rw [hW]; exact (Blk.new u _ (twl q) _ rfl).alloc _
  have hz : Blk W (u.heap.size + 1) 74 (twl []) := by rw [hW]; exact Blk.new _ _ (twl []) _ (by simp)
  have hb0 : Below u.heap.size u W := by rw [hW]; exact ((Below.refl _ _).alloc (Nat.le_refl _) _).alloc (by simp) _
  have hc := (hbx.cell p).trans ((twl_at (xs := q) (i := p) hp9).resolve_right (by omega))
  rw [ht] at hc
  have hcW := (hb0.cell (p := ⟨b, 0, none⟩) hbu).trans hcs
  have hra := hbx.range
  have hlW := hbx.lt
  have hbW : b < W.heap.size := Nat.lt_of_lt_of_le hbu hb0.size
  have h9T : (botT q).length ≤ 9 := by unfold botT; rw [turnL_length]; exact h9
  have hut := Try.underlying74
  have hsz : (Try.prog.info? 74).map (·.size) = some (twl q).length := by rw [Try.infoT, twl_length _ h9]
  have HW := Lib.hid hW
  have hp9' : (p : Int) < 9 := by omega
  clear ht hW hbx hcs
  go_enter Try.func176, Try.ntmps176
  go_wp2_with fail
  rw [show (u.alloc (.cells (twl q).toArray 74)).alloc (.cells #[.int .i64 0, .int .i64 0, .int .i64 0, .int .i64 0, .int .i64 0, .int .i64 0, .int .i64 0, .int .i64 0, .int .i64 0] 74) = W from HW.out.symm]
  refine wp_region_held_drew (S := fun w' => w'.rangeAt u.heap.size 0 (twl q) ∧ w'.cell? ⟨b, 0, none⟩ = some (.slice ad (p + 1) cap) ∧ w'.cell? ⟨u.heap.size, p, none⟩ = some (iv (t : Int))) (by kernel_rfl) ⟨hra, hcW, hc⟩ (fun hHeld => ?_)
  refine wpAnyH_take (i := 0) rfl (by kernel_rfl) (by kernel_rfl) (by kernel_rfl) (fun _ _ _ h => h) (yieldsIf_load_mid (by rfl) _ _ rfl _ _ rfl _ _ (fun w hw => hw.1) hut rfl hsz) (by assumption) ?_
  try simp only [List.getElem_toArray, List.getElem_cons_zero, Act.put, List.setIfInBounds_toArray, List.set_cons_zero, List.set_cons_succ]
  refine wpAnyH_take (i := 1) (v := .slice ad (p + 1) cap) rfl (by kernel_rfl) (by kernel_rfl) (by kernel_rfl) (fun _ _ _ h => h) (Or.inl ⟨by rfl, ?_⟩) (by assumption) ?_
  · intro w hSw
    have hSc := hSw.2.1
    clear hSw
    (go_simp <;> with_reducible rfl)
  try simp only [List.getElem_toArray, List.getElem_cons_zero, List.getElem_cons_succ, Act.put, List.setIfInBounds_toArray, List.set_cons_zero, List.set_cons_succ]
  refine wpAnyH_take (i := 2) (v := ?_) rfl (by kernel_rfl) (by kernel_rfl) (by kernel_rfl) (fun _ _ _ h => h) (Or.inl ⟨by rfl, ?_⟩) (by assumption) ?_
  rotate_left
  · intro w _; go_simp; with_reducible rfl
  try simp only [List.getElem_toArray, List.getElem_cons_zero, List.getElem_cons_succ, Act.put, List.setIfInBounds_toArray, List.set_cons_zero, List.set_cons_succ]
  refine wpAnyH_take (i := 3) (v := .int .i64 (p : Int)) rfl (by kernel_rfl) (by kernel_rfl) (by kernel_rfl) (fun _ _ _ h => h) (Or.inl ⟨by rfl, ?_⟩) (by assumption) ?_
  · intro w _; go_simp; exact IntWalk.i64_in _ (by omega)
  try simp only [List.getElem_toArray, List.getElem_cons_zero, List.getElem_cons_succ, Act.put, List.setIfInBounds_toArray, List.set_cons_zero, List.set_cons_succ]
  refine wpAnyH_take (i := 4) (v := .pointer (some ⟨u.heap.size, p, none⟩)) rfl (by kernel_rfl) (by kernel_rfl) (by kernel_rfl) (fun _ _ _ h => h) (Or.inl ⟨by rfl, ?_⟩) (by assumption) ?_
  · intro w _; go_simp; try with_reducible rfl
  try simp only [List.getElem_toArray, List.getElem_cons_zero, List.getElem_cons_succ, Act.put, List.setIfInBounds_toArray, List.set_cons_zero, List.set_cons_succ]
  refine wpAnyH_take (i := 5) (v := .int .i64 (t : Int)) rfl (by kernel_rfl) (by kernel_rfl) (by kernel_rfl) (fun _ _ _ h => h) (Or.inl ⟨by rfl, ?_⟩) (by assumption) ?_
  · intro w hSw
    have hSc := hSw.2.2
    clear hSw
    (go_simp <;> with_reducible rfl)
  try simp only [List.getElem_toArray, List.getElem_cons_zero, List.getElem_cons_succ, Act.put, List.setIfInBounds_toArray, List.set_cons_zero, List.set_cons_succ]
  refine wpAnyH_ready (rs := [6]) (by kernel_rfl) (by simp) ?_
  refine AllReadyH.cons rfl (fun K hK => ?_) AllReadyH.nil
  go_simp
  refine (turned_any _ _ _ h9 htl).mono ?_
  rintro e w2 ⟨rfl, hb2⟩
  go_wp2_with fail
  refine hK.out _ _ (⟨range_below hHeld.1 hb2 hlW, (hb2.cell (p := ⟨b, 0, none⟩) hbW).trans hHeld.2.1, (hb2.cell (p := ⟨u.heap.size, p, none⟩) hlW).trans hHeld.2.2⟩) (fun hHeld => ?_)
  clear hK K
  rw [HT.out]
  have hz2 := (Blk.drew hz).below hb2 hz.lt
  have hB2 := hb0.drew.trans (hb2.mono hb0.size)
  try simp only [List.getElem_toArray, List.getElem_cons_zero, List.getElem_cons_succ, Act.put, List.setIfInBounds_toArray, List.set_cons_zero, List.set_cons_succ]
  refine wpAnyH_ready (rs := [7]) (by kernel_rfl) (by simp) ?_
  refine AllReadyH.cons rfl (fun K hK => ?_) AllReadyH.nil
  refine step_store_tower rfl _ _ rfl (u.heap.size + 1) [] (botT q) (by simp) h9T rfl rfl hz2 ?_
  intro w5 hbT5 hgr5
  have hB5 := hB2.grown hgr5 hB2.size (by intro k hk; cases hk; omega)
  have hlt5 : u.heap.size < w2.heap.size := Nat.lt_of_lt_of_le hlW hb2.size
  have hlt6 : b < w2.heap.size := Nat.lt_of_lt_of_le hbW hb2.size
  have hn1 : some (u.heap.size + 1) ≠ some u.heap.size := by intro h; have := Option.some.inj h; omega
  have hn2 : some (u.heap.size + 1) ≠ some b := by intro h; have := Option.some.inj h; omega
  refine hK.out _ _ ⟨range_grownX hHeld.1 hgr5 hlt5 hn1, (cell_grownX hgr5 hlt6 hn2).trans hHeld.2.1, (cell_grownX hgr5 hlt5 hn1).trans hHeld.2.2⟩ (fun hHeld => ?_)
  clear hK K
  refine wpAnyH_done (by kernel_rfl) ?_ _
  go_wp2
  exact bodyPost_ret (results_tower rfl _ _ (u.heap.size + 1) (botT q) h9T rfl hbT5) rfl ⟨rfl, hB5⟩

set_option maxHeartbeats 4000000 in
set_option maxRecDepth 100000 in
theorem cardStep_any (q : List Int) (n k b c : Nat) (u : World) (hg : Hid (Pan.Good q)) (hl : Hid (q.length = n)) (hk : k ≤ n) (hcn : u.cell? ⟨b, 0, none⟩ = some (.int .i64 (n : Int))) (hck : u.cell? ⟨c, 0, none⟩ = some (.int .i64 (k : Int))) (hbu : b < u.heap.size) (hcu : c < u.heap.size) :
    Calls Try.prog 174 #[tw q, .pointer (some ⟨b, 0, none⟩), .pointer (some ⟨c, 0, none⟩)] u fun e w' => e = .returned (tw (cardT k q)) ∧ Below u.heap.size u w' := by
  have h9 := hg.out.le9
  have hn9 : n ≤ 9 := by have := hl.out; omega
  have hnq : n ≤ q.length := by have := hl.out; omega
  have h9r : (turnL q n).length ≤ 9 := by rw [turnL_length]; exact h9
  have hkr : n - k ≤ (turnL q n).length := by rw [turnL_length]; have := hl.out; omega
  have HT := Lib.hid (show turnL (turnL q n) (n - k) = cardT k q by rw [← hl.out]; exact cardT_turns (by have := hl.out; omega))
  have hnk : ((n - k : Nat) : Int) = (n : Int) - (k : Int) := by omega
  have C2 := Lib.hid (fun w2 : World => (turned_any (turnL q n) (n - k) w2 h9r hkr))
  rw [hnk, HT.out] at C2
  obtain ⟨W, hW⟩ : ∃ W, W = (u.alloc (.cells (twl q).toArray 74)).alloc (.cells (twl []).toArray 74) := ⟨_, rfl⟩
  have hbx : Blk W u.heap.size 74 (twl q) := by rw [hW]; exact (Blk.new u _ (twl q) _ rfl).alloc _
  have hz : Blk W (u.heap.size + 1) 74 (twl []) := by rw [hW]; exact Blk.new _ _ (twl []) _ (by simp)
  have hb0 : Below u.heap.size u W := by rw [hW]; exact ((Below.refl _ _).alloc (Nat.le_refl _) _).alloc (by simp) _
  have hcnW := (hb0.cell (p := ⟨b, 0, none⟩) hbu).trans hcn
  have hckW := (hb0.cell (p := ⟨c, 0, none⟩) hcu).trans hck
  have hra := hbx.range
  have hlW := hbx.lt
  have hbW : b < W.heap.size := Nat.lt_of_lt_of_le hbu hb0.size
  have hcW : c < W.heap.size := Nat.lt_of_lt_of_le hcu hb0.size
  have h9T : (cardT k q).length ≤ 9 := by rw [cardT_length]; exact h9
  have hut := Try.underlying74
  have hsz : (Try.prog.info? 74).map (·.size) = some (twl q).length := by rw [Try.infoT, twl_length _ h9]
  have HW := Lib.hid hW
  clear hW hbx hcn hck hnk hkr
  go_enter Try.func174, Try.ntmps174
  go_wp2_with fail
  rw [show (u.alloc (.cells (twl q).toArray 74)).alloc (.cells #[.int .i64 0, .int .i64 0, .int .i64 0, .int .i64 0, .int .i64 0, .int .i64 0, .int .i64 0, .int .i64 0, .int .i64 0] 74) = W from HW.out.symm]
  refine wp_region_held_drew (S := fun w' => w'.rangeAt u.heap.size 0 (twl q) ∧ w'.cell? ⟨b, 0, none⟩ = some (.int .i64 (n : Int)) ∧ w'.cell? ⟨c, 0, none⟩ = some (.int .i64 (k : Int))) (by kernel_rfl) ⟨hra, hcnW, hckW⟩ (fun hHeld => ?_)
  refine wpAnyH_take (i := 0) rfl (by kernel_rfl) (by kernel_rfl) (by kernel_rfl) (fun _ _ _ h => h) (yieldsIf_load_mid (by rfl) _ _ rfl _ _ rfl _ _ (fun w hw => hw.1) hut rfl hsz) (by assumption) ?_
  try simp only [List.getElem_toArray, List.getElem_cons_zero, Act.put, List.setIfInBounds_toArray, List.set_cons_zero, List.set_cons_succ]
  refine wpAnyH_take (i := 1) (v := .int .i64 (n : Int)) rfl (by kernel_rfl) (by kernel_rfl) (by kernel_rfl) (fun _ _ _ h => h) (Or.inl ⟨by rfl, ?_⟩) (by assumption) ?_
  · intro w hSw
    have hSc := hSw.2.1
    clear hSw
    (go_simp <;> with_reducible rfl)
  try simp only [List.getElem_toArray, List.getElem_cons_zero, List.getElem_cons_succ, Act.put, List.setIfInBounds_toArray, List.set_cons_zero, List.set_cons_succ]
  refine wpAnyH_take (i := 3) (v := .int .i64 (n : Int)) rfl (by kernel_rfl) (by kernel_rfl) (by kernel_rfl) (fun _ _ _ h => h) (Or.inl ⟨by rfl, ?_⟩) (by assumption) ?_
  · intro w hSw
    have hSc := hSw.2.1
    clear hSw
    (go_simp <;> with_reducible rfl)
  try simp only [List.getElem_toArray, List.getElem_cons_zero, List.getElem_cons_succ, Act.put, List.setIfInBounds_toArray, List.set_cons_zero, List.set_cons_succ]
  refine wpAnyH_take (i := 4) (v := .int .i64 (k : Int)) rfl (by kernel_rfl) (by kernel_rfl) (by kernel_rfl) (fun _ _ _ h => h) (Or.inl ⟨by rfl, ?_⟩) (by assumption) ?_
  · intro w hSw
    have hSc := hSw.2.2
    clear hSw
    (go_simp <;> with_reducible rfl)
  try simp only [List.getElem_toArray, List.getElem_cons_zero, List.getElem_cons_succ, Act.put, List.setIfInBounds_toArray, List.set_cons_zero, List.set_cons_succ]
  refine wpAnyH_take (i := 5) (v := .int .i64 ((n : Int) - (k : Int))) rfl (by kernel_rfl) (by kernel_rfl) (by kernel_rfl) (fun _ _ _ h => h) (Or.inl ⟨by rfl, ?_⟩) (by assumption) ?_
  · intro w _; go_simp; exact IntWalk.i64_in _ (by omega)
  try simp only [List.getElem_toArray, List.getElem_cons_zero, List.getElem_cons_succ, Act.put, List.setIfInBounds_toArray, List.set_cons_zero, List.set_cons_succ]
  refine wpAnyH_ready (rs := [2]) (by kernel_rfl) (by simp) ?_
  refine AllReadyH.cons rfl (fun K hK => ?_) AllReadyH.nil
  go_simp
  refine (turned_any _ _ _ h9 hnq).mono ?_
  rintro e w2 ⟨rfl, hb2⟩
  go_wp2_with fail
  refine hK.out _ _ (⟨range_below hHeld.1 hb2 hlW, (hb2.cell (p := ⟨b, 0, none⟩) hbW).trans hHeld.2.1, (hb2.cell (p := ⟨c, 0, none⟩) hcW).trans hHeld.2.2⟩) (fun hHeld => ?_)
  clear hK K
  have hlt2 : u.heap.size < w2.heap.size := Nat.lt_of_lt_of_le hlW hb2.size
  have hltb : b < w2.heap.size := Nat.lt_of_lt_of_le hbW hb2.size
  have hltc : c < w2.heap.size := Nat.lt_of_lt_of_le hcW hb2.size
  try simp only [List.getElem_toArray, List.getElem_cons_zero, List.getElem_cons_succ, Act.put, List.setIfInBounds_toArray, List.set_cons_zero, List.set_cons_succ]
  refine wpAnyH_ready (rs := [6]) (by kernel_rfl) (by simp) ?_
  refine AllReadyH.cons rfl (fun K hK => ?_) AllReadyH.nil
  go_simp
  refine (C2.out _).mono ?_
  rintro e w3 ⟨rfl, hb3⟩
  go_wp2_with fail
  refine hK.out _ _ (⟨range_below hHeld.1 hb3 hlt2, (hb3.cell (p := ⟨b, 0, none⟩) hltb).trans hHeld.2.1, (hb3.cell (p := ⟨c, 0, none⟩) hltc).trans hHeld.2.2⟩) (fun hHeld => ?_)
  clear hK K
  have hz2 := (Blk.drew hz).below hb2 hz.lt
  have hz3 := hz2.below hb3 hz2.lt
  have hB2 := hb0.drew.trans (hb2.mono hb0.size)
  have hB3 := hB2.trans (hb3.mono hB2.size)
  try simp only [List.getElem_toArray, List.getElem_cons_zero, List.getElem_cons_succ, Act.put, List.setIfInBounds_toArray, List.set_cons_zero, List.set_cons_succ]
  refine wpAnyH_ready (rs := [7]) (by kernel_rfl) (by simp) ?_
  refine AllReadyH.cons rfl (fun K hK => ?_) AllReadyH.nil
  refine step_store_tower rfl _ _ rfl (u.heap.size + 1) [] (cardT k q) (by simp) h9T rfl rfl hz3 ?_
  intro w5 hbT5 hgr5
  have hB5 := hB3.grown hgr5 hB3.size (by intro k hk; cases hk; omega)
  have hlt5 : u.heap.size < w3.heap.size := Nat.lt_of_lt_of_le hlt2 hb3.size
  have hlt6 : b < w3.heap.size := Nat.lt_of_lt_of_le hltb hb3.size
  have hlt7 : c < w3.heap.size := Nat.lt_of_lt_of_le hltc hb3.size
  have hn1 : some (u.heap.size + 1) ≠ some u.heap.size := by intro h; have := Option.some.inj h; omega
  have hn2 : some (u.heap.size + 1) ≠ some b := by intro h; have := Option.some.inj h; omega
  have hn3 : some (u.heap.size + 1) ≠ some c := by intro h; have := Option.some.inj h; omega
  refine hK.out _ _ ⟨range_grownX hHeld.1 hgr5 hlt5 hn1, (cell_grownX hgr5 hlt6 hn2).trans hHeld.2.1, (cell_grownX hgr5 hlt7 hn3).trans hHeld.2.2⟩ (fun hHeld => ?_)
  clear hK K
  refine wpAnyH_done (by kernel_rfl) ?_ _
  go_wp2
  exact bodyPost_ret (results_tower rfl _ _ (u.heap.size + 1) (cardT k q) h9T rfl hbT5) rfl ⟨rfl, hB5⟩

end Go.Proofs.Ytlomdnldokbjoaa

