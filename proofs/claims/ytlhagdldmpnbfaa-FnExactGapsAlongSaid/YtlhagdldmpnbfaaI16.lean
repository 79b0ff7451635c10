import Derived.Test.YtlhagdldmpnbfaaI8
import Derived.Test.YtlhagdldmpnbfaaS2
import Derived.Test.YtlhagdldmpnbfaaTwB
import Derived.Deep.AppendLies
namespace Go.Proofs.Ytlhagdldmpnbfaa
open Go Go.RowKit Go.Pan

/-- what the first k steps make of it -/
def StTo (st : List Int → Nat → List Int) (xs p : List Int) (k : Nat) : List Int := (p.take k).foldl (fun q j => st q j.toNat) xs
theorem StTo_step (st : List Int → Nat → List Int) (xs p : List Int) (k : Nat) (h : k < p.length) (j : Nat) (hj : p[k] = (j : Int)) : st (StTo st xs p k) j = StTo st xs p (k + 1) := by
  unfold StTo
  rw [List.take_succ_eq_append_getElem h, List.foldl_append, hj]
  simp
theorem StTo_turn (xs p : List Int) (k : Nat) : StTo turnL xs p k = PlayTo xs p k := by
  have : ∀ (q : List Int) (ys : List Int), q.foldl (fun r j => turnL r j.toNat) ys = playL ys q := by
    intro q
    induction q with
    | nil => intro ys; rfl
    | cons a q ih => intro ys; exact ih _
  exact this _ _
def twN (st : List Int → Nat → List Int) (xs p : List Int) (k : Nat) : List Value := (List.range k).flatMap fun j => twl (StTo st xs p j)
theorem twN_one (st : List Int → Nat → List Int) (xs p : List Int) : twN st xs p 1 = twl xs := by simp [twN, StTo]
theorem twN_succ (st : List Int → Nat → List Int) (xs p : List Int) (k : Nat) : twN st xs p (k + 1) = twN st xs p k ++ twl (StTo st xs p k) := by simp [twN, List.range_succ]

set_option maxRecDepth 100000 in
set_option maxHeartbeats 4000000 in
theorem alongS_any (F : FuncId) (st : List Int → Nat → List Int) (I : List Int → Prop) (xs p : List Int) (u : Value) (w : World) (hl9 : xs.length ≤ 9) (hu : OwnI w u p) (hp : Hid (∀ k ∈ p, 1 ≤ k ∧ k ≤ (xs.length : Int))) (hm : p.length ≤ 40)
    (hC : ∀ (args : Array Value) (u : World), (callFunc F args).run Try.prog u = .ok (.enter F args) u) (hI : Hid (∀ k, k ≤ p.length → I (StTo st xs p k))) (hL : Hid (∀ k, (StTo st xs p k).length = xs.length))
    (hF : Hid (∀ (ys : List Int) (k : Nat) (u : World), I ys → k ≤ ys.length → Calls Try.prog F #[tw ys, .int .i64 k] u fun e w' => e = .returned (tw (st ys k)) ∧ Below u.heap.size u w')) :
    Calls Try.prog 88 #[tw xs, .func (Fn.func F) #[] #[], u] w fun e w' => ∃ r, e = .returned r ∧ Own w' 9 r (p.length + 1) (twN st xs p (p.length + 1)) ∧ From w.heap.size r ∧ Below w.heap.size w w' := by
  obtain ⟨ad, cap, rfl, hc, _, _⟩ := hu.shape
  obtain ⟨W, hW⟩ : ∃ W, W = w.alloc (.cells (twl xs).toArray 43) := ⟨_, rfl⟩
  have hbx : Blk W w.heap.size 43 (twl xs) := by rw [hW]; exact Blk.new w _ (twl xs) _ rfl
  have hB0 : Below w.heap.size w W := by rw [hW]; exact below_new w (.cells (twl xs).toArray 43)
  have hra := hbx.range
  have hlW := hbx.lt
  have hut := Try.underlying43
  have hs9 : (twl xs).length = 9 := twl_length _ hl9
  have hsz : (Try.prog.info? 43).map (·.size) = some (twl xs).length := by rw [Try.infoT, hs9]
  obtain ⟨i0, hi, hz0, hz1, hz2⟩ := info_parts infoTw
  have hmi : (p.length : Int) ≤ 40 := by omega
  have HI := Lib.hid hi
  have HZ0 := Lib.hid hz0
  have HZ1 := Lib.hid hz1
  have HZ2 := Lib.hid hz2
  have HW := Lib.hid hW
  have HT := Lib.hid hs9
  clear hW hs9 hi hz0 hz1 hz2
  go_enter Try.func88, Try.ntmps88
  go_wp2_with fail
  rw [← HW.out]
  refine wp_region_held_drew (S := (fun w' => w'.rangeAt w.heap.size 0 (twl xs))) (by kernel_rfl) (hra) (fun hHeld => ?_)
  refine wpAnyH_take (i := 0) (v := ?_) rfl (by kernel_rfl) (by kernel_rfl) (by kernel_rfl) (fun _ _ _ h => h) (Or.inl ⟨by rfl, ?_⟩) (by assumption) ?_
  rotate_left
  · intro w _; go_simp; with_reducible rfl
  refine wpAnyH_take (i := 1) (v := ?_) rfl (by kernel_rfl) (by kernel_rfl) (by kernel_rfl) (fun _ _ _ h => h) (Or.inl ⟨by rfl, ?_⟩) (by assumption) ?_
  rotate_left
  · intro w _; go_simp; with_reducible rfl
  refine wpAnyH_take (i := 2) (v := ?_) rfl (by kernel_rfl) (by kernel_rfl) (by kernel_rfl) (fun _ _ _ h => h) (Or.inl ⟨by rfl, ?_⟩) (by assumption) ?_
  rotate_left
  · intro w _; go_simp; with_reducible rfl
  refine wpAnyH_take (i := 4) rfl (by kernel_rfl) (by kernel_rfl) (by kernel_rfl) (fun _ _ _ h => h) (yieldsIf_load_mid (by rfl) _ _ rfl _ _ rfl _ _ (fun w hw => hw) hut rfl hsz) (by assumption) ?_
  refine wpAnyH_ready (rs := [3, 5]) (by kernel_rfl) (by simp) ?_
  refine AllReadyH.cons rfl (fun K hK => ?_) (AllReadyH.cons rfl (fun K hK => ?_) AllReadyH.nil)
  · refine step_make_own rfl _ _ 54 rfl (w.heap.size + 1) 43 i0 _ 9 Try.underlying54 HI.out HZ0.out HZ1.out _ _ _ (p.length + 1) rfl rfl (by rw [IntKind.wrap_i64]; omega) (by rw [HZ2.out]; omega) (by unfold maxLen; omega) (by exact hlW) ?_
    intro w1 hown hgr
    have hb1 : Below W.heap.size W.drew w1 := Below.grown (Below.refl W.heap.size W.drew) hgr (Nat.le_refl _) (by intro k hk; cases hk)
    refine hK.out _ _ (range_below hHeld hb1 hlW) (fun hHeld => ?_)
    clear hK K
    refine wpAnyH_ready (rs := [5]) (by kernel_rfl) (by simp) ?_
    refine AllReadyH.cons rfl (fun K hK => ?_) AllReadyH.nil
    refine step_build_tower rfl _ rfl (twl xs) HT.out rfl ?_
    have hz1 := hb1.size
    have hlW1 : w.heap.size < w1.heap.size := Nat.lt_of_lt_of_le hlW hz1
    refine hK.out _ _ (range_below hHeld (below_new w1 _) hlW1) (fun hHeld => ?_)
    clear hK K
    refine wpAnyH_ready (rs := [6]) (by kernel_rfl) (by simp) ?_
    refine AllReadyH.cons rfl (fun K hK => ?_) AllReadyH.nil
    refine step_append_lies _ rfl _ _ 54 rfl (w.heap.size + 1) 43 i0 _ 9 72 Try.underlying54 HI.out HZ0.out HZ1.out HZ2.out rfl (by omega) (.slice (some ⟨W.heap.size, 0, none⟩) 0 (p.length + 1)) 0 [] rfl (hown.alloc _) ⟨w1.heap.size, 0, none⟩ 1 1 (twl xs) rfl (by rw [HT.out]) (World.news_of_block (heap_alloc_new w1 _)) (twl_one xs) (by omega) (by unfold maxLen; omega) (by omega) (by simp; omega) (w1.heap.size + 1) (by simp) ?_
    intro g cap' wz hown2 hgr2 hat hlt
    have hO := Own.of_row hown2
    have hb2 : Below (w.heap.size + 1) (w1.alloc (.cells (twl xs).toArray 43)) wz := (Below.refl _ _).grown hgr2 (by simp; omega) (by intro k hk; simp [Value.ownBlock] at hk; omega)
    have hT2 : Blk wz w.heap.size 43 (twl (StTo st xs p 0)) := Blk.below (((Blk.drew hbx).below hb1 hlW).alloc _) hb2 (Nat.lt_succ_self _)
    have hB2 : Below w.heap.size w wz := ((hB0.drew.trans (hb1.mono (Nat.le_of_lt hlW))).alloc (Nat.le_of_lt hlW1) _).trans (hb2.mono (Nat.le_succ _))
    refine hK.out _ _ (range_below hHeld hb2 (Nat.lt_succ_self _)) (fun hHeld => ?_)
    clear hK K
    refine wpAnyH_take (i := 7) (v := ?_) rfl (by kernel_rfl) (by kernel_rfl) (by kernel_rfl) (fun _ _ _ h => h) (Or.inl ⟨by rfl, ?_⟩) (by assumption) ?_
    rotate_left
    · intro w _; go_simp; with_reducible rfl
    refine wpAnyH_done (by kernel_rfl) ?_ _
    have ho : Own wz 9 (.slice (some ⟨g, 0, none⟩) 1 cap') 1 (twN st xs p 1) := by rw [twN_one]; exact hO.1
    have hf : From (w.heap.size + 1) (.slice (some ⟨g, 0, none⟩) 1 cap') := hO.2
    clear hO hown hown2 hat hlt hHeld hb1 hb2 hgr hgr2
    go_wp2
    go_loopw [7, 9, 19] (fun o _ i wr => ∃ k : Nat, k ≤ p.length ∧ i = .int .i64 k ∧ Own wr 9 o (k + 1) (twN st xs p (k + 1)) ∧ From (w.heap.size + 1) o ∧ Blk wr w.heap.size 43 (twl (StTo st xs p k)) ∧ Below w.heap.size w wr) (fun _ _ i _ => p.length - (intOf i).toNat)
    case atStart => exact ⟨0, Nat.zero_le _, rfl, ho, hf, hT2, hB2⟩
    case round =>
      obtain ⟨k, hk, rfl, ho, hf, hbT, hbr⟩ := hrel
      clear hT2 hB2
      by_cases hlt : k < p.length
      · obtain ⟨g2, off, rfl, hgl, hcell, hfz⟩ := hu.at (by omega)
        have hck := hcell k (by omega)
        rw [List.getElem?_map, List.getElem?_eq_getElem hlt] at hck
        have hc1 := (hbr.cell (p := ⟨g2, off + k, none⟩) hgl).trans hck
        have hin := hp.out _ (List.getElem_mem hlt)
        obtain ⟨j, hj⟩ : ∃ j : Nat, p[k] = (j : Int) := ⟨p[k].toNat, by omega⟩
        have hjl : j ≤ (StTo st xs p k).length := by rw [hL.out]; omega
        have h9a : (StTo st xs p k).length ≤ 9 := by rw [hL.out]; exact hl9
        have h9b : (StTo st xs p (k + 1)).length ≤ 9 := by rw [hL.out]; exact hl9
        have H9 := Lib.hid (twl_length _ h9b)
        have HS := Lib.hid (StTo_step st xs p k hlt j hj)
        have HN := Lib.hid (twN_succ st xs p (k + 1)).symm
        have hc2 : wr.cell? ⟨g2, off + k, none⟩ = some (iv (j : Int)) := by rw [hc1, ← hj]; rfl
        have hsr := hbT.lt
        have HA := Lib.hid (show ∀ g, u7.ownBlock = some g → some w.heap.size ≠ some g from fun g hg e => by have := hf g hg; cases e; omega)
        have HA2 := Lib.hid (show u7.ownBlock ≠ some w.heap.size from fun e => by have := hf _ e; omega)
        clear hcell hfz hck hc1 hj hin hu
        go_wp2_with (first | (refine wpList_load_tower rfl _ rfl w.heap.size (StTo st xs p k) h9a rfl hbT ?_))
        refine (hF.out (StTo st xs p k) j _ (hI.out k hk) hjl).mono ?_
        rintro e w4 ⟨rfl, hb4⟩
        rw [HS.out]
        have hbT4 := hbT.below hb4 hsr
        have ho4 := ho.same hb4
        have hB4 := hbr.trans (hb4.mono hbr.size)
        clear ho hbT hbr hb4 hc2
        go_wp2_with (first | (refine wpList_store_tower rfl _ _ rfl w.heap.size (StTo st xs p k) (StTo st xs p (k + 1)) h9a h9b rfl rfl hbT4 ?_; intro w5 hbT5 hgr5; have hz5 := hbT5.lt) | (refine wpList_load_tower rfl _ rfl w.heap.size (StTo st xs p (k + 1)) h9b rfl (by assumption) ?_) | (refine wpList_build_tower rfl _ rfl (twl (StTo st xs p (k + 1))) H9.out rfl ?_) | (at_builtin; refine wpList_append_Own _ rfl _ _ 54 rfl 43 i0 _ 9 72 Try.underlying54 HI.out HZ0.out HZ1.out HZ2.out rfl (by omega) u7 (k + 1) (twN st xs p (k + 1)) rfl ((Own.grown ho4 (by assumption) HA.out).alloc _) (w.heap.size + 1) hf _ 1 1 (twl (StTo st xs p (k + 1))) rfl (by rw [H9.out]) (World.news_of_block (heap_alloc_new _ _)) (twl_one _) (by simp; omega) (by unfold maxLen; omega) (by omega) ?_))
        intro v6 w6 ho6 hf6 hgr6
        rw [HN.out] at ho6
        have hbT6 := (hbT5.alloc _).grown hgr6 HA2.out
        have hB6 := ((hB4.grown hgr5 hB4.size (by intro k hk; cases hk; exact Nat.le_refl _)).alloc (Nat.le_of_lt hz5) _).grown hgr6 (by simp; omega) (fun b hb => Nat.le_of_succ_le (hf b hb))
        clear ho4 hB4 hbT4 hbT5 hgr5 hgr6
        go_wp2
        go_roundw
        case rel => exact ⟨k + 1, by omega, by go_num, ho6, hf6, hbT6, hB6⟩
        case measure => simp [intOf] <;> omega
      · obtain rfl : k = p.length := by omega
        clear hu
        go_wp2
        go_ret
        exact ⟨_, rfl, ho, fun b hb => Nat.le_of_succ_le (hf b hb), hbr⟩
  · refine step_build_tower rfl _ rfl (twl xs) HT.out rfl ?_
    refine hK.out _ _ (range_below hHeld (below_new W.drew _) hlW) (fun hHeld => ?_)
    clear hK K
    refine wpAnyH_ready (rs := [3]) (by kernel_rfl) (by simp) ?_
    refine AllReadyH.cons rfl (fun K hK => ?_) AllReadyH.nil
    have hlW1 : w.heap.size < (W.drew.alloc (.cells (twl xs).toArray 43)).heap.size := by simp; exact Nat.lt_succ_of_lt hlW
    have hzW : (W.drew.alloc (.cells (twl xs).toArray 43)).heap.size = W.heap.size + 1 := by simp
    refine step_make_own rfl _ _ 54 rfl (w.heap.size + 1) 43 i0 _ 9 Try.underlying54 HI.out HZ0.out HZ1.out _ _ _ (p.length + 1) rfl rfl (by rw [IntKind.wrap_i64]; omega) (by rw [HZ2.out]; omega) (by unfold maxLen; omega) (by exact hlW1) ?_
    intro w1 hown hgr
    have hb1 : Below (W.heap.size + 1) (W.drew.alloc (.cells (twl xs).toArray 43)) w1 := Below.grown (Below.refl _ _) hgr (by rw [hzW]; exact Nat.le_refl _) (by intro k hk; cases hk)
    refine hK.out _ _ (range_below hHeld hb1 (Nat.lt_succ_of_lt hlW)) (fun hHeld => ?_)
    clear hK K
    refine wpAnyH_ready (rs := [6]) (by kernel_rfl) (by simp) ?_
    refine AllReadyH.cons rfl (fun K hK => ?_) AllReadyH.nil
    have hz1 := hb1.size
    rw [hzW] at hz1
    have hnew : w1.heap[W.heap.size]? = some (.cells (twl xs).toArray 43) := (hb1.block _ (Nat.lt_succ_self _)).trans (heap_alloc_new W.drew _)
    refine step_append_lies _ rfl _ _ 54 rfl (w.heap.size + 1) 43 i0 _ 9 72 Try.underlying54 HI.out HZ0.out HZ1.out HZ2.out rfl (by omega) (.slice (some ⟨(W.drew.alloc (.cells (twl xs).toArray 43)).heap.size, 0, none⟩) 0 (p.length + 1)) 0 [] rfl hown ⟨W.heap.size, 0, none⟩ 1 1 (twl xs) rfl (by rw [HT.out]) (World.news_of_block hnew) (twl_one xs) (by omega) (by unfold maxLen; omega) (by omega) (by omega) w1.heap.size rfl ?_
    intro g cap' wz hown2 hgr2 hat hlt
    have hO := Own.of_row hown2
    have hb2 : Below (w.heap.size + 1) w1 wz := (Below.refl _ _).grown hgr2 (by omega) (by intro k hk; simp [Value.ownBlock] at hk; omega)
    have hT2 : Blk wz w.heap.size 43 (twl (StTo st xs p 0)) := Blk.below (((Blk.drew hbx).alloc _).below hb1 (Nat.lt_succ_of_lt hlW)) hb2 (Nat.lt_succ_self _)
    have hB2 : Below w.heap.size w wz := ((hB0.drew.alloc (Nat.le_of_lt hlW) _).trans (hb1.mono (Nat.le_succ_of_le (Nat.le_of_lt hlW)))).trans (hb2.mono (Nat.le_succ _))
    refine hK.out _ _ (range_below hHeld hb2 (Nat.lt_succ_self _)) (fun hHeld => ?_)
    clear hnew
    clear hK K
    refine wpAnyH_take (i := 7) (v := ?_) rfl (by kernel_rfl) (by kernel_rfl) (by kernel_rfl) (fun _ _ _ h => h) (Or.inl ⟨by rfl, ?_⟩) (by assumption) ?_
    rotate_left
    · intro w _; go_simp; with_reducible rfl
    refine wpAnyH_done (by kernel_rfl) ?_ _
    have ho : Own wz 9 (.slice (some ⟨g, 0, none⟩) 1 cap') 1 (twN st xs p 1) := by rw [twN_one]; exact hO.1
    have hf : From (w.heap.size + 1) (.slice (some ⟨g, 0, none⟩) 1 cap') := hO.2
    clear hO hown hown2 hat hlt hHeld hb1 hb2 hgr hgr2
    go_wp2
    go_loopw [7, 9, 19] (fun o _ i wr => ∃ k : Nat, k ≤ p.length ∧ i = .int .i64 k ∧ Own wr 9 o (k + 1) (twN st xs p (k + 1)) ∧ From (w.heap.size + 1) o ∧ Blk wr w.heap.size 43 (twl (StTo st xs p k)) ∧ Below w.heap.size w wr) (fun _ _ i _ => p.length - (intOf i).toNat)
    case atStart => exact ⟨0, Nat.zero_le _, rfl, ho, hf, hT2, hB2⟩
    case round =>
      obtain ⟨k, hk, rfl, ho, hf, hbT, hbr⟩ := hrel
      clear hT2 hB2
      by_cases hlt : k < p.length
      · obtain ⟨g2, off, rfl, hgl, hcell, hfz⟩ := hu.at (by omega)
        have hck := hcell k (by omega)
        rw [List.getElem?_map, List.getElem?_eq_getElem hlt] at hck
        have hc1 := (hbr.cell (p := ⟨g2, off + k, none⟩) hgl).trans hck
        have hin := hp.out _ (List.getElem_mem hlt)
        obtain ⟨j, hj⟩ : ∃ j : Nat, p[k] = (j : Int) := ⟨p[k].toNat, by omega⟩
        have hjl : j ≤ (StTo st xs p k).length := by rw [hL.out]; omega
        have h9a : (StTo st xs p k).length ≤ 9 := by rw [hL.out]; exact hl9
        have h9b : (StTo st xs p (k + 1)).length ≤ 9 := by rw [hL.out]; exact hl9
        have H9 := Lib.hid (twl_length _ h9b)
        have HS := Lib.hid (StTo_step st xs p k hlt j hj)
        have HN := Lib.hid (twN_succ st xs p (k + 1)).symm
        have hc2 : wr.cell? ⟨g2, off + k, none⟩ = some (iv (j : Int)) := by rw [hc1, ← hj]; rfl
        have hsr := hbT.lt
        have HA := Lib.hid (show ∀ g, u7.ownBlock = some g → some w.heap.size ≠ some g from fun g hg e => by have := hf g hg; cases e; omega)
        have HA2 := Lib.hid (show u7.ownBlock ≠ some w.heap.size from fun e => by have := hf _ e; omega)
        clear hcell hfz hck hc1 hj hin hu
        go_wp2_with (first | (refine wpList_load_tower rfl _ rfl w.heap.size (StTo st xs p k) h9a rfl hbT ?_))
        refine (hF.out (StTo st xs p k) j _ (hI.out k hk) hjl).mono ?_
        rintro e w4 ⟨rfl, hb4⟩
        rw [HS.out]
        have hbT4 := hbT.below hb4 hsr
        have ho4 := ho.same hb4
        have hB4 := hbr.trans (hb4.mono hbr.size)
        clear ho hbT hbr hb4 hc2
        go_wp2_with (first | (refine wpList_store_tower rfl _ _ rfl w.heap.size (StTo st xs p k) (StTo st xs p (k + 1)) h9a h9b rfl rfl hbT4 ?_; intro w5 hbT5 hgr5; have hz5 := hbT5.lt) | (refine wpList_load_tower rfl _ rfl w.heap.size (StTo st xs p (k + 1)) h9b rfl (by assumption) ?_) | (refine wpList_build_tower rfl _ rfl (twl (StTo st xs p (k + 1))) H9.out rfl ?_) | (at_builtin; refine wpList_append_Own _ rfl _ _ 54 rfl 43 i0 _ 9 72 Try.underlying54 HI.out HZ0.out HZ1.out HZ2.out rfl (by omega) u7 (k + 1) (twN st xs p (k + 1)) rfl ((Own.grown ho4 (by assumption) HA.out).alloc _) (w.heap.size + 1) hf _ 1 1 (twl (StTo st xs p (k + 1))) rfl (by rw [H9.out]) (World.news_of_block (heap_alloc_new _ _)) (twl_one _) (by simp; omega) (by unfold maxLen; omega) (by omega) ?_))
        intro v6 w6 ho6 hf6 hgr6
        rw [HN.out] at ho6
        have hbT6 := (hbT5.alloc _).grown hgr6 HA2.out
        have hB6 := ((hB4.grown hgr5 hB4.size (by intro k hk; cases hk; exact Nat.le_refl _)).alloc (Nat.le_of_lt hz5) _).grown hgr6 (by simp; omega) (fun b hb => Nat.le_of_succ_le (hf b hb))
        clear ho4 hB4 hbT4 hbT5 hgr5 hgr6
        go_wp2
        go_roundw
        case rel => exact ⟨k + 1, by omega, by go_num, ho6, hf6, hbT6, hB6⟩
        case measure => simp [intOf] <;> omega
      · obtain rfl : k = p.length := by omega
        clear hu
        go_wp2
        go_ret
        exact ⟨_, rfl, ho, fun b hb => Nat.le_of_succ_le (hf b hb), hbr⟩


theorem along_any (xs p : List Int) (u : Value) (w : World) (hg : Hid (Pan.Good xs)) (hu : OwnI w u p) (hp : Hid (∀ k ∈ p, 1 ≤ k ∧ k ≤ (xs.length : Int))) (hm : p.length ≤ 40) :
    Calls Try.prog 88 #[tw xs, .func (Fn.func 89) #[] #[], u] w fun e w' => ∃ r, e = .returned r ∧ Own w' 9 r (p.length + 1) (twN turnL xs p (p.length + 1)) ∧ From w.heap.size r ∧ Below w.heap.size w w' :=
  have hl9 := hg.out.le9
  alongS_any 89 turnL (fun q => q.length ≤ 9) xs p u w hl9 hu hp hm (fun args u => by go_simp) (Lib.hid fun k _ => by rw [StTo_turn, PlayTo_length]; exact hl9) (Lib.hid fun k => by rw [StTo_turn, PlayTo_length]) (Lib.hid fun ys k u h1 h2 => turned_any ys k u h1 h2)

end Go.Proofs.Ytlhagdldmpnbfaa

