import Derived.Test.YtdlnniciccpchaaI1
import Derived.Test.YtdlnniciccpchaaS3
import Derived.BigRegion
import Derived.Outline
namespace Go.Proofs.Ytdlnniciccpchaa
open Go Go.RowKit Go.Pan

theorem mid_set {α : Type} (pre X post : List α) (k : Nat) (u : α) (h : k < X.length) : (pre ++ X ++ post).set (pre.length + k) u = pre ++ X.set k u ++ post := by
  rw [List.append_assoc, List.set_append_right _ _ (by omega), Nat.add_sub_cancel_left, List.set_append_left _ _ h, List.append_assoc]
theorem mid_get {α : Type} (pre X post : List α) (k : Nat) (h : k < X.length) : (pre ++ X ++ post)[pre.length + k]? = some X[k] := by
  rw [List.append_assoc, List.getElem?_append_right (by omega), Nat.add_sub_cancel_left, List.getElem?_append_left h, List.getElem?_eq_getElem h]

set_option maxHeartbeats 800000 in
theorem Reverse_blk (g off n cap : Nat) (ty : TypeId) (pre post : List Value) (xs : List Int) (w : World) (hb : Blk w g ty (pre ++ xs.map iv ++ post)) (hoff : pre.length = off) (hn : xs.length = n) (hx : n ≤ 1048576) :
    Calls Try.prog 89 #[.slice (some ⟨g, off, none⟩) n cap] w fun e w' => e = .returned (.tuple #[]) ∧ Blk w' g ty (pre ++ xs.reverse.map iv ++ post) ∧ w.grownBy w' (some g) := by
  subst hoff
  subst hn
  go_enter Try.func89, Try.ntmps89
  go_wp2
  go_loopw [2, 3] (fun i j wr => ∃ k : Nat, 2 * k ≤ xs.length ∧ i = .int .i64 k ∧ j = .int .i64 ((xs.length : Int) - 1 - k) ∧ Blk wr g ty (pre ++ (swapped xs k).map iv ++ post) ∧ w.grownBy wr (some g)) (fun i _ _ => xs.length - (intOf i).toNat)
  case atStart => exact ⟨0, by omega, rfl, by go_num, by rw [swapped_zero]; exact hb, World.grownBy.refl _ _⟩
  case round =>
    obtain ⟨k, hk, rfl, rfl, hbl, hgr⟩ := hrel
    by_cases hlt : 2 * k + 1 < xs.length
    · obtain ⟨m, hm⟩ : ∃ m : Nat, m = xs.length - 1 - k := ⟨_, rfl⟩
      have hmi : (xs.length : Int) - 1 - k = (m : Int) := by omega
      have hkm : (k : Int) < (m : Int) := by omega
      have hmx : m < xs.length := by omega
      have hkx : k < xs.length := by omega
      have hcm := hbl.cell (pre.length + m)
      have hck := hbl.cell (pre.length + k)
      have hl : ((swapped xs k).map iv).length = xs.length := by rw [List.length_map, swapped_length]
      rw [mid_get _ _ _ _ (by rw [hl]; exact hmx)] at hcm
      rw [mid_get _ _ _ _ (by rw [hl]; exact hkx)] at hck
      have em : ((swapped xs k).map iv)[m]'(by rw [hl]; exact hmx) = iv (xs.getD m 0) := by
        simp only [swapped, List.getElem_map, List.getElem_range]; rw [if_neg (by omega)]
      have ek : ((swapped xs k).map iv)[k]'(by rw [hl]; exact hkx) = iv (xs.getD k 0) := by
        simp only [swapped, List.getElem_map, List.getElem_range]; rw [if_neg (by omega)]
      rw [em] at hcm
      rw [ek] at hck
      have hfm := hbl.frozen (pre.length + m)
      have hfk := hbl.frozen (pre.length + k)
      have hst := (hbl.set (pre.length + k) (iv (xs.getD m 0))).set (pre.length + m) (iv (xs.getD k 0))
      have hmm := Lib.hid hm
      have HMI := Lib.hid hmi
      have hgr2 := grown_set (off := 0) (n := 0) (cap := 0) (grown_set (off := 0) (n := 0) (cap := 0) hgr (pre.length + k) (iv (xs.getD m 0))) (pre.length + m) (iv (xs.getD k 0))
      rw [mid_set _ _ _ _ _ (by rw [hl]; exact hkx), mid_set _ _ _ _ _ (by rw [List.length_set, hl]; exact hmx), ← List.map_set, ← List.map_set, hm, swapped_step xs k hlt, ← hm] at hst
      obtain ⟨v', hy'⟩ := cell?_setCell_some (w := wr) (p := ⟨g, pre.length + k, none⟩) (x := iv (xs.getD m 0)) (q := ⟨g, pre.length + m, none⟩) (v := iv (xs.getD m 0)) hcm
      obtain ⟨a, ha⟩ : ∃ a, xs.getD k 0 = a := ⟨_, rfl⟩
      obtain ⟨b, hb'⟩ : ∃ b, xs.getD m 0 = b := ⟨_, rfl⟩
      rw [ha, hb'] at hst hgr2
      rw [ha] at hck
      rw [hb'] at hcm hy'
      rw [hmi]
      clear hbl hgr hl em ek hm hmi ha hb'
      go_wp2
      go_region
      go_wp2
      go_roundw
      case rel => exact ⟨k + 1, by omega, by go_num, by have := HMI.out; go_num, hst.drew, hgr2.drew1⟩
      case measure => simp [intOf] <;> omega
    · have hge : ((xs.length : Int) - 1 - k) ≤ (k : Int) := by omega
      rw [swapped_all xs k (by omega)] at hbl
      go_wp2
      go_end0
      exact ⟨rfl, hbl, hgr⟩

theorem Own.blk {w : World} {ad : Option Addr} {n cap : Nat} {xs : List Int} (h : Own w 1 (.slice ad n cap) n (xs.map iv)) (hc : 0 < cap) :
    ∃ g off ty pre post, ad = some ⟨g, off, none⟩ ∧ Blk w g ty (pre ++ xs.map iv ++ post) ∧ pre.length = off ∧ off + cap ≤ (pre ++ xs.map iv ++ post).length := by
  obtain ⟨ad', cap', hv, h1, h2, h3, h4, h⟩ := h
  simp only [Value.slice.injEq, true_and] at hv
  obtain ⟨rfl, rfl⟩ := hv
  cases ad with
  | none => have := h4 rfl; omega
  | some a =>
    obtain ⟨hs, cur, ty, hh, r, hcc⟩ := h a rfl
    obtain ⟨g, off, sp⟩ := a
    simp only at hs hh r hcc
    subst hs
    have hmid : (cur.toList.drop off).take n = xs.map iv := by
      apply List.ext_getElem?
      intro j
      rw [List.getElem?_take, List.getElem?_drop]
      by_cases hj : j < n
      · rw [if_pos hj]
        have := hcc j (by omega)
        rw [← this]
        simp
      · rw [if_neg hj, List.getElem?_eq_none (by rw [h1]; omega)]
    have hall : cur.toList.take off ++ xs.map iv ++ cur.toList.drop (off + n) = cur.toList := by
      rw [← hmid, List.append_assoc, ← List.drop_drop, List.take_append_drop, List.take_append_drop]
    refine ⟨g, off, ty, cur.toList.take off, cur.toList.drop (off + n), rfl, ?_, ?_, ?_⟩
    · unfold Blk; rw [hall]; exact hh
    · rw [List.length_take, Array.length_toList]; omega
    · rw [hall, Array.length_toList]; omega

theorem Own.of_blk {w : World} {g off n cap : Nat} {ty : TypeId} {pre post : List Value} {xs : List Int} (h : Blk w g ty (pre ++ xs.map iv ++ post)) (ho : pre.length = off) (hn : xs.length = n) (hc : n ≤ cap) (hm : cap ≤ maxLen) (hl : off + cap ≤ (pre ++ xs.map iv ++ post).length) :
    Own w 1 (.slice (some ⟨g, off, none⟩) n cap) n (xs.map iv) := by
  subst ho
  subst hn
  refine ⟨_, cap, rfl, by simp, hc, hm, by simp, fun a ha => ?_⟩
  cases ha
  refine ⟨rfl, _, ty, h, by simpa using hl, fun j hj => ?_⟩
  simp only [List.getElem?_toArray]
  rw [List.append_assoc, List.getElem?_append_right (by omega), Nat.add_sub_cancel_left, List.getElem?_append_left (by simpa using hj)]

/-- 'slices.Reverse' of a list of one's own -/
theorem Reverse_any (v : Value) (xs : List Int) (w : World) (hv : OwnI w v xs) (hx : xs.length ≤ 1048576) :
    Calls Try.prog 89 #[v] w fun e w' => e = .returned (.tuple #[]) ∧ OwnI w' v xs.reverse ∧ w.grownBy w' v.ownBlock := by
  obtain ⟨ad, cap, rfl, hc, hm, hnil⟩ := hv.shape
  by_cases h0 : 0 < cap
  · obtain ⟨g, off, ty, pre, post, rfl, hb, hp, hl⟩ := Own.blk hv h0
    refine (Reverse_blk g off xs.length cap ty pre post xs w hb hp rfl hx).mono ?_
    rintro e w' ⟨he, hb', hg⟩
    refine ⟨he, ?_, hg⟩
    unfold OwnI
    rw [List.length_reverse]
    exact Own.of_blk hb' hp (by simp) hc hm (by simpa using hl)
  · obtain rfl : cap = 0 := by omega
    have hl0 : xs.length = 0 := by omega
    obtain rfl : xs = [] := List.eq_nil_of_length_eq_zero hl0
    clear hl0 h0
    go_enter Try.func89, Try.ntmps89
    go_wp2
    refine wp_loop_rounds 1 ?_
    rw [rounds_succ]
    go_wp2
    go_end0
    exact ⟨rfl, hv, World.grownBy.refl _ _⟩

/-- 'slices.Clip' -/
theorem Clip_any (v : Value) (xs : List Int) (w : World) (hv : OwnI w v xs) :
    Calls Try.prog 85 #[v] w fun e w' => ∃ r, e = .returned r ∧ OwnI w r xs ∧ r.ownBlock = v.ownBlock ∧ w = w' := by
  obtain ⟨ad, cap, rfl, hc, hm, hnil⟩ := hv.shape
  go_enter Try.func85, Try.ntmps85
  go_wp2
  go_ret
  exact ⟨.slice ad xs.length xs.length, rfl, Own.clip hv, by cases ad <;> rfl, rfl⟩

theorem splice_twl (xs : List Int) (_h : xs.length ≤ 9) : splice (twl []) 0 (xs.map iv) = twl xs := by
  unfold splice twl
  simp only [List.take_zero, List.nil_append, List.length_nil, Nat.sub_zero, List.length_map, Nat.zero_add, List.map_append, List.map_replicate, List.drop_replicate]

theorem Try.infoI : (Try.prog.info? 3).map (·.size) = some 1 := by kernel_rfl

set_option maxHeartbeats 400000 in
theorem towerOf_any (v : Value) (xs : List Int) (w : World) (hv : OwnI w v xs) (h9 : xs.length ≤ 9) :
    Calls Try.prog 33 #[v] w fun e w' => e = .returned (tw xs) ∧ Below w.heap.size w w' := by
  obtain ⟨ad, cap, rfl, hc, hm, hnil⟩ := hv.shape
  have hsrc := ((Own.src hv).alloc (.cells (twl []).toArray 52)).alloc (.cells (twl []).toArray 52)
  have hz : Blk ((w.alloc (.cells (twl []).toArray 52)).alloc (.cells (twl []).toArray 52)) w.heap.size 52 (twl []) := (Blk.new w _ (twl []) _ rfl).alloc _
  have ho : Blk ((w.alloc (.cells (twl []).toArray 52)).alloc (.cells (twl []).toArray 52)) (w.heap.size + 1) 52 (twl []) := Blk.new _ _ (twl []) _ (by simp)
  have hb0 : Below w.heap.size w ((w.alloc (.cells (twl []).toArray 52)).alloc (.cells (twl []).toArray 52)) := ((Below.refl _ _).alloc (Nat.le_refl _) _).alloc (by simp) _
  have hmin : (xs.map iv).length = Nat.min xs.length 9 := by rw [List.length_map]; exact (Nat.min_eq_left h9).symm
  have hon : ∀ v ∈ xs.map iv, v.oneCell' = true := by simp [Value.oneCell']
  have hfit : 0 + (xs.map iv).length ≤ (twl []).length := by simp [twl]; omega
  have HS := Lib.hid (splice_twl xs h9)
  have hpos : 0 < (xs.map iv).length → (some (⟨w.heap.size + 1, 0, none⟩ : Addr)) = some ⟨w.heap.size + 1, 0, none⟩ ∧ ∃ a, ad = some a ∧ ∀ j v, (xs.map iv)[j]? = some v → ((w.alloc (.cells (twl []).toArray 52)).alloc (.cells (twl []).toArray 52)).cell? (a.add j) = some v := by
    intro h0
    rcases hsrc with ⟨_, h, _⟩ | ⟨a, ha, h⟩
    · simp at h0; omega
    · exact ⟨rfl, a, ha, h⟩
  have H1 := Lib.hid hmin
  have H2 := Lib.hid hon
  have H3 := Lib.hid hpos
  have H4 := Lib.hid hfit
  clear hmin hon hpos hsrc hfit
  go_enter Try.func33, Try.ntmps33
  go_wp2_with (refine wpList_copy_splice rfl _ _ _ _ rfl 3 Try.underlying24 Try.infoI _ _ _ _ _ _ rfl rfl (w.heap.size + 1) 0 (twl []) 52 ho (xs.map iv) H1.out H3.out H4.out H2.out (w.heap.size + 1) _ (Below.refl _ _) (Nat.le_refl _) ?_)
  intro w' HG hb'
  have hg2 := HG.out
  rw [HS.out] at hg2
  have ho2 : Blk w' (w.heap.size + 1) 52 (twl xs) := hg2
  have hz2 := hz.below hb' (by omega)
  have hb2 := hb0.trans (hb'.mono (by omega))
  clear hg2 HG HS ho hz hb' hb0
  have h9' := twl_length xs h9
  have hz9 : (twl []).length = 9 := by simp [twl]
  have hs : (Try.prog.info? 52).map (·.size) = some (twl xs).toArray.size := by rw [Try.infoT]; simp [h9']
  have h0 : ((twl []).toArray).size = (twl xs).toArray.size := by simp [h9', hz9]
  have hon : (twl xs).toArray.all (·.oneCell') = true := by simp [twl, Value.oneCell']
  have hr := hz2.setRow (twl xs)
  have hb3 := below_setRow hb2 (Nat.le_refl w.heap.size) (twl xs).toArray
  have HS := Lib.hid h9'
  clear h9' hz9
  go_wp2_with (first | (refine wpList_load_row rfl 52 _ rfl (w.heap.size + 1) rfl 52 _ _ _ ho2 Try.underlying52 rfl hs ?_) | (refine wpList_store_row rfl 52 _ _ rfl w.heap.size (twl xs).toArray rfl rfl 52 _ hz2 hs h0 hon ?_))
  exact bodyPost_ret (results_cell_row rfl _ _ w.heap.size 52 _ _ _ rfl hr Try.underlying52 rfl hs) rfl ⟨rfl, hb3⟩

theorem tw_mid (xs : List Int) (k : Nat) (hk : k ≤ xs.length) :
    twl xs = [] ++ (xs.take k).map iv ++ (twl xs).drop k ∧ [] ++ (xs.take k).reverse.map iv ++ (twl xs).drop k = twl (turnL xs k) := by
  constructor
  · conv => lhs; rw [← List.take_append_drop k (twl xs)]
    rw [List.nil_append]
    congr 1
    unfold twl
    rw [← List.map_take, List.take_append_of_le_length hk]
  · unfold twl
    rw [List.nil_append, ← List.map_drop, ← List.map_append, turnL_length, List.drop_append_of_le_length hk, ← List.append_assoc]
    rfl

set_option maxHeartbeats 400000 in
theorem turned_any (xs : List Int) (k : Nat) (w : World) (h9 : xs.length ≤ 9) (hk : k ≤ xs.length) :
    Calls Try.prog 73 #[tw xs, .int .i64 k] w fun e w' => e = .returned (tw (turnL xs k)) ∧ Below w.heap.size w w' := by
  have hbx : Blk ((w.alloc (.cells (twl xs).toArray 52)).alloc (.cells (twl []).toArray 52)) w.heap.size 52 (twl xs) := (Blk.new w _ (twl xs) _ rfl).alloc _
  have hz : Blk ((w.alloc (.cells (twl xs).toArray 52)).alloc (.cells (twl []).toArray 52)) (w.heap.size + 1) 52 (twl []) := Blk.new _ _ (twl []) _ (by simp)
  have hb0 : Below w.heap.size w ((w.alloc (.cells (twl xs).toArray 52)).alloc (.cells (twl []).toArray 52)) := ((Below.refl _ _).alloc (Nat.le_refl _) _).alloc (by simp) _
  have hm := tw_mid xs k hk
  have h9t : (twl xs).length = 9 := twl_length xs h9
  have hs0 : (Try.prog.info? 52).map (·.size) = some (twl xs).toArray.size := by rw [Try.infoT]; simp [h9t]
  have hbx2 : Blk ((w.alloc (.cells (twl xs).toArray 52)).alloc (.cells (twl []).toArray 52)) w.heap.size 52 ([] ++ (xs.take k).map iv ++ (twl xs).drop k) := by rw [← hm.1]; exact hbx
  have HM := Lib.hid hm.2
  have hk9 : (k : Int) ≤ 9 := by omega
  have htk : (xs.take k).length = k := by rw [List.length_take]; omega
  have H1 := Lib.hid htk
  clear hm hbx htk
  go_enter Try.func73, Try.ntmps73
  go_wp2_with fail
  refine (Reverse_blk w.heap.size 0 k 9 52 [] ((twl xs).drop k) (xs.take k) _ hbx2 rfl H1.out (by omega)).mono ?_
  rintro e w2 ⟨rfl, hb2, hg2⟩
  rw [HM.out] at hb2
  have hz2 := hz.grown hg2 (by simp)
  have hB2 := hb0.grown hg2 hb0.size (fun k hk => by simp at hk; omega)
  have h9' : (twl (turnL xs k)).length = 9 := twl_length _ (by rw [turnL_length]; exact h9)
  have hz9 : (twl []).length = 9 := by simp [twl]
  have hs : (Try.prog.info? 52).map (·.size) = some (twl (turnL xs k)).toArray.size := by rw [Try.infoT]; simp [h9']
  have h0 : ((twl []).toArray).size = (twl (turnL xs k)).toArray.size := by simp [h9', hz9]
  have hon : (twl (turnL xs k)).toArray.all (·.oneCell') = true := by simp [twl, Value.oneCell']
  have hr := hz2.setRow (twl (turnL xs k))
  have hb3 := below_setRow hB2 (by omega : w.heap.size ≤ w.heap.size + 1) (twl (turnL xs k)).toArray
  have HS := Lib.hid h9'
  have HT := Lib.hid h9t
  clear h9' hz9 h9t hs0 HM hz hb0 hg2 hB2 hbx2
  go_wp2_with (first | (refine wpList_load_row rfl 52 _ rfl w.heap.size rfl 52 _ _ _ hb2 Try.underlying52 rfl hs ?_) | (refine wpList_store_row rfl 52 _ _ rfl (w.heap.size + 1) (twl (turnL xs k)).toArray rfl rfl 52 _ hz2 hs h0 hon ?_))
  exact bodyPost_ret (results_cell_row rfl _ _ (w.heap.size + 1) 52 _ _ _ rfl hr Try.underlying52 rfl hs) rfl ⟨rfl, hb3⟩

theorem splice_made (xs : List Int) : splice (List.replicate xs.length (iv 0)) 0 (xs.map iv) = xs.map iv := by
  unfold splice
  simp

set_option maxHeartbeats 400000 in
theorem list_any (xs : List Int) (n : Nat) (w : World) (hn : xs.length = n) (h9 : n ≤ 9) :
    Calls Try.prog 44 #[tw xs, .int .i64 n] w fun e w' => ∃ r, e = .returned r ∧ OwnI w' r xs ∧ From w.heap.size r ∧ Below w.heap.size w w' := by
  subst hn
  obtain ⟨i0, hi, hz0, hz1, hz2⟩ := info_parts Try.info3
  have hbx : Blk (w.alloc (.cells (twl xs).toArray 52)) w.heap.size 52 (twl xs) := Blk.new w _ (twl xs) _ rfl
  have hb0 := below_new w (.cells (twl xs).toArray 52)
  have h9t : (twl xs).length = 9 := twl_length xs h9
  have HT := Lib.hid h9t
  clear h9t
  go_enter Try.func44, Try.ntmps44
  go_wp2_with (at_make; refine wpList_make_full _ rfl _ _ 24 rfl (w.heap.size + 1) 3 i0 (.int .i64 0) 1 Try.underlying24 hi hz0 hz1 _ _ _ _ xs.length rfl rfl rfl rfl ?b1 ?b2 ?b3 ?_)
  case b1 => rw [hz2]; omega
  case b2 => unfold maxLen; omega
  case b3 => simp
  intro w1 hown hgrow
  have hrow := Blk.of_row hown
  have hro : Blk w1 (w.heap.size + 1) 3 (List.replicate xs.length (iv 0)) := by simpa [toList_madeCells_one] using hrow.1
  have hbx1 := hbx.grown hgrow (by simp)
  have hb1 := hb0.grown hgrow hb0.size (fun k hk => by simp at hk)
  have hmin : (xs.map iv).length = Nat.min 9 xs.length := by rw [List.length_map]; exact (Nat.min_eq_right h9).symm
  have hon : ∀ v ∈ xs.map iv, v.oneCell' = true := by simp [Value.oneCell']
  have hfit : 0 + (xs.map iv).length ≤ (List.replicate xs.length (iv 0)).length := by simp
  have hpos : 0 < (xs.map iv).length → (some (⟨w.heap.size + 1, 0, none⟩ : Addr)) = some ⟨w.heap.size + 1, 0, none⟩ ∧ ∃ a, (some (⟨w.heap.size, 0, none⟩ : Addr)) = some a ∧ ∀ j v, (xs.map iv)[j]? = some v → w1.cell? (a.add j) = some v := by
    intro h0
    refine ⟨rfl, _, rfl, fun j u hj => ?_⟩
    have hjl : j < (xs.map iv).length := (List.getElem?_eq_some_iff.1 hj).1
    rw [Addr.add_lit, hbx1.cell, Nat.zero_add]
    unfold twl
    rw [List.map_append, List.getElem?_append_left hjl]
    exact hj
  have HS := Lib.hid (splice_made xs)
  have H1 := Lib.hid hmin
  have H2 := Lib.hid hon
  have H3 := Lib.hid hpos
  have H4 := Lib.hid hfit
  clear hmin hon hpos hfit hrow hown hgrow hbx hb0 hi hz0 hz1 hz2 hbx1
  go_wp2_with (refine wpList_copy_splice rfl _ _ _ _ rfl 3 Try.underlying24 Try.infoI _ _ _ _ _ _ rfl rfl (w.heap.size + 1) 0 (List.replicate xs.length (iv 0)) 3 hro (xs.map iv) H1.out H3.out H4.out H2.out w.heap.size w hb1 (by omega) ?_)
  intro w' HG hb'
  have hg2 := HG.out
  rw [HS.out] at hg2
  have ho2 : OwnI w' (.slice (some ⟨w.heap.size + 1, 0, none⟩) xs.length xs.length) xs := OwnI.of_blk0 hg2 rfl (by omega)
  clear hg2 HG hro
  go_wp2
  go_ret
  exact ⟨_, rfl, ho2, From.at _ _ _ _ _ (by omega), hb'⟩

set_option maxHeartbeats 400000 in
theorem played_any (v : Value) (xs p : List Int) (w : World) (h9 : xs.length ≤ 9) (hv : OwnI w v p) (hp : Hid (∀ k ∈ p, 1 ≤ k ∧ k ≤ (xs.length : Int))) (hm : p.length ≤ 1048576) :
    Calls Try.prog 43 #[tw xs, v] w fun e w' => e = .returned (tw (playL xs p)) ∧ Below w.heap.size w w' := by
  obtain ⟨ad, cap, rfl, hc, _, _⟩ := hv.shape
  have hbx : Blk ((w.alloc (.cells (twl xs).toArray 52)).alloc (.cells (twl []).toArray 52)) w.heap.size 52 (twl xs) := (Blk.new w _ (twl xs) _ rfl).alloc _
  have hz : Blk ((w.alloc (.cells (twl xs).toArray 52)).alloc (.cells (twl []).toArray 52)) (w.heap.size + 1) 52 (twl []) := Blk.new _ _ (twl []) _ (by simp)
  have hb0 : Below w.heap.size w ((w.alloc (.cells (twl xs).toArray 52)).alloc (.cells (twl []).toArray 52)) := ((Below.refl _ _).alloc (Nat.le_refl _) _).alloc (by simp) _
  have h9t : (twl xs).length = 9 := twl_length xs h9
  have HT := Lib.hid h9t
  clear h9t
  go_enter Try.func43, Try.ntmps43
  go_wp2
  go_loopw [6, 9] (fun _ i wr => ∃ k : Nat, k ≤ p.length ∧ i = .int .i64 k ∧ Blk wr w.heap.size 52 (twl (PlayTo xs p k)) ∧ Blk wr (w.heap.size + 1) 52 (twl []) ∧ Below w.heap.size w wr) (fun _ i _ => p.length - (intOf i).toNat)
  case atStart => exact ⟨0, Nat.zero_le _, rfl, hbx, hz, hb0⟩
  case round =>
    obtain ⟨k, hk, rfl, ho, hz, hbr⟩ := hrel
    by_cases hlt : k < p.length
    · obtain ⟨g, off, rfl, hgl, hcell, hfz⟩ := hv.at (by omega)
      have hck := hcell k (by omega)
      rw [List.getElem?_map, List.getElem?_eq_getElem hlt] at hck
      have hc1 := (hbr.cell (p := ⟨g, off + k, none⟩) hgl).trans hck
      have hin := hp.out _ (List.getElem_mem hlt)
      obtain ⟨j, hj⟩ : ∃ j : Nat, p[k] = (j : Int) := ⟨p[k].toNat, by omega⟩
      have hjl : j ≤ (PlayTo xs p k).length := by rw [PlayTo_length]; omega
      have hl9 : (PlayTo xs p k).length ≤ 9 := by rw [PlayTo_length]; exact h9
      have HS := Lib.hid (PlayTo_step xs p k hlt j hj)
      have hc2 : wr.cell? ⟨g, off + k, none⟩ = some (iv (j : Int)) := by rw [hc1, ← hj]; rfl
      have h9a : (twl (PlayTo xs p k)).length = 9 := twl_length _ hl9
      have h9b : (twl (PlayTo xs p (k + 1))).length = 9 := twl_length _ (by rw [PlayTo_length]; exact h9)
      have hs : (Try.prog.info? 52).map (·.size) = some (twl (PlayTo xs p k)).toArray.size := by rw [Try.infoT]; simp [h9a]
      have hs2 : (Try.prog.info? 52).map (·.size) = some (twl (PlayTo xs p (k + 1))).toArray.size := by rw [Try.infoT]; simp [h9b]
      have h0 : ((twl (PlayTo xs p k)).toArray).size = (twl (PlayTo xs p (k + 1))).toArray.size := by simp [h9a, h9b]
      have hon : (twl (PlayTo xs p (k + 1))).toArray.all (·.oneCell') = true := by simp [twl, Value.oneCell']
      have hgl2 : w.heap.size < wr.heap.size := ho.lt
      have H9a := Lib.hid h9a
      have H9b := Lib.hid h9b
      clear hcell hfz hck hc1 hv hj hin h9a h9b hbx hb0
      go_wp2_with (first | (refine wpList_load_row rfl 52 _ rfl w.heap.size rfl 52 _ _ _ ho Try.underlying52 rfl hs ?_))
      refine (turned_any _ _ _ hl9 hjl).mono ?_
      rintro e w2 ⟨rfl, hb2⟩
      rw [HS.out]
      have ho2 := ho.below hb2 hgl2
      have hz2 := hz.below hb2 hz.lt
      have hB2 := hbr.trans (hb2.mono hbr.size)
      have hr := ho2.setRow (twl (PlayTo xs p (k + 1)))
      have hz3 : Blk (w2.setRow w.heap.size (twl (PlayTo xs p (k + 1))).toArray) (w.heap.size + 1) 52 (twl []) := by
        unfold Blk; rw [setRow_other w2 _ _ _ (by omega)]; exact hz2
      have hB3 := below_setRow hB2 (Nat.le_refl w.heap.size) (twl (PlayTo xs p (k + 1))).toArray
      clear ho hz hbr hb2 hz2 hB2 HS
      go_wp2_with (first | (refine wpList_store_row rfl 52 _ _ rfl w.heap.size (twl (PlayTo xs p (k + 1))).toArray rfl rfl 52 _ ho2 hs2 h0 hon ?_))
      go_roundw
      case rel => exact ⟨k + 1, by omega, by go_num, hr, hz3, hB3⟩
      case measure => simp [intOf] <;> omega
    · obtain rfl : k = p.length := by omega
      have he : PlayTo xs p p.length = playL xs p := by unfold PlayTo; rw [List.take_length]
      rw [he] at ho
      have h9' : (twl (playL xs p)).length = 9 := twl_length _ (by rw [playL_length]; exact h9)
      have hz9 : (twl []).length = 9 := by simp [twl]
      have hs : (Try.prog.info? 52).map (·.size) = some (twl (playL xs p)).toArray.size := by rw [Try.infoT]; simp [h9']
      have h0 : ((twl []).toArray).size = (twl (playL xs p)).toArray.size := by simp [h9', hz9]
      have hon : (twl (playL xs p)).toArray.all (·.oneCell') = true := by simp [twl, Value.oneCell']
      have hr := hz.setRow (twl (playL xs p))
      have hb3 := below_setRow hbr (by omega : w.heap.size ≤ w.heap.size + 1) (twl (playL xs p)).toArray
      have HS := Lib.hid h9'
      clear h9' hz9 he hv hbx hb0
      go_wp2_with (first | (refine wpList_load_row rfl 52 _ rfl w.heap.size rfl 52 _ _ _ ho Try.underlying52 rfl hs ?_) | (refine wpList_store_row rfl 52 _ _ rfl (w.heap.size + 1) (twl (playL xs p)).toArray rfl rfl 52 _ hz hs h0 hon ?_))
      exact bodyPost_ret (results_cell_row rfl _ _ (w.heap.size + 1) 52 _ _ _ rfl hr Try.underlying52 rfl hs) rfl ⟨rfl, hb3⟩

end Go.Proofs.Ytdlnniciccpchaa

