import Derived.Test.YtkeenoklghkonaaV23
import Derived.Test.YtkeenoklghkonaaQ4
namespace Go.Pan
open Go Go.RowKit
-- the counts by distance
/-- among the first k of the places found, those far e, for e below m -/
def dcnt (m : Nat) (Q : List Nat) (k : Nat) : List Int := (List.range m).map fun e => (((Q.take k).countP fun r => decide ((sgBd m).d r = e) : Nat) : Int)
theorem dcnt_length (m : Nat) (Q : List Nat) (k : Nat) : (dcnt m Q k).length = m := by simp [dcnt]
theorem dcnt_zero (m : Nat) (Q : List Nat) : dcnt m Q 0 = List.replicate m 0 := by
  simp only [dcnt, List.take_zero, List.countP_nil]
  rw [List.map_const', List.length_range]
  rfl
theorem dcnt_get {m : Nat} {Q : List Nat} {k e : Nat} (h : e < m) : (dcnt m Q k)[e]? = some ((((Q.take k).countP fun r => decide ((sgBd m).d r = e) : Nat) : Int)) := by
  simp [dcnt, h]
theorem dcnt_set {m : Nat} {Q : List Nat} {k x : Nat} (hx : Q[k]? = some x) : (dcnt m Q k).set ((sgBd m).d x) ((((Q.take k).countP fun r => decide ((sgBd m).d r = (sgBd m).d x) : Nat) : Int) + 1) = dcnt m Q (k + 1) := by
  obtain ⟨hk, e0⟩ := List.getElem?_eq_some_iff.1 hx
  apply List.ext_getElem (by simp [dcnt])
  intro i h1 h2
  simp only [dcnt, List.getElem_set, List.getElem_map, List.getElem_range]
  rw [List.take_succ_eq_append_getElem hk, List.countP_append, e0]
  by_cases e : (sgBd m).d x = i
  · subst e
    simp
  · rw [if_neg e]
    simp [e]
theorem allS_un' (m : Nat) : allS m = (List.range (fact m)).map (unrank m) := by
  apply List.ext_getElem (by simp [allS_length])
  intro i h1 h2
  have hi : i < fact m := by simpa using h2
  have h := unrank_get hi
  rw [List.getElem?_eq_getElem h1] at h
  simpa using Option.some.inj h
theorem sby_gby {m : Nat} (h1 : 1 ≤ m) (h6 : m ≤ 6) : sbyL m = gbyL (sG m) (ramp 1 m) := by
  unfold sbyL gbyL
  rw [gecc_seg h1 h6, show m - 1 + 1 = m by omega]
theorem dcnt_all {m : Nat} (h1 : 1 ≤ m) (h6 : m ≤ 6) {Q : List Nat} (h : SQ (sgBd m) Q Q.length) : dcnt m Q Q.length = sbyL m := by
  unfold dcnt sbyL
  refine List.map_congr_left fun e _ => ?_
  have hp : Q.Perm (List.range (fact m)) := (List.perm_ext_iff_of_nodup h.nodup List.nodup_range).2 fun r =>
    ⟨fun hr => List.mem_range.2 (h.lt r hr), fun hr => h.all (sgBd_ok h1 h6) _ r (List.mem_range.1 hr) rfl⟩
  rw [List.take_length, hp.countP_eq]
  unfold gbyN
  show _ = ((((allS m).countP fun q => decide (0 < gnearC (sG m) (ramp 1 m) e q) : Nat)) : Int)
  rw [allS_un', List.countP_map]
  refine congrArg _ (List.countP_congr fun r hr => ?_)
  have hst := unrank_st h1 (by omega) (List.mem_range.1 hr)
  have := gnearC_pos (sG_ok h1 h6) (show (sG m).St (ramp 1 m) from St.ramp m h1 (by omega)) (i := e) (show (sG m).St (unrank m r) from hst)
  simp only [decide_eq_true_eq, Function.comp_apply]
  rw [this]
  exact Iff.rfl
theorem sgBd_lt {m : Nat} (h1 : 1 ≤ m) (h6 : m ≤ 6) {r : Nat} (h : r < fact m) : (sgBd m).d r < m := by
  have := (gfar_spec (sG_ok h1 h6) (show (sG m).St (ramp 1 m) from St.ramp m h1 (by omega)) (show (sG m).St _ from unrank_st h1 (by omega) h)).2.1
  have e : (sG m).dm = m - 1 := rfl
  show gfar (sG m) (ramp 1 m) (unrank m r) < m
  omega
/-- the place at which a stack is found -/
theorem found_far {m : Nat} (h1 : 1 ≤ m) (h6 : m ≤ 6) {Q : List Nat} (h : SQ (sgBd m) Q Q.length) {ord : List Nat} (ho : Ord (Go.Proofs.Ytkeenoklghkonaa.Cd m Q) ord) {xs : List Int} (hst : St m xs) {lo : Nat} (hlo : lo ≤ ord.length)
    (hA : ∀ j, j < lo → Go.Proofs.Ytkeenoklghkonaa.keyAt ord (Go.Proofs.Ytkeenoklghkonaa.Cd m Q) j < codeL xs) (hB : ∀ j, lo ≤ j → j < ord.length → codeL xs ≤ Go.Proofs.Ytkeenoklghkonaa.keyAt ord (Go.Proofs.Ytkeenoklghkonaa.Cd m Q) j) :
    ∃ hl : lo < ord.length, Q[ord[lo]]? = some (rankL xs) ∧ (sgBd m).d (rankL xs) = gfar (sG m) xs (ramp 1 m) := by
  have hr : rankL xs < fact m := by have := rankL_lt xs; rwa [hst.2] at this
  have hun := unrank_rank h1 (by omega) hst
  have hQ := h.all (sgBd_ok h1 h6) _ (rankL xs) hr rfl
  have hm : codeL xs ∈ Go.Proofs.Ytkeenoklghkonaa.Cd m Q := List.mem_map.2 ⟨rankL xs, hQ, by rw [hun]⟩
  obtain ⟨hl, hk⟩ := ho.found hlo hA hB hm
  have hc := ho.lt _ (List.getElem_mem hl)
  rw [keyAt_get hl hc] at hk
  have hq : ord[lo] < Q.length := by rwa [Go.Proofs.Ytkeenoklghkonaa.Cd_length] at hc
  refine ⟨hl, ?_, sgBd_d h1 h6 hst⟩
  have hk2 : codeL (unrank m (Q[ord[lo]])) = codeL xs := by
    rw [← hk]; simp [Go.Proofs.Ytkeenoklghkonaa.Cd]
  have hlt := h.lt _ (List.getElem_mem hq)
  have s1 := unrank_st h1 (by omega) hlt
  have hb : ∀ q, St m q → ∀ y ∈ q, 1 ≤ y ∧ y ≤ 6 := fun q hq y hy => by have := hq.1.2.2.1 y hy; have := hq.2; omega
  have e := codeL_inj (by rw [s1.2, hst.2]) (hb _ s1) (hb _ hst) hk2
  have e2 : rankL (unrank m (Q[ord[lo]])) = rankL xs := by rw [e]
  rw [rank_unrank hlt] at e2
  rw [List.getElem?_eq_getElem hq, e2]
end Go.Pan
namespace Go.Proofs.Ytkeenoklghkonaa
open Go Go.RowKit Go.Pan

set_option maxRecDepth 100000 in
theorem sgSmall_any (v : Value) (xs : List Int) (w : World) (hv : OwnI w v xs) (hn : xs.length ≤ 1048576) :
    Calls Try.prog 85 #[v] w fun e w' => e = .returned (.bool (sfewB xs)) ∧ Below w.heap.size w w' := by
  obtain ⟨a0, c0, rfl, _, _, _⟩ := hv.shape
  have c := stGood_any _ xs w hv hn
  cases hg : goodB xs with
  | true =>
    rw [hg] at c
    have HG := Lib.hid hg
    have h9 : xs.length ≤ 9 := (goodB_iff.1 hg).le9
    have h0 : 1 ≤ xs.length := (goodB_iff.1 hg).1
    have HR := Lib.hid (show sfewB xs = decide ((xs.length : Int) ≤ 6) by
      unfold sfewB inB
      rw [hg, Bool.true_and, decide_eq_true (show (1 : Int) ≤ (xs.length : Int) by omega), Bool.true_and])
    clear hg
    go_enter Try.func85, Try.ntmps85
    go_wp2_with fail
    refine (c).mono ?_
    rintro e w1 ⟨rfl, hb⟩
    go_wp2
    go_ret
    exact ⟨by rw [HR.out]; rfl, hb⟩
  | false =>
    rw [hg] at c
    have HR := Lib.hid (show sfewB xs = false by unfold sfewB; rw [hg, Bool.false_and])
    clear hg
    go_enter Try.func85, Try.ntmps85
    go_wp2_with fail
    refine (c).mono ?_
    rintro e w1 ⟨rfl, hb⟩
    go_wp2
    go_ret
    exact ⟨by rw [HR.out]; rfl, hb⟩

set_option maxHeartbeats 4000000 in
set_option maxRecDepth 100000 in
theorem sgDistance_any (m B : Nat) (bl : Nat) (a f t o : Nat × Nat) (Q : List Nat) (S : List Value) (ord : List Nat) (tv v : Value) (xs : List Int) (w : World) (h1 : 1 ≤ m) (h6 : m ≤ 6) (hQ : FQ m B w bl a f t o Q S ord tv) (hSQ : Hid (SQ (sgBd m) Q Q.length)) (hv : OwnI w v xs) (hst : Hid (St m xs)) :
    Calls Try.prog 87 #[.pointer (some ⟨bl, 0, none⟩), sl o (Od ord).length, v] w fun e w' => e = .returned (.int .i64 (gfar (sG m) xs (ramp 1 m) : Nat)) ∧ Below w.heap.size w w' := by
  have HBX := Lib.hid (show ∀ y ∈ xs, 1 ≤ y ∧ y ≤ 6 from fun y hy => by have := hst.out.1.2.2.1 y hy; have := hst.out.2; omega)
  have hx6 : xs.length ≤ 6 := by rw [hst.out.2]; exact h6
  have hfm := fact_le (n := m) (by omega)
  have hQN : Q.length ≤ fact m := hSQ.out.length_le
  have hQl := hQ.lens
  have hcl : (Cd m Q).length ≤ 1048576 := by rw [Cd_length]; omega
  have hol : ord.length ≤ 1048576 := by rw [hQl.2]; omega
  have HLT := Lib.hid hQ.or.lt
  have HMO := Lib.hid hQ.or.mono
  obtain ⟨c0, c1, c2⟩ := hQ.fs.fields
  obtain ⟨l0, l1, l2, l3, l4⟩ := hQ.fs.lts
  obtain ⟨av, cv, rfl, _, _, _⟩ := hv.shape
  have HQL := Lib.hid hQl
  obtain ⟨D, hD⟩ : ∃ D, gfar (sG m) xs (ramp 1 m) = D := ⟨_, rfl⟩
  have HD := Lib.hid hD
  rw [hD]
  clear hQl hD
  go_enter Try.func87, Try.ntmps87
  go_wp2_with fail
  refine wp_region_held_drew (S := (fun w' => w'.cell? ⟨bl, 0, none⟩ = some (sl a (Cd m Q).length) ∧ Below w.heap.size w w')) (by kernel_rfl) (⟨c0, (Below.refl _ _).drew⟩) (fun hHeld => ?_)
  refine wpAnyH_take (i := 0) (v := ?_) rfl (by kernel_rfl) (by kernel_rfl) (by kernel_rfl) (fun _ _ _ h => h) (Or.inl ⟨by rfl, ?_⟩) (by assumption) ?_
  rotate_left
  · intro w _; go_simp; with_reducible rfl
  try simp only [List.getElem_toArray, List.getElem_cons_zero, Act.put, List.setIfInBounds_toArray, List.set_cons_zero, List.set_cons_succ]
  refine wpAnyH_take (i := 1) (v := ?_) rfl (by kernel_rfl) (by kernel_rfl) (by kernel_rfl) (fun _ _ _ h => h) (Or.inl ⟨by rfl, ?_⟩) (by assumption) ?_
  rotate_left
  · intro w _; go_simp; with_reducible rfl
  try simp only [List.getElem_toArray, List.getElem_cons_zero, List.getElem_cons_succ, Act.put, List.setIfInBounds_toArray, List.set_cons_zero, List.set_cons_succ]
  refine wpAnyH_take (i := 2) (v := ?_) rfl (by kernel_rfl) (by kernel_rfl) (by kernel_rfl) (fun _ _ _ h => h) (Or.inl ⟨by rfl, ?_⟩) (by assumption) ?_
  rotate_left
  · intro w _; go_simp; with_reducible rfl
  try simp only [List.getElem_toArray, List.getElem_cons_zero, List.getElem_cons_succ, Act.put, List.setIfInBounds_toArray, List.set_cons_zero, List.set_cons_succ]
  refine wpAnyH_take (i := 3) (v := ?_) rfl (by kernel_rfl) (by kernel_rfl) (by kernel_rfl) (fun _ _ _ h => h) (Or.inl ⟨by rfl, ?_⟩) (by assumption) ?_
  rotate_left
  · intro w _; go_simp; with_reducible rfl
  try simp only [List.getElem_toArray, List.getElem_cons_zero, List.getElem_cons_succ, Act.put, List.setIfInBounds_toArray, List.set_cons_zero, List.set_cons_succ]
  refine wpAnyH_take (i := 4) (v := ?_) rfl (by kernel_rfl) (by kernel_rfl) (by kernel_rfl) (fun _ _ _ h => h) (Or.inl ⟨by rfl, ?_⟩) (by assumption) ?_
  rotate_left
  · intro w hSw; obtain ⟨y2, _⟩ := hSw; (go_simp <;> with_reducible rfl)
  try simp only [List.getElem_toArray, List.getElem_cons_zero, List.getElem_cons_succ, Act.put, List.setIfInBounds_toArray, List.set_cons_zero, List.set_cons_succ]
  refine wpAnyH_take (i := 5) (v := ?_) rfl (by kernel_rfl) (by kernel_rfl) (by kernel_rfl) (fun _ _ _ h => h) (Or.inl ⟨by rfl, ?_⟩) (by assumption) ?_
  rotate_left
  · intro w _; go_simp; with_reducible rfl
  try simp only [List.getElem_toArray, List.getElem_cons_zero, List.getElem_cons_succ, Act.put, List.setIfInBounds_toArray, List.set_cons_zero, List.set_cons_succ]
  refine wpAnyH_ready (rs := [6]) (by kernel_rfl) (by simp) ?_
  refine AllReadyH.cons rfl (fun K hK => ?_) AllReadyH.nil
  go_simp
  refine (sgCode_any _ xs _ (hv.below hHeld.2 (Nat.le_refl _)) HBX hx6).mono ?_
  rintro e w6 ⟨rfl, hb6⟩
  go_wp2_with fail
  refine hK.out _ _ (⟨(hb6.cell (p := ⟨bl, 0, none⟩) l0).trans hHeld.1, hHeld.2.trans (hb6.mono hHeld.2.size)⟩) (fun hHeld => ?_)
  clear hK K
  try simp only [List.getElem_toArray, List.getElem_cons_zero, List.getElem_cons_succ, Act.put, List.setIfInBounds_toArray, List.set_cons_zero, List.set_cons_succ]
  have hQ6 := hQ.same hHeld.2
  have hls6 : bl < w6.heap.size := Nat.lt_of_lt_of_le l0 hHeld.2.size
  refine wpAnyH_ready (rs := [7]) (by kernel_rfl) (by simp) ?_
  refine AllReadyH.cons rfl (fun K hK => ?_) AllReadyH.nil
  go_simp
  refine (sgPlace_any (sl o (Od ord).length) (sl a (Cd m Q).length) ord (Cd m Q) (codeL xs) _ (Own.of_row hQ6.fs.ord).1 (Own.of_row hQ6.fs.all).1 hol hcl HLT HMO).mono ?_
  rintro e w7 ⟨lo, hlo, hA, hB, rfl, hb7⟩
  go_wp2_with fail
  refine hK.out _ _ (⟨(hb7.cell (p := ⟨bl, 0, none⟩) hls6).trans hHeld.1, hHeld.2.trans (hb7.mono hHeld.2.size)⟩) (fun hHeld => ?_)
  clear hK K
  try simp only [List.getElem_toArray, List.getElem_cons_zero, List.getElem_cons_succ, Act.put, List.setIfInBounds_toArray, List.set_cons_zero, List.set_cons_succ]
  refine wpAnyH_take (i := 8) (v := ?_) rfl (by kernel_rfl) (by kernel_rfl) (by kernel_rfl) (fun _ _ _ h => h) (Or.inl ⟨by rfl, ?_⟩) (by assumption) ?_
  rotate_left
  · intro w _; go_simp; with_reducible rfl
  try simp only [List.getElem_toArray, List.getElem_cons_zero, List.getElem_cons_succ, Act.put, List.setIfInBounds_toArray, List.set_cons_zero, List.set_cons_succ]
  refine wpAnyH_take (i := 9) (v := ?_) rfl (by kernel_rfl) (by kernel_rfl) (by kernel_rfl) (fun _ _ _ h => h) (Or.inl ⟨by rfl, ?_⟩) (by assumption) ?_
  rotate_left
  · intro w _; go_simp; with_reducible rfl
  try simp only [List.getElem_toArray, List.getElem_cons_zero, List.getElem_cons_succ, Act.put, List.setIfInBounds_toArray, List.set_cons_zero, List.set_cons_succ]
  refine wpAnyH_take (i := 10) (v := ?_) rfl (by kernel_rfl) (by kernel_rfl) (by kernel_rfl) (fun _ _ _ h => h) (Or.inl ⟨by rfl, ?_⟩) (by assumption) ?_
  rotate_left
  · intro w _; go_simp; with_reducible rfl
  try simp only [List.getElem_toArray, List.getElem_cons_zero, List.getElem_cons_succ, Act.put, List.setIfInBounds_toArray, List.set_cons_zero, List.set_cons_succ]
  refine wpAnyH_take (i := 11) (v := ?_) rfl (by kernel_rfl) (by kernel_rfl) (by kernel_rfl) (fun _ _ _ h => h) (Or.inl ⟨by rfl, ?_⟩) (by assumption) ?_
  rotate_left
  · intro w _; go_simp; with_reducible rfl
  try simp only [List.getElem_toArray, List.getElem_cons_zero, List.getElem_cons_succ, Act.put, List.setIfInBounds_toArray, List.set_cons_zero, List.set_cons_succ]
  refine wpAnyH_take (i := 12) (v := ?_) rfl (by kernel_rfl) (by kernel_rfl) (by kernel_rfl) (fun _ _ _ h => h) (Or.inl ⟨by rfl, ?_⟩) (by assumption) ?_
  rotate_left
  · intro w _; go_simp; with_reducible rfl
  try simp only [List.getElem_toArray, List.getElem_cons_zero, List.getElem_cons_succ, Act.put, List.setIfInBounds_toArray, List.set_cons_zero, List.set_cons_succ]
  refine wpAnyH_done (by kernel_rfl) ?_ _
  have hQ7 := hQ6.same hb7
  have hb57 := hHeld.2
  clear hHeld hb6 hb7 hQ6 c0 c1 c2
  obtain ⟨hl, hqr, hd⟩ := found_far h1 h6 hSQ.out hQ7.or hst.out hlo hA hB
  obtain ⟨c0, c1, c2⟩ := hQ7.fs.fields
  have k1 := hQ7.farAt hqr
  rw [hd, HD.out] at k1
  have k0 : w7.cell? ⟨o.1, lo, none⟩ = some (.int .i64 ((ord[lo] : Nat) : Int)) := by
    rw [hQ7.fs.ord.cellAt lo (by rw [Od_length]; omega)]
    simp [Od, hl, iv]
  have hp : ord[lo] < Q.length := (List.getElem?_eq_some_iff.1 hqr).1
  obtain ⟨p, hpe⟩ : ∃ p, ord[lo] = p := ⟨_, rfl⟩
  rw [hpe] at k0 k1 hp
  have hpF : (p : Int) < ((Fd m Q).length : Int) := by rw [Fd_length]; omega
  have hlO : (lo : Int) < ((Od ord).length : Int) := by rw [Od_length]; omega
  clear hA hB hqr hd hQ7 hpe
  go_wp2_with fail
  go_quiet (fail)
  go_wp2
  go_ret
  exact ⟨rfl, hb57.drewN _⟩

set_option maxHeartbeats 4000000 in
set_option maxRecDepth 100000 in
theorem sSegmentDistance_any (v : Value) (xs : List Int) (w : World) (hv : OwnI w v xs) (hn : xs.length ≤ 1048576) :
    Calls Try.prog 24 #[v] w fun e w' => e = .returned (.tuple #[.int .i64 (mSegmentDistance xs), .bool (sfewB xs)]) ∧ Below w.heap.size w w' := by
  obtain ⟨a0, c0, rfl, _, _, _⟩ := hv.shape
  have cs := sgSmall_any _ xs w hv hn
  cases hf : sfewB xs with
  | true =>
    rw [hf] at cs
    obtain ⟨hst, h1, h6⟩ := sfewB_iff.1 hf
    have HST := Lib.hid hst
    have HM := Lib.hid (show mSegmentDistance xs = ((gfar (sG xs.length) xs (ramp 1 xs.length) : Nat) : Int) from if_pos hf)
    clear hf hst
    go_enter Try.func24, Try.ntmps24
    go_wp2_with fail
    refine (cs).mono ?_
    rintro e w1 ⟨rfl, hb1⟩
    have hv1 := hv.same hb1
    go_wp2_with fail
    refine (sgFind_any xs.length _ h1 h6).mono ?_
    rintro e w2 ⟨bl, a, f, t, o, Q, S, ord, tv, rfl, hQ, hSQ, hb2⟩
    have HSQ := Lib.hid hSQ
    have hv2 := hv1.same hb2
    have hB2 := hb1.trans (hb2.mono hb1.size)
    clear hSQ hv1 hb1 hb2
    go_wp2_with fail
    refine (sgDistance_any xs.length _ bl a f t o Q S ord tv _ xs _ h1 h6 hQ HSQ hv2 HST).mono ?_
    rintro e w3 ⟨rfl, hb3⟩
    have hB3 := hB2.trans (hb3.mono hB2.size)
    clear hQ hv2 hb3
    go_wp2
    go_ret2
    exact ⟨by rw [HM.out]; rfl, hB3⟩
  | false =>
    rw [hf] at cs
    have HM := Lib.hid (show mSegmentDistance xs = 0 from if_neg (by rw [hf]; exact Bool.false_ne_true))
    clear hf
    go_enter Try.func24, Try.ntmps24
    go_wp2_with fail
    refine (cs).mono ?_
    rintro e w1 ⟨rfl, hb1⟩
    go_wp2
    go_ret2
    exact ⟨by rw [HM.out]; rfl, hb1⟩

set_option maxHeartbeats 4000000 in
set_option maxRecDepth 100000 in
theorem sCountByDistance_any (n : Int) (w : World) :
    Calls Try.prog 36 #[.int .i64 n] w fun e w' => ∃ r, e = .returned (.tuple #[r, .bool (inB n 1 6)]) ∧ OwnI w' r (if inB n 1 6 = true then gbyL (sG n.toNat) (ramp 1 n.toNat) else []) ∧ From w.heap.size r ∧ Below w.heap.size w w' := by
  have cl := l1In_any n 1 6 w
  cases hi : inB n 1 6 with
  | true =>
    rw [hi] at cl
    have hb := inB_iff.1 hi
    obtain ⟨m, rfl⟩ : ∃ m : Nat, n = m := ⟨n.toNat, by omega⟩
    have h1 : 1 ≤ m := by omega
    have h6 : m ≤ 6 := by omega
    have hfm := fact_le (n := m) (by omega)
    rw [if_pos rfl, Int.toNat_natCast, ← sby_gby h1 h6]
    obtain ⟨i0, hif, hz0, hz1, hz2⟩ := info_parts Try.info3
    clear hb hi
    go_enter Try.func36, Try.ntmps36
    go_wp2_with fail
    refine cl.mono ?_
    rintro e w1 ⟨rfl, rfl⟩
    go_wp2_with fail
    refine (sgFind_any m _ h1 h6).mono ?_
    rintro e w2 ⟨bl, a, f, t, o, Q, S, ord, tv, rfl, hQ, hSQ, hb2⟩
    have hQN : Q.length ≤ fact m := hSQ.length_le
    have HSQ := Lib.hid hSQ
    have hs2 := hb2.size
    clear hSQ cl
    go_wp2_with (at_make; refine wpList_make_full _ rfl _ _ 22 rfl w2.heap.size 3 i0 (.int .i64 0) 1 Try.underlying22 hif hz0 hz1 _ _ _ _ m rfl rfl rfl rfl ?b1 ?b2 ?b3 ?_)
    case b1 => rw [hz2]; omega
    case b2 => unfold maxLen; omega
    case b3 => exact Nat.le_refl _
    intro w4 hown hgr
    have ho0 : OwnI w4 (.slice (some ⟨w2.heap.size, 0, none⟩) m m) (dcnt m Q 0) := by rw [dcnt_zero]; exact OwnI.of_made hown
    have hb24 : Below w2.heap.size w2 w4 := (Below.refl _ _).grown hgr (Nat.le_refl _) (by intro k hk; cases hk)
    have hQ4 := hQ.same hb24
    obtain ⟨c0, c1, c2⟩ := hQ4.fs.fields
    rw [Fd_length] at c1
    clear hown hgr hQ4 c0 c2 hif hz0 hz1 hz2
    go_wp2
    go_loopw [8, 24] (fun _ v24 wr => ∃ k : Nat, k ≤ Q.length ∧ v24 = .int .i64 k ∧ OwnI wr (.slice (some ⟨w2.heap.size, 0, none⟩) m m) (dcnt m Q k) ∧ Below w2.heap.size w2 wr) (fun _ v24 _ => Q.length - (intOf v24).toNat)
    case atStart => exact ⟨0, Nat.zero_le _, rfl, ho0, hb24⟩
    case round =>
      obtain ⟨k, hk, rfl, ho, hbr⟩ := hrel
      clear ho0 hb24 c1
      by_cases hlt : k < Q.length
      · have hlt' : (k : Int) < (Q.length : Int) := by omega
        obtain ⟨x, hx⟩ : ∃ x, Q[k]? = some x := ⟨_, List.getElem?_eq_getElem hlt⟩
        have hxf : x < fact m := HSQ.out.lt x (List.mem_of_getElem? hx)
        have k1 := (hQ.same hbr).farAt hx
        have hDm := sgBd_lt h1 h6 hxf
        obtain ⟨hd, hfd, hst⟩ := OwnI.cellAt ho ((sgBd m).d x) (by rw [dcnt_length]; exact hDm)
        have hge := dcnt_get (m := m) (Q := Q) (k := k) hDm
        rw [List.getElem?_eq_getElem (by rw [dcnt_length]; exact hDm)] at hge
        rw [Option.some.inj hge] at hd
        have hz : ((Q.take k).countP fun r => decide ((sgBd m).d r = (sgBd m).d x)) ≤ 1000000 := by
          have h2 := List.countP_le_length (p := fun r => decide ((sgBd m).d r = (sgBd m).d x)) (l := Q.take k)
          rw [List.length_take] at h2
          omega
        have hst := hst ((((Q.take k).countP fun r => decide ((sgBd m).d r = (sgBd m).d x) : Nat) : Int) + 1)
        rw [dcnt_set hx] at hst
        obtain ⟨z, hze⟩ : ∃ z, ((Q.take k).countP fun r => decide ((sgBd m).d r = (sgBd m).d x)) = z := ⟨_, rfl⟩
        rw [hze] at hd hst hz
        obtain ⟨D, hDe⟩ : ∃ D, (sgBd m).d x = D := ⟨_, rfl⟩
        rw [hDe] at k1 hDm hd hfd hst
        have hD' : (D : Int) < (m : Int) := by omega
        have hb5 := hbr.setCell (p := ⟨w2.heap.size, D, none⟩) (Nat.le_refl _) (iv ((z : Int) + 1))
        clear hze hDe hge hx
        go_wp2
        go_roundw
        case rel => exact ⟨k + 1, by omega, by go_num, hst, hb5⟩
        case measure => simp [intOf] <;> omega
      · obtain rfl : k = Q.length := by omega
        have hge : ¬ ((Q.length : Int) < (Q.length : Int)) := by omega
        rw [dcnt_all h1 h6 HSQ.out] at ho
        go_wp2
        go_ret2
        exact ⟨_, rfl, ho, From.at _ _ _ _ _ hs2, hb2.trans (hbr.mono hs2)⟩
  | false =>
    rw [hi] at cl
    rw [if_neg Bool.false_ne_true]
    clear hi
    go_enter Try.func36, Try.ntmps36
    go_wp2_with fail
    refine cl.mono ?_
    rintro e w1 ⟨rfl, rfl⟩
    go_wp2
    go_ret2
    exact ⟨_, rfl, OwnI.nil _, From.nil _ _ _, Below.refl _ _⟩
