import Derived.Test.YtdkidfilnbglgaaWB
import Derived.Test.YtdkidfilnbglgaaS3
import Derived.Test.YtdkidfilnbglgaaS8
import Derived.Test.YtdkidfilnbglgaaLib4
import Derived.BigRegion
namespace Go.Pan
open Go Go.RowKit

theorem foldB_snoc (x : Int) : ∀ (t : List Int) (rs : List (Nat × Nat)) (a : Nat × Nat) (p : Nat) (h : p < t.length) (h' : p < rs.length), foldB x a (t.take (p + 1)) (rs.take (p + 1)) = stepB x (foldB x a (t.take p) (rs.take p)) t[p] rs[p]
  | [], _, _, _, h, _ => by simp at h
  | _ :: _, [], _, _, _, h' => by simp at h'
  | y :: t, r :: rs, a, 0, _, _ => by
    simp only [List.take_zero, List.take_succ_cons, foldB, List.getElem_cons_zero]
  | y :: t, r :: rs, a, p + 1, h, h' => by
    have := foldB_snoc x t rs (stepB x a y r) p (by simpa using h) (by simpa using h')
    simpa [foldB] using this
theorem foldB_le (x : Int) (M C : Nat) : ∀ (t : List Int) (rs : List (Nat × Nat)) (a : Nat × Nat), (∀ r ∈ rs, r.1 ≤ M ∧ r.2 ≤ C) → a.1 ≤ M + 1 → (foldB x a t rs).1 ≤ M + 1 ∧ (foldB x a t rs).2 ≤ a.2 + rs.length * C
  | [], rs, a, _, ha => by
    have e : foldB x a [] rs = a := by cases rs <;> rfl
    rw [e]; exact ⟨ha, Nat.le_add_right _ _⟩
  | _ :: _, [], a, _, ha => ⟨ha, Nat.le_add_right _ _⟩
  | y :: t, r :: rs, a, h, ha => by
    have hr := h r (List.mem_cons_self ..)
    have h1 : (stepB x a y r).1 ≤ M + 1 ∧ (stepB x a y r).2 ≤ a.2 + C := by
      unfold stepB
      split
      · exact ⟨ha, by omega⟩
      · split
        · exact ⟨by simp; omega, by simp; omega⟩
        · split
          · exact ⟨ha, by simp; omega⟩
          · exact ⟨ha, by omega⟩
    have ih := foldB_le x M C t rs (stepB x a y r) (fun q hq => h q (List.mem_cons_of_mem _ hq)) h1.1
    rw [foldB]
    refine ⟨ih.1, ?_⟩
    have h2 := ih.2
    rw [List.length_cons, Nat.succ_mul]
    omega
/-- how great the numbers of the table get -/
theorem tls_le {xs : List Int} (hn : xs.Nodup) (h9 : xs.length ≤ 9) : ∀ r ∈ tls xs, r.1 ≤ 9 ∧ r.2 ≤ 512 := fun r hr => by
  obtain ⟨i, hi, rfl⟩ := List.getElem_of_mem hr
  have hl := tls_length xs
  have hok := (tls_ok xs hn).get i (by omega) _ (List.getElem?_eq_getElem hi)
  have h1 := hok.val
  have h2 := hok.cpos
  have h3 := chn_few (xs.drop (i + 1)) (xs[i]'(by omega)) ((tls xs)[i].1 - 1)
  have h4 : 2 ^ (xs.drop (i + 1)).length ≤ 2 ^ 9 := Nat.pow_le_pow_right (by omega) (by rw [List.length_drop]; omega)
  unfold cnt at h1
  refine ⟨?_, by omega⟩
  by_cases h5 : (xs.drop (i + 1)).length < (tls xs)[i].1 - 1
  · rw [chn_short _ _ _ h5] at h1; simp at h1; omega
  · rw [List.length_drop] at h5; omega
/-- the two tables, made from the last place on -/
def tabTo (f : Nat × Nat → Nat) (xs : List Int) (k : Nat) : List Int := List.replicate (xs.length - k) 0 ++ ((tls xs).drop (xs.length - k)).map fun r => (f r : Int)
theorem tabTo_length (f : Nat × Nat → Nat) {xs : List Int} {k : Nat} (h : k ≤ xs.length) : (tabTo f xs k).length = xs.length := by
  have := tls_length xs
  unfold tabTo; simp; omega
theorem tabTo_zero (f : Nat × Nat → Nat) (xs : List Int) : tabTo f xs 0 = List.replicate xs.length 0 := by
  have := tls_length xs
  unfold tabTo
  rw [Nat.sub_zero, List.drop_of_length_le (by omega)]
  simp
theorem tabTo_all (f : Nat × Nat → Nat) (xs : List Int) : tabTo f xs xs.length = (tls xs).map fun r => (f r : Int) := by
  unfold tabTo
  simp
theorem tabTo_get (f : Nat × Nat → Nat) {xs : List Int} {k j : Nat} (hk : k ≤ xs.length) (h1 : xs.length - k ≤ j) (h2 : j < xs.length) : (tabTo f xs k)[j]? = some (f ((tls xs)[j]'(by rw [tls_length]; exact h2)) : Int) := by
  have hl := tls_length xs
  unfold tabTo
  rw [List.getElem?_append_right (by simp; omega), List.length_replicate, List.getElem?_map, List.getElem?_drop, show xs.length - k + (j - (xs.length - k)) = j by omega, List.getElem?_eq_getElem (by omega)]
  rfl
theorem tabTo_set (f : Nat × Nat → Nat) {xs : List Int} {k i : Nat} (hi : i + k + 1 = xs.length) : (tabTo f xs k).set i (f ((tls xs)[i]'(by rw [tls_length]; omega)) : Int) = tabTo f xs (k + 1) := by
  have hl := tls_length xs
  unfold tabTo
  have e1 : xs.length - k = i + 1 := by omega
  have e2 : xs.length - (k + 1) = i := by omega
  rw [e1, e2, List.replicate_succ', List.append_assoc, List.set_append_right _ _ (by simp), List.length_replicate, Nat.sub_self]
  rw [List.singleton_append, List.set_cons_zero, List.drop_eq_getElem_cons (by omega : i < (tls xs).length), List.map_cons]
/-- the table's number for a place, all places behind which have been looked at up to p -/
def accB (xs : List Int) (i p : Nat) : Nat × Nat := foldB (xs.getD i 0) (1, 1) ((xs.drop (i + 1)).take p) (((tls xs).drop (i + 1)).take p)
theorem accB_zero (xs : List Int) (i : Nat) : accB xs i 0 = (1, 1) := rfl
theorem accB_succ {xs : List Int} {i p : Nat} (h : i + 1 + p < xs.length) : accB xs i (p + 1) = stepB (xs.getD i 0) (accB xs i p) (xs[i + 1 + p]) ((tls xs)[i + 1 + p]'(by rw [tls_length]; exact h)) := by
  have hl := tls_length xs
  unfold accB
  rw [foldB_snoc _ _ _ _ _ (by rw [List.length_drop]; omega) (by rw [List.length_drop]; omega)]
  rw [List.getElem_drop, List.getElem_drop]
theorem accB_all {xs : List Int} {i p : Nat} (h : i + 1 + p = xs.length) : accB xs i p = (tls xs)[i]'(by rw [tls_length]; omega) := by
  have hl := tls_length xs
  have h1 : tls (xs.drop i) = (tls xs).drop i := tls_drop xs i
  rw [List.drop_eq_getElem_cons (by omega : i < xs.length), List.drop_eq_getElem_cons (by omega : i < (tls xs).length)] at h1
  rw [tls, tls_drop] at h1
  have h2 := (List.cons.inj h1).1
  unfold accB
  rw [List.take_of_length_le (by rw [List.length_drop]; omega), List.take_of_length_le (by rw [List.length_drop]; omega), getD_at (by omega)]
  exact h2
theorem accB_le {xs : List Int} (hn : xs.Nodup) (h9 : xs.length ≤ 9) (i p : Nat) : (accB xs i p).1 ≤ 10 ∧ (accB xs i p).2 ≤ 1 + 9 * 512 := by
  have hl := tls_length xs
  have h := foldB_le (xs.getD i 0) 9 512 ((xs.drop (i + 1)).take p) (((tls xs).drop (i + 1)).take p) (1, 1) (fun r hr => tls_le hn h9 r (List.mem_of_mem_drop (List.mem_of_mem_take hr))) (by simp)
  refine ⟨h.1, Nat.le_trans h.2 ?_⟩
  have : (((tls xs).drop (i + 1)).take p).length ≤ 9 := by rw [List.length_take, List.length_drop]; omega
  have h3 : (((tls xs).drop (i + 1)).take p).length * 512 ≤ 9 * 512 := Nat.mul_le_mul_right _ this
  simp only
  omega
/-- two new rows of noughts -/
def TwoZ (n : Nat) (ty : TypeId) (w0 w : World) (s5 s6 : Value) : Prop := ∃ a c, s5 = .slice (some ⟨a, 0, none⟩) n n ∧ s6 = .slice (some ⟨c, 0, none⟩) n n ∧ Blk w a ty (List.replicate n (iv 0)) ∧ Blk w c ty (List.replicate n (iv 0)) ∧ a ≠ c ∧ w0.heap.size ≤ a ∧ w0.heap.size ≤ c ∧ Below w0.heap.size w0 w
end Go.Pan
namespace Go.Proofs.Ytdkidfilnbglgaa
open Go Go.RowKit Go.Pan

theorem twoZ_of {n : Nat} {ty : TypeId} {w m1 m2 : World} {x y : Nat} (h1 : NewB w.drew m1 ty (List.replicate n (.int .i64 0))) (h2 : NewB m1 m2 ty (List.replicate n (.int .i64 0))) (h : (x = w.heap.size ∧ y = m1.heap.size) ∨ (y = w.heap.size ∧ x = m1.heap.size)) :
    TwoZ n ty w m2 (.slice (some ⟨x, 0, none⟩) n n) (.slice (some ⟨y, 0, none⟩) n n) := by
  have hl : w.heap.size < m1.heap.size := h1.lt
  have hb : Below w.heap.size w m2 := ((Below.refl _ w).drew.grown h1.gr (Nat.le_refl _) (by intro k hk; cases hk)).grown h2.gr (Nat.le_of_lt hl) (by intro k hk; cases hk)
  have hB1 : Blk m2 w.heap.size ty (List.replicate n (.int .i64 0)) := h1.blk.grown h2.gr (by simp)
  rcases h with ⟨rfl, rfl⟩ | ⟨rfl, rfl⟩
  · exact ⟨_, _, rfl, rfl, hB1, h2.blk, by omega, Nat.le_refl _, by omega, hb⟩
  · exact ⟨_, _, rfl, rfl, h2.blk, hB1, by omega, by omega, Nat.le_refl _, hb⟩

set_option maxHeartbeats 8000000 in
set_option maxRecDepth 100000 in
theorem inTails_any (v : Value) (xs : List Int) (w : World) (hv : OwnI w v xs) (hg : Hid (Go.Pan.Good xs)) :
    Calls Try.prog 97 #[v] w fun e w' => ∃ r c, e = .returned (.tuple #[r, c]) ∧ OwnI w' r ((tls xs).map fun r => (r.1 : Int)) ∧ OwnI w' c ((tls xs).map fun r => (r.2 : Int)) ∧ Below w.heap.size w w' := by
  obtain ⟨ad, cap, rfl, hcc, _, _⟩ := hv.shape
  obtain ⟨iI, hi0, hi1, hi2, hi3⟩ := info_parts Try.info3
  have HI := Lib.hid hi0
  have HI0 := Lib.hid hi1
  have HI1 := Lib.hid hi2
  have HI2 := Lib.hid hi3
  have h9 := hg.out.le9
  have h1 := hg.out.1
  obtain ⟨g, off, rfl, hgl, hcell, _⟩ := hv.at (by omega)
  have HC := Lib.hid (fun (k : Nat) (hk : k < xs.length) => show w.cell? ⟨g, off + k, none⟩ = some (.int .i64 xs[k]) by
    have := hcell k (by omega)
    rwa [List.getElem?_map, List.getElem?_eq_getElem hk] at this)
  have HN := Lib.hid hg.out.2.2.2
  obtain ⟨n, hn⟩ : ∃ n, xs.length = n := ⟨_, rfl⟩
  have HNN := Lib.hid hn
  rw [hn] at h9 h1 hcc ⊢
  clear hi0 hi1 hi2 hi3 hv hcell hn
  go_enter Try.func97, Try.ntmps97
  go_upto_region 2 with fail
  go_cut [5, 6] (fun s5 s6 wx => TwoZ n 3 w wx s5 s6)
  case first =>
    refine wp_region_held_drew (S := (fun _ => True)) (by kernel_rfl) (trivial) (fun hHeld => ?_)
    refine wpAnyH_take (i := 0) (v := ?_) rfl (by kernel_rfl) (by kernel_rfl) (by kernel_rfl) (fun _ _ _ h => h) (Or.inl ⟨by rfl, ?_⟩) (by assumption) ?_
    rotate_left
    · intro w _; go_simp; with_reducible rfl
    refine wpAnyH_take (i := 2) (v := ?_) rfl (by kernel_rfl) (by kernel_rfl) (by kernel_rfl) (fun _ _ _ h => h) (Or.inl ⟨by rfl, ?_⟩) (by assumption) ?_
    rotate_left
    · intro w _; go_simp; with_reducible rfl
    try simp only [List.getElem_toArray, List.getElem_cons_zero, List.getElem_cons_succ, Act.put, List.setIfInBounds_toArray, List.set_cons_zero, List.set_cons_succ]
    refine wpAnyH_ready (rs := [1, 3]) (by kernel_rfl) (by simp) ?_
    refine AllReadyH.cons rfl (fun K hK => ?_) (AllReadyH.cons rfl (fun K hK => ?_) AllReadyH.nil)
    · refine step_make_new rfl _ _ 22 rfl 3 iI (.int .i64 0) Try.underlying22 HI.out HI0.out HI1.out rfl _ _ _ _ n rfl rfl rfl rfl (by rw [HI2.out]; omega) (by unfold maxLen; omega) ?_
      intro m1 h1
      refine hK.out _ _ trivial (fun _ => ?_)
      clear hK K
      try simp only [List.getElem_toArray, List.getElem_cons_zero, List.getElem_cons_succ, Act.put, List.setIfInBounds_toArray, List.set_cons_zero, List.set_cons_succ]
      refine wpAnyH_take (i := 4) (v := ?_) rfl (by kernel_rfl) (by kernel_rfl) (by kernel_rfl) (fun _ _ _ h => h) (Or.inl ⟨by rfl, ?_⟩) (by assumption) ?_
      rotate_left
      · intro w _; go_simp; with_reducible rfl
      try simp only [List.getElem_toArray, List.getElem_cons_zero, List.getElem_cons_succ, Act.put, List.setIfInBounds_toArray, List.set_cons_zero, List.set_cons_succ]
      refine wpAnyH_ready (rs := [3]) (by kernel_rfl) (by simp) ?_
      refine AllReadyH.cons rfl (fun K hK => ?_) AllReadyH.nil
      refine step_make_new rfl _ _ 22 rfl 3 iI (.int .i64 0) Try.underlying22 HI.out HI0.out HI1.out rfl _ _ _ _ n rfl rfl rfl rfl (by rw [HI2.out]; omega) (by unfold maxLen; omega) ?_
      intro m2 h2
      refine hK.out _ _ trivial (fun _ => ?_)
      clear hK K
      try simp only [List.getElem_toArray, List.getElem_cons_zero, List.getElem_cons_succ, Act.put, List.setIfInBounds_toArray, List.set_cons_zero, List.set_cons_succ]
      refine wpAnyH_take (i := 5) (v := ?_) rfl (by kernel_rfl) (by kernel_rfl) (by kernel_rfl) (fun _ _ _ h => h) (Or.inl ⟨by rfl, ?_⟩) (by assumption) ?_
      rotate_left
      · intro w _; go_simp; with_reducible rfl
      try simp only [List.getElem_toArray, List.getElem_cons_zero, List.getElem_cons_succ, Act.put, List.setIfInBounds_toArray, List.set_cons_zero, List.set_cons_succ]
      refine wpAnyH_done (by kernel_rfl) ?_ _
      go_wp2_with fail
      go_meet
      exact twoZ_of h1 h2 (.inl ⟨rfl, rfl⟩)
    · refine step_make_new rfl _ _ 22 rfl 3 iI (.int .i64 0) Try.underlying22 HI.out HI0.out HI1.out rfl _ _ _ _ n rfl rfl rfl rfl (by rw [HI2.out]; omega) (by unfold maxLen; omega) ?_
      intro m1 h1
      refine hK.out _ _ trivial (fun _ => ?_)
      clear hK K
      try simp only [List.getElem_toArray, List.getElem_cons_zero, List.getElem_cons_succ, Act.put, List.setIfInBounds_toArray, List.set_cons_zero, List.set_cons_succ]
      refine wpAnyH_ready (rs := [1]) (by kernel_rfl) (by simp) ?_
      refine AllReadyH.cons rfl (fun K hK => ?_) AllReadyH.nil
      refine step_make_new rfl _ _ 22 rfl 3 iI (.int .i64 0) Try.underlying22 HI.out HI0.out HI1.out rfl _ _ _ _ n rfl rfl rfl rfl (by rw [HI2.out]; omega) (by unfold maxLen; omega) ?_
      intro m2 h2
      refine hK.out _ _ trivial (fun _ => ?_)
      clear hK K
      try simp only [List.getElem_toArray, List.getElem_cons_zero, List.getElem_cons_succ, Act.put, List.setIfInBounds_toArray, List.set_cons_zero, List.set_cons_succ]
      refine wpAnyH_take (i := 4) (v := ?_) rfl (by kernel_rfl) (by kernel_rfl) (by kernel_rfl) (fun _ _ _ h => h) (Or.inl ⟨by rfl, ?_⟩) (by assumption) ?_
      rotate_left
      · intro w _; go_simp; with_reducible rfl
      try simp only [List.getElem_toArray, List.getElem_cons_zero, List.getElem_cons_succ, Act.put, List.setIfInBounds_toArray, List.set_cons_zero, List.set_cons_succ]
      refine wpAnyH_take (i := 5) (v := ?_) rfl (by kernel_rfl) (by kernel_rfl) (by kernel_rfl) (fun _ _ _ h => h) (Or.inl ⟨by rfl, ?_⟩) (by assumption) ?_
      rotate_left
      · intro w _; go_simp; with_reducible rfl
      try simp only [List.getElem_toArray, List.getElem_cons_zero, List.getElem_cons_succ, Act.put, List.setIfInBounds_toArray, List.set_cons_zero, List.set_cons_succ]
      refine wpAnyH_done (by kernel_rfl) ?_ _
      go_wp2_with fail
      go_meet
      exact twoZ_of h1 h2 (.inr ⟨rfl, rfl⟩)
  case rest =>
    obtain ⟨a, c, rfl, rfl, hA, hC, hne, hwa, hwc, hb0⟩ := hcut
    have HA0 := Lib.hid (show Blk _ a 3 ((tabTo (·.1) xs 0).map iv) by rw [tabTo_zero, HNN.out, List.map_replicate]; exact hA)
    have HC0 := Lib.hid (show Blk _ c 3 ((tabTo (·.2) xs 0).map iv) by rw [tabTo_zero, HNN.out, List.map_replicate]; exact hC)
    have HNE := Lib.hid hne
    clear hA hC hne
    go_wp2
    go_loopw [7] (fun i wr => ∃ k : Nat, k ≤ n ∧ i = .int .i64 ((n : Int) - 1 - k) ∧ Hid (Blk wr a 3 ((tabTo (·.1) xs k).map iv)) ∧ Hid (Blk wr c 3 ((tabTo (·.2) xs k).map iv)) ∧ Below w.heap.size w wr) (fun i _ => (intOf i + 1).toNat)
    case atStart => exact ⟨0, Nat.zero_le _, by go_num, HA0, HC0, hb0⟩
    case round =>
      obtain ⟨k, hk, rfl, hA, hC, hbr⟩ := hrel
      clear HA0 HC0 hb0
      by_cases hlt : k < n
      · obtain ⟨i, hik⟩ : ∃ i, i + k + 1 = n := ⟨n - 1 - k, by omega⟩
        have hmi : (n : Int) - 1 - k = (i : Int) := by omega
        have HMI := Lib.hid hmi
        have hin : (i : Int) < n := by omega
        have hin' : i < n := by omega
        have HIK := Lib.hid (show i + k + 1 = xs.length by rw [HNN.out]; exact hik)
        rw [hmi]
        have hAl := tabTo_length (·.1) (xs := xs) (k := k) (by rw [HNN.out]; exact hk)
        have hCl := tabTo_length (·.2) (xs := xs) (k := k) (by rw [HNN.out]; exact hk)
        rw [HNN.out] at hAl hCl
        obtain ⟨LA, hLA⟩ : ∃ L, tabTo (·.1) xs k = L := ⟨_, rfl⟩
        obtain ⟨LC, hLC⟩ : ∃ L, tabTo (·.2) xs k = L := ⟨_, rfl⟩
        have HGA := Lib.hid (fun (j : Nat) (h1 : i < j) (h2 : j < n) => show LA[j]? = some (((tls xs)[j]'(by rw [tls_length, HNN.out]; exact h2)).1 : Int) by
          rw [← hLA]; exact tabTo_get (·.1) (by rw [HNN.out]; exact hk) (by rw [HNN.out]; omega) (by rw [HNN.out]; exact h2))
        have HGC := Lib.hid (fun (j : Nat) (h1 : i < j) (h2 : j < n) => show LC[j]? = some (((tls xs)[j]'(by rw [tls_length, HNN.out]; exact h2)).2 : Int) by
          rw [← hLC]; exact tabTo_get (·.2) (by rw [HNN.out]; exact hk) (by rw [HNN.out]; omega) (by rw [HNN.out]; exact h2))
        have HSA := Lib.hid (show LA.set i ((accB xs i k).1 : Int) = tabTo (·.1) xs (k + 1) by
          rw [← hLA, accB_all (by rw [HNN.out]; omega)]; exact tabTo_set (·.1) HIK.out)
        have HSC := Lib.hid (show LC.set i ((accB xs i k).2 : Int) = tabTo (·.2) xs (k + 1) by
          rw [← hLC, accB_all (by rw [HNN.out]; omega)]; exact tabTo_set (·.2) HIK.out)
        rw [hLA] at hA hAl
        rw [hLC] at hC hCl
        have hA0 := hA.out.set i (.int .i64 1)
        have hC0 := hC.out.set i (.int .i64 1)
        obtain ⟨va, hca⟩ : ∃ x, wr.cell? ⟨a, i, none⟩ = some x := ⟨_, by rw [hA.out.cell i, List.getElem?_map, List.getElem?_eq_getElem (by omega)]; rfl⟩
        obtain ⟨vc, hcc2⟩ : ∃ x, (wr.setCell ⟨a, i, none⟩ (.int .i64 1)).cell? ⟨c, i, none⟩ = some x := ⟨_, by
          rw [(hC.out.other (a := ⟨a, i, none⟩) (by exact fun e => HNE.out e.symm) (.int .i64 1)).cell i, List.getElem?_map, List.getElem?_eq_getElem (by omega)]; rfl⟩
        have hfa := hA.out.frozen i
        have hfc := hC.out.frozen i
        have hA1 : Blk ((wr.setCell ⟨a, i, none⟩ (.int .i64 1)).setCell ⟨c, i, none⟩ (.int .i64 1)) a 3 ((LA.set i ((accB xs i 0).1 : Int)).map iv) := by
          rw [List.map_set]; exact hA0.other (by exact HNE.out) _
        have hC1 : Blk ((wr.setCell ⟨a, i, none⟩ (.int .i64 1)).setCell ⟨c, i, none⟩ (.int .i64 1)) c 3 ((LC.set i ((accB xs i 0).2 : Int)).map iv) := by
          rw [List.map_set]; exact (hC.out.other (a := ⟨a, i, none⟩) (by exact fun e => HNE.out e.symm) _).set i _
        have hb1 := (hbr.setCell (p := ⟨a, i, none⟩) hwa (.int .i64 1)).setCell (p := ⟨c, i, none⟩) hwc (.int .i64 1)
        have hfc2 := (hC.out.other (a := ⟨a, i, none⟩) (by exact fun e => HNE.out e.symm) (.int .i64 1)).frozen i
        have HA1 := Lib.hid hA1
        have HC1 := Lib.hid hC1
        have hz0 : (0 : Int) ≤ (i : Int) := by omega
        have HKN := Lib.hid hik
        have HAL := Lib.hid hAl
        have HCL := Lib.hid hCl
        clear hA hC hA0 hC0 hLA hLC hA1 hC1 hik hmi hbr hAl hCl hfc
        go_wp2
        obtain ⟨wo, hwo⟩ : ∃ x, (wr.setCell ⟨a, i, none⟩ (.int .i64 1)).setCell ⟨c, i, none⟩ (.int .i64 1) = x := ⟨_, rfl⟩
        rw [hwo] at HA1 HC1 hb1 ⊢
        clear hwo hca hcc2 hfa hfc2
        go_loopw [8] (fun j wr => ∃ p : Nat, i + 1 + p ≤ n ∧ j = .int .i64 ((i : Int) + 1 + p) ∧ Hid (Blk wr a 3 ((LA.set i ((accB xs i p).1 : Int)).map iv)) ∧ Hid (Blk wr c 3 ((LC.set i ((accB xs i p).2 : Int)).map iv)) ∧ Below w.heap.size w wr) (fun j _ => n - (intOf j).toNat)
        case atStart => exact ⟨0, by omega, by go_num, HA1, HC1, hb1⟩
        case round =>
          obtain ⟨p, hp, rfl, hA, hC, hbr⟩ := hrel
          clear HA1 HC1 hb1
          by_cases hjl : i + 1 + p < n
          · obtain ⟨j, hj⟩ : ∃ j, j = i + 1 + p := ⟨_, rfl⟩
            have hji : (i : Int) + 1 + p = (j : Int) := by omega
            have hjn : (j : Int) < n := by omega
            have hjn' : j < n := by omega
            have hij : i < j := by omega
            have HJ := Lib.hid hj
            have HJI := Lib.hid hji
            have hAS := accB_succ (xs := xs) (i := i) (p := p) (by rw [HNN.out]; omega)
            have hL := accB_le HN.out (by rw [HNN.out]; exact h9) i p
            have hR := tls_le HN.out (by rw [HNN.out]; exact h9) _ (List.getElem_mem (show j < (tls xs).length by rw [tls_length, HNN.out]; exact hjn'))
            have hGA := HGA.out j hij hjn'
            have hGC := HGC.out j hij hjn'
            have hxi := HC.out i (by rw [HNN.out]; exact hin')
            have hxj := HC.out j (by rw [HNN.out]; exact hjn')
            have hne : xs[j]'(by rw [HNN.out]; exact hjn') ≠ xs[i]'(by rw [HNN.out]; exact hin') := fun e => by
              have := nodup_at HN.out _ _ e; omega
            rw [getD_at (by rw [HNN.out]; exact hin')] at hAS
            have hAS2 : accB xs i (p + 1) = stepB (xs[i]'(by rw [HNN.out]; exact hin')) (accB xs i p) (xs[j]'(by rw [HNN.out]; exact hjn')) ((tls xs)[j]'(by rw [tls_length, HNN.out]; exact hjn')) := by
              subst hj; exact hAS
            obtain ⟨x, hx⟩ : ∃ x, xs[i]'(by rw [HNN.out]; exact hin') = x := ⟨_, rfl⟩
            obtain ⟨y, hy⟩ : ∃ y, xs[j]'(by rw [HNN.out]; exact hjn') = y := ⟨_, rfl⟩
            obtain ⟨r, hr⟩ : ∃ r, (tls xs)[j]'(by rw [tls_length, HNN.out]; exact hjn') = r := ⟨_, rfl⟩
            obtain ⟨A, hAA⟩ : ∃ A, accB xs i p = A := ⟨_, rfl⟩
            rw [hx] at hxi hne hAS2
            rw [hy] at hxj hne hAS2
            rw [hr] at hR hGA hGC hAS2
            rw [hAA] at hA hC hL hAS2
            obtain ⟨r1, r2⟩ := r
            obtain ⟨A1, A2⟩ := A
            have HAS := Lib.hid hAS2
            have hci := (hbr.cell (p := ⟨g, off + i, none⟩) hgl).trans hxi
            have hcj := (hbr.cell (p := ⟨g, off + j, none⟩) hgl).trans hxj
            have hai := hA.out.cell i
            have haj := hA.out.cell j
            have hvi := hC.out.cell i
            have hvj := hC.out.cell j
            rw [List.getElem?_map, List.getElem?_set_self (by rw [HAL.out]; exact hin')] at hai
            rw [List.getElem?_map, List.getElem?_set_ne (by omega), hGA] at haj
            rw [List.getElem?_map, List.getElem?_set_self (by rw [HCL.out]; exact hin')] at hvi
            rw [List.getElem?_map, List.getElem?_set_ne (by omega), hGC] at hvj
            have hai' : wr.cell? ⟨a, i, none⟩ = some (.int .i64 (A1 : Nat)) := hai
            have haj' : wr.cell? ⟨a, j, none⟩ = some (.int .i64 (r1 : Nat)) := haj
            have hvi' : wr.cell? ⟨c, i, none⟩ = some (.int .i64 (A2 : Nat)) := hvi
            have hvj' : wr.cell? ⟨c, j, none⟩ = some (.int .i64 (r2 : Nat)) := hvj
            simp only at hL hR
            have hA1 := hL.1
            have hA2 := hL.2
            have hr1 := hR.1
            have hr2 := hR.2
            rw [hji]
            have hw1 : IntKind.i64.wrap ((r1 : Int) + 1) = (r1 : Int) + 1 := IntWalk.i64_in _ (by omega)
            have HW1 := Lib.hid hw1
            clear hxi hxj hx hy hr hAA hai haj hvi hvj hGA hGC hAS hAS2 hj hji hL hR hw1
            by_cases hlt : y < x
            · have HS := Lib.hid (show accB xs i (p + 1) = (A1, A2) by rw [HAS.out]; unfold stepB; rw [if_pos hlt])
              have hd : decide (y < x) = true := decide_eq_true hlt
              clear hne
              go_wp2
              go_quiet (fail)
              go_wp2
              go_roundw
              case rel => exact ⟨p + 1, by omega, by have := HJI.out; go_num, by rw [HS.out]; exact Lib.hid (hA.out.drewN _), by rw [HS.out]; exact Lib.hid (hC.out.drewN _), hbr.drewN _⟩
              case measure => have := HJI.out; simp [intOf] <;> omega
            · have hd : decide (y < x) = false := decide_eq_false hlt
              have hA5 := hA.out
              have hC5 := hC.out
              have hb5 := hbr
              have ai5 := hai'
              have aj5 := haj'
              have vi5 := hvi'
              have vj5 := hvj'
              clear hA hC hbr hai' haj' hvi' hvj'
              go_wp2
              go_quiet (fail)
              obtain ⟨w1, hw6⟩ : ∃ x, wr.drewN nq = x := ⟨_, rfl⟩
              rw [hw6]
              have hA6 : Blk w1 a 3 ((LA.set i (A1 : Int)).map iv) := by rw [← hw6]; exact hA5.drewN _
              have hC6 : Blk w1 c 3 ((LC.set i (A2 : Int)).map iv) := by rw [← hw6]; exact hC5.drewN _
              have hb6 : Below w.heap.size w w1 := by rw [← hw6]; exact hb5.drewN _
              have ai6 : w1.cell? ⟨a, i, none⟩ = some (.int .i64 (A1 : Nat)) := by rw [← hw6]; exact ai5
              have aj6 : w1.cell? ⟨a, j, none⟩ = some (.int .i64 (r1 : Nat)) := by rw [← hw6]; exact aj5
              have vi6 : w1.cell? ⟨c, i, none⟩ = some (.int .i64 (A2 : Nat)) := by rw [← hw6]; exact vi5
              have vj6 : w1.cell? ⟨c, j, none⟩ = some (.int .i64 (r2 : Nat)) := by rw [← hw6]; exact vj5
              clear hw6 hA5 hC5 hb5 ai5 aj5 vi5 vj5 nq
              by_cases h1 : A1 < r1 + 1
              · have HS := Lib.hid (show accB xs i (p + 1) = (r1 + 1, r2) by rw [HAS.out]; unfold stepB; rw [if_neg (by omega), if_pos h1])
                have hg1 : (A1 : Int) < (r1 : Int) + 1 := by omega
                clear hne hlt
                go_wp2
                go_quiet (fail)
                obtain ⟨w2, hw7⟩ : ∃ x, w1.drewN nq = x := ⟨_, rfl⟩
                rw [hw7]
                have hA7 : Blk w2 a 3 ((LA.set i (A1 : Int)).map iv) := by rw [← hw7]; exact hA6.drewN _
                have hC7 : Blk w2 c 3 ((LC.set i (A2 : Int)).map iv) := by rw [← hw7]; exact hC6.drewN _
                have hb7 : Below w.heap.size w w2 := by rw [← hw7]; exact hb6.drewN _
                have ai7 : w2.cell? ⟨a, i, none⟩ = some (.int .i64 (A1 : Nat)) := by rw [← hw7]; exact ai6
                have aj7 : w2.cell? ⟨a, j, none⟩ = some (.int .i64 (r1 : Nat)) := by rw [← hw7]; exact aj6
                have vi7 : w2.cell? ⟨c, i, none⟩ = some (.int .i64 (A2 : Nat)) := by rw [← hw7]; exact vi6
                have vj7 : w2.cell? ⟨c, j, none⟩ = some (.int .i64 (r2 : Nat)) := by rw [← hw7]; exact vj6
                clear hw7 hA6 hC6 hb6 ai6 aj6 vi6 vj6 nq
                have hfi := hA7.frozen i
                have hA8 := (hA7.set i (.int .i64 ((r1 : Int) + 1))).other (a := ⟨c, i, none⟩) HNE.out (.int .i64 (r2 : Int))
                have hCo := hC7.other (a := ⟨a, i, none⟩) (fun e => HNE.out e.symm) (.int .i64 ((r1 : Int) + 1))
                have hC8 := hCo.set i (.int .i64 (r2 : Int))
                have vi8 := hCo.cell i
                have vj8 := hCo.cell j
                rw [← hC7.cell i, vi7] at vi8
                rw [← hC7.cell j, vj7] at vj8
                have hf8 := hCo.frozen i
                have hb8 := (hb7.setCell (p := ⟨a, i, none⟩) hwa (.int .i64 ((r1 : Int) + 1))).setCell (p := ⟨c, i, none⟩) hwc (.int .i64 (r2 : Int))
                rw [← List.map_set, List.set_set] at hA8
                rw [← List.map_set, List.set_set] at hC8
                have HA8 := Lib.hid hA8
                have HC8 := Lib.hid hC8
                clear hA7 hC7 hb7 hCo hA8 hC8
                go_wp2
                go_roundw
                case rel => exact ⟨p + 1, by omega, by have := HJI.out; go_num, by rw [HS.out]; exact HA8, by rw [HS.out]; exact HC8, hb8⟩
                case measure => have := HJI.out; simp [intOf] <;> omega
              · by_cases h2 : r1 + 1 = A1
                · have HS := Lib.hid (show accB xs i (p + 1) = (A1, A2 + r2) by rw [HAS.out]; unfold stepB; rw [if_neg (by omega), if_neg h1, if_pos h2])
                  have hg1 : ¬ ((A1 : Int) < (r1 : Int) + 1) := by omega
                  have hg2 : (((r1 : Int) + 1) == (A1 : Int)) = true := by simp; omega
                  have hws : IntKind.i64.wrap ((A2 : Int) + (r2 : Int)) = (A2 : Int) + (r2 : Int) := IntWalk.i64_in _ (by omega)
                  clear hne hlt h2
                  go_wp2
                  go_quiet (fail)
                  obtain ⟨w2, hw7⟩ : ∃ x, w1.drewN nq = x := ⟨_, rfl⟩
                  rw [hw7]
                  have hA7 : Blk w2 a 3 ((LA.set i (A1 : Int)).map iv) := by rw [← hw7]; exact hA6.drewN _
                  have hC7 : Blk w2 c 3 ((LC.set i (A2 : Int)).map iv) := by rw [← hw7]; exact hC6.drewN _
                  have hb7 : Below w.heap.size w w2 := by rw [← hw7]; exact hb6.drewN _
                  have ai7 : w2.cell? ⟨a, i, none⟩ = some (.int .i64 (A1 : Nat)) := by rw [← hw7]; exact ai6
                  have aj7 : w2.cell? ⟨a, j, none⟩ = some (.int .i64 (r1 : Nat)) := by rw [← hw7]; exact aj6
                  have vi7 : w2.cell? ⟨c, i, none⟩ = some (.int .i64 (A2 : Nat)) := by rw [← hw7]; exact vi6
                  have vj7 : w2.cell? ⟨c, j, none⟩ = some (.int .i64 (r2 : Nat)) := by rw [← hw7]; exact vj6
                  clear hw7 hA6 hC6 hb6 ai6 aj6 vi6 vj6 nq
                  go_wp2
                  go_quiet (fail)
                  obtain ⟨w3, hw8⟩ : ∃ x, w2.drewN nq = x := ⟨_, rfl⟩
                  rw [hw8]
                  have hA8 : Blk w3 a 3 ((LA.set i (A1 : Int)).map iv) := by rw [← hw8]; exact hA7.drewN _
                  have hC8 : Blk w3 c 3 ((LC.set i (A2 : Int)).map iv) := by rw [← hw8]; exact hC7.drewN _
                  have hb8 : Below w.heap.size w w3 := by rw [← hw8]; exact hb7.drewN _
                  have ai8 : w3.cell? ⟨a, i, none⟩ = some (.int .i64 (A1 : Nat)) := by rw [← hw8]; exact ai7
                  have aj8 : w3.cell? ⟨a, j, none⟩ = some (.int .i64 (r1 : Nat)) := by rw [← hw8]; exact aj7
                  have vi8 : w3.cell? ⟨c, i, none⟩ = some (.int .i64 (A2 : Nat)) := by rw [← hw8]; exact vi7
                  have vj8 : w3.cell? ⟨c, j, none⟩ = some (.int .i64 (r2 : Nat)) := by rw [← hw8]; exact vj7
                  clear hw8 hA7 hC7 hb7 ai7 aj7 vi7 vj7 nq
                  have hfi := hC8.frozen i
                  have hA9 := (hA8.other (a := ⟨c, i, none⟩) HNE.out (.int .i64 ((A2 : Int) + (r2 : Int)))).drew
                  have hC9 := (hC8.set i (.int .i64 ((A2 : Int) + (r2 : Int)))).drew
                  have hb9 := (hb8.setCell (p := ⟨c, i, none⟩) hwc (.int .i64 ((A2 : Int) + (r2 : Int)))).drew
                  rw [← List.map_set, List.set_set] at hC9
                  have HA9 := Lib.hid hA9
                  have HC9 := Lib.hid hC9
                  clear hA8 hC8 hb8 hA9 hC9
                  go_wp2
                  go_region
                  go_wp2
                  go_roundw
                  case rel => exact ⟨p + 1, by omega, by have := HJI.out; go_num, by rw [HS.out]; exact HA9, by rw [HS.out]; exact HC9, hb9⟩
                  case measure => have := HJI.out; simp [intOf] <;> omega
                · have HS := Lib.hid (show accB xs i (p + 1) = (A1, A2) by rw [HAS.out]; unfold stepB; rw [if_neg (by omega), if_neg h1, if_neg h2])
                  have hg1 : ¬ ((A1 : Int) < (r1 : Int) + 1) := by omega
                  have hg2 : (((r1 : Int) + 1) == (A1 : Int)) = false := by simp; omega
                  clear hne hlt h2
                  go_wp2
                  go_quiet (fail)
                  obtain ⟨w2, hw7⟩ : ∃ x, w1.drewN nq = x := ⟨_, rfl⟩
                  rw [hw7]
                  have hA7 : Blk w2 a 3 ((LA.set i (A1 : Int)).map iv) := by rw [← hw7]; exact hA6.drewN _
                  have hC7 : Blk w2 c 3 ((LC.set i (A2 : Int)).map iv) := by rw [← hw7]; exact hC6.drewN _
                  have hb7 : Below w.heap.size w w2 := by rw [← hw7]; exact hb6.drewN _
                  have ai7 : w2.cell? ⟨a, i, none⟩ = some (.int .i64 (A1 : Nat)) := by rw [← hw7]; exact ai6
                  have aj7 : w2.cell? ⟨a, j, none⟩ = some (.int .i64 (r1 : Nat)) := by rw [← hw7]; exact aj6
                  have vi7 : w2.cell? ⟨c, i, none⟩ = some (.int .i64 (A2 : Nat)) := by rw [← hw7]; exact vi6
                  have vj7 : w2.cell? ⟨c, j, none⟩ = some (.int .i64 (r2 : Nat)) := by rw [← hw7]; exact vj6
                  clear hw7 hA6 hC6 hb6 ai6 aj6 vi6 vj6 nq
                  go_wp2
                  go_quiet (fail)
                  obtain ⟨w3, hw8⟩ : ∃ x, w2.drewN nq = x := ⟨_, rfl⟩
                  rw [hw8]
                  have hA8 : Blk w3 a 3 ((LA.set i (A1 : Int)).map iv) := by rw [← hw8]; exact hA7.drewN _
                  have hC8 : Blk w3 c 3 ((LC.set i (A2 : Int)).map iv) := by rw [← hw8]; exact hC7.drewN _
                  have hb8 : Below w.heap.size w w3 := by rw [← hw8]; exact hb7.drewN _
                  have ai8 : w3.cell? ⟨a, i, none⟩ = some (.int .i64 (A1 : Nat)) := by rw [← hw8]; exact ai7
                  have aj8 : w3.cell? ⟨a, j, none⟩ = some (.int .i64 (r1 : Nat)) := by rw [← hw8]; exact aj7
                  have vi8 : w3.cell? ⟨c, i, none⟩ = some (.int .i64 (A2 : Nat)) := by rw [← hw8]; exact vi7
                  have vj8 : w3.cell? ⟨c, j, none⟩ = some (.int .i64 (r2 : Nat)) := by rw [← hw8]; exact vj7
                  clear hw8 hA7 hC7 hb7 ai7 aj7 vi7 vj7 nq
                  have HA8 := Lib.hid hA8
                  have HC8 := Lib.hid hC8
                  clear hA8 hC8
                  go_wp2
                  go_roundw
                  case rel => exact ⟨p + 1, by omega, by have := HJI.out; go_num, by rw [HS.out]; exact HA8, by rw [HS.out]; exact HC8, hb8⟩
                  case measure => have := HJI.out; simp [intOf] <;> omega
          · have hpe : p = k := by have := HKN.out; omega
            subst hpe
            have hge : ¬ ((i : Int) + 1 + p < n) := by have := HKN.out; omega
            have HA2 := Lib.hid (show Blk wr a 3 ((tabTo (·.1) xs (p + 1)).map iv) by rw [← HSA.out]; exact hA.out)
            have HC2 := Lib.hid (show Blk wr c 3 ((tabTo (·.2) xs (p + 1)).map iv) by rw [← HSC.out]; exact hC.out)
            have hge2 : (n : Int) ≤ (i : Int) + 1 + p := by omega
            have hi1 : (0 : Int) ≤ (i : Int) := by omega
            clear hA hC hge
            go_wp2
            go_roundw
            case rel => exact ⟨p + 1, by omega, by have := HMI.out; go_num, HA2, HC2, hbr⟩
            case measure => simp [intOf] <;> omega
      · obtain rfl : k = n := by omega
        have HA2 := Lib.hid (show Blk wr a 3 (((tls xs).map fun r => (r.1 : Int)).map iv) by have := hA.out; rw [← HNN.out, tabTo_all] at this; exact this)
        have HC2 := Lib.hid (show Blk wr c 3 (((tls xs).map fun r => (r.2 : Int)).map iv) by have := hC.out; rw [← HNN.out, tabTo_all] at this; exact this)
        have hneg : ¬ ((0 : Int) ≤ (k : Int) - 1 - k) := by omega
        have HL := Lib.hid (show k = (tls xs).length by rw [tls_length, HNN.out])
        clear hA hC
        go_wp2
        go_ret2
        exact ⟨_, _, rfl, OwnI.of_blk0 HA2.out (by rw [List.length_map, ← HL.out]) (by omega), OwnI.of_blk0 HC2.out (by rw [List.length_map, ← HL.out]) (by omega), hbr⟩
end Go.Proofs.Ytdkidfilnbglgaa
