import Derived.Test.YticpdlgnaphnkaaK5
namespace Go.Proofs.Yticpdlgnaphnkaa
open Go Go.RowKit Go.Pan

/-- 's[k:]' of whatever -/
theorem wpList_fromOwn {P : Program} {w : World} {ops : Array Oper} {rest : List Oper} {o : Oper} {a : Act} {Q : Exit → Act → World → Prop}
    (hg : o.guard = none) (x lo : Operand) (t e : TypeId) (hop : o.op = .slice t x (some lo) none none) (i : TypeInfo) (hu : P.underlying t = some (.slice e)) (hi : P.info? e = some i) (hs1 : i.size = 1)
    (ad : Option Addr) (n cap k : Nat) (K : Int) (hx : a.eval x = .slice ad n cap) (hl : a.eval lo = .int .i64 K) (hKk : K = (k : Int)) (hk : k ≤ n) (cs : List Value) (hown : Own w 1 (.slice ad n cap) n cs)
    (hK : ∀ sp c, Own w 1 (.slice sp (n - k) c) (n - k) (cs.drop k) → (Value.slice sp (n - k) c).ownBlock = (Value.slice ad n cap).ownBlock → wpList P ops Q rest (a.put o.dst (.slice sp (n - k) c)) w) :
    wpList P ops Q (o :: rest) a w := by
  subst hKk
  have he : P.elem t = e := by simp [Program.elem, hu]
  have hnc : n ≤ cap := by
    obtain ⟨_, cap', hv, h1, _⟩ := hown.shape
    simp only [Value.slice.injEq] at hv
    omega
  have hrun : (Instr.sliceAt t (.slice ad n cap) (some (.int .i64 k)) none none).run P w = .ok (.slice (if cap = k then ad else ad.map (·.add (k * 1))) (n - k) (cap - k)) w := by
    rw [run_sliceAt_slice w t _ _ _ _ (by rw [he]; exact hu), run_slice_l w t ad n cap (by rw [he]; exact hu) .i64 k (by omega) (by omega)]
    simp [sizeOf, typeInfo, he, hi, hs1, sliced, Result.andThen]
  have hd := Own.drop hown hk
  refine wpList_plain hg fun K' hK' => ?_
  unfold Oper.wp
  simp [execOp, hop, hx, hl, hrun, Result.andThen]
  have hk' := hK _ _ hd (by
    cases ad with
    | none => simp [Value.ownBlock]
    | some b => by_cases hc : cap = k <;> by_cases hk0 : k = 0 <;> simp [hc, hk0, Value.ownBlock, Addr.add])
  simp only [Nat.mul_one] at hk'
  exact hK' _ _ hk'

/-- the layers from which a new one is dropped -/
def dropN (c0 : LC) (cs : List LC) : LC := cs.foldl dropC c0
theorem dropN_snoc (c0 : LC) (cs : List LC) (c : LC) : dropN c0 (cs ++ [c]) = dropC (dropN c0 cs) c := by simp [dropN, List.foldl_append]
theorem nearL_length (n : Nat) (s : List Int) (a : Nat) : (nearL n s a).length = a + 1 := by simp [nearL]
theorem nearL_get (n : Nat) (s : List Int) (a i : Nat) (h : i ≤ a) : (nearL n s a)[i]? = some (nearC n s i) := by
  simp [nearL, List.getElem?_map, List.getElem?_range (show i < a + 1 by omega)]
theorem nearL_succ (n : Nat) (s : List Int) (a : Nat) : nearL n s (a + 1) = nearL n s a ++ [nearC n s (a + 1)] := by simp [nearL, List.range_succ]
/-- what a wave grows by -/
theorem grow_near {n : Nat} {s : List Int} (hs : St n s) (a : Nat) : EqC n (dropN (behindC n (nearC n s a)) ((nearL n s a).drop (a - 1))) (nearC n s (a + 1)) := by
  cases a with
  | zero => exact grown_first hs
  | succ a =>
    have e : (nearL n s (a + 1)).drop (a + 1 - 1) = [nearC n s a, nearC n s (a + 1)] := by
      apply List.ext_getElem?
      intro i
      rw [List.getElem?_drop]
      match i with
      | 0 => rw [nearL_get n s _ _ (by omega)]; rfl
      | 1 => rw [nearL_get n s _ _ (by omega)]; rfl
      | i + 2 => rw [List.getElem?_eq_none (by rw [nearL_length]; omega)]; rfl
    rw [e]
    exact grown_next hs a
theorem nearC_le {n : Nat} {s : List Int} (h7 : n ≤ 7) {a : Nat} (ha : a ≤ 15) (q : List Int) : nearC n s a q ≤ 470184984576 := by
  unfold nearC
  split
  · exact Nat.le_trans (ways_le _ _ _ _) (pow_bound h7 ha)
  · omega

set_option maxHeartbeats 4000000 in
set_option maxRecDepth 100000 in
theorem wgrown_any (n B : Nat) (v : Value) (ms : List Nat) (s : List Int) (a : Nat) (w : World) (hn : Hid (Cnt n)) (h7 : n ≤ 7) (hs : Hid (St n s)) (h : Wv n w B v ms (nearL n s a)) (ha : a ≤ 14) (hBw : B ≤ w.heap.size) :
    Calls Try.prog 119 #[v, .int .i64 n] w fun e w' => ∃ g cap b, e = .returned (.slice (some ⟨g, 0, none⟩) (ms.length + 1) cap) ∧ Wv n w' B (.slice (some ⟨g, 0, none⟩) (ms.length + 1) cap) (ms ++ [b]) (nearL n s (a + 1)) ∧ w.grownBy w' v.ownBlock ∧ (v.ownBlock = some g ∨ w.heap.size ≤ g) ∧ w.heap.size ≤ b := by
  have hml : ms.length = a + 1 := by rw [h.len, nearL_length]
  have hne : ms ≠ [] := by rintro rfl; simp at hml
  obtain ⟨g0, cap0, rfl, hg0, hgl, hcap0, hcell⟩ := h.shape hne
  obtain ⟨ba, hba⟩ : ∃ b, ms[a]? = some b := ⟨_, List.getElem?_eq_getElem (by omega)⟩
  have hlast : ms.getLast? = some ba := by rw [List.getLast?_eq_getElem?, hml]; exact hba
  have hla := (h.lay a ba _ hba (nearL_get n s a a (Nat.le_refl _))).1
  have hml2 : ms.length ≤ 1048576 := by omega
  obtain ⟨iL, hI, hI0, hI1, hI2⟩ := info_parts Try.infoLy
  have HI := Lib.hid hI
  have HI0 := Lib.hid hI0
  have HI1 := Lib.hid hI1
  have HI2 := Lib.hid hI2
  have HML := Lib.hid hml
  have HBA := Lib.hid hba
  have HLAST := Lib.hid hlast
  have HM := Lib.hid (show ∀ q, St n q → nearC n s a q ≤ 470184984576 from fun q _ => nearC_le h7 (by omega) q)
  obtain ⟨len, hlen⟩ : ∃ l, ms.length = l := ⟨_, rfl⟩
  have hla1 : len ≤ a + 1 := by omega
  have hla2 : a + 1 ≤ len := by omega
  have HLEN := Lib.hid hlen
  rw [hlen] at hml2 hcap0 h ⊢
  have HCELL := Lib.hid hcell
  clear hI hI0 hI1 hI2 hml hba hlast hlen hcell
  have hWown := h.own
  go_enter Try.func119, Try.ntmps119
  go_wp2_with fail
  refine (wlast_any n B _ ms _ ba w h HLAST.out (by have := HLEN.out; omega)).mono ?_
  rintro e w0 ⟨rfl, rfl⟩
  go_wp2_with fail
  refine (lbehind_any n ba _ 470184984576 w hn hla HM (Nat.le_refl _)).mono ?_
  rintro e w1 ⟨b', rfl, hly, hb', hb1⟩
  have hsz1 := hb1.size
  have hw1 := h.below hb1 (Nat.le_refl _)
  obtain ⟨K, hK⟩ : ∃ K, a - 1 = K := ⟨_, rfl⟩
  have HKA := Lib.hid hK
  have hKa : K ≤ a := by omega
  have hKa2 : a ≤ K + 1 := by omega
  have hKl : K ≤ len := by omega
  have hKm : max (0 : Int) ((len : Int) - 2) = (K : Int) := by omega
  have hown1 : Own w1 1 (.slice (some ⟨g0, 0, none⟩) len cap0) len (ms.map mv) := (Own.of_row (show w1.ownsRow B 68 1 (.slice (some ⟨g0, 0, none⟩) len cap0) len (ms.map mv) by have := hw1.own; rw [HLEN.out] at this; exact this)).1
  have HKM := Lib.hid hKm
  have hB1 := hb1
  have hwo : w1.ownsRow B 68 1 (.slice (some ⟨g0, 0, none⟩) len cap0) ms.length (ms.map mv) := hw1.own
  clear hb1 hK
  go_upto_region 2 with fail
  go_cut [17, 18, 19] (fun s17 s18 s19 wx => ∃ sp c m, s17 = .slice sp m c ∧ s18 = .int .i64 (m : Nat) ∧ s19 = .int .i64 0 ∧ m + K = len ∧ Own wx 1 (.slice sp m c) m ((ms.drop K).map mv) ∧ (Value.slice sp m c).ownBlock = some g0 ∧ wx = w1)
  case first =>
    by_cases hl2 : (len : Int) ≤ 2
    · have hK0 : K = 0 := by omega
      subst hK0
      clear hKm
      go_wp2
      go_meet
      exact ⟨_, _, len, rfl, rfl, rfl, by omega, hown1, rfl, rfl⟩
    · have hl3 : (2 : Int) < len := by omega
      have hKe : (len : Int) - 2 = (K : Int) := by omega
      have HKE := Lib.hid hKe
      clear hKm hl2 hKe
      go_wp2_with (refine wpList_fromOwn rfl _ _ 61 68 rfl iL Try.underlying61 HI.out HI1.out _ len cap0 K _ rfl rfl HKE.out hKl _ hown1 ?_; intro sp c hsub hsb)
      go_meet
      rw [← List.map_drop] at hsub
      exact ⟨sp, c, len - K, rfl, rfl, rfl, by omega, hsub, hsb, rfl⟩
  case rest =>
    obtain ⟨sp, c, m, rfl, rfl, rfl, hmK, hsub, hsb, rfl⟩ := hcut
    clear hKm hown1
    have HSUB := Lib.hid hsub
    have hm0 : 0 < m := by omega
    have HDL := Lib.hid (show (ms.drop K).length = m by rw [List.length_drop, HLEN.out]; omega)
    obtain ⟨gs, os, hsp, hgs, hcs, _⟩ := Own.at hsub (by have := hsub.shape; obtain ⟨_, _, he, h1, _⟩ := this; simp only [Value.slice.injEq] at he; obtain ⟨_, _, he⟩ := he; omega)
    subst hsp
    have hgg : gs = g0 := by simpa [Value.ownBlock] using hsb
    have hgs0 : gs < w.heap.size := by omega
    clear hgg hsb
    have HCS := Lib.hid hcs
    clear hsub hcs
    go_wp2
    go_loopw [7, 19] (fun _ iv' wr => ∃ j : Nat, j ≤ m ∧ iv' = .int .i64 j ∧ Ly n wr b' (dropN (behindC n (nearC n s a)) ((nearL n s a).drop K |>.take j)) ∧ wc.grownBy wr (some b')) (fun _ i _ => m - (intOf i).toNat)
    case atStart => exact ⟨0, Nat.zero_le _, rfl, hly, ⟨rfl, rfl, rfl, Nat.le_refl _, fun _ _ _ => rfl⟩⟩
    case round =>
      obtain ⟨j, hj, rfl, hlyr, hG⟩ := hrel
      clear hly
      by_cases hjl : j < m
      · have hjl' : (j : Int) < m := by omega
        obtain ⟨bj, hbj⟩ : ∃ x, (ms.drop K)[j]? = some x := ⟨_, List.getElem?_eq_getElem (by rw [HDL.out]; exact hjl)⟩
        have hbj2 : ms[K + j]? = some bj := by rw [← hbj, List.getElem?_drop]
        have hcj : (nearL n s a)[K + j]? = some (nearC n s (K + j)) := nearL_get n s a _ (by omega)
        obtain ⟨hlj, hBj, _⟩ := hw1.lay (K + j) bj _ hbj2 hcj
        have hbjl := hlj.lt
        have hbjm := (h.mem (List.mem_of_getElem? hbj2)).1
        have hnej : b' ≠ bj := by omega
        have hcell := HCS.out j (by omega)
        rw [List.getElem?_map, hbj] at hcell
        have hcellr : wr.cell? ⟨gs, os + j, none⟩ = some (mv bj) := by
          have e : mv bj = mv bj := rfl
          rw [← show wc.cell? ⟨gs, os + j, none⟩ = some (mv bj) from hcell]
          exact World.cell?_of_block (hG.block gs hgs (by simp; omega))
        have HSTEP := Lib.hid (show dropN (behindC n (nearC n s a)) (((nearL n s a).drop K).take (j + 1)) = dropC (dropN (behindC n (nearC n s a)) (((nearL n s a).drop K).take j)) (nearC n s (K + j)) by
          rw [List.take_succ_eq_append_getElem (by rw [List.length_drop, nearL_length]; omega), dropN_snoc]
          congr 1
          rw [List.getElem_drop]
          rw [List.getElem?_eq_getElem (by rw [nearL_length]; omega)] at hcj
          exact Option.some.inj hcj)
        clear hcell hbj hbj2 hcj
        go_wp2_with fail
        refine (ldrop_any n b' bj _ _ wr hn hlyr (hlj.grown hG (by simpa using hnej)) hnej).mono ?_
        rintro e w2 ⟨rfl, hly2, hg2⟩
        have hG2 := hG.andThen hg2 (by intro j hj; cases hj; exact .inr rfl)
        rw [← HSTEP.out] at hly2
        go_wp2
        go_roundw
        case rel => exact ⟨j + 1, by omega, by go_num, hly2, hG2⟩
        case measure => simp [intOf] <;> omega
      · obtain rfl : j = m := by omega
        have hge : (j : Int) ≤ j := Int.le_refl _
        have hlye := hlyr.congr (show EqC n _ (nearC n s (a + 1)) from by
          have h1 := grow_near hs.out a
          rw [HKA.out] at h1
          rw [List.take_of_length_le (by rw [List.length_drop, nearL_length]; omega)]
          exact h1)
        have hwr := hw1.grown hG (fun g hg => by
          cases hg
          exact ⟨by simp [Value.ownBlock]; omega, fun hm => by have := (h.mem hm).1; omega⟩)
        have hownr : wr.ownsRow B 68 1 (.slice (some ⟨g0, 0, none⟩) len cap0) len (ms.map mv) := by
          have := hwr.own
          rw [HLEN.out] at this
          exact this
        have hsr := hG.size
        have hbl := hlye.lt
        clear hlyr HSUB
        go_wp2_with (at_builtin; refine wpList_append_lies _ rfl _ _ 61 rfl B 68 iL _ 1 8 Try.underlying61 HI.out HI0.out HI1.out HI2.out rfl (by omega) (.slice (some ⟨g0, 0, none⟩) len cap0) len (ms.map mv) rfl (hownr.alloc _) _ 1 1 [mv b'] rfl (by simp) (World.news_of_block (heap_alloc_new _ _)) (by simp [Value.oneCell']) (by omega) (by unfold maxLen; omega) (by omega) (by simp; omega) (wr.heap.size + 1) (by simp) ?_)
        intro g9 cap9 w9 hown9 hgr9 hat9 hlt9
        have hwa := hwr.alloc (.cells #[mv b'] 68)
        have HAPP := Lib.hid (Wv.app (cap := cap9) (g := g9) (w' := w9) hwa (hlye.below (below_new wr _) (Nat.le_refl _)) (by omega) (fun hm => by have := (h.mem hm).1; omega) (by simp [Value.ownBlock]; omega) (by rw [HLEN.out]; exact hown9) hgr9 (by
          rcases hat9 with h1 | h1
          · exact .inl h1
          · right; simp; omega))
        have hGa : w.grownBy w9 (some g0) := (((⟨hB1.os, hB1.tape, hB1.output, hB1.size, fun k hk _ => hB1.block k hk⟩ : w.grownBy wc (some g0)).andThen hG (by intro j hj; cases hj; exact .inl hb')).andThen (World.grownBy_alloc wr (.cells #[mv b'] 68) none) (by intro j hj; cases hj)).andThen hgr9 (by intro j hj; right; exact hj)
        have hat : (Value.slice (some ⟨g0, 0, none⟩) len cap0).ownBlock = some g9 ∨ w.heap.size ≤ g9 := by
          rcases hat9 with h1 | h1
          · exact .inl h1
          · right; omega
        go_wp2
        go_ret
        exact ⟨g9, cap9, b', rfl, by rw [nearL_succ]; have := HAPP.out; rw [HLEN.out] at this; exact this, hGa, hat, hb'⟩
end Go.Proofs.Yticpdlgnaphnkaa
