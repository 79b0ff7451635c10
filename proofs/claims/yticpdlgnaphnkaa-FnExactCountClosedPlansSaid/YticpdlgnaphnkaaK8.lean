import Derived.Test.YticpdlgnaphnkaaK7
namespace Go.Proofs.Yticpdlgnaphnkaa
open Go Go.RowKit Go.Pan

theorem ApW.grow2 {n B : Nat} {w : World} {v v2 : Value} {ms ms2 : List Nat} {cs2 : List LC} {g len cap b : Nat} (h : ApW v ms v2 ms2) (h2 : Wv n w B v2 ms2 cs2) (hat : v.ownBlock = some g ∨ w.heap.size ≤ g) (hb : ¬ (v2.ownBlock = some b ∨ b ∈ ms2)) :
    ApW (.slice (some ⟨g, 0, none⟩) len cap) (ms ++ [b]) v2 ms2 := fun k h1 hk => by
  have hlow := h2.low hk
  rcases h1 with h1 | h1
  · simp [Value.ownBlock] at h1
    subst h1
    rcases hat with h3 | h3
    · exact h _ (.inl h3) hk
    · omega
  · rcases List.mem_append.1 h1 with h1 | h1
    · exact h k (.inr h1) hk
    · simp at h1
      subst h1
      exact hb hk
/-- the layers from s, of which those from i on are on the way to t -/
def mixL (n : Nat) (s t : List Int) (d a i : Nat) : List LC := (List.range (a + 1)).map fun j => if j < i then nearC n s j else wayC n s t j (d - j)
theorem mixL_length (n : Nat) (s t : List Int) (d a i : Nat) : (mixL n s t d a i).length = a + 1 := by simp [mixL]
theorem mixL_get (n : Nat) (s t : List Int) (d a i j : Nat) (h : j ≤ a) : (mixL n s t d a i)[j]? = some (if j < i then nearC n s j else wayC n s t j (d - j)) := by
  simp [mixL, List.getElem?_map, List.getElem?_range (show j < a + 1 by omega)]
/-- the layers of the way, the first m turns of it -/
def wayP (n : Nat) (s t : List Int) (d m : Nat) : List LC := (List.range (m + 1)).map fun j => wayC n s t j (d - j)
theorem wayP_length (n : Nat) (s t : List Int) (d m : Nat) : (wayP n s t d m).length = m + 1 := by simp [wayP]
theorem wayP_get (n : Nat) (s t : List Int) (d m j : Nat) (h : j ≤ m) : (wayP n s t d m)[j]? = some (wayC n s t j (d - j)) := by
  simp [wayP, List.getElem?_map, List.getElem?_range (show j < m + 1 by omega)]
theorem wayP_succ (n : Nat) (s t : List Int) (d m : Nat) : wayP n s t d (m + 1) = wayP n s t d m ++ [wayC n s t (m + 1) (d - (m + 1))] := by simp [wayP, List.range_succ]
theorem mixL_zero (n : Nat) (s t : List Int) (d a : Nat) : mixL n s t d a 0 = wayP n s t d a := by simp [mixL, wayP]
section
variable {n : Nat} {w : World} {B : Nat} {v : Value} {ms : List Nat} {s t : List Int}
theorem mix_start {a b : Nat} (hs : St n s) (ht : St n t) (h : Wv n w B v ms ((nearL n s a).set a (keepC (nearC n s a) (nearC n t b)))) : Wv n w B v ms (mixL n s t (a + b) a a) :=
  h.congr (by rw [mixL_length, List.length_set, nearL_length]) (fun i c c' h1 h2 => by
    have hi : i < a + 1 := by have := (List.getElem?_eq_some_iff.1 h2).1; rwa [mixL_length] at this
    rw [mixL_get _ _ _ _ _ _ _ (by omega)] at h2
    by_cases e : a = i
    · subst e
      rw [List.getElem?_set_self (by rw [nearL_length]; omega)] at h1
      simp at h1 h2
      subst h1
      subst h2
      exact way_mid hs ht a b
    · rw [List.getElem?_set_ne e, nearL_get _ _ _ _ (by omega)] at h1
      rw [if_pos (by omega)] at h2
      simp at h1 h2
      subst h1
      subst h2
      exact EqC.refl _ _)
theorem mix_step {a d m : Nat} (hs : St n s) (ht : St n t) (hd : far n s t = d) (hma : m < a) (had : a ≤ d) (h : Wv n w B v ms ((mixL n s t d a (m + 1)).set m (keepC (nearC n s m) (behindC n (wayC n s t (m + 1) (d - (m + 1))))))) : Wv n w B v ms (mixL n s t d a m) :=
  h.congr (by rw [mixL_length, List.length_set, mixL_length]) (fun i c c' h1 h2 => by
    have hi : i < a + 1 := by have := (List.getElem?_eq_some_iff.1 h2).1; rwa [mixL_length] at this
    rw [mixL_get _ _ _ _ _ _ _ (by omega)] at h2
    by_cases e : m = i
    · subst e
      rw [List.getElem?_set_self (by rw [mixL_length]; omega)] at h1
      rw [if_neg (by omega)] at h2
      simp at h1 h2
      subst h1
      subst h2
      have := way_back (i := m) (j := d - (m + 1)) hs ht (by omega)
      rwa [show d - (m + 1) + 1 = d - m by omega] at this
    · rw [List.getElem?_set_ne e, mixL_get _ _ _ _ _ _ _ (by omega)] at h1
      simp only [Option.some.injEq] at h1 h2
      subst h1
      subst h2
      by_cases hlt : i < m
      · rw [if_pos (by omega), if_pos hlt]; exact EqC.refl _ _
      · rw [if_neg (by omega), if_neg hlt]; exact EqC.refl _ _)
end
theorem wayC_le {n : Nat} {s t : List Int} (h7 : n ≤ 7) {a b : Nat} (ha : a ≤ 15) (q : List Int) : wayC n s t a b q ≤ 470184984576 := by
  unfold wayC
  split
  · exact Nat.le_trans (ways_le _ _ _ _) (pow_bound h7 ha)
  · omega

set_option maxHeartbeats 4000000 in
set_option maxRecDepth 100000 in
theorem way_any (n : Nat) (s t : List Int) (w : World) (hn : Hid (Cnt n)) (h7 : n ≤ 7) (hs : Hid (St n s)) (ht : Hid (St n t)) :
    Calls Try.prog 102 #[tw s, tw t, .int .i64 n] w fun e w' => ∃ g cap ms, e = .returned (.slice (some ⟨g, 0, none⟩) (far n s t + 1) cap) ∧ Wv n w' w.heap.size (.slice (some ⟨g, 0, none⟩) (far n s t + 1) cap) ms (wayP n s t (far n s t) (far n s t)) ∧ Below w.heap.size w w' := by
  have h9s := hs.out.1.le9
  have h9t := ht.out.1.le9
  obtain ⟨W, hW⟩ : ∃ W, W = (w.alloc (.cells (twl s).toArray 54)).alloc (.cells (twl t).toArray 54) := ⟨_, rfl⟩
  have hb1 : Blk W w.heap.size 54 (twl s) := by rw [hW]; exact (Blk.new w _ (twl s) _ rfl).alloc _
  have hb2 : Blk W (w.heap.size + 1) 54 (twl t) := by rw [hW]; exact Blk.new _ _ (twl t) _ (by simp)
  have hB0 : Below w.heap.size w W := by rw [hW]; exact (below_new w _).alloc (by simp) _
  have hf := (far_spec hs.out ht.out).2.1
  have HW := Lib.hid hW
  obtain ⟨d, hd⟩ : ∃ d, far n s t = d := ⟨_, rfl⟩
  rw [hd] at hf ⊢
  have HD := Lib.hid hd
  clear hW hd
  go_enter Try.func102, Try.ntmps102
  go_upto_region 1 with fail
  rw [← HW.out]
  go_wp2_with (first | (refine wpList_load_tower rfl _ rfl w.heap.size s h9s rfl hb1 ?_) | (refine wpList_load_tower rfl _ rfl (w.heap.size + 1) t h9t rfl hb2 ?_))
  refine (meeting_any n s t W hn h7 hs ht).mono ?_
  rintro e w1 ⟨v1, v2, a, b, rfl, ⟨ms1, ms2, hw1, hw2, hap⟩, hfar, hbm⟩
  have hB1 := hB0.trans (hbm.mono hB0.size)
  have hw1 := hw1.mono hB0.size
  have hw2 := hw2.mono hB0.size
  have hab1 : a + b ≤ d := by have := hfar.out; have := HD.out; omega
  have hab2 : d ≤ a + b := by have := hfar.out; have := HD.out; omega
  clear hb1 hb2 hB0 hbm
  have hm1 : ms1.length = a + 1 := by rw [hw1.len, nearL_length]
  have hm2 : ms2.length = b + 1 := by rw [hw2.len, nearL_length]
  have hne1 : ms1 ≠ [] := by rintro rfl; simp at hm1
  have hne2 : ms2 ≠ [] := by rintro rfl; simp at hm2
  obtain ⟨g1, cap1, rfl, hg1, hgl1, hc1, hcell1⟩ := hw1.shape hne1
  obtain ⟨g2, cap2, rfl, hg2, hgl2, hc2, hcell2⟩ := hw2.shape hne2
  obtain ⟨b1, hb1⟩ : ∃ x, ms1[a]? = some x := ⟨_, List.getElem?_eq_getElem (by omega)⟩
  obtain ⟨b2, hb2⟩ : ∃ x, ms2[b]? = some x := ⟨_, List.getElem?_eq_getElem (by omega)⟩
  have hl1 := (hw1.lay a b1 _ hb1 (nearL_get n s a a (Nat.le_refl _))).1
  have hl2 := (hw2.lay b b2 _ hb2 (nearL_get n t b b (Nat.le_refl _))).1
  have HL1 := Lib.hid (show ms1.getLast? = some b1 by rw [List.getLast?_eq_getElem?, hm1]; exact hb1)
  have HL2 := Lib.hid (show ms2.getLast? = some b2 by rw [List.getLast?_eq_getElem?, hm2]; exact hb2)
  have hne12 : b1 ≠ b2 := fun e => hap b1 (.inr (List.mem_of_getElem? hb1)) (.inr (by rw [e]; exact List.mem_of_getElem? hb2))
  have hlm1 : ms1.length ≤ 1048576 := by omega
  have hlm2 : ms2.length ≤ 1048576 := by omega
  have HM1 := Lib.hid hm1
  have HM2 := Lib.hid hm2
  have HB1 := Lib.hid hb1
  have HC2 := Lib.hid hcell2
  obtain ⟨len1, hlen1⟩ : ∃ l, ms1.length = l := ⟨_, rfl⟩
  obtain ⟨len2, hlen2⟩ : ∃ l, ms2.length = l := ⟨_, rfl⟩
  rw [hlen1] at hw1 hap hc1
  rw [hlen2] at hw2 hap hc2
  simp only [hlen1, hlen2]
  have hle1 : len1 ≤ a + 1 := by omega
  have hle2 : len2 ≤ b + 1 := by omega
  have hle3 : a + 1 ≤ len1 := by omega
  have hle4 : b + 1 ≤ len2 := by omega
  have HN1 := Lib.hid hlen1
  have HN2 := Lib.hid hlen2
  clear hlen1 hlen2 hm1 hm2 hb1 hb2 hcell1 hcell2
  go_wp2_with fail
  refine (wlast_any n _ _ ms1 _ b1 w1 hw1 HL1.out (by have := HM1.out; omega)).mono ?_
  rintro e w0 ⟨rfl, rfl⟩
  go_wp2_with fail
  refine (wlast_any n _ _ ms2 _ b2 w1 hw2 HL2.out (by have := HM2.out; omega)).mono ?_
  rintro e w0 ⟨rfl, rfl⟩
  go_wp2_with fail
  refine (lkeep_any n b1 b2 _ _ w1 hn hl1 hl2 hne12).mono ?_
  rintro e w2 ⟨rfl, hly2, hg2⟩
  have hwm := mix_start hs.out ht.out (hw1.turn HB1.out hly2 hg2)
  have hw22 := hw2.grown hg2 (fun g hg => by cases hg; exact ⟨fun e => hap _ (.inr (List.mem_of_getElem? HB1.out)) (.inl e), fun e => hap _ (.inr (List.mem_of_getElem? HB1.out)) (.inr e)⟩)
  have hdd : a + b = d := by omega
  rw [hdd] at hwm
  have hlw1 := hw1.mem (List.mem_of_getElem? HB1.out)
  have hB2 := hB1.grown hg2 hB1.size (by intro k hk; cases hk; exact hlw1.2.1)
  have hla : (len1 : Int) - 2 = (a : Int) - 1 := by omega
  have HLA := Lib.hid hla
  clear hdd hla hlw1 hly2 hg2 hw1 hw2 hB1 hl1 hl2 hgl1 hgl2
  go_wp2_with fail
  rw [HLA.out]
  go_loopw [9] (fun iv' wr => ∃ i : Nat, i ≤ a ∧ iv' = .int .i64 ((i : Int) - 1) ∧ Wv n wr w.heap.size (.slice (some ⟨g1, 0, none⟩) len1 cap1) ms1 (mixL n s t d a i) ∧ Wv n wr w.heap.size (.slice (some ⟨g2, 0, none⟩) len2 cap2) ms2 (nearL n t b) ∧ Below w.heap.size w wr) (fun iv' _ => (intOf iv' + 1).toNat)
  case atStart => exact ⟨a, Nat.le_refl _, rfl, hwm, hw22, hB2⟩
  case round =>
    obtain ⟨i, hia, rfl, hwr, hw2r, hBr⟩ := hrel
    clear hwm hw22 hB2
    have hsr := hBr.size
    cases i with
    | succ m =>
      have e1 : (((m + 1 : Nat) : Int) - 1) = (m : Int) := by omega
      rw [e1]
      have HE1 := Lib.hid e1
      clear e1
      have hm0 : (0 : Int) ≤ (m : Int) := by omega
      have hma : m < a := by omega
      obtain ⟨bm, hbm⟩ : ∃ x, ms1[m]? = some x := ⟨_, List.getElem?_eq_getElem (by have := HM1.out; omega)⟩
      obtain ⟨bi, hbi⟩ : ∃ x, ms1[m + 1]? = some x := ⟨_, List.getElem?_eq_getElem (by have := HM1.out; omega)⟩
      have hlm := (hwr.lay m bm _ hbm (mixL_get n s t d a (m + 1) m (by omega))).1
      have hli := (hwr.lay (m + 1) bi _ hbi (mixL_get n s t d a (m + 1) (m + 1) (by omega))).1
      rw [if_pos (Nat.lt_succ_self m)] at hlm
      rw [if_neg (Nat.lt_irrefl _)] at hli
      have hlm1 := hwr.mem (List.mem_of_getElem? hbm)
      have hgm : g1 ≠ bm := by have := hlm1.2.2; simpa [Value.ownBlock] using this
      obtain ⟨gg, cc, hsh, _, hgl, _, hcl⟩ := hwr.shape hne1
      simp only [Value.slice.injEq, Option.some.injEq, Addr.mk.injEq, and_true] at hsh
      obtain ⟨rfl, hlx, rfl⟩ := hsh
      clear hlx
      have hcm := hcl m bm hbm
      have hci := hcl (m + 1) bi hbi
      have hne2' : ∀ x, x ∈ ms2 → x ≠ bm := fun x hx e => hap bm (.inr (List.mem_of_getElem? hbm)) (.inr (by rw [← e]; exact hx))
      have hne2b : (Value.slice (some ⟨g2, 0, none⟩) len2 cap2).ownBlock ≠ some bm := fun e => hap bm (.inr (List.mem_of_getElem? hbm)) (.inl e)
      have HMC := Lib.hid (show ∀ q, St n q → wayC n s t (m + 1) (d - (m + 1)) q ≤ 470184984576 from fun q _ => wayC_le h7 (by omega) q)
      have hi1 : (m : Int) < len1 := by omega
      have hi1n : m < len1 := by omega
      have hi2n : m + 1 < len1 := by omega
      have hi2 : (m : Int) + 1 < len1 := by omega
      have hi20 : (0 : Int) ≤ (m : Int) + 1 := by omega
      have hi2t : ((m : Int) + 1).toNat = m + 1 := rfl
      have hs1 := IntWalk.i64_in ((m : Int) + 1) (by omega)
      have hblm := hlm.lt
      have HBM := Lib.hid hbm
      clear hbm hbi hcl
      go_wp2_with fail
      go_region_held3 (fun w' => w'.cell? ⟨g1, m, none⟩ = some (mv bm) ∧ w'.cell? ⟨g1, m + 1, none⟩ = some (mv bi)) (first | exact ⟨hcm, hci⟩ | exact ⟨k1, k2⟩ | exact ⟨k3, k4⟩)
        (first
          | (go_at_call 104; refine (lbehind_any n bi _ 470184984576 _ hn (hli.kept (w' := wr.drew) rfl) HMC (Nat.le_refl _)).mono ?_; rintro e w3 ⟨b', rfl, hly3, hb', hb3⟩; have k1 := (hb3.cell (p := ⟨g1, m, none⟩) (by exact hgl)).trans hcm; have k2 := (hb3.cell (p := ⟨g1, m + 1, none⟩) (by exact hgl)).trans hci)
          | (go_at_call 132; refine (lkeep_any n bm b' _ _ _ hn ((hlm.kept (w' := wr.drew) rfl).below hb3 (Nat.le_refl _)) hly3 (by have : wr.heap.size ≤ b' := hb'; omega)).mono ?_; rintro e w4 ⟨rfl, hly4, hg4⟩; have k3 := (World.cell?_of_block (a := ⟨g1, m, none⟩) (hg4.block g1 (Nat.lt_of_lt_of_le hgl hb3.size) (by simpa using hgm))).trans k1; have k4 := (World.cell?_of_block (a := ⟨g1, m + 1, none⟩) (hg4.block g1 (Nat.lt_of_lt_of_le hgl hb3.size) (by simpa using hgm))).trans k2))
      have hwr3 := (hwr.kept (w' := wr.drew) (fun _ _ => rfl)).below hb3 (Nat.le_refl _)
      have hw23 := (hw2r.kept (w' := wr.drew) (fun _ _ => rfl)).below hb3 (Nat.le_refl _)
      have hwr4 := mix_step hs.out ht.out HD.out hma (by omega) (hwr3.turn HBM.out hly4 hg4)
      have hw24 := hw23.grown hg4 (fun g hg => by cases hg; exact ⟨hne2b, fun hx => hne2' _ hx rfl⟩)
      have hB4 := (hBr.drew.trans (hb3.mono hsr)).grown hg4 (by have := hb3.size; have : wr.drew.heap.size = wr.heap.size := rfl; omega) (by intro k hk; cases hk; exact hlm1.2.1)
      clear hwr hw2r hBr hwr3 hw23 hcm hci hs1
      go_wp2
      go_roundw
      case rel => exact ⟨m, by omega, rfl, hwr4, hw24, hB4⟩
      case measure => simp [intOf] <;> omega
    | zero =>
      have e0 : (((0 : Nat) : Int) - 1) = -1 := rfl
      rw [e0]
      rw [mixL_zero] at hwr
      have hlb : (len2 : Int) - 2 = (b : Int) - 1 := by omega
      have HLB := Lib.hid hlb
      clear hia e0 hlb
      go_wp2_with fail
      rw [HLB.out]
      obtain ⟨iL, hI, hI0, hI1, hI2⟩ := info_parts Try.infoLy
      have HI := Lib.hid hI
      have HI0 := Lib.hid hI0
      have HI1 := Lib.hid hI1
      have HI2 := Lib.hid hI2
      have HLA1 := Lib.hid (show len1 = a + 1 by omega)
      have HMD := Lib.hid (show a + b = d by omega)
      clear hI hI0 hI1 hI2
      go_loopw [7, 10, 11] (fun fv iv' _ wr => ∃ (i m l g cap : Nat) (ms : List Nat), i ≤ b ∧ Hid (m + i = d) ∧ Hid (l = m + 1) ∧ iv' = .int .i64 ((i : Int) - 1) ∧ fv = .slice (some ⟨g, 0, none⟩) l cap ∧ Wv n wr w.heap.size (.slice (some ⟨g, 0, none⟩) l cap) ms (wayP n s t d m) ∧ Wv n wr w.heap.size (.slice (some ⟨g2, 0, none⟩) len2 cap2) ms2 (nearL n t b) ∧ ApW (.slice (some ⟨g, 0, none⟩) l cap) ms (.slice (some ⟨g2, 0, none⟩) len2 cap2) ms2 ∧ Below w.heap.size w wr) (fun _ iv' _ _ => (intOf iv' + 1).toNat)
      case atStart => exact ⟨b, a, len1, g1, cap1, ms1, Nat.le_refl _, HMD, HLA1, rfl, rfl, hwr, hw2r, hap, hBr⟩
      case round =>
        obtain ⟨i, m, l, g, cap, ms, hib, hmi, hlm1, rfl, rfl, hwf, hwb, hapx, hBx⟩ := hrel
        have hl1a : l ≤ m + 1 := by have := hlm1.out; omega
        have hl1b : m + 1 ≤ l := by have := hlm1.out; omega
        clear hwr hw2r hap hBr
        have hsx := hBx.size
        have hmd : m ≤ d := by have := hmi.out; omega
        cases i with
        | succ k =>
          have e1 : (((k + 1 : Nat) : Int) - 1) = (k : Int) := by omega
          rw [e1]
          have HE1 := Lib.hid e1
          clear e1
          have hk0 : (0 : Int) ≤ (k : Int) := by omega
          have hml : ms.length = m + 1 := by rw [hwf.len, wayP_length]
          obtain ⟨bl, hbl⟩ : ∃ x, ms[m]? = some x := ⟨_, List.getElem?_eq_getElem (by omega)⟩
          have HLAST := Lib.hid (show ms.getLast? = some bl by rw [List.getLast?_eq_getElem?, hml]; exact hbl)
          have hll := (hwf.lay m bl _ hbl (wayP_get n s t d m m (Nat.le_refl _))).1
          obtain ⟨bk, hbk⟩ : ∃ x, ms2[k]? = some x := ⟨_, List.getElem?_eq_getElem (by have := HM2.out; omega)⟩
          have hlk := (hwb.lay k bk _ hbk (nearL_get n t b k (by omega))).1
          obtain ⟨gg, cc, hsh, _, hgl, _, hcl⟩ := hwb.shape hne2
          simp only [Value.slice.injEq, Option.some.injEq, Addr.mk.injEq, and_true] at hsh
          obtain ⟨rfl, hlx, rfl⟩ := hsh
          clear hlx
          have hck := hcl k bk hbk
          have HMC := Lib.hid (show ∀ q, St n q → wayC n s t m (d - m) q ≤ 470184984576 from fun q _ => wayC_le h7 (by omega) q)
          have hk1 : (k : Int) < len2 := by omega
          have hk1n : k < len2 := by omega
          have hbkl := hlk.lt
          have HML := Lib.hid (show ms.length = l by omega)
          have HWF := Lib.hid (show EqC n (keepC (behindC n (wayC n s t m (d - m))) (nearC n t k)) (wayC n s t (m + 1) (d - (m + 1))) by
            have h1 := way_forth (i := m) (j := k) hs.out ht.out (by have := hmi.out; have := HD.out; omega)
            rw [show d - m = k + 1 by have := hmi.out; omega, show d - (m + 1) = k by have := hmi.out; omega]
            exact h1)
          have HMK := Lib.hid (show m + 1 + k = d by have := hmi.out; omega)
          clear hml hbl hbk hcl
          go_wp2_with fail
          refine (wlast_any n _ _ ms _ bl wr hwf HLAST.out (by have := HML.out; omega)).mono ?_
          rintro e w0 ⟨rfl, rfl⟩
          go_wp2_with fail
          refine (lbehind_any n bl _ 470184984576 wr hn hll HMC (Nat.le_refl _)).mono ?_
          rintro e w3 ⟨b', rfl, hly3, hb', hb3⟩
          have hck3 := (hb3.cell (p := ⟨g2, k, none⟩) (by exact hgl)).trans hck
          have hwf3 := hwf.below hb3 (Nat.le_refl _)
          have hwb3 := hwb.below hb3 (Nat.le_refl _)
          have hB3 := hBx.trans (hb3.mono hsx)
          have hlk3 := hlk.below hb3 (Nat.le_refl _)
          have hz3 := hb3.size
          have hnb1 : b' ∉ ms := fun hm => by have := (hwf.mem hm).1; omega
          have hnb2 : (Value.slice (some ⟨g, 0, none⟩) l cap).ownBlock ≠ some b' := fun e => by have := (hwf.low (.inl e)).1; omega
          have hnb3 : ∀ x, some b' = some x → (Value.slice (some ⟨g2, 0, none⟩) len2 cap2).ownBlock ≠ some x ∧ x ∉ ms2 := fun x hx => by
            cases hx
            exact ⟨fun e => by have := (hwb.low (.inl e)).1; omega, fun hm => by have := (hwb.mem hm).1; omega⟩
          have hbb : b' ≠ bk := by omega
          have hBb' : w.heap.size ≤ b' := by omega
          clear hwf hwb hBx hll hlk hck hb3
          go_wp2_with fail
          refine (lkeep_any n b' bk _ _ w3 hn hly3 hlk3 hbb).mono ?_
          rintro e w4 ⟨rfl, hly4, hg4⟩
          have hly5 := hly4.congr HWF.out
          have hwf4 := hwf3.grown hg4 (fun x hx => by cases hx; exact ⟨hnb2, hnb1⟩)
          have hwb4 := hwb3.grown hg4 hnb3
          have hB4 := hB3.grown hg4 hB3.size (by intro k hk; cases hk; exact hBb')
          have hown4 : w4.ownsRow w.heap.size 68 1 (.slice (some ⟨g, 0, none⟩) l cap) l (ms.map mv) := by
            have := hwf4.own
            rw [HML.out] at this
            exact this
          have hz4 := hB4.size
          clear hwf3 hwb3 hB3 hly3 hly4 hlk3 hg4 hck3
          go_wp2_with (at_builtin; refine wpList_append_lies _ rfl _ _ 61 rfl w.heap.size 68 iL _ 1 8 Try.underlying61 HI.out HI0.out HI1.out HI2.out rfl (by omega) (.slice (some ⟨g, 0, none⟩) l cap) l (ms.map mv) rfl (hown4.alloc _) _ 1 1 [mv b'] rfl (by simp) (World.news_of_block (heap_alloc_new _ _)) (by simp [Value.oneCell']) (by omega) (by unfold maxLen; omega) (by omega) (by simp; omega) (w4.heap.size + 1) (by simp) ?_)
          intro g9 cap9 w9 hown9 hgr9 hat9 hlt9
          have hwfa := hwf4.alloc (.cells #[mv b'] 68)
          have hwba := hwb4.alloc (.cells #[mv b'] 68)
          have hat : (Value.slice (some ⟨g, 0, none⟩) l cap).ownBlock = some g9 ∨ (w4.alloc (.cells #[mv b'] 68)).heap.size ≤ g9 := by
            rcases hat9 with h1 | h1
            · exact .inl h1
            · right; simp; omega
          have hwf9 := Wv.app (cap := cap9) (g := g9) (w' := w9) hwfa (hly5.below (below_new w4 _) (Nat.le_refl _)) hBb' hnb1 hnb2 (by rw [HML.out]; exact hown9) hgr9 hat
          rw [HML.out, ← wayP_succ] at hwf9
          have hwb9 := hwba.aside hapx hgr9
          have hap9 := ApW.grow2 (len := l + 1) (cap := cap9) (b := b') hapx hwba hat (fun h => by rcases h with h | h; exact (hnb3 b' rfl).1 h; exact (hnb3 b' rfl).2 h)
          have hB9 := (hB4.alloc hz4 (.cells #[mv b'] 68)).grown hgr9 (by simp; omega) (by intro x hx; exact (hwf4.low (.inl hx)).2)
          clear hwf4 hwb4 hB4 hwfa hwba hgr9 hat hat9 hown4 hown9
          go_wp2
          go_roundw
          case rel => exact ⟨k, m + 1, l + 1, g9, cap9, ms ++ [b'], by omega, HMK, Lib.hid (by omega), rfl, rfl, hwf9, hwb9, hap9, hB9⟩
          case measure => simp [intOf] <;> omega
        | zero =>
          have e0 : (((0 : Nat) : Int) - 1) = -1 := rfl
          rw [e0]
          have hmd2 : m = d := by have := hmi.out; omega
          rw [hmd2] at hwf
          have HLD := Lib.hid (show l = d + 1 by have := hlm1.out; omega)
          clear e0 hmd2
          go_wp2
          go_ret
          exact ⟨g, cap, ms, by rw [← HLD.out]; rfl, by rw [← HLD.out]; exact hwf, hBx⟩
end Go.Proofs.Yticpdlgnaphnkaa
