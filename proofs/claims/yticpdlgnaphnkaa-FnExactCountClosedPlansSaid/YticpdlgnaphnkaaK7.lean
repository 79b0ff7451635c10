import Derived.Test.YticpdlgnaphnkaaK6
namespace Go.Proofs.Yticpdlgnaphnkaa
open Go Go.RowKit Go.Pan

/-- no block in common -/
def ApW (v : Value) (ms : List Nat) (v' : Value) (ms' : List Nat) : Prop := ∀ g, (v.ownBlock = some g ∨ g ∈ ms) → ¬ (v'.ownBlock = some g ∨ g ∈ ms')
theorem ApW.symm {v v' : Value} {ms ms' : List Nat} (h : ApW v ms v' ms') : ApW v' ms' v ms := fun g h1 h2 => h g h2 h1
theorem ApW.of {n B B' : Nat} {w w' : World} {v v' : Value} {ms ms' : List Nat} {cs cs' : List LC} (h : Wv n w B v ms cs) (h' : Wv n w' B' v' ms' cs') (hB : w.heap.size ≤ B') : ApW v ms v' ms' := fun g h1 h2 => by
  have := h.low h1
  have := h'.low h2
  omega
/-- the first has grown -/
theorem ApW.grow {n B : Nat} {w : World} {v v2 : Value} {ms ms2 : List Nat} {cs2 : List LC} {g len cap b : Nat} (h : ApW v ms v2 ms2) (h2 : Wv n w B v2 ms2 cs2) (hat : v.ownBlock = some g ∨ w.heap.size ≤ g) (hb : w.heap.size ≤ b) :
    ApW (.slice (some ⟨g, 0, none⟩) len cap) (ms ++ [b]) v2 ms2 := fun k h1 hk => by
  have hlow := h2.low hk
  rcases h1 with h1 | h1
  · simp [Value.ownBlock] at h1
    subst h1
    rcases hat with h3 | h3
    · exact h _ (.inl h3) hk
    · omega
  · rcases List.mem_append.1 h1 with h1 | h1
    · exact h k (.inr h1) hk
    · simp at h1
      omega
theorem Wv.aside {n B : Nat} {w w' : World} {v v2 : Value} {ms ms2 : List Nat} {cs2 : List LC} (h2 : Wv n w B v2 ms2 cs2) (h : ApW v ms v2 ms2) (hg : w.grownBy w' v.ownBlock) : Wv n w' B v2 ms2 cs2 :=
  h2.grown hg fun g hg' => ⟨fun e => h g (.inl hg') (.inl e), fun e => h g (.inl hg') (.inr e)⟩
def wlen : Value → Nat
  | .slice _ l _ => l
  | _ => 0
theorem oneL {n : Nat} {s : List Int} (hs : St n s) {w : World} {B : Nat} {v : Value} {b : Nat} (h : Wv n w B v [b] [oneC s]) : Wv n w B v [b] (nearL n s 0) :=
  h.congr (by simp [nearL]) (fun i c c' h1 h2 => by
    have h0 : i < 1 := (List.getElem?_eq_some_iff.1 h1).1
    obtain rfl : i = 0 := by omega
    rw [nearL_get n s 0 0 (Nat.le_refl _)] at h2
    simp at h1 h2
    subst h1
    subst h2
    exact nearC_zero hs)
def Two (n : Nat) (w : World) (B : Nat) (s t : List Int) (a b : Nat) (v1 v2 : Value) : Prop := ∃ ms1 ms2, Wv n w B v1 ms1 (nearL n s a) ∧ Wv n w B v2 ms2 (nearL n t b) ∧ ApW v1 ms1 v2 ms2

set_option maxHeartbeats 4000000 in
set_option maxRecDepth 100000 in
theorem meeting_any (n : Nat) (s t : List Int) (w : World) (hn : Hid (Cnt n)) (h7 : n ≤ 7) (hs : Hid (St n s)) (ht : Hid (St n t)) :
    Calls Try.prog 131 #[tw s, tw t, .int .i64 n] w fun e w' => ∃ v1 v2 a b, e = .returned (.tuple #[v1, v2]) ∧ Two n w' w.heap.size s t a b v1 v2 ∧ Hid (far n s t = a + b) ∧ Below w.heap.size w w' := by
  have h9s := hs.out.1.le9
  have h9t := ht.out.1.le9
  obtain ⟨W, hW⟩ : ∃ W, W = (w.alloc (.cells (twl s).toArray 54)).alloc (.cells (twl t).toArray 54) := ⟨_, rfl⟩
  have hb1 : Blk W w.heap.size 54 (twl s) := by rw [hW]; exact (Blk.new w _ (twl s) _ rfl).alloc _
  have hb2 : Blk W (w.heap.size + 1) 54 (twl t) := by rw [hW]; exact Blk.new _ _ (twl t) _ (by simp)
  have hB0 : Below w.heap.size w W := by rw [hW]; exact (below_new w _).alloc (by simp) _
  have hut := Try.underlying54
  have hs9 : (twl s).length = 9 := twl_length _ h9s
  have ht9 : (twl t).length = 9 := twl_length _ h9t
  have hsz : (Try.prog.info? 54).map (·.size) = some (twl s).length := by rw [Try.infoT, hs9]
  have hszt : (Try.prog.info? 54).map (·.size) = some (twl t).length := by rw [Try.infoT, ht9]
  have hr1 := hb1.range
  have hr2 := hb2.range
  have hl1 := hb1.lt
  have hl2 := hb2.lt
  have hf := (far_spec hs.out ht.out).2.1
  have HW := Lib.hid hW
  have HS9 := Lib.hid hs9
  have HT9 := Lib.hid ht9
  clear hW hs9 ht9
  go_enter Try.func131, Try.ntmps131
  go_upto_region 1 with fail
  rw [← HW.out]
  go_cut [8, 9] (fun s8 s9 wx => Two n wx w.heap.size s t 0 0 s8 s9 ∧ Below w.heap.size w wx)
  case first =>
    refine wp_region_held_drew (S := (fun w' => w'.rangeAt w.heap.size 0 (twl s) ∧ w'.rangeAt (w.heap.size + 1) 0 (twl t))) (by kernel_rfl) (⟨hr1, hr2⟩) (fun hHeld => ?_)
    refine wpAnyH_take (i := 0) rfl (by kernel_rfl) (by kernel_rfl) (by kernel_rfl) (fun _ _ _ h => h) (yieldsIf_load_mid (by rfl) _ _ rfl _ _ rfl _ _ (fun w hw => hw.1) hut rfl hsz) (by assumption) ?_
    try simp only [List.getElem_toArray, List.getElem_cons_zero, List.getElem_cons_succ, Act.put, List.setIfInBounds_toArray, List.set_cons_zero, List.set_cons_succ]
    refine wpAnyH_take (i := 2) rfl (by kernel_rfl) (by kernel_rfl) (by kernel_rfl) (fun _ _ _ h => h) (yieldsIf_load_mid (by rfl) _ _ rfl _ _ rfl _ _ (fun w hw => hw.2) hut rfl hszt) (by assumption) ?_
    try simp only [List.getElem_toArray, List.getElem_cons_zero, List.getElem_cons_succ, Act.put, List.setIfInBounds_toArray, List.set_cons_zero, List.set_cons_succ]
    refine wpAnyH_ready (rs := [1]) (by kernel_rfl) (by simp) ?_
    refine AllReadyH.cons rfl (fun Kc hK => ?_) AllReadyH.nil
    · go_simp
      refine (waveFrom_any n s _ hn hs.out).mono ?_
      rintro e w1 ⟨x1, y1, rfl, hX1, hbA⟩
      go_wp2_with fail
      refine hK.out _ _ ⟨range_below hHeld.1 hbA hl1, range_below hHeld.2 hbA hl2⟩ (fun hHeld => ?_)
      clear hK Kc
      try simp only [List.getElem_toArray, List.getElem_cons_zero, List.getElem_cons_succ, Act.put, List.setIfInBounds_toArray, List.set_cons_zero, List.set_cons_succ]
      have hl1' := Nat.lt_of_lt_of_le hl1 hbA.size
      have hl2' := Nat.lt_of_lt_of_le hl2 hbA.size
      refine wpAnyH_ready (rs := [3]) (by kernel_rfl) (by simp) ?_
      refine AllReadyH.cons rfl (fun Kc hK => ?_) AllReadyH.nil
      go_simp
      refine (waveFrom_any n t _ hn ht.out).mono ?_
      rintro e w2 ⟨x2, y2, rfl, hX2, hbB⟩
      go_wp2_with fail
      refine hK.out _ _ ⟨range_below hHeld.1 hbB hl1', range_below hHeld.2 hbB hl2'⟩ (fun hHeld => ?_)
      clear hK Kc
      try simp only [List.getElem_toArray, List.getElem_cons_zero, List.getElem_cons_succ, Act.put, List.setIfInBounds_toArray, List.set_cons_zero, List.set_cons_succ]
      refine wpAnyH_take (i := 4) (v := ?_) rfl (by kernel_rfl) (by kernel_rfl) (by kernel_rfl) (fun _ _ _ h => h) (Or.inl ⟨by rfl, ?_⟩) (by assumption) ?_
      rotate_left
      · intro w _; go_simp; with_reducible rfl
      try simp only [List.getElem_toArray, List.getElem_cons_zero, List.getElem_cons_succ, Act.put, List.setIfInBounds_toArray, List.set_cons_zero, List.set_cons_succ]
      refine wpAnyH_take (i := 5) (v := ?_) rfl (by kernel_rfl) (by kernel_rfl) (by kernel_rfl) (fun _ _ _ h => h) (Or.inl ⟨by rfl, ?_⟩) (by assumption) ?_
      rotate_left
      · intro w _; go_simp; with_reducible rfl
      try simp only [List.getElem_toArray, List.getElem_cons_zero, List.getElem_cons_succ, Act.put, List.setIfInBounds_toArray, List.set_cons_zero, List.set_cons_succ]
      refine wpAnyH_done (by kernel_rfl) ?_ _
      have hap : ApW x1 [y1] x2 [y2] := ApW.of hX1 hX2 (Nat.le_refl _)
      have hz1 : w.heap.size ≤ W.drew.heap.size := hB0.size
      have hz2 : w.heap.size ≤ w1.heap.size := Nat.le_trans hz1 hbA.size
      have hBB : Below w.heap.size w w2 := (hB0.drew.trans (hbA.mono hz1)).trans (hbB.mono hz2)
      have hTwo : Two n w2 w.heap.size s t 0 0 x1 x2 := ⟨[y1], [y2], oneL hs.out ((hX1.below hbB (Nat.le_refl _)).mono hz1), oneL ht.out (hX2.mono hz2), hap⟩
      go_wp2_with fail
      go_meet
      exact ⟨hTwo, hBB⟩
  case rest =>
    obtain ⟨hT0, hB1⟩ := hcut
    clear hb1 hb2 hr1 hr2 hl1 hl2 hB0 hsz hszt hut
    have hf0 : 0 + 0 ≤ far n s t := by omega
    go_wp2
    go_loopw [8, 9] (fun s8 s9 wr => ∃ a b, Two n wr w.heap.size s t a b s8 s9 ∧ a + b ≤ far n s t ∧ Below w.heap.size w wr) (fun s8 s9 _ => 2 * n + 3 - (wlen s8 + wlen s9))
    case atStart => exact ⟨0, 0, hT0, hf0, hB1⟩
    case round =>
      obtain ⟨a, b, hT, hab, hB⟩ := hrel
      clear hT0 hB1 hf0
      obtain ⟨ms1, ms2, hw1, hw2, hap⟩ := hT
      have hm1 : ms1.length = a + 1 := by rw [hw1.len, nearL_length]
      have hm2 : ms2.length = b + 1 := by rw [hw2.len, nearL_length]
      have hne1 : ms1 ≠ [] := by rintro rfl; simp at hm1
      have hne2 : ms2 ≠ [] := by rintro rfl; simp at hm2
      obtain ⟨g1, cap1, rfl, hg1, hgl1, _, _⟩ := hw1.shape hne1
      obtain ⟨g2, cap2, rfl, hg2, hgl2, _, _⟩ := hw2.shape hne2
      obtain ⟨b1, hb1⟩ : ∃ x, ms1[a]? = some x := ⟨_, List.getElem?_eq_getElem (by omega)⟩
      obtain ⟨b2, hb2⟩ : ∃ x, ms2[b]? = some x := ⟨_, List.getElem?_eq_getElem (by omega)⟩
      have hl1 := (hw1.lay a b1 _ hb1 (nearL_get n s a a (Nat.le_refl _))).1
      have hl2 := (hw2.lay b b2 _ hb2 (nearL_get n t b b (Nat.le_refl _))).1
      have HL1 := Lib.hid (show ms1.getLast? = some b1 by rw [List.getLast?_eq_getElem?, hm1]; exact hb1)
      have HL2 := Lib.hid (show ms2.getLast? = some b2 by rw [List.getLast?_eq_getElem?, hm2]; exact hb2)
      have HM1 := Lib.hid hm1
      have HM2 := Lib.hid hm2
      have hlb1 : ms1.length ≤ 1048576 := by omega
      have hlb2 : ms2.length ≤ 1048576 := by omega
      obtain ⟨len1, hlen1⟩ : ∃ l, ms1.length = l := ⟨_, rfl⟩
      obtain ⟨len2, hlen2⟩ : ∃ l, ms2.length = l := ⟨_, rfl⟩
      rw [hlen1] at hw1 hlb1 hap ⊢
      rw [hlen2] at hw2 hlb2 hap ⊢
      have HLN1 := Lib.hid hlen1
      have HLN2 := Lib.hid hlen2
      have hbd1 : len1 ≤ 15 := by omega
      have hle1 : len1 ≤ a + 1 := by omega
      have hle2 : len2 ≤ b + 1 := by omega
      have hbd2 : len2 ≤ 15 := by omega
      have hsr := hB.size
      clear hlen1 hlen2 hm1 hm2 hb1 hb2
      go_wp2_with fail
      refine (wlast_any n _ _ ms1 _ b1 wr hw1 HL1.out (by have := HM1.out; omega)).mono ?_
      rintro e w0 ⟨rfl, rfl⟩
      go_wp2_with fail
      refine (wlast_any n _ _ ms2 _ b2 wr hw2 HL2.out (by have := HM2.out; omega)).mono ?_
      rintro e w0 ⟨rfl, rfl⟩
      go_wp2_with fail
      refine (lmeets_any n b1 b2 _ _ wr hl1 hl2).mono ?_
      rintro e w3 ⟨r, rfl, hr, hb3⟩
      have hw13 := hw1.below hb3 (Nat.le_refl _)
      have hw23 := hw2.below hb3 (Nat.le_refl _)
      have hB3 := hB.trans (hb3.mono hsr)
      have hl13 := hl1.below hb3 (Nat.le_refl _)
      have hl23 := hl2.below hb3 (Nat.le_refl _)
      have hsr3 := hB3.size
      have HMT := Lib.hid (hr.trans (near_meet hs.out ht.out hab))
      clear hr hb3 hw1 hw2 hl1 hl2 hB
      cases r with
      | true =>
        have HF := Lib.hid (HMT.out.1 rfl)
        go_wp2
        go_ret2
        exact ⟨_, _, a, b, rfl, ⟨ms1, ms2, hw13, hw23, hap⟩, HF, hB3⟩
      | false =>
        have hlt : a + b < far n s t := by
          by_cases e : far n s t = a + b
          · have := HMT.out.2 e; cases this
          · omega
        obtain ⟨D1, ho1, _⟩ := hl13
        obtain ⟨D2, ho2, _⟩ := hl23
        have hsz1 := ho1.size_le
        have hsz2 := ho2.size_le
        have hfl := fact_le hn.out.le
        go_wp2_with fail
        refine (wlast_any n _ _ ms1 _ b1 w3 hw13 HL1.out (by have := HM1.out; omega)).mono ?_
        rintro e w0 ⟨rfl, rfl⟩
        go_wp2_with (at_len; refine wpList_len_own _ rfl _ 68 rfl 54 3 Try.underlying68 _ b1 (fact n) D1 rfl ho1 ?_)
        refine (wlast_any n _ _ ms2 _ b2 w3 hw23 HL2.out (by have := HM2.out; omega)).mono ?_
        rintro e w0 ⟨rfl, rfl⟩
        by_cases hcmp : (Maps.size D1 : Int) < (Maps.size D2 : Int)
        · go_wp2_with (at_len; refine wpList_len_own _ rfl _ 68 rfl 54 3 Try.underlying68 _ b2 (fact n) D2 rfl ho2 ?_)
          have c := wgrown_any n w.heap.size _ ms1 s a w3 hn h7 hs hw13 (by omega) hsr3
          rw [HLN1.out] at c
          refine c.mono ?_
          rintro e w5 ⟨g5, cap5, b5, rfl, hw5, hgr5, hat5, hb5⟩
          have hw25 := hw23.aside hap hgr5
          have hap5 := ApW.grow (len := len1 + 1) (cap := cap5) hap hw23 hat5 hb5
          have hB5 := hB3.grown hgr5 hsr3 (by intro k hk; simp [Value.ownBlock] at hk; omega)
          clear c hw13 hw23 hap hB3 ho1 ho2 hgr5
          go_wp2
          go_roundw
          case rel => exact ⟨a + 1, b, ⟨ms1 ++ [b5], ms2, hw5, hw25, hap5⟩, by omega, hB5⟩
          case measure => simp [wlen] <;> omega
        · go_wp2_with (at_len; refine wpList_len_own _ rfl _ 68 rfl 54 3 Try.underlying68 _ b2 (fact n) D2 rfl ho2 ?_)
          have c := wgrown_any n w.heap.size _ ms2 t b w3 hn h7 ht hw23 (by omega) hsr3
          rw [HLN2.out] at c
          refine c.mono ?_
          rintro e w5 ⟨g5, cap5, b5, rfl, hw5, hgr5, hat5, hb5⟩
          have hw15 := hw13.aside hap.symm hgr5
          have hap5 := (ApW.grow (len := len2 + 1) (cap := cap5) hap.symm hw13 hat5 hb5).symm
          have hB5 := hB3.grown hgr5 hsr3 (by intro k hk; simp [Value.ownBlock] at hk; omega)
          clear c hw13 hw23 hap hB3 ho1 ho2 hgr5
          go_wp2
          go_roundw
          case rel => exact ⟨a, b + 1, ⟨ms1, ms2 ++ [b5], hw15, hw5, hap5⟩, by omega, hB5⟩
          case measure => simp [wlen] <;> omega
end Go.Proofs.Yticpdlgnaphnkaa
