import Derived.Test.YtkeenoklghkonaaV22
namespace Go.Proofs.Ytkeenoklghkonaa
open Go Go.RowKit Go.Pan

/-- the state of the search, its lists told by the places found -/
structure FQ (m B : Nat) (w : World) (bl : Nat) (a f t o : Nat × Nat) (Q : List Nat) (S : List Value) (ord : List Nat) (tv : Value) : Prop where
  fs : FS B w bl a f t o (Cd m Q) (Fd m Q) S (Xd m Q) (Od ord)
  or : Ord (Cd m Q) ord
  ts : OwnC c2 w tv (segsAll m)
  ap : ∀ g, tv.ownBlock = some g → g ≠ bl ∧ g ≠ a.1 ∧ g ≠ f.1 ∧ g ≠ t.1 ∧ g ≠ o.1
theorem FQ.keep {m B : Nat} {w w' : World} {bl : Nat} {a f t o : Nat × Nat} {Q : List Nat} {S : List Value} {ord : List Nat} {tv : Value} (h : FQ m B w bl a f t o Q S ord tv) (hk : ∀ g, g < w.heap.size → w'.heap[g]? = w.heap[g]?) : FQ m B w' bl a f t o Q S ord tv :=
  ⟨h.fs.keep fun g _ hg => hk g hg, h.or, Own.kept h.ts fun g hg => hk g (Own.lt h.ts g hg), h.ap⟩
theorem FQ.same {m B : Nat} {w w' : World} {bl : Nat} {a f t o : Nat × Nat} {Q : List Nat} {S : List Value} {ord : List Nat} {tv : Value} (h : FQ m B w bl a f t o Q S ord tv) (hb : Below w.heap.size w w') : FQ m B w' bl a f t o Q S ord tv := h.keep fun g hg => hb.block g hg
theorem FQ.drew {m B : Nat} {w : World} {bl : Nat} {a f t o : Nat × Nat} {Q : List Nat} {S : List Value} {ord : List Nat} {tv : Value} (h : FQ m B w bl a f t o Q S ord tv) : FQ m B w.drew bl a f t o Q S ord tv := h.keep fun _ _ => rfl
theorem FQ.alloc {m B : Nat} {w : World} {bl : Nat} {a f t o : Nat × Nat} {Q : List Nat} {S : List Value} {ord : List Nat} {tv : Value} (h : FQ m B w bl a f t o Q S ord tv) (ob : Obj) : FQ m B (w.alloc ob) bl a f t o Q S ord tv := h.keep fun g hg => Below.heap_alloc w ob g hg
theorem FQ.lens {m B : Nat} {w : World} {bl : Nat} {a f t o : Nat × Nat} {Q : List Nat} {S : List Value} {ord : List Nat} {tv : Value} (h : FQ m B w bl a f t o Q S ord tv) : S.length = Q.length ∧ ord.length = Q.length := by
  have h1 := h.fs.lX
  have h2 := h.or.len
  rw [Xd_length] at h1
  rw [Cd_length] at h2
  exact ⟨h1, h2⟩
/-- the row at a place -/
theorem FQ.rowAt {m B : Nat} {w : World} {bl : Nat} {a f t o : Nat × Nat} {Q : List Nat} {S : List Value} {ord : List Nat} {tv : Value} (h : FQ m B w bl a f t o Q S ord tv) {p r : Nat} (hp : Q[p]? = some r) :
    ∃ u, w.cell? ⟨t.1, p, none⟩ = some u ∧ OwnI w u (unrank m r) := by
  have hl := h.lens.1
  have hpl : p < Q.length := (List.getElem?_eq_some_iff.1 hp).1
  have hu : S[p]? = some (S[p]'(by omega)) := List.getElem?_eq_getElem _
  refine ⟨_, ?_, (h.fs.row p _ (unrank m r) hu (by unfold Xd; rw [List.getElem?_map, hp]; rfl)).1⟩
  have := h.fs.st.cellAt p (by omega)
  rw [this, hu]
theorem FQ.farAt {m B : Nat} {w : World} {bl : Nat} {a f t o : Nat × Nat} {Q : List Nat} {S : List Value} {ord : List Nat} {tv : Value} (h : FQ m B w bl a f t o Q S ord tv) {p r : Nat} (hp : Q[p]? = some r) :
    w.cell? ⟨f.1, p, none⟩ = some (.int .i64 ((sgBd m).d r : Int)) := by
  have hpl : p < Q.length := (List.getElem?_eq_some_iff.1 hp).1
  have := h.fs.far.cellAt p (by rw [Fd_length]; omega)
  rw [this]
  unfold Fd
  rw [List.getElem?_map, List.getElem?_map, hp]
  rfl
theorem code_mem {m : Nat} (h1 : 1 ≤ m) (h6 : m ≤ 6) {Q : List Nat} (hQ : ∀ r ∈ Q, r < fact m) {x : Nat} (hx : x < fact m) : codeL (unrank m x) ∈ Cd m Q ↔ x ∈ Q := by
  constructor
  · intro h
    obtain ⟨r, hr, e⟩ := List.mem_map.1 h
    have s1 := unrank_st h1 (by omega) (hQ r hr)
    have s2 := unrank_st h1 (by omega) hx
    have hb : ∀ q, St m q → ∀ y ∈ q, 1 ≤ y ∧ y ≤ 6 := fun q hq y hy => by have := hq.1.2.2.1 y hy; have := hq.2; omega
    have := codeL_inj (by rw [s1.2, s2.2]) (hb _ s1) (hb _ s2) e
    have e2 : rankL (unrank m r) = rankL (unrank m x) := by rw [this]
    rw [rank_unrank (hQ r hr), rank_unrank hx] at e2
    rw [← e2]; exact hr
  · intro h; exact List.mem_map.2 ⟨x, h, rfl⟩

set_option maxHeartbeats 8000000 in
set_option maxRecDepth 100000 in
theorem sgFind_any (m : Nat) (w : World) (h1 : 1 ≤ m) (h6 : m ≤ 6) :
    Calls Try.prog 86 #[.int .i64 m] w fun e w' => ∃ bl a f t o Q S ord tv, e = .returned (.tuple #[.pointer (some ⟨bl, 0, none⟩), sl o (Od ord).length]) ∧ FQ m w.heap.size w' bl a f t o Q S ord tv ∧ SQ (sgBd m) Q Q.length ∧ Below w.heap.size w w' := by
  have HG := Lib.hid (sgBd_ok h1 h6)
  obtain ⟨iI, hI, hI0, hI1, hI2⟩ := info_parts Try.info3
  obtain ⟨iS, hS, hS0, hS1, hS2⟩ := info_parts Try.info22
  have HI := Lib.hid hI
  have HI0 := Lib.hid hI0
  have HI1 := Lib.hid hI1
  have HI2 := Lib.hid hI2
  have HS := Lib.hid hS
  have HS0 := Lib.hid hS0
  have HS1 := Lib.hid hS1
  have HS2 := Lib.hid hS2
  have hst := St.ramp m h1 (by omega)
  have hbd : ∀ x ∈ ramp 1 m, 1 ≤ x ∧ x ≤ 6 := fun x hx => by have := mem_ramp.1 hx; omega
  have HBD := Lib.hid hbd
  have hl6 : (ramp 1 m).length ≤ 6 := by rw [ramp_length]; exact h6
  have hun0 : unrank m 0 = ramp 1 m := by
    have := unrank_rank h1 (by omega) hst
    rwa [rankL_ramp] at this
  have HU := Lib.hid hun0
  clear hI hI0 hI1 hI2 hS hS0 hS1 hS2 hbd hst hun0
  go_enter Try.func86, Try.ntmps86
  go_wp2_with fail
  refine (stFirst_any m _ (by omega)).mono ?_
  rintro e w1 ⟨u, rfl, hu, hfu, hb1⟩
  obtain ⟨au, cu, rfl, _, _, _⟩ := hu.shape
  go_wp2_with fail
  refine (sgCode_any _ _ _ hu HBD hl6).mono ?_
  rintro e w2 ⟨rfl, hb2⟩
  have hu2 := hu.same hb2
  have hB2 := hb1.trans (hb2.mono hb1.size)
  have hs2 := hB2.size
  have hfs := FS.start (codeL (ramp 1 m)) hu2 hfu hs2
  clear hu hb1 hb2 hfu
  go_wp2_with fail
  refine (sgAll_any m _ h1 (by omega)).mono ?_
  rintro e w3 ⟨tv, rfl, hts, hft, hb3⟩
  obtain ⟨ta, tc, rfl, htc, _, _⟩ := hts.shape
  have hfs3 := hfs.same hb3
  have hB3 : Below w.heap.size w w3 := (((((hB2.alloc hs2 (.cells #[.int .i64 (codeL (ramp 1 m))] 3)).alloc (by simp; omega) (.cells #[.int .i64 0] 3)).alloc (by simp; omega) (.cells #[.slice au (ramp 1 m).length cu] 22)).alloc (by simp; omega) (.cells #[sl (w2.heap.size, 1) 1, sl (w2.heap.size + 1, 1) 1, sl (w2.heap.size + 1 + 1, 1) 1] 99)).alloc (by simp; omega) (.cells #[.int .i64 0] 3)).trans (hb3.mono (by simp; omega))
  have hQ0 : FQ m w.heap.size w3 (w2.heap.size + 1 + 1 + 1) (w2.heap.size, 1) (w2.heap.size + 1, 1) (w2.heap.size + 1 + 1, 1) (w2.heap.size + 1 + 1 + 1 + 1, 1) [0] [.slice au (ramp 1 m).length cu] [0] (.slice ta (segsAll m).length tc) := by
    have e1 : Cd m [0] = [codeL (ramp 1 m)] := by unfold Cd; rw [List.map_singleton, HU.out]
    have e2 : Fd m [0] = [0] := by unfold Fd; rw [List.map_singleton, HG.out.d0]; rfl
    have e3 : Xd m [0] = [ramp 1 m] := by unfold Xd; rw [List.map_singleton, HU.out]
    refine ⟨by rw [e1, e2, e3]; exact hfs3, by rw [e1]; exact Ord.one _, hts, fun g hg => ?_⟩
    have := hft g hg
    simp at this
    simp
    omega
  have hSQ0 := Lib.hid (SQ.start HG.out)
  obtain ⟨bl, hbl⟩ : ∃ x, w2.heap.size + 1 + 1 + 1 = x := ⟨_, rfl⟩
  rw [hbl] at hQ0 ⊢
  have HNN := Lib.hid (show (sgBd m).N = fact m from rfl)
  have hfm := fact_le (n := m) (by omega)
  have hsn := sgN_le h6
  have hsn2 : (segsAll m).length ≤ 15 := hsn
  clear hfs hfs3 hts hft hb3 hu2 hB2 hbl
  go_wp2
  go_loopw [6, 8, 10, 11, 12, 13, 36, 37, 38] (fun v6 v8 _ _ _ _ _ _ _ wr => ∃ (p : Nat) (Q : List Nat) (a f t o : Nat × Nat) (S : List Value) (ord : List Nat), v8 = .int .i64 p ∧ v6 = sl o (Od ord).length ∧ Hid (SQ (sgBd m) Q p) ∧ FQ m w.heap.size wr bl a f t o Q S ord (.slice ta (segsAll m).length tc) ∧ Below w.heap.size w wr) (fun _ v8 _ _ _ _ _ _ _ _ => fact m - (intOf v8).toNat)
  case atStart => exact ⟨0, [0], _, _, _, _, _, _, rfl, rfl, hSQ0, hQ0, hB3⟩
  case round =>
    obtain ⟨p, Q, a, f, t, o, S, ord, rfl, rfl, hSQ, hQ, hbr⟩ := hrel
    clear hQ0 hSQ0 hB3
    have hQN : Q.length ≤ fact m := by have := hSQ.out.length_le; rwa [HNN.out] at this
    obtain ⟨c0, c1, c2⟩ := hQ.fs.fields
    by_cases hlt : p < Q.length
    · have hlt' : (p : Int) < ((Cd m Q).length : Int) := by rw [Cd_length]; omega
      obtain ⟨x, hx⟩ : ∃ x, Q[p]? = some x := ⟨_, List.getElem?_eq_getElem hlt⟩
      have hSI0 := Lib.hid (hSQ.out.inner hx)
      have HX := Lib.hid hx
      have hpf : p < fact m := by omega
      clear hx hSQ
      go_wp2
      obtain ⟨wo, hwo⟩ : ∃ x, wr = x := ⟨_, rfl⟩
      rw [hwo] at hQ hbr c0 c1 c2 ⊢
      clear hwo
      go_loopw [6, 10, 11, 12, 13, 38] (fun v6 _ _ _ _ v38 wr => ∃ (j : Nat) (Q : List Nat) (a f t o : Nat × Nat) (S : List Value) (ord : List Nat), v38 = .int .i64 j ∧ j ≤ (segsAll m).length ∧ v6 = sl o (Od ord).length ∧ Hid (SI (sgBd m) Q p x (j + 1)) ∧ FQ m w.heap.size wr bl a f t o Q S ord (.slice ta (segsAll m).length tc) ∧ Below w.heap.size w wr) (fun _ _ _ _ _ v38 _ => (segsAll m).length - (intOf v38).toNat)
      case atStart => exact ⟨0, Q, a, f, t, o, S, ord, rfl, Nat.zero_le _, rfl, hSI0, hQ, hbr⟩
      case round =>
        obtain ⟨j, Q', a', f', t', o', S', ord', rfl, hj, rfl, hSI, hQ', hbr'⟩ := hrel
        clear hQ hbr hSI0 c0 c1 c2 hlt hlt'
        by_cases hjl : j < (segsAll m).length
        · have hsi := hSI.out
          have hQlen := hsi.toSQ.length_le
          rw [HNN.out] at hQlen
          obtain ⟨tb, toff, hta, htl, hra⟩ := OwnC.rowAt hQ'.ts hjl
          subst hta
          obtain ⟨q2, hq2⟩ : ∃ q, (segsAll m)[j] = q := ⟨_, rfl⟩
          have HB2 := Lib.hid (show segB m q2 = true by rw [← hq2]; exact (segsAll_B h1 (by omega)).1 (List.getElem_mem hjl))
          have hat : sgAt m (j + 1) = q2 := by
            unfold sgAt
            rw [Nat.add_sub_cancel, List.getD_eq_getElem?_getD, List.getElem?_eq_getElem hjl]
            exact hq2
          rw [hq2] at hra
          have hra' : wr.rangeAt tb (toff + j * 2) [.int .i64 q2.1, .int .i64 q2.2] := hra
          have hszs : (Try.prog.info? 85).map (·.size) = some ([.int .i64 q2.1, .int .i64 q2.2] : List Value).length := infoSegment
          have hut := Try.underlying85
          have hxf : x < fact m := by have := hsi.lt x (List.mem_of_getElem? hsi.cur); rwa [HNN.out] at this
          have hstx := unrank_st h1 (by omega) hxf
          have hks : j + 1 ∈ (sG m).ks := mem_sks.2 ⟨by omega, hjl⟩
          have hhi : j + 1 < (sgBd m).hi := by rw [sgBd_hi]; exact Nat.succ_lt_succ hjl
          have hnl : (sgBd m).nb x (j + 1) < fact m := by
            have := HG.out.lt x (j + 1) (by rw [HNN.out]; exact hxf) (by rw [sgBd_lo]; omega) hhi
            rwa [HNN.out] at this
          have hnb : unrank m ((sgBd m).nb x (j + 1)) = segT (unrank m x) q2 := by rw [sgBd_nb h1 h6 hxf hks, hat]
          have HHI := Lib.hid hhi
          have HLO := Lib.hid (show (sgBd m).lo ≤ j + 1 by rw [sgBd_lo]; omega)
          obtain ⟨nb, hnbe⟩ : ∃ y, (sgBd m).nb x (j + 1) = y := ⟨_, rfl⟩
          have HNB := Lib.hid hnbe
          rw [hnbe] at hnb hnl
          obtain ⟨R, hR⟩ : ∃ R, segT (unrank m x) q2 = R := ⟨_, rfl⟩
          have HR := Lib.hid hR
          rw [hR] at hnb
          have HUR := Lib.hid hnb
          have hsR : St m R := by rw [← hnb]; exact unrank_st h1 (by omega) hnl
          have hR6 : R.length ≤ 6 := by rw [hsR.2]; exact h6
          have HBR := Lib.hid (show ∀ y ∈ R, 1 ≤ y ∧ y ≤ 6 from fun y hy => by have := hsR.1.2.2.1 y hy; omega)
          have HXL := Lib.hid (show ((unrank m x).length : Int) = (m : Int) by rw [hstx.2])
          have hxl : (unrank m x).length ≤ 1048576 := by rw [hstx.2]; omega
          obtain ⟨cc, hcc⟩ : ∃ c, codeL R = c := ⟨_, rfl⟩
          have HCC := Lib.hid hcc
          have hQA := hQ'.alloc (.cells #[.int .i64 q2.1, .int .i64 q2.2] 85)
          have hzA : Blk (wr.alloc (.cells #[.int .i64 q2.1, .int .i64 q2.2] 85)) wr.heap.size 85 [.int .i64 q2.1, .int .i64 q2.2] := Blk.new wr _ _ _ rfl
          have hBA := hbr'.alloc hbr'.size (.cells #[.int .i64 q2.1, .int .i64 q2.2] 85)
          have hAs : (wr.alloc (.cells #[.int .i64 q2.1, .int .i64 q2.2] 85)).heap.size = wr.heap.size + 1 := by simp
          obtain ⟨WA, hWA⟩ : ∃ x, wr.alloc (.cells #[.int .i64 q2.1, .int .i64 q2.2] 85) = x := ⟨_, rfl⟩
          have HWA := Lib.hid hWA
          rw [hWA] at hQA hzA hBA hAs
          have hws : w.heap.size ≤ wr.heap.size := hbr'.size
          obtain ⟨u, hcu, hou⟩ := hQA.rowAt hsi.cur
          obtain ⟨c0, c1, c2⟩ := hQA.fs.fields
          obtain ⟨l0, l1, l2, l3, l4⟩ := hQA.fs.lts
          have hQl := hQA.lens
          have hpS : (p : Int) < (S'.length : Int) := by have := (List.getElem?_eq_some_iff.1 hsi.cur).1; omega
          have hji : (j : Int) < ((segsAll m).length : Int) := by omega
          have HSI := hSI
          have HKS := Lib.hid hks
          have HQL := Lib.hid hQl
          clear hWA hsi hSI hq2 hat hra hstx hks hhi hnl hnb hnbe hR hsR hcc hQ' hbr' hQl
          go_wp2_with (first | (refine wpList_load_mid rfl 85 _ rfl tb (toff + j * 2) rfl [.int .i64 q2.1, .int .i64 q2.2] _ hra' Try.underlying85 rfl hszs ?_))
          rw [HWA.out]
          refine wp_region_held_drew (S := (fun w' => w'.cell? ⟨bl, 2, none⟩ = some (sl t' S'.length) ∧ w'.cell? ⟨t'.1, p, none⟩ = some u ∧ w'.rangeAt wr.heap.size 0 [.int .i64 q2.1, .int .i64 q2.2] ∧ Below WA.heap.size WA w')) (by kernel_rfl) (⟨c2, hcu, hzA.range, (Below.refl _ _).drew⟩) (fun hHeld => ?_)
          refine wpAnyH_take (i := 0) (v := ?_) rfl (by kernel_rfl) (by kernel_rfl) (by kernel_rfl) (fun _ _ _ h => h) (Or.inl ⟨by rfl, ?_⟩) (by assumption) ?_
          rotate_left
          · intro w _; go_simp; with_reducible rfl
          try simp only [List.getElem_toArray, List.getElem_cons_zero, Act.put, List.setIfInBounds_toArray, List.set_cons_zero, List.set_cons_succ]
          refine wpAnyH_take (i := 1) (v := ?_) rfl (by kernel_rfl) (by kernel_rfl) (by kernel_rfl) (fun _ _ _ h => h) (Or.inl ⟨by rfl, ?_⟩) (by assumption) ?_
          rotate_left
          · intro w _; go_simp; with_reducible rfl
          try simp only [List.getElem_toArray, List.getElem_cons_zero, List.getElem_cons_succ, Act.put, List.setIfInBounds_toArray, List.set_cons_zero, List.set_cons_succ]
          refine wpAnyH_take (i := 2) (v := ?_) rfl (by kernel_rfl) (by kernel_rfl) (by kernel_rfl) (fun _ _ _ h => h) (Or.inl ⟨by rfl, ?_⟩) (by assumption) ?_
          rotate_left
          · intro w _; go_simp; with_reducible rfl
          try simp only [List.getElem_toArray, List.getElem_cons_zero, List.getElem_cons_succ, Act.put, List.setIfInBounds_toArray, List.set_cons_zero, List.set_cons_succ]
          refine wpAnyH_take (i := 3) (v := ?_) rfl (by kernel_rfl) (by kernel_rfl) (by kernel_rfl) (fun _ _ _ h => h) (Or.inl ⟨by rfl, ?_⟩) (by assumption) ?_
          rotate_left
          · intro w hSw; obtain ⟨y2, y3, _⟩ := hSw; (go_simp <;> with_reducible rfl)
          try simp only [List.getElem_toArray, List.getElem_cons_zero, List.getElem_cons_succ, Act.put, List.setIfInBounds_toArray, List.set_cons_zero, List.set_cons_succ]
          refine wpAnyH_take (i := 4) (v := ?_) rfl (by kernel_rfl) (by kernel_rfl) (by kernel_rfl) (fun _ _ _ h => h) (Or.inl ⟨by rfl, ?_⟩) (by assumption) ?_
          rotate_left
          · intro w _; go_simp; with_reducible rfl
          try simp only [List.getElem_toArray, List.getElem_cons_zero, List.getElem_cons_succ, Act.put, List.setIfInBounds_toArray, List.set_cons_zero, List.set_cons_succ]
          refine wpAnyH_take (i := 5) (v := ?_) rfl (by kernel_rfl) (by kernel_rfl) (by kernel_rfl) (fun _ _ _ h => h) (Or.inl ⟨by rfl, ?_⟩) (by assumption) ?_
          rotate_left
          · intro w _; go_simp; with_reducible rfl
          try simp only [List.getElem_toArray, List.getElem_cons_zero, List.getElem_cons_succ, Act.put, List.setIfInBounds_toArray, List.set_cons_zero, List.set_cons_succ]
          refine wpAnyH_take (i := 6) (v := ?_) rfl (by kernel_rfl) (by kernel_rfl) (by kernel_rfl) (fun _ _ _ h => h) (Or.inl ⟨by rfl, ?_⟩) (by assumption) ?_
          rotate_left
          · intro w hSw; obtain ⟨y2, y3, _⟩ := hSw; (go_simp <;> with_reducible rfl)
          try simp only [List.getElem_toArray, List.getElem_cons_zero, List.getElem_cons_succ, Act.put, List.setIfInBounds_toArray, List.set_cons_zero, List.set_cons_succ]
          refine wpAnyH_take (i := 7) rfl (by kernel_rfl) (by kernel_rfl) (by kernel_rfl) (fun _ _ _ h => h) (yieldsIf_load_mid (by rfl) _ _ rfl _ _ rfl _ _ (fun w hw => hw.2.2.1) hut rfl hszs) (by assumption) ?_
          try simp only [List.getElem_toArray, List.getElem_cons_zero, List.getElem_cons_succ, Act.put, List.setIfInBounds_toArray, List.set_cons_zero, List.set_cons_succ]
          refine wpAnyH_ready (rs := [8]) (by kernel_rfl) (by simp) ?_
          refine AllReadyH.cons rfl (fun K hK => ?_) AllReadyH.nil
          go_simp
          refine (sgTurn_any u (unrank m x) m q2 _ (hou.below hHeld.2.2.2 (Nat.le_refl _)) hxl HB2 HXL).mono ?_
          rintro e w5 ⟨r5, rfl, ho5, hf5, hb5⟩
          go_wp2_with fail
          refine hK.out _ _ (⟨(hb5.cell (p := ⟨bl, 2, none⟩) l0).trans hHeld.1, (hb5.cell (p := ⟨t'.1, p, none⟩) l3.2).trans hHeld.2.1, range_below hHeld.2.2.1 hb5 (by show wr.heap.size < WA.heap.size; omega), hHeld.2.2.2.trans (hb5.mono hHeld.2.2.2.size)⟩) (fun hHeld => ?_)
          clear hK K
          try simp only [List.getElem_toArray, List.getElem_cons_zero, List.getElem_cons_succ, Act.put, List.setIfInBounds_toArray, List.set_cons_zero, List.set_cons_succ]
          refine wpAnyH_take (i := 9) (v := ?_) rfl (by kernel_rfl) (by kernel_rfl) (by kernel_rfl) (fun _ _ _ h => h) (Or.inl ⟨by rfl, ?_⟩) (by assumption) ?_
          rotate_left
          · intro w _; go_simp; with_reducible rfl
          try simp only [List.getElem_toArray, List.getElem_cons_zero, List.getElem_cons_succ, Act.put, List.setIfInBounds_toArray, List.set_cons_zero, List.set_cons_succ]
          refine wpAnyH_done (by kernel_rfl) ?_ _
          rw [HR.out] at ho5
          have hb5' : Below WA.heap.size WA w5 := hHeld.2.2.2
          have hQ5 := hQA.same hb5'
          have hB5 := hBA.trans (hb5'.mono hBA.size)
          have hf5' : From WA.heap.size r5 := hf5
          have HRP := Lib.hid (hQA.fs.new hf5' (Nat.le_refl _) hBA.size)
          obtain ⟨a5, k5, rfl, _, _, _⟩ := ho5.shape
          have hs5 := hb5'.size
          clear hHeld hb5 hf5 hcu hou hQA hzA c0 c1 c2 hra' htl
          obtain ⟨c0, c1, c2⟩ := hQ5.fs.fields
          obtain ⟨l0, l1, l2, l3, l4⟩ := hQ5.fs.lts
          have hcl : (Cd m Q').length ≤ 1048576 := by rw [Cd_length]; omega
          have hol : ord'.length ≤ 1048576 := by rw [HQL.out.2]; omega
          have HLT := Lib.hid hQ5.or.lt
          have HMO := Lib.hid hQ5.or.mono
          go_wp2_with fail
          refine wp_region_held_drew (S := (fun w' => w'.cell? ⟨bl, 0, none⟩ = some (sl a' (Cd m Q').length) ∧ Below w5.heap.size w5 w')) (by kernel_rfl) (⟨c0, (Below.refl _ _).drew⟩) (fun hHeld => ?_)
          refine wpAnyH_take (i := 0) (v := ?_) rfl (by kernel_rfl) (by kernel_rfl) (by kernel_rfl) (fun _ _ _ h => h) (Or.inl ⟨by rfl, ?_⟩) (by assumption) ?_
          rotate_left
          · intro w _; go_simp; with_reducible rfl
          try simp only [List.getElem_toArray, List.getElem_cons_zero, Act.put, List.setIfInBounds_toArray, List.set_cons_zero, List.set_cons_succ]
          refine wpAnyH_take (i := 1) (v := ?_) rfl (by kernel_rfl) (by kernel_rfl) (by kernel_rfl) (fun _ _ _ h => h) (Or.inl ⟨by rfl, ?_⟩) (by assumption) ?_
          rotate_left
          · intro w _; go_simp; with_reducible rfl
          try simp only [List.getElem_toArray, List.getElem_cons_zero, List.getElem_cons_succ, Act.put, List.setIfInBounds_toArray, List.set_cons_zero, List.set_cons_succ]
          refine wpAnyH_take (i := 2) (v := ?_) rfl (by kernel_rfl) (by kernel_rfl) (by kernel_rfl) (fun _ _ _ h => h) (Or.inl ⟨by rfl, ?_⟩) (by assumption) ?_
          rotate_left
          · intro w _; go_simp; with_reducible rfl
          try simp only [List.getElem_toArray, List.getElem_cons_zero, List.getElem_cons_succ, Act.put, List.setIfInBounds_toArray, List.set_cons_zero, List.set_cons_succ]
          refine wpAnyH_take (i := 3) (v := ?_) rfl (by kernel_rfl) (by kernel_rfl) (by kernel_rfl) (fun _ _ _ h => h) (Or.inl ⟨by rfl, ?_⟩) (by assumption) ?_
          rotate_left
          · intro w _; go_simp; with_reducible rfl
          try simp only [List.getElem_toArray, List.getElem_cons_zero, List.getElem_cons_succ, Act.put, List.setIfInBounds_toArray, List.set_cons_zero, List.set_cons_succ]
          refine wpAnyH_take (i := 4) (v := ?_) rfl (by kernel_rfl) (by kernel_rfl) (by kernel_rfl) (fun _ _ _ h => h) (Or.inl ⟨by rfl, ?_⟩) (by assumption) ?_
          rotate_left
          · intro w hSw; obtain ⟨y2, _⟩ := hSw; (go_simp <;> with_reducible rfl)
          try simp only [List.getElem_toArray, List.getElem_cons_zero, List.getElem_cons_succ, Act.put, List.setIfInBounds_toArray, List.set_cons_zero, List.set_cons_succ]
          refine wpAnyH_take (i := 5) (v := ?_) rfl (by kernel_rfl) (by kernel_rfl) (by kernel_rfl) (fun _ _ _ h => h) (Or.inl ⟨by rfl, ?_⟩) (by assumption) ?_
          rotate_left
          · intro w _; go_simp; with_reducible rfl
          try simp only [List.getElem_toArray, List.getElem_cons_zero, List.getElem_cons_succ, Act.put, List.setIfInBounds_toArray, List.set_cons_zero, List.set_cons_succ]
          refine wpAnyH_ready (rs := [6]) (by kernel_rfl) (by simp) ?_
          refine AllReadyH.cons rfl (fun K hK => ?_) AllReadyH.nil
          go_simp
          refine (sgCode_any _ R _ (ho5.below hHeld.2 (Nat.le_refl _)) HBR hR6).mono ?_
          rintro e w6 ⟨rfl, hb6⟩
          go_wp2_with fail
          refine hK.out _ _ (⟨(hb6.cell (p := ⟨bl, 0, none⟩) l0).trans hHeld.1, hHeld.2.trans (hb6.mono hHeld.2.size)⟩) (fun hHeld => ?_)
          clear hK K
          try simp only [List.getElem_toArray, List.getElem_cons_zero, List.getElem_cons_succ, Act.put, List.setIfInBounds_toArray, List.set_cons_zero, List.set_cons_succ]
          rw [HCC.out]
          have hQ6 := hQ5.same hHeld.2
          have hls6 : bl < w6.heap.size := Nat.lt_of_lt_of_le l0 hHeld.2.size
          refine wpAnyH_ready (rs := [7]) (by kernel_rfl) (by simp) ?_
          refine AllReadyH.cons rfl (fun K hK => ?_) AllReadyH.nil
          go_simp
          refine (sgPlace_any (sl o' (Od ord').length) (sl a' (Cd m Q').length) ord' (Cd m Q') cc _ (Own.of_row hQ6.fs.ord).1 (Own.of_row hQ6.fs.all).1 hol hcl HLT HMO).mono ?_
          rintro e w7 ⟨lo, hlo, hA, hB, rfl, hb7⟩
          go_wp2_with fail
          refine hK.out _ _ (⟨(hb7.cell (p := ⟨bl, 0, none⟩) hls6).trans hHeld.1, hHeld.2.trans (hb7.mono hHeld.2.size)⟩) (fun hHeld => ?_)
          clear hK K
          try simp only [List.getElem_toArray, List.getElem_cons_zero, List.getElem_cons_succ, Act.put, List.setIfInBounds_toArray, List.set_cons_zero, List.set_cons_succ]
          refine wpAnyH_take (i := 8) (v := ?_) rfl (by kernel_rfl) (by kernel_rfl) (by kernel_rfl) (fun _ _ _ h => h) (Or.inl ⟨by rfl, ?_⟩) (by assumption) ?_
          rotate_left
          · intro w _; go_simp; with_reducible rfl
          try simp only [List.getElem_toArray, List.getElem_cons_zero, List.getElem_cons_succ, Act.put, List.setIfInBounds_toArray, List.set_cons_zero, List.set_cons_succ]
          refine wpAnyH_take (i := 9) (v := ?_) rfl (by kernel_rfl) (by kernel_rfl) (by kernel_rfl) (fun _ _ _ h => h) (Or.inl ⟨by rfl, ?_⟩) (by assumption) ?_
          rotate_left
          · intro w _; go_simp; with_reducible rfl
          try simp only [List.getElem_toArray, List.getElem_cons_zero, List.getElem_cons_succ, Act.put, List.setIfInBounds_toArray, List.set_cons_zero, List.set_cons_succ]
          refine wpAnyH_take (i := 10) (v := ?_) rfl (by kernel_rfl) (by kernel_rfl) (by kernel_rfl) (fun _ _ _ h => h) (Or.inl ⟨by rfl, ?_⟩) (by assumption) ?_
          rotate_left
          · intro w _; go_simp; with_reducible rfl
          try simp only [List.getElem_toArray, List.getElem_cons_zero, List.getElem_cons_succ, Act.put, List.setIfInBounds_toArray, List.set_cons_zero, List.set_cons_succ]
          refine wpAnyH_take (i := 11) (v := ?_) rfl (by kernel_rfl) (by kernel_rfl) (by kernel_rfl) (fun _ _ _ h => h) (Or.inl ⟨by rfl, ?_⟩) (by assumption) ?_
          rotate_left
          · intro w _; go_simp; with_reducible rfl
          try simp only [List.getElem_toArray, List.getElem_cons_zero, List.getElem_cons_succ, Act.put, List.setIfInBounds_toArray, List.set_cons_zero, List.set_cons_succ]
          refine wpAnyH_take (i := 12) (v := ?_) rfl (by kernel_rfl) (by kernel_rfl) (by kernel_rfl) (fun _ _ _ h => h) (Or.inl ⟨by rfl, ?_⟩) (by assumption) ?_
          rotate_left
          · intro w _; go_simp; with_reducible rfl
          try simp only [List.getElem_toArray, List.getElem_cons_zero, List.getElem_cons_succ, Act.put, List.setIfInBounds_toArray, List.set_cons_zero, List.set_cons_succ]
          refine wpAnyH_done (by kernel_rfl) ?_ _
          have hQ7 := hQ6.same hb7
          have hb57 := hHeld.2
          have hB7 := hB5.trans (hb57.mono hB5.size)
          have ho7 := ho5.same hb57
          have hs7 := hb57.size
          have HA := Lib.hid hA
          have HBB := Lib.hid hB
          clear hHeld hb6 hb7 hQ5 hQ6 ho5 c0 c1 c2 hA hB hB5 hBA
          by_cases hfd : lo < ord'.length ∧ keyAt ord' (Cd m Q') lo = cc
          · have hd : (decide (lo < ord'.length) && decide (keyAt ord' (Cd m Q') lo = cc)) = true := by rw [decide_eq_true hfd.1, decide_eq_true hfd.2]; rfl
            rw [hd]
            have hin : nb ∈ Q' := by
              have hlo2 := hfd.1
              have h3 := keyAt_get (cs := Cd m Q') hlo2 (HLT.out _ (List.getElem_mem hlo2))
              rw [hfd.2] at h3
              have h4 : cc ∈ Cd m Q' := by rw [h3]; exact List.getElem_mem _
              rw [← HCC.out, ← HUR.out] at h4
              refine (code_mem h1 h6 (fun r hr => by have := HSI.out.lt r hr; rwa [HNN.out] at this) ?_).1 h4
              have := HG.out.lt x (j + 1) (by rw [HNN.out]; exact hxf) HLO.out HHI.out
              rw [HNN.out, HNB.out] at this
              exact this
            have HSI2 := Lib.hid (HSI.out.next_old (by rw [HNB.out]; exact hin))
            clear hfd hd hin
            go_wp2
            go_roundw
            case rel => exact ⟨j + 1, Q', a', f', t', o', S', ord', by go_num, by omega, rfl, HSI2, hQ7, hB7⟩
            case measure => simp [intOf] <;> omega
          · have hd : (decide (lo < ord'.length) && decide (keyAt ord' (Cd m Q') lo = cc)) = false := by
              cases h : (decide (lo < ord'.length) && decide (keyAt ord' (Cd m Q') lo = cc)) with
              | false => rfl
              | true => rw [Bool.and_eq_true, decide_eq_true_eq, decide_eq_true_eq] at h; exact absurd h hfd
            rw [hd]
            have hnin : nb ∉ Q' := fun hin => hfd (hQ7.or.found hlo HA.out HBB.out (by
              rw [← HCC.out, ← HUR.out]
              exact List.mem_map.2 ⟨nb, hin, rfl⟩))
            have HORD := Lib.hid (hQ7.or.insert hlo HA.out HBB.out hfd)
            have HFN := Lib.hid (HSI.out.far_new HG.out HLO.out HHI.out (by rw [HNB.out]; exact hnin))
            have HSI2 := Lib.hid (HSI.out.next_new HG.out HLO.out HHI.out (by rw [HNB.out]; exact hnin))
            rw [HNB.out] at HFN HSI2
            clear hfd hd hnin
            have hM7 : FM m w.heap.size w7 bl a' f' t' o' (Cd m Q') (Fd m Q') S' (Xd m Q') (Od ord') (.slice (some ⟨tb, toff, none⟩) (segsAll m).length tc) (.slice a5 R.length k5) R := ⟨hQ7.fs, hQ7.ts, hQ7.ap, ho7, HRP.out⟩
            have hCl := Cd_length m Q'
            have hFl := Fd_length m Q'
            have hOl := Od_length ord'
            have hfar := hQ7.farAt HSI.out.cur
            have hCg : (Cd m Q').getD p 0 = (Cd m Q').getD p 0 := rfl
            have HFA := Lib.hid (show ∀ wx : World, wx.ownsRow w.heap.size 3 1 (sl f' (Fd m Q').length) (Fd m Q').length ((Fd m Q').map iv) → wx.cell? ⟨f'.1, p, none⟩ = some (.int .i64 ((sgBd m).d x : Int)) from fun wx h => by
              have hpl := (List.getElem?_eq_some_iff.1 HSI.out.cur).1
              rw [h.cellAt p (by rw [Fd_length]; omega)]
              unfold Fd
              rw [List.getElem?_map, List.getElem?_map, HSI.out.cur]
              rfl)
            have HDL := Lib.hid (show (sgBd m).d x ≤ 720 from sgBd_le h1 h6 hxf)
            obtain ⟨dx, hdx⟩ : ∃ d, (sgBd m).d x = d := ⟨_, rfl⟩
            rw [hdx] at HFA HDL
            have HDX := Lib.hid hdx
            have hdb := HDL.out
            have hpF : (p : Int) < ((Fd m Q').length : Int) := by have := (List.getElem?_eq_some_iff.1 HSI.out.cur).1; rw [hFl]; omega
            have hF1 : (Fd m Q').length ≤ 1048576 := by rw [hFl]; omega
            have hS1' : S'.length ≤ 1048576 := by rw [HQL.out.1]; omega
            have hO1 : (Od ord').length ≤ 1048576 := by rw [hOl]; exact hol
            have HLL := Lib.hid (show (Od ord').length = (Cd m Q').length by rw [hOl, hCl]; exact HQL.out.2)
            obtain ⟨C, hC⟩ : ∃ C, Cd m Q' = C := ⟨_, rfl⟩
            obtain ⟨F, hF⟩ : ∃ F, Fd m Q' = F := ⟨_, rfl⟩
            obtain ⟨O, hO⟩ : ∃ O, Od ord' = O := ⟨_, rfl⟩
            have HC := Lib.hid hC
            have HF := Lib.hid hF
            have HOO := Lib.hid hO
            rw [hC, hF, hO] at hM7
            rw [hF] at HFA hpF hF1
            rw [hO] at hO1 HLL ⊢
            rw [hC] at hcl HORD HLL
            clear hC hF hO hCl hFl hOl hfar hCg hQ7 ho7 hdx HA HBB HLT HMO HRP hol
            go_wp2_with fail
            go_cut [12] (fun v12 wx => v12 = .int .i64 lo ∧ ∃ g cap, FM m w.heap.size wx bl (g, cap) f' t' o' (C ++ [cc]) F S' (Xd m Q') O (.slice (some ⟨tb, toff, none⟩) (segsAll m).length tc) (.slice a5 R.length k5) R ∧ Below w.heap.size w wx)
            case first =>
              obtain ⟨c0, _, _⟩ := hM7.fs.fields
              have hMD := hM7.drew
              have hBD := hB7.drew
              refine wp_region_held_drew (S := (fun _ => True)) (by kernel_rfl) (trivial) (fun hHeld => ?_)
              refine wpAnyH_take (i := 0) (v := ?_) rfl (by kernel_rfl) (by kernel_rfl) (by kernel_rfl) (fun _ _ _ h => h) (Or.inl ⟨by rfl, ?_⟩) (by assumption) ?_
              rotate_left
              · intro w _; go_simp; with_reducible rfl
              try simp only [List.getElem_toArray, List.getElem_cons_zero, Act.put, List.setIfInBounds_toArray, List.set_cons_zero, List.set_cons_succ]
              refine wpAnyH_take (i := 1) (v := ?_) rfl (by kernel_rfl) (by kernel_rfl) (by kernel_rfl) (fun _ _ _ h => h) (Or.inl ⟨by rfl, ?_⟩) (by assumption) ?_
              rotate_left
              · intro w _; go_simp; with_reducible rfl
              try simp only [List.getElem_toArray, List.getElem_cons_zero, List.getElem_cons_succ, Act.put, List.setIfInBounds_toArray, List.set_cons_zero, List.set_cons_succ]
              refine wpAnyH_take (i := 2) (v := ?_) rfl (by kernel_rfl) (by kernel_rfl) (by kernel_rfl) (fun _ _ _ h => h) (Or.inl ⟨by rfl, ?_⟩) (by assumption) ?_
              rotate_left
              · intro w _; go_simp; with_reducible rfl
              try simp only [List.getElem_toArray, List.getElem_cons_zero, List.getElem_cons_succ, Act.put, List.setIfInBounds_toArray, List.set_cons_zero, List.set_cons_succ]
              refine wpAnyH_take (i := 3) (v := ?_) rfl (by kernel_rfl) (by kernel_rfl) (by kernel_rfl) (fun _ _ _ h => h) (Or.inl ⟨by rfl, ?_⟩) (by assumption) ?_
              rotate_left
              · intro w _; go_simp; with_reducible rfl
              try simp only [List.getElem_toArray, List.getElem_cons_zero, List.getElem_cons_succ, Act.put, List.setIfInBounds_toArray, List.set_cons_zero, List.set_cons_succ]
              refine wpAnyH_take (i := 5) (v := ?_) rfl (by kernel_rfl) (by kernel_rfl) (by kernel_rfl) (fun _ _ _ h => h) (Or.inl ⟨by rfl, ?_⟩) (by assumption) ?_
              rotate_left
              · intro w _; go_simp; with_reducible rfl
              try simp only [List.getElem_toArray, List.getElem_cons_zero, List.getElem_cons_succ, Act.put, List.setIfInBounds_toArray, List.set_cons_zero, List.set_cons_succ]
              refine wpAnyH_ready (rs := [4, 6]) (by kernel_rfl) (by simp) ?_
              refine AllReadyH.cons rfl (fun K hK => ?_) (AllReadyH.cons rfl (fun K hK => ?_) AllReadyH.nil)
              · go_simp
                refine hK.out _ _ trivial (fun _ => ?_)
                clear hK K
                try simp only [List.getElem_toArray, List.getElem_cons_zero, List.getElem_cons_succ, Act.put, List.setIfInBounds_toArray, List.set_cons_zero, List.set_cons_succ]
                refine wpAnyH_ready (rs := [6]) (by kernel_rfl) (by simp) ?_
                refine AllReadyH.cons rfl (fun K hK => ?_) AllReadyH.nil
                go_simp
                refine (sgCode_any _ R _ hMD.row HBR hR6).mono ?_
                rintro e w8 ⟨rfl, hb8⟩
                go_wp2_with fail
                refine hK.out _ _ (trivial) (fun hHeld => ?_)
                clear hK K
                try simp only [List.getElem_toArray, List.getElem_cons_zero, List.getElem_cons_succ, Act.put, List.setIfInBounds_toArray, List.set_cons_zero, List.set_cons_succ]
                rw [HCC.out]
                have hM8 := hMD.same hb8
                have hB8 := hBD.trans (hb8.mono hBD.size)
                clear hHeld
                have hs8 := hB8.size
                have hM8a := hM8.alloc (.cells #[.int .i64 cc] 3)
                have hB8a := hB8.alloc hs8 (.cells #[.int .i64 cc] 3)
                refine wpAnyH_ready (rs := [7]) (by kernel_rfl) (by simp) ?_
                refine AllReadyH.cons rfl (fun K hK => ?_) AllReadyH.nil
                go_simp
                refine hK.out _ _ trivial (fun _ => ?_)
                clear hK K
                try simp only [List.getElem_toArray, List.getElem_cons_zero, List.getElem_cons_succ, Act.put, List.setIfInBounds_toArray, List.set_cons_zero, List.set_cons_succ]
                refine wpAnyH_ready (rs := [8]) (by kernel_rfl) (by simp) ?_
                refine AllReadyH.cons rfl (fun K hK => ?_) AllReadyH.nil
                refine step_append_lies _ rfl _ _ 22 rfl w.heap.size 3 iI _ 1 8 Try.underlying22 HI.out HI0.out HI1.out HI2.out rfl (by omega) (sl a' C.length) C.length (C.map iv) rfl hM8a.fs.all ⟨w8.heap.size, 0, none⟩ 1 1 [iv cc] rfl (by simp) (World.news_of_block (heap_alloc_new w8 _)) (by simp [Value.oneCell']) (by omega) (by unfold maxLen; omega) (by omega) (by simp; omega) (w8.heap.size + 1) (by simp) ?_
                intro g9 cap9 w9 hown9 hgr9 hat9 hlt9
                have hM9 := hM8a.appA hown9 hgr9 hat9 (by simp)
                have hne9 := hM8a.fs.ne
                have hl9 : Blk w9 bl 99 [sl a' C.length, sl f' F.length, sl t' S'.length] := hM8a.fs.l.grown hgr9 (by simp [Value.ownBlock]; omega)
                have d0 : w9.cell? ⟨bl, 0, none⟩ = some (sl a' C.length) := hl9.cell 0
                have d1 := hl9.frozen 0
                have hB9 := (hB8a.grown hgr9 hB8a.size (fun k hk => by simp [Value.ownBlock] at hk; subst hk; exact (hM8a.fs.lts).2.1.1)).setCell (p := ⟨bl, 0, none⟩) hM8a.fs.bb (sl (g9, cap9) (C.length + 1))
                refine hK.out _ _ trivial (fun _ => ?_)
                clear hK K
                try simp only [List.getElem_toArray, List.getElem_cons_zero, List.getElem_cons_succ, Act.put, List.setIfInBounds_toArray, List.set_cons_zero, List.set_cons_succ]
                refine wpAnyH_take (i := 9) (v := ?_) rfl (by kernel_rfl) (by kernel_rfl) (by kernel_rfl) (fun _ _ _ h => h) (Or.inl ⟨by rfl, ?_⟩) (by assumption) ?_
                rotate_left
                · intro w _; go_simp; with_reducible rfl
                try simp only [List.getElem_toArray, List.getElem_cons_zero, List.getElem_cons_succ, Act.put, List.setIfInBounds_toArray, List.set_cons_zero, List.set_cons_succ]
                refine wpAnyH_take (i := 10) (v := ?_) rfl (by kernel_rfl) (by kernel_rfl) (by kernel_rfl) (fun _ _ _ h => h) (Or.inl ⟨by rfl, ?_⟩) (by assumption) ?_
                rotate_left
                · intro w _; go_simp; with_reducible rfl
                try simp only [List.getElem_toArray, List.getElem_cons_zero, List.getElem_cons_succ, Act.put, List.setIfInBounds_toArray, List.set_cons_zero, List.set_cons_succ]
                refine wpAnyH_ready (rs := [11]) (by kernel_rfl) (by simp) ?_
                refine AllReadyH.cons rfl (fun K hK => ?_) AllReadyH.nil
                go_simp
                refine hK.out _ _ trivial (fun _ => ?_)
                clear hK K
                try simp only [List.getElem_toArray, List.getElem_cons_zero, List.getElem_cons_succ, Act.put, List.setIfInBounds_toArray, List.set_cons_zero, List.set_cons_succ]
                refine wpAnyH_done (by kernel_rfl) ?_ _
                clear d0 d1 hl9 hM8 hM8a hB8 hB8a hown9 hgr9 hat9
                go_wp2_with fail
                go_meet
                exact ⟨rfl, g9, cap9, hM9, hB9⟩
              · go_simp
                refine (sgCode_any _ R _ hMD.row HBR hR6).mono ?_
                rintro e w8 ⟨rfl, hb8⟩
                go_wp2_with fail
                have hM8 := hMD.same hb8
                have hB8 := hBD.trans (hb8.mono hBD.size)
                obtain ⟨c0', _, _⟩ := hM8.fs.fields
                refine hK.out _ _ trivial (fun _ => ?_)
                clear hK K
                try simp only [List.getElem_toArray, List.getElem_cons_zero, List.getElem_cons_succ, Act.put, List.setIfInBounds_toArray, List.set_cons_zero, List.set_cons_succ]
                rw [HCC.out]
                refine wpAnyH_ready (rs := [4, 7]) (by kernel_rfl) (by simp) ?_
                refine AllReadyH.cons rfl (fun K hK => ?_) (AllReadyH.cons rfl (fun K hK => ?_) AllReadyH.nil)
                · go_simp
                  refine hK.out _ _ trivial (fun _ => ?_)
                  clear hK K
                  try simp only [List.getElem_toArray, List.getElem_cons_zero, List.getElem_cons_succ, Act.put, List.setIfInBounds_toArray, List.set_cons_zero, List.set_cons_succ]
                  have hs8 := hB8.size
                  have hM8a := hM8.alloc (.cells #[.int .i64 cc] 3)
                  have hB8a := hB8.alloc hs8 (.cells #[.int .i64 cc] 3)
                  refine wpAnyH_ready (rs := [7]) (by kernel_rfl) (by simp) ?_
                  refine AllReadyH.cons rfl (fun K hK => ?_) AllReadyH.nil
                  go_simp
                  refine hK.out _ _ trivial (fun _ => ?_)
                  clear hK K
                  try simp only [List.getElem_toArray, List.getElem_cons_zero, List.getElem_cons_succ, Act.put, List.setIfInBounds_toArray, List.set_cons_zero, List.set_cons_succ]
                  refine wpAnyH_ready (rs := [8]) (by kernel_rfl) (by simp) ?_
                  refine AllReadyH.cons rfl (fun K hK => ?_) AllReadyH.nil
                  refine step_append_lies _ rfl _ _ 22 rfl w.heap.size 3 iI _ 1 8 Try.underlying22 HI.out HI0.out HI1.out HI2.out rfl (by omega) (sl a' C.length) C.length (C.map iv) rfl hM8a.fs.all ⟨w8.heap.size, 0, none⟩ 1 1 [iv cc] rfl (by simp) (World.news_of_block (heap_alloc_new w8 _)) (by simp [Value.oneCell']) (by omega) (by unfold maxLen; omega) (by omega) (by simp; omega) (w8.heap.size + 1) (by simp) ?_
                  intro g9 cap9 w9 hown9 hgr9 hat9 hlt9
                  have hM9 := hM8a.appA hown9 hgr9 hat9 (by simp)
                  have hne9 := hM8a.fs.ne
                  have hl9 : Blk w9 bl 99 [sl a' C.length, sl f' F.length, sl t' S'.length] := hM8a.fs.l.grown hgr9 (by simp [Value.ownBlock]; omega)
                  have d0 : w9.cell? ⟨bl, 0, none⟩ = some (sl a' C.length) := hl9.cell 0
                  have d1 := hl9.frozen 0
                  have hB9 := (hB8a.grown hgr9 hB8a.size (fun k hk => by simp [Value.ownBlock] at hk; subst hk; exact (hM8a.fs.lts).2.1.1)).setCell (p := ⟨bl, 0, none⟩) hM8a.fs.bb (sl (g9, cap9) (C.length + 1))
                  refine hK.out _ _ trivial (fun _ => ?_)
                  clear hK K
                  try simp only [List.getElem_toArray, List.getElem_cons_zero, List.getElem_cons_succ, Act.put, List.setIfInBounds_toArray, List.set_cons_zero, List.set_cons_succ]
                  refine wpAnyH_take (i := 9) (v := ?_) rfl (by kernel_rfl) (by kernel_rfl) (by kernel_rfl) (fun _ _ _ h => h) (Or.inl ⟨by rfl, ?_⟩) (by assumption) ?_
                  rotate_left
                  · intro w _; go_simp; with_reducible rfl
                  try simp only [List.getElem_toArray, List.getElem_cons_zero, List.getElem_cons_succ, Act.put, List.setIfInBounds_toArray, List.set_cons_zero, List.set_cons_succ]
                  refine wpAnyH_take (i := 10) (v := ?_) rfl (by kernel_rfl) (by kernel_rfl) (by kernel_rfl) (fun _ _ _ h => h) (Or.inl ⟨by rfl, ?_⟩) (by assumption) ?_
                  rotate_left
                  · intro w _; go_simp; with_reducible rfl
                  try simp only [List.getElem_toArray, List.getElem_cons_zero, List.getElem_cons_succ, Act.put, List.setIfInBounds_toArray, List.set_cons_zero, List.set_cons_succ]
                  refine wpAnyH_ready (rs := [11]) (by kernel_rfl) (by simp) ?_
                  refine AllReadyH.cons rfl (fun K hK => ?_) AllReadyH.nil
                  go_simp
                  refine hK.out _ _ trivial (fun _ => ?_)
                  clear hK K
                  try simp only [List.getElem_toArray, List.getElem_cons_zero, List.getElem_cons_succ, Act.put, List.setIfInBounds_toArray, List.set_cons_zero, List.set_cons_succ]
                  refine wpAnyH_done (by kernel_rfl) ?_ _
                  clear d0 d1 hl9 hM8 hM8a hB8 hB8a hown9 hgr9 hat9
                  go_wp2_with fail
                  go_meet
                  exact ⟨rfl, g9, cap9, hM9, hB9⟩
                · go_simp
                  refine hK.out _ _ trivial (fun _ => ?_)
                  clear hK K
                  try simp only [List.getElem_toArray, List.getElem_cons_zero, List.getElem_cons_succ, Act.put, List.setIfInBounds_toArray, List.set_cons_zero, List.set_cons_succ]
                  obtain ⟨c0'', _, _⟩ := (hM8.alloc (.cells #[.int .i64 cc] 3)).fs.fields
                  refine wpAnyH_ready (rs := [4]) (by kernel_rfl) (by simp) ?_
                  refine AllReadyH.cons rfl (fun K hK => ?_) AllReadyH.nil
                  go_simp
                  refine hK.out _ _ trivial (fun _ => ?_)
                  clear hK K
                  try simp only [List.getElem_toArray, List.getElem_cons_zero, List.getElem_cons_succ, Act.put, List.setIfInBounds_toArray, List.set_cons_zero, List.set_cons_succ]
                  have hs8 := hB8.size
                  have hM8a := hM8.alloc (.cells #[.int .i64 cc] 3)
                  have hB8a := hB8.alloc hs8 (.cells #[.int .i64 cc] 3)
                  refine wpAnyH_ready (rs := [8]) (by kernel_rfl) (by simp) ?_
                  refine AllReadyH.cons rfl (fun K hK => ?_) AllReadyH.nil
                  refine step_append_lies _ rfl _ _ 22 rfl w.heap.size 3 iI _ 1 8 Try.underlying22 HI.out HI0.out HI1.out HI2.out rfl (by omega) (sl a' C.length) C.length (C.map iv) rfl hM8a.fs.all ⟨w8.heap.size, 0, none⟩ 1 1 [iv cc] rfl (by simp) (World.news_of_block (heap_alloc_new w8 _)) (by simp [Value.oneCell']) (by omega) (by unfold maxLen; omega) (by omega) (by simp; omega) (w8.heap.size + 1) (by simp) ?_
                  intro g9 cap9 w9 hown9 hgr9 hat9 hlt9
                  have hM9 := hM8a.appA hown9 hgr9 hat9 (by simp)
                  have hne9 := hM8a.fs.ne
                  have hl9 : Blk w9 bl 99 [sl a' C.length, sl f' F.length, sl t' S'.length] := hM8a.fs.l.grown hgr9 (by simp [Value.ownBlock]; omega)
                  have d0 : w9.cell? ⟨bl, 0, none⟩ = some (sl a' C.length) := hl9.cell 0
                  have d1 := hl9.frozen 0
                  have hB9 := (hB8a.grown hgr9 hB8a.size (fun k hk => by simp [Value.ownBlock] at hk; subst hk; exact (hM8a.fs.lts).2.1.1)).setCell (p := ⟨bl, 0, none⟩) hM8a.fs.bb (sl (g9, cap9) (C.length + 1))
                  refine hK.out _ _ trivial (fun _ => ?_)
                  clear hK K
                  try simp only [List.getElem_toArray, List.getElem_cons_zero, List.getElem_cons_succ, Act.put, List.setIfInBounds_toArray, List.set_cons_zero, List.set_cons_succ]
                  refine wpAnyH_take (i := 9) (v := ?_) rfl (by kernel_rfl) (by kernel_rfl) (by kernel_rfl) (fun _ _ _ h => h) (Or.inl ⟨by rfl, ?_⟩) (by assumption) ?_
                  rotate_left
                  · intro w _; go_simp; with_reducible rfl
                  try simp only [List.getElem_toArray, List.getElem_cons_zero, List.getElem_cons_succ, Act.put, List.setIfInBounds_toArray, List.set_cons_zero, List.set_cons_succ]
                  refine wpAnyH_take (i := 10) (v := ?_) rfl (by kernel_rfl) (by kernel_rfl) (by kernel_rfl) (fun _ _ _ h => h) (Or.inl ⟨by rfl, ?_⟩) (by assumption) ?_
                  rotate_left
                  · intro w _; go_simp; with_reducible rfl
                  try simp only [List.getElem_toArray, List.getElem_cons_zero, List.getElem_cons_succ, Act.put, List.setIfInBounds_toArray, List.set_cons_zero, List.set_cons_succ]
                  refine wpAnyH_ready (rs := [11]) (by kernel_rfl) (by simp) ?_
                  refine AllReadyH.cons rfl (fun K hK => ?_) AllReadyH.nil
                  go_simp
                  refine hK.out _ _ trivial (fun _ => ?_)
                  clear hK K
                  try simp only [List.getElem_toArray, List.getElem_cons_zero, List.getElem_cons_succ, Act.put, List.setIfInBounds_toArray, List.set_cons_zero, List.set_cons_succ]
                  refine wpAnyH_done (by kernel_rfl) ?_ _
                  clear d0 d1 hl9 hM8 hM8a hB8 hB8a hown9 hgr9 hat9
                  go_wp2_with fail
                  go_meet
                  exact ⟨rfl, g9, cap9, hM9, hB9⟩
            case rest =>
              obtain ⟨rfl, g8, cap8, hM8, hB8⟩ := hcut
              obtain ⟨w8, hw8⟩ : ∃ x, wc = x := ⟨_, rfl⟩
              rw [hw8] at hM8 hB8 ⊢
              clear hM7 hB7 hw8
              have hcf := HFA.out w8 hM8.fs.far
              have hw1 : IntKind.i64.wrap ((dx : Int) + 1) = (dx : Int) + 1 := IntWalk.i64_in _ (by omega)
              go_wp2_with fail
              go_cut [12] (fun v12 wx => v12 = .int .i64 lo ∧ ∃ g cap, FM m w.heap.size wx bl (g8, cap8) (g, cap) t' o' (C ++ [cc]) (F ++ [(dx : Int) + 1]) S' (Xd m Q') O (.slice (some ⟨tb, toff, none⟩) (segsAll m).length tc) (.slice a5 R.length k5) R ∧ Below w.heap.size w wx)
              case first =>
                obtain ⟨_, c1, _⟩ := hM8.fs.fields
                have hMD := hM8.drew
                have hBD := hB8.drew
                have hsD := hBD.size
                have hMa := hMD.alloc (.cells #[.int .i64 ((dx : Int) + 1)] 3)
                have hBa := hBD.alloc hsD (.cells #[.int .i64 ((dx : Int) + 1)] 3)
                obtain ⟨_, c1a, _⟩ := hMa.fs.fields
                obtain ⟨_, c1b, _⟩ := (hM8.alloc (.cells #[.int .i64 ((dx : Int) + 1)] 3)).fs.fields
                have hs8 : w.heap.size ≤ w8.heap.size := hB8.size
                have hne9 := hMa.fs.ne
                refine wp_region_held_drew (S := (fun _ => True)) (by kernel_rfl) (trivial) (fun hHeld => ?_)
                refine wpAnyH_take (i := 0) (v := ?_) rfl (by kernel_rfl) (by kernel_rfl) (by kernel_rfl) (fun _ _ _ h => h) (Or.inl ⟨by rfl, ?_⟩) (by assumption) ?_
                rotate_left
                · intro w _; go_simp; with_reducible rfl
                try simp only [List.getElem_toArray, List.getElem_cons_zero, Act.put, List.setIfInBounds_toArray, List.set_cons_zero, List.set_cons_succ]
                refine wpAnyH_take (i := 1) (v := ?_) rfl (by kernel_rfl) (by kernel_rfl) (by kernel_rfl) (fun _ _ _ h => h) (Or.inl ⟨by rfl, ?_⟩) (by assumption) ?_
                rotate_left
                · intro w _; go_simp; with_reducible rfl
                try simp only [List.getElem_toArray, List.getElem_cons_zero, List.getElem_cons_succ, Act.put, List.setIfInBounds_toArray, List.set_cons_zero, List.set_cons_succ]
                refine wpAnyH_take (i := 2) (v := ?_) rfl (by kernel_rfl) (by kernel_rfl) (by kernel_rfl) (fun _ _ _ h => h) (Or.inl ⟨by rfl, ?_⟩) (by assumption) ?_
                rotate_left
                · intro w _; go_simp; with_reducible rfl
                try simp only [List.getElem_toArray, List.getElem_cons_zero, List.getElem_cons_succ, Act.put, List.setIfInBounds_toArray, List.set_cons_zero, List.set_cons_succ]
                refine wpAnyH_take (i := 3) (v := ?_) rfl (by kernel_rfl) (by kernel_rfl) (by kernel_rfl) (fun _ _ _ h => h) (Or.inl ⟨by rfl, ?_⟩) (by assumption) ?_
                rotate_left
                · intro w _; go_simp; with_reducible rfl
                try simp only [List.getElem_toArray, List.getElem_cons_zero, List.getElem_cons_succ, Act.put, List.setIfInBounds_toArray, List.set_cons_zero, List.set_cons_succ]
                refine wpAnyH_take (i := 5) (v := ?_) rfl (by kernel_rfl) (by kernel_rfl) (by kernel_rfl) (fun _ _ _ h => h) (Or.inl ⟨by rfl, ?_⟩) (by assumption) ?_
                rotate_left
                · intro w _; go_simp; with_reducible rfl
                try simp only [List.getElem_toArray, List.getElem_cons_zero, List.getElem_cons_succ, Act.put, List.setIfInBounds_toArray, List.set_cons_zero, List.set_cons_succ]
                refine wpAnyH_take (i := 6) (v := ?_) rfl (by kernel_rfl) (by kernel_rfl) (by kernel_rfl) (fun _ _ _ h => h) (Or.inl ⟨by rfl, ?_⟩) (by assumption) ?_
                rotate_left
                · intro w _; go_simp; with_reducible rfl
                try simp only [List.getElem_toArray, List.getElem_cons_zero, List.getElem_cons_succ, Act.put, List.setIfInBounds_toArray, List.set_cons_zero, List.set_cons_succ]
                refine wpAnyH_take (i := 7) (v := ?_) rfl (by kernel_rfl) (by kernel_rfl) (by kernel_rfl) (fun _ _ _ h => h) (Or.inl ⟨by rfl, ?_⟩) (by assumption) ?_
                rotate_left
                · intro w _; go_simp; with_reducible rfl
                try simp only [List.getElem_toArray, List.getElem_cons_zero, List.getElem_cons_succ, Act.put, List.setIfInBounds_toArray, List.set_cons_zero, List.set_cons_succ]
                refine wpAnyH_take (i := 9) (v := ?_) rfl (by kernel_rfl) (by kernel_rfl) (by kernel_rfl) (fun _ _ _ h => h) (Or.inl ⟨by rfl, ?_⟩) (by assumption) ?_
                rotate_left
                · intro w _; go_simp; with_reducible rfl
                try simp only [List.getElem_toArray, List.getElem_cons_zero, List.getElem_cons_succ, Act.put, List.setIfInBounds_toArray, List.set_cons_zero, List.set_cons_succ]
                refine wpAnyH_ready (rs := [4, 8]) (by kernel_rfl) (by simp) ?_
                refine AllReadyH.cons rfl (fun K hK => ?_) (AllReadyH.cons rfl (fun K hK => ?_) AllReadyH.nil)
                ·
                  go_simp
                  refine hK.out _ _ trivial (fun _ => ?_)
                  clear hK K
                  try simp only [List.getElem_toArray, List.getElem_cons_zero, List.getElem_cons_succ, Act.put, List.setIfInBounds_toArray, List.set_cons_zero, List.set_cons_succ]
                  refine wpAnyH_ready (rs := [8]) (by kernel_rfl) (by simp) ?_
                  refine AllReadyH.cons rfl (fun K hK => ?_) AllReadyH.nil
                  go_simp
                  refine hK.out _ _ trivial (fun _ => ?_)
                  clear hK K
                  try simp only [List.getElem_toArray, List.getElem_cons_zero, List.getElem_cons_succ, Act.put, List.setIfInBounds_toArray, List.set_cons_zero, List.set_cons_succ]
                  refine wpAnyH_take (i := 10) (v := ?_) rfl (by kernel_rfl) (by kernel_rfl) (by kernel_rfl) (fun _ _ _ h => h) (Or.inl ⟨by rfl, ?_⟩) (by assumption) ?_
                  rotate_left
                  · intro w _; go_simp; with_reducible rfl
                  try simp only [List.getElem_toArray, List.getElem_cons_zero, List.getElem_cons_succ, Act.put, List.setIfInBounds_toArray, List.set_cons_zero, List.set_cons_succ]
                  refine wpAnyH_ready (rs := [11]) (by kernel_rfl) (by simp) ?_
                  refine AllReadyH.cons rfl (fun K hK => ?_) AllReadyH.nil
                  go_simp
                  refine hK.out _ _ trivial (fun _ => ?_)
                  clear hK K
                  try simp only [List.getElem_toArray, List.getElem_cons_zero, List.getElem_cons_succ, Act.put, List.setIfInBounds_toArray, List.set_cons_zero, List.set_cons_succ]
                  refine wpAnyH_take (i := 12) (v := ?_) rfl (by kernel_rfl) (by kernel_rfl) (by kernel_rfl) (fun _ _ _ h => h) (Or.inl ⟨by rfl, ?_⟩) (by assumption) ?_
                  rotate_left
                  · intro w _; go_simp; with_reducible rfl
                  try simp only [List.getElem_toArray, List.getElem_cons_zero, List.getElem_cons_succ, Act.put, List.setIfInBounds_toArray, List.set_cons_zero, List.set_cons_succ]
                  refine wpAnyH_ready (rs := [13]) (by kernel_rfl) (by simp) ?_
                  refine AllReadyH.cons rfl (fun K hK => ?_) AllReadyH.nil
                  go_simp
                  refine hK.out _ _ trivial (fun _ => ?_)
                  clear hK K
                  try simp only [List.getElem_toArray, List.getElem_cons_zero, List.getElem_cons_succ, Act.put, List.setIfInBounds_toArray, List.set_cons_zero, List.set_cons_succ]
                  refine wpAnyH_ready (rs := [14]) (by kernel_rfl) (by simp) ?_
                  refine AllReadyH.cons rfl (fun K hK => ?_) AllReadyH.nil
                  refine step_append_lies _ rfl _ _ 22 rfl w.heap.size 3 iI _ 1 8 Try.underlying22 HI.out HI0.out HI1.out HI2.out rfl (by omega) (sl f' F.length) F.length (F.map iv) rfl hMa.fs.far ⟨w8.heap.size, 0, none⟩ 1 1 [iv ((dx : Int) + 1)] rfl (by simp) (World.news_of_block (heap_alloc_new w8.drew _)) (by simp [Value.oneCell']) (by omega) (by unfold maxLen; omega) (by omega) (by simp; omega) (w8.heap.size + 1) (by simp) ?_
                  intro g9 cap9 w9 hown9 hgr9 hat9 hlt9
                  have hM9 := hMa.appF hown9 hgr9 hat9 (by simp)
                  have hl9 : Blk w9 bl 99 [sl (g8, cap8) (C ++ [cc]).length, sl f' F.length, sl t' S'.length] := hMa.fs.l.grown hgr9 (by simp [Value.ownBlock]; omega)
                  have d1 : w9.cell? ⟨bl, 1, none⟩ = some (sl f' F.length) := hl9.cell 1
                  have e1 := hl9.frozen 1
                  have hB9 := (hBa.grown hgr9 hBa.size (fun k hk => by simp [Value.ownBlock] at hk; subst hk; exact (hMa.fs.lts).2.2.1.1)).setCell (p := ⟨bl, 1, none⟩) hMa.fs.bb (sl (g9, cap9) (F.length + 1))
                  refine hK.out _ _ trivial (fun _ => ?_)
                  clear hK K
                  try simp only [List.getElem_toArray, List.getElem_cons_zero, List.getElem_cons_succ, Act.put, List.setIfInBounds_toArray, List.set_cons_zero, List.set_cons_succ]
                  refine wpAnyH_take (i := 15) (v := ?_) rfl (by kernel_rfl) (by kernel_rfl) (by kernel_rfl) (fun _ _ _ h => h) (Or.inl ⟨by rfl, ?_⟩) (by assumption) ?_
                  rotate_left
                  · intro w _; go_simp; with_reducible rfl
                  try simp only [List.getElem_toArray, List.getElem_cons_zero, List.getElem_cons_succ, Act.put, List.setIfInBounds_toArray, List.set_cons_zero, List.set_cons_succ]
                  refine wpAnyH_take (i := 16) (v := ?_) rfl (by kernel_rfl) (by kernel_rfl) (by kernel_rfl) (fun _ _ _ h => h) (Or.inl ⟨by rfl, ?_⟩) (by assumption) ?_
                  rotate_left
                  · intro w _; go_simp; with_reducible rfl
                  try simp only [List.getElem_toArray, List.getElem_cons_zero, List.getElem_cons_succ, Act.put, List.setIfInBounds_toArray, List.set_cons_zero, List.set_cons_succ]
                  refine wpAnyH_ready (rs := [17]) (by kernel_rfl) (by simp) ?_
                  refine AllReadyH.cons rfl (fun K hK => ?_) AllReadyH.nil
                  go_simp
                  refine hK.out _ _ trivial (fun _ => ?_)
                  clear hK K
                  try simp only [List.getElem_toArray, List.getElem_cons_zero, List.getElem_cons_succ, Act.put, List.setIfInBounds_toArray, List.set_cons_zero, List.set_cons_succ]
                  refine wpAnyH_done (by kernel_rfl) ?_ _
                  clear d1 e1 hl9 hMa hBa hown9 hgr9 hat9 hMD hBD
                  go_wp2_with fail
                  go_meet
                  exact ⟨rfl, g9, cap9, hM9, hB9⟩
                ·
                  go_simp
                  refine hK.out _ _ trivial (fun _ => ?_)
                  clear hK K
                  try simp only [List.getElem_toArray, List.getElem_cons_zero, List.getElem_cons_succ, Act.put, List.setIfInBounds_toArray, List.set_cons_zero, List.set_cons_succ]
                  refine wpAnyH_take (i := 10) (v := ?_) rfl (by kernel_rfl) (by kernel_rfl) (by kernel_rfl) (fun _ _ _ h => h) (Or.inl ⟨by rfl, ?_⟩) (by assumption) ?_
                  rotate_left
                  · intro w _; go_simp; with_reducible rfl
                  try simp only [List.getElem_toArray, List.getElem_cons_zero, List.getElem_cons_succ, Act.put, List.setIfInBounds_toArray, List.set_cons_zero, List.set_cons_succ]
                  refine wpAnyH_ready (rs := [4, 11]) (by kernel_rfl) (by simp) ?_
                  refine AllReadyH.cons rfl (fun K hK => ?_) (AllReadyH.cons rfl (fun K hK => ?_) AllReadyH.nil)
                  ·
                    go_simp
                    refine hK.out _ _ trivial (fun _ => ?_)
                    clear hK K
                    try simp only [List.getElem_toArray, List.getElem_cons_zero, List.getElem_cons_succ, Act.put, List.setIfInBounds_toArray, List.set_cons_zero, List.set_cons_succ]
                    refine wpAnyH_ready (rs := [11]) (by kernel_rfl) (by simp) ?_
                    refine AllReadyH.cons rfl (fun K hK => ?_) AllReadyH.nil
                    go_simp
                    refine hK.out _ _ trivial (fun _ => ?_)
                    clear hK K
                    try simp only [List.getElem_toArray, List.getElem_cons_zero, List.getElem_cons_succ, Act.put, List.setIfInBounds_toArray, List.set_cons_zero, List.set_cons_succ]
                    refine wpAnyH_take (i := 12) (v := ?_) rfl (by kernel_rfl) (by kernel_rfl) (by kernel_rfl) (fun _ _ _ h => h) (Or.inl ⟨by rfl, ?_⟩) (by assumption) ?_
                    rotate_left
                    · intro w _; go_simp; with_reducible rfl
                    try simp only [List.getElem_toArray, List.getElem_cons_zero, List.getElem_cons_succ, Act.put, List.setIfInBounds_toArray, List.set_cons_zero, List.set_cons_succ]
                    refine wpAnyH_ready (rs := [13]) (by kernel_rfl) (by simp) ?_
                    refine AllReadyH.cons rfl (fun K hK => ?_) AllReadyH.nil
                    go_simp
                    refine hK.out _ _ trivial (fun _ => ?_)
                    clear hK K
                    try simp only [List.getElem_toArray, List.getElem_cons_zero, List.getElem_cons_succ, Act.put, List.setIfInBounds_toArray, List.set_cons_zero, List.set_cons_succ]
                    refine wpAnyH_ready (rs := [14]) (by kernel_rfl) (by simp) ?_
                    refine AllReadyH.cons rfl (fun K hK => ?_) AllReadyH.nil
                    refine step_append_lies _ rfl _ _ 22 rfl w.heap.size 3 iI _ 1 8 Try.underlying22 HI.out HI0.out HI1.out HI2.out rfl (by omega) (sl f' F.length) F.length (F.map iv) rfl hMa.fs.far ⟨w8.heap.size, 0, none⟩ 1 1 [iv ((dx : Int) + 1)] rfl (by simp) (World.news_of_block (heap_alloc_new w8.drew _)) (by simp [Value.oneCell']) (by omega) (by unfold maxLen; omega) (by omega) (by simp; omega) (w8.heap.size + 1) (by simp) ?_
                    intro g9 cap9 w9 hown9 hgr9 hat9 hlt9
                    have hM9 := hMa.appF hown9 hgr9 hat9 (by simp)
                    have hl9 : Blk w9 bl 99 [sl (g8, cap8) (C ++ [cc]).length, sl f' F.length, sl t' S'.length] := hMa.fs.l.grown hgr9 (by simp [Value.ownBlock]; omega)
                    have d1 : w9.cell? ⟨bl, 1, none⟩ = some (sl f' F.length) := hl9.cell 1
                    have e1 := hl9.frozen 1
                    have hB9 := (hBa.grown hgr9 hBa.size (fun k hk => by simp [Value.ownBlock] at hk; subst hk; exact (hMa.fs.lts).2.2.1.1)).setCell (p := ⟨bl, 1, none⟩) hMa.fs.bb (sl (g9, cap9) (F.length + 1))
                    refine hK.out _ _ trivial (fun _ => ?_)
                    clear hK K
                    try simp only [List.getElem_toArray, List.getElem_cons_zero, List.getElem_cons_succ, Act.put, List.setIfInBounds_toArray, List.set_cons_zero, List.set_cons_succ]
                    refine wpAnyH_take (i := 15) (v := ?_) rfl (by kernel_rfl) (by kernel_rfl) (by kernel_rfl) (fun _ _ _ h => h) (Or.inl ⟨by rfl, ?_⟩) (by assumption) ?_
                    rotate_left
                    · intro w _; go_simp; with_reducible rfl
                    try simp only [List.getElem_toArray, List.getElem_cons_zero, List.getElem_cons_succ, Act.put, List.setIfInBounds_toArray, List.set_cons_zero, List.set_cons_succ]
                    refine wpAnyH_take (i := 16) (v := ?_) rfl (by kernel_rfl) (by kernel_rfl) (by kernel_rfl) (fun _ _ _ h => h) (Or.inl ⟨by rfl, ?_⟩) (by assumption) ?_
                    rotate_left
                    · intro w _; go_simp; with_reducible rfl
                    try simp only [List.getElem_toArray, List.getElem_cons_zero, List.getElem_cons_succ, Act.put, List.setIfInBounds_toArray, List.set_cons_zero, List.set_cons_succ]
                    refine wpAnyH_ready (rs := [17]) (by kernel_rfl) (by simp) ?_
                    refine AllReadyH.cons rfl (fun K hK => ?_) AllReadyH.nil
                    go_simp
                    refine hK.out _ _ trivial (fun _ => ?_)
                    clear hK K
                    try simp only [List.getElem_toArray, List.getElem_cons_zero, List.getElem_cons_succ, Act.put, List.setIfInBounds_toArray, List.set_cons_zero, List.set_cons_succ]
                    refine wpAnyH_done (by kernel_rfl) ?_ _
                    clear d1 e1 hl9 hMa hBa hown9 hgr9 hat9 hMD hBD
                    go_wp2_with fail
                    go_meet
                    exact ⟨rfl, g9, cap9, hM9, hB9⟩
                  ·
                    go_simp
                    refine hK.out _ _ trivial (fun _ => ?_)
                    clear hK K
                    try simp only [List.getElem_toArray, List.getElem_cons_zero, List.getElem_cons_succ, Act.put, List.setIfInBounds_toArray, List.set_cons_zero, List.set_cons_succ]
                    refine wpAnyH_take (i := 12) (v := ?_) rfl (by kernel_rfl) (by kernel_rfl) (by kernel_rfl) (fun _ _ _ h => h) (Or.inl ⟨by rfl, ?_⟩) (by assumption) ?_
                    rotate_left
                    · intro w _; go_simp; with_reducible rfl
                    try simp only [List.getElem_toArray, List.getElem_cons_zero, List.getElem_cons_succ, Act.put, List.setIfInBounds_toArray, List.set_cons_zero, List.set_cons_succ]
                    refine wpAnyH_ready (rs := [4, 13]) (by kernel_rfl) (by simp) ?_
                    refine AllReadyH.cons rfl (fun K hK => ?_) (AllReadyH.cons rfl (fun K hK => ?_) AllReadyH.nil)
                    ·
                      go_simp
                      refine hK.out _ _ trivial (fun _ => ?_)
                      clear hK K
                      try simp only [List.getElem_toArray, List.getElem_cons_zero, List.getElem_cons_succ, Act.put, List.setIfInBounds_toArray, List.set_cons_zero, List.set_cons_succ]
                      refine wpAnyH_ready (rs := [13]) (by kernel_rfl) (by simp) ?_
                      refine AllReadyH.cons rfl (fun K hK => ?_) AllReadyH.nil
                      go_simp
                      refine hK.out _ _ trivial (fun _ => ?_)
                      clear hK K
                      try simp only [List.getElem_toArray, List.getElem_cons_zero, List.getElem_cons_succ, Act.put, List.setIfInBounds_toArray, List.set_cons_zero, List.set_cons_succ]
                      refine wpAnyH_ready (rs := [14]) (by kernel_rfl) (by simp) ?_
                      refine AllReadyH.cons rfl (fun K hK => ?_) AllReadyH.nil
                      refine step_append_lies _ rfl _ _ 22 rfl w.heap.size 3 iI _ 1 8 Try.underlying22 HI.out HI0.out HI1.out HI2.out rfl (by omega) (sl f' F.length) F.length (F.map iv) rfl hMa.fs.far ⟨w8.heap.size, 0, none⟩ 1 1 [iv ((dx : Int) + 1)] rfl (by simp) (World.news_of_block (heap_alloc_new w8.drew _)) (by simp [Value.oneCell']) (by omega) (by unfold maxLen; omega) (by omega) (by simp; omega) (w8.heap.size + 1) (by simp) ?_
                      intro g9 cap9 w9 hown9 hgr9 hat9 hlt9
                      have hM9 := hMa.appF hown9 hgr9 hat9 (by simp)
                      have hl9 : Blk w9 bl 99 [sl (g8, cap8) (C ++ [cc]).length, sl f' F.length, sl t' S'.length] := hMa.fs.l.grown hgr9 (by simp [Value.ownBlock]; omega)
                      have d1 : w9.cell? ⟨bl, 1, none⟩ = some (sl f' F.length) := hl9.cell 1
                      have e1 := hl9.frozen 1
                      have hB9 := (hBa.grown hgr9 hBa.size (fun k hk => by simp [Value.ownBlock] at hk; subst hk; exact (hMa.fs.lts).2.2.1.1)).setCell (p := ⟨bl, 1, none⟩) hMa.fs.bb (sl (g9, cap9) (F.length + 1))
                      refine hK.out _ _ trivial (fun _ => ?_)
                      clear hK K
                      try simp only [List.getElem_toArray, List.getElem_cons_zero, List.getElem_cons_succ, Act.put, List.setIfInBounds_toArray, List.set_cons_zero, List.set_cons_succ]
                      refine wpAnyH_take (i := 15) (v := ?_) rfl (by kernel_rfl) (by kernel_rfl) (by kernel_rfl) (fun _ _ _ h => h) (Or.inl ⟨by rfl, ?_⟩) (by assumption) ?_
                      rotate_left
                      · intro w _; go_simp; with_reducible rfl
                      try simp only [List.getElem_toArray, List.getElem_cons_zero, List.getElem_cons_succ, Act.put, List.setIfInBounds_toArray, List.set_cons_zero, List.set_cons_succ]
                      refine wpAnyH_take (i := 16) (v := ?_) rfl (by kernel_rfl) (by kernel_rfl) (by kernel_rfl) (fun _ _ _ h => h) (Or.inl ⟨by rfl, ?_⟩) (by assumption) ?_
                      rotate_left
                      · intro w _; go_simp; with_reducible rfl
                      try simp only [List.getElem_toArray, List.getElem_cons_zero, List.getElem_cons_succ, Act.put, List.setIfInBounds_toArray, List.set_cons_zero, List.set_cons_succ]
                      refine wpAnyH_ready (rs := [17]) (by kernel_rfl) (by simp) ?_
                      refine AllReadyH.cons rfl (fun K hK => ?_) AllReadyH.nil
                      go_simp
                      refine hK.out _ _ trivial (fun _ => ?_)
                      clear hK K
                      try simp only [List.getElem_toArray, List.getElem_cons_zero, List.getElem_cons_succ, Act.put, List.setIfInBounds_toArray, List.set_cons_zero, List.set_cons_succ]
                      refine wpAnyH_done (by kernel_rfl) ?_ _
                      clear d1 e1 hl9 hMa hBa hown9 hgr9 hat9 hMD hBD
                      go_wp2_with fail
                      go_meet
                      exact ⟨rfl, g9, cap9, hM9, hB9⟩
                    ·
                      go_simp
                      refine hK.out _ _ trivial (fun _ => ?_)
                      clear hK K
                      try simp only [List.getElem_toArray, List.getElem_cons_zero, List.getElem_cons_succ, Act.put, List.setIfInBounds_toArray, List.set_cons_zero, List.set_cons_succ]
                      refine wpAnyH_ready (rs := [4]) (by kernel_rfl) (by simp) ?_
                      refine AllReadyH.cons rfl (fun K hK => ?_) AllReadyH.nil
                      go_simp
                      refine hK.out _ _ trivial (fun _ => ?_)
                      clear hK K
                      try simp only [List.getElem_toArray, List.getElem_cons_zero, List.getElem_cons_succ, Act.put, List.setIfInBounds_toArray, List.set_cons_zero, List.set_cons_succ]
                      refine wpAnyH_ready (rs := [14]) (by kernel_rfl) (by simp) ?_
                      refine AllReadyH.cons rfl (fun K hK => ?_) AllReadyH.nil
                      refine step_append_lies _ rfl _ _ 22 rfl w.heap.size 3 iI _ 1 8 Try.underlying22 HI.out HI0.out HI1.out HI2.out rfl (by omega) (sl f' F.length) F.length (F.map iv) rfl hMa.fs.far ⟨w8.heap.size, 0, none⟩ 1 1 [iv ((dx : Int) + 1)] rfl (by simp) (World.news_of_block (heap_alloc_new w8.drew _)) (by simp [Value.oneCell']) (by omega) (by unfold maxLen; omega) (by omega) (by simp; omega) (w8.heap.size + 1) (by simp) ?_
                      intro g9 cap9 w9 hown9 hgr9 hat9 hlt9
                      have hM9 := hMa.appF hown9 hgr9 hat9 (by simp)
                      have hl9 : Blk w9 bl 99 [sl (g8, cap8) (C ++ [cc]).length, sl f' F.length, sl t' S'.length] := hMa.fs.l.grown hgr9 (by simp [Value.ownBlock]; omega)
                      have d1 : w9.cell? ⟨bl, 1, none⟩ = some (sl f' F.length) := hl9.cell 1
                      have e1 := hl9.frozen 1
                      have hB9 := (hBa.grown hgr9 hBa.size (fun k hk => by simp [Value.ownBlock] at hk; subst hk; exact (hMa.fs.lts).2.2.1.1)).setCell (p := ⟨bl, 1, none⟩) hMa.fs.bb (sl (g9, cap9) (F.length + 1))
                      refine hK.out _ _ trivial (fun _ => ?_)
                      clear hK K
                      try simp only [List.getElem_toArray, List.getElem_cons_zero, List.getElem_cons_succ, Act.put, List.setIfInBounds_toArray, List.set_cons_zero, List.set_cons_succ]
                      refine wpAnyH_take (i := 15) (v := ?_) rfl (by kernel_rfl) (by kernel_rfl) (by kernel_rfl) (fun _ _ _ h => h) (Or.inl ⟨by rfl, ?_⟩) (by assumption) ?_
                      rotate_left
                      · intro w _; go_simp; with_reducible rfl
                      try simp only [List.getElem_toArray, List.getElem_cons_zero, List.getElem_cons_succ, Act.put, List.setIfInBounds_toArray, List.set_cons_zero, List.set_cons_succ]
                      refine wpAnyH_take (i := 16) (v := ?_) rfl (by kernel_rfl) (by kernel_rfl) (by kernel_rfl) (fun _ _ _ h => h) (Or.inl ⟨by rfl, ?_⟩) (by assumption) ?_
                      rotate_left
                      · intro w _; go_simp; with_reducible rfl
                      try simp only [List.getElem_toArray, List.getElem_cons_zero, List.getElem_cons_succ, Act.put, List.setIfInBounds_toArray, List.set_cons_zero, List.set_cons_succ]
                      refine wpAnyH_ready (rs := [17]) (by kernel_rfl) (by simp) ?_
                      refine AllReadyH.cons rfl (fun K hK => ?_) AllReadyH.nil
                      go_simp
                      refine hK.out _ _ trivial (fun _ => ?_)
                      clear hK K
                      try simp only [List.getElem_toArray, List.getElem_cons_zero, List.getElem_cons_succ, Act.put, List.setIfInBounds_toArray, List.set_cons_zero, List.set_cons_succ]
                      refine wpAnyH_done (by kernel_rfl) ?_ _
                      clear d1 e1 hl9 hMa hBa hown9 hgr9 hat9 hMD hBD
                      go_wp2_with fail
                      go_meet
                      exact ⟨rfl, g9, cap9, hM9, hB9⟩
              case rest =>
                obtain ⟨rfl, g9, cap9, hM9, hB9⟩ := hcut
                obtain ⟨w9, hw9⟩ : ∃ x, wc = x := ⟨_, rfl⟩
                rw [hw9] at hM9 hB9 ⊢
                clear hM8 hB8 hcf hw1 hw9
                obtain ⟨_, _, c2⟩ := hM9.fs.fields
                have hs9 := hB9.size
                have hM9a := hM9.alloc (.cells #[.slice a5 R.length k5] 22)
                have hB9a := hB9.alloc hs9 (.cells #[.slice a5 R.length k5] 22)
                have hne := hM9a.fs.ne
                have hla := hM9a.fs.l
                have hOO1 : O.length ≤ 1048576 := hO1
                go_wp2_with (first
                  | (at_builtin
                     refine wpList_append_lies _ rfl _ _ 37 rfl w.heap.size 22 iS _ 1 24 Try.underlying37 HS.out HS0.out HS1.out HS2.out rfl (by omega) (sl t' S'.length) S'.length S' rfl hM9a.fs.st ⟨w9.heap.size, 0, none⟩ 1 1 [.slice a5 R.length k5] rfl (by simp) (World.news_of_block (heap_alloc_new w9 _)) (by simp [Value.oneCell']) (by omega) (by unfold maxLen; omega) (by omega) (by simp; omega) (w9.heap.size + 1) (by simp) ?_
                     intro g10 cap10 w10 hown10 hgr10 hat10 hlt10
                     have hl10 := hla.grown hgr10 (show (sl t' S'.length).ownBlock ≠ some bl from by simp [Value.ownBlock]; omega)
                     have d2 : w10.cell? ⟨bl, 2, none⟩ = some (.slice (some ⟨t'.1, 0, none⟩) S'.length t'.2) := hl10.cell 2
                     have e2 : w10.frozen? ⟨bl, 2, none⟩ = false := hl10.frozen 2
                     have hM10 := hM9a.appT hown10 hgr10 hat10 (by simp)
                     have hB10 := (hB9a.grown hgr10 hB9a.size (fun k hk => by simp [Value.ownBlock] at hk; subst hk; exact (hM9a.fs.lts).2.2.2.1.1)).setCell (p := ⟨bl, 2, none⟩) hM9a.fs.bb (sl (g10, cap10) (S'.length + 1))
                     have hM10a := hM10.alloc (.cells #[.int .i64 0] 3)
                     have hs10 := hB10.size
                     have hB10a := hB10.alloc hs10 (.cells #[.int .i64 0] 3)
                     have hz10 : (w10.setCell ⟨bl, 2, none⟩ (sl (g10, cap10) (S'.length + 1))).heap.size = w10.heap.size := by simp [World.setCell]
                     have hnw := heap_alloc_new (w10.setCell ⟨bl, 2, none⟩ (sl (g10, cap10) (S'.length + 1))) (.cells #[.int .i64 0] 3)
                     rw [hz10] at hnw)
                  | (at_builtin
                     refine wpList_append_lies _ rfl _ _ 22 rfl w.heap.size 3 iI _ 1 8 Try.underlying22 HI.out HI0.out HI1.out HI2.out rfl (by omega) (sl o' O.length) O.length (O.map iv) rfl hM10a.fs.ord ⟨w10.heap.size, 0, none⟩ 1 1 [iv 0] rfl (by simp) (World.news_of_block hnw) (by simp [Value.oneCell']) (by omega) (by unfold maxLen; omega) (by omega) hB10a.size (w10.heap.size + 1) (by simp [World.setCell]) ?_
                     intro g11 cap11 w11 hown11 hgr11 hat11 hlt11
                     have hM11 := hM10a.appO hown11 hgr11 hat11 (by simp [World.setCell])
                     have hB11 := hB10a.grown hgr11 hB10a.size (fun k hk => by simp [Value.ownBlock] at hk; subst hk; exact (hM10a.fs.lts).2.2.2.2.1)))
                clear d2 e2 hl10 hla hne hM9 hM9a hM10 hM10a hB9 hB9a hB10 hB10a hown10 hgr10 hat10 hown11 hgr11 hat11 hz10 hnw c2
                have hO11 := hM11.fs.ord
                have hl1 : (O ++ [(0 : Int)]).length = O.length + 1 := by simp
                rw [hl1] at hO11
                clear hl1
                obtain ⟨tl, hbk, hbl2, hnc, hmx, hBg⟩ := row_blk hO11
                have hloO : lo ≤ O.length := by rw [← HOO.out, Od_length]; exact hlo
                have hcapn : O.length + 1 ≤ cap11 := hnc
                have H3 := Lib.hid (show ∀ W : World, (Instr.sliceAt 22 (.slice (some ⟨g11, 0, none⟩) (O.length + 1) cap11) (some (.int .i64 ((lo : Int) + 1))) none none).run Try.prog W = .ok (.slice (some ⟨g11, if cap11 = lo + 1 then 0 else lo + 1, none⟩) (O.length - lo) (cap11 - (lo + 1))) W from fun W => by
                  have h := run_fromX g11 (O.length + 1) cap11 (lo + 1) (by omega) hcapn W
                  rw [show ((lo + 1 : Nat) : Int) = (lo : Int) + 1 by omega, show O.length + 1 - (lo + 1) = O.length - lo by omega] at h
                  exact h)
                have H6 := Lib.hid (fun W => run_fromX g11 (O.length + 1) cap11 lo (by omega) hcapn W)
                have hspl := splice_ord O tl 0 lo hloO
                have HSPL := Lib.hid hspl
                have hbkD := hbk.drew
                have hMD := hM11.drew
                have hBD := hB11.drew
                have hcl0 : ((O.drop lo).map iv).length = O.length - lo := by rw [List.length_map, List.length_drop]
                have hw1 : IntKind.i64.wrap ((lo : Int) + 1) = (lo : Int) + 1 := IntWalk.i64_in _ (by omega)
                have HW1 := Lib.hid hw1
                clear hbk hO11 hspl hw1
                refine wp_region_held_drew (S := (fun _ => True)) (by kernel_rfl) (trivial) (fun hHeld => ?_)
                refine wpAnyH_take (i := 0) (v := ?_) rfl (by kernel_rfl) (by kernel_rfl) (by kernel_rfl) (fun _ _ _ h => h) (Or.inl ⟨by rfl, ?_⟩) (by assumption) ?_
                rotate_left
                · intro w _; go_simp; with_reducible rfl
                try simp only [List.getElem_toArray, List.getElem_cons_zero, Act.put, List.setIfInBounds_toArray, List.set_cons_zero, List.set_cons_succ]
                refine wpAnyH_take (i := 1) (v := ?_) rfl (by kernel_rfl) (by kernel_rfl) (by kernel_rfl) (fun _ _ _ h => h) (Or.inl ⟨by rfl, ?_⟩) (by assumption) ?_
                rotate_left
                · intro w _; go_simp; with_reducible rfl
                try simp only [List.getElem_toArray, List.getElem_cons_zero, List.getElem_cons_succ, Act.put, List.setIfInBounds_toArray, List.set_cons_zero, List.set_cons_succ]
                refine wpAnyH_take (i := 2) (v := ?_) rfl (by kernel_rfl) (by kernel_rfl) (by kernel_rfl) (fun _ _ _ h => h) (Or.inl ⟨by rfl, ?_⟩) (by assumption) ?_
                rotate_left
                · intro w _; go_simp; with_reducible rfl
                try simp only [List.getElem_toArray, List.getElem_cons_zero, List.getElem_cons_succ, Act.put, List.setIfInBounds_toArray, List.set_cons_zero, List.set_cons_succ]
                rw [HW1.out]
                refine wpAnyH_take (i := 3) (v := .slice (some ⟨g11, if cap11 = lo + 1 then 0 else lo + 1, none⟩) (O.length - lo) (cap11 - (lo + 1))) rfl (by kernel_rfl) (by kernel_rfl) (by kernel_rfl) (fun _ _ _ h => h) (Or.inl ⟨by rfl, ?_⟩) (by assumption) ?_
                · intro w_ _
                  have h_ := H3.out w_
                  simp [execOp, Act.eval, h_]
                try simp only [List.getElem_toArray, List.getElem_cons_zero, List.getElem_cons_succ, Act.put, List.setIfInBounds_toArray, List.set_cons_zero, List.set_cons_succ]
                refine wpAnyH_take (i := 4) (v := ?_) rfl (by kernel_rfl) (by kernel_rfl) (by kernel_rfl) (fun _ _ _ h => h) (Or.inl ⟨by rfl, ?_⟩) (by assumption) ?_
                rotate_left
                · intro w _; go_simp; with_reducible rfl
                try simp only [List.getElem_toArray, List.getElem_cons_zero, List.getElem_cons_succ, Act.put, List.setIfInBounds_toArray, List.set_cons_zero, List.set_cons_succ]
                refine wpAnyH_take (i := 5) (v := ?_) rfl (by kernel_rfl) (by kernel_rfl) (by kernel_rfl) (fun _ _ _ h => h) (Or.inl ⟨by rfl, ?_⟩) (by assumption) ?_
                rotate_left
                · intro w _; go_simp; with_reducible rfl
                try simp only [List.getElem_toArray, List.getElem_cons_zero, List.getElem_cons_succ, Act.put, List.setIfInBounds_toArray, List.set_cons_zero, List.set_cons_succ]
                refine wpAnyH_take (i := 6) (v := .slice (some ⟨g11, if cap11 = lo then 0 else lo, none⟩) (O.length + 1 - lo) (cap11 - lo)) rfl (by kernel_rfl) (by kernel_rfl) (by kernel_rfl) (fun _ _ _ h => h) (Or.inl ⟨by rfl, ?_⟩) (by assumption) ?_
                · intro w_ _
                  have h_ := H6.out w_
                  simp [execOp, Act.eval, h_]
                try simp only [List.getElem_toArray, List.getElem_cons_zero, List.getElem_cons_succ, Act.put, List.setIfInBounds_toArray, List.set_cons_zero, List.set_cons_succ]
                refine wpAnyH_ready (rs := [7]) (by kernel_rfl) (by simp) ?_
                refine AllReadyH.cons rfl (fun K hK => ?_) AllReadyH.nil
                refine step_of_list rfl fun Q' hQ' => ?_
                refine wpList_copy_rowX rfl _ _ _ _ rfl 3 Try.underlying22 Try.infoI (some ⟨g11, if cap11 = lo + 1 then 0 else lo + 1, none⟩) (some ⟨g11, if cap11 = lo then 0 else lo, none⟩) (O.length - lo) (cap11 - (lo + 1)) (O.length + 1 - lo) (cap11 - lo) rfl rfl g11 (lo + 1) ((O ++ [0]).map iv ++ tl) 3 hbkD ((O.drop lo).map iv) ?e1 ?e2 ?e3 (ints_oneX _) ?_
                case e1 => rw [hcl0]; show _ = min _ _; omega
                case e2 =>
                  intro hp
                  rw [hcl0] at hp
                  refine ⟨by rw [if_neg (by omega)], _, rfl, fun q v hq => ?_⟩
                  rw [if_neg (by omega), Addr.add_lit, hbkD.cell]
                  rw [List.getElem?_map, List.getElem?_drop] at hq
                  have hql : lo + q < O.length := by
                    apply Classical.byContradiction
                    intro h
                    rw [List.getElem?_eq_none (by omega)] at hq
                    cases hq
                  rw [List.getElem?_append_left (by simp; omega), List.getElem?_map, List.getElem?_append_left hql]
                  exact hq
                case e3 => rw [hcl0]; simp; omega
                intro w12 hb12 hg12
                rw [HSPL.out] at hb12
                refine hQ' _ _ ?_
                refine hK.out _ _ trivial (fun _ => ?_)
                clear hK K hQ' Q'
                try simp only [List.getElem_toArray, List.getElem_cons_zero, List.getElem_cons_succ, Act.put, List.setIfInBounds_toArray, List.set_cons_zero, List.set_cons_succ]
                refine wpAnyH_done (by kernel_rfl) ?_ _
                obtain ⟨O1, hO1e⟩ : ∃ O1, (O ++ [0]).take (lo + 1) ++ O.drop lo = O1 := ⟨_, rfl⟩
                have hO1l : O1.length = O.length + 1 := by rw [← hO1e, List.length_append, List.length_take, List.length_drop]; simp; omega
                have hset := set_ord O 0 (C.length : Int) lo hloO
                rw [hO1e] at hset hb12
                have HSET := Lib.hid hset
                have hrow12 : w12.ownsRow w.heap.size 3 1 (sl (g11, cap11) O1.length) O1.length (O1.map iv) := blk_row hb12 (by rw [← hbl2, List.length_append, List.length_append, List.length_map, List.length_map, hO1l]; simp) (by simp) hmx hBg
                have hM12 := hMD.setO hg12 (by rw [hO1l]; simp) hrow12
                have hB12 := hBD.grown hg12 hBD.size (fun k hk => by cases hk; exact hBg)
                have hk12 : w12.cell? ⟨g11, lo, none⟩ = O1[lo]?.map iv := by rw [hrow12.cellAt lo (by omega), List.getElem?_map]
                rw [List.getElem?_eq_getElem (show lo < O1.length by omega)] at hk12
                obtain ⟨ov, hov⟩ : ∃ v, O1[lo]'(by omega) = v := ⟨_, rfl⟩
                have hk12' : w12.cell? ⟨g11, lo, none⟩ = some (.int .i64 ov) := by rw [hk12, hov]; rfl
                have hf12 := hrow12.frozenAt lo
                obtain ⟨c0, _, _⟩ := hM12.fs.fields
                have hC1 : (C ++ [cc]).length = C.length + 1 := by simp
                have HC1 := Lib.hid hC1
                rw [hC1] at c0
                obtain ⟨hst1, hst2⟩ := hrow12.stored lo (iv (C.length : Int))
                have hstr : (w12.setCell ⟨g11, lo, none⟩ (iv (C.length : Int))).ownsRow w.heap.size 3 1 (sl (g11, cap11) (O.take lo ++ (C.length : Int) :: O.drop lo).length) (O.take lo ++ (C.length : Int) :: O.drop lo).length ((O.take lo ++ (C.length : Int) :: O.drop lo).map iv) := by
                  rw [← HSET.out, List.length_set, List.map_set]; exact hst1
                have hM13 := hM12.setO hst2 (by rw [← HSET.out, List.length_set]) hstr
                have hB13 := hB12.setCell (p := ⟨g11, lo, none⟩) hBg (iv (C.length : Int))
                have hlo2 : (lo : Int) < (O.length : Int) + 1 := by omega
                have hww : IntKind.i64.wrap (C.length : Int) = (C.length : Int) := IntWalk.i64_in _ (by omega)
                have hfs : FS w.heap.size (w12.setCell ⟨g11, lo, none⟩ (iv (C.length : Int))) bl (g8, cap8) (g9, cap9) (g10, cap10) (g11, cap11) (Cd m (Q' ++ [nb])) (Fd m (Q' ++ [nb])) (S' ++ [.slice a5 R.length k5]) (Xd m (Q' ++ [nb])) (Od (ord'.take lo ++ C.length :: ord'.drop lo)) := by
                  rw [Cd_snoc, Fd_snoc, Xd_snoc, Od_insert, HUR.out, HCC.out, HC.out, HF.out, HOO.out, HFN.out, HDX.out]
                  exact hM13.fs
                have HFQ : FQ m w.heap.size (w12.setCell ⟨g11, lo, none⟩ (iv (C.length : Int))) bl (g8, cap8) (g9, cap9) (g10, cap10) (g11, cap11) (Q' ++ [nb]) (S' ++ [.slice a5 R.length k5]) (ord'.take lo ++ C.length :: ord'.drop lo) (.slice (some ⟨tb, toff, none⟩) (segsAll m).length tc) := ⟨hfs, by rw [Cd_snoc, HUR.out, HCC.out, HC.out]; exact HORD.out, hM13.ts, hM13.ap⟩
                have HOL := Lib.hid (show (Od (ord'.take lo ++ C.length :: ord'.drop lo)).length = O.length + 1 by rw [Od_insert, HOO.out, ← HSET.out, List.length_set, hO1l])
                clear hfs hM13 hM12 hst1 hst2 hstr hset hb12 hM11 hB11 hMD hBD hbkD hov hk12 hO1e hC1 hg12 hB12 hcl0
                go_wp2
                go_roundw
                case rel => exact ⟨j + 1, Q' ++ [nb], (g8, cap8), (g9, cap9), (g10, cap10), (g11, cap11), _, _, by go_num, by omega, by rw [HOL.out], HSI2, HFQ, hB13⟩
                case measure => simp [intOf] <;> omega
        · obtain rfl : j = (segsAll m).length := by omega
          have HSQ := Lib.hid (hSI.out.next (Nat.le_refl _))
          go_wp2
          go_roundw
          case rel => exact ⟨p + 1, Q', a', f', t', o', S', ord', by go_num, rfl, HSQ, hQ', hbr'⟩
          case measure => simp [intOf] <;> omega
    · have hQp : Q.length = p := by have := hSQ.out.hp; omega
      have hge : ((Cd m Q).length : Int) ≤ (p : Int) := by rw [Cd_length]; omega
      have HSQ := Lib.hid (show SQ (sgBd m) Q Q.length by rw [hQp]; exact hSQ.out)
      clear hSQ hQp
      go_wp2
      go_ret2
      exact ⟨bl, a, f, t, o, Q, S, ord, _, rfl, hQ, HSQ.out, hbr⟩
end Go.Proofs.Ytkeenoklghkonaa
