import Derived.Test.YtmlikchhkblohaaV5
import Derived.Test.YtmlikchhkblohaaV17
namespace Go.Proofs.Ytmlikchhkblohaa
open Go Go.RowKit Go.Pan

set_option maxHeartbeats 1600000 in
set_option maxRecDepth 100000 in
theorem playedByS_any (v : Value) (xs : List Int) (u : Value) (l : List (Int × Int)) (w : World) (hv : OwnI w v xs) (hn : xs.length ≤ 1048576) (hu : OwnC c2 w u l) (hm : l.length ≤ 1048576) :
    Calls Try.prog 103 #[v, u, .func (Fn.func 104) #[] #[], .func (Fn.func 105) #[] #[]] w fun e w' => ∃ r, e = .returned (.tuple #[r, .bool (okSegs xs l)]) ∧ OwnI w' r (mPlaySegments xs l) ∧ From w.heap.size r ∧ Below w.heap.size w w' := by
  obtain ⟨ad, cap, rfl, hc, _, _⟩ := hv.shape
  obtain ⟨bd, cbp, rfl, hc', _, _⟩ := hu.shape
  have cg := IsStack_any _ _ _ hv hn
  cases hg : goodB xs with
  | true =>
    rw [hg] at cg
    by_cases h40 : (l.length : Int) ≤ 40
    · have HG := Lib.hid hg
      have h9 := (goodB_iff.1 hg).le9
      clear hg
      go_enter Try.func103, Try.ntmps103
      go_wp2_with fail
      refine (cg).mono ?_
      rintro e w1 ⟨rfl, hb⟩
      have hv1 := hv.same hb
      have hu1 := hu.same hb
      go_wp2_with fail
      refine (towerOf_any _ _ _ hv1 h9).mono ?_
      rintro e w2 ⟨rfl, hb2⟩
      have hu2 := hu1.same hb2
      have hB2 := hb.trans (hb2.mono hb.size)
      have hz0 : Blk (w2.alloc (.cells (twl []).toArray 86)) w2.heap.size 86 (twl []) := Blk.new w2 _ (twl []) _ rfl
      have hB20 := hB2.alloc hB2.size (.cells (twl []).toArray 86)
      have hu20 := hu2.alloc (.cells (twl []).toArray 86)
      have hs2 := hB2.size
      have HLT := Lib.hid (Own.lt hu2)
      clear hv hu hv1 hu1 cg hb hb2 hB2 hu2
      go_wp2_with (first | (refine wpList_store_tower rfl _ _ rfl w2.heap.size [] xs (by simp) h9 rfl rfl hz0 ?_; intro w3 hbT3 hgr3))
      have hB3 := hB20.grown hgr3 hB20.size (by intro k hk; cases hk; exact hs2)
      have hu3 : OwnC c2 w3 (.slice bd l.length cbp) l := hu20.grown hgr3 (by intro g hg e; have := HLT.out g hg; cases e; omega)
      clear hz0 hB20 hu20 hgr3
      obtain ⟨bx, hbx⟩ : ∃ x, w2.heap.size = x := ⟨_, rfl⟩
      rw [hbx] at hbT3 hs2 ⊢
      rw [hbx] at HLT
      have HBX := Lib.hid hbx
      clear hbx
      go_loopw [25] (fun i wr => ∃ k : Nat, k ≤ l.length ∧ i = .int .i64 k ∧ Hid (Segs xs.length (l.take k)) ∧ Blk wr bx 86 (twl (playG xs (l.take k))) ∧ Below w.heap.size w wr ∧ OwnC c2 wr (.slice bd l.length cbp) l) (fun i _ => l.length - (intOf i).toNat)
      case atStart => exact ⟨0, Nat.zero_le _, rfl, Lib.hid (fun p hp => by simp at hp), hbT3, hB3, hu3⟩
      case round =>
        obtain ⟨k, hk, rfl, hS, hbl, hbr, hur⟩ := hrel
        clear hbT3 hB3 hu3
        have hpl := playG_length (xs := xs) hS.out
        have hp9 : (playG xs (l.take k)).length ≤ 9 := by rw [hpl]; exact h9
        have HPL2 := Lib.hid (show ((playG xs (l.take k)).length : Int) = (xs.length : Int) by rw [hpl])
        have HPL3 := Lib.hid hpl
        clear hpl
        by_cases hlt : k < l.length
        · obtain ⟨b, off, rfl, hbw, hra⟩ := OwnC.rowAt hur hlt
          obtain ⟨p, hp⟩ : ∃ p, l[k] = p := ⟨_, rfl⟩
          rw [hp] at hra
          have hra' : wr.rangeAt b (off + k * 2) [.int .i64 p.1, .int .i64 p.2] := hra
          have hsz2 : (Try.prog.info? 62).map (·.size) = some ([.int .i64 p.1, .int .i64 p.2] : List Value).length := infoSegment
          have HP := Lib.hid hp
          have hlr := hbr.size
          have hlb := hbl.lt
          have hba := hbr.alloc hlr (.cells #[.int .i64 p.1, .int .i64 p.2] 62)
          have hz : Blk (wr.alloc (.cells [.int .i64 p.1, .int .i64 p.2].toArray 62)) wr.heap.size 62 [.int .i64 p.1, .int .i64 p.2] := Blk.new wr _ _ _ rfl
          have hbla := hbl.alloc (.cells #[.int .i64 p.1, .int .i64 p.2] 62)
          have hua := hur.alloc (.cells #[.int .i64 p.1, .int .i64 p.2] 62)
          have ci := IsSegment_any (xs.length : Int) p
          obtain ⟨G, hG⟩ : ∃ G, playG xs (l.take k) = G := ⟨_, rfl⟩
          have HGG := Lib.hid hG
          rw [hG] at hbla hp9 HPL2
          clear hra hp hbl hur hbr hG HPL3
          cases hi : segB xs.length p with
          | true =>
            rw [hi] at ci
            have HI := Lib.hid hi
            have HS2 := Lib.hid (segs_take_succ hlt hS.out (by rw [HP.out]; exact hi))
            have HPL := Lib.hid (show playG xs (l.take (k + 1)) = segT G p by rw [playG_take_succ xs l k hlt, HP.out, HGG.out])
            have hq9 : (segT G p).length ≤ 9 := by rw [segT_length hi]; exact hp9
            clear hi
            go_wp2_with (first | (refine wpList_load_mid rfl 62 _ rfl b (off + k * 2) rfl [.int .i64 p.1, .int .i64 p.2] _ hra' Try.underlying62 rfl hsz2 ?_))
            refine (ci _).mono ?_
            rintro e w4 ⟨rfl, hb4⟩
            have hz4 := hz.below hb4 (by simp)
            have hbl4 := hbla.below hb4 (by simp; omega)
            have hlb4 := hbl4.lt
            have k0 : w4.cell? ⟨wr.heap.size, 0, none⟩ = some (.int .i64 p.1) := hz4.cell 0
            have k1 : w4.cell? ⟨wr.heap.size, 1, none⟩ = some (.int .i64 p.2) := hz4.cell 1
            have hB4 := hba.trans (hb4.mono hba.size)
            go_wp2_with (first | (refine wpList_load_tower rfl _ rfl bx G hp9 rfl hbl4 ?_))
            refine (segmentTurned_any G _ p _ hp9 HI HPL2).mono ?_
            rintro e w5 ⟨rfl, hb5⟩
            have hbl5 := hbl4.below hb5 hlb4
            have hB5 := hB4.trans (hb5.mono hB4.size)
            have hu5 := (hua.same hb4).same hb5
            clear hua hz hz4 hra' hba hB4 hb4 hb5 hbl4 hbla k0 k1
            go_wp2_with (first | (refine wpList_store_tower rfl _ _ rfl bx G (segT G p) hp9 hq9 rfl rfl hbl5 ?_; intro w6 hbl6 hgr6))
            rw [← HPL.out] at hbl6
            have hB6 := hB5.grown hgr6 hB5.size (by intro j hj; cases hj; have := HBX.out; omega)
            have hu6 : OwnC c2 w6 (.slice (some ⟨b, off, none⟩) l.length cbp) l := hu5.grown hgr6 (by intro g hg e; have := HLT.out g hg; cases e; omega)
            clear hgr6 hB5 hbl5 hu5
            go_roundw
            case rel => exact ⟨k + 1, by omega, by go_num, HS2, hbl6, hB6, hu6⟩
            case measure => simp [intOf] <;> omega
          | false =>
            rw [hi] at ci
            have HO := Lib.hid (okSegs_bad (xs := xs) hlt (by rw [HP.out]; exact hi))
            have HM := Lib.hid (show mPlaySegments xs l = [] from if_neg (by rw [HO.out]; exact Bool.false_ne_true))
            clear hi
            go_wp2_with (first | (refine wpList_load_mid rfl 62 _ rfl b (off + k * 2) rfl [.int .i64 p.1, .int .i64 p.2] _ hra' Try.underlying62 rfl hsz2 ?_))
            refine (ci _).mono ?_
            rintro e w4 ⟨rfl, hb4⟩
            have hB4 := hba.trans (hb4.mono hba.size)
            go_wp2
            go_ret2
            exact ⟨_, by rw [HO.out]; rfl, by rw [HM.out]; exact OwnI.nil _, From.nil _ _ _, hB4⟩
        · obtain rfl : k = l.length := by omega
          have HO := Lib.hid (okSegs_all HG.out h40 hS.out)
          have HM := Lib.hid (show mPlaySegments xs l = playG xs (l.take l.length) by rw [List.take_length]; exact if_pos HO.out)
          have hlr := hbr.size
          obtain ⟨G, hG⟩ : ∃ G, playG xs (l.take l.length) = G := ⟨_, rfl⟩
          rw [hG] at HM HPL3 hp9 hbl
          clear HPL2 hS hG
          go_wp2_with (first | (refine wpList_load_tower rfl _ rfl bx G hp9 rfl hbl ?_))
          refine (list_any G _ _ HPL3.out h9).mono ?_
          rintro e w5 ⟨r5, rfl, ho5, hf5, hb5⟩
          have hB5 := hbr.trans (hb5.mono hlr)
          have hf5' := hf5.mono hlr
          go_wp2
          go_ret2
          exact ⟨_, by rw [HO.out]; rfl, by rw [HM.out]; exact ho5, hf5', hB5⟩
    · have HO := Lib.hid (show okSegs xs l = false by unfold okSegs; rw [decide_eq_false h40]; simp)
      have HM := Lib.hid (show mPlaySegments xs l = [] from if_neg (by rw [HO.out]; exact Bool.false_ne_true))
      have h41 : (40 : Int) < l.length := by omega
      clear hg
      go_enter Try.func103, Try.ntmps103
      go_wp2_with fail
      refine (cg).mono ?_
      rintro e w1 ⟨rfl, hb⟩
      go_wp2
      go_ret2
      exact ⟨_, by rw [HO.out]; rfl, by rw [HM.out]; exact OwnI.nil _, From.nil _ _ _, hb⟩
  | false =>
    have HO := Lib.hid (show okSegs xs l = false by unfold okSegs; rw [hg]; rfl)
    have HM := Lib.hid (show mPlaySegments xs l = [] from if_neg (by rw [HO.out]; exact Bool.false_ne_true))
    rw [hg] at cg
    clear hg
    go_enter Try.func103, Try.ntmps103
    go_wp2_with fail
    refine (cg).mono ?_
    rintro e w1 ⟨rfl, hb⟩
    go_wp2
    go_ret2
    exact ⟨_, by rw [HO.out]; rfl, by rw [HM.out]; exact OwnI.nil _, From.nil _ _ _, hb⟩

theorem PlaySegments_any (v : Value) (xs : List Int) (u : Value) (l : List (Int × Int)) (w : World) (hv : OwnI w v xs) (hn : xs.length ≤ 1048576) (hu : OwnC c2 w u l) (hm : l.length ≤ 1048576) :
    Calls Try.prog 54 #[v, u] w fun e w' => ∃ r, e = .returned (.tuple #[r, .bool (okSegs xs l)]) ∧ OwnI w' r (mPlaySegments xs l) ∧ From w.heap.size r ∧ Below w.heap.size w w' := by
  have c := playedByS_any v xs u l w hv hn hu hm
  go_enter Try.func54, Try.ntmps54
  go_wp2_with fail
  refine c.mono ?_
  rintro e w1 ⟨r, rfl, ho, hf, hb⟩
  clear c
  go_wp2
  go_ret2
  exact ⟨_, rfl, ho, hf, hb⟩

theorem okSegs_one (xs : List Int) (p : Int × Int) : okSegs xs [p] = okSeg xs p := by
  unfold okSegs okSeg
  congr 1
  rw [Bool.eq_iff_iff]
  simp [segsB, Segs]
theorem mPlay_one (xs : List Int) (p : Int × Int) : mPlaySegments xs [p] = mTurnSegment xs p := by
  unfold mPlaySegments mTurnSegment
  rw [okSegs_one]
  rfl

set_option maxRecDepth 100000 in
theorem TurnSegment_any (v : Value) (xs : List Int) (p : Int × Int) (w : World) (hv : OwnI w v xs) (hn : xs.length ≤ 1048576) :
    Calls Try.prog 59 #[v, .agg #[.int .i64 p.1, .int .i64 p.2]] w fun e w' => ∃ r, e = .returned (.tuple #[r, .bool (okSeg xs p)]) ∧ OwnI w' r (mTurnSegment xs p) ∧ From w.heap.size r ∧ Below w.heap.size w w' := by
  have HO := Lib.hid (okSegs_one xs p)
  have HM := Lib.hid (mPlay_one xs p)
  obtain ⟨i0, hi, hz0, hz1, hz2⟩ := info_parts infoSegment3
  have hb1 := below_new w (.cells #[.int .i64 p.1, .int .i64 p.2] 62)
  have hb2 : Below w.heap.size w ((w.alloc (.cells #[.int .i64 p.1, .int .i64 p.2] 62)).alloc (.cells #[.int .i64 p.1, .int .i64 p.2] 62)) := hb1.alloc hb1.size _
  have hv2 := (hv.alloc (.cells #[.int .i64 p.1, .int .i64 p.2] 62)).alloc (.cells #[.int .i64 p.1, .int .i64 p.2] 62)
  have hz : Blk ((w.alloc (.cells #[.int .i64 p.1, .int .i64 p.2] 62)).alloc (.cells (fl c2.c [p]).toArray 62)) (w.alloc (.cells #[.int .i64 p.1, .int .i64 p.2] 62)).heap.size 62 (fl c2.c [p]) := Blk.new _ _ _ _ rfl
  have ho : OwnC c2 ((w.alloc (.cells #[.int .i64 p.1, .int .i64 p.2] 62)).alloc (.cells #[.int .i64 p.1, .int .i64 p.2] 62)) (.slice (some ⟨(w.alloc (.cells #[.int .i64 p.1, .int .i64 p.2] 62)).heap.size, 0, none⟩) 1 1) [p] := OwnC.of_blk hz rfl (by simp [maxLen])
  simp only [World.size_alloc] at ho
  have HIi := Lib.hid hi
  have HZ0 := Lib.hid hz0
  have HZ1 := Lib.hid hz1
  clear hi hz0 hz1 hz2 hz
  go_enter Try.func59, Try.ntmps59
  go_wp2_with (first | (refine wpList_build_pair Try.underlying54 HIi.out HZ0.out HZ1.out rfl _ rfl (.int .i64 p.1) (.int .i64 p.2) rfl ?_))
  refine (PlaySegments_any _ xs _ [p] _ hv2 hn ho (by simp)).mono ?_
  rintro e w3 ⟨r, rfl, ho3, hf3, hb3⟩
  rw [HM.out] at ho3
  rw [HO.out]
  have hB := hb2.trans (hb3.mono hb2.size)
  have hf3' : From w.heap.size r := hf3.mono hb2.size
  go_wp2
  go_ret2
  exact ⟨_, rfl, ho3, hf3', hB⟩

theorem brkL_brkQ {xs : List Int} (h : Go.Pan.Good xs) : brkL xs = brkQ noPairB xs := by
  rw [brkL_gaps h]
  unfold brkQ
  rw [qgaps_plain h]
  rfl

theorem breakPoints_any (xs : List Int) (w : World) (hg : Hid (Go.Pan.Good xs)) :
    Calls Try.prog 109 #[tw xs, .int .i64 xs.length] w fun e w' => ∃ r, e = .returned r ∧ OwnI w' r (brkL xs) ∧ From w.heap.size r ∧ Below w.heap.size w w' := by
  have hl9 := hg.out.le9
  have HB := Lib.hid (brkL_brkQ hg.out)
  have hbx : Blk (w.alloc (.cells (twl xs).toArray 86)) w.heap.size 86 (twl xs) := Blk.new w _ (twl xs) _ rfl
  have hb0 := below_new w (.cells (twl xs).toArray 86)
  have HT := Lib.hid (twl_length xs hl9)
  have c := breaks_any 161 noPairB xs (w.alloc (.cells (twl xs).toArray 86)) hg (fun args u => by go_simp) (Lib.hid fun a b u => areNoPair_any a b u)
  go_enter Try.func109, Try.ntmps109
  go_wp2_with (first | (refine wpList_load_tower rfl _ rfl w.heap.size xs hl9 rfl hbx ?_))
  refine c.mono ?_
  rintro e w1 ⟨r, rfl, ho, hf, hb⟩
  have hB := hb0.trans (hb.mono hb0.size)
  have hf' := hf.mono hb0.size
  clear c
  go_wp2
  go_ret
  exact ⟨_, rfl, by rw [HB.out]; exact ho, hf', hB⟩

theorem BreakPoints_any (v : Value) (xs : List Int) (w : World) (hv : OwnI w v xs) (hn : xs.length ≤ 1048576) :
    Calls Try.prog 61 #[v] w fun e w' => ∃ r, e = .returned (.tuple #[r, .bool (goodB xs)]) ∧ OwnI w' r (mBreakPoints xs) ∧ From w.heap.size r ∧ Below w.heap.size w w' := by
  obtain ⟨ad, cap, rfl, hc, _, _⟩ := hv.shape
  have cg := IsStack_any _ _ _ hv hn
  cases hg : goodB xs with
  | true =>
    have HM := Lib.hid (show mBreakPoints xs = brkL xs from if_pos hg)
    have HG := Lib.hid (goodB_iff.1 hg)
    have hl9 := HG.out.le9
    rw [hg] at cg
    clear hg
    go_enter Try.func61, Try.ntmps61
    go_wp2_with fail
    refine (cg).mono ?_
    rintro e w1 ⟨rfl, hb⟩
    go_wp2_with fail
    refine (towerOf_any _ _ _ (hv.same hb) hl9).mono ?_
    rintro e w2 ⟨rfl, hb2⟩
    go_wp2_with fail
    refine (breakPoints_any xs _ HG).mono ?_
    rintro e w3 ⟨r, rfl, ho, hf, hb3⟩
    have hB2 := hb.trans (hb2.mono hb.size)
    go_wp2
    go_ret2
    exact ⟨_, rfl, by rw [HM.out]; exact ho, hf.mono hB2.size, hB2.trans (hb3.mono hB2.size)⟩
  | false =>
    have HM := Lib.hid (show mBreakPoints xs = [] from if_neg (by rw [hg]; exact Bool.false_ne_true))
    rw [hg] at cg
    clear hg
    go_enter Try.func61, Try.ntmps61
    go_wp2_with fail
    refine (cg).mono ?_
    rintro e w1 ⟨rfl, hb⟩
    go_wp2
    go_ret2
    exact ⟨_, rfl, by rw [HM.out]; exact OwnI.nil _, From.nil _ _ _, hb⟩

theorem mBound_eq (xs : List Int) : mSegmentBound xs = ((((mBreakPoints xs).length + 1) / 2 : Nat) : Int) := by
  unfold mSegmentBound mBreakPoints
  split <;> rfl

theorem SegmentBound_any (v : Value) (xs : List Int) (w : World) (hv : OwnI w v xs) (hn : xs.length ≤ 1048576) :
    Calls Try.prog 63 #[v] w fun e w' => e = .returned (.tuple #[.int .i64 (mSegmentBound xs), .bool (goodB xs)]) ∧ Below w.heap.size w w' := by
  have HM := Lib.hid (mBound_eq xs)
  have hl := len_mBreakPoints xs
  go_enter Try.func63, Try.ntmps63
  go_wp2_with fail
  refine (BreakPoints_any _ _ _ hv hn).mono ?_
  rintro e w1 ⟨r, rfl, ho, hf, hb⟩
  obtain ⟨ad, cap, rfl, _⟩ := ho.shape
  go_wp2
  go_ret2
  exact ⟨by rw [HM.out]; simp, hb⟩

end Go.Proofs.Ytmlikchhkblohaa
