import Derived.Test.YtfbadpabefdleaaV5
namespace Go.Proofs.Ytfbadpabefdleaa
open Go Go.RowKit Go.Pan

set_option maxHeartbeats 1600000 in
set_option maxRecDepth 100000 in
theorem PlaySegments_any (v : Value) (xs : List Int) (u : Value) (l : List (Int × Int)) (w : World) (hv : OwnI w v xs) (hn : xs.length ≤ 1048576) (hu : OwnC c2 w u l) (hm : l.length ≤ 1048576) :
    Calls Try.prog 47 #[v, u] w fun e w' => ∃ r, e = .returned (.tuple #[r, .bool (okSegs xs l)]) ∧ OwnI w' r (mPlaySegments xs l) ∧ From w.heap.size r ∧ Below w.heap.size w w' := by
  obtain ⟨ad, cap, rfl, hc, _, _⟩ := hv.shape
  obtain ⟨bd, cbp, rfl, hc', _, _⟩ := hu.shape
  have cg := IsStack_any _ _ _ hv hn
  cases hg : goodB xs with
  | true =>
    rw [hg] at cg
    by_cases h40 : (l.length : Int) ≤ 40
    · have HG := Lib.hid hg
      have h9 := (goodB_iff.1 hg).le9
      clear hg
      go_enter Try.func47, Try.ntmps47
      go_wp2_with fail
      refine (cg).mono ?_
      rintro e w1 ⟨rfl, hb⟩
      have hv1 := hv.same hb
      have hu1 := hu.same hb
      go_wp2_with fail
      refine (towerOf_any _ _ _ hv1 h9).mono ?_
      rintro e w2 ⟨rfl, hb2⟩
      have hu2 := hu1.same hb2
      have hB2 := hb.trans (hb2.mono hb.size)
      have hz0 : Blk (w2.alloc (.cells (twl []).toArray 79)) w2.heap.size 79 (twl []) := Blk.new w2 _ (twl []) _ rfl
      have hB20 := hB2.alloc hB2.size (.cells (twl []).toArray 79)
      have hu20 := hu2.alloc (.cells (twl []).toArray 79)
      have hs2 := hB2.size
      have HLT := Lib.hid (Own.lt hu2)
      clear hv hu hv1 hu1 cg hb hb2 hB2 hu2
      go_wp2_with (first | (refine wpList_store_tower rfl _ _ rfl w2.heap.size [] xs (by simp) h9 rfl rfl hz0 ?_; intro w3 hbT3 hgr3))
      have hB3 := hB20.grown hgr3 hB20.size (by intro k hk; cases hk; exact hs2)
      have hu3 : OwnC c2 w3 (.slice bd l.length cbp) l := hu20.grown hgr3 (by intro g hg e; have := HLT.out g hg; cases e; omega)
      clear hz0 hB20 hu20 hgr3
      obtain ⟨bx, hbx⟩ : ∃ x, w2.heap.size = x := ⟨_, rfl⟩
      rw [hbx] at hbT3 hs2 ⊢
      rw [hbx] at HLT
      have HBX := Lib.hid hbx
      clear hbx
      go_loopw [21] (fun i wr => ∃ k : Nat, k ≤ l.length ∧ i = .int .i64 k ∧ Hid (Segs xs.length (l.take k)) ∧ Blk wr bx 79 (twl (playG xs (l.take k))) ∧ Below w.heap.size w wr ∧ OwnC c2 wr (.slice bd l.length cbp) l) (fun i _ => l.length - (intOf i).toNat)
      case atStart => exact ⟨0, Nat.zero_le _, rfl, Lib.hid (fun p hp => by simp at hp), hbT3, hB3, hu3⟩
      case round =>
        obtain ⟨k, hk, rfl, hS, hbl, hbr, hur⟩ := hrel
        clear hbT3 hB3 hu3
        have hpl := playG_length (xs := xs) hS.out
        have hp9 : (playG xs (l.take k)).length ≤ 9 := by rw [hpl]; exact h9
        have HPL2 := Lib.hid (show ((playG xs (l.take k)).length : Int) = (xs.length : Int) by rw [hpl])
        have HPL3 := Lib.hid hpl
        clear hpl
        by_cases hlt : k < l.length
        · obtain ⟨b, off, rfl, hbw, hra⟩ := OwnC.rowAt hur hlt
          obtain ⟨p, hp⟩ : ∃ p, l[k] = p := ⟨_, rfl⟩
          rw [hp] at hra
          have hra' : wr.rangeAt b (off + k * 2) [.int .i64 p.1, .int .i64 p.2] := hra
          have hsz2 : (Try.prog.info? 41).map (·.size) = some ([.int .i64 p.1, .int .i64 p.2] : List Value).length := infoSegment
          have HP := Lib.hid hp
          have hlr := hbr.size
          have hlb := hbl.lt
          have hba := hbr.alloc hlr (.cells #[.int .i64 p.1, .int .i64 p.2] 41)
          have hz : Blk (wr.alloc (.cells [.int .i64 p.1, .int .i64 p.2].toArray 41)) wr.heap.size 41 [.int .i64 p.1, .int .i64 p.2] := Blk.new wr _ _ _ rfl
          have hbla := hbl.alloc (.cells #[.int .i64 p.1, .int .i64 p.2] 41)
          have hua := hur.alloc (.cells #[.int .i64 p.1, .int .i64 p.2] 41)
          have ci := IsSegment_any (xs.length : Int) p
          obtain ⟨G, hG⟩ : ∃ G, playG xs (l.take k) = G := ⟨_, rfl⟩
          have HGG := Lib.hid hG
          rw [hG] at hbla hp9 HPL2
          clear hra hp hbl hur hbr hG HPL3
          cases hi : segB xs.length p with
          | true =>
            rw [hi] at ci
            have HI := Lib.hid hi
            have HS2 := Lib.hid (segs_take_succ hlt hS.out (by rw [HP.out]; exact hi))
            have HPL := Lib.hid (show playG xs (l.take (k + 1)) = segT G p by rw [playG_take_succ xs l k hlt, HP.out, HGG.out])
            have hq9 : (segT G p).length ≤ 9 := by rw [segT_length hi]; exact hp9
            clear hi
            go_wp2_with (first | (refine wpList_load_mid rfl 41 _ rfl b (off + k * 2) rfl [.int .i64 p.1, .int .i64 p.2] _ hra' Try.underlying41 rfl hsz2 ?_))
            refine (ci _).mono ?_
            rintro e w4 ⟨rfl, hb4⟩
            have hz4 := hz.below hb4 (by simp)
            have hbl4 := hbla.below hb4 (by simp; omega)
            have hlb4 := hbl4.lt
            have k0 : w4.cell? ⟨wr.heap.size, 0, none⟩ = some (.int .i64 p.1) := hz4.cell 0
            have k1 : w4.cell? ⟨wr.heap.size, 1, none⟩ = some (.int .i64 p.2) := hz4.cell 1
            have hB4 := hba.trans (hb4.mono hba.size)
            go_wp2_with (first | (refine wpList_load_tower rfl _ rfl bx G hp9 rfl hbl4 ?_))
            refine (segmentTurned_any G _ p _ hp9 HI HPL2).mono ?_
            rintro e w5 ⟨rfl, hb5⟩
            have hbl5 := hbl4.below hb5 hlb4
            have hB5 := hB4.trans (hb5.mono hB4.size)
            have hu5 := (hua.same hb4).same hb5
            clear hua hz hz4 hra' hba hB4 hb4 hb5 hbl4 hbla k0 k1
            go_wp2_with (first | (refine wpList_store_tower rfl _ _ rfl bx G (segT G p) hp9 hq9 rfl rfl hbl5 ?_; intro w6 hbl6 hgr6))
            rw [← HPL.out] at hbl6
            have hB6 := hB5.grown hgr6 hB5.size (by intro j hj; cases hj; have := HBX.out; omega)
            have hu6 : OwnC c2 w6 (.slice (some ⟨b, off, none⟩) l.length cbp) l := hu5.grown hgr6 (by intro g hg e; have := HLT.out g hg; cases e; omega)
            clear hgr6 hB5 hbl5 hu5
            go_roundw
            case rel => exact ⟨k + 1, by omega, by go_num, HS2, hbl6, hB6, hu6⟩
            case measure => simp [intOf] <;> omega
          | false =>
            rw [hi] at ci
            have HO := Lib.hid (okSegs_bad (xs := xs) hlt (by rw [HP.out]; exact hi))
            have HM := Lib.hid (show mPlaySegments xs l = [] from if_neg (by rw [HO.out]; exact Bool.false_ne_true))
            clear hi
            go_wp2_with (first | (refine wpList_load_mid rfl 41 _ rfl b (off + k * 2) rfl [.int .i64 p.1, .int .i64 p.2] _ hra' Try.underlying41 rfl hsz2 ?_))
            refine (ci _).mono ?_
            rintro e w4 ⟨rfl, hb4⟩
            have hB4 := hba.trans (hb4.mono hba.size)
            go_wp2
            go_ret2
            exact ⟨_, by rw [HO.out]; rfl, by rw [HM.out]; exact OwnI.nil _, From.nil _ _ _, hB4⟩
        · obtain rfl : k = l.length := by omega
          have HO := Lib.hid (okSegs_all HG.out h40 hS.out)
          have HM := Lib.hid (show mPlaySegments xs l = playG xs (l.take l.length) by rw [List.take_length]; exact if_pos HO.out)
          have hlr := hbr.size
          obtain ⟨G, hG⟩ : ∃ G, playG xs (l.take l.length) = G := ⟨_, rfl⟩
          rw [hG] at HM HPL3 hp9 hbl
          clear HPL2 hS hG
          go_wp2_with (first | (refine wpList_load_tower rfl _ rfl bx G hp9 rfl hbl ?_))
          refine (list_any G _ _ HPL3.out h9).mono ?_
          rintro e w5 ⟨r5, rfl, ho5, hf5, hb5⟩
          have hB5 := hbr.trans (hb5.mono hlr)
          have hf5' := hf5.mono hlr
          go_wp2
          go_ret2
          exact ⟨_, by rw [HO.out]; rfl, by rw [HM.out]; exact ho5, hf5', hB5⟩
    · have HO := Lib.hid (show okSegs xs l = false by unfold okSegs; rw [decide_eq_false h40]; simp)
      have HM := Lib.hid (show mPlaySegments xs l = [] from if_neg (by rw [HO.out]; exact Bool.false_ne_true))
      have h41 : (40 : Int) < l.length := by omega
      clear hg
      go_enter Try.func47, Try.ntmps47
      go_wp2_with fail
      refine (cg).mono ?_
      rintro e w1 ⟨rfl, hb⟩
      go_wp2
      go_ret2
      exact ⟨_, by rw [HO.out]; rfl, by rw [HM.out]; exact OwnI.nil _, From.nil _ _ _, hb⟩
  | false =>
    have HO := Lib.hid (show okSegs xs l = false by unfold okSegs; rw [hg]; rfl)
    have HM := Lib.hid (show mPlaySegments xs l = [] from if_neg (by rw [HO.out]; exact Bool.false_ne_true))
    rw [hg] at cg
    clear hg
    go_enter Try.func47, Try.ntmps47
    go_wp2_with fail
    refine (cg).mono ?_
    rintro e w1 ⟨rfl, hb⟩
    go_wp2
    go_ret2
    exact ⟨_, by rw [HO.out]; rfl, by rw [HM.out]; exact OwnI.nil _, From.nil _ _ _, hb⟩

theorem okSegs_one (xs : List Int) (p : Int × Int) : okSegs xs [p] = okSeg xs p := by
  unfold okSegs okSeg
  congr 1
  rw [Bool.eq_iff_iff]
  simp [segsB, Segs]
theorem mPlay_one (xs : List Int) (p : Int × Int) : mPlaySegments xs [p] = mTurnSegment xs p := by
  unfold mPlaySegments mTurnSegment
  rw [okSegs_one]
  rfl

set_option maxRecDepth 100000 in
theorem TurnSegment_any (v : Value) (xs : List Int) (p : Int × Int) (w : World) (hv : OwnI w v xs) (hn : xs.length ≤ 1048576) :
    Calls Try.prog 43 #[v, .agg #[.int .i64 p.1, .int .i64 p.2]] w fun e w' => ∃ r, e = .returned (.tuple #[r, .bool (okSeg xs p)]) ∧ OwnI w' r (mTurnSegment xs p) ∧ From w.heap.size r ∧ Below w.heap.size w w' := by
  have HO := Lib.hid (okSegs_one xs p)
  have HM := Lib.hid (mPlay_one xs p)
  obtain ⟨i0, hi, hz0, hz1, hz2⟩ := info_parts infoSegment3
  have hb1 := below_new w (.cells #[.int .i64 p.1, .int .i64 p.2] 41)
  have hb2 : Below w.heap.size w ((w.alloc (.cells #[.int .i64 p.1, .int .i64 p.2] 41)).alloc (.cells #[.int .i64 p.1, .int .i64 p.2] 41)) := hb1.alloc hb1.size _
  have hv2 := (hv.alloc (.cells #[.int .i64 p.1, .int .i64 p.2] 41)).alloc (.cells #[.int .i64 p.1, .int .i64 p.2] 41)
  have hz : Blk ((w.alloc (.cells #[.int .i64 p.1, .int .i64 p.2] 41)).alloc (.cells (fl c2.c [p]).toArray 41)) (w.alloc (.cells #[.int .i64 p.1, .int .i64 p.2] 41)).heap.size 41 (fl c2.c [p]) := Blk.new _ _ _ _ rfl
  have ho : OwnC c2 ((w.alloc (.cells #[.int .i64 p.1, .int .i64 p.2] 41)).alloc (.cells #[.int .i64 p.1, .int .i64 p.2] 41)) (.slice (some ⟨(w.alloc (.cells #[.int .i64 p.1, .int .i64 p.2] 41)).heap.size, 0, none⟩) 1 1) [p] := OwnC.of_blk hz rfl (by simp [maxLen])
  simp only [World.size_alloc] at ho
  have HIi := Lib.hid hi
  have HZ0 := Lib.hid hz0
  have HZ1 := Lib.hid hz1
  clear hi hz0 hz1 hz2 hz
  go_enter Try.func43, Try.ntmps43
  go_wp2_with (first | (refine wpList_build_pair Try.underlying49 HIi.out HZ0.out HZ1.out rfl _ rfl (.int .i64 p.1) (.int .i64 p.2) rfl ?_))
  refine (PlaySegments_any _ xs _ [p] _ hv2 hn ho (by simp)).mono ?_
  rintro e w3 ⟨r, rfl, ho3, hf3, hb3⟩
  rw [HM.out] at ho3
  rw [HO.out]
  have hB := hb2.trans (hb3.mono hb2.size)
  have hf3' : From w.heap.size r := hf3.mono hb2.size
  go_wp2
  go_ret2
  exact ⟨_, rfl, ho3, hf3', hB⟩

set_option maxRecDepth 100000 in
set_option maxHeartbeats 800000 in
theorem breakPoints_any (xs : List Int) (w : World) (hg : Hid (Go.Pan.Good xs)) :
    Calls Try.prog 97 #[tw xs, .int .i64 xs.length] w fun e w' => ∃ r, e = .returned r ∧ OwnI w' r (brkL xs) ∧ From w.heap.size r ∧ Below w.heap.size w w' := by
  obtain ⟨i0, hi, hz0, hz1, hz2⟩ := info_parts Try.info3
  have hl9 := hg.out.le9
  have hl1 := hg.out.1
  have hbx : Blk (w.alloc (.cells (twl xs).toArray 79)) w.heap.size 79 (twl xs) := Blk.new w _ (twl xs) _ rfl
  have hb0 := below_new w (.cells (twl xs).toArray 79)
  have HT := Lib.hid (twl_length xs hl9)
  have HBR := Lib.hid (brkL_gaps hg.out)
  have hgl := gapsL_length xs
  have ch := isHome_any xs
  cases hh : homeB xs with
  | true =>
    have HB := Lib.hid (show brkL xs = [] ++ gapsL xs by
      rw [HBR.out, if_pos (show decide (xs.getD 0 0 = 1) = true from hh)])
    rw [hh] at ch
    clear hh HBR
    go_enter Try.func97, Try.ntmps97
    go_wp2_with (at_make; refine wpList_make_own _ rfl _ _ 28 rfl (w.heap.size + 1) 3 i0 (.int .i64 0) 1 Try.underlying28 hi hz0 hz1 _ _ _ (xs.length + 1) rfl rfl rfl ?b1 ?b2 ?b3 ?_)
    case b1 => rw [hz2]; omega
    case b2 => unfold maxLen; omega
    case b3 => simp
    intro w1 hown hgr
    have ho0 : OwnI w1 _ [] := (Own.of_row hown).1
    have hf0 := (Own.of_row hown).2
    have hbx1 := hbx.grown hgr (by simp)
    have hb1 := hb0.grown hgr hb0.size (fun k hk => by simp at hk)
    clear hi hz0 hz1 hz2 hgr hown hbx hb0
    go_wp2_with (first | (refine wpList_load_tower rfl _ rfl w.heap.size xs hl9 rfl hbx1 ?_))
    refine (ch _ hl9).mono ?_
    rintro e w2 ⟨rfl, hb2⟩
    have hbx2 := hbx1.below hb2 hbx1.lt
    have ho2 := ho0.same hb2
    have hB2 := hb1.trans (hb2.mono hb1.size)
    clear hbx1 ho0 hb1 hb2
    go_wp2_with (first | (refine wpList_load_tower rfl _ rfl w.heap.size xs hl9 rfl hbx2 ?_))
    refine (gaps_any xs _ hg).mono ?_
    rintro e w3 ⟨r3, rfl, ho3, hf3, hb3⟩
    obtain ⟨a3, c3', rfl, _, _, _⟩ := ho3.shape
    have hsrc := Own.src ho3
    have ho4 := ho2.same hb3
    have hB3 := hB2.trans (hb3.mono hB2.size)
    have hl3 : (gapsL xs).length ≤ 1048576 := by omega
    have hs3 : w.heap.size + 1 ≤ w3.heap.size := Nat.le_trans (show w.heap.size + 1 ≤ w2.heap.size from hbx2.lt) hb3.size
    clear ho2 hB2 hb3 hbx2
    go_wp2_with (first | (at_builtin; refine wpList_appI Try.intSl rfl _ _ rfl _ [] rfl ho4 (w.heap.size + 1) hf0 a3 (gapsL xs).length c3' (gapsL xs) rfl rfl hsrc w3 (Below.refl _ _) hs3 (by simp) hl3 ?_; intro v5 w5 ho5 hf5 hb5 hg5))
    have HO5 := Lib.hid (show OwnI w5 v5 (brkL xs) by rw [HB.out]; exact ho5)
    have hB5 := hB3.trans (hb5.mono (by omega))
    clear ho5 hsrc ho4 hg5
    refine (Clip_any _ _ _ HO5.out).mono ?_
    rintro e w6 ⟨r, rfl, hor, hob, rfl⟩
    have hfr : From w.heap.size r := fun g hg => Nat.le_of_succ_le (hf5 g (by rw [← hob]; exact hg))
    clear hob
    go_wp2
    go_ret
    exact ⟨_, rfl, hor, hfr, hB5⟩
  | false =>
    have HB := Lib.hid (show brkL xs = [0] ++ gapsL xs by
      rw [HBR.out, if_neg (show ¬ decide (xs.getD 0 0 = 1) = true by intro h; rw [show homeB xs = true from h] at hh; cases hh)])
    rw [hh] at ch
    clear hh HBR
    go_enter Try.func97, Try.ntmps97
    go_wp2_with (at_make; refine wpList_make_own _ rfl _ _ 28 rfl (w.heap.size + 1) 3 i0 (.int .i64 0) 1 Try.underlying28 hi hz0 hz1 _ _ _ (xs.length + 1) rfl rfl rfl ?b4 ?b5 ?b6 ?_)
    case b4 => rw [hz2]; omega
    case b5 => unfold maxLen; omega
    case b6 => simp
    intro w1 hown hgr
    have ho0 : OwnI w1 _ [] := (Own.of_row hown).1
    have hf0 := (Own.of_row hown).2
    have hbx1 := hbx.grown hgr (by simp)
    have hb1 := hb0.grown hgr hb0.size (fun k hk => by simp at hk)
    clear hi hz0 hz1 hz2 hgr hown hbx hb0
    go_wp2_with (first | (refine wpList_load_tower rfl _ rfl w.heap.size xs hl9 rfl hbx1 ?_))
    refine (ch _ hl9).mono ?_
    rintro e w2 ⟨rfl, hb2⟩
    have hbx2 := hbx1.below hb2 hbx1.lt
    have ho2 := ho0.same hb2
    have hB2 := hb1.trans (hb2.mono hb1.size)
    have hs2 : w.heap.size + 1 ≤ w2.heap.size := hbx2.lt
    clear hbx1 ho0 hb1 hb2
    go_wp2_with (at_builtin; refine wpList_app1 Try.intSl rfl _ _ rfl _ [] rfl (ho2.alloc _) (w.heap.size + 1) hf0 w2.heap.size 0 rfl ?c1 _ (Below.refl _ _) ?c2 (by simp) ?_)
    case c1 => simp [go_sem]
    case c2 => simp; omega
    intro v3 w3 ho3 hf3 hb3 _
    have hbx3 := (hbx2.alloc (.cells #[.int .i64 0] 3)).below hb3 (by omega)
    have hB3 := (hB2.alloc hB2.size (.cells #[.int .i64 0] 3)).trans (hb3.mono (by omega))
    have hs3 : w.heap.size + 1 ≤ w3.heap.size := hbx3.lt
    clear ho2 hB2 hb3 hbx2
    go_wp2_with (first | (refine wpList_load_tower rfl _ rfl w.heap.size xs hl9 rfl hbx3 ?_))
    refine (gaps_any xs _ hg).mono ?_
    rintro e w4 ⟨r4, rfl, ho4, hf4, hb4⟩
    obtain ⟨a4, c4', rfl, _, _, _⟩ := ho4.shape
    have hsrc := Own.src ho4
    have ho5 : OwnI w4 v3 [0] := ho3.same hb4
    have hB4 := hB3.trans (hb4.mono hB3.size)
    have hl3 : (gapsL xs).length ≤ 1048576 := by omega
    have hs4 : w.heap.size + 1 ≤ w4.heap.size := Nat.le_trans hs3 hb4.size
    clear ho3 hB3 hb4 hbx3
    go_wp2_with (first | (at_builtin; refine wpList_appI Try.intSl rfl _ _ rfl v3 [0] rfl ho5 (w.heap.size + 1) hf3 a4 (gapsL xs).length c4' (gapsL xs) rfl rfl hsrc w4 (Below.refl _ _) hs4 (by simp) hl3 ?_; intro v6 w6 ho6 hf6 hb6 hg6))
    have HO6 := Lib.hid (show OwnI w6 v6 (brkL xs) by rw [HB.out]; exact ho6)
    have hB6 := hB4.trans (hb6.mono (by omega))
    clear ho6 hsrc ho5 hg6
    refine (Clip_any _ _ _ HO6.out).mono ?_
    rintro e w7 ⟨r, rfl, hor, hob, rfl⟩
    have hfr : From w.heap.size r := fun g hg => Nat.le_of_succ_le (hf6 g (by rw [← hob]; exact hg))
    clear hob
    go_wp2
    go_ret
    exact ⟨_, rfl, hor, hfr, hB6⟩

theorem BreakPoints_any (v : Value) (xs : List Int) (w : World) (hv : OwnI w v xs) (hn : xs.length ≤ 1048576) :
    Calls Try.prog 51 #[v] w fun e w' => ∃ r, e = .returned (.tuple #[r, .bool (goodB xs)]) ∧ OwnI w' r (mBreakPoints xs) ∧ From w.heap.size r ∧ Below w.heap.size w w' := by
  obtain ⟨ad, cap, rfl, hc, _, _⟩ := hv.shape
  have cg := IsStack_any _ _ _ hv hn
  cases hg : goodB xs with
  | true =>
    have HM := Lib.hid (show mBreakPoints xs = brkL xs from if_pos hg)
    have HG := Lib.hid (goodB_iff.1 hg)
    have hl9 := HG.out.le9
    rw [hg] at cg
    clear hg
    go_enter Try.func51, Try.ntmps51
    go_wp2_with fail
    refine (cg).mono ?_
    rintro e w1 ⟨rfl, hb⟩
    go_wp2_with fail
    refine (towerOf_any _ _ _ (hv.same hb) hl9).mono ?_
    rintro e w2 ⟨rfl, hb2⟩
    go_wp2_with fail
    refine (breakPoints_any xs _ HG).mono ?_
    rintro e w3 ⟨r, rfl, ho, hf, hb3⟩
    have hB2 := hb.trans (hb2.mono hb.size)
    go_wp2
    go_ret2
    exact ⟨_, rfl, by rw [HM.out]; exact ho, hf.mono hB2.size, hB2.trans (hb3.mono hB2.size)⟩
  | false =>
    have HM := Lib.hid (show mBreakPoints xs = [] from if_neg (by rw [hg]; exact Bool.false_ne_true))
    rw [hg] at cg
    clear hg
    go_enter Try.func51, Try.ntmps51
    go_wp2_with fail
    refine (cg).mono ?_
    rintro e w1 ⟨rfl, hb⟩
    go_wp2
    go_ret2
    exact ⟨_, rfl, by rw [HM.out]; exact OwnI.nil _, From.nil _ _ _, hb⟩

theorem mBound_eq (xs : List Int) : mSegmentBound xs = ((((mBreakPoints xs).length + 1) / 2 : Nat) : Int) := by
  unfold mSegmentBound mBreakPoints
  split <;> rfl

theorem SegmentBound_any (v : Value) (xs : List Int) (w : World) (hv : OwnI w v xs) (hn : xs.length ≤ 1048576) :
    Calls Try.prog 53 #[v] w fun e w' => e = .returned (.tuple #[.int .i64 (mSegmentBound xs), .bool (goodB xs)]) ∧ Below w.heap.size w w' := by
  have HM := Lib.hid (mBound_eq xs)
  have hl := len_mBreakPoints xs
  go_enter Try.func53, Try.ntmps53
  go_wp2_with fail
  refine (BreakPoints_any _ _ _ hv hn).mono ?_
  rintro e w1 ⟨r, rfl, ho, hf, hb⟩
  obtain ⟨ad, cap, rfl, _⟩ := ho.shape
  go_wp2
  go_ret2
  exact ⟨by rw [HM.out]; simp, hb⟩
end Go.Proofs.Ytfbadpabefdleaa
