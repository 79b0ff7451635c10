import Derived.Test.YtfbadpabefdleaaV1
namespace Go.Pan
-- what the functions return
def okSeg (xs : List Int) (p : Int × Int) : Bool := goodB xs && segB xs.length p
def mTurnSegment (xs : List Int) (p : Int × Int) : List Int := if okSeg xs p = true then segT xs p else []
def okSegs (xs : List Int) (l : List (Int × Int)) : Bool := goodB xs && (decide ((l.length : Int) ≤ 40) && segsB xs.length l)
def mPlaySegments (xs : List Int) (l : List (Int × Int)) : List Int := if okSegs xs l = true then playG xs l else []
def mBreakPoints (xs : List Int) : List Int := if goodB xs = true then brkL xs else []
def mSegmentBound (xs : List Int) : Int := if goodB xs = true then (((brkL xs).length + 1) / 2 : Nat) else 0
theorem len_mTurnSegment (xs : List Int) (p : Int × Int) : (mTurnSegment xs p).length ≤ 1048576 := by
  unfold mTurnSegment
  split
  · rename_i h
    simp only [okSeg, Bool.and_eq_true, goodB_iff] at h
    rw [segT_length h.2]; have := h.1.le9; omega
  · simp
theorem len_mPlaySegments (xs : List Int) (l : List (Int × Int)) : (mPlaySegments xs l).length ≤ 1048576 := by
  unfold mPlaySegments
  split
  · rename_i h
    simp only [okSegs, Bool.and_eq_true, goodB_iff, segsB_iff] at h
    rw [playG_length h.2.2]; have := h.1.le9; omega
  · simp
theorem len_mBreakPoints (xs : List Int) : (mBreakPoints xs).length ≤ 1048576 := by
  unfold mBreakPoints
  split
  · rename_i h; have := (goodB_iff.1 h).le9; have := brkL_length xs; omega
  · simp
end Go.Pan
namespace Go.Proofs.Ytfbadpabefdleaa
open Go Go.RowKit Go.Pan

set_option maxRecDepth 100000 in
theorem sTurnSegment_any (v : Value) (xs : List Int) (p : Int × Int) (w : World) (hv : OwnI w v xs) (hn : xs.length ≤ 1048576) :
    Calls Try.prog 42 #[v, .agg #[.int .i64 p.1, .int .i64 p.2]] w fun e w' => ∃ r, e = .returned (.tuple #[r, .bool (okSeg xs p)]) ∧ OwnI w' r (mTurnSegment xs p) ∧ From w.heap.size r ∧ Below w.heap.size w w' := by
  obtain ⟨ad, cap, rfl, hc, _, _⟩ := hv.shape
  have hva := hv.alloc (.cells #[.int .i64 p.1, .int .i64 p.2] 41)
  have hb0 : Below w.heap.size w (w.alloc (.cells #[.int .i64 p.1, .int .i64 p.2] 41)) := below_new w _
  have hz : Blk (w.alloc (.cells [.int .i64 p.1, .int .i64 p.2].toArray 41)) w.heap.size 41 [.int .i64 p.1, .int .i64 p.2] := Blk.new w _ _ _ rfl
  cases hg : goodB xs with
  | true =>
    cases hi : segB xs.length p with
    | true =>
      have HO := Lib.hid (show okSeg xs p = true by unfold okSeg; rw [hg, hi]; rfl)
      have HM := Lib.hid (show mTurnSegment xs p = segT xs p from if_pos HO.out)
      have cg := stGood_any (.slice ad xs.length cap) xs _ hva hn
      rw [hg] at cg
      have ci := sgIs_any (xs.length : Int) p
      rw [hi] at ci
      have HI := Lib.hid hi
      clear hg hi
      go_enter Try.func42, Try.ntmps42
      go_wp2_with fail
      refine (cg).mono ?_
      rintro e w1 ⟨rfl, hb⟩
      have hz1 := hz.below hb (by simp)
      have k0 : w1.cell? ⟨w.heap.size, 0, none⟩ = some (.int .i64 p.1) := hz1.cell 0
      have k1 : w1.cell? ⟨w.heap.size, 1, none⟩ = some (.int .i64 p.2) := hz1.cell 1
      go_wp2_with fail
      refine (ci _).mono ?_
      rintro e w2 ⟨rfl, hb2⟩
      have hz2 := hz1.below hb2 hz1.lt
      have l0 : w2.cell? ⟨w.heap.size, 0, none⟩ = some (.int .i64 p.1) := hz2.cell 0
      have l1 : w2.cell? ⟨w.heap.size, 1, none⟩ = some (.int .i64 p.2) := hz2.cell 1
      go_wp2_with fail
      refine (sgTurn_any _ xs _ p _ ((hva.same hb).same hb2) hn HI (Lib.hid rfl)).mono ?_
      rintro e w3 ⟨r, rfl, ho, hf, hb3⟩
      have hB1 := hb0.trans (hb.mono (by simp))
      have hB2 := hB1.trans (hb2.mono hB1.size)
      go_wp2
      go_ret2
      exact ⟨_, by rw [HO.out]; rfl, by rw [HM.out]; exact ho, hf.mono hB2.size, hB2.trans (hb3.mono hB2.size)⟩
    | false =>
      have HO := Lib.hid (show okSeg xs p = false by unfold okSeg; rw [hg, hi]; rfl)
      have HM := Lib.hid (show mTurnSegment xs p = [] from if_neg (by rw [HO.out]; exact Bool.false_ne_true))
      have cg := stGood_any (.slice ad xs.length cap) xs _ hva hn
      rw [hg] at cg
      have ci := sgIs_any (xs.length : Int) p
      rw [hi] at ci
      clear hg hi
      go_enter Try.func42, Try.ntmps42
      go_wp2_with fail
      refine (cg).mono ?_
      rintro e w1 ⟨rfl, hb⟩
      have hz1 := hz.below hb (by simp)
      have k0 : w1.cell? ⟨w.heap.size, 0, none⟩ = some (.int .i64 p.1) := hz1.cell 0
      have k1 : w1.cell? ⟨w.heap.size, 1, none⟩ = some (.int .i64 p.2) := hz1.cell 1
      go_wp2_with fail
      refine (ci _).mono ?_
      rintro e w2 ⟨rfl, hb2⟩
      have hB1 := hb0.trans (hb.mono (by simp))
      go_wp2
      go_ret2
      exact ⟨_, by rw [HO.out]; rfl, by rw [HM.out]; exact OwnI.nil _, From.nil _ _ _, hB1.trans (hb2.mono hB1.size)⟩
  | false =>
    have HO := Lib.hid (show okSeg xs p = false by unfold okSeg; rw [hg]; rfl)
    have HM := Lib.hid (show mTurnSegment xs p = [] from if_neg (by rw [HO.out]; exact Bool.false_ne_true))
    have cg := stGood_any (.slice ad xs.length cap) xs _ hva hn
    rw [hg] at cg
    clear hg
    go_enter Try.func42, Try.ntmps42
    go_wp2_with fail
    refine (cg).mono ?_
    rintro e w1 ⟨rfl, hb⟩
    go_wp2
    go_ret2
    exact ⟨_, by rw [HO.out]; rfl, by rw [HM.out]; exact OwnI.nil _, From.nil _ _ _, hb0.trans (hb.mono (by simp))⟩

theorem okSegs_bad {xs : List Int} {l : List (Int × Int)} {k : Nat} (hk : k < l.length) (h : segB xs.length l[k] = false) : okSegs xs l = false := by
  unfold okSegs
  have : segsB xs.length l = false := by
    cases hs : segsB xs.length l with
    | false => rfl
    | true => have := segsB_iff.1 hs _ (List.getElem_mem hk); rw [h] at this; cases this
  rw [this, Bool.and_false, Bool.and_false]
theorem okSegs_all {xs : List Int} {l : List (Int × Int)} (hg : goodB xs = true) (h40 : (l.length : Int) ≤ 40) (h : Segs xs.length (l.take l.length)) : okSegs xs l = true := by
  rw [List.take_length] at h
  unfold okSegs
  rw [hg, decide_eq_true h40, segsB_iff.2 h]
  rfl
theorem segs_take_succ {n : Int} {l : List (Int × Int)} {k : Nat} (hk : k < l.length) (h : Segs n (l.take k)) (hp : segB n l[k] = true) : Segs n (l.take (k + 1)) := by
  rw [List.take_succ_eq_append_getElem hk]
  exact h.snoc hp

set_option maxHeartbeats 1600000 in
set_option maxRecDepth 100000 in
theorem sPlaySegments_any (v : Value) (xs : List Int) (u : Value) (l : List (Int × Int)) (w : World) (hv : OwnI w v xs) (hn : xs.length ≤ 1048576) (hu : OwnC c2 w u l) (hm : l.length ≤ 1048576) :
    Calls Try.prog 45 #[v, u] w fun e w' => ∃ r, e = .returned (.tuple #[r, .bool (okSegs xs l)]) ∧ OwnI w' r (mPlaySegments xs l) ∧ From w.heap.size r ∧ Below w.heap.size w w' := by
  obtain ⟨ad, cap, rfl, hc, _, _⟩ := hv.shape
  obtain ⟨bd, cbp, rfl, hc', _, _⟩ := hu.shape
  cases hg : goodB xs with
  | true =>
    have cg := stGood_any _ _ _ hv hn
    rw [hg] at cg
    by_cases h40 : (l.length : Int) ≤ 40
    · have HG := Lib.hid hg
      have h9 := (goodB_iff.1 hg).le9
      clear hg
      go_enter Try.func45, Try.ntmps45
      go_wp2_with fail
      refine (cg).mono ?_
      rintro e w1 ⟨rfl, hb⟩
      have hv1 := hv.same hb
      have hu1 := hu.same hb
      go_wp2_with fail
      refine (l1Own_any _ _ _ hv1 hn).mono ?_
      rintro e w2 ⟨r2, rfl, ho2, hf2, hb2⟩
      have hu2 := hu1.same hb2
      have hB2 := hb.trans (hb2.mono hb.size)
      have hf2' := hf2.mono hb.size
      clear hv hu hv1 hu1 cg hb hb2 hf2
      go_wp2
      go_loopw [6, 21] (fun o i wr => ∃ k : Nat, k ≤ l.length ∧ i = .int .i64 k ∧ Hid (Segs xs.length (l.take k)) ∧ OwnI wr o (playG xs (l.take k)) ∧ From w.heap.size o ∧ Below w.heap.size w wr ∧ OwnC c2 wr (.slice bd l.length cbp) l ∧ Hid (w2.heap.size ≤ wr.heap.size)) (fun _ i _ => l.length - (intOf i).toNat)
      case atStart => exact ⟨0, Nat.zero_le _, rfl, Lib.hid (fun p hp => by simp at hp), ho2, hf2', hB2, hu2, Lib.hid (Nat.le_refl _)⟩
      case round =>
        obtain ⟨k, hk, rfl, hS, ho, hf, hbr, hur, hsz⟩ := hrel
        clear ho2 hf2' hB2 hu2
        by_cases hlt : k < l.length
        · obtain ⟨b, off, rfl, hbl, hra⟩ := OwnC.rowAt hur hlt
          obtain ⟨p, hp⟩ : ∃ p, l[k] = p := ⟨_, rfl⟩
          rw [hp] at hra
          have hra' : wr.rangeAt b (off + k * 2) [.int .i64 p.1, .int .i64 p.2] := hra
          have hsz2 : (Try.prog.info? 41).map (·.size) = some ([.int .i64 p.1, .int .i64 p.2] : List Value).length := infoSegment
          have HP := Lib.hid hp
          have hlr := hbr.size
          have hba := hbr.alloc hlr (.cells #[.int .i64 p.1, .int .i64 p.2] 41)
          have hz : Blk (wr.alloc (.cells [.int .i64 p.1, .int .i64 p.2].toArray 41)) wr.heap.size 41 [.int .i64 p.1, .int .i64 p.2] := Blk.new wr _ _ _ rfl
          have hoa := ho.alloc (.cells #[.int .i64 p.1, .int .i64 p.2] 41)
          have hua := hur.alloc (.cells #[.int .i64 p.1, .int .i64 p.2] 41)
          have ci := sgIs_any (xs.length : Int) p
          clear hra hp ho hur hbr
          cases hi : segB xs.length p with
          | true =>
            rw [hi] at ci
            have HI := Lib.hid hi
            have HS2 := Lib.hid (segs_take_succ hlt hS.out (by rw [HP.out]; exact hi))
            have HPL := Lib.hid (show playG xs (l.take (k + 1)) = segT (playG xs (l.take k)) p by rw [playG_take_succ xs l k hlt, HP.out])
            have hpl := playG_length (xs := xs) hS.out
            have HPL2 := Lib.hid (show ((playG xs (l.take k)).length : Int) = (xs.length : Int) by rw [hpl])
            have hpn : (playG xs (l.take k)).length ≤ 1048576 := by rw [hpl]; exact hn
            clear hi hpl
            go_wp2_with (first | (refine wpList_load_mid rfl 41 _ rfl b (off + k * 2) rfl [.int .i64 p.1, .int .i64 p.2] _ hra' Try.underlying41 rfl hsz2 ?_))
            refine (ci _).mono ?_
            rintro e w3 ⟨rfl, hb3⟩
            have hz3 := hz.below hb3 (by simp)
            have k0 : w3.cell? ⟨wr.heap.size, 0, none⟩ = some (.int .i64 p.1) := hz3.cell 0
            have k1 : w3.cell? ⟨wr.heap.size, 1, none⟩ = some (.int .i64 p.2) := hz3.cell 1
            have hB3 := hba.trans (hb3.mono hba.size)
            go_wp2_with fail
            refine (sgTurn_any _ _ _ p _ (hoa.same hb3) hpn HI HPL2).mono ?_
            rintro e w4 ⟨r4, rfl, ho4, hf4, hb4⟩
            rw [← HPL.out] at ho4
            have hB4 := hB3.trans (hb4.mono hB3.size)
            have hf4' := hf4.mono hB3.size
            have hu4 := (hua.same hb3).same hb4
            have hs4 := Lib.hid (show w2.heap.size ≤ w4.heap.size by
              have h1 := hsz.out
              have h2 := hb3.size
              have h3 := hb4.size
              simp only [World.size_alloc] at h2
              omega)
            clear hoa hua hz hz3 hra' hba hB3 hf4 hb3 hb4 hsz
            go_wp2
            go_roundw
            case rel => exact ⟨k + 1, by omega, by go_num, HS2, ho4, hf4', hB4, hu4, hs4⟩
            case measure => simp [intOf] <;> omega
          | false =>
            rw [hi] at ci
            have HO := Lib.hid (okSegs_bad (xs := xs) hlt (by rw [HP.out]; exact hi))
            have HM := Lib.hid (show mPlaySegments xs l = [] from if_neg (by rw [HO.out]; exact Bool.false_ne_true))
            clear hi
            go_wp2_with (first | (refine wpList_load_mid rfl 41 _ rfl b (off + k * 2) rfl [.int .i64 p.1, .int .i64 p.2] _ hra' Try.underlying41 rfl hsz2 ?_))
            refine (ci _).mono ?_
            rintro e w3 ⟨rfl, hb3⟩
            have hB3 := hba.trans (hb3.mono hba.size)
            go_wp2
            go_ret2
            exact ⟨_, by rw [HO.out]; rfl, by rw [HM.out]; exact OwnI.nil _, From.nil _ _ _, hB3⟩
        · obtain rfl : k = l.length := by omega
          have HO := Lib.hid (okSegs_all HG.out h40 hS.out)
          have HM := Lib.hid (show mPlaySegments xs l = playG xs (l.take l.length) by rw [List.take_length]; exact if_pos HO.out)
          go_wp2
          go_ret2
          exact ⟨_, by rw [HO.out]; rfl, by rw [HM.out]; exact ho, hf, hbr⟩
    · have HO := Lib.hid (show okSegs xs l = false by unfold okSegs; rw [decide_eq_false h40]; simp)
      have HM := Lib.hid (show mPlaySegments xs l = [] from if_neg (by rw [HO.out]; exact Bool.false_ne_true))
      have h41 : (40 : Int) < l.length := by omega
      clear hg
      go_enter Try.func45, Try.ntmps45
      go_wp2_with fail
      refine (cg).mono ?_
      rintro e w1 ⟨rfl, hb⟩
      go_wp2
      go_ret2
      exact ⟨_, by rw [HO.out]; rfl, by rw [HM.out]; exact OwnI.nil _, From.nil _ _ _, hb⟩
  | false =>
    have HO := Lib.hid (show okSegs xs l = false by unfold okSegs; rw [hg]; rfl)
    have HM := Lib.hid (show mPlaySegments xs l = [] from if_neg (by rw [HO.out]; exact Bool.false_ne_true))
    have cg := stGood_any _ _ _ hv hn
    rw [hg] at cg
    clear hg
    go_enter Try.func45, Try.ntmps45
    go_wp2_with fail
    refine (cg).mono ?_
    rintro e w1 ⟨rfl, hb⟩
    go_wp2
    go_ret2
    exact ⟨_, by rw [HO.out]; rfl, by rw [HM.out]; exact OwnI.nil _, From.nil _ _ _, hb⟩
end Go.Proofs.Ytfbadpabefdleaa
