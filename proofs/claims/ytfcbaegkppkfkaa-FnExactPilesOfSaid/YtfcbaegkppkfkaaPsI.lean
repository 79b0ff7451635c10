import Derived.Test.YtfcbaegkppkfkaaPsW
import Derived.Test.YtfcbaegkppkfkaaPsS
import Derived.Test.YtfcbaegkppkfkaaI1
namespace Go.Proofs.Ytfcbaegkppkfkaa
open Go Go.RowKit Go.Pan

/-- what the piles hold, in a slice of its own -/
theorem PC.rows {w : World} {B N gp M : Nat} {v : Value} {bs : List Nat} {hs rs : List Value} {P : List (List Int)} {w' : World} (h : PC w B v bs hs P) (hb : Below w.heap.size w w') (hM : P.length = M) (hl : rs.length = M) (h9 : M ≤ 9)
    (hr : ∀ (i : Nat) (r : Value), rs[i]? = some r → ∃ u x, hs[i]? = some u ∧ P[i]? = some x ∧ OwnI w r x ∧ r.ownBlock = u.ownBlock) (hblk : Blk w' gp 22 rs) (hB : B ≤ w.heap.size) (hg : w.heap.size ≤ gp) (hgN : gp < N) (hN : w'.heap.size ≤ N) :
    SS w' B N (.slice (some ⟨gp, 0, none⟩) M M) rs P := by
  have hz := hb.size
  have hin : ∀ (i : Nat) (r : Value), rs[i]? = some r → ∀ g, r.ownBlock = some g → B ≤ g ∧ g < w.heap.size := fun i r hi g hg2 => by
    obtain ⟨u, x, h1, h2, h3, h4⟩ := hr i r hi
    exact h.pb.inh i u h1 g (by rw [← h4]; exact hg2)
  refine ⟨by omega, ?_, fun g hg2 => ?_, fun i r xs hi hx => ?_, fun i j r r2 hij h1 h2 g hg2 e => ?_⟩
  · have := (Own.of_row (owns_of_blkP (n := M) (cap := M) (hs := rs) hblk (Nat.le_trans hB hg) hl (Nat.le_refl _) (by unfold maxLen; omega) hl (by rw [List.take_of_length_le (by omega)]))).1
    rw [hl]
    exact this
  · simp [Value.ownBlock] at hg2
    omega
  · obtain ⟨u, x, h1, h2, h3, h4⟩ := hr i r hi
    rw [hx] at h2
    cases h2
    have hin' := hin i r hi
    exact ⟨h3.kept fun g hg2 => hb.block g (hin' g hg2).2, fun g hg2 => ⟨(hin' g hg2).1, by have := (hin' g hg2).2; omega⟩, fun g hg2 e => by
      have h5 : gp = g := by simpa [Value.ownBlock] using hg2
      have := (hin' g e).2
      omega⟩
  · obtain ⟨u, x, h3, _, _, h4⟩ := hr i r h1
    obtain ⟨u2, x2, h5, _, _, h6⟩ := hr j r2 h2
    exact h.pb.apart i j u u2 hij h3 h5 g (by rw [← h4]; exact hg2) (by rw [← h6]; exact e)

set_option maxHeartbeats 8000000 in
set_option maxRecDepth 100000 in
theorem PilesOf_any (v : Value) (xs : List Int) (w : World) (hv : OwnI w v xs) (hn : xs.length ≤ 1048576) :
    Calls Try.prog 10 #[v] w fun e w' => ∃ r hs, e = .returned (.tuple #[r, .bool (goodB xs)]) ∧ SS w' w.heap.size w'.heap.size r hs (mPilesOf xs) ∧ Below w.heap.size w w' := by
  obtain ⟨ad, cap, rfl, hc, _, _⟩ := hv.shape
  have cg := IsStack_any _ _ _ hv hn
  cases hg : goodB xs with
  | true =>
    have HM := Lib.hid (show mPilesOf xs = pilesTo xs xs.length from if_pos hg)
    have h9 := (goodB_iff.1 hg).le9
    rw [hg] at cg
    obtain ⟨i0, hi, hz0, hz1, hz2⟩ := info_parts Try.info22
    have HI := Lib.hid hi
    have HZ0 := Lib.hid hz0
    have HZ1 := Lib.hid hz1
    have HZ2 := Lib.hid hz2
    clear hg hi hz0 hz1 hz2
    go_enter Try.func10, Try.ntmps10
    go_wp2_with fail
    refine (cg).mono ?_
    rintro e w1 ⟨rfl, hb1⟩
    have HV := Lib.hid (hv.same hb1)
    have hz1 := hb1.size
    have HP0 := Lib.hid (show PC w1 w1.heap.size (.slice none 0 0) [] [] (pilesTo xs 0) from PC.nil w1 w1.heap.size)
    clear cg hv
    go_wp2
    go_loopw [4, 6, 15] (fun pv _ i wr => ∃ (k : Nat) (bs : List Nat) (hs : List Value), k ≤ xs.length ∧ i = .int .i64 k ∧ Hid (PC wr w1.heap.size pv bs hs (pilesTo xs k)) ∧ Below w1.heap.size w1 wr) (fun _ _ i _ => xs.length - (intOf i).toNat)
    case atStart => exact ⟨0, [], [], Nat.zero_le _, rfl, HP0, Below.refl _ _⟩
    case round =>
      obtain ⟨k, bs, hs, hk, rfl, hP, hbr⟩ := hrel
      clear HP0
      have HPI := Lib.hid (pilesTo_in xs k hk)
      have hPl : (pilesTo xs k).length ≤ 9 := by have := HPI.out.len; omega
      have hPr : ∀ r ∈ pilesTo xs k, 0 < r.length ∧ r.length ≤ 9 := fun r hr => ⟨HPI.out.1 r hr, by have := HPI.out.row hr; omega⟩
      obtain ⟨pa, pc, rfl, hpc, hpcm, _⟩ := (Own.of_row hP.out.own).1.shape
      by_cases hlt : k < xs.length
      · have hlt' : (k : Int) < (xs.length : Int) := by omega
        obtain ⟨gx, ox, rfl, hgx, hcx, _⟩ := Own.at HV.out (by omega)
        have hx := hcx k (by omega)
        rw [List.getElem?_map, List.getElem?_eq_getElem hlt] at hx
        have hxr := (hbr.cell (p := ⟨gx, ox + k, none⟩) hgx).trans hx
        have HSU := Lib.hid (pilesTo_succ xs k hlt)
        obtain ⟨x, hxe⟩ : ∃ x, xs[k] = x := ⟨_, rfl⟩
        rw [hxe] at hxr HSU
        have cW := withOnPile_any _ x bs hs _ wr w1.heap.size hP.out hbr.size hPl hPr
        rw [← HSU.out] at cW
        clear hcx hx hxe hPl hPr
        go_wp2_with fail
        refine cW.mono ?_
        rintro e w2 ⟨v2, bs2, hs2, rfl, hP2, hb2⟩
        have HP2 := Lib.hid hP2
        have hB2 := hbr.trans hb2
        clear hP2 hb2 cW hP
        go_wp2
        go_roundw
        case rel => exact ⟨k + 1, bs2, hs2, by omega, by go_num, HP2, hB2⟩
        case measure => simp [intOf] <;> omega
      · obtain rfl : k = xs.length := by omega
        have hge3 : ¬ ((xs.length : Int) < (xs.length : Int)) := by omega
        obtain ⟨P, hPe⟩ : ∃ P, pilesTo xs xs.length = P := ⟨_, rfl⟩
        rw [hPe] at hP hPl hPr HPI HM hpc ⊢
        obtain ⟨M, hMe⟩ : ∃ M, P.length = M := ⟨_, rfl⟩
        have HMe := Lib.hid hMe
        rw [hMe] at hP hPl hpc ⊢
        clear hMe hPe hPr
        go_wp2_with (at_make; refine wpList_make_full _ rfl _ _ 23 rfl w1.heap.size 22 i0 (.slice none 0 0) 1 Try.underlying23 HI.out HZ0.out HZ1.out _ _ _ _ M rfl rfl rfl rfl ?b1 ?b2 ?b3 ?_)
        case b1 => rw [HZ2.out]; omega
        case b2 => unfold maxLen; omega
        case b3 => exact hbr.size
        intro w3 hown3 hgr3
        have hb3 : Below wr.heap.size wr w3 := (Below.refl _ _).grown hgr3 (Nat.le_refl _) (by intro k hk; cases hk)
        have hbl3 : Blk w3 wr.heap.size 22 ([] ++ List.replicate (M - 0) (.slice none 0 0)) := by
          have := (Blk.of_row hown3).1
          simpa [toList_madeCells_one] using this
        have hR0 : ∀ (i : Nat) (r : Value), ([] : List Value)[i]? = some r → ∃ u x, hs[i]? = some u ∧ P[i]? = some x ∧ OwnI wr r x ∧ r.ownBlock = u.ownBlock := fun i r h => by simp at h
        have HR0 := Lib.hid hR0
        have HBL3 := Lib.hid hbl3
        have HB3 := Lib.hid hb3
        clear hgr3 hown3 hR0 hbl3 hb3
        obtain ⟨wz, hwz⟩ : ∃ wz, wz = wr := ⟨_, rfl⟩
        rw [← hwz] at hP hbr HR0 HBL3 HB3 ⊢
        clear hwz
        have hbz := hbr
        have HPZ := Lib.hid hP
        have hgz : wz.heap.size < w3.heap.size := HBL3.out.lt
        clear hP hbr
        go_wp2
        go_loopw [8, 9, 28] (fun _ _ i wi => ∃ (q : Nat) (rs : List Value), q ≤ M ∧ i = .int .i64 q ∧ rs.length = q ∧ Hid (∀ (i : Nat) (r : Value), rs[i]? = some r → ∃ u x, hs[i]? = some u ∧ P[i]? = some x ∧ OwnI wz r x ∧ r.ownBlock = u.ownBlock) ∧ Hid (Blk wi wz.heap.size 22 (rs ++ List.replicate (M - q) (.slice none 0 0))) ∧ Below wz.heap.size wz wi) (fun _ _ i _ => M - (intOf i).toNat)
        case atStart => exact ⟨0, [], Nat.zero_le _, rfl, rfl, HR0, HBL3, HB3.out⟩
        case round =>
          obtain ⟨q, rs, hq, rfl, hrl, HRS, HBQ, hbr⟩ := hrel
          clear HR0 HBL3
          have HRL := Lib.hid hrl
          have hgr := HBQ.out.lt
          by_cases hql : q < M
          · have hql' : (q : Int) < (M : Int) := by omega
            have hqP : q < P.length := by rw [HMe.out]; exact hql
            have hqb : q < bs.length := by have := HPZ.out.pb.lb; omega
            have hqh : q < hs.length := by have := HPZ.out.pb.lh; omega
            have hbM : bs.length = M := by rw [HPZ.out.pb.lb, HMe.out]
            have HPR := Lib.hid (HPZ.out.below hbr)
            have hOC : OwnC cP wr (.slice pa bs.length pc) bs := by
              have h1 := (Own.of_row HPR.out.own).1
              rw [HMe.out] at h1
              show Own wr 2 _ bs.length _
              rw [hbM]
              exact h1
            obtain ⟨tb, toff, hta, htl, hra⟩ := OwnC.rowAt hOC hqb
            subst hta
            obtain ⟨b, hbe⟩ : ∃ b, bs[q] = b := ⟨_, rfl⟩
            rw [hbe] at hra
            have HBB := Lib.hid (show bs[q]? = some b by rw [List.getElem?_eq_getElem hqb, hbe])
            obtain ⟨u, hue⟩ : ∃ u, hs[q] = u := ⟨_, rfl⟩
            have HUQ := Lib.hid (show hs[q]? = some u by rw [List.getElem?_eq_getElem hqh, hue])
            obtain ⟨ys, hxe⟩ : ∃ ys, P[q] = ys := ⟨_, rfl⟩
            have HXQ := Lib.hid (show P[q]? = some ys by rw [List.getElem?_eq_getElem hqP, hxe])
            have hra' : wr.rangeAt tb (toff + q * 2) [.func (Fn.func 60) #[] #[.pointer (some ⟨b, 0, none⟩)], .func (Fn.func 61) #[] #[.pointer (some ⟨b, 0, none⟩)]] := hra
            have hsz := Try.info41S
            have HBX := Lib.hid (HPZ.out.pb.box q b u ys HBB.out HUQ.out HXQ.out)
            have hbN : b < wz.heap.size := (HPZ.out.pb.inb q b HBB.out).2
            have huN : ∀ g, u.ownBlock = some g → g < wz.heap.size := fun g hg => (HPZ.out.pb.inh q u HUQ.out g hg).2
            have HUN := Lib.hid huN
            clear hbe hue hxe hra hOC hqb hqh hbM huN hrl
            go_wp2_with (first | (refine wpList_load_mid rfl 41 _ rfl tb (toff + q * 2) rfl [.func (Fn.func 60) #[] #[.pointer (some ⟨b, 0, none⟩)], .func (Fn.func 61) #[] #[.pointer (some ⟨b, 0, none⟩)]] _ hra' Try.underlying41 rfl hsz ?_) | (refine wpList_storeS2 rfl 41 _ _ rfl wr.heap.size _ _ rfl rfl 41 [.nilFunc, .nilFunc] (Blk.new wr 41 [.nilFunc, .nilFunc] _ rfl) hsz rfl ⟨rfl, rfl⟩ ?_; intro w5 hbk5 hgr5; have hc5 : w5.cell? ⟨wr.heap.size, 1, none⟩ = some (.func (Fn.func 61) #[] #[.pointer (some ⟨b, 0, none⟩)]) := hbk5.cell 1))
            have hb5 : Below wr.heap.size wr w5 := (below_new wr _).grown hgr5 (by simp) (fun k hk => by cases hk; exact Nat.le_refl _)
            have hbz5 := hbr.trans (hb5.mono hbr.size)
            refine (allP_any b u ys w5 (HBX.out.1.below hbz5 hbN) (HBX.out.2.kept fun g hg => hbz5.block g (HUN.out g hg))).mono ?_
            rintro e w6 ⟨r6, rfl, ho6, hb6, rfl⟩
            obtain ⟨a6, c6, rfl, _, _, _⟩ := ho6.shape
            have hB7 := HBQ.out.below hb5 hgr
            have hHL := HRL.out
            have hset : (rs ++ List.replicate (M - q) (Value.slice none 0 0)).set q (Value.slice a6 ys.length c6) = (rs ++ [Value.slice a6 ys.length c6]) ++ List.replicate (M - (q + 1)) (Value.slice none 0 0) := by
              rw [List.set_append_right _ _ (by omega), hHL, Nat.sub_self, show M - q = (M - (q + 1)) + 1 by omega, List.replicate_succ, List.set_cons_zero, List.append_assoc]
              rfl
            have hB8 := hB7.set q (.slice a6 ys.length c6)
            rw [hset] at hB8
            have hc7 := hB7.cell q
            rw [List.getElem?_append_right (by omega), hHL, Nat.sub_self, List.getElem?_replicate, if_pos (by omega)] at hc7
            have hf7 := hB7.frozen q
            have HR8 := Lib.hid (show ∀ (i : Nat) (r : Value), (rs ++ [Value.slice a6 ys.length c6])[i]? = some r → ∃ u x, hs[i]? = some u ∧ P[i]? = some x ∧ OwnI wz r x ∧ r.ownBlock = u.ownBlock from fun i r hi => by
              rcases getElem?_snoc hi with hi | ⟨rfl, rfl⟩
              · exact HRS.out i r hi
              · rw [hHL]
                exact ⟨u, ys, HUQ.out, HXQ.out, ho6.kept fun g hg => (hbz5.block g (HUN.out g (by rw [← hb6]; exact hg))).symm, hb6⟩)
            have HB8 := Lib.hid hB8
            have hbz8 := hbz5.setCell (p := ⟨wz.heap.size, q, none⟩) (Nat.le_refl _) (.slice a6 ys.length c6)
            have HL8 := Lib.hid (show (rs ++ [Value.slice a6 ys.length c6]).length = q + 1 by simp [hHL])
            clear hbr hb5 hbz5 ho6 hb6 hB7 hHL hset hB8 hbk5 hgr5 hc5 hra'
            go_wp2
            go_roundw
            case rel => exact ⟨q + 1, _, by omega, by go_num, HL8.out, HR8, HB8, hbz8⟩
            case measure => simp [intOf] <;> omega
          · obtain rfl : q = M := by omega
            have hge2 : ¬ ((q : Int) < (q : Int)) := by omega
            have hz := hbr.size
            have hblk := HBQ.out
            rw [Nat.sub_self, List.replicate_zero, List.append_nil] at hblk
            have HF := Lib.hid (show SS wr w.heap.size wr.heap.size (.slice (some ⟨wz.heap.size, 0, none⟩) q q) rs (mPilesOf xs) by
              rw [HM.out]
              exact (HPZ.out.rows hbr HMe.out hrl hPl HRS.out hblk hbz.size (Nat.le_refl _) hgr (Nat.le_refl _)).mono hz1 (Nat.le_refl _))
            have hB9 := hb1.trans ((hbz.trans (hbr.mono hbz.size)).mono hz1)
            clear hblk
            go_wp2
            go_ret2
            exact ⟨_, rfl, ⟨_, HF.out⟩, hB9⟩
  | false =>
    have HM := Lib.hid (show mPilesOf xs = [] from if_neg (by rw [hg]; exact Bool.false_ne_true))
    rw [hg] at cg
    clear hg
    go_enter Try.func10, Try.ntmps10
    go_wp2_with fail
    refine (cg).mono ?_
    rintro e w1 ⟨rfl, hb1⟩
    go_wp2
    go_ret2
    exact ⟨_, [], rfl, by rw [HM.out]; exact SS.nil _ _ _, hb1⟩

end Go.Proofs.Ytfcbaegkppkfkaa
