import Derived.Test.YtfcbaegkppkfkaaPsC
namespace Go.Proofs.Ytfcbaegkppkfkaa
open Go Go.RowKit Go.Pan

theorem Try.info41S : (Try.prog.info? 41).map (·.size) = some 2 := by kernel_rfl

set_option maxHeartbeats 4000000 in
set_option maxRecDepth 100000 in
theorem withOnPile_any (v : Value) (x : Int) (bs : List Nat) (hs : List Value) (P : List (List Int)) (w : World) (B : Nat) (h : PC w B v bs hs P) (hB : B ≤ w.heap.size) (h9 : P.length ≤ 9) (hr : ∀ r ∈ P, 0 < r.length ∧ r.length ≤ 9) :
    Calls Try.prog 29 #[v, .int .i64 x] w fun e w' => ∃ v' bs' hs', e = .returned v' ∧ PC w' B v' bs' hs' (addP P x) ∧ Below B w w' := by
  obtain ⟨ad, cap, rfl, hc, hcm, hnil⟩ := (Own.of_row h.own).1.shape
  obtain ⟨i0, hi, hz0, hz1, hz2⟩ := info_parts Try.info41P
  have HI := Lib.hid hi
  have HZ0 := Lib.hid hz0
  have HZ1 := Lib.hid hz1
  have HZ2 := Lib.hid hz2
  have HR := Lib.hid hr
  have HBW := Lib.hid hB
  have hlb : bs.length = P.length := h.pb.lb
  have hlh : hs.length = P.length := h.pb.lh
  have HLB := Lib.hid hlb
  have HLH := Lib.hid hlh
  obtain ⟨M, hM⟩ : ∃ M, P.length = M := ⟨_, rfl⟩
  have HM := Lib.hid hM
  have HK0 := Lib.hid (show ∀ j' (hj' : j' < P.length), j' < 0 → topP (P[j']) < x from fun j' _ h => by omega)
  rw [hM] at hc h9 h ⊢
  have HC := Lib.hid h
  clear hi hz0 hz1 hz2 h hr hlb hlh hM hB
  go_enter Try.func29, Try.ntmps29
  go_wp2
  go_loopw [9] (fun kv wi => ∃ q : Nat, q ≤ M ∧ kv = .int .i64 q ∧ Hid (∀ j' (hj' : j' < P.length), j' < q → topP (P[j']) < x) ∧ Below w.heap.size w wi) (fun kv _ => M - (intOf kv).toNat)
  case atStart => exact ⟨0, Nat.zero_le _, rfl, HK0, Below.refl _ _⟩
  case round =>
    obtain ⟨q, hq, rfl, HKQ, hbr⟩ := hrel
    clear HK0
    by_cases hql : q < M
    · have hql' : (q : Int) < (M : Int) := by omega
      have hqP : q < P.length := by rw [HM.out]; exact hql
      have hqb : q < bs.length := by rw [HLB.out]; exact hqP
      have hqh : q < hs.length := by rw [HLH.out]; exact hqP
      have HCR := Lib.hid (HC.out.below hbr)
      have hbM : bs.length = M := by rw [HLB.out, HM.out]
      have hOC : OwnC cP wr (.slice ad bs.length cap) bs := by
        have h1 := (Own.of_row HCR.out.own).1
        rw [HM.out] at h1
        show Own wr 2 _ bs.length _
        rw [hbM]
        exact h1
      obtain ⟨tb, toff, hta, htl, hra⟩ := OwnC.rowAt hOC hqb
      subst hta
      obtain ⟨b, hbe⟩ : ∃ b, bs[q] = b := ⟨_, rfl⟩
      rw [hbe] at hra
      have HBQ := Lib.hid (show bs[q]? = some b by rw [List.getElem?_eq_getElem hqb, hbe])
      obtain ⟨u, hue⟩ : ∃ u, hs[q] = u := ⟨_, rfl⟩
      have HUQ := Lib.hid (show hs[q]? = some u by rw [List.getElem?_eq_getElem hqh, hue])
      obtain ⟨xs, hxe⟩ : ∃ xs, P[q] = xs := ⟨_, rfl⟩
      have HXQ := Lib.hid (show P[q]? = some xs by rw [List.getElem?_eq_getElem hqP, hxe])
      have HRX := Lib.hid (show 0 < xs.length ∧ xs.length ≤ 9 from HR.out xs (by rw [← hxe]; exact List.getElem_mem hqP))
      have hra' : wr.rangeAt tb (toff + q * 2) [.func (Fn.func 60) #[] #[.pointer (some ⟨b, 0, none⟩)], .func (Fn.func 61) #[] #[.pointer (some ⟨b, 0, none⟩)]] := hra
      have HW2 := Lib.hid (show ∀ w5, Below wr.heap.size wr w5 → PC w5 B (.slice (some ⟨tb, toff, none⟩) M cap) bs hs P from fun w5 hb => HCR.out.below hb)
      have HBX := Lib.hid (show ∀ w5, Below wr.heap.size wr w5 → Blk w5 b 22 [u] ∧ OwnI w5 u xs ∧ u.ownBlock ≠ some b from fun w5 hb => ⟨((HW2.out w5 hb).pb.box q b u xs HBQ.out HUQ.out HXQ.out).1, ((HW2.out w5 hb).pb.box q b u xs HBQ.out HUQ.out HXQ.out).2, HCR.out.pb.ap q q b u HBQ.out HUQ.out⟩)
      have HXE := Lib.hid hxe
      have hsz := Try.info41S
      clear hbe hue hxe hra hOC hqb hqh hbM
      by_cases htop : topP xs < x
      · have HK2 := Lib.hid (show ∀ j' (hj' : j' < P.length), j' < q + 1 → topP (P[j']) < x from fun j' hj' h => by
          by_cases e : j' = q
          · subst e; rw [HXE.out]; exact htop
          · exact HKQ.out j' hj' (by omega))
        have HT := Lib.hid htop
        clear htop
        go_wp2_with (first | (refine wpList_load_mid rfl 41 _ rfl tb (toff + q * 2) rfl [.func (Fn.func 60) #[] #[.pointer (some ⟨b, 0, none⟩)], .func (Fn.func 61) #[] #[.pointer (some ⟨b, 0, none⟩)]] _ hra' Try.underlying41 rfl hsz ?_) | (refine wpList_storeS2 rfl 41 _ _ rfl wr.heap.size _ _ rfl rfl 41 [.nilFunc, .nilFunc] (Blk.new wr 41 [.nilFunc, .nilFunc] _ rfl) hsz rfl ⟨rfl, rfl⟩ ?_; intro w5 hbk5 hgr5; have hc5 : w5.cell? ⟨wr.heap.size, 0, none⟩ = some (.func (Fn.func 60) #[] #[.pointer (some ⟨b, 0, none⟩)]) := hbk5.cell 0))
        have hb5 : Below wr.heap.size wr w5 := (below_new wr _).grown hgr5 (by simp) (fun k hk => by cases hk; exact Nat.le_refl _)
        refine (takeP_no b u xs x w5 (HBX.out w5 hb5).1 (HBX.out w5 hb5).2.1 HRX.out.1 HRX.out.2 HT.out).mono ?_
        rintro e w6 ⟨rfl, rfl⟩
        have hB6 := hbr.trans (hb5.mono hbr.size)
        clear hbk5 hgr5 hc5 hb5
        go_wp2
        go_roundw
        case rel => exact ⟨q + 1, by omega, by go_num, HK2, hB6⟩
        case measure => simp [intOf] <;> omega
      · have HKP := Lib.hid (show kP P x = q from kP_eq (by omega) (fun j' hj' h => HKQ.out j' hj' h) (fun _ => by rw [HXE.out]; exact htop))
        have HT := Lib.hid htop
        clear htop
        go_wp2_with (first | (refine wpList_load_mid rfl 41 _ rfl tb (toff + q * 2) rfl [.func (Fn.func 60) #[] #[.pointer (some ⟨b, 0, none⟩)], .func (Fn.func 61) #[] #[.pointer (some ⟨b, 0, none⟩)]] _ hra' Try.underlying41 rfl hsz ?_) | (refine wpList_storeS2 rfl 41 _ _ rfl wr.heap.size _ _ rfl rfl 41 [.nilFunc, .nilFunc] (Blk.new wr 41 [.nilFunc, .nilFunc] _ rfl) hsz rfl ⟨rfl, rfl⟩ ?_; intro w5 hbk5 hgr5; have hc5 : w5.cell? ⟨wr.heap.size, 0, none⟩ = some (.func (Fn.func 60) #[] #[.pointer (some ⟨b, 0, none⟩)]) := hbk5.cell 0))
        have hb5 : Below wr.heap.size wr w5 := (below_new wr _).grown hgr5 (by simp) (fun k hk => by cases hk; exact Nat.le_refl _)
        have hPC5 := HW2.out w5 hb5
        have hB5 := hbr.trans (hb5.mono hbr.size)
        refine (takeP_yes b u xs x w5 (HBX.out w5 hb5).1 (HBX.out w5 hb5).2.1 (HBX.out w5 hb5).2.2 HRX.out.1 HRX.out.2 (by have := HT.out; omega)).mono ?_
        rintro e w6 ⟨rfl, W, u1, rfl, ho1, hat1, hgr1⟩
        have hP6 := PC.push hPC5 (Nat.le_trans HBW.out hB5.size) HBQ.out HUQ.out hgr1 ho1 hat1
        have hB6 : Below B w (W.setCell ⟨b, 0, none⟩ u1) := ((hB5.mono HBW.out).grown hgr1 (Nat.le_trans HBW.out hB5.size) (fun k hk => (hPC5.pb.inh q u HUQ.out k hk).1)).setCell (p := ⟨b, 0, none⟩) (hPC5.pb.inb q b HBQ.out).1 u1
        have hAP : addP P x = P.set q (xs ++ [x]) := by
          unfold addP
          rw [HKP.out, if_pos hqP, show P.getD q [] = xs by rw [List.getD_eq_getElem?_getD, HXQ.out]; rfl]
        rw [← hAP] at hP6
        have HP6 := Lib.hid hP6
        clear hbk5 hgr5 hc5 hb5 hPC5 hB5 hgr1 hat1 ho1 hP6
        go_wp2
        go_ret
        exact ⟨_, bs, hs.set q u1, rfl, HP6.out, hB6⟩
    · obtain rfl : q = M := by omega
      have hge : ¬ ((q : Int) < (q : Int)) := by omega
      have HKP := Lib.hid (show ¬ kP P x < P.length by rw [kP_eq (Nat.le_of_eq HM.out.symm) (fun j' hj' h => HKQ.out j' hj' h) (fun hk => by have := HM.out; omega), HM.out]; omega)
      have HCR := Lib.hid (HC.out.below hbr)
      have hBr : B ≤ wr.heap.size := Nat.le_trans HBW.out hbr.size
      go_wp2_with fail
      refine (pileOn_any x wr).mono ?_
      rintro e w5 ⟨b, u, rfl, hbk5, hu5, hb51, hb52, hg5, hb5⟩
      have hz5 := hb5.size
      have HPC5 := Lib.hid (HCR.out.below hb5)
      have HB5 := Lib.hid ((hbr.trans (hb5.mono hbr.size)).mono HBW.out)
      have hown5 : w5.ownsRow B 41 2 (.slice ad q cap) q (fl cP.c bs) := by have h1 := HPC5.out.own; rw [HM.out] at h1; exact h1
      have HO5 := Lib.hid hown5
      have HK5 := Lib.hid hbk5
      have HU5 := Lib.hid hu5
      have HG5 := Lib.hid hg5
      have hce : (cP.c b).toArray = #[.func (Fn.func 60) #[] #[.pointer (some ⟨b, 0, none⟩)], .func (Fn.func 61) #[] #[.pointer (some ⟨b, 0, none⟩)]] := rfl
      rw [hce]
      clear hown5 hbk5 hu5 hg5 hce
      go_wp2_with (first | (refine wpList_build_pair Try.underlying36 HI.out HZ0.out HZ1.out rfl _ rfl (.func (Fn.func 60) #[] #[.pointer (some ⟨b, 0, none⟩)]) (.func (Fn.func 61) #[] #[.pointer (some ⟨b, 0, none⟩)]) rfl ?_) | (at_builtin; refine wpList_append_lies _ rfl _ _ 36 rfl B 41 i0 _ 2 16 Try.underlying36 HI.out HZ0.out HZ1.out HZ2.out rfl (by omega) (.slice ad q cap) q (fl cP.c bs) rfl (HO5.out.alloc _) _ 1 1 (cP.c b) rfl rfl (World.news_of_block (heap_alloc_new _ _)) (cP.one b) (by omega) (by unfold maxLen; omega) (by omega) (by simp; omega) (w5.heap.size + 1) (by simp) ?_))
      intro g8 cap8 w8 hown8 hgr8 hat8 hlt8
      have hP8 := PC.snoc (cap := cap8) HCR.out hBr hb5 HK5.out HU5.out hb51 hb52 HG5.out (by rw [HM.out]; exact hown8) hgr8 hat8 hlt8
      rw [HM.out] at hP8
      have hAP : addP P x = P ++ [[x]] := by unfold addP; rw [if_neg HKP.out]
      rw [← hAP] at hP8
      have hB8 := (HB5.out.alloc (by omega) _).grown hgr8 (by simp; omega) (fun k hk => (HPC5.out.cont k hk).1)
      have HP8 := Lib.hid hP8
      clear hP8 hgr8 hat8 hown8 hb5
      go_wp2
      go_ret
      exact ⟨_, bs ++ [b], hs ++ [u], rfl, HP8.out, hB8⟩

end Go.Proofs.Ytfcbaegkppkfkaa
