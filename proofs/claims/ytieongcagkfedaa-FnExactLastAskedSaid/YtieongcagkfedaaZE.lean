import Derived.Test.YtieongcagkfedaaZB
import Derived.Test.YtieongcagkfedaaZD
import Derived.Lib.SliceRun
import Derived.Deep.AppendLies
namespace Go.Proofs.Ytieongcagkfedaa
open Go Go.RowKit Go.Pan

theorem rowBelow {w w' : World} {B sz n N : Nat} {e : TypeId} {v : Value} {cs : List Value} (h : w.ownsRow B e sz v n cs) (hb : Below N w w') (hN : w.heap.size ≤ N) : w'.ownsRow B e sz v n cs := by
  refine h.kept (grown_of_below (hb.mono hN) none) ?_
  cases hv : v.ownBlock with
  | none => exact .inl rfl
  | some b => exact .inr (by simp)

set_option maxHeartbeats 800000 in
theorem CloneA_any (v : Value) (xs : List Int) (w : World) (hv : OwnI w v xs) (hn : xs.length ≤ 1048576) :
    Calls Try.prog 93 #[v] w fun e w' => ∃ r, e = .returned r ∧ OwnI w' r xs ∧ From w.heap.size r ∧ Below w.heap.size w w' := by
  obtain ⟨ad, cap, rfl, hc, _, hnil⟩ := hv.shape
  have qT : ∀ (w : World) (a : Option Addr) (n c n' c' : Nat), (binOp .eql 22 (.slice a n c) (.slice none n' c')).run Try.prog w = .ok (.bool a.isNone) w := fun w a n c n' c' => Lib.run_eql_slice_nil w _ _ a n c n' c' Try.underlying22
  cases ad with
  | none =>
    have h0 : xs.length = 0 := by have := hnil rfl; omega
    obtain rfl : xs = [] := List.eq_nil_of_length_eq_zero h0
    clear hv h0 hnil
    go_enter Try.func93, Try.ntmps93
    go_wp2
    go_ret
    exact ⟨_, rfl, OwnI.nil _, From.nil _ _ _, Below.refl _ _⟩
  | some a =>
    have HO := Lib.hid (OwnI.lit w 3 [] 0 rfl (by omega) #[] rfl)
    have HS := Lib.hid (Own.src (hv.alloc (.cells #[] 3)))
    have HB := Lib.hid (below_new w (.cells #[] 3))
    clear hv hnil
    go_enter Try.func93, Try.ntmps93
    go_wp2_with (at_builtin; refine wpList_appI Try.intSl rfl _ _ rfl (.slice (some ⟨w.heap.size, 0, none⟩) 0 0) [] rfl HO.out w.heap.size (From.at _ _ _ _ _ (Nat.le_refl _)) (some a) xs.length cap xs rfl rfl HS.out w HB.out (by simp) (by simp) hn ?_)
    intro v' w1 ho hf hb _
    have HR := Lib.hid (show OwnI w1 v' xs by simpa using ho)
    clear ho
    go_wp2
    go_ret
    exact ⟨_, rfl, HR.out, hf, hb⟩

theorem placeL_ge (xs : List Int) (x : Int) : decide (placeL xs x - 1 ≥ 0) = decide (x ∈ xs) := by
  by_cases h : x ∈ xs
  · have := placeL_bd h
    rw [decide_eq_true h, decide_eq_true (by omega)]
  · have : placeL xs x = 0 := by simp [placeL, h]
    rw [decide_eq_false h, decide_eq_false (by omega)]

theorem ContainsI_any (v : Value) (xs : List Int) (x : Int) (w : World) (hv : OwnI w v xs) (hn : xs.length ≤ 1048576) :
    Calls Try.prog 96 #[v, .int .i64 x] w fun e w' => e = .returned (.bool (decide (x ∈ xs))) ∧ Below w.heap.size w w' := by
  have HP := Lib.hid (placeL_ge xs x)
  have c := Index_any v xs x w hv hn
  obtain ⟨z, hz⟩ : ∃ z, placeL xs x - 1 = z := ⟨_, rfl⟩
  rw [hz] at c HP
  clear hv hz
  go_enter Try.func96, Try.ntmps96
  go_wp2_with fail
  refine c.mono ?_
  rintro e w1 ⟨rfl, hb⟩
  clear c
  go_wp2
  go_ret
  exact ⟨by rw [← HP.out]; rfl, hb⟩

set_option maxHeartbeats 1600000 in
set_option maxRecDepth 100000 in
theorem LastAsked_any (v : Value) (xs : List Int) (u : Value) (ys : List Int) (w : World) (hv : OwnI w v xs) (hn : xs.length ≤ 1048576) (hu : OwnI w u ys) (hm : ys.length ≤ 1048576) :
    Calls Try.prog 46 #[v, u] w fun e w' => ∃ r, e = .returned (.tuple #[r, .bool (askB xs ys)]) ∧ OwnI w' r (mLastAsked xs ys) ∧ From w.heap.size r ∧ Below w.heap.size w w' := by
  have cA := AreAsked_any v xs u ys w hv hn hu hm
  unfold mAreAsked at cA
  obtain ⟨ad, cap, rfl, hc, _, _⟩ := hv.shape
  obtain ⟨bd, cbp, rfl, hc', _, _⟩ := hu.shape
  cases hg : askB xs ys with
  | true =>
    rw [hg] at cA
    have HM := Lib.hid (show mLastAsked xs ys = lastL xs ys from if_pos hg)
    obtain ⟨hgx, h60, _⟩ := askB_iff.1 hg
    have h9 := hgx.2.1
    obtain ⟨i1, hj, hk0, hk1', hk2⟩ := info_parts Try.info3
    have HJ := Lib.hid hj
    have HK0 := Lib.hid hk0
    have HK1 := Lib.hid hk1'
    have HK2 := Lib.hid hk2
    clear hgx hg hj hk0 hk1' hk2
    go_enter Try.func46, Try.ntmps46
    go_wp2_with fail
    refine cA.mono ?_
    rintro e w1 ⟨rfl, hb1⟩
    have hv1 := hv.same hb1
    have hu1 := hu.same hb1
    clear cA hv hu
    go_wp2_with fail
    refine (CloneA_any _ ys _ hu1 hm).mono ?_
    rintro e w2 ⟨r2, rfl, ho2, hf2, hb2⟩
    have hv2 := hv1.same hb2
    have hlt2 := hv1.lt
    clear hv1 hu1
    go_wp2_with fail
    refine (Reverse_any _ ys _ ho2 hm).mono ?_
    rintro e w3 ⟨rfl, ho3, hg3⟩
    have hv3 : OwnI w3 (.slice ad xs.length cap) xs := Own.grown hv2 hg3 (fun g hg => apart_lt hlt2 hf2 g hg)
    have hB2 := hb1.trans (hb2.mono hb1.size)
    have hB3 : Below w.heap.size w w3 := hB2.grown hg3 hB2.size (fun k hk => Nat.le_trans hb1.size (hf2 k hk))
    have hs3 := hB3.size
    have HV3 := Lib.hid hv3
    have HO3 := Lib.hid ho3
    clear hv2 hg3 hlt2 hb1 hb2 hB2 ho2 hv3 ho3 hf2
    go_wp2_with (at_make; refine wpList_make_own _ rfl _ _ 22 rfl w3.heap.size 3 i1 (.int .i64 0) 1 Try.underlying22 HJ.out HK0.out HK1.out _ _ _ xs.length rfl rfl (by first | rfl | simp | omega) (by rw [HK2.out]; omega) (by unfold maxLen; omega) (by exact Nat.le_refl _) ?_)
    intro w4 hown4 hgr4
    have hB4 : Below w.heap.size w w4 := hB3.grown hgr4 hs3 (by intro k hk; cases hk)
    have hO4 := Own.of_row hown4
    have HO4 := Lib.hid (show w4.ownsRow w3.heap.size 3 1 (.slice (some ⟨w3.heap.size, 0, none⟩) 0 xs.length) 0 [] from hown4)
    have HV4 := Lib.hid (show OwnI w4 (.slice ad xs.length cap) xs from Own.grown HV3.out hgr4 (by intro g hg h; cases h))
    have HR4 := Lib.hid (show OwnI w4 r2 ys.reverse from Own.grown HO3.out hgr4 (by intro g hg h; cases h))
    have hf4 : From w.heap.size (.slice (some ⟨w3.heap.size, 0, none⟩) 0 xs.length) := hO4.2.mono hs3
    have hz4 : w3.heap.size < w4.heap.size := hO4.1.lt w3.heap.size rfl
    clear hown4 hgr4 hO4 HV3 HO3 hB3
    obtain ⟨ar, cr, hre, hcr, _, _⟩ := HR4.out.shape
    subst hre
    obtain ⟨R, hR⟩ : ∃ R, ys.reverse = R := ⟨_, rfl⟩
    have hRl : R.length = ys.length := by rw [← hR, List.length_reverse]
    obtain ⟨L, hL⟩ : ∃ L, R ++ xs = L := ⟨_, rfl⟩
    have hLl : L.length ≤ 69 := by rw [← hL, List.length_append]; omega
    rw [hR] at HR4
    have HLL := Lib.hid (show ys.reverse ++ xs = L by rw [hR]; exact hL)
    have hLe : [R, xs].flatten = L := by simp [hL]
    have HRL := Lib.hid hRl
    have hbB := below_new w4 (.cells #[.slice ar R.length cr, .slice ad xs.length cap] 22)
    have cC := Concat_any (.slice (some ⟨w4.heap.size, 0, none⟩) 2 2) [.slice ar R.length cr, .slice ad xs.length cap] [R, xs] (w4.alloc (.cells #[.slice ar R.length cr, .slice ad xs.length cap] 22))
      ⟨_, 2, rfl, rfl, Nat.le_refl _, by simp [maxLen], by simp, fun a ha => by cases ha; exact ⟨rfl, _, 22, heap_alloc_new _ _, by simp, fun j hj => by simp⟩⟩ (Lib.hid rfl)
      (Lib.hid fun i u x hu hx => by
        match i with
        | 0 => simp at hu hx; subst hu hx; exact HR4.out.below hbB (Nat.le_refl _)
        | 1 => simp at hu hx; subst hu hx; exact HV4.out.below hbB (Nat.le_refl _)
        | i + 2 => simp at hu) (by simp) (by simp [pre]; omega)
    rw [hLe] at cC
    have hO4' := HO4.out
    rw [hR]
    clear hR hL hRl hLe HR4 HV4 HO4
    go_wp2_with fail
    refine cC.mono ?_
    rintro e w5 ⟨r5, rfl, ho5, hf5, hb5⟩
    have hB5 := (hB4.alloc hB4.size (.cells #[.slice ar R.length cr, .slice ad xs.length cap] 22)).trans (hb5.mono (Nat.le_trans hB4.size (by simp)))
    have hO5 : w5.ownsRow w3.heap.size 3 1 (.slice (some ⟨w3.heap.size, 0, none⟩) 0 xs.length) 0 [] := rowBelow (rowBelow hO4' hbB (Nat.le_refl _)) hb5 (Nat.le_refl _)
    have hf5' : ∀ g, r5.ownBlock = some g → w4.heap.size ≤ g := fun g hg => Nat.le_of_succ_le (by have := hf5 g hg; simpa using this)
    have hs5 := hB5.size
    have HO5 := Lib.hid ho5
    obtain ⟨a5, c5, hre5, hc5, _, _⟩ := ho5.shape
    subst hre5
    have hl5 := ho5.lt
    have HAP0 := Lib.hid (show ∀ g, (Value.slice a5 L.length c5).ownBlock = some g → (Value.slice (some ⟨w3.heap.size, 0, none⟩) 0 xs.length).ownBlock ≠ some g ∧ g < w5.heap.size from fun g hg => ⟨fun e => by have := hf5' g hg; simp [Value.ownBlock] at e; omega, hl5 g hg⟩)
    have HZ := Lib.hid (show w3.heap.size ≤ w5.heap.size from Nat.le_trans (Nat.le_of_lt hz4) (Nat.le_trans (by simp) hb5.size))
    clear cC hO4' hb5 hf5 ho5 hbB hB4 hf5' hl5 hf4
    go_wp2
    go_loopw [9, 11, 32] (fun o _ i wr => ∃ k : Nat, k ≤ L.length ∧ i = .int .i64 k ∧ Hid (wr.ownsRow w3.heap.size 3 1 o (ddL (L.take k)).length ((ddL (L.take k)).map iv)) ∧ OwnI wr (.slice a5 L.length c5) L ∧ Hid (∀ g, (Value.slice a5 L.length c5).ownBlock = some g → o.ownBlock ≠ some g ∧ g < wr.heap.size) ∧ Hid (w3.heap.size ≤ wr.heap.size) ∧ Below w.heap.size w wr) (fun _ _ i _ => L.length - (intOf i).toNat)
    case atStart => exact ⟨0, Nat.zero_le _, rfl, Lib.hid (by simpa [ddL] using hO5), HO5.out, HAP0, HZ, hB5⟩
    case round =>
      obtain ⟨k, hk, rfl, ho, hoL, hap, hzr, hbr⟩ := hrel
      clear hO5 HO5 HAP0 HZ hB5
      by_cases hlt : k < L.length
      · have HOL := Lib.hid hoL
        obtain ⟨g, off, rfl, hgl, hcell, hfz⟩ := hoL.at (by omega)
        have hck := hcell k (by omega)
        rw [List.getElem?_map, List.getElem?_eq_getElem hlt] at hck
        obtain ⟨b, hb⟩ : ∃ b, L[k] = b := ⟨_, rfl⟩
        have HS := Lib.hid (ddL_step L k hlt)
        rw [hb] at hck HS
        obtain ⟨D, hD⟩ : ∃ D, ddL (L.take k) = D := ⟨_, rfl⟩
        rw [hD] at ho HS
        have hDl : D.length ≤ 69 := by rw [← hD]; have := ddL_length (L.take k); rw [List.length_take] at this; omega
        have cH := ContainsI_any _ D b wr (Own.of_row ho.out).1 (by omega)
        have hsr := hbr.size
        clear hcell hfz hb hD hoL
        by_cases he : b ∈ D
        · have H := Lib.hid (show ddL (L.take (k + 1)) = D by rw [HS.out]; exact if_pos he)
          rw [decide_eq_true he] at cH
          clear he HS
          go_wp2_with fail
          refine (cH).mono ?_
          rintro e w6 ⟨rfl, hb6⟩
          have HO6 := Lib.hid (rowBelow ho.out hb6 (Nat.le_refl _))
          have hL6 := Own.same HOL.out hb6
          have hB6 := hbr.trans (hb6.mono hbr.size)
          have HA6 := Lib.hid (show ∀ q, (Value.slice (some ⟨g, off, none⟩) L.length c5).ownBlock = some q → u9.ownBlock ≠ some q ∧ q < w6.heap.size from fun q hq => ⟨(hap.out q hq).1, Nat.lt_of_lt_of_le (hap.out q hq).2 hb6.size⟩)
          have HZ6 := Lib.hid (Nat.le_trans hzr.out hb6.size)
          clear cH ho hb6 hbr hap HOL hck
          go_wp2
          go_roundw
          case rel => exact ⟨k + 1, by omega, by go_num, by rw [H.out]; exact HO6, hL6, HA6, HZ6, hB6⟩
          case measure => simp [intOf] <;> omega
        · have H := Lib.hid (show ddL (L.take (k + 1)) = D ++ [b] by rw [HS.out]; exact if_neg he)
          rw [decide_eq_false he] at cH
          clear he HS
          go_wp2_with fail
          refine (cH).mono ?_
          rintro e w6 ⟨rfl, hb6⟩
          have HO6 := Lib.hid (rowBelow (rowBelow ho.out hb6 (Nat.le_refl _)) (below_new w6 (.cells #[.int .i64 b] 3)) (Nat.le_refl _))
          have HL6 := Lib.hid ((Own.same HOL.out hb6).alloc (.cells #[.int .i64 b] 3))
          have hB6 := hbr.trans (hb6.mono hbr.size)
          have hs6 := hB6.size
          have HA6 := Lib.hid (show ∀ q, (Value.slice (some ⟨g, off, none⟩) L.length c5).ownBlock = some q → u9.ownBlock ≠ some q ∧ q < w6.heap.size from fun q hq => ⟨(hap.out q hq).1, Nat.lt_of_lt_of_le (hap.out q hq).2 hb6.size⟩)
          have HB6 := Lib.hid (hB6.alloc hs6 (.cells #[.int .i64 b] 3))
          have HZ6 := Lib.hid (Nat.le_trans hzr.out hb6.size)
          have HF6 := Lib.hid (show From w.heap.size u9 from (Own.of_row ho.out).2.mono hs3)
          have hz6 : w3.heap.size ≤ w6.heap.size + 1 := Nat.le_succ_of_le HZ6.out
          clear cH ho hb6 hbr hap HOL hck hB6
          go_wp2_with (at_builtin; refine wpList_append_lies _ rfl _ _ 22 rfl w3.heap.size 3 i1 _ 1 8 Try.underlying22 HJ.out HK0.out HK1.out HK2.out rfl (by omega) u9 D.length (D.map iv) rfl HO6.out _ 1 1 [.int .i64 b] rfl (by simp) (World.news_of_block (heap_alloc_new _ _)) (by simp [Value.oneCell']) (by omega) (by unfold maxLen; omega) (by omega) (by simp; exact hz6) (w6.heap.size + 1) (by simp) ?_)
          intro g7 cap7 w7 hown7 hgr7 hat7 hlt7
          have hL7 : OwnI w7 (.slice (some ⟨g, off, none⟩) L.length c5) L := Own.grown HL6.out hgr7 (fun q hq => (HA6.out q hq).1)
          have hB7 : Below w.heap.size w w7 := HB6.out.grown hgr7 (by simp; omega) (fun q hq => HF6.out q hq)
          have HO7 := Lib.hid (show w7.ownsRow w3.heap.size 3 1 (.slice (some ⟨g7, 0, none⟩) (D.length + 1) cap7) (ddL (L.take (k + 1))).length ((ddL (L.take (k + 1))).map iv) by
            rw [H.out, List.length_append, List.length_singleton, List.map_append]
            exact hown7)
          have hz7 : w6.heap.size + 1 ≤ w7.heap.size := by have := hgr7.size; simpa using this
          have HA7 := Lib.hid (show ∀ q, (Value.slice (some ⟨g, off, none⟩) L.length c5).ownBlock = some q → (Value.slice (some ⟨g7, 0, none⟩) (D.length + 1) cap7).ownBlock ≠ some q ∧ q < w7.heap.size from fun q hq => ⟨fun e => by
            simp only [Value.ownBlock, Option.some.injEq] at e
            subst e
            have h4 := HA6.out _ hq
            rcases hat7 with h | h
            · exact h4.1 h
            · omega, by have := (HA6.out q hq).2; omega⟩)
          have HZ7 := Lib.hid (show w3.heap.size ≤ w7.heap.size by omega)
          clear hown7 hgr7 hat7 hlt7 HL6 HA6 HB6
          go_wp2
          go_roundw
          case rel => exact ⟨k + 1, by omega, by go_num, HO7, hL7, HA7, HZ7, hB7⟩
          case measure => simp [intOf] <;> omega
      · obtain rfl : k = L.length := by omega
        rw [List.take_length] at ho
        have HRES := Lib.hid (show OwnI wr u9 (mLastAsked xs ys) by rw [HM.out]; unfold lastL; rw [HLL.out]; exact (Own.of_row ho.out).1)
        have hfr : From w.heap.size u9 := (Own.of_row ho.out).2.mono hs3
        clear ho hoL hap
        go_wp2
        go_ret2
        exact ⟨_, rfl, HRES.out, hfr, hbr⟩
  | false =>
    rw [hg] at cA
    have HM := Lib.hid (show mLastAsked xs ys = [] from if_neg (by rw [hg]; exact Bool.false_ne_true))
    clear hg
    go_enter Try.func46, Try.ntmps46
    go_wp2_with fail
    refine cA.mono ?_
    rintro e w1 ⟨rfl, hb1⟩
    clear cA hv hu
    go_wp2
    go_ret2
    exact ⟨_, rfl, by rw [HM.out]; exact OwnI.nil _, From.nil _ _ _, hb1⟩

end Go.Proofs.Ytieongcagkfedaa
