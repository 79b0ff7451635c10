import Derived.Test.YtdkidfilnbglgaaV30
import Derived.Test.YtdkidfilnbglgaaV25
import Derived.Test.YtdkidfilnbglgaaV18
import Derived.Test.YtdkidfilnbglgaaQB
import Derived.Test.YtdkidfilnbglgaaV19
import Derived.Test.YtdkidfilnbglgaaV27
import Derived.Test.YtdkidfilnbglgaaU4
import Derived.Deep.LoopGhost
namespace Go.Pan
open Go Go.RowKit
def partB (xs : List Int) (e : Int × Int × Int × Int) : Bool := decide ((cyclesL (exT xs e)).length = (cyclesL xs).length + 2)
def fstP (xs : List Int) : Int × Int × Int × Int := ((exAll xs.length).find? (partB xs)).getD (0, 0, 0, 0)
theorem fstP_spec {xs : List Int} (hg : Good xs) (hne : xs ≠ ramp 1 xs.length) : ∃ i : Nat, (exAll xs.length)[i]? = some (fstP xs) ∧ partB xs (fstP xs) = true ∧ ∀ (j : Nat) (e : Int × Int × Int × Int), j < i → (exAll xs.length)[j]? = some e → partB xs e = false := by
  obtain ⟨e, he, hp⟩ := parted_ex hg hne
  have hs : ((exAll xs.length).find? (partB xs)).isSome = true := List.find?_isSome.2 ⟨e, he, decide_eq_true hp⟩
  obtain ⟨b, hb⟩ := Option.isSome_iff_exists.1 hs
  have hf : fstP xs = b := by unfold fstP; rw [hb]; rfl
  obtain ⟨h1, i, hi, h2, h3⟩ := List.find?_eq_some_iff_getElem.1 hb
  rw [hf]
  refine ⟨i, by rw [List.getElem?_eq_getElem hi, h2], h1, fun j e' hj he' => ?_⟩
  have h4 := h3 j hj
  rw [List.getElem?_eq_getElem (by omega)] at he'
  have h5 : (exAll xs.length)[j]'(by omega) = e' := Option.some.inj he'
  rw [h5] at h4
  simpa using h4
/-- the exchanges, k of them at most -/
def e2s : Nat → List Int → List (Int × Int × Int × Int)
  | 0, _ => []
  | k + 1, xs => if sortedB xs = true then [] else fstP xs :: e2s k (exT xs (fstP xs))
def mExchangesToSort (xs : List Int) : List (Int × Int × Int × Int) := if goodB xs = true then e2s 12 xs else []
theorem e2s_len (k : Nat) (xs : List Int) : (e2s k xs).length ≤ k := by
  induction k generalizing xs with
  | zero => simp [e2s]
  | succ k ih =>
    unfold e2s
    split
    · simp
    · have := ih (exT xs (fstP xs)); simp; omega
theorem len_mExchangesToSort (xs : List Int) : (mExchangesToSort xs).length ≤ 1048576 := by
  unfold mExchangesToSort
  split
  · have := e2s_len 12 xs; omega
  · simp
theorem sorted_of_ramp (n : Nat) : sortedB (ramp 1 n) = true := by
  unfold sortedB
  refine decide_eq_true ?_
  exact sorted_ramp 1 n
/-- i exchanges have been made of xs, and led to q -/
structure EP (xs : List Int) (i : Nat) (q : List Int) (out : List (Int × Int × Int × Int)) : Prop where
  good : Good q
  len : q.length = xs.length
  cyc : (cyclesL q).length = (cyclesL xs).length + 2 * i
  whole : out ++ e2s (12 - i) q = e2s 12 xs
  ol : out.length = i
theorem EP.start {xs : List Int} (hg : Good xs) : EP xs 0 xs [] := ⟨hg, rfl, by omega, rfl, rfl⟩
theorem EP.le {xs q : List Int} {i : Nat} {out : List (Int × Int × Int × Int)} (h : EP xs i q out) : i ≤ 5 := by
  have h1 := cyclesL_length h.good
  have := h.cyc
  omega
theorem EP.next {xs q : List Int} {i : Nat} {out : List (Int × Int × Int × Int)} (h : EP xs i q out) (hs : sortedB q = false) : EP xs (i + 1) (exT q (fstP q)) (out ++ [fstP q]) := by
  have hne : q ≠ ramp 1 q.length := fun e => by rw [e, sorted_of_ramp] at hs; cases hs
  obtain ⟨j, h1, h2, h3⟩ := fstP_spec h.good hne
  have h9 := h.good.le9
  have hB : exB q.length (fstP q) = true := (exAll_B (by have := h.good.1; omega) h9).1 (List.mem_of_getElem? h1)
  have hl := h.le
  refine ⟨exT_good h.good hB, by rw [exT_length hB]; exact h.len, ?_, ?_, by simp [h.ol]⟩
  · have := of_decide_eq_true h2
    rw [this, h.cyc]; omega
  · have hw := h.whole
    rw [show 12 - i = (12 - (i + 1)) + 1 by omega, e2s, if_neg (by rw [hs]; exact Bool.false_ne_true)] at hw
    rw [← hw, List.append_assoc]
    rfl
theorem EP.done {xs q : List Int} {i : Nat} {out : List (Int × Int × Int × Int)} (h : EP xs i q out) (hs : sortedB q = true) : out = e2s 12 xs := by
  have hl := h.le
  have hw := h.whole
  rw [show 12 - i = (12 - (i + 1)) + 1 by omega, e2s, if_pos hs, List.append_nil] at hw
  exact hw

end Go.Pan

namespace Go.Proofs.Ytdkidfilnbglgaa
open Go Go.RowKit Go.Pan

theorem ownsRow_below {w w' : World} {B sz n N : Nat} {e : TypeId} {v : Value} {cs : List Value} (h : w.ownsRow B e sz v n cs) (hb : Below N w w') (hN : w.heap.size ≤ N) : w'.ownsRow B e sz v n cs := by
  refine h.kept (grown_of_below (hb.mono hN) none) ?_
  cases hv : v.ownBlock with
  | none => exact .inl rfl
  | some g => exact .inr (by simp)

set_option maxRecDepth 100000 in
set_option maxHeartbeats 8000000 in
theorem sExchangesToSort_any (v : Value) (xs : List Int) (w : World) (hv : OwnI w v xs) (hn : xs.length ≤ 1048576) :
    Calls Try.prog 70 #[v] w fun e w' => ∃ r, e = .returned (.tuple #[r, .bool (goodB xs)]) ∧ OwnC c4 w' r (mExchangesToSort xs) ∧ From w.heap.size r ∧ Below w.heap.size w w' := by
  obtain ⟨ad, cap, rfl, _, _, _⟩ := hv.shape
  have cg := stGood_any _ _ _ hv hn
  cases hg : goodB xs with
  | true =>
    have HM := Lib.hid (show mExchangesToSort xs = e2s 12 xs from if_pos hg)
    have hG := goodB_iff.1 hg
    have HP0 := Lib.hid (EP.start hG)
    have h9 := hG.le9
    have h1 := hG.1
    obtain ⟨i0, hi, hz0, hz1, hz2⟩ := info_parts infoExchange3
    have HI := Lib.hid hi
    have HZ0 := Lib.hid hz0
    have HZ1 := Lib.hid hz1
    have HZ2 := Lib.hid hz2
    rw [hg] at cg
    obtain ⟨m, hm⟩ : ∃ m, xs.length = m := ⟨_, rfl⟩
    rw [hm] at h9 h1 hv cg ⊢
    have HML := Lib.hid hm
    clear hg hG hi hz0 hz1 hz2 hm
    go_enter Try.func70, Try.ntmps70
    go_wp2_with fail
    refine (cg).mono ?_
    rintro e w1 ⟨rfl, hb⟩
    have hv1 := hv.same hb
    clear cg hv
    go_wp2
    go_loopw [0, 4, 5, 7, 8, 20, 21, 22] (fun v0 v4 _ _ _ _ _ _ wr => ∃ (i : Nat) (q : List Int) (out : List (Int × Int × Int × Int)) (qa : Option Addr) (qc : Nat), v0 = .slice qa m qc ∧ OwnI wr v0 q ∧ wr.ownsRow w.heap.size 101 4 v4 out.length (fl c4.c out) ∧ i ≤ 5 ∧ Hid (EP xs i q out) ∧ Below w.heap.size w wr ∧ (∀ g, v0.ownBlock = some g → v4.ownBlock ≠ some g) ∧ lenV v4 = i) (fun _ v4 _ _ _ _ _ _ _ => 6 - lenV v4)
    case atStart => exact ⟨0, xs, [], ad, cap, rfl, hv1, World.ownsRow_nil _ _ _ _, by omega, HP0, hb, (fun g _ h => by cases h), rfl⟩
    case round =>
      obtain ⟨i, q, out, qa, qc, rfl, hq, ho, hi5, hp, hbr, hap, hlv⟩ := hrel
      have hf := (Own.of_row ho).2
      clear HP0 hv1
      have hql : q.length = m := by rw [hp.out.len, HML.out]
      have hqm : q.length ≤ 1048576 := by omega
      have HGQ := Lib.hid hp.out.good
      obtain ⟨wo, hwo⟩ : ∃ x, wr = x := ⟨_, rfl⟩
      rw [hwo] at hq ho hbr ⊢
      clear hwo
      have cs := stSorted_any _ q wo hq hqm
      cases hs : sortedB q with
      | true =>
        rw [hs] at cs
        have HD := Lib.hid (hp.out.done hs)
        clear hs
        go_wp2_with fail
        refine cs.mono ?_
        rintro e w2 ⟨rfl, hb2⟩
        have HO := Lib.hid (show OwnC c4 w2 u4 (mExchangesToSort xs) by rw [HM.out, ← HD.out]; exact (Own.of_row (ownsRow_below ho hb2 (Nat.le_refl _))).1)
        go_wp2
        go_ret2
        exact ⟨_, rfl, HO.out, hf, hbr.trans (hb2.mono hbr.size)⟩
      | false =>
        rw [hs] at cs
        have HN := Lib.hid (hp.out.next hs)
        have hne : q ≠ ramp 1 q.length := fun e => by rw [e, sorted_of_ramp] at hs; cases hs
        have HF := Lib.hid (fstP_spec HGQ.out hne)
        have HIL := Lib.hid (hp.out.le)
        clear hs hne
        go_wp2_with fail
        refine cs.mono ?_
        rintro e w2 ⟨rfl, hb2⟩
        have hq2 := hq.same hb2
        have hB2 := hbr.trans (hb2.mono hbr.size)
        clear cs
        go_wp2_with fail
        refine (bkCycles_any _ q _ hq2 HGQ).mono ?_
        rintro e w3 ⟨rc, hsc, rfl, hSc, hb3⟩
        have hcl := hSc.len
        obtain ⟨ac, cc, rfl, _, _, _⟩ := hSc.own.shape
        rw [hcl]
        have hcb := cyclesL_length HGQ.out
        obtain ⟨zq, hzq⟩ : ∃ z, (cyclesL q).length = z := ⟨_, rfl⟩
        rw [hzq] at hcb ⊢
        have HZQ := Lib.hid hzq
        clear hzq
        have hq3 := hq2.same hb3
        have hB3 := hB2.trans (hb3.mono hB2.size)
        clear hSc hcl
        go_wp2_with fail
        refine (bkExchanges_any m _ h1 h9).mono ?_
        rintro e w4 ⟨rl, rfl, hol, hfl, hb4⟩
        obtain ⟨al, cl, rfl, _, _, _⟩ := hol.shape
        have hq4 : OwnI w4 (.slice qa m qc) q := hq3.same hb4
        have hB4 := hB3.trans (hb4.mono hB3.size)
        have ho4 := ownsRow_below (ownsRow_below (ownsRow_below ho hb2 (Nat.le_refl _)) hb3 (Nat.le_refl _)) hb4 (Nat.le_refl _)
        clear hq ho hbr hb2 hq2 hB2 hb3 hq3 hB3 hb4
        go_wp2
        obtain ⟨ik, hfi, hpf, hfirst⟩ := HF.out
        obtain ⟨L, hL⟩ : ∃ L, exAll m = L := ⟨_, rfl⟩
        have hLB := Lib.hid (show ∀ e ∈ L, exB m e = true from fun e he => (exAll_B h1 h9).1 (by rw [hL]; exact he))
        have HLI := Lib.hid hL
        rw [hql, hL] at hfi hfirst
        have hik : ik < L.length := (List.getElem?_eq_some_iff.1 hfi).1
        have HFI := Lib.hid hfi
        have HFR := Lib.hid hfirst
        have HPF := Lib.hid hpf
        rw [hL] at hol ⊢
        have HQN := Lib.hid (show ((q.length : Nat) : Int) = (m : Int) by omega)
        have hll : L.length ≤ 9000 := by rw [← hL]; have := exA_len (n := (m : Int)) (by omega) m; show (exA m m).length ≤ 9000; omega
        clear hL hfi hfirst hpf
        obtain ⟨wi, hwi⟩ : ∃ x, w4 = x := ⟨_, rfl⟩
        rw [hwi] at hol hq4 hB4 ho4 ⊢
        clear hwi
        have HO4 := Lib.hid ho4
        have HQ4 := Lib.hid hq4
        have HOL := Lib.hid hol
        have HFV := Lib.hid hf
        clear ho4 hq4 hol hf hfl
        go_loopw [0, 4, 7, 8, 22] (fun v0 v4 _ _ v22 wr => ∃ j : Nat, v0 = .slice qa m qc ∧ v4 = u4 ∧ v22 = .int .i64 j ∧ j ≤ ik ∧ Below wi.heap.size wi wr) (fun _ _ _ _ v22 _ => L.length - (intOf v22).toNat)
        case atStart => exact ⟨0, rfl, rfl, rfl, Nat.zero_le _, Below.refl _ _⟩
        case round =>
          obtain ⟨j, rfl, rfl, rfl, hjk, hbi⟩ := hrel
          have hjl : j < L.length := by omega
          have hji : (j : Int) < (L.length : Int) := by omega
          obtain ⟨tb, toff, hta, htl, hra⟩ := OwnC.rowAt (Own.same HOL.out hbi) hjl
          subst hta
          obtain ⟨e2, he2⟩ : ∃ q, L[j] = q := ⟨_, rfl⟩
          have HB2 := Lib.hid (show exB m e2 = true by rw [← he2]; exact hLB.out _ (List.getElem_mem hjl))
          have HJ := Lib.hid he2
          rw [he2] at hra
          have hra' : wr.rangeAt tb (toff + j * 4) [.int .i64 e2.1, .int .i64 e2.2.1, .int .i64 e2.2.2.1, .int .i64 e2.2.2.2] := hra
          have hszs : (Try.prog.info? 101).map (·.size) = some ([.int .i64 e2.1, .int .i64 e2.2.1, .int .i64 e2.2.2.1, .int .i64 e2.2.2.2] : List Value).length := infoExchange
          have hget : L[j]? = some e2 := by rw [List.getElem?_eq_getElem hjl, he2]
          have hGE := Lib.hid (exT_good HGQ.out HB2.out)
          have hGL := exT_length (xs := q) HB2.out
          have hqA := (Own.same HQ4.out hbi).alloc (.cells #[.int .i64 e2.1, .int .i64 e2.2.1, .int .i64 e2.2.2.1, .int .i64 e2.2.2.2] 101)
          have hzA : Blk (wr.alloc (.cells #[.int .i64 e2.1, .int .i64 e2.2.1, .int .i64 e2.2.2.1, .int .i64 e2.2.2.2] 101)) wr.heap.size 101 [.int .i64 e2.1, .int .i64 e2.2.1, .int .i64 e2.2.2.1, .int .i64 e2.2.2.2] := Blk.new wr _ _ _ rfl
          have hrz := hzA.range
          have hbA := hbi.alloc hbi.size (.cells #[.int .i64 e2.1, .int .i64 e2.2.1, .int .i64 e2.2.2.1, .int .i64 e2.2.2.2] 101)
          obtain ⟨WA, hWA⟩ : ∃ x, wr.alloc (.cells #[.int .i64 e2.1, .int .i64 e2.2.1, .int .i64 e2.2.2.1, .int .i64 e2.2.2.2] 101) = x := ⟨_, rfl⟩
          have HWA := Lib.hid hWA
          rw [hWA] at hqA hzA hrz hbA
          clear hWA he2 hra hbi
          go_wp2_with (first | (refine wpList_load_mid rfl 101 _ rfl tb (toff + j * 4) rfl [.int .i64 e2.1, .int .i64 e2.2.1, .int .i64 e2.2.2.1, .int .i64 e2.2.2.2] _ hra' Try.underlying101 rfl hszs ?_))
          rw [HWA.out]
          go_wp2_with (first | (refine wpList_load_mid rfl 101 _ rfl wr.heap.size 0 rfl [.int .i64 e2.1, .int .i64 e2.2.1, .int .i64 e2.2.2.1, .int .i64 e2.2.2.2] _ hrz Try.underlying101 rfl hszs ?_))
          refine (bkSwap_any _ q m e2 _ hqA hqm HB2 HQN).mono ?_
          rintro e w5 ⟨r5, rfl, ho5, hf5, hb5⟩
          have hbA5 := hbA.trans (hb5.mono hbA.size)
          have hzA5 := hzA.below hb5 hzA.lt
          obtain ⟨a5, c5, rfl, _, _, _⟩ := ho5.shape
          have hlm : (exT q e2).length = m := by omega
          replace ho5 : OwnI w5 (.slice a5 m c5) (exT q e2) := by rw [← hlm]; exact ho5
          have HLM := Lib.hid hlm
          have HF5 := Lib.hid hf5
          have HWAZ := Lib.hid hbA.size
          clear hqA hzA hrz hb5 hlm hf5
          go_wp2_with fail
          refine (bkCycles_any _ (exT q e2) _ ho5 hGE).mono ?_
          rintro e w6 ⟨rc6, hsc6, rfl, hSc6, hb6⟩
          have hcl6 := hSc6.len
          obtain ⟨ac6, cc6, rfl, _, _, _⟩ := hSc6.own.shape
          rw [hcl6]
          have ho6 := Own.same ho5 hb6
          have hzA6 := hzA5.below hb6 hzA5.lt
          have hrz6 := hzA6.range
          have hbA6 := hbA5.trans (hb6.mono hbA5.size)
          have hcb6 := cyclesL_length hGE.out
          have hs6 := hbA6.size
          clear hSc6 hcl6 hb6 ho5 hzA5
          by_cases hjE : j = ik
          · have hee : e2 = fstP q := by
              have h := HFI.out
              rw [← hjE, hget] at h
              exact Option.some.inj h
            have hpp : (cyclesL (exT q e2)).length = zq + 2 := by rw [hee, ← HZQ.out]; exact of_decide_eq_true HPF.out
            have HN2 := Lib.hid (show EP xs (i + 1) (exT q e2) (out ++ [e2]) by rw [hee]; exact HN.out)
            rw [hpp]
            have HR5 := Lib.hid (show OwnI w6 (.slice a5 m c5) (exT q e2) from ho6)
            have HRO := Lib.hid (ownsRow_below (ownsRow_below HO4.out hbA6 (Nat.le_refl _)) (below_new w6 (.cells #[.int .i64 e2.1, .int .i64 e2.2.1, .int .i64 e2.2.2.1, .int .i64 e2.2.2.2] 101)) (Nat.le_refl _))
            have HBA := Lib.hid ((hB4.trans (hbA6.mono hB4.size)).alloc (Nat.le_trans hB4.size hs6) (.cells #[.int .i64 e2.1, .int .i64 e2.2.1, .int .i64 e2.2.2.1, .int .i64 e2.2.2.2] 101))
            have HR6 := Lib.hid (HR5.out.alloc (.cells #[.int .i64 e2.1, .int .i64 e2.2.1, .int .i64 e2.2.2.1, .int .i64 e2.2.2.2] 101))
            have HRL := Lib.hid HR5.out.lt
            have HUL := Lib.hid (Own.of_row HO4.out).1.lt
            have hol5 : out.length ≤ 1048575 := by have h1 := (HN2.out).ol; have h2 := (HN2.out).le; rw [List.length_append, List.length_singleton] at h1; omega
            have hB4s := hB4.size
            have HFV' := HFV.out
            clear hee hjE hpp ho6 hzA6
            go_wp2_with (first | (refine wpList_load_mid rfl 101 _ rfl wr.heap.size 0 rfl [.int .i64 e2.1, .int .i64 e2.2.1, .int .i64 e2.2.2.1, .int .i64 e2.2.2.2] _ hrz6 Try.underlying101 rfl hszs ?_) | (refine wpList_build_quad Try.underlying57 HI.out HZ0.out rfl HZ1.out rfl _ rfl (.int .i64 e2.1) (.int .i64 e2.2.1) (.int .i64 e2.2.2.1) (.int .i64 e2.2.2.2) rfl ?_) | (at_builtin; refine wpList_append_lies _ rfl _ _ 57 rfl w.heap.size 101 i0 _ 4 32 Try.underlying57 HI.out HZ0.out HZ1.out HZ2.out rfl (by omega) u4 out.length (fl c4.c out) rfl HRO.out _ 1 1 [.int .i64 e2.1, .int .i64 e2.2.1, .int .i64 e2.2.2.1, .int .i64 e2.2.2.2] rfl (by simp) (World.news_of_block (heap_alloc_new _ _)) (by simp [Value.oneCell']) (by omega) (by unfold maxLen; omega) (by omega) (by simp; omega) (w6.heap.size + 1) (by simp) ?_))
            intro g7 cap7 w7 hown7 hgr7 hat7 hlt7
            have hb7 := HBA.out.grown hgr7 (by simp; omega) (fun b hb => HFV' b hb)
            have hsep : ∀ g, (Value.slice a5 m c5).ownBlock = some g → u4.ownBlock ≠ some g := fun g hg e => by
              have h1 := HF5.out g (by cases a5 <;> (simp [Value.ownBlock] at hg ⊢; try exact hg))
              have h2 := HUL.out g e
              have h3 := HWAZ.out
              omega
            have hq7 := HR6.out.grown hgr7 hsep
            have HQ7 := Lib.hid (show OwnI w7 (.slice a5 m c5) (exT q e2) from hq7)
            have hol7 : out.length = i := by have h1 := (HN2.out).ol; rw [List.length_append, List.length_singleton] at h1; omega
            have HRW := Lib.hid (show w7.ownsRow w.heap.size 101 4 (.slice (some ⟨g7, 0, none⟩) (out.length + 1) cap7) (out ++ [e2]).length (fl c4.c (out ++ [e2])) by
              rw [List.length_append, List.length_singleton, fl_append]
              exact hown7)
            have HAP := Lib.hid (show ∀ g, (Value.slice a5 m c5).ownBlock = some g → (Value.slice (some ⟨g7, 0, none⟩) (out.length + 1) cap7).ownBlock ≠ some g from fun g hg e => by
              simp only [Value.ownBlock, Option.some.injEq] at e
              subst e
              have h4 := HRL.out _ hg
              rcases hat7 with h | h
              · exact hsep _ hg h
              · omega)
            have hi6 := (HN2.out).le
            have hwq := hb7
            clear hown7 hgr7 hat7 hsep hq7
            go_wp2
            refine ⟨⟨i + 1, exT q e2, out ++ [e2], a5, c5, rfl, HQ7.out, HRW.out, hi6, HN2, hb7, HAP.out, ?_⟩, ?_⟩
            · show out.length + 1 = i + 1
              omega
            · show 6 - (out.length + 1) < 6 - lenV u4
              rw [hlv]
              omega
          · have hnp : partB q e2 = false := HFR.out j e2 (by omega) hget
            have hne2 : (cyclesL (exT q e2)).length ≠ zq + 2 := by rw [← HZQ.out]; exact of_decide_eq_false hnp
            obtain ⟨z1, hz1'⟩ : ∃ z, (cyclesL (exT q e2)).length = z := ⟨_, rfl⟩
            rw [hz1'] at hne2 hcb6 ⊢
            have hq7 : ((z1 : Int) == (zq : Int) + 2) = false := by rw [beq_eq_false_iff_ne]; omega
            clear hz1' hnp
            go_wp2
            go_roundw
            case rel => exact ⟨j + 1, rfl, rfl, by go_num, by omega, hbA6⟩
            case measure => simp [intOf] <;> omega
  | false =>
    have HM := Lib.hid (show mExchangesToSort xs = [] from if_neg (by rw [hg]; exact Bool.false_ne_true))
    rw [hg] at cg
    clear hg
    go_enter Try.func70, Try.ntmps70
    go_wp2_with fail
    refine (cg).mono ?_
    rintro e w1 ⟨rfl, hb⟩
    go_wp2
    go_ret2
    exact ⟨_, rfl, by rw [HM.out]; exact OwnC.nil _, From.nil _ _ _, hb⟩

end Go.Proofs.Ytdkidfilnbglgaa

namespace Go.Proofs.Ytdkidfilnbglgaa
open Go Go.RowKit Go.Pan

set_option maxHeartbeats 1600000 in
set_option maxRecDepth 100000 in
/-- 'slices.IndexFunc' over the closure of tower.parting: the first exchange of which it tells yes -/
theorem idxParting_any (v : Value) (L : List (Int × Int × Int × Int)) (pr : Int × Int × Int × Int → Bool) (ik : Nat) (e0 : Int × Int × Int × Int) (p0 p1 p2 : Value) (w : World) (hv : OwnC c4 w v L) (hl : L.length ≤ 9000)
    (hi : Hid (L[ik]? = some e0 ∧ pr e0 = true ∧ ∀ (j : Nat) (e : Int × Int × Int × Int), j < ik → L[j]? = some e → pr e = false))
    (hF : Hid (∀ (e : Int × Int × Int × Int) (W : World), e ∈ L → Below w.heap.size w W → Calls Try.prog 171 #[.agg #[.int .i64 e.1, .int .i64 e.2.1, .int .i64 e.2.2.1, .int .i64 e.2.2.2], p0, p1, p2] W fun r W' => r = .returned (.bool (pr e)) ∧ Below W.heap.size W W')) :
    Calls Try.prog 170 #[v, .func (Fn.func 171) #[] #[p0, p1, p2]] w fun e w' => e = .returned (.int .i64 ik) ∧ Below w.heap.size w w' := by
  obtain ⟨al, cl, rfl, _, _, _⟩ := hv.shape
  have hik : ik < L.length := (List.getElem?_eq_some_iff.1 hi.out.1).1
  have HOL := Lib.hid hv
  clear hv
  go_enter Try.func170, Try.ntmps170
  go_wp2
  go_loopw [8] (fun i wr => ∃ j : Nat, i = .int .i64 j ∧ j ≤ ik ∧ Below w.heap.size w wr) (fun i _ => L.length - (intOf i).toNat)
  case atStart => exact ⟨0, rfl, Nat.zero_le _, Below.refl _ _⟩
  case round =>
    obtain ⟨j, rfl, hjk, hbr⟩ := hrel
    have hjl : j < L.length := by omega
    have hji : (j : Int) < (L.length : Int) := by omega
    obtain ⟨tb, toff, hta, htl, hra⟩ := OwnC.rowAt (Own.same HOL.out hbr) hjl
    subst hta
    obtain ⟨e2, he2⟩ : ∃ q, L[j] = q := ⟨_, rfl⟩
    have cF := hF.out e2 wr (by rw [← he2]; exact List.getElem_mem hjl) hbr
    have hget : L[j]? = some e2 := by rw [List.getElem?_eq_getElem hjl, he2]
    rw [he2] at hra
    have hra' : wr.rangeAt tb (toff + j * 4) [.int .i64 e2.1, .int .i64 e2.2.1, .int .i64 e2.2.2.1, .int .i64 e2.2.2.2] := hra
    have hszs : (Try.prog.info? 101).map (·.size) = some ([.int .i64 e2.1, .int .i64 e2.2.1, .int .i64 e2.2.2.1, .int .i64 e2.2.2.2] : List Value).length := infoExchange
    by_cases hjE : j = ik
    · have hp : pr e2 = true := by
        have h := hi.out.1
        rw [← hjE, hget] at h
        cases h
        exact hi.out.2.1
      rw [hp] at cF
      have HJ := Lib.hid hjE
      clear he2 hra hp hget hjE
      go_wp2_with (first | (refine wpList_load_mid rfl 101 _ rfl tb (toff + j * 4) rfl [.int .i64 e2.1, .int .i64 e2.2.1, .int .i64 e2.2.2.1, .int .i64 e2.2.2.2] _ hra' Try.underlying101 rfl hszs ?_))
      refine cF.mono ?_
      rintro e w2 ⟨rfl, hb2⟩
      have hB2 := hbr.trans (hb2.mono hbr.size)
      clear cF
      go_wp2
      go_ret
      exact ⟨by rw [← HJ.out]; rfl, hB2⟩
    · have hp : pr e2 = false := hi.out.2.2 j e2 (by omega) hget
      rw [hp] at cF
      have hjk2 : j + 1 ≤ ik := by omega
      clear he2 hra hp hget hjE
      go_wp2_with (first | (refine wpList_load_mid rfl 101 _ rfl tb (toff + j * 4) rfl [.int .i64 e2.1, .int .i64 e2.2.1, .int .i64 e2.2.2.1, .int .i64 e2.2.2.2] _ hra' Try.underlying101 rfl hszs ?_))
      refine cF.mono ?_
      rintro e w2 ⟨rfl, hb2⟩
      have hB2 := hbr.trans (hb2.mono hbr.size)
      clear cF
      go_wp2
      go_roundw
      case rel => exact ⟨j + 1, by go_num, hjk2, hB2⟩
      case measure => simp [intOf] <;> omega

end Go.Proofs.Ytdkidfilnbglgaa

namespace Go.Proofs.Ytdkidfilnbglgaa
open Go Go.RowKit Go.Pan

set_option maxHeartbeats 1600000 in
set_option maxRecDepth 100000 in
/-- the closure of tower.parting: whether an exchange makes two cycles more -/
theorem partCl_any (q : List Int) (m z : Nat) (p : Int × Int × Int × Int) (b0 b1 b2 : Nat) (u : World) (h9 : q.length ≤ 9) (hg : Hid (Pan.Good q)) (hm : Hid (q.length = m)) (hp : Hid (exB m p = true)) (hB : b0 < u.heap.size ∧ b1 < u.heap.size ∧ b2 < u.heap.size)
    (hra : u.rangeAt b0 0 (twl q)) (hcn : u.cell? ⟨b1, 0, none⟩ = some (.int .i64 (m : Int))) (hcw : u.cell? ⟨b2, 0, none⟩ = some (.int .i64 (z : Int))) :
    Calls Try.prog 171 #[.agg #[.int .i64 p.1, .int .i64 p.2.1, .int .i64 p.2.2.1, .int .i64 p.2.2.2], .pointer (some ⟨b0, 0, none⟩), .pointer (some ⟨b1, 0, none⟩), .pointer (some ⟨b2, 0, none⟩)] u fun r w' => r = .returned (.bool (decide ((cyclesL (exT q p)).length = z))) ∧ Below u.heap.size u w' := by
  obtain ⟨hb0, hb1, hb2⟩ := hB
  have hpq : exB (q.length : Int) p = true := by rw [hm.out]; exact hp.out
  have hGL : (exT q p).length = m := by rw [exT_length hpq]; exact hm.out
  have hGE := Lib.hid (exT_good hg.out hpq)
  have C1 := Lib.hid (fun w2 : World => exchanged_any q (m : Int) p w2 h9 hp (Lib.hid (by rw [hm.out])))
  have C2 := Lib.hid (fun w2 : World => cycles_any (exT q p) w2 hGE)
  rw [hGL] at C2
  obtain ⟨W, hW⟩ : ∃ W, W = u.alloc (.cells #[.int .i64 p.1, .int .i64 p.2.1, .int .i64 p.2.2.1, .int .i64 p.2.2.2] 101) := ⟨_, rfl⟩
  have hz : Blk W u.heap.size 101 [.int .i64 p.1, .int .i64 p.2.1, .int .i64 p.2.2.1, .int .i64 p.2.2.2] := by rw [hW]; exact Blk.new u _ _ _ rfl
  have hbW : Below u.heap.size u W := by rw [hW]; exact below_new u _
  have hraW := range_below hra hbW hb0
  have hcnW := (hbW.cell (p := ⟨b1, 0, none⟩) hb1).trans hcn
  have hcwW := (hbW.cell (p := ⟨b2, 0, none⟩) hb2).trans hcw
  have hrz := hz.range
  have hzl := hz.lt
  have hut := Try.underlying69
  have hue := Try.underlying101
  have hsz : (Try.prog.info? 69).map (·.size) = some (twl q).length := by rw [Try.infoT, twl_length _ h9]
  have hsze : (Try.prog.info? 101).map (·.size) = some ([.int .i64 p.1, .int .i64 p.2.1, .int .i64 p.2.2.1, .int .i64 p.2.2.2] : List Value).length := infoExchange
  have HW := Lib.hid hW
  have hW0 : b0 < W.heap.size := Nat.lt_of_lt_of_le hb0 hbW.size
  have hW1 : b1 < W.heap.size := Nat.lt_of_lt_of_le hb1 hbW.size
  have hW2 : b2 < W.heap.size := Nat.lt_of_lt_of_le hb2 hbW.size
  clear hW hz hra hcn hcw hGL hpq
  go_enter Try.func171, Try.ntmps171
  go_wp2_with fail
  rw [show u.alloc (.cells #[.int .i64 p.1, .int .i64 p.2.1, .int .i64 p.2.2.1, .int .i64 p.2.2.2] 101) = W from HW.out.symm]
  refine wp_region_held_drew (S := fun w' => w'.rangeAt b0 0 (twl q) ∧ w'.cell? ⟨b1, 0, none⟩ = some (.int .i64 (m : Int)) ∧ w'.cell? ⟨b2, 0, none⟩ = some (.int .i64 (z : Int)) ∧ w'.rangeAt u.heap.size 0 [.int .i64 p.1, .int .i64 p.2.1, .int .i64 p.2.2.1, .int .i64 p.2.2.2]) (by kernel_rfl) ⟨hraW, hcnW, hcwW, hrz⟩ (fun hHeld => ?_)
  refine wpAnyH_take (i := 0) rfl (by kernel_rfl) (by kernel_rfl) (by kernel_rfl) (fun _ _ _ h => h) (yieldsIf_load_mid (by rfl) _ _ rfl _ _ rfl _ _ (fun w hw => hw.1) hut rfl hsz) (by assumption) ?_
  try simp only [List.getElem_toArray, List.getElem_cons_zero, Act.put, List.setIfInBounds_toArray, List.set_cons_zero, List.set_cons_succ]
  refine wpAnyH_take (i := 1) rfl (by kernel_rfl) (by kernel_rfl) (by kernel_rfl) (fun _ _ _ h => h) (yieldsIf_load_mid (by rfl) _ _ rfl _ _ rfl _ _ (fun w hw => hw.2.2.2) hue rfl hsze) (by assumption) ?_
  try simp only [List.getElem_toArray, List.getElem_cons_zero, Act.put, List.setIfInBounds_toArray, List.set_cons_zero, List.set_cons_succ]
  refine wpAnyH_take (i := 3) (v := .int .i64 (m : Int)) rfl (by kernel_rfl) (by kernel_rfl) (by kernel_rfl) (fun _ _ _ h => h) (Or.inl ⟨by rfl, ?_⟩) (by assumption) ?_
  · intro w hSw
    have hSc := hSw.2.1
    clear hSw
    (go_simp <;> with_reducible rfl)
  try simp only [List.getElem_toArray, List.getElem_cons_zero, List.getElem_cons_succ, Act.put, List.setIfInBounds_toArray, List.set_cons_zero, List.set_cons_succ]
  refine wpAnyH_take (i := 6) (v := .int .i64 (z : Int)) rfl (by kernel_rfl) (by kernel_rfl) (by kernel_rfl) (fun _ _ _ h => h) (Or.inl ⟨by rfl, ?_⟩) (by assumption) ?_
  · intro w hSw
    have hSc := hSw.2.2.1
    clear hSw
    (go_simp <;> with_reducible rfl)
  try simp only [List.getElem_toArray, List.getElem_cons_zero, List.getElem_cons_succ, Act.put, List.setIfInBounds_toArray, List.set_cons_zero, List.set_cons_succ]
  refine wpAnyH_ready (rs := [2]) (by kernel_rfl) (by simp) ?_
  refine AllReadyH.cons rfl (fun K hK => ?_) AllReadyH.nil
  go_simp
  refine (C1.out _).mono ?_
  rintro e w2 ⟨rfl, hb2'⟩
  go_wp2_with fail
  refine hK.out _ _ (⟨range_below hHeld.1 hb2' hW0, (hb2'.cell (p := ⟨b1, 0, none⟩) hW1).trans hHeld.2.1, (hb2'.cell (p := ⟨b2, 0, none⟩) hW2).trans hHeld.2.2.1, range_below hHeld.2.2.2 hb2' hzl⟩) (fun hHeld => ?_)
  clear hK K
  have hX0 : b0 < w2.heap.size := Nat.lt_of_lt_of_le hW0 hb2'.size
  have hX1 : b1 < w2.heap.size := Nat.lt_of_lt_of_le hW1 hb2'.size
  have hX2 : b2 < w2.heap.size := Nat.lt_of_lt_of_le hW2 hb2'.size
  have hX3 : u.heap.size < w2.heap.size := Nat.lt_of_lt_of_le hzl hb2'.size
  have hB2 := hbW.drew.trans (hb2'.mono hbW.size)
  try simp only [List.getElem_toArray, List.getElem_cons_zero, List.getElem_cons_succ, Act.put, List.setIfInBounds_toArray, List.set_cons_zero, List.set_cons_succ]
  refine wpAnyH_ready (rs := [4]) (by kernel_rfl) (by simp) ?_
  refine AllReadyH.cons rfl (fun K hK => ?_) AllReadyH.nil
  go_simp
  refine (C2.out _).mono ?_
  rintro e w3 ⟨rc, hsc, rfl, hSc, hb3'⟩
  go_wp2_with fail
  refine hK.out _ _ (⟨range_below hHeld.1 hb3' hX0, (hb3'.cell (p := ⟨b1, 0, none⟩) hX1).trans hHeld.2.1, (hb3'.cell (p := ⟨b2, 0, none⟩) hX2).trans hHeld.2.2.1, range_below hHeld.2.2.2 hb3' hX3⟩) (fun hHeld => ?_)
  clear hK K
  have hB3 := hB2.trans (hb3'.mono hB2.size)
  try simp only [List.getElem_toArray, List.getElem_cons_zero, List.getElem_cons_succ, Act.put, List.setIfInBounds_toArray, List.set_cons_zero, List.set_cons_succ]
  obtain ⟨ac, cc, rfl⟩ := ss_shape hSc
  obtain ⟨y, hy⟩ : ∃ y, (cyclesL (exT q p)).length = y := ⟨_, rfl⟩
  have HY := Lib.hid hy
  rw [hy]
  clear hSc hy
  refine wpAnyH_take (i := 5) (v := .int .i64 (y : Int)) rfl (by kernel_rfl) (by kernel_rfl) (by kernel_rfl) (fun _ _ _ h => h) (Or.inl ⟨by rfl, ?_⟩) (by assumption) ?_
  · intro w _; (go_simp <;> with_reducible rfl)
  try simp only [List.getElem_toArray, List.getElem_cons_zero, List.getElem_cons_succ, Act.put, List.setIfInBounds_toArray, List.set_cons_zero, List.set_cons_succ]
  refine wpAnyH_take (i := 7) (v := .bool ((y : Int) == (z : Int))) rfl (by kernel_rfl) (by kernel_rfl) (by kernel_rfl) (fun _ _ _ h => h) (Or.inl ⟨by rfl, ?_⟩) (by assumption) ?_
  · intro w _; (go_simp <;> with_reducible rfl)
  try simp only [List.getElem_toArray, List.getElem_cons_zero, List.getElem_cons_succ, Act.put, List.setIfInBounds_toArray, List.set_cons_zero, List.set_cons_succ]
  refine wpAnyH_take (i := 8) (v := .bool ((y : Int) == (z : Int))) rfl (by kernel_rfl) (by kernel_rfl) (by kernel_rfl) (fun _ _ _ h => h) (Or.inl ⟨by rfl, ?_⟩) (by assumption) ?_
  · intro w _; (go_simp <;> with_reducible rfl)
  try simp only [List.getElem_toArray, List.getElem_cons_zero, List.getElem_cons_succ, Act.put, List.setIfInBounds_toArray, List.set_cons_zero, List.set_cons_succ]
  refine wpAnyH_done (by kernel_rfl) ?_ _
  have HE := Lib.hid (show ((y : Int) == (z : Int)) = decide (y = z) by rw [Bool.eq_iff_iff]; simp only [beq_iff_eq, decide_eq_true_eq]; omega)
  go_wp2
  go_ret
  exact ⟨by rw [HY.out, ← HE.out]; rfl, hB3⟩

end Go.Proofs.Ytdkidfilnbglgaa

namespace Go.Proofs.Ytdkidfilnbglgaa
open Go Go.RowKit Go.Pan

set_option maxHeartbeats 1600000 in
set_option maxRecDepth 100000 in
theorem parting_any (q : List Int) (m : Nat) (w : World) (hg : Hid (Pan.Good q)) (hm : Hid (q.length = m)) (hne : Hid (q ≠ ramp 1 q.length)) (h1 : 1 ≤ m) (h9 : m ≤ 9) :
    Calls Try.prog 134 #[tw q, .int .i64 m] w fun e w' => e = .returned (.agg #[.int .i64 (fstP q).1, .int .i64 (fstP q).2.1, .int .i64 (fstP q).2.2.1, .int .i64 (fstP q).2.2.2]) ∧ Below w.heap.size w w' := by
  have HF := Lib.hid (fstP_spec hg.out hne.out)
  obtain ⟨e2, he2⟩ : ∃ e, fstP q = e := ⟨_, rfl⟩
  rw [he2]
  have HE2 := Lib.hid he2
  clear he2
  have hq9 : q.length ≤ 9 := by rw [hm.out]; exact h9
  have cC := fun W => cycles_any q W hg
  rw [hm.out] at cC
  have CC := Lib.hid cC
  obtain ⟨W, hW⟩ : ∃ W, W = (((w.alloc (.cells (twl q).toArray 69)).alloc (.cells #[.int .i64 (m : Int)] 3)).alloc (.cells #[.int .i64 0, .int .i64 0, .int .i64 0, .int .i64 0] 101)) := ⟨_, rfl⟩
  have hbx : Blk W w.heap.size 69 (twl q) := by rw [hW]; exact ((Blk.new w _ (twl q) _ rfl).alloc _).alloc _
  have hbn : Blk W (w.heap.size + 1) 3 [.int .i64 (m : Int)] := by rw [hW]; exact (Blk.new _ _ [.int .i64 (m : Int)] _ (by simp)).alloc _
  have hz : Blk W (w.heap.size + 2) 101 [.int .i64 0, .int .i64 0, .int .i64 0, .int .i64 0] := by rw [hW]; exact Blk.new _ _ [.int .i64 0, .int .i64 0, .int .i64 0, .int .i64 0] _ (by simp)
  have hb0 : Below w.heap.size w W := by rw [hW]; exact (((Below.refl _ _).alloc (Nat.le_refl _) _).alloc (by simp) _).alloc (by simp <;> omega) _
  have hWs : W.heap.size = w.heap.size + 3 := by rw [hW]; simp
  have hcn : W.cell? ⟨w.heap.size + 1, 0, none⟩ = some (.int .i64 (m : Int)) := hbn.cell 0
  have HW := Lib.hid hW
  have HWS := Lib.hid hWs
  clear hW hWs cC
  go_enter Try.func134, Try.ntmps134
  go_upto_region 1 with fail
  rw [← HW.out]
  go_wp2_with (first | (refine wpList_load_tower rfl _ rfl w.heap.size q hq9 rfl hbx ?_))
  refine (CC.out W).mono ?_
  rintro e w1 ⟨rc, hsc, rfl, hSc, hb1⟩
  have hbx1 := hbx.below hb1 hbx.lt
  have hbn1 := hbn.below hb1 hbn.lt
  have hz1 := hz.below hb1 hz.lt
  have hB1 := hb0.trans (hb1.mono hb0.size)
  obtain ⟨ac, cc, rfl⟩ := ss_shape hSc
  have hcl := cyclesL_length hg.out
  obtain ⟨z, hzz⟩ : ∃ z, (cyclesL q).length = z := ⟨_, rfl⟩
  rw [hzz] at hcl ⊢
  have HZ := Lib.hid hzz
  have hw1s : w.heap.size + 3 ≤ w1.heap.size := by have := HWS.out; have := hb1.size; omega
  obtain ⟨W2, hW2⟩ : ∃ W2, W2 = w1.alloc (.cells #[.int .i64 ((z : Int) + 2)] 3) := ⟨_, rfl⟩
  have hb2 : Below w1.heap.size w1 W2 := by rw [hW2]; exact below_new w1 _
  have hbx2 := hbx1.below hb2 hbx1.lt
  have hbn2 := hbn1.below hb2 hbn1.lt
  have hz2 := hz1.below hb2 hz1.lt
  have hbw2 : Blk W2 w1.heap.size 3 [.int .i64 ((z + 2 : Nat) : Int)] := by rw [hW2, Int.natCast_add]; exact Blk.new w1 _ _ _ rfl
  have hB2 := hB1.trans (hb2.mono hB1.size)
  have hcn2 : (w1.alloc (.cells #[.int .i64 ((z : Int) + 2)] 3)).cell? ⟨w.heap.size + 1, 0, none⟩ = some (.int .i64 (m : Int)) := by rw [← hW2]; exact hbn2.cell 0
  have HW2 := Lib.hid hW2
  have hz99 : z ≤ 1000 := by omega
  clear hSc hb1 hbx hbn hz hcn hzz hb0 hb2 hbx1 hbn1 hz1 hB1 hW2 hcl
  go_wp2_with fail
  rw [← HW2.out]
  refine (exchangesFor_any m W2 h1 h9).mono ?_
  rintro e w3 ⟨r3, rfl, ho3, hf3, hb3⟩
  obtain ⟨a3, c3, rfl, _, _, _⟩ := ho3.shape
  have hbx3 := hbx2.below hb3 hbx2.lt
  have hbn3 := hbn2.below hb3 hbn2.lt
  have hz3 := hz2.below hb3 hz2.lt
  have hbw3 := hbw2.below hb3 hbw2.lt
  have hB3 := hB2.trans (hb3.mono hB2.size)
  obtain ⟨ik, hfi, hpf, hfirst⟩ := HF.out
  rw [hm.out] at hfi hfirst
  rw [HE2.out] at hfi hpf
  have hlen : (exAll m).length ≤ 9000 := by have := exA_len (n := (m : Int)) (by omega) m; show (exA m m).length ≤ 9000; omega
  have hpr : ∀ e, partB q e = decide ((cyclesL (exT q e)).length = z + 2) := fun e => by unfold partB; rw [HZ.out]
  have CI := Lib.hid (idxParting_any _ (exAll m) (fun e => decide ((cyclesL (exT q e)).length = z + 2)) ik e2 (.pointer (some ⟨w.heap.size, 0, none⟩)) (.pointer (some ⟨w.heap.size + 1, 0, none⟩)) (.pointer (some ⟨w1.heap.size, 0, none⟩)) w3 ho3 hlen
    (Lib.hid ⟨hfi, by rw [← hpr]; exact hpf, fun j e hj he => by rw [← hpr]; exact hfirst j e hj he⟩)
    (Lib.hid fun e W he hbW => partCl_any q m (z + 2) e w.heap.size (w.heap.size + 1) w1.heap.size W hq9 hg hm (Lib.hid ((exAll_B h1 h9).1 he)) ⟨Nat.lt_of_lt_of_le hbx3.lt hbW.size, Nat.lt_of_lt_of_le hbn3.lt hbW.size, Nat.lt_of_lt_of_le hbw3.lt hbW.size⟩
      (hbx3.below hbW hbx3.lt).range ((hbn3.below hbW hbn3.lt).cell 0) ((hbw3.below hbW hbw3.lt).cell 0)))
  have HO3 := Lib.hid ho3
  have HFI := Lib.hid hfi
  have hik : ik < (exAll m).length := (List.getElem?_eq_some_iff.1 hfi).1
  have HIK := Lib.hid hik
  have hki : (ik : Int) < ((exAll m).length : Int) := by omega
  clear hpf hfirst hpr hfi hbx2 hbn2 hz2 hbw2 hcn2 hB2 hb3 hf3 ho3
  go_wp2_with fail
  refine CI.out.mono ?_
  rintro e w4 ⟨rfl, hb4⟩
  have hz4 := hz3.below hb4 hz3.lt
  have hB4 := hB3.trans (hb4.mono hB3.size)
  obtain ⟨tb, toff, hta, htl, hra⟩ := OwnC.rowAt (Own.same HO3.out hb4) hik
  subst hta
  have he0 : (exAll m)[ik]'hik = e2 := by
    have h := HFI.out
    rw [List.getElem?_eq_getElem hik] at h
    exact Option.some.inj h
  rw [he0] at hra
  have hra' : w4.rangeAt tb (toff + ik * 4) [.int .i64 e2.1, .int .i64 e2.2.1, .int .i64 e2.2.2.1, .int .i64 e2.2.2.2] := hra
  have hszs : (Try.prog.info? 101).map (·.size) = some ([.int .i64 e2.1, .int .i64 e2.2.1, .int .i64 e2.2.2.1, .int .i64 e2.2.2.2] : List Value).length := infoExchange
  clear hra he0 hb4 hbx3 hbn3 hbw3 hz3 hB3 CI
  go_wp2_with (first | (refine wpList_load_mid rfl 101 _ rfl tb (toff + ik * 4) rfl [.int .i64 e2.1, .int .i64 e2.2.1, .int .i64 e2.2.2.1, .int .i64 e2.2.2.2] _ hra' Try.underlying101 rfl hszs ?_) | (refine wpList_store_blk rfl 101 _ _ rfl (w.heap.size + 2) 0 [.int .i64 e2.1, .int .i64 e2.2.1, .int .i64 e2.2.2.1, .int .i64 e2.2.2.2] rfl rfl _ _ hz4 (by simp) hszs (by intro u hu; simp at hu; rcases hu with rfl | rfl | rfl | rfl <;> rfl) ?_; intro w5 hz5 hg5))
  have hB5 := hB4.grown hg5 hB4.size (fun k hk => by cases hk; omega)
  have hz5' : Blk w5 (w.heap.size + 2) 101 [.int .i64 e2.1, .int .i64 e2.2.1, .int .i64 e2.2.2.1, .int .i64 e2.2.2.2] := by simpa using hz5
  clear hz5 hg5
  go_wp2
  exact bodyPost_ret (results_cell_row rfl _ _ (w.heap.size + 2) 101 _ _ _ rfl hz5' Try.underlying101 rfl infoExchange) rfl ⟨rfl, hB5⟩

end Go.Proofs.Ytdkidfilnbglgaa

namespace Go.Proofs.Ytdkidfilnbglgaa
open Go Go.RowKit Go.Pan

theorem ClipEx_any (v : Value) (l : List (Int × Int × Int × Int)) (w : World) (hv : OwnC c4 w v l) :
    Calls Try.prog 136 #[v] w fun e w' => ∃ r, e = .returned r ∧ OwnC c4 w r l ∧ r.ownBlock = v.ownBlock ∧ w = w' := by
  obtain ⟨ad, cap, rfl, hc, hm, hnil⟩ := hv.shape
  go_enter Try.func136, Try.ntmps136
  go_wp2
  go_ret
  exact ⟨.slice ad l.length l.length, rfl, Own.clipN hv, by cases ad <;> rfl, rfl⟩

set_option maxHeartbeats 4000000 in
set_option maxRecDepth 100000 in
theorem ExchangesToSort_any (v : Value) (xs : List Int) (w : World) (hv : OwnI w v xs) (hn : xs.length ≤ 1048576) :
    Calls Try.prog 71 #[v] w fun e w' => ∃ r, e = .returned (.tuple #[r, .bool (goodB xs)]) ∧ OwnC c4 w' r (mExchangesToSort xs) ∧ From w.heap.size r ∧ Below w.heap.size w w' := by
  have c := IsStack_any v xs w hv hn
  obtain ⟨ad, cap, rfl, hcc, _, _⟩ := hv.shape
  cases hg : goodB xs with
  | true =>
    have HM := Lib.hid (show mExchangesToSort xs = e2s 12 xs from if_pos hg)
    have hG := goodB_iff.1 hg
    have HP0 := Lib.hid (EP.start hG)
    have h9 := hG.le9
    have h1 := hG.1
    have HG := Lib.hid hG
    rw [hg] at c
    obtain ⟨i0, hi0, hz0, hz1, hz2⟩ := info_parts infoExchange3
    have HI := Lib.hid hi0
    have HZ0 := Lib.hid hz0
    have HZ1 := Lib.hid hz1
    have HZ2 := Lib.hid hz2
    obtain ⟨n, hn'⟩ : ∃ n, xs.length = n := ⟨_, rfl⟩
    have HNN := Lib.hid hn'
    have hV := Lib.hid hv
    rw [hn'] at c h9 h1 hcc ⊢
    have hdi : (n : Int).tdiv 2 = ((n / 2 : Nat) : Int) := by rw [Int.tdiv_eq_ediv_of_nonneg (by omega)]; omega
    obtain ⟨d, hd'⟩ : ∃ d : Nat, n / 2 = d := ⟨_, rfl⟩
    rw [hd'] at hdi
    have hd9 : d ≤ 9 := by omega
    clear hg hG hi0 hz0 hz1 hz2 hn' hv hd'
    go_enter Try.func71, Try.ntmps71
    go_wp2_with fail
    refine c.mono ?_
    rintro e w1 ⟨rfl, hb1⟩
    have hv1 : OwnI w1 (.slice ad n cap) xs := by unfold OwnI; rw [HNN.out]; have h := Own.same hV.out hb1; rw [HNN.out] at h; exact h
    clear c
    go_wp2_with fail
    refine (towerOf_any _ xs w1 hv1 (by rw [HNN.out]; exact h9)).mono ?_
    rintro e w2 ⟨rfl, hb2⟩
    have hB2 := hb1.trans (hb2.mono hb1.size)
    have hz0 : Blk (w2.alloc (.cells (twl []).toArray 69)) w2.heap.size 69 (twl []) := Blk.new w2 _ (twl []) _ rfl
    have hB20 := hB2.alloc hB2.size (.cells (twl []).toArray 69)
    have hs2 := hB2.size
    have hx9 : xs.length ≤ 9 := by rw [HNN.out]; exact h9
    clear hv1 hb1 hb2 hB2
    go_upto_region 5 with (first | (refine wpList_store_tower rfl _ _ rfl w2.heap.size [] xs (by simp) hx9 rfl rfl hz0 ?_; intro w3 hbT3 hgr3))
    have hB3 := hB20.grown hgr3 hB20.size (by intro k hk; cases hk; exact hs2)
    obtain ⟨bx, hbx⟩ : ∃ x, w2.heap.size = x := ⟨_, rfl⟩
    rw [hbx] at hbT3 hs2 ⊢
    have hz3 : bx < w3.heap.size := hbT3.lt
    clear hz0 hB20 hgr3
    go_wp2_with (at_make; refine wpList_make_own _ rfl _ _ 57 rfl w.heap.size 101 i0 _ 4 Try.underlying57 HI.out HZ0.out HZ1.out _ _ _ d rfl rfl ?b0 ?b1 ?b2 ?b3 ?_)
    case b0 => first | rfl | exact hdi | (simp; omega)
    case b1 => rw [HZ2.out]; omega
    case b2 => unfold maxLen; omega
    case b3 => exact hB3.size
    intro w4 hown4 hgr4
    have hm4 : OwnC c4 w4 _ [] := (Own.of_row hown4).1
    have hmb4 : From w3.heap.size (Value.slice (some ⟨w3.heap.size, 0, none⟩) 0 d) := From.at _ _ _ _ _ (Nat.le_refl _)
    have hbT4 := hbT3.grown hgr4 (by simp)
    have hB4 := hB3.grown hgr4 hB3.size (by intro k hk; cases hk)
    have HB0 := Lib.hid (show bx < w3.heap.size from hz3)
    have HS2 := Lib.hid hs2
    have HZ34 := Lib.hid (show w3.heap.size ≤ w4.heap.size from hgr4.size)
    have hB34 : w.heap.size ≤ w3.heap.size := hB3.size
    have hut := Try.underlying69
    clear hown4 hgr4 hbT3 hB3 hz3
    go_wp2
    go_loopg [6, 7] 12 (fun gk o _ wr => ∃ (i : Nat) (q : List Int) (out : List (Int × Int × Int × Int)), i + gk = 12 ∧ Blk wr bx 69 (twl q) ∧ OwnC c4 wr o out ∧ From w3.heap.size o ∧ Hid (EP xs i q out) ∧ Below w.heap.size w wr ∧ Hid (w3.heap.size ≤ wr.heap.size))
    case atStart => exact ⟨0, xs, [], rfl, hbT4, hm4, hmb4, HP0, hB4, HZ34⟩
    case round =>
      obtain ⟨i, q, out, hgk, hbT, ho, hf, hp, hbr, hws⟩ := hrel
      clear hbT4 hm4 hmb4 hB4
      have HGK := Lib.hid hgk
      have hi5 := Lib.hid hp.out.le
      have HGY := Lib.hid hp.out.good
      have hly : q.length = n := by rw [hp.out.len, HNN.out]
      have HY := Lib.hid hly
      have hly9 : q.length ≤ 9 := by omega
      have hs9 : (twl q).length = 9 := twl_length _ hly9
      have hsz : (Try.prog.info? 69).map (·.size) = some (twl q).length := by rw [Try.infoT, hs9]
      have heq := tower_eq q (ramp 1 n) hly9 (by rw [ramp_length]; exact hly)
      have hlT := hbT.lt
      have hra := hbT.range
      have hsr := hbr.size
      obtain ⟨ado, capo, rfl, _⟩ := ho.shape
      clear hgk hs9 hly
      by_cases hsort : q = ramp 1 n
      · have hde : decide (q = ramp 1 n) = true := decide_eq_true hsort
        have HD := Lib.hid (hp.out.done (by rw [hsort]; exact sorted_of_ramp n))
        rw [hde] at heq
        clear hsort hde
        go_wp2_with fail
        refine wp_region_held_drew (S := (fun w' => w'.rangeAt bx 0 (twl q))) (by kernel_rfl) (hra) (fun hHeld => ?_)
        refine wpAnyH_take (i := 0) rfl (by kernel_rfl) (by kernel_rfl) (by kernel_rfl) (fun _ _ _ h => h) (yieldsIf_load_mid (by rfl) _ _ rfl _ _ rfl _ _ (fun w hw => hw) hut rfl hsz) (by assumption) ?_
        refine wpAnyH_take (i := 1) (v := ?_) rfl (by kernel_rfl) (by kernel_rfl) (by kernel_rfl) (fun _ _ _ h => h) (Or.inl ⟨by rfl, ?_⟩) (by assumption) ?_
        rotate_left
        · intro w _; go_simp; with_reducible rfl
        refine wpAnyH_ready (rs := [2]) (by kernel_rfl) (by simp) ?_
        refine AllReadyH.cons rfl (fun K hK => ?_) AllReadyH.nil
        go_simp
        refine (sortedTower_any _ _ h9).mono ?_
        rintro e w6 ⟨rfl, hb6⟩
        go_wp2_with fail
        refine hK.out _ _ (range_below hHeld hb6 hlT) (fun hHeld => ?_)
        clear hK K
        refine wpAnyH_take (i := 3) (v := ?_) rfl (by kernel_rfl) (by kernel_rfl) (by kernel_rfl) (fun _ _ _ h => h) (Or.inl ⟨by rfl, ?_⟩) (by assumption) ?_
        rotate_left
        · intro w _; go_simp; with_reducible rfl
        refine wpAnyH_done (by kernel_rfl) ?_ _
        have ho6 : OwnC c4 w6 _ out := Own.same (Own.drew ho) hb6
        have hB6 := hbr.drew.trans (hb6.mono hbr.size)
        clear ho hra hbT
        go_wp2_with fail
        refine (ClipEx_any _ _ _ ho6).mono ?_
        rintro e w7 ⟨r, rfl, hor, hrb, rfl⟩
        have hfr : From w.heap.size r := fun b hb => by have := hf b (by rw [← hrb]; exact hb); omega
        have HOR := Lib.hid (show OwnC c4 w6 r (mExchangesToSort xs) by rw [HM.out, ← HD.out]; exact hor)
        clear hrb hor
        go_wp2
        go_ret2
        exact ⟨_, rfl, HOR.out, hfr, hB6⟩
      · have hde : decide (q = ramp 1 n) = false := decide_eq_false hsort
        have hsort2 : q ≠ ramp 1 q.length := by rw [HY.out]; exact hsort
        have hsF : sortedB q = false := by rw [sortedB_eq HGY.out]; exact decide_eq_false hsort2
        have HNX := Lib.hid (hp.out.next hsF)
        have HNE := Lib.hid hsort2
        have HB := Lib.hid (show exB (n : Int) (fstP q) = true by
          obtain ⟨j, hj, _, _⟩ := fstP_spec HGY.out hsort2
          rw [HY.out] at hj
          exact (exAll_B h1 h9).1 (List.mem_of_getElem? hj))
        have cP := fun W => parting_any q n W HGY HY HNE h1 h9
        obtain ⟨e2, he2⟩ : ∃ e, fstP q = e := ⟨_, rfl⟩
        rw [he2] at cP HNX HB
        have CP := Lib.hid cP
        rw [hde] at heq
        clear hsort hde hsort2 hsF cP he2
        go_wp2_with fail
        refine wp_region_held_drew (S := (fun w' => w'.rangeAt bx 0 (twl q))) (by kernel_rfl) (hra) (fun hHeld => ?_)
        refine wpAnyH_take (i := 0) rfl (by kernel_rfl) (by kernel_rfl) (by kernel_rfl) (fun _ _ _ h => h) (yieldsIf_load_mid (by rfl) _ _ rfl _ _ rfl _ _ (fun w hw => hw) hut rfl hsz) (by assumption) ?_
        refine wpAnyH_take (i := 1) (v := ?_) rfl (by kernel_rfl) (by kernel_rfl) (by kernel_rfl) (fun _ _ _ h => h) (Or.inl ⟨by rfl, ?_⟩) (by assumption) ?_
        rotate_left
        · intro w _; go_simp; with_reducible rfl
        refine wpAnyH_ready (rs := [2]) (by kernel_rfl) (by simp) ?_
        refine AllReadyH.cons rfl (fun K hK => ?_) AllReadyH.nil
        go_simp
        refine (sortedTower_any _ _ h9).mono ?_
        rintro e w6 ⟨rfl, hb6⟩
        go_wp2_with fail
        refine hK.out _ _ (range_below hHeld hb6 hlT) (fun hHeld => ?_)
        clear hK K
        refine wpAnyH_take (i := 3) (v := ?_) rfl (by kernel_rfl) (by kernel_rfl) (by kernel_rfl) (fun _ _ _ h => h) (Or.inl ⟨by rfl, ?_⟩) (by assumption) ?_
        rotate_left
        · intro w _; go_simp; with_reducible rfl
        refine wpAnyH_done (by kernel_rfl) ?_ _
        have ho6 : OwnC c4 w6 _ out := Own.same (Own.drew ho) hb6
        have hbT6 := (hbT.drew).below hb6 hlT
        have hB6 := hbr.drew.trans (hb6.mono hbr.size)
        have hws6 : w3.heap.size ≤ w6.heap.size := Nat.le_trans hws.out hb6.size
        clear ho hra hbT hb6 hbr heq
        go_wp2_with (first | (refine wpList_load_tower rfl _ rfl bx q hly9 rfl hbT6 ?_))
        refine (CP.out w6).mono ?_
        rintro e w7 ⟨rfl, hb7⟩
        have ho7 : OwnC c4 w7 _ out := Own.same ho6 hb7
        have hbT7 := hbT6.below hb7 hbT6.lt
        have hB7 := hB6.trans (hb7.mono hB6.size)
        have hws7 : w3.heap.size ≤ w7.heap.size := Nat.le_trans hws6 hb7.size
        have hzM : Blk (w7.alloc (.cells #[.int .i64 0, .int .i64 0, .int .i64 0, .int .i64 0] 101)) w7.heap.size 101 [.int .i64 0, .int .i64 0, .int .i64 0, .int .i64 0] := Blk.new w7 _ [.int .i64 0, .int .i64 0, .int .i64 0, .int .i64 0] _ rfl
        have hB70 := hB7.alloc hB7.size (.cells #[.int .i64 0, .int .i64 0, .int .i64 0, .int .i64 0] 101)
        have hbT70 := hbT7.alloc (.cells #[.int .i64 0, .int .i64 0, .int .i64 0, .int .i64 0] 101)
        have ho70 : OwnC c4 _ _ out := Own.alloc ho7 (.cells #[.int .i64 0, .int .i64 0, .int .i64 0, .int .i64 0] 101)
        have hlt7 := ho7.lt
        have hbx7 : bx < w7.heap.size := hbT7.lt
        have hw7 := hB7.size
        have hszs : (Try.prog.info? 101).map (·.size) = some ([.int .i64 e2.1, .int .i64 e2.2.1, .int .i64 e2.2.2.1, .int .i64 e2.2.2.2] : List Value).length := infoExchange
        clear ho6 hbT6 hB6 hb7 hws6
        go_upto_region 8 with (first | (refine wpList_store_blk rfl 101 _ _ rfl w7.heap.size 0 [.int .i64 e2.1, .int .i64 e2.2.1, .int .i64 e2.2.2.1, .int .i64 e2.2.2.2] rfl rfl _ _ hzM (by simp) hszs (by intro u hu; simp at hu; rcases hu with rfl | rfl | rfl | rfl <;> rfl) ?_; intro w8 hM8 hg8))
        have hM8' : Blk w8 w7.heap.size 101 [.int .i64 e2.1, .int .i64 e2.2.1, .int .i64 e2.2.2.1, .int .i64 e2.2.2.2] := by simpa using hM8
        have hbT8 := hbT70.grown hg8 (by simp; omega)
        have ho8 : OwnC c4 w8 (.slice ado out.length capo) out := Own.grown ho70 hg8 (fun g hg e => by have := hlt7 g hg; cases e; omega)
        have hB8 := hB70.grown hg8 hB70.size (fun g e => by cases e; exact hw7)
        have hws8 : w3.heap.size ≤ w8.heap.size := by have := hg8.size; simp at this; omega
        have hmb8 : w7.heap.size < w8.heap.size := hM8'.lt
        obtain ⟨mb, hmb⟩ : ∃ x, w7.heap.size = x := ⟨_, rfl⟩
        rw [hmb] at hM8' hlt7 hbx7 hmb8 hws7 hw7 ⊢
        clear hzM hB70 hbT70 ho70 hg8 hbT7 ho7 hB7 hmb hM8
        have hl1 : out.length ≤ 1048576 := by have := hp.out.ol; have := hi5.out; omega
        have hsrc := Src.quad (p := e2) (Blk.new w8 101 [iv e2.1, iv e2.2.1, iv e2.2.2.1, iv e2.2.2.2] _ rfl)
        have hoa : OwnC c4 (w8.alloc (.cells #[.int .i64 e2.1, .int .i64 e2.2.1, .int .i64 e2.2.2.1, .int .i64 e2.2.2.2] 101)) (.slice ado out.length capo) out := Own.alloc ho8 _
        have hbn := (below_new w8 (.cells #[.int .i64 e2.1, .int .i64 e2.2.1, .int .i64 e2.2.2.1, .int .i64 e2.2.2.2] 101)).mono hws8
        have hM8a := hM8'.alloc (.cells #[.int .i64 e2.1, .int .i64 e2.2.1, .int .i64 e2.2.2.1, .int .i64 e2.2.2.2] 101)
        have hbT8a := hbT8.alloc (.cells #[.int .i64 e2.1, .int .i64 e2.2.1, .int .i64 e2.2.2.1, .int .i64 e2.2.2.2] 101)
        have hrM := hM8'.range
        have hB8a := hB8.alloc hB8.size (.cells #[.int .i64 e2.1, .int .i64 e2.2.1, .int .i64 e2.2.2.1, .int .i64 e2.2.2.2] 101)
        have hz8a : w3.heap.size ≤ (w8.alloc (.cells #[.int .i64 e2.1, .int .i64 e2.2.1, .int .i64 e2.2.2.1, .int .i64 e2.2.2.2] 101)).heap.size := by simp; omega
        have HF := Lib.hid hf
        go_upto_region 9 with (first | (refine wpList_load_mid rfl 101 _ rfl mb 0 rfl [.int .i64 e2.1, .int .i64 e2.2.1, .int .i64 e2.2.2.1, .int .i64 e2.2.2.2] _ hrM Try.underlying101 rfl hszs ?_) | (refine wpList_build_quad Try.underlying57 HI.out HZ0.out rfl HZ1.out rfl _ rfl (.int .i64 e2.1) (.int .i64 e2.2.1) (.int .i64 e2.2.2.1) (.int .i64 e2.2.2.2) rfl ?_) | (at_builtin; refine wpList_appC exSl (by omega) (by omega) rfl _ _ rfl (.slice ado out.length capo) out rfl hoa w3.heap.size HF.out (some ⟨w8.heap.size, 0, none⟩) 1 1 [e2] rfl rfl hsrc w8 hbn hz8a hl1 (by simp) ?_; intro v9 w9 ho9 hf9 hb9 hg9))
        have hM9 := hM8a.grown hg9 (fun e => by have := hlt7 mb e; omega)
        have hbT9 := hbT8a.grown hg9 (fun e => by have := HF.out bx e; have := HB0.out; omega)
        have hB9 := hB8a.grown hg9 hB8a.size (fun g e => by have := HF.out g e; omega)
        have hws9 : w3.heap.size ≤ w9.heap.size := Nat.le_trans hws8 hb9.size
        have hrM9 := hM9.range
        have HO9 := Lib.hid ho9
        clear hsrc hoa hbn hM8a hbT8a hB8a hz8a hM8' hbT8 ho8 hB8 ho9 hg9 hb9 hrM hf hM9
        go_wp2_with (first | (refine wpList_load_tower rfl _ rfl bx q hly9 rfl hbT9 ?_) | (refine wpList_load_mid rfl 101 _ rfl mb 0 rfl [.int .i64 e2.1, .int .i64 e2.2.1, .int .i64 e2.2.2.1, .int .i64 e2.2.2.2] _ hrM9 Try.underlying101 rfl hszs ?_))
        refine (exchanged_any q (n : Int) e2 w9 hly9 HB (Lib.hid (by rw [HY.out]))).mono ?_
        rintro e w10 ⟨rfl, hb10⟩
        have hbT10 := hbT9.below hb10 hbT9.lt
        have HO10 := Lib.hid (HO9.out.below hb10 (Nat.le_refl _))
        have hB10 := hB9.trans (hb10.mono hB9.size)
        have hws10 := Nat.le_trans hws9 hb10.size
        have hi9 : (exT q e2).length ≤ 9 := by rw [exT_length (show exB (q.length : Int) e2 = true by rw [HY.out]; exact HB.out)]; exact hly9
        obtain ⟨s2, hs2'⟩ : ∃ x, exT q e2 = x := ⟨_, rfl⟩
        rw [hs2'] at hi9 HNX ⊢
        clear hbT9 hB9 hb10 hws9 hs2'
        go_wp2_with (first | (refine wpList_store_tower rfl _ _ rfl bx q s2 hly9 hi9 rfl rfl hbT10 ?_; intro w11 hbT11 hg11))
        have HO11 := Lib.hid (show OwnC c4 w11 v9 (out ++ [e2]) from Own.grown HO10.out hg11 (fun g hg e => by have := hf9 g hg; cases e; have := HB0.out; omega))
        have hB11 := hB10.grown hg11 hB10.size (fun g e => by cases e; exact HS2.out)
        have hws11 := Lib.hid (Nat.le_trans hws10 hg11.size)
        have HFV := Lib.hid hf9
        clear hbT10 hB10 hg11 hws10 hf9
        go_roundg (gk - 1)
        case measure => have := HGK.out; have := hi5.out; omega
        case rel => exact ⟨i + 1, s2, out ++ [e2], by have := HGK.out; have := hi5.out; omega, hbT11, HO11.out, HFV.out, HNX, hB11, hws11⟩
  | false =>
    have HM := Lib.hid (show mExchangesToSort xs = [] from if_neg (by rw [hg]; exact Bool.false_ne_true))
    rw [hg] at c
    clear hg
    go_enter Try.func71, Try.ntmps71
    go_wp2_with fail
    refine c.mono ?_
    rintro e w1 ⟨rfl, hb⟩
    clear c
    go_wp2
    go_ret2
    exact ⟨_, rfl, by rw [HM.out]; exact OwnC.nil _, From.nil _ _ _, hb⟩
end Go.Proofs.Ytdkidfilnbglgaa
