import Derived.Test.YtfbadpabefdleaaV6
import Derived.Test.YtfbadpabefdleaaQ3
namespace Go.Proofs.Ytfbadpabefdleaa
open Go Go.RowKit Go.Pan

theorem ClipS_any (v : Value) (l : List (Int × Int)) (w : World) (hv : OwnC c2 w v l) :
    Calls Try.prog 104 #[v] w fun e w' => ∃ r, e = .returned r ∧ OwnC c2 w r l ∧ r.ownBlock = v.ownBlock ∧ w = w' := by
  obtain ⟨ad, cap, rfl, hc, hm, hnil⟩ := hv.shape
  go_enter Try.func104, Try.ntmps104
  go_wp2
  go_ret
  exact ⟨.slice ad l.length l.length, rfl, Own.clipN hv, by cases ad <;> rfl, rfl⟩

set_option maxHeartbeats 1600000 in
set_option maxRecDepth 100000 in
theorem SegmentsOfPlan_any (n : Int) (v : Value) (xs : List Int) (w : World) (hv : OwnI w v xs) (hn : xs.length ≤ 1048576) :
    Calls Try.prog 72 #[.int .i64 n, v] w fun e w' => ∃ r, e = .returned (.tuple #[r, .bool (planB n xs)]) ∧ OwnC c2 w' r (mSegmentsOfPlan n xs) ∧ From w.heap.size r ∧ Below w.heap.size w w' := by
  obtain ⟨ad, cap, rfl, hc, _, _⟩ := hv.shape
  obtain ⟨i0, hi, hz0, hz1, hz2⟩ := info_parts infoSegment3
  have HI := Lib.hid hi
  have HZ0 := Lib.hid hz0
  have HZ1 := Lib.hid hz1
  have HZ2 := Lib.hid hz2
  clear hi hz0 hz1 hz2
  have cg := IsPlan_any n _ _ _ hv hn
  cases hg : planB n xs with
  | true =>
    have HM := Lib.hid (show mSegmentsOfPlan n xs = (noOne xs).map fun k => ((1 : Int), k) from if_pos hg)
    have hno := noOne_length xs
    rw [hg] at cg
    clear hg
    go_enter Try.func72, Try.ntmps72
    go_wp2_with fail
    refine (cg).mono ?_
    rintro e w1 ⟨rfl, hb⟩
    go_wp2_with fail
    refine (planOf_any _ _ _ (hv.same hb) hn).mono ?_
    rintro e w2 ⟨r2, rfl, ho2, hf2, hb2⟩
    obtain ⟨ad2, cap2, rfl, hc2, _, _⟩ := ho2.shape
    obtain ⟨P, hP⟩ : ∃ P, noOne xs = P := ⟨_, rfl⟩
    rw [hP] at HM hno ho2 hc2 ⊢
    clear hP
    have hB2 := hb.trans (hb2.mono hb.size)
    have hs2 := hB2.size
    go_wp2_with (at_make; refine wpList_make_full _ rfl _ _ 49 rfl w2.heap.size 41 i0 _ 2 Try.underlying49 HI.out HZ0.out HZ1.out _ _ _ _ P.length rfl rfl rfl rfl ?b1 ?b2 ?b3 ?_)
    case b1 => rw [HZ2.out]; omega
    case b2 => unfold maxLen; omega
    case b3 => exact Nat.le_refl _
    intro w3 hown hgr
    have hb3 := (Blk.of_rowN hown).1
    have hB3 := hB2.grown hgr hs2 (by intro k hk; cases hk)
    have ho3 : OwnI w3 (.slice ad2 P.length cap2) P := ho2.grown hgr (by intro g hg e; cases e)
    have hs3 : w2.heap.size < w3.heap.size := hb3.lt
    have HLT := Lib.hid (Own.lt ho2)
    obtain ⟨l, hl⟩ : ∃ l, (P.map fun k => ((1 : Int), k)) = l := ⟨_, rfl⟩
    have hll : l.length = P.length := by rw [← hl, List.length_map]
    have HGET := Lib.hid (show ∀ k (h : k < P.length) (h' : k < l.length), l[k] = ((1 : Int), P[k]) by intro k h h'; subst hl; rw [List.getElem_map])
    rw [hl] at HM
    have hP9 : P.length ≤ 1048576 := by omega
    have hz3 : Blk w3 w2.heap.size 41 (fl c2.c (l.take 0) ++ List.replicate ((l.length - 0) * 2) (iv 0)) := by
      have e := madeCells_zero 2 (P.length * 2) (by omega)
      rw [List.take_zero, hll, Nat.sub_zero]
      rw [show (#[Value.int .i64 0, Value.int .i64 0] : Array Value) = (List.replicate 2 (iv 0)).toArray from rfl, e] at hb3
      exact hb3
    have HLL := Lib.hid hll
    clear hl hll hb3 hown hgr hB2 hb hb2 ho2 hf2 cg hv
    go_wp2
    go_loopw [8, 9, 21] (fun _ _ i wr => ∃ k : Nat, k ≤ P.length ∧ i = .int .i64 k ∧ Blk wr w2.heap.size 41 (fl c2.c (l.take k) ++ List.replicate ((l.length - k) * 2) (iv 0)) ∧ OwnI wr (.slice ad2 P.length cap2) P ∧ Below w.heap.size w wr) (fun _ _ i _ => P.length - (intOf i).toNat)
    case atStart => exact ⟨0, by omega, by go_num, hz3, ho3, hB3⟩
    case round =>
      obtain ⟨k, hk, rfl, hbl, hov, hbr⟩ := hrel
      clear hz3 ho3 hB3
      by_cases hlt : k < P.length
      · obtain ⟨g, off, rfl, hgl, hcell, _⟩ := hov.at (by omega)
        have hck := hcell k (by omega)
        rw [List.getElem?_map, List.getElem?_eq_getElem hlt] at hck
        have hkl : k < l.length := by have := HLL.out; omega
        have hge := HGET.out k hlt hkl
        obtain ⟨x, hx⟩ : ∃ x, P[k] = x := ⟨_, rfl⟩
        rw [hx] at hck hge
        have hck' : wr.cell? ⟨g, off + k, none⟩ = some (.int .i64 x) := hck
        have HSTEP := Lib.hid (fl_step c2 l k hkl)
        have hsz2 : (Try.prog.info? 41).map (·.size) = some ([.int .i64 1, .int .i64 x] : List Value).length := infoSegment
        have hfit : k * 2 + ([.int .i64 1, .int .i64 x] : List Value).length ≤ (fl c2.c (l.take k) ++ List.replicate ((l.length - k) * 2) (iv 0)).length := by
          have := HLL.out
          rw [List.length_append, fl_length c2, List.length_take, List.length_replicate]
          simp only [List.length_cons, List.length_nil]
          omega
        have HFIT := Lib.hid hfit
        have HGE := Lib.hid (show c2.c l[k] = [.int .i64 1, .int .i64 x] by rw [hge]; rfl)
        clear hcell hck hx hfit hge
        go_wp2_with (first | (refine wpList_store_blk rfl _ _ _ rfl w2.heap.size (k * 2) [.int .i64 1, .int .i64 x] (by first | rfl | simp) rfl _ _ hbl HFIT.out hsz2 (by intro v hv; simp at hv; rcases hv with rfl | rfl <;> rfl) ?_; intro w5 hbl5 hgr5))
        have hb5 : Blk w5 w2.heap.size 41 (fl c2.c (l.take (k + 1)) ++ List.replicate ((l.length - (k + 1)) * 2) (iv 0)) := by
          rw [← HSTEP.out, HGE.out]; exact hbl5
        have ho5 := hov.grown hgr5 (by intro g hg e; have := HLT.out g hg; cases e; omega)
        have hB5 := hbr.grown hgr5 hbr.size (by intro j hj; cases hj; exact hs2)
        clear hbl5 hgr5 hbl hbr hov
        go_roundw
        case rel => exact ⟨k + 1, by omega, by go_num, hb5, ho5, hB5⟩
        case measure => simp [intOf] <;> omega
      · obtain rfl : k = P.length := by omega
        have HO := Lib.hid (show OwnC c2 wr (.slice (some ⟨w2.heap.size, 0, none⟩) P.length P.length) (mSegmentsOfPlan n xs) by
          have e := HLL.out
          have h := hbl
          rw [← e, List.take_length, Nat.sub_self, Nat.zero_mul, List.replicate_zero, List.append_nil] at h
          rw [HM.out]
          exact OwnC.of_blk h e.symm (by unfold maxLen; omega))
        clear hbl
        go_wp2
        go_ret2
        exact ⟨_, rfl, HO.out, From.at _ _ _ _ _ (by omega), hbr⟩
  | false =>
    have HM := Lib.hid (show mSegmentsOfPlan n xs = [] from if_neg (by rw [hg]; exact Bool.false_ne_true))
    rw [hg] at cg
    clear hg
    go_enter Try.func72, Try.ntmps72
    go_wp2_with fail
    refine (cg).mono ?_
    rintro e w1 ⟨rfl, hb⟩
    go_wp2
    go_ret2
    exact ⟨_, rfl, by rw [HM.out]; exact OwnC.nil _, From.nil _ _ _, hb⟩
end Go.Proofs.Ytfbadpabefdleaa
