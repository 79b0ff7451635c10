import Derived.Test.YtajdlioojibmdaaS1
import Derived.Test.YtajdlioojibmdaaI1
import Derived.Test.YtajdlioojibmdaaQ6
import Derived.Test.YtajdlioojibmdaaS2
import Derived.Test.YtajdlioojibmdaaV2
import Derived.Test.YtajdlioojibmdaaTEx
import Derived.Test.YtajdlioojibmdaaSl
namespace Go.Proofs.Ytajdlioojibmdaa
open Go Go.RowKit Go.Pan

theorem touching_any (b : Int × Int × Int) (w : World) :
    Calls Try.prog 92 #[.agg #[.int .i64 b.1, .int .i64 b.2.1, .int .i64 b.2.2]] w fun r w' => r = .returned (.agg #[.int .i64 (touchL b).1, .int .i64 (touchL b).2.1, .int .i64 (touchL b).2.2.1, .int .i64 (touchL b).2.2.2]) ∧ Below w.heap.size w w' := by
  go_enter Try.func92, Try.ntmps92
  go_wp2
  exact bodyPost_ret (v := .agg #[.int .i64 (touchL b).1, .int .i64 (touchL b).2.1, .int .i64 (touchL b).2.2.1, .int .i64 (touchL b).2.2.2]) (by simp [results, Try.results92, go_sem, touchL] <;> exact (IntWalk.i64_left _).symm) rfl ⟨rfl, ((Below.refl _ _).alloc (Nat.le_refl _) _).alloc (by simp) _⟩

end Go.Proofs.Ytajdlioojibmdaa

namespace Go.Pan
open Go Go.RowKit
-- what the functions return
def okBk (xs : List Int) (b : Int × Int × Int) : Bool := goodB xs && bkB xs.length b
def okEx (xs : List Int) (e : Int × Int × Int × Int) : Bool := goodB xs && exB xs.length e
def mMoveBlock (xs : List Int) (b : Int × Int × Int) : List Int := if okBk xs b = true then bkT xs b else []
def mExchangeBlocks (xs : List Int) (e : Int × Int × Int × Int) : List Int := if okEx xs e = true then exT xs e else []
theorem len_mMoveBlock (xs : List Int) (b : Int × Int × Int) : (mMoveBlock xs b).length ≤ 1048576 := by
  unfold mMoveBlock
  split
  · rename_i h
    simp only [okBk, Bool.and_eq_true, goodB_iff] at h
    rw [bkT_length h.2]; have := h.1.le9; omega
  · simp
theorem len_mExchangeBlocks (xs : List Int) (e : Int × Int × Int × Int) : (mExchangeBlocks xs e).length ≤ 1048576 := by
  unfold mExchangeBlocks
  split
  · rename_i h
    simp only [okEx, Bool.and_eq_true, goodB_iff] at h
    rw [exT_length h.2]; have := h.1.le9; omega
  · simp
theorem okEx_touch (xs : List Int) (b : Int × Int × Int) : okEx xs (touchL b) = okBk xs b := by unfold okEx okBk; rw [touch_B]
theorem mEx_touch (xs : List Int) (b : Int × Int × Int) : mExchangeBlocks xs (touchL b) = mMoveBlock xs b := by
  unfold mExchangeBlocks mMoveBlock
  rw [okEx_touch]
  split
  · rename_i h
    simp only [okBk, Bool.and_eq_true] at h
    exact touch_T h.2 xs
  · rfl

end Go.Pan

namespace Go.Proofs.Ytajdlioojibmdaa
open Go Go.RowKit Go.Pan

set_option maxHeartbeats 4000000 in
set_option maxRecDepth 100000 in
theorem bkSwap_any (v : Value) (xs : List Int) (n : Int) (p : Int × Int × Int × Int) (w : World) (hv : OwnI w v xs) (hn : xs.length ≤ 1048576) (hp : Hid (exB n p = true)) (hl : Hid ((xs.length : Int) = n)) :
    Calls Try.prog 112 #[v, .agg #[.int .i64 p.1, .int .i64 p.2.1, .int .i64 p.2.2.1, .int .i64 p.2.2.2]] w fun e w' => ∃ r, e = .returned r ∧ OwnI w' r (exT xs p) ∧ From w.heap.size r ∧ Below w.heap.size w w' := by
  have hB := exB_iff.1 hp.out
  have hln := hl.out
  obtain ⟨p0, p1, p2, p3⟩ := p
  simp only at hB
  obtain ⟨a, rfl⟩ : ∃ a : Nat, p0 = (a : Int) + 1 := ⟨(p0 - 1).toNat, by omega⟩
  obtain ⟨b, rfl⟩ : ∃ b : Nat, p1 = (b : Int) := ⟨(p1).toNat, by omega⟩
  obtain ⟨c, rfl⟩ : ∃ c : Nat, p2 = (c : Int) + 1 := ⟨(p2 - 1).toNat, by omega⟩
  obtain ⟨d, rfl⟩ : ∃ d : Nat, p3 = (d : Int) := ⟨(p3).toNat, by omega⟩
  have hab : a + 1 ≤ b ∧ b ≤ c ∧ c + 1 ≤ d ∧ d ≤ xs.length := by omega
  have hE : exT xs ((a : Int) + 1, (b : Int), (c : Int) + 1, (d : Int)) = xs.take a ++ (xs.take d).drop c ++ (xs.take c).drop b ++ (xs.take b).drop a ++ xs.drop d := by
    unfold exT exL
    simp only
    rw [show ((a : Int) + 1 - 1).toNat = a by omega, show ((c : Int) + 1 - 1).toNat = c by omega, Int.toNat_natCast, Int.toNat_natCast]
  obtain ⟨ad0, cap, rfl, hc, _, _⟩ := hv.shape
  obtain ⟨g, off, had, hgl, _, _⟩ := hv.at (by omega)
  subst had
  have HR0 := Lib.hid (fun W => run_toI xs.length cap a (some ⟨g, off, none⟩) (by omega) W)
  obtain ⟨aB, cB, hfB, hoB⟩ := sub_some (ad := ⟨g, off, none⟩) (cap := cap) (l := c) (h := d) (q := xs) (by omega) (by omega) (by omega)
  have hlB : ((xs.take d).drop c).length ≤ xs.length := by rw [List.length_drop, List.length_take]; omega
  have hkB : ((xs.take d).drop c).length = d - c := by rw [List.length_drop, List.length_take]; omega
  obtain ⟨aM, cM, hfM, hoM⟩ := sub_some (ad := ⟨g, off, none⟩) (cap := cap) (l := b) (h := c) (q := xs) (by omega) (by omega) (by omega)
  have hlM : ((xs.take c).drop b).length ≤ xs.length := by rw [List.length_drop, List.length_take]; omega
  have hkM : ((xs.take c).drop b).length = c - b := by rw [List.length_drop, List.length_take]; omega
  obtain ⟨aA, cA, hfA, hoA⟩ := sub_some (ad := ⟨g, off, none⟩) (cap := cap) (l := a) (h := b) (q := xs) (by omega) (by omega) (by omega)
  have hlA : ((xs.take b).drop a).length ≤ xs.length := by rw [List.length_drop, List.length_take]; omega
  have hkA : ((xs.take b).drop a).length = b - a := by rw [List.length_drop, List.length_take]; omega
  obtain ⟨aD, cD, hfD, hoD⟩ := from_some (ad := ⟨g, off, none⟩) (cap := cap) (n := d) (q := xs) (by omega)
  have hlD : (xs.drop d).length ≤ xs.length := by rw [List.length_drop]; omega
  have hkD : (xs.drop d).length = xs.length - d := by rw [List.length_drop]
  have htl : (xs.take a).length = a := by rw [List.length_take]; omega
  obtain ⟨T, hT⟩ : ∃ T, xs.take a = T := ⟨_, rfl⟩
  rw [hT] at hE htl
  obtain ⟨LB, hLB⟩ : ∃ T, (xs.take d).drop c = T := ⟨_, rfl⟩
  rw [hLB] at hfB hoB hlB hkB hE
  obtain ⟨LM, hLM⟩ : ∃ T, (xs.take c).drop b = T := ⟨_, rfl⟩
  rw [hLM] at hfM hoM hlM hkM hE
  obtain ⟨LA, hLA⟩ : ∃ T, (xs.take b).drop a = T := ⟨_, rfl⟩
  rw [hLA] at hfA hoA hlA hkA hE
  obtain ⟨LD, hLD⟩ : ∃ T, xs.drop d = T := ⟨_, rfl⟩
  rw [hLD] at hfD hoD hlD hkD hE
  have HE := Lib.hid hE
  obtain ⟨W, hW⟩ : ∃ W, W = w.alloc (.cells #[.int .i64 ((a : Int) + 1), .int .i64 (b : Int), .int .i64 ((c : Int) + 1), .int .i64 (d : Int)] 58) := ⟨_, rfl⟩
  have hbW : Below w.heap.size w W := by rw [hW]; exact below_new w _
  have hzW : Blk W w.heap.size 58 [.int .i64 ((a : Int) + 1), .int .i64 (b : Int), .int .i64 ((c : Int) + 1), .int .i64 (d : Int)] := by rw [hW]; exact Blk.new w _ _ _ rfl
  have hWs : W.heap.size = w.heap.size + 1 := by rw [hW]; simp
  have hvW : OwnI W (.slice (some ⟨g, off, none⟩) xs.length cap) xs := hv.below hbW (Nat.le_refl _)
  have HX := Lib.hid (show ∀ w', Below (w.heap.size + 1) W w' → OwnI w' (.slice (some ⟨g, off, none⟩) xs.length cap) xs from fun w' hb => hvW.below hb (by omega))
  have HT := Lib.hid (show OwnI W (.slice (some ⟨g, off, none⟩) a cap) T by have := OwnI.take hvW (k := a) (by omega); rw [hT] at this; exact this)
  have HFB := Lib.hid hfB
  have HOB := Lib.hid (show ∀ w', Below (w.heap.size + 1) W w' → OwnI w' (.slice (some aB) LB.length cB) LB from fun w' hb => hoB _ (HX.out w' hb))
  have HFM := Lib.hid hfM
  have HOM := Lib.hid (show ∀ w', Below (w.heap.size + 1) W w' → OwnI w' (.slice (some aM) LM.length cM) LM from fun w' hb => hoM _ (HX.out w' hb))
  have HFA := Lib.hid hfA
  have HOA := Lib.hid (show ∀ w', Below (w.heap.size + 1) W w' → OwnI w' (.slice (some aA) LA.length cA) LA from fun w' hb => hoA _ (HX.out w' hb))
  have HFD := Lib.hid hfD
  have HOD := Lib.hid (show ∀ w', Below (w.heap.size + 1) W w' → OwnI w' (.slice (some aD) LD.length cD) LD from fun w' hb => hoD _ (HX.out w' hb))
  have HK := Lib.hid (show T.length = a ∧ LB.length = d - c ∧ LM.length = c - b ∧ LA.length = b - a ∧ LD.length = xs.length - d from ⟨htl, hkB, hkM, hkA, hkD⟩)
  have hsB : T.length + LB.length ≤ 1048576 := by omega
  have hsM : T.length + LB.length + LM.length ≤ 1048576 := by omega
  have hsA : T.length + LB.length + LM.length + LA.length ≤ 1048576 := by omega
  have hsD : T.length + LB.length + LM.length + LA.length + LD.length ≤ 1048576 := by omega
  have hmB : LB.length ≤ 1048576 := by omega
  have hmM : LM.length ≤ 1048576 := by omega
  have hmA : LA.length ≤ 1048576 := by omega
  have hmD : LD.length ≤ 1048576 := by omega
  have HW := Lib.hid hW
  have HTL := Lib.hid htl
  clear hE hB hln hl hp hv hvW hW hT htl hab hc hgl hfB hoB hlB hkB hLB hfM hoM hlM hkM hLM hfA hoA hlA hkA hLA hfD hoD hlD hkD hLD
  have hwa : IntKind.i64.wrap (a : Int) = (a : Int) := IntWalk.i64_in _ (by have := HK.out; omega)
  have hwc : IntKind.i64.wrap (c : Int) = (c : Int) := IntWalk.i64_in _ (by have := HK.out; omega)
  go_enter Try.func112, Try.ntmps112
  go_wp2_with (first | (refine wpList_slice_h rfl _ _ rfl _ _ _ rfl rfl HR0.out ?_))
  rw [← HW.out]
  refine (l1Own_any _ T _ HT.out (by omega)).mono ?_
  rintro e w1 ⟨r1, rfl, ho1, hf1, hb1⟩
  have hb1 : Below (w.heap.size + 1) W w1 := hb1.mono (by omega)
  have hz1 := hzW.below hb1 (Nat.lt_succ_self _)
  have k0 : w1.cell? ⟨w.heap.size, 0, none⟩ = some (.int .i64 ((a : Int) + 1)) := hz1.cell 0
  have k1 : w1.cell? ⟨w.heap.size, 1, none⟩ = some (.int .i64 (b : Int)) := hz1.cell 1
  have k2 : w1.cell? ⟨w.heap.size, 2, none⟩ = some (.int .i64 ((c : Int) + 1)) := hz1.cell 2
  have k3 : w1.cell? ⟨w.heap.size, 3, none⟩ = some (.int .i64 (d : Int)) := hz1.cell 3
  replace hf1 : From (w.heap.size + 1) r1 := hf1.mono (by omega)
  clear HT
  have hsz1 : w.heap.size + 1 ≤ w1.heap.size := by have := hb1.size; omega
  have hcl1 : (T).length ≤ 1048576 := by (try simp only [List.length_append]); omega
  have HS1 := Lib.hid (Own.src (HOB.out w1 hb1))
  have HB1 := Lib.hid hb1
  have HH1 := Lib.hid (show OwnI w1 r1 (T) from ho1)
  clear ho1 hb1
  go_wp2_with (first | (refine wpList_slice_lh rfl _ _ _ rfl _ _ _ _ rfl rfl rfl HFB.out ?_) | (at_builtin; refine wpList_appI Try.intSl rfl _ _ rfl r1 (T) rfl HH1.out (w.heap.size + 1) hf1 (some aB) LB.length cB LB rfl rfl HS1.out W HB1.out hsz1 hcl1 hmB ?_))
  intro r2 w2 ho2 hf2 hb2 _
  have hz2 := hzW.below hb2 (Nat.lt_succ_self _)
  clear k0 k1 k2 k3
  have k0 : w2.cell? ⟨w.heap.size, 0, none⟩ = some (.int .i64 ((a : Int) + 1)) := hz2.cell 0
  have k1 : w2.cell? ⟨w.heap.size, 1, none⟩ = some (.int .i64 (b : Int)) := hz2.cell 1
  have k2 : w2.cell? ⟨w.heap.size, 2, none⟩ = some (.int .i64 ((c : Int) + 1)) := hz2.cell 2
  have k3 : w2.cell? ⟨w.heap.size, 3, none⟩ = some (.int .i64 (d : Int)) := hz2.cell 3
  have hsz2 : w.heap.size + 1 ≤ w2.heap.size := by have := hb2.size; omega
  have hcl2 : (T ++ LB).length ≤ 1048576 := by (try simp only [List.length_append]); omega
  have HS2 := Lib.hid (Own.src (HOM.out w2 hb2))
  have HB2 := Lib.hid hb2
  have HH2 := Lib.hid (show OwnI w2 r2 (T ++ LB) from ho2)
  clear ho2 hb2
  go_wp2_with (first | (refine wpList_slice_lh rfl _ _ _ rfl _ _ _ _ rfl rfl rfl HFM.out ?_) | (at_builtin; refine wpList_appI Try.intSl rfl _ _ rfl r2 (T ++ LB) rfl HH2.out (w.heap.size + 1) hf2 (some aM) LM.length cM LM rfl rfl HS2.out W HB2.out hsz2 hcl2 hmM ?_))
  intro r3 w3 ho3 hf3 hb3 _
  have hz3 := hzW.below hb3 (Nat.lt_succ_self _)
  clear k0 k1 k2 k3
  have k0 : w3.cell? ⟨w.heap.size, 0, none⟩ = some (.int .i64 ((a : Int) + 1)) := hz3.cell 0
  have k1 : w3.cell? ⟨w.heap.size, 1, none⟩ = some (.int .i64 (b : Int)) := hz3.cell 1
  have k2 : w3.cell? ⟨w.heap.size, 2, none⟩ = some (.int .i64 ((c : Int) + 1)) := hz3.cell 2
  have k3 : w3.cell? ⟨w.heap.size, 3, none⟩ = some (.int .i64 (d : Int)) := hz3.cell 3
  have hsz3 : w.heap.size + 1 ≤ w3.heap.size := by have := hb3.size; omega
  have hcl3 : (T ++ (LB ++ LM)).length ≤ 1048576 := by (try simp only [List.length_append]); omega
  have HS3 := Lib.hid (Own.src (HOA.out w3 hb3))
  have HB3 := Lib.hid hb3
  have HH3 := Lib.hid (show OwnI w3 r3 (T ++ (LB ++ LM)) from ho3)
  clear ho3 hb3
  go_wp2_with (first | (refine wpList_slice_lh rfl _ _ _ rfl _ _ _ _ rfl rfl rfl HFA.out ?_) | (at_builtin; refine wpList_appI Try.intSl rfl _ _ rfl r3 (T ++ (LB ++ LM)) rfl HH3.out (w.heap.size + 1) hf3 (some aA) LA.length cA LA rfl rfl HS3.out W HB3.out hsz3 hcl3 hmA ?_))
  intro r4 w4 ho4 hf4 hb4 _
  have hz4 := hzW.below hb4 (Nat.lt_succ_self _)
  clear k0 k1 k2 k3
  have k0 : w4.cell? ⟨w.heap.size, 0, none⟩ = some (.int .i64 ((a : Int) + 1)) := hz4.cell 0
  have k1 : w4.cell? ⟨w.heap.size, 1, none⟩ = some (.int .i64 (b : Int)) := hz4.cell 1
  have k2 : w4.cell? ⟨w.heap.size, 2, none⟩ = some (.int .i64 ((c : Int) + 1)) := hz4.cell 2
  have k3 : w4.cell? ⟨w.heap.size, 3, none⟩ = some (.int .i64 (d : Int)) := hz4.cell 3
  have hsz4 : w.heap.size + 1 ≤ w4.heap.size := by have := hb4.size; omega
  have hcl4 : (T ++ (LB ++ (LM ++ LA))).length ≤ 1048576 := by (try simp only [List.length_append]); omega
  have HS4 := Lib.hid (Own.src (HOD.out w4 hb4))
  have HB4 := Lib.hid hb4
  have HH4 := Lib.hid (show OwnI w4 r4 (T ++ (LB ++ (LM ++ LA))) from ho4)
  clear ho4 hb4
  go_wp2_with (first | (refine wpList_slice_l rfl _ _ rfl _ _ _ rfl rfl HFD.out ?_) | (at_builtin; refine wpList_appI Try.intSl rfl _ _ rfl r4 (T ++ (LB ++ (LM ++ LA))) rfl HH4.out (w.heap.size + 1) hf4 (some aD) LD.length cD LD rfl rfl HS4.out W HB4.out hsz4 hcl4 hmD ?_))
  intro r5 w5 ho5 hf5 hb5 _
  have HR := Lib.hid (show OwnI w5 r5 (exT xs ((a : Int) + 1, (b : Int), (c : Int) + 1, (d : Int))) by rw [HE.out]; simp only [List.append_assoc]; exact ho5)
  clear ho5
  go_wp2
  go_ret
  exact ⟨_, rfl, HR.out, hf5.mono (Nat.le_succ _), hbW.trans (hb5.mono (Nat.le_succ _))⟩

set_option maxHeartbeats 4000000 in
set_option maxRecDepth 100000 in
theorem bkMove_any (v : Value) (xs : List Int) (n : Int) (p : Int × Int × Int) (w : World) (hv : OwnI w v xs) (hn : xs.length ≤ 1048576) (hp : Hid (bkB n p = true)) (hl : Hid ((xs.length : Int) = n)) :
    Calls Try.prog 113 #[v, .agg #[.int .i64 p.1, .int .i64 p.2.1, .int .i64 p.2.2]] w fun e w' => ∃ r, e = .returned r ∧ OwnI w' r (bkT xs p) ∧ From w.heap.size r ∧ Below w.heap.size w w' := by
  have hB := bkB_iff.1 hp.out
  have hln := hl.out
  obtain ⟨p0, p1, p2⟩ := p
  simp only at hB
  obtain ⟨a, rfl⟩ : ∃ a : Nat, p0 = (a : Int) + 1 := ⟨(p0 - 1).toNat, by omega⟩
  obtain ⟨b, rfl⟩ : ∃ b : Nat, p1 = (b : Int) := ⟨(p1).toNat, by omega⟩
  obtain ⟨d, rfl⟩ : ∃ d : Nat, p2 = (d : Int) := ⟨(p2).toNat, by omega⟩
  have hab : a + 1 ≤ b ∧ b + 1 ≤ d ∧ d ≤ xs.length := by omega
  have hE : bkT xs ((a : Int) + 1, (b : Int), (d : Int)) = xs.take a ++ (xs.take d).drop b ++ (xs.take b).drop a ++ xs.drop d := by
    unfold bkT exL
    simp only
    rw [show ((a : Int) + 1 - 1).toNat = a by omega, Int.toNat_natCast, Int.toNat_natCast]
    simp
  obtain ⟨ad0, cap, rfl, hc, _, _⟩ := hv.shape
  obtain ⟨g, off, had, hgl, _, _⟩ := hv.at (by omega)
  subst had
  have HR0 := Lib.hid (fun W => run_toI xs.length cap a (some ⟨g, off, none⟩) (by omega) W)
  obtain ⟨aB, cB, hfB, hoB⟩ := sub_some (ad := ⟨g, off, none⟩) (cap := cap) (l := b) (h := d) (q := xs) (by omega) (by omega) (by omega)
  have hlB : ((xs.take d).drop b).length ≤ xs.length := by rw [List.length_drop, List.length_take]; omega
  have hkB : ((xs.take d).drop b).length = d - b := by rw [List.length_drop, List.length_take]; omega
  obtain ⟨aA, cA, hfA, hoA⟩ := sub_some (ad := ⟨g, off, none⟩) (cap := cap) (l := a) (h := b) (q := xs) (by omega) (by omega) (by omega)
  have hlA : ((xs.take b).drop a).length ≤ xs.length := by rw [List.length_drop, List.length_take]; omega
  have hkA : ((xs.take b).drop a).length = b - a := by rw [List.length_drop, List.length_take]; omega
  obtain ⟨aD, cD, hfD, hoD⟩ := from_some (ad := ⟨g, off, none⟩) (cap := cap) (n := d) (q := xs) (by omega)
  have hlD : (xs.drop d).length ≤ xs.length := by rw [List.length_drop]; omega
  have hkD : (xs.drop d).length = xs.length - d := by rw [List.length_drop]
  have htl : (xs.take a).length = a := by rw [List.length_take]; omega
  obtain ⟨T, hT⟩ : ∃ T, xs.take a = T := ⟨_, rfl⟩
  rw [hT] at hE htl
  obtain ⟨LB, hLB⟩ : ∃ T, (xs.take d).drop b = T := ⟨_, rfl⟩
  rw [hLB] at hfB hoB hlB hkB hE
  obtain ⟨LA, hLA⟩ : ∃ T, (xs.take b).drop a = T := ⟨_, rfl⟩
  rw [hLA] at hfA hoA hlA hkA hE
  obtain ⟨LD, hLD⟩ : ∃ T, xs.drop d = T := ⟨_, rfl⟩
  rw [hLD] at hfD hoD hlD hkD hE
  have HE := Lib.hid hE
  obtain ⟨W, hW⟩ : ∃ W, W = w.alloc (.cells #[.int .i64 ((a : Int) + 1), .int .i64 (b : Int), .int .i64 (d : Int)] 53) := ⟨_, rfl⟩
  have hbW : Below w.heap.size w W := by rw [hW]; exact below_new w _
  have hzW : Blk W w.heap.size 53 [.int .i64 ((a : Int) + 1), .int .i64 (b : Int), .int .i64 (d : Int)] := by rw [hW]; exact Blk.new w _ _ _ rfl
  have hWs : W.heap.size = w.heap.size + 1 := by rw [hW]; simp
  have hvW : OwnI W (.slice (some ⟨g, off, none⟩) xs.length cap) xs := hv.below hbW (Nat.le_refl _)
  have HX := Lib.hid (show ∀ w', Below (w.heap.size + 1) W w' → OwnI w' (.slice (some ⟨g, off, none⟩) xs.length cap) xs from fun w' hb => hvW.below hb (by omega))
  have HT := Lib.hid (show OwnI W (.slice (some ⟨g, off, none⟩) a cap) T by have := OwnI.take hvW (k := a) (by omega); rw [hT] at this; exact this)
  have HFB := Lib.hid hfB
  have HOB := Lib.hid (show ∀ w', Below (w.heap.size + 1) W w' → OwnI w' (.slice (some aB) LB.length cB) LB from fun w' hb => hoB _ (HX.out w' hb))
  have HFA := Lib.hid hfA
  have HOA := Lib.hid (show ∀ w', Below (w.heap.size + 1) W w' → OwnI w' (.slice (some aA) LA.length cA) LA from fun w' hb => hoA _ (HX.out w' hb))
  have HFD := Lib.hid hfD
  have HOD := Lib.hid (show ∀ w', Below (w.heap.size + 1) W w' → OwnI w' (.slice (some aD) LD.length cD) LD from fun w' hb => hoD _ (HX.out w' hb))
  have HK := Lib.hid (show T.length = a ∧ LB.length = d - b ∧ LA.length = b - a ∧ LD.length = xs.length - d from ⟨htl, hkB, hkA, hkD⟩)
  have hsB : T.length + LB.length ≤ 1048576 := by omega
  have hsA : T.length + LB.length + LA.length ≤ 1048576 := by omega
  have hsD : T.length + LB.length + LA.length + LD.length ≤ 1048576 := by omega
  have hmB : LB.length ≤ 1048576 := by omega
  have hmA : LA.length ≤ 1048576 := by omega
  have hmD : LD.length ≤ 1048576 := by omega
  have HW := Lib.hid hW
  have HTL := Lib.hid htl
  clear hE hB hln hl hp hv hvW hW hT htl hab hc hgl hfB hoB hlB hkB hLB hfA hoA hlA hkA hLA hfD hoD hlD hkD hLD
  have hwa : IntKind.i64.wrap (a : Int) = (a : Int) := IntWalk.i64_in _ (by have := HK.out; omega)
  go_enter Try.func113, Try.ntmps113
  go_wp2_with (first | (refine wpList_slice_h rfl _ _ rfl _ _ _ rfl rfl HR0.out ?_))
  rw [← HW.out]
  refine (l1Own_any _ T _ HT.out (by omega)).mono ?_
  rintro e w1 ⟨r1, rfl, ho1, hf1, hb1⟩
  have hb1 : Below (w.heap.size + 1) W w1 := hb1.mono (by omega)
  have hz1 := hzW.below hb1 (Nat.lt_succ_self _)
  have k0 : w1.cell? ⟨w.heap.size, 0, none⟩ = some (.int .i64 ((a : Int) + 1)) := hz1.cell 0
  have k1 : w1.cell? ⟨w.heap.size, 1, none⟩ = some (.int .i64 (b : Int)) := hz1.cell 1
  have k2 : w1.cell? ⟨w.heap.size, 2, none⟩ = some (.int .i64 (d : Int)) := hz1.cell 2
  replace hf1 : From (w.heap.size + 1) r1 := hf1.mono (by omega)
  clear HT
  have hsz1 : w.heap.size + 1 ≤ w1.heap.size := by have := hb1.size; omega
  have hcl1 : (T).length ≤ 1048576 := by (try simp only [List.length_append]); omega
  have HS1 := Lib.hid (Own.src (HOB.out w1 hb1))
  have HB1 := Lib.hid hb1
  have HH1 := Lib.hid (show OwnI w1 r1 (T) from ho1)
  clear ho1 hb1
  go_wp2_with (first | (refine wpList_slice_lh rfl _ _ _ rfl _ _ _ _ rfl rfl rfl HFB.out ?_) | (at_builtin; refine wpList_appI Try.intSl rfl _ _ rfl r1 (T) rfl HH1.out (w.heap.size + 1) hf1 (some aB) LB.length cB LB rfl rfl HS1.out W HB1.out hsz1 hcl1 hmB ?_))
  intro r2 w2 ho2 hf2 hb2 _
  have hz2 := hzW.below hb2 (Nat.lt_succ_self _)
  clear k0 k1 k2
  have k0 : w2.cell? ⟨w.heap.size, 0, none⟩ = some (.int .i64 ((a : Int) + 1)) := hz2.cell 0
  have k1 : w2.cell? ⟨w.heap.size, 1, none⟩ = some (.int .i64 (b : Int)) := hz2.cell 1
  have k2 : w2.cell? ⟨w.heap.size, 2, none⟩ = some (.int .i64 (d : Int)) := hz2.cell 2
  have hsz2 : w.heap.size + 1 ≤ w2.heap.size := by have := hb2.size; omega
  have hcl2 : (T ++ LB).length ≤ 1048576 := by (try simp only [List.length_append]); omega
  have HS2 := Lib.hid (Own.src (HOA.out w2 hb2))
  have HB2 := Lib.hid hb2
  have HH2 := Lib.hid (show OwnI w2 r2 (T ++ LB) from ho2)
  clear ho2 hb2
  go_wp2_with (first | (refine wpList_slice_lh rfl _ _ _ rfl _ _ _ _ rfl rfl rfl HFA.out ?_) | (at_builtin; refine wpList_appI Try.intSl rfl _ _ rfl r2 (T ++ LB) rfl HH2.out (w.heap.size + 1) hf2 (some aA) LA.length cA LA rfl rfl HS2.out W HB2.out hsz2 hcl2 hmA ?_))
  intro r3 w3 ho3 hf3 hb3 _
  have hz3 := hzW.below hb3 (Nat.lt_succ_self _)
  clear k0 k1 k2
  have k0 : w3.cell? ⟨w.heap.size, 0, none⟩ = some (.int .i64 ((a : Int) + 1)) := hz3.cell 0
  have k1 : w3.cell? ⟨w.heap.size, 1, none⟩ = some (.int .i64 (b : Int)) := hz3.cell 1
  have k2 : w3.cell? ⟨w.heap.size, 2, none⟩ = some (.int .i64 (d : Int)) := hz3.cell 2
  have hsz3 : w.heap.size + 1 ≤ w3.heap.size := by have := hb3.size; omega
  have hcl3 : (T ++ (LB ++ LA)).length ≤ 1048576 := by (try simp only [List.length_append]); omega
  have HS3 := Lib.hid (Own.src (HOD.out w3 hb3))
  have HB3 := Lib.hid hb3
  have HH3 := Lib.hid (show OwnI w3 r3 (T ++ (LB ++ LA)) from ho3)
  clear ho3 hb3
  go_wp2_with (first | (refine wpList_slice_l rfl _ _ rfl _ _ _ rfl rfl HFD.out ?_) | (at_builtin; refine wpList_appI Try.intSl rfl _ _ rfl r3 (T ++ (LB ++ LA)) rfl HH3.out (w.heap.size + 1) hf3 (some aD) LD.length cD LD rfl rfl HS3.out W HB3.out hsz3 hcl3 hmD ?_))
  intro r4 w4 ho4 hf4 hb4 _
  have HR := Lib.hid (show OwnI w4 r4 (bkT xs ((a : Int) + 1, (b : Int), (d : Int))) by rw [HE.out]; simp only [List.append_assoc]; exact ho4)
  clear ho4
  go_wp2
  go_ret
  exact ⟨_, rfl, HR.out, hf4.mono (Nat.le_succ _), hbW.trans (hb4.mono (Nat.le_succ _))⟩

end Go.Proofs.Ytajdlioojibmdaa
