import Derived.Test.YtmlikchhkblohaaS4
import Derived.Test.YtmlikchhkblohaaS8
import Derived.Test.YtmlikchhkblohaaLO
import Derived.Test.YtmlikchhkblohaaCe
import Derived.Test.YtmlikchhkblohaaQ1
import Derived.Test.YtmlikchhkblohaaTSg
namespace Go.Pan
open Go Go.RowKit
/-- a law of a plain region's list, at a step of a region that draws -/
theorem Oper.wp_weaken {P : Program} {o : Oper} {a : Act} {w : World} {K : Act → World → Prop} {Q Q' : Exit → Act → World → Prop} (h : Oper.wp P o a w K Q') (hp : ∀ ch a w, Q' (.panic ch) a w → Q (.panic ch) a w) (ho : ¬ LetsOut Q') :
    Oper.wp P o a w K Q := by
  unfold Oper.wp Oper.upon at *
  split <;> simp_all
  · exact Calls.mono h fun e w' hr => by
      cases e with
      | returned v => exact hr
      | panicked ch => exact hp _ _ _ hr
      | outgrown => exact hr.elim
theorem step_of_list {P : Program} {ops : Array Oper} {o : Oper} {a : Act} {w : World} {K : Act → World → Prop} {Q : Exit → Act → World → Prop} {E : Prop} (hg : o.guard = none)
    (h : ∀ Q' : Exit → Act → World → Prop, (∀ a w, K a w → Q' .normal a w) → wpList P ops Q' [o] a w) : if Region.wanted o (yielded ops a.tmps) = true then Oper.wp P o a w K Q else E := by
  have hw : Region.wanted o (yielded ops a.tmps) = true := by simp [Region.wanted, hg]
  rw [if_pos hw]
  have h1 := h (fun e a w => match e with | .normal => K a w | .outgrown => False | e => Q e a w) (fun a w hk => hk)
  simp only [wpList, hw, if_true] at h1
  rcases h1 with h1 | ⟨_, a', w', hf⟩
  · exact Oper.wp_weaken h1 (fun ch a w h => h) (fun ⟨a', w', hf⟩ => hf)
  · exact hf.elim

end Go.Pan

namespace Go.Proofs.Ytmlikchhkblohaa
open Go Go.RowKit Go.Pan

theorem sgIs_any (n : Int) (p : Int × Int) (w : World) :
    Calls Try.prog 101 #[.int .i64 n, .agg #[.int .i64 p.1, .int .i64 p.2]] w fun e w' => e = .returned (.bool (segB n p)) ∧ Below w.heap.size w w' := by
  have hb0 : Below w.heap.size w (w.alloc (.cells #[.int .i64 p.1, .int .i64 p.2] 62)) := (Below.refl _ _).alloc (Nat.le_refl _) _
  cases h1 : inB n 1 9 with
  | false =>
    have HR := Lib.hid (show segB n p = false by unfold segB; rw [h1]; rfl)
    have c1 := l1In_any n 1 9
    rw [h1] at c1
    clear h1
    go_enter Try.func101, Try.ntmps101
    go_wp2_with fail
    refine (c1 _).mono ?_
    rintro e w1 ⟨rfl, rfl⟩
    go_wp2
    go_ret
    exact ⟨by rw [HR.out]; rfl, hb0⟩
  | true =>
    have c1 := l1In_any n 1 9
    rw [h1] at c1
    cases h2 : inB p.1 1 n with
    | false =>
      have HR := Lib.hid (show segB n p = false by unfold segB; rw [h1, h2]; rfl)
      have c2 := l1In_any p.1 1 n
      rw [h2] at c2
      clear h1 h2
      go_enter Try.func101, Try.ntmps101
      go_wp2_with fail
      refine (c1 _).mono ?_
      rintro e w1 ⟨rfl, rfl⟩
      go_wp2_with fail
      refine (c2 _).mono ?_
      rintro e w1 ⟨rfl, rfl⟩
      go_wp2
      go_ret
      exact ⟨by rw [HR.out]; rfl, hb0⟩
    | true =>
      have c2 := l1In_any p.1 1 n
      rw [h2] at c2
      cases h3 : inB p.2 1 n with
      | false =>
        have HR := Lib.hid (show segB n p = false by unfold segB; rw [h1, h2, h3]; rfl)
        have c3 := l1In_any p.2 1 n
        rw [h3] at c3
        clear h1 h2 h3
        go_enter Try.func101, Try.ntmps101
        go_wp2_with fail
        refine (c1 _).mono ?_
        rintro e w1 ⟨rfl, rfl⟩
        go_wp2_with fail
        refine (c2 _).mono ?_
        rintro e w1 ⟨rfl, rfl⟩
        go_wp2_with fail
        refine (c3 _).mono ?_
        rintro e w1 ⟨rfl, rfl⟩
        go_wp2
        go_ret
        exact ⟨by rw [HR.out]; rfl, hb0⟩
      | true =>
        have c3 := l1In_any p.2 1 n
        rw [h3] at c3
        have HR := Lib.hid (show segB n p = decide (p.1 < p.2) by unfold segB; rw [h1, h2, h3]; simp)
        clear h1 h2 h3
        go_enter Try.func101, Try.ntmps101
        go_wp2_with fail
        refine (c1 _).mono ?_
        rintro e w1 ⟨rfl, rfl⟩
        go_wp2_with fail
        refine (c2 _).mono ?_
        rintro e w1 ⟨rfl, rfl⟩
        go_wp2_with fail
        refine (c3 _).mono ?_
        rintro e w1 ⟨rfl, rfl⟩
        go_wp2
        go_ret
        exact ⟨by rw [HR.out]; rfl, hb0⟩

/-- 's[l:h]' of a slice that lies somewhere -/
theorem sub_some {ad : Addr} {cap l h : Nat} {q : List Int} (h1 : l ≤ h) (h2 : h ≤ q.length) (h3 : h ≤ cap) : ∃ (a0 : Addr) (c0 : Nat), (∀ W : World, (Instr.sliceAt 22 (.slice (some ad) q.length cap) (some (.int .i64 (l : Int))) (some (.int .i64 (h : Int))) none).run Try.prog W = .ok (.slice (some a0) ((q.take h).drop l).length c0) W) ∧
    ∀ w : World, OwnI w (.slice (some ad) q.length cap) q → OwnI w (.slice (some a0) ((q.take h).drop l).length c0) ((q.take h).drop l) := by
  have hlen : ((q.take h).drop l).length = h - l := by rw [List.length_drop, List.length_take, Nat.min_eq_left h2]
  obtain ⟨i, hi, hz, hs1, hb8⟩ := info_parts Try.info3
  have he : Try.prog.elem 22 = 3 := by simp [Program.elem, Try.underlying22]
  have hrun : ∀ W : World, (Instr.sliceAt 22 (.slice (some ad) q.length cap) (some (.int .i64 (l : Int))) (some (.int .i64 (h : Int))) none).run Try.prog W = .ok (.slice (if cap = l then some ad else (some ad).map (·.add (l * 1))) (h - l) (cap - l)) W := fun W => by
    rw [run_sliceAt_slice W 22 _ _ _ _ (by rw [he]; exact Try.underlying22), run_slice_lh W 22 (some ad) q.length cap (by rw [he]; exact Try.underlying22) .i64 .i64 l h (by omega) (by omega) (by omega)]
    simp [sizeOf, typeInfo, he, hi, hs1, sliced, Result.andThen]
  have hk : ∀ w : World, OwnI w (.slice (some ad) q.length cap) q → OwnI w (.slice (if cap = l then some ad else (some ad).map (·.add (l * 1))) ((q.take h).drop l).length (cap - l)) ((q.take h).drop l) := fun w ho => by
    have hd := OwnI.take ho h2
    have h4 : (q.take h).length = h := by rw [List.length_take, Nat.min_eq_left h2]
    have := Own.drop (show Own w 1 (.slice (some ad) h cap) h ((q.take h).map iv) by have := hd; unfold OwnI at this; rwa [h4] at this) h1
    unfold OwnI
    rw [hlen, List.map_drop]
    exact this
  by_cases hc : cap = l
  · simp only [if_pos hc] at hrun hk
    exact ⟨ad, cap - l, fun W => by rw [hrun, hlen], hk⟩
  · simp only [if_neg hc] at hrun hk
    exact ⟨ad.add (l * 1), cap - l, fun W => by rw [hrun, hlen]; rfl, hk⟩

set_option maxHeartbeats 4000000 in
set_option maxRecDepth 100000 in
theorem sgTurn_any (v : Value) (xs : List Int) (n : Int) (p : Int × Int) (w : World) (hv : OwnI w v xs) (hn : xs.length ≤ 1048576) (hp : Hid (segB n p = true)) (hl : Hid ((xs.length : Int) = n)) :
    Calls Try.prog 102 #[v, .agg #[.int .i64 p.1, .int .i64 p.2]] w fun e w' => ∃ r, e = .returned r ∧ OwnI w' r (segT xs p) ∧ From w.heap.size r ∧ Below w.heap.size w w' := by
  have hB := segB_iff.1 hp.out
  have hln := hl.out
  obtain ⟨p0, p1⟩ := p
  obtain ⟨a, rfl⟩ : ∃ a : Nat, p0 = (a : Int) + 1 := ⟨(p0 - 1).toNat, by simp only at hB; omega⟩
  obtain ⟨b, rfl⟩ : ∃ b : Nat, p1 = (b : Int) := ⟨p1.toNat, by simp only at hB; omega⟩
  have hab : a + 1 < b + 1 ∧ b ≤ xs.length ∧ a < b := by simp only at hB; omega
  have hE : segT xs ((a : Int) + 1, (b : Int)) = xs.take a ++ ((xs.take b).drop a).reverse ++ xs.drop b := by
    unfold segT segL
    rw [show ((a : Int) + 1 - 1).toNat = a by omega, Int.toNat_natCast, List.drop_take]
  have HE := Lib.hid hE
  obtain ⟨ad0, cap, rfl, hc, _, _⟩ := hv.shape
  obtain ⟨g, off, had, hgl, _, _⟩ := hv.at (by omega)
  subst had
  have hac : a ≤ cap := by omega
  have hs1 : (a : Int) + 1 - 1 = (a : Int) := by omega
  have H1 := Lib.hid (fun W => run_toI xs.length cap a (some ⟨g, off, none⟩) hac W)
  obtain ⟨a2, c2', hf1, hf2⟩ := sub_some (ad := ⟨g, off, none⟩) (cap := cap) (l := a) (h := b) (q := xs) (by omega) hab.2.1 (by omega)
  obtain ⟨a3, c3', hf3, hf4⟩ := from_some (ad := ⟨g, off, none⟩) (cap := cap) (n := b) (q := xs) hab.2.1
  have htl : (xs.take a).length = a := by rw [List.length_take]; omega
  have hml : ((xs.take b).drop a).length ≤ xs.length := by rw [List.length_drop, List.length_take]; omega
  have hdl : (xs.drop b).length ≤ xs.length := by rw [List.length_drop]; omega
  obtain ⟨T, hT⟩ : ∃ T, xs.take a = T := ⟨_, rfl⟩
  obtain ⟨M, hM⟩ : ∃ M, (xs.take b).drop a = M := ⟨_, rfl⟩
  obtain ⟨D, hD⟩ : ∃ D, xs.drop b = D := ⟨_, rfl⟩
  have HD := Lib.hid hD
  have hv' : ∀ w', Below w.heap.size w w' → OwnI w' (.slice (some ⟨g, off, none⟩) xs.length cap) xs := fun w' hb => hv.below hb (Nat.le_refl _)
  have HT := Lib.hid (show ∀ w', Below w.heap.size w w' → OwnI w' (.slice (some ⟨g, off, none⟩) a cap) T from fun w' hb => by rw [← hT]; exact OwnI.take (hv' w' hb) (by omega))
  rw [hM] at hf1 hf2 hml
  rw [hD] at hf3 hf4 hdl
  rw [hT] at htl
  have hvx := hv'
  have HF1 := Lib.hid hf1
  have HF2 := Lib.hid (show ∀ w', Below w.heap.size w w' → OwnI w' (.slice (some a2) M.length c2') M from fun w' hb => hf2 _ (hv' w' hb))
  have HF3 := Lib.hid hf3
  have HF4 := Lib.hid (show ∀ w', Below w.heap.size w w' → OwnI w' (.slice (some a3) D.length c3') D from fun w' hb => hf4 _ (hv' w' hb))
  rw [hT, hM, hD] at hE
  have HE2 := Lib.hid hE
  have HTL := Lib.hid htl
  have htl2 : T.length ≤ 1048576 := by omega
  have hml2 : M.length ≤ 1048576 := by omega
  have hdl2 : D.length ≤ 1048576 := by omega
  have hrl : M.reverse.length = M.length := List.length_reverse
  have HRL := Lib.hid hrl
  have hxl : T.length ≤ xs.length := by omega
  have hTM : T.length + M.length ≤ 1048576 := by
    have h1 : T.length = a := htl
    have h2 : M.length = b - a := by rw [← hM, List.length_drop, List.length_take]; omega
    omega
  clear hf1 hf2 hf3 hf4 hv' hT hM hD hE HE htl hrl hB hln hl hp hv hs1
  have hs1 : IntKind.i64.wrap (a : Int) = (a : Int) := IntWalk.i64_in _ (by omega)
  have HS1 := Lib.hid hs1
  obtain ⟨W, hW⟩ : ∃ W, W = w.alloc (.cells #[.int .i64 ((a : Int) + 1), .int .i64 (b : Int)] 62) := ⟨_, rfl⟩
  have hbW : Below w.heap.size w W := by rw [hW]; exact below_new w _
  have hcell0 : W.cell? ⟨w.heap.size, 0, none⟩ = some (.int .i64 ((a : Int) + 1)) := by rw [hW]; simp [go_sem]
  have hcell1 : W.cell? ⟨w.heap.size, 1, none⟩ = some (.int .i64 (b : Int)) := by rw [hW]; simp [go_sem]
  have hWs : w.heap.size < W.heap.size := by rw [hW]; simp
  have HW := Lib.hid hW
  clear hW hs1
  go_enter Try.func102, Try.ntmps102
  go_wp2_with fail
  rw [← HW.out]
  refine wp_region_held_drew (S := (fun w' => Below w.heap.size w w' ∧ w'.cell? ⟨w.heap.size, 0, none⟩ = some (.int .i64 ((a : Int) + 1)) ∧ w'.cell? ⟨w.heap.size, 1, none⟩ = some (.int .i64 (b : Int)))) (by kernel_rfl) (⟨hbW.drew, hcell0, hcell1⟩) (fun hHeld => ?_)
  refine wpAnyH_take (i := 0) (v := ?_) rfl (by kernel_rfl) (by kernel_rfl) (by kernel_rfl) (fun _ _ _ h => h) (Or.inl ⟨by rfl, ?_⟩) (by assumption) ?_
  rotate_left
  · intro w _; go_simp; with_reducible rfl
  try simp only [List.getElem_toArray, List.getElem_cons_zero, Act.put, List.setIfInBounds_toArray, List.set_cons_zero, List.set_cons_succ]
  refine wpAnyH_take (i := 1) (v := ?_) rfl (by kernel_rfl) (by kernel_rfl) (by kernel_rfl) (fun _ _ _ h => h) (Or.inl ⟨by rfl, ?_⟩) (by assumption) ?_
  rotate_left
  · intro w _; go_simp; with_reducible rfl
  try simp only [List.getElem_toArray, List.getElem_cons_zero, List.getElem_cons_succ, Act.put, List.setIfInBounds_toArray, List.set_cons_zero, List.set_cons_succ]
  refine wpAnyH_take (i := 2) (v := ?_) rfl (by kernel_rfl) (by kernel_rfl) (by kernel_rfl) (fun _ _ _ h => h) (Or.inl ⟨by rfl, ?_⟩) (by assumption) ?_
  rotate_left
  · intro w hSw; obtain ⟨_, hx0, hx1⟩ := hSw; (go_simp <;> with_reducible rfl)
  try simp only [List.getElem_toArray, List.getElem_cons_zero, List.getElem_cons_succ, Act.put, List.setIfInBounds_toArray, List.set_cons_zero, List.set_cons_succ]
  refine wpAnyH_take (i := 3) (v := ?_) rfl (by kernel_rfl) (by kernel_rfl) (by kernel_rfl) (fun _ _ _ h => h) (Or.inl ⟨by rfl, ?_⟩) (by assumption) ?_
  rotate_left
  · intro w _; go_simp; with_reducible rfl
  try simp only [List.getElem_toArray, List.getElem_cons_zero, List.getElem_cons_succ, Act.put, List.setIfInBounds_toArray, List.set_cons_zero, List.set_cons_succ]
  rw [HS1.out]
  refine wpAnyH_take (i := 4) (v := .slice (some ⟨g, off, none⟩) a cap) rfl (by kernel_rfl) (by kernel_rfl) (by kernel_rfl) (fun _ _ _ h => h) (Or.inl ⟨by rfl, ?_⟩) (by assumption) ?_
  · intro w_ _
    have h_ := H1.out w_
    simp [execOp, Act.eval, h_]
  try simp only [List.getElem_toArray, List.getElem_cons_zero, List.getElem_cons_succ, Act.put, List.setIfInBounds_toArray, List.set_cons_zero, List.set_cons_succ]
  refine wpAnyH_take (i := 6) (v := ?_) rfl (by kernel_rfl) (by kernel_rfl) (by kernel_rfl) (fun _ _ _ h => h) (Or.inl ⟨by rfl, ?_⟩) (by assumption) ?_
  rotate_left
  · intro w _; go_simp; with_reducible rfl
  try simp only [List.getElem_toArray, List.getElem_cons_zero, List.getElem_cons_succ, Act.put, List.setIfInBounds_toArray, List.set_cons_zero, List.set_cons_succ]
  refine wpAnyH_take (i := 7) (v := ?_) rfl (by kernel_rfl) (by kernel_rfl) (by kernel_rfl) (fun _ _ _ h => h) (Or.inl ⟨by rfl, ?_⟩) (by assumption) ?_
  rotate_left
  · intro w _; go_simp; with_reducible rfl
  try simp only [List.getElem_toArray, List.getElem_cons_zero, List.getElem_cons_succ, Act.put, List.setIfInBounds_toArray, List.set_cons_zero, List.set_cons_succ]
  refine wpAnyH_take (i := 8) (v := ?_) rfl (by kernel_rfl) (by kernel_rfl) (by kernel_rfl) (fun _ _ _ h => h) (Or.inl ⟨by rfl, ?_⟩) (by assumption) ?_
  rotate_left
  · intro w hSw; obtain ⟨_, hx0, hx1⟩ := hSw; (go_simp <;> with_reducible rfl)
  try simp only [List.getElem_toArray, List.getElem_cons_zero, List.getElem_cons_succ, Act.put, List.setIfInBounds_toArray, List.set_cons_zero, List.set_cons_succ]
  refine wpAnyH_take (i := 9) (v := ?_) rfl (by kernel_rfl) (by kernel_rfl) (by kernel_rfl) (fun _ _ _ h => h) (Or.inl ⟨by rfl, ?_⟩) (by assumption) ?_
  rotate_left
  · intro w _; go_simp; with_reducible rfl
  try simp only [List.getElem_toArray, List.getElem_cons_zero, List.getElem_cons_succ, Act.put, List.setIfInBounds_toArray, List.set_cons_zero, List.set_cons_succ]
  rw [HS1.out]
  refine wpAnyH_take (i := 10) (v := ?_) rfl (by kernel_rfl) (by kernel_rfl) (by kernel_rfl) (fun _ _ _ h => h) (Or.inl ⟨by rfl, ?_⟩) (by assumption) ?_
  rotate_left
  · intro w _; go_simp; with_reducible rfl
  try simp only [List.getElem_toArray, List.getElem_cons_zero, List.getElem_cons_succ, Act.put, List.setIfInBounds_toArray, List.set_cons_zero, List.set_cons_succ]
  refine wpAnyH_take (i := 11) (v := ?_) rfl (by kernel_rfl) (by kernel_rfl) (by kernel_rfl) (fun _ _ _ h => h) (Or.inl ⟨by rfl, ?_⟩) (by assumption) ?_
  rotate_left
  · intro w hSw; obtain ⟨_, hx0, hx1⟩ := hSw; (go_simp <;> with_reducible rfl)
  try simp only [List.getElem_toArray, List.getElem_cons_zero, List.getElem_cons_succ, Act.put, List.setIfInBounds_toArray, List.set_cons_zero, List.set_cons_succ]
  refine wpAnyH_take (i := 12) (v := .slice (some a2) M.length c2') rfl (by kernel_rfl) (by kernel_rfl) (by kernel_rfl) (fun _ _ _ h => h) (Or.inl ⟨by rfl, ?_⟩) (by assumption) ?_
  · intro w_ _
    have h_ := HF1.out w_
    simp [execOp, Act.eval, h_]
  try simp only [List.getElem_toArray, List.getElem_cons_zero, List.getElem_cons_succ, Act.put, List.setIfInBounds_toArray, List.set_cons_zero, List.set_cons_succ]
  refine wpAnyH_ready (rs := [5]) (by kernel_rfl) (by simp) ?_
  refine AllReadyH.cons rfl (fun K hK => ?_) AllReadyH.nil
  go_simp
  refine (l1Own_any _ T _ (by have h := HT.out _ hHeld.1; unfold OwnI; rw [HTL.out]; unfold OwnI at h; rwa [HTL.out] at h) htl2).mono ?_
  rintro e w5 ⟨r5, rfl, ho5, hf5, hb5⟩
  go_wp2_with fail
  refine hK.out _ _ (⟨hHeld.1.trans (hb5.mono hHeld.1.size), (hb5.cell (p := ⟨w.heap.size, 0, none⟩) (by simpa using hWs)).trans hHeld.2.1, (hb5.cell (p := ⟨w.heap.size, 1, none⟩) (by simpa using hWs)).trans hHeld.2.2⟩) (fun hHeld => ?_)
  clear hK K
  try simp only [List.getElem_toArray, List.getElem_cons_zero, List.getElem_cons_succ, Act.put, List.setIfInBounds_toArray, List.set_cons_zero, List.set_cons_succ]
  have hw5 : w.heap.size < w5.heap.size := Nat.lt_of_lt_of_le hWs hb5.size
  refine wpAnyH_ready (rs := [13]) (by kernel_rfl) (by simp) ?_
  refine AllReadyH.cons rfl (fun K hK => ?_) AllReadyH.nil
  go_simp
  refine (stReverse_any _ M _ (HF2.out _ hHeld.1) hml2).mono ?_
  rintro e w6 ⟨r6, rfl, ho6, hf6, hb6⟩
  go_wp2_with fail
  refine hK.out _ _ (⟨hHeld.1.trans (hb6.mono hHeld.1.size), (hb6.cell (p := ⟨w.heap.size, 0, none⟩) hw5).trans hHeld.2.1, (hb6.cell (p := ⟨w.heap.size, 1, none⟩) hw5).trans hHeld.2.2⟩) (fun hHeld => ?_)
  clear hK K
  try simp only [List.getElem_toArray, List.getElem_cons_zero, List.getElem_cons_succ, Act.put, List.setIfInBounds_toArray, List.set_cons_zero, List.set_cons_succ]
  have ho5' := ho5.same hb6
  obtain ⟨a6, c6, rfl, _, _, _⟩ := ho6.shape
  have hsrc6 := Own.src ho6
  have hf5' : From (w.heap.size + 1) r5 := hf5.mono (by have h : W.drew.heap.size = W.heap.size := rfl; omega)
  refine wpAnyH_ready (rs := [14]) (by kernel_rfl) (by simp) ?_
  refine AllReadyH.cons rfl (fun K hK => ?_) AllReadyH.nil
  refine step_of_list rfl fun Q' hQ' => ?_
  refine wpList_appI Try.intSl rfl _ _ rfl r5 T rfl ho5' (w.heap.size + 1) hf5' a6 M.reverse.length c6 M.reverse rfl rfl hsrc6 w6 (Below.refl _ _) (Nat.lt_of_lt_of_le hw5 hb6.size) htl2 (by rw [HRL.out]; exact hml2) ?_
  intro v7 w7 ho7 hf7 hb7 hg7
  refine hQ' _ _ ?_
  have hb7w : Below w.heap.size w6 w7 := hb7.mono (by omega)
  refine hK.out _ _ ⟨hHeld.1.trans hb7w, (hb7.cell (p := ⟨w.heap.size, 0, none⟩) (by simp)).trans hHeld.2.1, (hb7.cell (p := ⟨w.heap.size, 1, none⟩) (by simp)).trans hHeld.2.2⟩ (fun hHeld => ?_)
  clear hK K hQ' Q'
  try simp only [List.getElem_toArray, List.getElem_cons_zero, List.getElem_cons_succ, Act.put, List.setIfInBounds_toArray, List.set_cons_zero, List.set_cons_succ]
  refine wpAnyH_take (i := 15) (v := ?_) rfl (by kernel_rfl) (by kernel_rfl) (by kernel_rfl) (fun _ _ _ h => h) (Or.inl ⟨by rfl, ?_⟩) (by assumption) ?_
  rotate_left
  · intro w _; go_simp; with_reducible rfl
  try simp only [List.getElem_toArray, List.getElem_cons_zero, List.getElem_cons_succ, Act.put, List.setIfInBounds_toArray, List.set_cons_zero, List.set_cons_succ]
  refine wpAnyH_done (by kernel_rfl) ?_ _
  have hcx1 := hHeld.2.2
  have hlt7 : (T ++ M.reverse).length ≤ 1048576 := by rw [List.length_append, HRL.out]; omega
  have hB7 := hHeld.1
  have hbl : b ≤ xs.length := hab.2.1
  have HVX := Lib.hid (hvx w7 hHeld.1)
  have hf70 : From w.heap.size v7 := hf7.mono (by omega)
  clear hHeld hsrc6 ho6 ho5 ho5' hb7w hf5 hf5' hf6 hb5 hb6 hb7 hg7
  have hdl3 : (xs.drop b).length ≤ 1048576 := by rw [List.length_drop]; omega
  have HVN := Lib.hid (show OwnI w7 v7 (T ++ M.reverse) from ho7)
  clear ho7 hcell0 hcell1 hbW
  go_wp2_with (first | (refine wpList_from Try.intSl rfl _ _ rfl (some ⟨g, off, none⟩) xs.length cap b rfl rfl hbl xs rfl HVX.out ?_; intro sp m c hm hod hsrc _) | (at_builtin; refine wpList_appI Try.intSl rfl _ _ rfl v7 (T ++ M.reverse) rfl HVN.out w.heap.size hf70 sp m c (xs.drop b) rfl hm.out hsrc w hB7 hB7.size hlt7 hdl3 ?_))
  intro v8 w8 ho8 hf8 hb8 hg8
  have HR := Lib.hid (show OwnI w8 v8 (segT xs ((a : Int) + 1, (b : Int))) by rw [HE2.out, ← HD.out, List.append_assoc]; exact ho8)
  clear ho8
  go_wp2
  go_ret
  exact ⟨_, rfl, HR.out, hf8, hb8⟩

end Go.Proofs.Ytmlikchhkblohaa

namespace Go.Pan
-- what the functions return
def okSeg (xs : List Int) (p : Int × Int) : Bool := goodB xs && segB xs.length p
def mTurnSegment (xs : List Int) (p : Int × Int) : List Int := if okSeg xs p = true then segT xs p else []
def okSegs (xs : List Int) (l : List (Int × Int)) : Bool := goodB xs && (decide ((l.length : Int) ≤ 40) && segsB xs.length l)
def mPlaySegments (xs : List Int) (l : List (Int × Int)) : List Int := if okSegs xs l = true then playG xs l else []
def mBreakPoints (xs : List Int) : List Int := if goodB xs = true then brkL xs else []
def mSegmentBound (xs : List Int) : Int := if goodB xs = true then (((brkL xs).length + 1) / 2 : Nat) else 0
theorem len_mTurnSegment (xs : List Int) (p : Int × Int) : (mTurnSegment xs p).length ≤ 1048576 := by
  unfold mTurnSegment
  split
  · rename_i h
    simp only [okSeg, Bool.and_eq_true, goodB_iff] at h
    rw [segT_length h.2]; have := h.1.le9; omega
  · simp
theorem len_mPlaySegments (xs : List Int) (l : List (Int × Int)) : (mPlaySegments xs l).length ≤ 1048576 := by
  unfold mPlaySegments
  split
  · rename_i h
    simp only [okSegs, Bool.and_eq_true, goodB_iff, segsB_iff] at h
    rw [playG_length h.2.2]; have := h.1.le9; omega
  · simp
theorem len_mBreakPoints (xs : List Int) : (mBreakPoints xs).length ≤ 1048576 := by
  unfold mBreakPoints
  split
  · rename_i h; have := (goodB_iff.1 h).le9; have := brkL_length xs; omega
  · simp

end Go.Pan

namespace Go.Proofs.Ytmlikchhkblohaa
open Go Go.RowKit Go.Pan

set_option maxRecDepth 100000 in
theorem sTurnSegment_any (v : Value) (xs : List Int) (p : Int × Int) (w : World) (hv : OwnI w v xs) (hn : xs.length ≤ 1048576) :
    Calls Try.prog 57 #[v, .agg #[.int .i64 p.1, .int .i64 p.2]] w fun e w' => ∃ r, e = .returned (.tuple #[r, .bool (okSeg xs p)]) ∧ OwnI w' r (mTurnSegment xs p) ∧ From w.heap.size r ∧ Below w.heap.size w w' := by
  obtain ⟨ad, cap, rfl, hc, _, _⟩ := hv.shape
  have hva := hv.alloc (.cells #[.int .i64 p.1, .int .i64 p.2] 62)
  have hb0 : Below w.heap.size w (w.alloc (.cells #[.int .i64 p.1, .int .i64 p.2] 62)) := below_new w _
  have hz : Blk (w.alloc (.cells [.int .i64 p.1, .int .i64 p.2].toArray 62)) w.heap.size 62 [.int .i64 p.1, .int .i64 p.2] := Blk.new w _ _ _ rfl
  cases hg : goodB xs with
  | true =>
    cases hi : segB xs.length p with
    | true =>
      have HO := Lib.hid (show okSeg xs p = true by unfold okSeg; rw [hg, hi]; rfl)
      have HM := Lib.hid (show mTurnSegment xs p = segT xs p from if_pos HO.out)
      have cg := stGood_any (.slice ad xs.length cap) xs _ hva hn
      rw [hg] at cg
      have ci := sgIs_any (xs.length : Int) p
      rw [hi] at ci
      have HI := Lib.hid hi
      clear hg hi
      go_enter Try.func57, Try.ntmps57
      go_wp2_with fail
      refine (cg).mono ?_
      rintro e w1 ⟨rfl, hb⟩
      have hz1 := hz.below hb (by simp)
      have k0 : w1.cell? ⟨w.heap.size, 0, none⟩ = some (.int .i64 p.1) := hz1.cell 0
      have k1 : w1.cell? ⟨w.heap.size, 1, none⟩ = some (.int .i64 p.2) := hz1.cell 1
      go_wp2_with fail
      refine (ci _).mono ?_
      rintro e w2 ⟨rfl, hb2⟩
      have hz2 := hz1.below hb2 hz1.lt
      have l0 : w2.cell? ⟨w.heap.size, 0, none⟩ = some (.int .i64 p.1) := hz2.cell 0
      have l1 : w2.cell? ⟨w.heap.size, 1, none⟩ = some (.int .i64 p.2) := hz2.cell 1
      go_wp2_with fail
      refine (sgTurn_any _ xs _ p _ ((hva.same hb).same hb2) hn HI (Lib.hid rfl)).mono ?_
      rintro e w3 ⟨r, rfl, ho, hf, hb3⟩
      have hB1 := hb0.trans (hb.mono (by simp))
      have hB2 := hB1.trans (hb2.mono hB1.size)
      go_wp2
      go_ret2
      exact ⟨_, by rw [HO.out]; rfl, by rw [HM.out]; exact ho, hf.mono hB2.size, hB2.trans (hb3.mono hB2.size)⟩
    | false =>
      have HO := Lib.hid (show okSeg xs p = false by unfold okSeg; rw [hg, hi]; rfl)
      have HM := Lib.hid (show mTurnSegment xs p = [] from if_neg (by rw [HO.out]; exact Bool.false_ne_true))
      have cg := stGood_any (.slice ad xs.length cap) xs _ hva hn
      rw [hg] at cg
      have ci := sgIs_any (xs.length : Int) p
      rw [hi] at ci
      clear hg hi
      go_enter Try.func57, Try.ntmps57
      go_wp2_with fail
      refine (cg).mono ?_
      rintro e w1 ⟨rfl, hb⟩
      have hz1 := hz.below hb (by simp)
      have k0 : w1.cell? ⟨w.heap.size, 0, none⟩ = some (.int .i64 p.1) := hz1.cell 0
      have k1 : w1.cell? ⟨w.heap.size, 1, none⟩ = some (.int .i64 p.2) := hz1.cell 1
      go_wp2_with fail
      refine (ci _).mono ?_
      rintro e w2 ⟨rfl, hb2⟩
      have hB1 := hb0.trans (hb.mono (by simp))
      go_wp2
      go_ret2
      exact ⟨_, by rw [HO.out]; rfl, by rw [HM.out]; exact OwnI.nil _, From.nil _ _ _, hB1.trans (hb2.mono hB1.size)⟩
  | false =>
    have HO := Lib.hid (show okSeg xs p = false by unfold okSeg; rw [hg]; rfl)
    have HM := Lib.hid (show mTurnSegment xs p = [] from if_neg (by rw [HO.out]; exact Bool.false_ne_true))
    have cg := stGood_any (.slice ad xs.length cap) xs _ hva hn
    rw [hg] at cg
    clear hg
    go_enter Try.func57, Try.ntmps57
    go_wp2_with fail
    refine (cg).mono ?_
    rintro e w1 ⟨rfl, hb⟩
    go_wp2
    go_ret2
    exact ⟨_, by rw [HO.out]; rfl, by rw [HM.out]; exact OwnI.nil _, From.nil _ _ _, hb0.trans (hb.mono (by simp))⟩

theorem okSegs_bad {xs : List Int} {l : List (Int × Int)} {k : Nat} (hk : k < l.length) (h : segB xs.length l[k] = false) : okSegs xs l = false := by
  unfold okSegs
  have : segsB xs.length l = false := by
    cases hs : segsB xs.length l with
    | false => rfl
    | true => have := segsB_iff.1 hs _ (List.getElem_mem hk); rw [h] at this; cases this
  rw [this, Bool.and_false, Bool.and_false]
theorem okSegs_all {xs : List Int} {l : List (Int × Int)} (hg : goodB xs = true) (h40 : (l.length : Int) ≤ 40) (h : Segs xs.length (l.take l.length)) : okSegs xs l = true := by
  rw [List.take_length] at h
  unfold okSegs
  rw [hg, decide_eq_true h40, segsB_iff.2 h]
  rfl
theorem segs_take_succ {n : Int} {l : List (Int × Int)} {k : Nat} (hk : k < l.length) (h : Segs n (l.take k)) (hp : segB n l[k] = true) : Segs n (l.take (k + 1)) := by
  rw [List.take_succ_eq_append_getElem hk]
  exact h.snoc hp

set_option maxHeartbeats 1600000 in
set_option maxRecDepth 100000 in
theorem sPlaySegments_any (v : Value) (xs : List Int) (u : Value) (l : List (Int × Int)) (w : World) (hv : OwnI w v xs) (hn : xs.length ≤ 1048576) (hu : OwnC c2 w u l) (hm : l.length ≤ 1048576) :
    Calls Try.prog 52 #[v, u] w fun e w' => ∃ r, e = .returned (.tuple #[r, .bool (okSegs xs l)]) ∧ OwnI w' r (mPlaySegments xs l) ∧ From w.heap.size r ∧ Below w.heap.size w w' := by
  obtain ⟨ad, cap, rfl, hc, _, _⟩ := hv.shape
  obtain ⟨bd, cbp, rfl, hc', _, _⟩ := hu.shape
  cases hg : goodB xs with
  | true =>
    have cg := stGood_any _ _ _ hv hn
    rw [hg] at cg
    by_cases h40 : (l.length : Int) ≤ 40
    · have HG := Lib.hid hg
      have h9 := (goodB_iff.1 hg).le9
      clear hg
      go_enter Try.func52, Try.ntmps52
      go_wp2_with fail
      refine (cg).mono ?_
      rintro e w1 ⟨rfl, hb⟩
      have hv1 := hv.same hb
      have hu1 := hu.same hb
      go_wp2_with fail
      refine (l1Own_any _ _ _ hv1 hn).mono ?_
      rintro e w2 ⟨r2, rfl, ho2, hf2, hb2⟩
      have hu2 := hu1.same hb2
      have hB2 := hb.trans (hb2.mono hb.size)
      have hf2' := hf2.mono hb.size
      clear hv hu hv1 hu1 cg hb hb2 hf2
      go_wp2
      go_loopw [6, 21] (fun o i wr => ∃ k : Nat, k ≤ l.length ∧ i = .int .i64 k ∧ Hid (Segs xs.length (l.take k)) ∧ OwnI wr o (playG xs (l.take k)) ∧ From w.heap.size o ∧ Below w.heap.size w wr ∧ OwnC c2 wr (.slice bd l.length cbp) l ∧ Hid (w2.heap.size ≤ wr.heap.size)) (fun _ i _ => l.length - (intOf i).toNat)
      case atStart => exact ⟨0, Nat.zero_le _, rfl, Lib.hid (fun p hp => by simp at hp), ho2, hf2', hB2, hu2, Lib.hid (Nat.le_refl _)⟩
      case round =>
        obtain ⟨k, hk, rfl, hS, ho, hf, hbr, hur, hsz⟩ := hrel
        clear ho2 hf2' hB2 hu2
        by_cases hlt : k < l.length
        · obtain ⟨b, off, rfl, hbl, hra⟩ := OwnC.rowAt hur hlt
          obtain ⟨p, hp⟩ : ∃ p, l[k] = p := ⟨_, rfl⟩
          rw [hp] at hra
          have hra' : wr.rangeAt b (off + k * 2) [.int .i64 p.1, .int .i64 p.2] := hra
          have hsz2 : (Try.prog.info? 62).map (·.size) = some ([.int .i64 p.1, .int .i64 p.2] : List Value).length := infoSegment
          have HP := Lib.hid hp
          have hlr := hbr.size
          have hba := hbr.alloc hlr (.cells #[.int .i64 p.1, .int .i64 p.2] 62)
          have hz : Blk (wr.alloc (.cells [.int .i64 p.1, .int .i64 p.2].toArray 62)) wr.heap.size 62 [.int .i64 p.1, .int .i64 p.2] := Blk.new wr _ _ _ rfl
          have hoa := ho.alloc (.cells #[.int .i64 p.1, .int .i64 p.2] 62)
          have hua := hur.alloc (.cells #[.int .i64 p.1, .int .i64 p.2] 62)
          have ci := sgIs_any (xs.length : Int) p
          clear hra hp ho hur hbr
          cases hi : segB xs.length p with
          | true =>
            rw [hi] at ci
            have HI := Lib.hid hi
            have HS2 := Lib.hid (segs_take_succ hlt hS.out (by rw [HP.out]; exact hi))
            have HPL := Lib.hid (show playG xs (l.take (k + 1)) = segT (playG xs (l.take k)) p by rw [playG_take_succ xs l k hlt, HP.out])
            have hpl := playG_length (xs := xs) hS.out
            have HPL2 := Lib.hid (show ((playG xs (l.take k)).length : Int) = (xs.length : Int) by rw [hpl])
            have hpn : (playG xs (l.take k)).length ≤ 1048576 := by rw [hpl]; exact hn
            clear hi hpl
            go_wp2_with (first | (refine wpList_load_mid rfl 62 _ rfl b (off + k * 2) rfl [.int .i64 p.1, .int .i64 p.2] _ hra' Try.underlying62 rfl hsz2 ?_))
            refine (ci _).mono ?_
            rintro e w3 ⟨rfl, hb3⟩
            have hz3 := hz.below hb3 (by simp)
            have k0 : w3.cell? ⟨wr.heap.size, 0, none⟩ = some (.int .i64 p.1) := hz3.cell 0
            have k1 : w3.cell? ⟨wr.heap.size, 1, none⟩ = some (.int .i64 p.2) := hz3.cell 1
            have hB3 := hba.trans (hb3.mono hba.size)
            go_wp2_with fail
            refine (sgTurn_any _ _ _ p _ (hoa.same hb3) hpn HI HPL2).mono ?_
            rintro e w4 ⟨r4, rfl, ho4, hf4, hb4⟩
            rw [← HPL.out] at ho4
            have hB4 := hB3.trans (hb4.mono hB3.size)
            have hf4' := hf4.mono hB3.size
            have hu4 := (hua.same hb3).same hb4
            have hs4 := Lib.hid (show w2.heap.size ≤ w4.heap.size by
              have h1 := hsz.out
              have h2 := hb3.size
              have h3 := hb4.size
              simp only [World.size_alloc] at h2
              omega)
            clear hoa hua hz hz3 hra' hba hB3 hf4 hb3 hb4 hsz
            go_wp2
            go_roundw
            case rel => exact ⟨k + 1, by omega, by go_num, HS2, ho4, hf4', hB4, hu4, hs4⟩
            case measure => simp [intOf] <;> omega
          | false =>
            rw [hi] at ci
            have HO := Lib.hid (okSegs_bad (xs := xs) hlt (by rw [HP.out]; exact hi))
            have HM := Lib.hid (show mPlaySegments xs l = [] from if_neg (by rw [HO.out]; exact Bool.false_ne_true))
            clear hi
            go_wp2_with (first | (refine wpList_load_mid rfl 62 _ rfl b (off + k * 2) rfl [.int .i64 p.1, .int .i64 p.2] _ hra' Try.underlying62 rfl hsz2 ?_))
            refine (ci _).mono ?_
            rintro e w3 ⟨rfl, hb3⟩
            have hB3 := hba.trans (hb3.mono hba.size)
            go_wp2
            go_ret2
            exact ⟨_, by rw [HO.out]; rfl, by rw [HM.out]; exact OwnI.nil _, From.nil _ _ _, hB3⟩
        · obtain rfl : k = l.length := by omega
          have HO := Lib.hid (okSegs_all HG.out h40 hS.out)
          have HM := Lib.hid (show mPlaySegments xs l = playG xs (l.take l.length) by rw [List.take_length]; exact if_pos HO.out)
          go_wp2
          go_ret2
          exact ⟨_, by rw [HO.out]; rfl, by rw [HM.out]; exact ho, hf, hbr⟩
    · have HO := Lib.hid (show okSegs xs l = false by unfold okSegs; rw [decide_eq_false h40]; simp)
      have HM := Lib.hid (show mPlaySegments xs l = [] from if_neg (by rw [HO.out]; exact Bool.false_ne_true))
      have h41 : (40 : Int) < l.length := by omega
      clear hg
      go_enter Try.func52, Try.ntmps52
      go_wp2_with fail
      refine (cg).mono ?_
      rintro e w1 ⟨rfl, hb⟩
      go_wp2
      go_ret2
      exact ⟨_, by rw [HO.out]; rfl, by rw [HM.out]; exact OwnI.nil _, From.nil _ _ _, hb⟩
  | false =>
    have HO := Lib.hid (show okSegs xs l = false by unfold okSegs; rw [hg]; rfl)
    have HM := Lib.hid (show mPlaySegments xs l = [] from if_neg (by rw [HO.out]; exact Bool.false_ne_true))
    have cg := stGood_any _ _ _ hv hn
    rw [hg] at cg
    clear hg
    go_enter Try.func52, Try.ntmps52
    go_wp2_with fail
    refine (cg).mono ?_
    rintro e w1 ⟨rfl, hb⟩
    go_wp2
    go_ret2
    exact ⟨_, by rw [HO.out]; rfl, by rw [HM.out]; exact OwnI.nil _, From.nil _ _ _, hb⟩

end Go.Proofs.Ytmlikchhkblohaa

