import Derived.Test.YtmlikchhkblohaaU4
import Derived.Test.YtmlikchhkblohaaS15
import Derived.Test.YtmlikchhkblohaaS8
namespace Go.Proofs.Ytmlikchhkblohaa
open Go Go.RowKit Go.Pan

-- the stacks before a stack, the tree: spec's side
theorem grown_of_belowX {w w' : World} (h : Below w.heap.size w w') (row : Option Nat) : w.grownBy w' row := ⟨h.os, h.tape, h.output, h.size, fun k hk _ => h.block k hk⟩

set_option maxHeartbeats 4000000 in
set_option maxRecDepth 100000 in
theorem toBefore_any (v : Value) (xs : List Int) (w : World) (hv : OwnI w v xs) (hG : Hid (Pan.Good xs)) :
    Calls Try.prog 145 #[v] w fun e w' => ∃ r hs, e = .returned r ∧ SS w' w.heap.size w'.heap.size r hs (befL xs) ∧ Below w.heap.size w w' := by
  obtain ⟨ad, cap, rfl, hcc, _, _⟩ := hv.shape
  obtain ⟨i0, hi, hz0, hz1, hz2⟩ := info_parts Try.info22
  have HI := Lib.hid hi
  have HZ0 := Lib.hid hz0
  have HZ1 := Lib.hid hz1
  have HZ2 := Lib.hid hz2
  have h9 := hG.out.le9
  have h1 := hG.out.1
  have hn : xs.length ≤ 1048576 := by omega
  obtain ⟨g, off, rfl, hgl, hcell, _⟩ := hv.at (by omega)
  have HC := Lib.hid (show ∀ j, j < xs.length → w.cell? ⟨g, off + j, none⟩ = some (iv (xs.getD j 0)) from fun j hj => by
    rw [hcell j (by omega), List.getElem?_map, List.getElem?_eq_getElem hj, getD_eq hj]; rfl)
  have HV := Lib.hid hv
  have HH0 := Lib.hid (show SS w w.heap.size w.heap.size (.slice none 0 0) [] (befTo xs 1) by rw [befTo_one]; exact SS.nil _ _ _)
  have hown0 : w.ownsRow w.heap.size 22 1 (.slice none 0 0) 0 [] := World.ownsRow_nil _ _ _ _
  clear hi hz0 hz1 hz2 hcell hv
  go_enter Try.func145, Try.ntmps145
  go_wp2
  go_loopw [3, 4, 10] (fun o i _ wr => ∃ (k : Nat) (hs : List Value), 1 ≤ k ∧ k ≤ xs.length ∧ i = .int .i64 ((k : Int) + 1) ∧ Hid (SS wr w.heap.size wr.heap.size o hs (befTo xs k)) ∧ Hid (wr.ownsRow w.heap.size 22 1 o hs.length hs) ∧ Below w.heap.size w wr) (fun _ i _ _ => xs.length + 1 - (intOf i).toNat)
  case atStart => exact ⟨1, [], Nat.le_refl _, h1, rfl, HH0, Lib.hid hown0, Below.refl _ _⟩
  case round =>
    obtain ⟨k, hs, hk1, hk, rfl, hS, hown, hbr⟩ := hrel
    clear HH0 hown0
    by_cases hlt : k < xs.length
    · have hlt' : (k : Int) + 1 ≤ xs.length := by omega
      have hlen : hs.length ≤ k := by rw [hS.out.len]; exact befTo_length xs k
      cases hb : befB xs k with
      | true =>
        have hat := (befB_at hb).2
        have HN1 := Lib.hid (befTo_yes hb)
        have hc1 := (hbr.cell (p := ⟨g, off + k, none⟩) hgl).trans (HC.out k hlt)
        rw [hat] at hc1
        have he : (((k : Int) + 1) == ((k : Int) + 1)) = true := by simp
        have hvr := HV.out.below hbr (Nat.le_refl _)
        have hul : (turnL xs (k + 1)).length = xs.length := turnL_length _ _
        have HUL := Lib.hid hul
        have c5 := stTurn_any _ xs (k + 1) wr hvr hn (by omega)
        have hk64 : ((k + 1 : Nat) : Int) = (k : Int) + 1 := by omega
        rw [hk64] at c5
        clear hb hat hul hk64
        go_wp2_with fail
        refine c5.mono ?_
        rintro e w5 ⟨r5, rfl, ho5, hf5, hb5⟩
        obtain ⟨a5, cp5, rfl, _, _, _⟩ := ho5.shape
        have hz5 := hb5.size
        have hzr := hbr.size
        have hown5 := hown.out.kept (grown_of_belowX hb5 none) (by cases h : Value.ownBlock u3 with | none => exact .inl rfl | some g => exact .inr (by simp))
        have hbr5 := hbr.trans (hb5.mono hzr)
        have HI5 := Lib.hid (show In wr.heap.size (w5.heap.size + 1) (.slice a5 (turnL xs (k + 1)).length cp5) from fun g hg => ⟨hf5 g hg, Nat.lt_succ_of_lt (ho5.lt g hg)⟩)
        have HS5 := Lib.hid ((hS.out.below hb5 (Nat.le_refl _)).below (below_new w5 (.cells #[.slice a5 (turnL xs (k + 1)).length cp5] 22)) (by omega))
        have HO5 := Lib.hid (ho5.alloc (.cells #[.slice a5 (turnL xs (k + 1)).length cp5] 22))
        have hs5 := hbr5.size
        clear hb5 ho5 hf5 hvr hS hown c5
        go_wp2_with (at_builtin; refine wpList_append_lies _ rfl _ _ 34 rfl w.heap.size 22 i0 _ 1 24 Try.underlying34 HI.out HZ0.out HZ1.out HZ2.out rfl (by omega) _ hs.length hs rfl (hown5.alloc _) _ 1 1 [.slice a5 (turnL xs (k + 1)).length cp5] rfl (by simp) (World.news_of_block (heap_alloc_new _ _)) (by simp [Value.oneCell']) (by omega) (by unfold maxLen; omega) (by omega) (by simp; omega) (w5.heap.size + 1) (by simp) ?_)
        intro g8 cap8 w8 hown8 hgr8 hat8 hlt8
        have hS8 := SS.app (cap := cap8) HS5.out (by simp; omega) HO5.out (by simpa using HI5.out) hown8 hgr8 (by simpa using hat8) hlt8 (by omega)
        rw [← HN1.out] at hS8
        have hbr8 := (hbr5.alloc hs5 (.cells #[.slice a5 (turnL xs (k + 1)).length cp5] 22)).grown hgr8 (by simp; omega) (fun b hb => (HS5.out.inn b hb).1)
        have HS8 := Lib.hid hS8
        have HW8 := Lib.hid (show w8.ownsRow w.heap.size 22 1 (.slice (some ⟨g8, 0, none⟩) (hs.length + 1) cap8) (hs ++ [Value.slice a5 (turnL xs (k + 1)).length cp5]).length (hs ++ [Value.slice a5 (turnL xs (k + 1)).length cp5]) by rw [List.length_append]; exact hown8)
        clear hS8 hgr8 hat8 hbr5 hown5 hown8
        go_wp2
        go_roundw
        case rel => exact ⟨k + 1, _, by omega, by omega, by go_num, HS8, HW8, hbr8⟩
        case measure => simp [intOf] <;> omega
      | false =>
        have HN1 := Lib.hid (befTo_no hb)
        have hc1 := (hbr.cell (p := ⟨g, off + k, none⟩) hgl).trans (HC.out k hlt)
        obtain ⟨x, hx⟩ : ∃ x, xs.getD k 0 = x := ⟨_, rfl⟩
        rw [hx] at hc1
        have he : (x == ((k : Int) + 1)) = false := by
          unfold befB at hb
          have := of_decide_eq_false hb
          rw [beq_eq_false_iff_ne]
          intro e
          exact this ⟨hk1, by rw [hx]; exact e⟩
        clear hb hx
        go_wp2
        go_roundw
        case rel => exact ⟨k + 1, hs, by omega, by omega, by go_num, Lib.hid (by rw [HN1.out]; exact hS.out), hown, hbr⟩
        case measure => simp [intOf] <;> omega
    · obtain rfl : k = xs.length := by omega
      have hge : ¬ ((xs.length : Int) + 1 ≤ xs.length) := by omega
      have HF := Lib.hid (show SS wr w.heap.size wr.heap.size u3 hs (befL xs) from hS.out)
      clear hS hown
      go_wp2
      go_ret
      exact ⟨_, rfl, ⟨_, HF.out⟩, hbr⟩

theorem lvl_append : ∀ (d : Nat) (A B : List (List Int)), lvl d (A ++ B) = lvl d A ++ lvl d B
  | 0, _, _ => rfl
  | d + 1, A, B => by rw [lvl, lvl, lvl, List.flatMap_append, lvl_append d]
theorem lvl_child : ∀ (d : Nat) (L : List (List Int)), lvl d L = [] → ∀ x ∈ L, lvl d [x] = []
  | d, [], _, x, hx => by cases hx
  | d, y :: L, h, x, hx => by
    rw [show y :: L = [y] ++ L from rfl, lvl_append] at h
    have h := List.append_eq_nil_iff.1 h
    rcases List.mem_cons.1 hx with rfl | hx
    · exact h.1
    · exact lvl_child d L h.2 x hx
theorem totF_one (f : Nat) (s : List Int) : totF (f + 1) [s] = 1 + totF f (befL s) := by rw [totF]; simp
theorem levF_one (f : Nat) (s : List Int) : levF (f + 1) [s] = levF f (befL s) + 1 := by rw [levF]; simp

set_option maxHeartbeats 4000000 in
set_option maxRecDepth 100000 in
theorem toTree_any : ∀ (f : Nat) (s : List Int) (v : Value) (w : World) (_ : OwnI w v s) (_ : Hid (Pan.Good s)) (_ : Hid (lvl f [s] = [])) (_ : f ≤ 60),
    Calls Try.prog 91 #[v] w fun e w' => e = .returned (.tuple #[.int .i64 (totF f [s] : Nat), .int .i64 ((levF f [s] : Nat) - 1 : Int)]) ∧ Below w.heap.size w w' := by
  intro f
  induction f with
  | zero => intro s v w hv hG hL; exact absurd hL.out (by simp [lvl])
  | succ f ih =>
    intro s v w hv hG hL hf
    have hl9 := hG.out.le9
    have hgb : GoodAll s.length (befL s) := by
      have := (goodAll_one hG.out).bef
      simpa using this
    have HB := Lib.hid hgb
    have HCH := Lib.hid (show ∀ x ∈ befL s, lvl f [x] = [] from lvl_child f _ (by have := hL.out; rw [lvl] at this; simpa using this))
    have HT := Lib.hid (totF_one f s)
    have HV := Lib.hid (levF_one f s)
    have hlen : (befL s).length ≤ 9 := by have := befTo_length s s.length; unfold befL; omega
    have hnd : (befL s).Nodup := befTo_nodup s _
    have HTB := Lib.hid (show ∀ k, totF f ((befL s).take k) ≤ 60000000000 from fun k => by
      have h1 := totF_le f (n := s.length) (L := (befL s).take k) (fun q hq => hgb q (List.mem_of_mem_take hq)) (List.Sublist.nodup (List.take_sublist _ _) hnd)
      have h2 : f * 1000000000 ≤ 60 * 1000000000 := Nat.mul_le_mul_right _ (by omega)
      omega)
    have HLB := Lib.hid (show ∀ k, levF f ((befL s).take k) ≤ 60 from fun k => by have := levF_le f ((befL s).take k); omega)
    have HST := Lib.hid (show ∀ k (h : k < (befL s).length), totF f ((befL s).take (k + 1)) = totF f ((befL s).take k) + totF f [(befL s)[k]] from fun k h => by
      rw [List.take_succ_eq_append_getElem h, totF_append])
    have HSL := Lib.hid (show ∀ k (h : k < (befL s).length), levF f ((befL s).take (k + 1)) = max (levF f ((befL s).take k)) (levF f [(befL s)[k]]) from fun k h => by
      rw [List.take_succ_eq_append_getElem h, levF_append])
    have HT0 := Lib.hid (show totF f ((befL s).take 0) = 0 by rw [List.take_zero]; exact totF_nil f)
    have HL0 := Lib.hid (show levF f ((befL s).take 0) = 0 by rw [List.take_zero]; exact levF_nil f)
    have HTA := Lib.hid (show (befL s).take (befL s).length = befL s from List.take_length)
    have hf1 : ∀ x ∈ befL s, 1 ≤ f := fun x hx => by
      cases f with
      | zero => exact absurd (HCH.out x hx) (by simp [lvl])
      | succ f => omega
    have HF1 := Lib.hid hf1
    obtain ⟨m, hm⟩ : ∃ m, (befL s).length = m := ⟨_, rfl⟩
    have HM := Lib.hid hm
    have hm9 : m ≤ 9 := by omega
    have cB := toBefore_any v s w hv hG
    have IH := Lib.hid ih
    clear hgb hnd hf1 hv hm hlen ih
    go_enter Try.func91, Try.ntmps91
    go_wp2_with fail
    refine cB.mono ?_
    rintro e w1 ⟨r, hs, rfl, hS, hb1⟩
    clear cB
    obtain ⟨ad, cp, rfl, hcc, _, _⟩ := hS.own.shape
    have hsl : hs.length = m := by rw [hS.len]; exact HM.out
    rw [hsl] at hcc hS ⊢
    have HS := Lib.hid hS
    have hz1 := hb1.size
    clear hS hsl
    go_wp2
    go_loopw [4, 5, 7, 8, 9, 13] (fun c d _ _ _ i wr => ∃ k : Nat, k ≤ m ∧ i = .int .i64 k ∧ c = .int .i64 (1 + (totF f ((befL s).take k) : Nat) : Int) ∧ d = .int .i64 (levF f ((befL s).take k) : Nat) ∧ Below w1.heap.size w1 wr) (fun _ _ _ _ _ i _ => m - (intOf i).toNat)
    case atStart => exact ⟨0, Nat.zero_le _, rfl, by rw [HT0.out]; rfl, by rw [HL0.out]; rfl, Below.refl _ _⟩
    case round =>
      obtain ⟨k, hk, rfl, rfl, rfl, hbr⟩ := hrel
      have htk := HTB.out k
      have hlk := HLB.out k
      by_cases hlt : k < m
      · have hlt' : (k : Int) < m := by omega
        have hkl : k < (befL s).length := by rw [HM.out]; exact hlt
        obtain ⟨g, off, rfl, u, hu, hou, hin, _, hcu⟩ := HS.out.at k hkl
        have hcr := (hbr.cell (p := ⟨g, off + k, none⟩) (World.block_lt_of_cell? w1 _ hcu)).trans hcu
        have hmem := List.getElem_mem hkl
        have HGk := Lib.hid ((HB.out _ hmem).1)
        have HLk := Lib.hid (HCH.out _ hmem)
        have hour := hou.below hbr (Nat.le_refl _)
        have hf60 : f ≤ 60 := by omega
        have c2 := IH.out (befL s)[k] u wr hour HGk HLk hf60
        have htk1 := HTB.out (k + 1)
        have hlk1 := HLB.out (k + 1)
        have e1 := HST.out k hkl
        have e2 := HSL.out k hkl
        have hpos : 1 ≤ levF f [(befL s)[k]] := by
          obtain ⟨f', rfl⟩ : ∃ f', f = f' + 1 := ⟨f - 1, by have := HF1.out _ hmem; omega⟩
          rw [levF_one]; omega
        obtain ⟨T, hT⟩ : ∃ T, totF f [(befL s)[k]] = T := ⟨_, rfl⟩
        obtain ⟨L, hL2⟩ : ∃ L, levF f [(befL s)[k]] = L := ⟨_, rfl⟩
        obtain ⟨A, hA⟩ : ∃ A, totF f ((befL s).take k) = A := ⟨_, rfl⟩
        obtain ⟨D, hD⟩ : ∃ D, levF f ((befL s).take k) = D := ⟨_, rfl⟩
        rw [hT, hA] at e1
        rw [hL2, hD] at e2
        rw [hT, hL2] at c2
        rw [hA] at htk
        rw [hD] at hlk
        rw [hL2] at hpos
        rw [hA, hD]
        have hAT : A + T ≤ 60000000000 := by omega
        have hL60 : L ≤ 60 := by omega
        have E1 := Lib.hid (show ((1 : Int) + (totF f ((befL s).take (k + 1)) : Nat)) = (1 + (A : Int)) + (T : Int) by rw [e1]; omega)
        have E2 := Lib.hid (show ((levF f ((befL s).take (k + 1)) : Nat) : Int) = if L < D then (D : Int) else (L : Int) by rw [e2]; split <;> omega)
        obtain ⟨au, cu, rfl, _, _, _⟩ := hour.shape
        clear hu hou hin hcu hmem hour HGk HLk e1 e2 hT hL2 hA hD htk1 hlk1
        go_wp2_with fail
        refine c2.mono ?_
        rintro e w3 ⟨rfl, hb3⟩
        clear c2
        have hbr3 := hbr.trans (hb3.mono hbr.size)
        go_wp2_with fail
        refine (l1Most_any _ _ _).mono ?_
        rintro e w4 ⟨rfl, rfl⟩
        go_wp2
        go_roundw
        case rel => exact ⟨k + 1, by omega, by go_num, by rw [E1.out], by rw [E2.out], hbr3⟩
        case measure => simp [intOf] <;> omega
      · obtain rfl : k = m := by omega
        have E1 := Lib.hid (show ((totF (f + 1) [s] : Nat) : Int) = 1 + (totF f ((befL s).take k) : Nat) by rw [HT.out, ← HM.out, HTA.out]; omega)
        have E2 := Lib.hid (show (((levF (f + 1) [s] : Nat) : Int) - 1) = (levF f ((befL s).take k) : Nat) by rw [HV.out, ← HM.out, HTA.out]; omega)
        go_wp2
        go_ret2
        exact ⟨by rw [E1.out, E2.out]; rfl, hb1.trans (hbr.mono hz1)⟩

theorem sTreeSize_any (v : Value) (xs : List Int) (w : World) (hv : OwnI w v xs) (hn : xs.length ≤ 1048576) :
    Calls Try.prog 37 #[v] w fun e w' => e = .returned (.tuple #[.int .i64 (mTreeSize xs), .bool (goodB xs)]) ∧ Below w.heap.size w w' := by
  have c := stGood_any _ _ _ hv hn
  cases hg : goodB xs with
  | true =>
    have HG := Lib.hid (goodB_iff.1 hg)
    have HM := Lib.hid (show mTreeSize xs = (totF 60 [xs] : Int) from if_pos hg)
    have HL := Lib.hid (show lvl 60 [xs] = [] from lvl_end (goodAll_one HG.out) (by omega))
    rw [hg] at c
    clear hg
    go_enter Try.func37, Try.ntmps37
    go_wp2_with fail
    refine (c).mono ?_
    rintro e w1 ⟨rfl, hb⟩
    have hv1 := hv.same hb
    clear c hv
    go_wp2_with fail
    refine (toTree_any 60 _ _ _ hv1 HG HL (Nat.le_refl _)).mono ?_
    rintro e w2 ⟨rfl, hb2⟩
    have hB := hb.trans (hb2.mono hb.size)
    go_wp2
    go_ret2
    exact ⟨by rw [HM.out]; rfl, hB⟩
  | false =>
    have HM := Lib.hid (show mTreeSize xs = 0 from if_neg (by rw [hg]; exact Bool.false_ne_true))
    rw [hg] at c
    clear hg
    go_enter Try.func37, Try.ntmps37
    go_wp2_with fail
    refine (c).mono ?_
    rintro e w1 ⟨rfl, hb⟩
    go_wp2
    go_ret2
    exact ⟨by rw [HM.out]; rfl, hb⟩

theorem sDepthBefore_any (v : Value) (xs : List Int) (w : World) (hv : OwnI w v xs) (hn : xs.length ≤ 1048576) :
    Calls Try.prog 41 #[v] w fun e w' => e = .returned (.tuple #[.int .i64 (mDepthBefore xs), .bool (goodB xs)]) ∧ Below w.heap.size w w' := by
  have c := stGood_any _ _ _ hv hn
  cases hg : goodB xs with
  | true =>
    have HG := Lib.hid (goodB_iff.1 hg)
    have HM := Lib.hid (show mDepthBefore xs = (levF 60 [xs] : Int) - 1 from if_pos hg)
    have HL := Lib.hid (show lvl 60 [xs] = [] from lvl_end (goodAll_one HG.out) (by omega))
    rw [hg] at c
    clear hg
    go_enter Try.func41, Try.ntmps41
    go_wp2_with fail
    refine (c).mono ?_
    rintro e w1 ⟨rfl, hb⟩
    have hv1 := hv.same hb
    clear c hv
    go_wp2_with fail
    refine (toTree_any 60 _ _ _ hv1 HG HL (Nat.le_refl _)).mono ?_
    rintro e w2 ⟨rfl, hb2⟩
    have hB := hb.trans (hb2.mono hb.size)
    go_wp2
    go_ret2
    exact ⟨by rw [HM.out]; rfl, hB⟩
  | false =>
    have HM := Lib.hid (show mDepthBefore xs = 0 from if_neg (by rw [hg]; exact Bool.false_ne_true))
    rw [hg] at c
    clear hg
    go_enter Try.func41, Try.ntmps41
    go_wp2_with fail
    refine (c).mono ?_
    rintro e w1 ⟨rfl, hb⟩
    go_wp2
    go_ret2
    exact ⟨by rw [HM.out]; rfl, hb⟩

end Go.Proofs.Ytmlikchhkblohaa

