import Derived.Test.YtdlnniciccpchaaS2A
import Derived.Test.YtdlnniciccpchaaS8
import Derived.Test.YtdlnniciccpchaaS15
import Derived.Test.YtdlnniciccpchaaFaX1
namespace Go.Proofs.Ytdlnniciccpchaa
open Go Go.RowKit Go.Pan

theorem wpList_store3p {P : Program} {ops : Array Oper} {rest : List Oper} {o : Oper} {a : Act} {w : World} {Q : Exit → Act → World → Prop}
    (hgd : o.guard = none) (ty : TypeId) (x y : Operand) (ho : o.op = .store ty x y) (g : Nat) (c0 c1 c2 : Value) (hx : a.eval x = .pointer (some ⟨g, 0, none⟩)) (hy : a.eval y = .agg #[c0, c1, c2])
    (t : TypeId) (old : List Value) (hg : Blk w g t old) (hi : (P.info? ty).map (·.size) = some 3) (hold : old.length = 3) (h1 : c0.oneCell' = true ∧ c1.oneCell' = true ∧ c2.oneCell' = true)
    (h : ∀ w', Blk w' g t [c0, c1, c2] → w.grownBy w' (some g) → wpList P ops Q rest (a.put o.dst undef) w') : wpList P ops Q (o :: rest) a w := by
  refine wpList_store3 hgd ty x y ho g c0 c1 c2 hx hy t old hg hi hold h1 ?_
  exact h _ (hg.setRow [c0, c1, c2]) ⟨rfl, rfl, rfl, by simp [World.setRow], fun k _ hk => setRow_other w g k _ (fun e => hk (by rw [e]))⟩
theorem grown_of_below' {w w' : World} (h : Below w.heap.size w w') (row : Option Nat) : w.grownBy w' row := ⟨h.os, h.tape, h.output, h.size, fun k hk _ => h.block k hk⟩

set_option maxHeartbeats 4000000 in
set_option maxRecDepth 100000 in
theorem sWorstStacks_any (n : Int) (w : World) :
    Calls Try.prog 19 #[.int .i64 n] w fun e w' => ∃ r hs, e = .returned (.tuple #[r, .bool (inB n 1 7)]) ∧ SS w' w.heap.size w'.heap.size r hs (mWorstStacks n) ∧ Below w.heap.size w w' := by
  have c := faNumber_any n w
  cases hg : inB n 1 7 with
  | true =>
    have HM := Lib.hid (show mWorstStacks n = worstS n.toNat from if_pos hg)
    obtain ⟨m, rfl, hm, h7⟩ := inB_seven hg
    rw [Int.toNat_natCast] at HM
    rw [hg] at c
    have HC := Lib.hid hm
    have hfl : fact m ≤ 5040 := by have h1 := fact_mono h7; have h2 : fact 7 = 5040 := rfl; omega
    have c1 := faAll_any m w HC h7
    have hdb : ∀ r, r < fact m → dS m r ≤ 14 := fun r hr => by have := dS_le hm hr; omega
    have HDB := Lib.hid hdb
    obtain ⟨i0, hi, hz0, hz1, hz2⟩ := info_parts Try.info22
    have HI := Lib.hid hi
    have HZ0 := Lib.hid hz0
    have HZ1 := Lib.hid hz1
    have HZ2 := Lib.hid hz2
    obtain ⟨N, hN⟩ : ∃ N, fact m = N := ⟨_, rfl⟩
    have HE := Lib.hid (show maxTo (dS m) N = peccN m by rw [← hN]; exact pmax_all m)
    have HP := Lib.hid (show pickTo (dS m) (unrank m) (peccN m) N = worstS m by rw [← hN]; exact ppick_all m)
    have HN := Lib.hid hN
    rw [hN] at hfl hdb c1 HDB
    clear hg hi hz0 hz1 hz2 hm hN hdb
    go_enter Try.func19, Try.ntmps19
    go_wp2_with fail
    refine c.mono ?_
    rintro e w0 ⟨rfl, rfl⟩
    clear c
    go_wp2_with fail
    refine c1.mono ?_
    rintro e w1 ⟨a, cc, s, S, rfl, HR, hb1⟩
    clear c1
    have hz : Blk (w1.alloc (.cells #[.slice none 0 0, .slice none 0 0, .slice none 0 0] 62)) w1.heap.size 62 [.slice none 0 0, .slice none 0 0, .slice none 0 0] := Blk.new _ _ [.slice none 0 0, .slice none 0 0, .slice none 0 0] _ rfl
    go_upto_region 4 with (refine wpList_store3p rfl 62 _ _ rfl w1.heap.size _ _ _ rfl rfl 62 _ hz (by kernel_rfl) rfl ⟨rfl, rfl, rfl⟩ ?_; intro w3 hbl hg3)
    have hb13 : Below w1.heap.size w1 w3 := (below_new w1 _).grown hg3 (by simp) (by intro k hk; cases hk; exact Nat.le_refl _)
    rw [← HN.out] at HR
    have HR3 := HR.below hb13 (Nat.le_refl _)
    have hB3 := hb1.trans (hb13.mono hb1.size)
    have hl0 : w3.cell? ⟨w1.heap.size, 0, none⟩ = some (.slice (some ⟨a, 0, none⟩) N N) := by rw [hbl.cell 0]; rfl
    have hl2 : w3.cell? ⟨w1.heap.size, 2, none⟩ = some (.slice (some ⟨s, 0, none⟩) N N) := by rw [hbl.cell 2]; rfl
    have hbl1 := hbl.lt
    obtain ⟨bl, hbe⟩ : ∃ b, w1.heap.size = b := ⟨_, rfl⟩
    rw [hbe] at hl0 hl2 hbl1 ⊢
    have hz3 := hB3.size
    have HR4 := Lib.hid HR3
    clear hb1 HR hz hg3 hb13 HR3 hbl hbe
    have HM0 := Lib.hid (maxTo_zero (dS m))
    have hl2k := Lib.hid hl2
    clear hl2
    go_wp2
    go_loop [5, 7, 19] (fun ms _ i => ∃ k : Nat, k ≤ N ∧ i = .int .i64 k ∧ ms = .int .i64 (maxTo (dS m) k : Nat)) (fun _ _ i => N - (intOf i).toNat)
    case atStart => exact ⟨0, Nat.zero_le _, rfl, by rw [HM0.out]; rfl⟩
    case round =>
      obtain ⟨k, hk, rfl, rfl⟩ := hrel
      by_cases hlt : k < N
      · have hlt' : (k : Int) < N := by omega
        obtain ⟨h1, _, _, _⟩ := HR4.out.at (r := k) (by rw [HN.out]; exact hlt)
        have HS := Lib.hid (show ((maxTo (dS m) (k + 1) : Nat) : Int) = if ((dS m k : Nat) : Int) < (maxTo (dS m) k : Nat) then ((maxTo (dS m) k : Nat) : Int) else ((dS m k : Nat) : Int) by
          rw [maxTo_succ]
          split <;> omega)
        go_wp2_with fail
        refine (l1Most_any _ _ _).mono ?_
        rintro e w5 ⟨rfl, rfl⟩
        rw [← HS.out]
        go_wp2
        go_round
        case rel => exact ⟨k + 1, by omega, by go_num, rfl⟩
        case measure => simp [intOf] <;> omega
      · obtain rfl : k = N := by omega
        have hge : (k : Int) ≤ k := Int.le_refl _
        have hEb : peccN m ≤ 14 := by rw [← HE.out]; exact maxTo_le HDB.out
        rw [HE.out]
        obtain ⟨E, hE⟩ : ∃ E, peccN m = E := ⟨_, rfl⟩
        rw [hE] at HP hEb ⊢
        have HH0 := Lib.hid (SS.nil w3 w3.heap.size w3.heap.size)
        have hown0 : w3.ownsRow w3.heap.size 24 1 (.slice none 0 0) 0 [] := World.ownsRow_nil _ _ _ _
        clear hE HM0
        go_wp2
        go_loopw [8, 9, 10, 30] (fun o _ _ i wr => ∃ (j : Nat) (hs : List Value), j ≤ k ∧ i = .int .i64 j ∧ Hid (SS wr w3.heap.size wr.heap.size o hs (pickTo (dS m) (unrank m) E j)) ∧ Hid (wr.ownsRow w3.heap.size 24 1 o hs.length hs) ∧ Below w3.heap.size w3 wr) (fun _ _ _ i _ => k - (intOf i).toNat)
        case atStart => exact ⟨0, [], Nat.zero_le _, rfl, HH0, Lib.hid hown0, Below.refl _ _⟩
        case round =>
          obtain ⟨j, hs, hj, rfl, hS, hown, hbr⟩ := hrel
          clear HH0 hown0
          by_cases hjl : j < k
          · have hjl' : (j : Int) < k := by omega
            have hjf : j < fact m := by rw [HN.out]; exact hjl
            obtain ⟨h1, _, hal, _⟩ := HR4.out.at (r := j) hjf
            have h1r := (hbr.cell (p := ⟨a, j, none⟩) hal).trans h1
            have hlen : hs.length ≤ j := by rw [hS.out.len]; exact pickTo_length (dS m) (unrank m) E j
            by_cases hd : dS m j = E
            · have HN1 := Lib.hid (pickTo_yes (u := unrank m) hd)
              rw [hd] at h1r h1
              have he : ((E : Int) == (E : Int)) = true := by simp
              rw [← HN.out] at hl2k
              obtain ⟨va, vc, hcs, hou⟩ := HR4.out.stAt HC.out (i := j) hjf
              have hsl := World.block_lt_of_cell? w3 _ hcs
              have hcr := (hbr.cell (p := ⟨s, j, none⟩) hsl).trans hcs
              have hl2r := (hbr.cell (p := ⟨bl, 2, none⟩) hbl1).trans hl2k.out
              rw [HN.out] at hl2r
              have hour := hou.below hbr (Nat.le_refl _)
              have hul : (unrank m j).length = m := (unrank_st HC.out.pos HC.out.le hjf).2
              have HUL := Lib.hid hul
              have hul2 : (unrank m j).length ≤ 1048576 := by omega
              clear hd h1 hcs hou hul
              go_wp2_with fail
              refine (l1Own_any _ (unrank m j) wr hour hul2).mono ?_
              rintro e w5 ⟨r5, rfl, ho5, hf5, hb5⟩
              obtain ⟨a5, c5, rfl, _, _, _⟩ := ho5.shape
              have hz5 := hb5.size
              have hzr := hbr.size
              have hown5 := hown.out.kept (grown_of_below' hb5 none) (by cases h : Value.ownBlock u8 with | none => exact .inl rfl | some g => exact .inr (by simp))
              have hbr5 := hbr.trans (hb5.mono hzr)
              have HI5 := Lib.hid (show In wr.heap.size (w5.heap.size + 1) (.slice a5 (unrank m j).length c5) from fun g hg => ⟨hf5 g hg, Nat.lt_succ_of_lt (ho5.lt g hg)⟩)
              have HS5 := Lib.hid ((hS.out.below hb5 (Nat.le_refl _)).below (below_new w5 (.cells #[.slice a5 (unrank m j).length c5] 24)) (by omega))
              have HO5 := Lib.hid (ho5.alloc (.cells #[.slice a5 (unrank m j).length c5] 24))
              have hs5 := hbr5.size
              clear hb5 ho5 hf5 hour hS hown
              go_wp2_with (at_builtin; refine wpList_append_lies _ rfl _ _ 36 rfl w3.heap.size 24 i0 _ 1 24 Try.underlying36 HI.out HZ0.out HZ1.out HZ2.out rfl (by omega) _ hs.length hs rfl (hown5.alloc _) _ 1 1 [.slice a5 (unrank m j).length c5] rfl (by simp) (World.news_of_block (heap_alloc_new _ _)) (by simp [Value.oneCell']) (by omega) (by unfold maxLen; omega) (by omega) (by simp; omega) (w5.heap.size + 1) (by simp) ?_)
              intro g8 cap8 w8 hown8 hgr8 hat8 hlt8
              have hS8 := SS.app (cap := cap8) HS5.out (by simp; omega) HO5.out (by simpa using HI5.out) hown8 hgr8 (by simpa using hat8) hlt8 (by omega)
              rw [← HN1.out] at hS8
              have hbr8 := (hbr5.alloc hs5 (.cells #[.slice a5 (unrank m j).length c5] 24)).grown hgr8 (by simp; omega) (fun b hb => (HS5.out.inn b hb).1)
              have HS8 := Lib.hid hS8
              have HW8 := Lib.hid (show w8.ownsRow w3.heap.size 24 1 (.slice (some ⟨g8, 0, none⟩) (hs.length + 1) cap8) (hs ++ [Value.slice a5 (unrank m j).length c5]).length (hs ++ [Value.slice a5 (unrank m j).length c5]) by rw [List.length_append]; exact hown8)
              clear hS8 hgr8 hat8 hbr5 hown5 hown8
              go_wp2
              go_roundw
              case rel => exact ⟨j + 1, _, by omega, by go_num, HS8, HW8, hbr8⟩
              case measure => simp [intOf] <;> omega
            · have HN1 := Lib.hid (pickTo_no (u := unrank m) hd)
              have he : (((dS m j : Nat) : Int) == (E : Int)) = false := by simp; omega
              clear hd
              go_wp2
              go_roundw
              case rel => exact ⟨j + 1, hs, by omega, by go_num, Lib.hid (by rw [HN1.out]; exact hS.out), hown, hbr⟩
              case measure => simp [intOf] <;> omega
          · obtain rfl : j = k := by omega
            have hge2 : (j : Int) ≤ j := Int.le_refl _
            have HF := Lib.hid (show SS wr w.heap.size wr.heap.size u8 hs (mWorstStacks (m : Int)) by rw [HM.out, ← HP.out]; exact hS.out.mono hz3 (Nat.le_refl _))
            have hB9 := hB3.trans (hbr.mono hz3)
            clear hS hown
            go_wp2
            go_ret2
            exact ⟨_, _, rfl, HF.out, hB9⟩
  | false =>
    have HM := Lib.hid (show mWorstStacks n = [] from if_neg (by rw [hg]; exact Bool.false_ne_true))
    rw [hg] at c
    clear hg
    go_enter Try.func19, Try.ntmps19
    go_wp2_with fail
    refine c.mono ?_
    rintro e w0 ⟨rfl, rfl⟩
    go_wp2
    go_ret2
    exact ⟨_, [], rfl, by rw [HM.out]; exact SS.nil _ _ _, Below.refl _ _⟩

end Go.Proofs.Ytdlnniciccpchaa

