import Derived.Test.YtdkidfilnbglgaaV26
namespace Go.Proofs.Ytdkidfilnbglgaa
open Go Go.RowKit Go.Pan

theorem slContainsC_any (v : Value) (xs : List Int) (x : Int) (w : World) (hv : OwnI w v xs) (hn : xs.length ≤ 1048576) :
    Calls Try.prog 101 #[v, .int .i64 x] w fun e w' => e = .returned (.bool (decide (x ∈ xs))) ∧ Below w.heap.size w w' := by
  have hg : decide (1 ≤ placeL xs x) = decide (x ∈ xs) := by
    by_cases h : x ∈ xs
    · have := (placeL_bd h).1
      simp [h, this]
    · simp [h, placeL]
  have HG := Lib.hid hg
  clear hg
  go_enter Try.func101, Try.ntmps101
  go_wp2_with fail
  refine (Index_any v xs x _ hv hn).mono ?_
  rintro e w1 ⟨rfl, hb1⟩
  have hx1 : -1 ≤ placeL xs x - 1 := by simp [placeL]; split <;> omega
  go_wp2
  go_ret
  exact ⟨by show Ending.returned (.bool (decide (1 ≤ placeL xs x))) = _; rw [HG.out], hb1⟩

theorem ClipSSC_any (g n cap : Nat) (w : World) (hc : n ≤ cap) :
    Calls Try.prog 200 #[.slice (some ⟨g, 0, none⟩) n cap] w fun e w' => e = .returned (.slice (some ⟨g, 0, none⟩) n n) ∧ w = w' := by
  go_enter Try.func200, Try.ntmps200
  go_wp2
  go_ret
  exact ⟨by simp [Addr.add], rfl⟩

theorem mem_castL {k : Nat} {c : List Nat} : ((k : Int) ∈ castL c) ↔ k ∈ c := by
  unfold castL
  constructor
  · intro h
    obtain ⟨y, hy, e⟩ := List.mem_map.1 h
    obtain rfl : y = k := by omega
    exact hy
  · intro h; exact List.mem_map.2 ⟨k, h, rfl⟩

set_option maxRecDepth 100000 in
set_option maxHeartbeats 3200000 in
theorem cycles_any (xs : List Int) (w : World) (hg : Hid (Pan.Good xs)) :
    Calls Try.prog 169 #[tw xs, .int .i64 xs.length] w fun e w' => ∃ r hs, e = .returned r ∧ SS w' w.heap.size w'.heap.size r hs (cyclesL xs) ∧ Below w.heap.size w w' := by
  have h9 := hg.out.le9
  have hbx : Blk (w.alloc (.cells (twl xs).toArray 69)) w.heap.size 69 (twl xs) := Blk.new w _ (twl xs) _ rfl
  have hb0 := below_new w (.cells (twl xs).toArray 69)
  obtain ⟨i1, hi, hs0, hs1, hs2⟩ := info_parts Try.info22
  have HI := Lib.hid hi
  have HS0 := Lib.hid hs0
  have HS1 := Lib.hid hs1
  have HS2 := Lib.hid hs2
  clear hi hs0 hs1 hs2
  go_enter Try.func169, Try.ntmps169
  go_wp2
  go_step3
  go_wp2_with (at_make; refine wpList_make_own _ rfl _ _ 47 rfl (w.heap.size + 1) 22 i1 (.slice none 0 0) 1 Try.underlying47 HI.out HS0.out HS1.out _ _ _ (xs.length + 1) rfl rfl rfl ?b1 ?b2 ?b3 ?_)
  case b1 => rw [HS2.out]; omega
  case b2 => unfold maxLen; omega
  case b3 => simp
  intro w1 hown hgr
  have hO := (Own.of_row hown)
  have hbx1 := hbx.grown hgr (by simp)
  have hb1 := hb0.grown hgr hb0.size (fun k hk => by simp at hk)
  have hS1 : SS w1 (w.heap.size + 1) w1.heap.size (.slice (some ⟨w.heap.size + 1, 0, none⟩) 0 (xs.length + 1)) [] [] := by
    exact ⟨rfl, hO.1, fun g hg => ⟨hO.2 g hg, hO.1.lt g hg⟩, fun i u xs hu => by simp at hu, fun i j u u' _ hu => by simp at hu⟩
  have hs1 := hb1.size
  have hl1 := hbx1.lt
  obtain ⟨N0, hN0⟩ : ∃ x, w.heap.size + 1 = x := ⟨_, rfl⟩
  rw [hN0] at hS1 hown ⊢
  clear hO hbx hb0 hgr
  go_wp2
  go_step3
  go_wp2
  go_loopw [5, 6, 8, 14, 17, 18, 19] (fun v5 _ _ v14 _ _ _ wr => ∃ (k go cp : Nat) (hs : List Value), k ≤ xs.length + 1 ∧ v14 = .int .i64 k ∧ v5 = .slice (some ⟨go, 0, none⟩) (cycsTo (bfN xs) (xs.length + 1) k).length cp ∧ hs.length = (cycsTo (bfN xs) (xs.length + 1) k).length ∧ SS wr N0 wr.heap.size v5 hs ((cycsTo (bfN xs) (xs.length + 1) k).map castL) ∧ wr.ownsRow N0 22 1 v5 (cycsTo (bfN xs) (xs.length + 1) k).length hs ∧ Blk wr w.heap.size 69 (twl xs) ∧ Below w.heap.size w wr ∧ N0 ≤ wr.heap.size) (fun _ _ _ v14 _ _ _ _ => xs.length + 1 - (intOf v14).toNat)
  case atStart => exact ⟨0, _, _, [], Nat.zero_le _, rfl, rfl, rfl, hS1, hown, hbx1, hb1, by omega⟩
  case round =>
    obtain ⟨k, go, cp, hs, hk, rfl, rfl, hhl, hS, hown, hB, hbr, hNr⟩ := hrel
    clear hS1 hbx1 hb1
    by_cases hlt : k < xs.length + 1
    · have hlt' : (k : Int) < (xs.length : Int) + 1 := by omega
      obtain ⟨wo, hwo⟩ : ∃ x, wr = x := ⟨_, rfl⟩
      rw [hwo] at hS hown hB hbr hNr ⊢
      clear hwo
      have HSS := Lib.hid hS
      have HOW := Lib.hid hown
      have HBB := Lib.hid hB
      have hcl10 : (cycsTo (bfN xs) (xs.length + 1) k).length ≤ 10 := by have := cycsTo_length (bf_onto hg.out) k; omega
      have HHL := Lib.hid hhl
      clear hS hown hB hhl
      go_wp2
      go_loopw [8, 19] (fun _ v19 wi => ∃ i : Nat, i ≤ (cycsTo (bfN xs) (xs.length + 1) k).length ∧ v19 = .int .i64 i ∧ Hid (∀ c ∈ (cycsTo (bfN xs) (xs.length + 1) k).take i, k ∉ c) ∧ Below wo.heap.size wo wi) (fun _ v19 _ => (cycsTo (bfN xs) (xs.length + 1) k).length - (intOf v19).toNat)
      case atStart => exact ⟨0, Nat.zero_le _, rfl, Lib.hid (by simp), Below.refl _ _⟩
      case round =>
        obtain ⟨i, hi, rfl, hno, hbi⟩ := hrel
        by_cases hil : i < (cycsTo (bfN xs) (xs.length + 1) k).length
        · have hil' : (i : Int) < ((cycsTo (bfN xs) (xs.length + 1) k).length : Int) := by omega
          have hTK := List.take_succ_eq_append_getElem hil
          have hmem := List.getElem_mem hil
          have hrow := cyclesL_row hg.out
          obtain ⟨g', off, hadd, u, hu, hou, _, _, hcu⟩ := (HSS.out.below hbi (Nat.le_refl _)).at i (by rw [List.length_map]; exact hil)
          simp only [Option.some.injEq, Addr.mk.injEq, and_true] at hadd
          obtain ⟨rfl, rfl⟩ := hadd
          rw [List.getElem_map] at hou
          rw [Nat.zero_add] at hcu
          obtain ⟨c, hc⟩ : ∃ c, (cycsTo (bfN xs) (xs.length + 1) k)[i] = c := ⟨_, rfl⟩
          rw [hc] at hTK hmem hou
          have hcl : (castL c).length ≤ 1048576 := by
            obtain ⟨x, hx, rfl⟩ := (cycsTo_mem (bf_onto hg.out) (Nat.le_of_lt hlt)).1 c hmem
            have := (per_spec (bf_onto hg.out) (show x < xs.length + 1 by omega)).2.1
            rw [castL_length]
            unfold cycL
            rw [cycTo_length]
            omega
          have HTK := Lib.hid hTK
          obtain ⟨au, cu, rfl, _, _, _⟩ := hou.shape
          have ct := slContainsC_any _ (castL c) (k : Int) wr hou hcl
          by_cases hin : k ∈ c
          · have hCY := cycsTo_yes (inSome_iff.2 ⟨c, hmem, hin⟩)
            rw [decide_eq_true (mem_castL.2 hin)] at ct
            clear hTK hc hin hmem hrow hou hu
            go_wp2_with fail
            refine ct.mono ?_
            rintro e w4 ⟨rfl, hb4⟩
            have hbi4 := hbi.trans (hb4.mono hbi.size)
            have hz4 := hbi4.size
            have HR := Lib.hid (show _ ∧ _ ∧ _ from ⟨(HSS.out.below hbi4 (Nat.le_refl _)).mono (Nat.le_refl _) hz4, HOW.out.kept (grown_of_below hbi4 none) (.inr (by intro h; cases h)), HBB.out.below hbi4 HBB.out.lt⟩)
            have hbr4 := hbr.trans (hbi4.mono hbr.size)
            clear hb4 hbi hbi4
            go_wp2
            go_roundw
            case rel => exact ⟨k + 1, go, cp, hs, by omega, by go_num, by rw [hCY], by rw [hCY]; exact HHL.out, by rw [hCY]; exact HR.out.1, by rw [hCY]; exact HR.out.2.1, HR.out.2.2, hbr4, by omega⟩
            case measure => simp [intOf] <;> omega
          · rw [decide_eq_false (fun h => hin (mem_castL.1 h))] at ct
            have hno2 := Lib.hid (show ∀ c' ∈ (cycsTo (bfN xs) (xs.length + 1) k).take (i + 1), k ∉ c' from fun c' hc' => by
              rw [hTK] at hc'
              rcases List.mem_append.1 hc' with h | h
              · exact hno.out c' h
              · rw [List.mem_singleton.1 h]; exact hin)
            clear hTK hc hin hmem hrow hou hu
            go_wp2_with fail
            refine ct.mono ?_
            rintro e w4 ⟨rfl, hb4⟩
            have hbi4 := hbi.trans (hb4.mono hbi.size)
            clear hb4 hbi
            go_wp2
            go_roundw
            case rel => exact ⟨i + 1, by omega, by go_num, hno2, hbi4⟩
            case measure => simp [intOf] <;> omega
        · obtain rfl : i = (cycsTo (bfN xs) (xs.length + 1) k).length := by omega
          have hge : ¬ (((cycsTo (bfN xs) (xs.length + 1) k).length : Int) < ((cycsTo (bfN xs) (xs.length + 1) k).length : Int)) := by omega
          have hin : inSome (cycsTo (bfN xs) (xs.length + 1) k) k = false := by
            cases h : inSome (cycsTo (bfN xs) (xs.length + 1) k) k with
            | false => rfl
            | true =>
              obtain ⟨c, hc, hkc⟩ := inSome_iff.1 h
              exact absurd hkc (hno.out c (by rw [List.take_length]; exact hc))
          have hCY := cycsTo_no hin
          have hS1 := (HSS.out.below hbi (Nat.le_refl _)).mono (Nat.le_refl _) hbi.size
          have hown1 := HOW.out.kept (grown_of_below hbi none) (.inr (by intro h; cases h))
          have hB1 := HBB.out.below hbi HBB.out.lt
          have hbr1 := hbr.trans (hbi.mono hbr.size)
          have hz1 := hbi.size
          clear hbi hno hin
          go_wp2_with (first | (refine wpList_load_tower rfl _ rfl w.heap.size xs h9 rfl hB1 ?_))
          refine (cycleFrom_any xs k _ hg (by omega)).mono ?_
          rintro e w4 ⟨r4, rfl, ho4, hf4, hb4⟩
          obtain ⟨a4, c4, rfl, _, _, _⟩ := ho4.shape
          obtain ⟨z, hz⟩ : ∃ z, castL (cycL (bfN xs) (xs.length + 1) k) = z := ⟨_, rfl⟩
          have HZ := Lib.hid hz
          rw [hz] at ho4 hf4 ⊢
          have hz4 := hb4.size
          have hown4 := hown1.kept (grown_of_below hb4 none) (.inr (by intro h; cases h))
          have hbr4 := hbr1.trans (hb4.mono hbr1.size)
          have HB4 := Lib.hid (hB1.below hb4 hB1.lt)
          have HI4 := Lib.hid (show In wr.heap.size (w4.heap.size + 1) (.slice a4 z.length c4) from fun g hg => ⟨hf4 g hg, Nat.lt_succ_of_lt (ho4.lt g hg)⟩)
          have HS4 := Lib.hid ((hS1.below hb4 (Nat.le_refl _)).below (below_new w4 (.cells #[.slice a4 z.length c4] 22)) hz4)
          have HO4 := Lib.hid (ho4.alloc (.cells #[.slice a4 z.length c4] 22))
          clear hz hown1 hbr1 hb4 ho4 hf4 hB1
          go_wp2_with (at_builtin; refine wpList_append_lies _ rfl _ _ 47 rfl N0 22 i1 _ 1 24 Try.underlying47 HI.out HS0.out HS1.out HS2.out rfl (by omega) (.slice (some ⟨go, 0, none⟩) (cycsTo (bfN xs) (xs.length + 1) k).length cp) (cycsTo (bfN xs) (xs.length + 1) k).length hs rfl (hown4.alloc _) _ 1 1 [.slice a4 z.length c4] rfl (by simp) (World.news_of_block (heap_alloc_new _ _)) (by simp [Value.oneCell']) (by omega) (by unfold maxLen; omega) (by omega) (by simp; omega) (w4.heap.size + 1) (by simp) ?_)
          intro g6 cap6 w6 hown6 hgr6 hat6 hlt6
          have hS6 := SS.app (cap := cap6) HS4.out (by simp; omega) HO4.out (by simpa using HI4.out) (by rw [HHL.out]; exact hown6) hgr6 (by simpa using hat6) hlt6 (by omega)
          have hCl : (cycsTo (bfN xs) (xs.length + 1) (k + 1)).length = (cycsTo (bfN xs) (xs.length + 1) k).length + 1 := by rw [hCY]; simp
          have hCm : (cycsTo (bfN xs) (xs.length + 1) (k + 1)).map castL = (cycsTo (bfN xs) (xs.length + 1) k).map castL ++ [z] := by rw [hCY, List.map_append, ← HZ.out]; rfl
          rw [← hCm, HHL.out, ← hCl] at hS6
          rw [← hCl] at hown6
          have hB6 := (hbr4.alloc hbr4.size (.cells #[.slice a4 z.length c4] 22)).grown hgr6 (by simp; omega) (fun b hb => by have := (HSS.out.inn b hb).1; omega)
          have hBx6 := (HB4.out.alloc (.cells #[.slice a4 z.length c4] 22)).grown hgr6 (fun h => by have := (HSS.out.inn _ h).1; omega)
          have hsz6 := hgr6.size
          have HR6 := Lib.hid (show _ ∧ _ ∧ _ ∧ _ from ⟨hS6, hown6, hBx6, hB6⟩)
          have HL6 := Lib.hid (show (hs ++ [Value.slice a4 z.length c4]).length = (cycsTo (bfN xs) (xs.length + 1) (k + 1)).length by rw [List.length_append, HHL.out, hCl]; rfl)
          have HN6 := Lib.hid (show N0 ≤ w6.heap.size by simp at hsz6; omega)
          have HCL := Lib.hid hCl
          clear hS6 hown6 hBx6 hB6 hgr6 hat6 hCm hsz6 hCl hS1 hown4
          go_wp2
          go_roundw
          case rel => exact ⟨k + 1, g6, cap6, _, by omega, by go_num, by rw [HCL.out], HL6.out, by rw [← HCL.out]; exact HR6.out.1, by rw [← HCL.out]; exact HR6.out.2.1, HR6.out.2.2.1, HR6.out.2.2.2, HN6.out⟩
          case measure => simp [intOf] <;> omega
    · obtain rfl : k = xs.length + 1 := by omega
      have hge : ¬ ((xs.length : Int) + 1 < (xs.length : Int) + 1) := by omega
      obtain ⟨_, _, hv', _, hcap, _⟩ := (Own.of_row hown).1
      simp only [Value.slice.injEq, true_and] at hv'
      obtain ⟨rfl, rfl⟩ := hv'
      have HSC := Lib.hid (show SS wr N0 wr.heap.size (.slice (some ⟨go, 0, none⟩) (cycsTo (bfN xs) (xs.length + 1) (xs.length + 1)).length (cycsTo (bfN xs) (xs.length + 1) (xs.length + 1)).length) hs ((cycsTo (bfN xs) (xs.length + 1) (xs.length + 1)).map castL) from
        ⟨hS.len, by rw [hhl]; exact (Own.of_row hown).1.clip, hS.inn, hS.row, hS.apart⟩)
      clear hS hown hhl
      go_wp2_with fail
      refine (ClipSSC_any _ _ _ _ hcap).mono ?_
      rintro e w9 ⟨rfl, rfl⟩
      go_wp2
      try rw [Exit.noGoto_ret]
      go_ret
      exact ⟨_, hs, rfl, HSC.out.mono (by omega) (Nat.le_refl _), hbr⟩

theorem ss_shape {w : World} {B N : Nat} {v : Value} {hs : List Value} {xss : List (List Int)} (h : SS w B N v hs xss) : ∃ a c, v = .slice a xss.length c := by
  obtain ⟨a, c, rfl, _, _, _⟩ := h.own.shape
  exact ⟨a, c, by rw [h.len]⟩