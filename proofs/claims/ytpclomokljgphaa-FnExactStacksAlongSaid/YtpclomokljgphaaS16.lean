import Derived.Test.YtpclomokljgphaaS15
namespace Go.Proofs.Ytpclomokljgphaa
open Go Go.RowKit Go.Pan

set_option maxHeartbeats 1600000 in
theorem sStacksAlong_any (v : Value) (xs : List Int) (u : Value) (p : List Int) (w : World) (hv : OwnI w v xs) (hn : xs.length ≤ 1048576) (hu : OwnI w u p) (hm : p.length ≤ 1048576) :
    Calls Try.prog 59 #[v, u] w fun e w' => ∃ r hs, e = .returned (.tuple #[r, .bool (okPlay xs p)]) ∧ SS w' w.heap.size w'.heap.size r hs (mStacksAlong xs p) ∧ Below w.heap.size w w' := by
  obtain ⟨ad, cap, rfl, hc, _, _⟩ := hu.shape
  have c := stAsked_any v _ xs p w hv hn hu hm
  cases hg : okPlay xs p with
  | true =>
    have hok := okPlay_iff.1 hg
    have HP := Lib.hid hok.2.2.2
    have h40 := hok.2.2.1
    have HO := Lib.hid hg
    have HM := Lib.hid (show mStacksAlong xs p = stkN xs p (p.length + 1) from if_pos hg)
    obtain ⟨i0, hi, hz0, hz1, hz2⟩ := info_parts Try.info22
    have HI := Lib.hid hi
    have HZ0 := Lib.hid hz0
    have HZ1 := Lib.hid hz1
    have HZ2 := Lib.hid hz2
    rw [hg] at c
    clear hok hg hi hz0 hz1 hz2
    go_enter Try.func59, Try.ntmps59
    go_wp2_with fail
    refine c.mono ?_
    rintro e w1 ⟨rfl, hb1⟩
    have hv1 := hv.same hb1
    have hs1 := hb1.size
    clear c hv
    go_wp2_with fail
    refine (l1Own_any _ _ _ hv1 hn).mono ?_
    rintro e w2 ⟨r2, rfl, ho2, hf2, hb2⟩
    have hB2 := hb1.trans (hb2.mono hb1.size)
    have hs2 := hB2.size
    have hI2 : In w.heap.size w2.heap.size r2 := fun g hg => ⟨Nat.le_trans hs1 (hf2 g hg), ho2.lt g hg⟩
    have hS3 := (SS.one (ty := 22) ho2 hI2).resolve_right (by omega)
    have hlt2 := ho2.lt
    obtain ⟨a2, c2, rfl, _, _, _⟩ := ho2.shape
    have hown3 : (w2.alloc (.cells #[.slice a2 xs.length c2] 22)).ownsRow w.heap.size 22 1 (.slice (some ⟨w2.heap.size, 0, none⟩) 1 1) 1 [.slice a2 xs.length c2] := ⟨rfl, .inr ⟨w2.heap.size, 1, #[.slice a2 xs.length c2], rfl, hs2, heap_alloc_new w2 _, Nat.le_refl _, by simp [maxLen], rfl, rfl⟩⟩
    have hB3 := hB2.alloc hs2 (.cells #[.slice a2 xs.length c2] 22)
    clear hb1 hb2 ho2 hf2 hv1 hI2 hB2 hlt2
    go_wp2
    go_loopw [6, 8, 18] (fun o _ i wr => ∃ (k g cp : Nat) (hs : List Value), k ≤ p.length ∧ i = .int .i64 k ∧ o = .slice (some ⟨g, 0, none⟩) (k + 1) cp ∧ hs.length = k + 1 ∧ SS wr w.heap.size wr.heap.size o hs (stkN xs p (k + 1)) ∧ wr.ownsRow w.heap.size 22 1 o (k + 1) hs ∧ Below w.heap.size w wr) (fun _ _ i _ => p.length - (intOf i).toNat)
    case atStart => exact ⟨0, w2.heap.size, 1, _, Nat.zero_le _, rfl, rfl, rfl, by rw [stkN_one]; simpa using hS3, hown3, hB3⟩
    case round =>
      obtain ⟨k, go, cp, hs, hk, rfl, rfl, hhl, hS, hown, hbr⟩ := hrel
      clear hS3 hown3 hB3
      by_cases hlt : k < p.length
      · obtain ⟨g, off, rfl, hgl, hcell, hfz⟩ := hu.at (by omega)
        have hck := hcell k (by omega)
        rw [List.getElem?_map, List.getElem?_eq_getElem hlt] at hck
        have hc1 := (hbr.cell (p := ⟨g, off + k, none⟩) hgl).trans hck
        have hin := HP.out _ (List.getElem_mem hlt)
        obtain ⟨j, hj⟩ : ∃ j : Nat, p[k] = (j : Int) := ⟨p[k].toNat, by omega⟩
        have hjl : j ≤ (PlayTo xs p k).length := by rw [PlayTo_length]; omega
        have HS := Lib.hid (PlayTo_step xs p k hlt j hj)
        have hl : (PlayTo xs p k).length ≤ 1048576 := by rw [PlayTo_length]; exact hn
        have hc2 : wr.cell? ⟨g, off + k, none⟩ = some (iv (j : Int)) := by rw [hc1, ← hj]; rfl
        obtain ⟨g0, off0, hg0, x, hx, hox, hix, _, hcx⟩ := hS.at k (by rw [stkN_length]; omega)
        simp only [Option.some.injEq, Addr.mk.injEq, and_true] at hg0
        obtain ⟨rfl, rfl⟩ := hg0
        rw [stkN_get xs p _ k (Nat.lt_succ_self _)] at hox
        rw [Nat.zero_add] at hcx
        obtain ⟨ax, cx, rfl, _, _, _⟩ := hox.shape
        have HN := Lib.hid (stkN_succ xs p (k + 1)).symm
        have HHL := Lib.hid hhl
        have hsr := hbr.size
        have HS0 := Lib.hid hS
        have HIX := Lib.hid hix
        clear hcell hfz hck hc1 hj hin hu hx hix hhl hS
        go_wp2_with fail
        refine (stTurn_any _ _ _ _ hox hl hjl).mono ?_
        rintro e w4 ⟨r4, rfl, ho4, hf4, hb4⟩
        rw [HS.out] at ho4
        obtain ⟨a4, c4, rfl, _, _, _⟩ := ho4.shape
        have hown4 := hown.kept (grown_of_below hb4 none) (.inr (by intro h; cases h))
        have hB4 := hbr.trans (hb4.mono hsr)
        have hz4 := hb4.size
        have hI4 : In wr.heap.size (w4.heap.size + 1) (.slice a4 (PlayTo xs p (k + 1)).length c4) := fun g hg => ⟨hf4 g hg, Nat.lt_succ_of_lt (ho4.lt g hg)⟩
        have HI4 := Lib.hid hI4
        have HS4 := Lib.hid ((HS0.out.below hb4 (Nat.le_refl _)).below (below_new w4 (.cells #[.slice a4 (PlayTo xs p (k + 1)).length c4] 22)) hz4)
        have HO4 := Lib.hid (ho4.alloc (.cells #[.slice a4 (PlayTo xs p (k + 1)).length c4] 22))
        clear hown hbr hb4 hI4 ho4 hf4 hox hcx hc2
        go_wp2_with (at_builtin; refine wpList_append_lies _ rfl _ _ 29 rfl w.heap.size 22 i0 _ 1 24 Try.underlying29 HI.out HZ0.out HZ1.out HZ2.out rfl (by omega) (.slice (some ⟨go, 0, none⟩) (k + 1) cp) (k + 1) hs rfl (hown4.alloc _) _ 1 1 [.slice a4 (PlayTo xs p (k + 1)).length c4] rfl (by simp) (World.news_of_block (heap_alloc_new _ _)) (by simp [Value.oneCell']) (by omega) (by unfold maxLen; omega) (by omega) (by simp; omega) (w4.heap.size + 1) (by simp) ?_)
        intro g6 cap6 w6 hown6 hgr6 hat6 hlt6
        have hS6 := SS.app (cap := cap6) HS4.out (by simp; omega) HO4.out (by simpa using HI4.out) (by rw [HHL.out]; exact hown6) hgr6 (by simpa using hat6) hlt6 hsr
        rw [HN.out, HHL.out] at hS6
        have hB6 := (hB4.alloc (Nat.le_trans hsr hz4) (.cells #[.slice a4 (PlayTo xs p (k + 1)).length c4] 22)).grown hgr6 (by simp; omega) (fun b hb => (HS4.out.inn b hb).1)
        have hl6 : (hs ++ [Value.slice a4 (PlayTo xs p (k + 1)).length c4]).length = k + 1 + 1 := by rw [List.length_append, HHL.out]; rfl
        have HS6 := Lib.hid hS6
        have HL6 := Lib.hid hl6
        clear hS6 hl6 hgr6 hat6 hB4 hown4
        go_wp2
        go_roundw
        case rel => exact ⟨k + 1, g6, cap6, _, by omega, by go_num, rfl, HL6.out, HS6.out, hown6, hB6⟩
        case measure => simp [intOf] <;> omega
      · obtain rfl : k = p.length := by omega
        have HS0 := Lib.hid hS
        clear hu hS
        go_wp2
        go_ret2
        exact ⟨_, _, rfl, by rw [HM.out]; exact HS0.out, hbr⟩
  | false =>
    have HM := Lib.hid (show mStacksAlong xs p = [] from if_neg (by rw [hg]; exact Bool.false_ne_true))
    rw [hg] at c
    have HO := Lib.hid hg
    clear hg
    go_enter Try.func59, Try.ntmps59
    go_wp2_with fail
    refine c.mono ?_
    rintro e w1 ⟨rfl, hb1⟩
    clear c hv hu
    go_wp2
    go_ret2
    exact ⟨_, [], by first | rfl | (rw [HO.out]; rfl), by rw [HM.out]; exact SS.nil _ _ _, hb1⟩

end Go.Proofs.Ytpclomokljgphaa
