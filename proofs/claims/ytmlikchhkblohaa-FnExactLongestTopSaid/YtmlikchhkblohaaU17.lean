import Derived.Test.YtmlikchhkblohaaU5
import Derived.Test.YtmlikchhkblohaaU7
import Derived.Deep.LoopGhost
namespace Go.Pan
open Go Go.RowKit

/-- how many turns the game has -/
def stepsN (q : List Int) : Nat := ((List.range 56).find? fun m => decide ((topN m q).getD 0 0 = 1)).getD 0
theorem stepsN_ok {q : List Int} (hg : Good q) : (topN (stepsN q) q).getD 0 0 = 1 ∧ (∀ i, i < stepsN q → (topN i q).getD 0 0 ≠ 1) ∧ stepsN q ≤ 54 := by
  cases h : (List.range 56).find? (fun m => decide ((topN m q).getD 0 0 = 1)) with
  | none =>
    exfalso
    have h1 := List.find?_eq_none.1 h
    have := game_ends hg (t := 55) (fun i hi e => h1 i (List.mem_range.2 (by omega)) (decide_eq_true e))
    omega
  | some m =>
    have hs : stepsN q = m := by unfold stepsN; rw [h]; rfl
    obtain ⟨h1, h2, h3⟩ := List.find?_range_eq_some.1 h
    rw [hs]
    have hlow : ∀ i, i < m → (topN i q).getD 0 0 ≠ 1 := fun i hi e => by
      have := h3 i hi
      rw [decide_eq_true e] at this
      cases this
    exact ⟨of_decide_eq_true h1, hlow, game_ends hg hlow⟩
theorem stepsN_uniq {q : List Int} (hg : Good q) {d : Nat} (h1 : (topN d q).getD 0 0 = 1) (h2 : ∀ i, i < d → (topN i q).getD 0 0 ≠ 1) : stepsN q = d := by
  have h := stepsN_ok hg
  rcases Nat.lt_trichotomy (stepsN q) d with hl | hl | hl
  · exact absurd h.1 (h2 _ hl)
  · exact hl
  · exact absurd h1 (h.2.1 _ hl)
/-- the first k stacks of the game -/
def gameN (q : List Int) (k : Nat) : List (List Int) := (List.range k).map fun i => topN i q
def gameL (q : List Int) : List (List Int) := gameN q (stepsN q + 1)
theorem gameN_succ (q : List Int) (k : Nat) : gameN q (k + 1) = gameN q k ++ [topN k q] := by simp [gameN, List.range_succ]
theorem gameN_length (q : List Int) (k : Nat) : (gameN q k).length = k := by simp [gameN]

end Go.Pan

namespace Go.Proofs.Ytmlikchhkblohaa
open Go Go.RowKit Go.Pan

set_option maxHeartbeats 4000000 in
set_option maxRecDepth 100000 in
theorem toGame_any (v : Value) (q : List Int) (w : World) (hv : OwnI w v q) (hG : Hid (Pan.Good q)) :
    Calls Try.prog 150 #[v] w fun e w' => ∃ r hs, e = .returned r ∧ SS w' w.heap.size w'.heap.size r hs (gameL q) ∧ Below w.heap.size w w' := by
  obtain ⟨i0, hi, hz0, hz1, hz2⟩ := info_parts Try.info22
  have HI := Lib.hid hi
  have HZ0 := Lib.hid hz0
  have HZ1 := Lib.hid hz1
  have HZ2 := Lib.hid hz2
  have hn : q.length ≤ 1048576 := by have := hG.out.2.1; omega
  clear hi hz0 hz1 hz2
  go_enter Try.func150, Try.ntmps150
  go_wp2_with fail
  refine (l1Own_any _ _ _ hv hn).mono ?_
  rintro e w2 ⟨r2, rfl, ho2, hf2, hb2⟩
  have hs2 := hb2.size
  have hI2 : In w.heap.size w2.heap.size r2 := fun g hg => ⟨hf2 g hg, ho2.lt g hg⟩
  have hS3 := (SS.one (ty := 22) ho2 hI2).resolve_right (by omega)
  obtain ⟨a2, c2, rfl, _, _, _⟩ := ho2.shape
  have hown3 : (w2.alloc (.cells #[.slice a2 q.length c2] 22)).ownsRow w.heap.size 22 1 (.slice (some ⟨w2.heap.size, 0, none⟩) 1 1) 1 [.slice a2 q.length c2] := ⟨rfl, .inr ⟨w2.heap.size, 1, #[.slice a2 q.length c2], rfl, hs2, heap_alloc_new w2 _, Nat.le_refl _, by simp [maxLen], rfl, rfl⟩⟩
  have hB3 := hb2.alloc hs2 (.cells #[.slice a2 q.length c2] 22)
  have hv3 := (hv.same hb2).alloc (.cells #[.slice a2 q.length c2] 22)
  have HS3 := Lib.hid (show SS (w2.alloc (.cells #[.slice a2 q.length c2] 22)) w.heap.size (w2.alloc (.cells #[.slice a2 q.length c2] 22)).heap.size (.slice (some ⟨w2.heap.size, 0, none⟩) 1 1) [.slice a2 q.length c2] (gameN q (0 + 1)) by
    have := hS3.mono (Nat.le_refl _) (show w2.heap.size + 1 ≤ (w2.alloc (.cells #[.slice a2 q.length c2] 22)).heap.size by simp)
    simpa [gameN, topN] using this)
  have HO3 := Lib.hid hown3
  have HV3 := Lib.hid (show OwnI (w2.alloc (.cells #[.slice a2 q.length c2] 22)) v (topN 0 q) from hv3)
  clear hb2 ho2 hf2 hI2 hS3 hown3 hv3 hv
  go_wp2
  go_loopg [0, 3, 4] 60 (fun gk sv al i wr => ∃ (m : Nat) (hs : List Value), i = .int .i64 m ∧ m + gk = 60 ∧ Hid (∀ i, i < m → (topN i q).getD 0 0 ≠ 1) ∧ Hid (OwnI wr sv (topN m q)) ∧ Hid (SS wr w.heap.size wr.heap.size al hs (gameN q (m + 1))) ∧ Hid (wr.ownsRow w.heap.size 22 1 al (m + 1) hs) ∧ hs.length = m + 1 ∧ Below w.heap.size w wr)
  case atStart => exact ⟨0, _, rfl, by omega, Lib.hid (fun i hi => by omega), HV3, HS3, HO3, rfl, hB3⟩
  case round =>
    obtain ⟨m, hs, rfl, hmg, hlow, hsv, hS, hown, hhl, hbr⟩ := hrel
    clear HS3 HO3 HV3 hB3
    have HMG := Lib.hid hmg
    have HHL := Lib.hid hhl
    have hm54 := game_ends hG.out hlow.out
    have hq := topN_good hG.out m
    have hql := topN_length q m
    obtain ⟨s, hse⟩ : ∃ s, topN m q = s := ⟨_, rfl⟩
    have HSE := Lib.hid hse
    have HNX := Lib.hid (show topN (m + 1) q = topT s by rw [← hse]; rfl)
    rw [hse] at hq hsv hql
    obtain ⟨g, off, cap, rfl, hcp, hgl⟩ := OwnI.head hsv.out hq.1
    obtain ⟨t, ht⟩ : ∃ t : Nat, s.getD 0 0 = (t : Int) := ⟨(s.getD 0 0).toNat, by have := hq.at (i := 0) hq.1; omega⟩
    have htb := hq.at (i := 0) hq.1
    have htl : t ≤ s.length := by omega
    have HBT := Lib.hid (show topT s = turnL s t by unfold topT; rw [ht, Int.toNat_natCast])
    rw [ht] at hcp
    have hwz := hbr.size
    have hsp : 0 < s.length := hq.1
    have hspi : (0 : Int) < (s.length : Int) := by omega
    have hsn : s.length ≤ 1048576 := by omega
    have hm100 : (m : Int) < 100 := by omega
    by_cases h1 : t = 1
    · have HST := Lib.hid (stepsN_uniq hG.out (d := m) (by rw [HSE.out, ht, h1]; rfl) hlow.out)
      have HF := Lib.hid (show SS wr w.heap.size wr.heap.size u3 hs (gameL q) by unfold gameL; rw [HST.out]; exact hS.out)
      subst h1
      clear hmg hhl hse hq ht htb hql hS hown hsv hlow
      go_wp2
      go_ret
      first | exact ⟨_, _, rfl, HF.out, hbr⟩ | exact ⟨_, rfl, ⟨_, HF.out⟩, hbr⟩
    · have he : ((t : Int) == 1) = false := by rw [beq_eq_false_iff_ne]; omega
      have hne1 : ¬ ((t : Int) = 1) := by omega
      have HL2 := Lib.hid (show ∀ i, i < m + 1 → (topN i q).getD 0 0 ≠ 1 from fun i hi => by
        by_cases e : i = m
        · subst e; rw [hse, ht]; omega
        · exact hlow.out i (by omega))
      have c5 := stTurn_any _ s t wr hsv.out hsn htl
      rw [← HBT.out] at c5
      have HG2 := Lib.hid (show gameN q (m + 1 + 1) = gameN q (m + 1) ++ [topT s] by rw [gameN_succ, HNX.out])
      clear hmg hhl hse hq ht htb hql h1 hlow
      go_wp2_with fail
      refine c5.mono ?_
      rintro e w5 ⟨r5, rfl, ho5, hf5, hb5⟩
      have hz5 := hb5.size
      have hown5 := hown.out.kept (grown_of_below hb5 none) (by cases h : Value.ownBlock u3 with | none => exact .inl rfl | some g => exact .inr (by simp))
      have hB5 := hbr.trans (hb5.mono hwz)
      obtain ⟨a6, c6, rfl, _, _, _⟩ := ho5.shape
      have HI6 := Lib.hid (show In wr.heap.size (w5.heap.size + 1) (.slice a6 (topT s).length c6) from fun g hg => ⟨hf5 g hg, Nat.lt_succ_of_lt (ho5.lt g hg)⟩)
      have HS6 := Lib.hid ((hS.out.below hb5 (Nat.le_refl _)).below (below_new w5 (.cells #[.slice a6 (topT s).length c6] 22)) (by omega))
      have HOw := Lib.hid (ho5.alloc (.cells #[.slice a6 (topT s).length c6] 22))
      have hs6 := hB5.size
      clear hb5 hS hown c5 hbr hf5 ho5 hcp hsv
      go_wp2_with (at_builtin; refine wpList_append_lies _ rfl _ _ 34 rfl w.heap.size 22 i0 _ 1 24 Try.underlying34 HI.out HZ0.out HZ1.out HZ2.out rfl (by omega) _ (m + 1) hs rfl (hown5.alloc _) _ 1 1 [.slice a6 (topT s).length c6] rfl (by simp) (World.news_of_block (heap_alloc_new _ _)) (by simp [Value.oneCell']) (by omega) (by unfold maxLen; omega) (by omega) (by simp; omega) (w5.heap.size + 1) (by simp) ?_)
      intro g8 cap8 w8 hown8 hgr8 hat8 hlt8
      have hS8 := SS.app (cap := cap8) HS6.out (by simp; omega) HOw.out (by simpa using HI6.out) (by rw [HHL.out]; exact hown8) hgr8 (by simpa using hat8) hlt8 (by omega)
      rw [HHL.out, ← HG2.out] at hS8
      have hB8 := (hB5.alloc hs6 (.cells #[.slice a6 (topT s).length c6] 22)).grown hgr8 (by simp; omega) (fun b hb => (HS6.out.inn b hb).1)
      have HS8 := Lib.hid hS8
      have HW8 := Lib.hid hown8
      have HL8 := Lib.hid (show (hs ++ [Value.slice a6 (topT s).length c6]).length = m + 1 + 1 by rw [List.length_append, HHL.out]; rfl)
      have hap : ∀ g, (Value.slice a6 (topT s).length c6).ownBlock = some g → Value.ownBlock u3 ≠ some g := fun g h1 h2 => by
        have := (HI6.out g h1).1
        have := (HS6.out.inn g h2).2
        omega
      have HV8 := Lib.hid (show OwnI w8 (.slice a6 (topT s).length c6) (topN (m + 1) q) by rw [HNX.out]; exact HOw.out.grown hgr8 hap)
      clear hS8 hgr8 hat8 hB5 hown5 hown8 hap
      go_wp2
      go_roundg (gk - 1)
      case measure => have := HMG.out; omega
      case rel => exact ⟨m + 1, _, by go_num, by have := HMG.out; omega, HL2, HV8, HS8, HW8, HL8.out, hB8⟩

end Go.Proofs.Ytmlikchhkblohaa

