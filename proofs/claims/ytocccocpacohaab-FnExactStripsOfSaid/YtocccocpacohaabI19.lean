import Derived.Test.YtocccocpacohaabI9
import Derived.Test.YtocccocpacohaabS18
import Derived.Test.YtocccocpacohaabHR3
import Derived.Lib.SliceRun
namespace Go.Pan
open Go Go.RowKit
theorem pre_app (xss : List (List Int)) (z : List Int) (i : Nat) (h : i ≤ xss.length) : pre (xss ++ [z]) i = pre xss i := by
  unfold pre
  rw [List.take_append_of_le_length h]
theorem pre_all (xss : List (List Int)) : pre xss xss.length = xss.flatten.length := by
  unfold pre
  rw [List.take_length, List.length_flatten]
/-- rows one behind the other in block g -/
def Rows1 (g : Nat) (hs : List Value) (xss : List (List Int)) : Prop := ∀ (i : Nat) (h : i < xss.length), hs[i]? = some (.slice (some ⟨g, pre xss i, none⟩) xss[i].length xss[i].length)
theorem Rows1.app {g : Nat} {hs : List Value} {xss : List (List Int)} {z : List Int} {o n : Nat} (h : Rows1 g hs xss) (hl : hs.length = xss.length) (ho : o = xss.flatten.length) (hn : n = z.length) :
    Rows1 g (hs ++ [.slice (some ⟨g, o, none⟩) n n]) (xss ++ [z]) := fun i hi => by
  subst ho
  subst hn
  by_cases hil : i < xss.length
  · rw [List.getElem?_append_left (by omega), h i hil, pre_app xss z i (by omega)]
    simp only [List.getElem_append_left hil]
  · simp at hi
    obtain rfl : i = xss.length := by omega
    rw [List.getElem?_append_right (by omega), hl, pre_app xss z _ (Nat.le_refl _), pre_all]
    simp

/-- 's[l:h:h]' -/
theorem wpList_cut {P : Program} {w : World} {ops : Array Oper} {rest : List Oper} {o : Oper} {a : Act} {Q : Exit → Act → World → Prop}
    {t e : TypeId} (hT : IntSl P t e) (hg : o.guard = none) (x lo hi mx : Operand) (hop : o.op = .slice t x (some lo) (some hi) (some mx))
    (g n cap l h : Nat) (hx : a.eval x = .slice (some ⟨g, 0, none⟩) n cap) (hl : a.eval lo = .int .i64 l) (H : Int) (hh : a.eval hi = .int .i64 H) (hm : a.eval mx = .int .i64 H) (hH : H = (h : Int)) (h1 : l < h) (h2 : h ≤ cap)
    (hK : wpList P ops Q rest (a.put o.dst (.slice (some ⟨g, l, none⟩) (h - l) (h - l))) w) :
    wpList P ops Q (o :: rest) a w := by
  subst hH
  obtain ⟨i, hi', hz, hs1, hb8⟩ := hT.i
  have he : P.elem t = e := by simp [Program.elem, hT.u]
  have hne : ¬ h = l := by omega
  have hrun : (Instr.sliceAt t (.slice (some ⟨g, 0, none⟩) n cap) (some (.int .i64 l)) (some (.int .i64 h)) (some (.int .i64 h))).run P w = .ok (.slice (some ⟨g, l, none⟩) (h - l) (h - l)) w := by
    rw [run_sliceAt_slice w t _ _ _ _ (by rw [he]; exact hT.u), run_slice_lhm w t _ n cap (by rw [he]; exact hT.u) .i64 .i64 .i64 l h h (by omega) (by omega) (by omega) (by omega)]
    simp [sizeOf, typeInfo, he, hi', hs1, sliced, Result.andThen, hne, Addr.add]
    omega
  refine wpList_plain hg fun K hK' => ?_
  unfold Oper.wp
  simp [execOp, hop, hx, hl, hh, hm, hrun, Result.andThen]
  exact hK' _ _ hK
end Go.Pan
namespace Go.Proofs.Ytocccocpacohaab
open Go Go.RowKit Go.Pan

set_option maxHeartbeats 400000 in
theorem Clone_any (v : Value) (xs : List Int) (w : World) (hv : OwnI w v xs) (h1 : 1 ≤ xs.length) (hn : xs.length ≤ 1048576) :
    Calls Try.prog 63 #[v] w fun e w' => ∃ g cap post, e = .returned (.slice (some ⟨g, 0, none⟩) xs.length cap) ∧ Blk w' g 3 (xs.map iv ++ post) ∧ xs.length ≤ cap ∧ w.heap.size ≤ g ∧ Below w.heap.size w w' := by
  obtain ⟨ad, cap, rfl, hc, _, _⟩ := hv.shape
  have hs := (Own.src hv).alloc (.cells #[] 3)
  obtain ⟨g0, off, rfl, _, _, _⟩ := hv.at (by omega)
  obtain ⟨i0, hi, hz0, hz1, hz2⟩ := info_parts Try.info3
  have HI := Lib.hid hi
  have HZ0 := Lib.hid hz0
  have HZ1 := Lib.hid hz1
  have HZ2 := Lib.hid hz2
  have HSRC := Lib.hid (show ∀ j u, (xs.map iv)[j]? = some u → (w.alloc (.cells #[] 3)).cell? ((⟨g0, off, none⟩ : Addr).add j) = some u by
    rcases hs with ⟨h, _⟩ | ⟨a', h, hh⟩
    · cases h
    · cases h; exact hh)
  have HOW := Lib.hid (World.ownsRow_made (base := w.heap.size) (e := 3) (size := 1) w #[] 0 (Nat.le_refl _) (by simp [maxLen]) rfl)
  have qT : ∀ (w : World) (a : Option Addr) (n c n' c' : Nat), (binOp .eql 22 (.slice a n c) (.slice none n' c')).run Try.prog w = .ok (.bool a.isNone) w := fun w a n c n' c' => Lib.run_eql_slice_nil w _ _ a n c n' c' Try.underlying22
  clear hi hz0 hz1 hz2 hs hv
  go_enter Try.func63, Try.ntmps63
  go_wp2_with (at_builtin; refine wpList_append_lies _ rfl _ _ 22 rfl w.heap.size 3 i0 _ 1 8 Try.underlying22 HI.out HZ0.out HZ1.out HZ2.out rfl (by omega) (.slice (some ⟨w.heap.size, 0, none⟩) 0 0) 0 [] rfl HOW.out ⟨g0, off, none⟩ xs.length cap (xs.map iv) rfl (by simp) HSRC.out (by simp [Value.oneCell']) (by omega) (by unfold maxLen; omega) (by omega) (by simp) (w.heap.size + 1) (by simp) ?_)
  intro g cap' w1 hown hgr hat hlt
  have hb1 : Below w.heap.size w w1 := (below_new w _).grown hgr (by simp) (fun k hk => by simp [Value.ownBlock] at hk; omega)
  obtain ⟨_, h⟩ := hown
  rcases h with ⟨h, _⟩ | ⟨g', c', cur, hvv, hbs, hh, hnc, _, hcs, ht⟩
  · cases h
  · simp only [Value.slice.injEq, Option.some.injEq, Addr.mk.injEq, and_true, true_and] at hvv
    obtain ⟨rfl, rfl⟩ := hvv
    have hblk : Blk w1 g 3 (xs.map iv ++ cur.toList.drop xs.length) := by
      unfold Blk
      rw [hh]
      have e : xs.map iv = cur.toList.take xs.length := by simpa using ht.symm
      rw [e, List.take_append_drop]
    have hnc' : xs.length ≤ cap' := by omega
    have HB := Lib.hid hblk
    clear hh ht hcs hblk hnc hat
    go_wp2
    go_ret
    exact ⟨g, cap', _, by simp, HB.out, hnc', hbs, hb1⟩

theorem ClipSS_any (g n cap : Nat) (w : World) (hc : n ≤ cap) :
    Calls Try.prog 65 #[.slice (some ⟨g, 0, none⟩) n cap] w fun e w' => e = .returned (.slice (some ⟨g, 0, none⟩) n n) ∧ w = w' := by
  go_enter Try.func65, Try.ntmps65
  go_wp2
  go_ret
  exact ⟨by simp [Addr.add], rfl⟩

set_option maxHeartbeats 3200000 in
theorem StripsOf_any (v : Value) (xs : List Int) (w : World) (hv : OwnI w v xs) (hn : xs.length ≤ 1048576) :
    Calls Try.prog 29 #[v] w fun e w' => ∃ r hs, e = .returned (.tuple #[r, .bool (goodB xs)]) ∧ RX w' w.heap.size w'.heap.size r hs (mStripsOf xs) ∧ Below w.heap.size w w' := by
  obtain ⟨ad, cap, rfl, hcap, _, _⟩ := hv.shape
  have c := IsStack_any _ xs w hv hn
  cases hg : goodB xs with
  | true =>
    have hG := goodB_iff.1 hg
    have HG := Lib.hid hG
    have hl9 := hG.le9
    have hl1 := hG.1
    have HO := Lib.hid hg
    have HM := Lib.hid (show mStripsOf xs = stripTo xs xs.length from if_pos hg)
    obtain ⟨i0, hi, hz0, hz1, hz2⟩ := info_parts Try.info22
    have HI := Lib.hid hi
    have HZ0 := Lib.hid hz0
    have HZ1 := Lib.hid hz1
    have HZ2 := Lib.hid hz2
    rw [hg] at c
    clear hG hg hi hz0 hz1 hz2
    go_enter Try.func29, Try.ntmps29
    go_wp2_with fail
    refine c.mono ?_
    rintro e w1 ⟨rfl, hb1⟩
    have hv1 := hv.same hb1
    have hs1 := hb1.size
    clear c hv
    go_wp2_with fail
    refine (Clone_any _ xs _ hv1 hl1 hn).mono ?_
    rintro e w2 ⟨g, capC, post, rfl, hB, hcC, hg1, hb2⟩
    have hB2 := hb1.trans (hb2.mono hs1)
    have hs2 := hB2.size
    have hgl := hB.lt
    clear hv1 hb1 hb2
    go_wp2_with (at_make; refine wpList_make_own _ rfl _ _ 31 rfl w.heap.size 22 i0 _ 1 Try.underlying31 HI.out HZ0.out HZ1.out _ _ _ xs.length rfl rfl (by first | rfl | simp | omega) (by rw [HZ2.out]; omega) (by unfold maxLen; omega) (by exact hs2) ?_)
    intro w3 hown3 hgr3
    have hB3 := hB2.grown hgr3 hs2 (by intro b hb; cases hb)
    have hBk := hB.grown hgr3 (by intro h; cases h)
    have hne : w2.heap.size ≠ g := by omega
    clear hB hgr3 hB2
    go_wp2
    go_loopw [5, 6, 7] (fun o s i wr => ∃ (k : Nat) (hs : List Value), k ≤ xs.length ∧ i = .int .i64 ((k : Int) + 1) ∧ s = .int .i64 (stripEnd xs k : Nat) ∧ o = .slice (some ⟨w2.heap.size, 0, none⟩) (stripTo xs k).length xs.length ∧ hs.length = (stripTo xs k).length ∧ Rows1 g hs (stripTo xs k) ∧ wr.ownsRow w.heap.size 22 1 o (stripTo xs k).length hs ∧ Blk wr g 3 (xs.map iv ++ post) ∧ Below w.heap.size w wr) (fun _ _ i _ => xs.length + 1 - (intOf i).toNat)
    case atStart => exact ⟨0, [], Nat.zero_le _, by go_num, rfl, rfl, rfl, (fun i h => absurd h (Nat.not_lt_zero i)), hown3, hBk, hB3⟩
    case round =>
      obtain ⟨k, hs, hk, rfl, rfl, rfl, hhl, hrow, hown, hBk, hbr⟩ := hrel
      clear hown3 hB3
      have HHL := Lib.hid hhl
      have HR := Lib.hid hrow
      have hsr := hbr.size
      have hgr' := hBk.lt
      have hol := (Own.of_row hown).1.lt _ rfl
      by_cases hlt : k < xs.length
      · have hle : (k : Int) + 1 ≤ xs.length := by omega
        obtain ⟨hse, hfl, hsn, _⟩ := strip_inv xs k (by omega)
        have hsek : stripEnd xs k < k + 1 := by omega
        have HFL := Lib.hid (show stripEnd xs k = (stripTo xs k).flatten.length by rw [hfl, List.length_take]; omega)
        have hck1 := hBk.cell k
        rw [List.getElem?_append_left (by rw [List.length_map]; omega), List.getElem?_map, List.getElem?_eq_getElem hlt] at hck1
        clear hhl hrow hse hfl
        by_cases hlast : k + 1 = xs.length
        · have hq : (((k : Int) + 1) == (xs.length : Int)) = true := by simp; omega
          have HC := Lib.hid (strip_yes (show cutB xs (k + 1) = true by unfold cutB; rw [hlast]; simp))
          clear hlast
          go_wp2_with fail
          go_quiet (fail)
          have hownD : ∀ n, (wr.drewN n).ownsRow w.heap.size 22 1 (.slice (some ⟨w2.heap.size, 0, none⟩) (stripTo xs k).length xs.length) (stripTo xs k).length hs := fun _ => hown
          have hBkD := fun n => hBk.drewN n
          have hbrD := fun n => hbr.drewN n
          have hzD : ∀ n, (wr.drewN n).heap.size = wr.heap.size := fun _ => rfl
          have HBD := Lib.hid hBkD
          have HbD := Lib.hid hbrD
          have HOD := Lib.hid hownD
          have HZD := Lib.hid hzD
          clear hown hBk hbr hownD hBkD hbrD hzD
          go_wp2_with (first | (refine wpList_cut Try.intSl rfl _ _ _ _ rfl g xs.length capC (stripEnd xs k) (k + 1) rfl rfl _ rfl rfl (by omega) hsek (by omega) ?_) | (at_builtin; refine wpList_append_fits _ rfl _ _ 31 rfl w.heap.size 22 i0 1 Try.underlying31 HI.out HZ1.out w2.heap.size (stripTo xs k).length xs.length hs rfl ((HOD.out _).alloc _) _ 1 1 [.slice (some ⟨g, stripEnd xs k, none⟩) (k + 1 - stripEnd xs k) (k + 1 - stripEnd xs k)] rfl (by simp) (World.news_of_block (heap_alloc_new _ _)) (by simp [Value.oneCell']) (by omega) ?_))
          intro w6 hown6 hgr6
          have hzz := HZD.out
          have hBk6 := ((HBD.out _).alloc _).grown hgr6 (by intro h; cases h; omega)
          have hB6 := ((HbD.out _).alloc (by rw [hzz]; exact hsr) _).grown hgr6 (by simp; omega) (fun b hb => by cases hb; exact hs2)
          have hzl : k + 1 - stripEnd xs k = ((xs.take (k + 1)).drop (stripEnd xs k)).length := by rw [List.length_drop, List.length_take]; omega
          have hR6 := Rows1.app HR.out HHL.out HFL.out hzl
          rw [← HC.out.2] at hR6
          have hCl : (stripTo xs (k + 1)).length = (stripTo xs k).length + 1 := by rw [HC.out.2]; simp
          have HCl := Lib.hid hCl
          have HR6 := Lib.hid hR6
          have HL6 := Lib.hid (show (hs ++ [Value.slice (some ⟨g, stripEnd xs k, none⟩) (k + 1 - stripEnd xs k) (k + 1 - stripEnd xs k)]).length = (stripTo xs (k + 1)).length by rw [List.length_append, HHL.out, hCl]; rfl)
          clear hzz hzl hR6 hCl hgr6
          go_wp2
          go_roundw
          case rel => exact ⟨k + 1, _, by omega, by go_num, by rw [HC.out.1]; go_num, by rw [HCl.out], HL6.out, HR6.out, by rw [HCl.out]; exact hown6, hBk6, hB6⟩
          case measure => simp [intOf] <;> omega
        · have hq : (((k : Int) + 1) == (xs.length : Int)) = false := by simp; omega
          have hlt2 : k + 1 < xs.length := by omega
          have hck2 := hBk.cell (k + 1)
          rw [List.getElem?_append_left (by rw [List.length_map]; omega), List.getElem?_map, List.getElem?_eq_getElem hlt2] at hck2
          have hbd := HG.out.2.2.1 _ (List.getElem_mem hlt)
          have hbd2 := HG.out.2.2.1 _ (List.getElem_mem hlt2)
          have hbe : below xs (k + 1) = xs[k + 1] := by unfold below; rw [if_pos hlt2, getD_eq hlt2]
          have hGeq := gapB_eq HG.out (show 1 ≤ k + 1 by omega) (show k + 1 ≤ xs.length by omega)
          rw [Nat.add_sub_cancel, getD_eq hlt, hbe] at hGeq
          have hlti : (k : Int) + 1 < xs.length := by omega
          have hw1 : IntKind.i64.wrap ((k : Int) + 1 - 1) = (k : Int) := by rw [Int.add_sub_cancel]; exact IntWalk.i64_in _ (by omega)
          have hw2 : (0 : Int) ≤ (k : Int) := by omega
          have hw3 : (k : Int) < xs.length := by omega
          have hw4 : ((k : Int) + 1).toNat = k + 1 := by omega
          have cn := fun W => areNoPair_any xs[k] xs[k + 1] W (by omega) (by omega) (by omega) (by omega)
          clear hbd hbd2 hbe hlast
          cases hb : gapB xs (k + 1) with
          | true =>
            rw [hb] at hGeq
            rw [← hGeq] at cn
            have HC := Lib.hid (strip_yes (show cutB xs (k + 1) = true by unfold cutB; rw [hb]; simp))
            clear hb hGeq
            go_wp2_with fail
            go_quiet ((go_at_call 64; exact quiet_left (cn _)))
            have hownD : ∀ n, (wr.drewN n).ownsRow w.heap.size 22 1 (.slice (some ⟨w2.heap.size, 0, none⟩) (stripTo xs k).length xs.length) (stripTo xs k).length hs := fun _ => hown
            have hBkD := fun n => hBk.drewN n
            have hbrD := fun n => hbr.drewN n
            have hzD : ∀ n, (wr.drewN n).heap.size = wr.heap.size := fun _ => rfl
            have HBD := Lib.hid hBkD
            have HbD := Lib.hid hbrD
            have HOD := Lib.hid hownD
            have HZD := Lib.hid hzD
            clear hown hBk hbr hownD hBkD hbrD hzD
            go_wp2_with (first | (refine wpList_cut Try.intSl rfl _ _ _ _ rfl g xs.length capC (stripEnd xs k) (k + 1) rfl rfl _ rfl rfl (by omega) hsek (by omega) ?_) | (at_builtin; refine wpList_append_fits _ rfl _ _ 31 rfl w.heap.size 22 i0 1 Try.underlying31 HI.out HZ1.out w2.heap.size (stripTo xs k).length xs.length hs rfl ((HOD.out _).alloc _) _ 1 1 [.slice (some ⟨g, stripEnd xs k, none⟩) (k + 1 - stripEnd xs k) (k + 1 - stripEnd xs k)] rfl (by simp) (World.news_of_block (heap_alloc_new _ _)) (by simp [Value.oneCell']) (by omega) ?_))
            intro w6 hown6 hgr6
            have hzz := HZD.out
            have hBk6 := ((HBD.out _).alloc _).grown hgr6 (by intro h; cases h; omega)
            have hB6 := ((HbD.out _).alloc (by rw [hzz]; exact hsr) _).grown hgr6 (by simp; omega) (fun b hb => by cases hb; exact hs2)
            have hzl : k + 1 - stripEnd xs k = ((xs.take (k + 1)).drop (stripEnd xs k)).length := by rw [List.length_drop, List.length_take]; omega
            have hR6 := Rows1.app HR.out HHL.out HFL.out hzl
            rw [← HC.out.2] at hR6
            have hCl : (stripTo xs (k + 1)).length = (stripTo xs k).length + 1 := by rw [HC.out.2]; simp
            have HCl := Lib.hid hCl
            have HR6 := Lib.hid hR6
            have HL6 := Lib.hid (show (hs ++ [Value.slice (some ⟨g, stripEnd xs k, none⟩) (k + 1 - stripEnd xs k) (k + 1 - stripEnd xs k)]).length = (stripTo xs (k + 1)).length by rw [List.length_append, HHL.out, hCl]; rfl)
            clear hzz hzl hR6 hCl hgr6
            go_wp2
            go_roundw
            case rel => exact ⟨k + 1, _, by omega, by go_num, by rw [HC.out.1]; go_num, by rw [HCl.out], HL6.out, HR6.out, by rw [HCl.out]; exact hown6, hBk6, hB6⟩
            case measure => simp [intOf] <;> omega
          | false =>
            rw [hb] at hGeq
            rw [← hGeq] at cn
            have HC := Lib.hid (strip_no (show cutB xs (k + 1) = false by unfold cutB; rw [hb]; simp; omega))
            clear hb hGeq
            go_wp2_with fail
            go_quiet ((go_at_call 64; exact quiet_left (cn _)))
            go_wp2
            go_roundw
            case rel => exact ⟨k + 1, hs, by omega, by go_num, by rw [HC.out.1], by rw [HC.out.2], by rw [HC.out.2]; exact HHL.out, by rw [HC.out.2]; exact HR.out, by rw [HC.out.2]; exact hown, hBk.drewN _, hbr.drewN _⟩
            case measure => simp [intOf] <;> omega
      · obtain rfl : k = xs.length := by omega
        have hle : (xs.length : Int) < xs.length + 1 := by omega
        have hsl := strip_last xs hl1
        obtain ⟨_, hfl, hsn, _⟩ := strip_inv xs xs.length (Nat.le_refl _)
        have HFL := Lib.hid (show (stripTo xs xs.length).flatten = xs by rw [hfl, hsl, List.take_length])
        have HOWN := Lib.hid hown
        clear hhl hrow hsl hfl hown
        go_wp2_with fail
        refine (ClipSS_any _ _ _ _ hsn).mono ?_
        rintro e w9 ⟨rfl, rfl⟩
        go_wp2
        go_ret2
        refine ⟨_, hs, rfl, ?_, hbr⟩
        rw [HM.out]
        refine .inl ⟨g, 3, post, HHL.out, ?_, fun b hb => ?_, ⟨by omega, hgr'⟩, ?_, ?_, HR.out⟩
        · rw [HHL.out]
          exact Own.clip (Own.of_row HOWN.out).1
        · simp [Value.ownBlock] at hb
          omega
        · simpa [Value.ownBlock] using hne
        · rw [HFL.out]
          exact hBk
  | false =>
    have HM := Lib.hid (show mStripsOf xs = [] from if_neg (by rw [hg]; exact Bool.false_ne_true))
    rw [hg] at c
    have HO := Lib.hid hg
    clear hg
    go_enter Try.func29, Try.ntmps29
    go_wp2_with fail
    refine c.mono ?_
    rintro e w1 ⟨rfl, hb1⟩
    clear c hv
    go_wp2
    go_ret2
    exact ⟨_, [], by first | rfl | (rw [HO.out]; rfl), by rw [HM.out]; exact .inr (SS.nil _ _ _), hb1⟩

theorem sStripsOfX_any (v : Value) (xs : List Int) (w : World) (hv : OwnI w v xs) (hn : xs.length ≤ 1048576) :
    Calls Try.prog 28 #[v] w fun e w' => ∃ r hs, e = .returned (.tuple #[r, .bool (goodB xs)]) ∧ RX w' w.heap.size w'.heap.size r hs (mStripsOf xs) ∧ Below w.heap.size w w' :=
  (sStripsOf_any v xs w hv hn).mono fun _ _ ⟨r, hs, h1, h2, h3⟩ => ⟨r, hs, h1, .inr h2, h3⟩
theorem len_mStripsOf (xs : List Int) : (mStripsOf xs).length ≤ 1048576 := Nat.le_trans (mStripsOf_bd xs).1 (by omega)
theorem rows_mStripsOf (xs : List Int) : ∀ l ∈ mStripsOf xs, l.length ≤ 1048576 := fun l hl => Nat.le_trans ((mStripsOf_bd xs).2 l hl) (by omega)
theorem tot_mStripsOf (xs : List Int) : pre (mStripsOf xs) (mStripsOf xs).length ≤ 1048576 := by
  have h1 := pre_bound _ (mStripsOf_bd xs).2
  have h2 := (mStripsOf_bd xs).1
  omega

end Go.Proofs.Ytocccocpacohaab
