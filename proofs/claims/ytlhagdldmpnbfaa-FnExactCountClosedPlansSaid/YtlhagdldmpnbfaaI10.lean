import Derived.Test.YtlhagdldmpnbfaaI9
import Derived.Test.YtlhagdldmpnbfaaI6
import Derived.Test.YtlhagdldmpnbfaaS9
import Derived.ScopeJumps
namespace Go.Proofs.Ytlhagdldmpnbfaa
open Go Go.RowKit Go.Pan

def GreedyJ (xs : List Int) (w : World) (a' : Act) (wr : World) : Prop :=
  ∃ (m : Nat) (ys out : List Int) (o u7 u8 u9 u10 u11 u12 u13 u14 u15 u16 u17 u18 u19 u20 u21 u22 u23 u24 u25 u26 u27 u28 u29 u30 u31 : Value), a' = { tmps := #[tw xs, .int .i64 xs.length, .pointer (some ⟨w.heap.size, 0, none⟩), undef, .slice none 0 0, o, .int .i64 m, u7, u8, u9, u10, u11, u12, u13, u14, u15, u16, u17, u18, u19, u20, u21, u22, u23, u24, u25, u26, u27, u28, u29, u30, u31], defers := [] } ∧
    OwnI wr o out ∧ From (w.heap.size + 1) o ∧ Blk wr w.heap.size 43 (twl ys) ∧ GreedyAt xs m ys out ∧ Below w.heap.size w wr

set_option maxHeartbeats 800000 in
theorem greedy_any (xs : List Int) (w : World) (hg : Hid (Go.Pan.Good xs)) :
    Calls Try.prog 108 #[tw xs, .int .i64 xs.length] w fun e w' => ∃ r, e = .returned r ∧ OwnI w' r (greedyL xs) ∧ From w.heap.size r ∧ Below w.heap.size w w' := by
  have hl9 := hg.out.le9
  have hbx : Blk (w.alloc (.cells (twl xs).toArray 43)) w.heap.size 43 (twl xs) := Blk.new w _ (twl xs) _ rfl
  have hb0 := below_new w (.cells (twl xs).toArray 43)
  have HT := Lib.hid (twl_length xs hl9)
  go_enter Try.func108, Try.ntmps108
  go_wp2
  refine wp_scope_jumps 0 (GreedyJ xs w) (fun a' _ => (intOf (a'.tmps.getD 6 undef)).toNat) rfl ?_ ?_
  · go_wp2_with fail
    refine (planOf_any _ [] _ (OwnI.nil _) (by simp)).mono ?_
    rintro e w1 ⟨r0, rfl, ho, hf0, hb1⟩
    have hf : From (w.heap.size + 1) r0 := hf0.mono (by simp)
    have hbl := hbx.below hb1 (by simp)
    have hbr := hb0.trans (hb1.mono hb0.size)
    have hat := Lib.hid (GreedyAt.start hg.out)
    clear hbx hb0 hb1 hf0
    go_wp2
    go_step3
    rename_i hK
    refine hK _ _ ?_
    have hgy := hat.out.1
    have hly := hat.out.2.1
    have hml := hat.out.2.2.1
    have hol := hat.out.len
    have HY := Lib.hid hly
    have HGY := Lib.hid hgy
    have hly9 : (xs).length ≤ 9 := by omega
    have hmy : xs.length ≤ (xs).length := by omega
    clear hgy hly
    by_cases hlt : 2 ≤ xs.length
    · have hlti : (2 : Int) ≤ (xs.length : Nat) := by omega
      have HB := Lib.hid (bringL_bd HGY.out (show 1 ≤ xs.length by omega) hmy)
      have hbl3 := len_bringL (xs) ((xs.length : Nat) : Int) ((xs.length : Nat) : Int)
      have HN := Lib.hid (hat.out.step hlt)
      have HOK : okBring (xs) ((xs.length : Nat) : Int) ((xs.length : Nat) : Int) = true := okBring_iff.2 ⟨HGY.out, by omega, by omega⟩
      have c : ∀ v W, OwnI W v (xs) → Calls Try.prog 126 #[v, .int .i64 ((xs.length : Nat) : Int), .int .i64 ((xs.length : Nat) : Int)] W fun e w' => ∃ r, e = .returned (.tuple #[r, .bool true]) ∧ OwnI w' r (bringL (xs) ((xs.length : Nat) : Int) ((xs.length : Nat) : Int)) ∧ From W.heap.size r ∧ Below W.heap.size W w' := fun v W h1 => by
        have h := BringTo_any v (xs) ((xs.length : Nat) : Int) ((xs.length : Nat) : Int) W h1 (by omega)
        rw [show mBringTo (xs) ((xs.length : Nat) : Int) ((xs.length : Nat) : Int) = bringL (xs) ((xs.length : Nat) : Int) ((xs.length : Nat) : Int) from if_pos HOK, HOK] at h
        exact h
      have hz0 := hbl.lt
      have hol2 := ho.lt
      have hs0 := hbr.size
      clear HOK
      go_wp2_with (first | (refine wpList_load_tower rfl _ rfl w.heap.size (xs) hly9 rfl hbl ?_))
      refine (list_any (xs) xs.length _ (by first | rfl | exact HY.out) hl9).mono ?_
      rintro e w2 ⟨rl, rfl, hoL, hfL, hb2⟩
      go_wp2_with fail
      refine (c _ _ hoL).mono ?_
      rintro e w3 ⟨rb, rfl, hob, hfb, hb3⟩
      obtain ⟨adb, capb, rfl, _⟩ := hob.shape
      have hsrc := Own.src hob
      have ho3 := (ho.same hb2).same hb3
      have hbT3 := (hbl.below hb2 hz0).below hb3 (Nat.lt_of_lt_of_le hz0 hb2.size)
      have hB2 := hbr.trans (hb2.mono hbr.size)
      have hB3 := hB2.trans (hb3.mono hB2.size)
      have hs3 : w.heap.size + 1 ≤ w3.heap.size := by have := hb2.size; have := hb3.size; omega
      have hapart := apart_gt hfb (fun g hg => Nat.lt_of_lt_of_le (hol2 g hg) hb2.size)
      clear ho hbl hbr hb2 hb3 hB2 c hoL hfL
      go_wp2_with (at_builtin; refine wpList_appI Try.intSl rfl _ _ rfl _ ([]) rfl ho3 (w.heap.size + 1) hf adb _ capb (bringL (xs) ((xs.length : Nat) : Int) ((xs.length : Nat) : Int)) rfl rfl hsrc w3 (Below.refl _ _) hs3 (by omega) (by omega) ?_)
      intro v4 w4 ho4 hf4 hb4 hgr4
      have hob4 := hob.grown hgr4 (fun g hg e => hapart g hg e)
      have hbT4 := hbT3.below hb4 (by omega)
      have hB4 := hB3.trans (hb4.mono (by omega))
      have hz4 := hbT4.lt
      clear hob hbT3 hB3 hb4 hgr4 ho3 hsrc hapart
      go_wp2_with (first | (refine wpList_load_tower rfl _ rfl w.heap.size (xs) hly9 rfl hbT4 ?_))
      refine (played_any _ (xs) (bringL (xs) ((xs.length : Nat) : Int) ((xs.length : Nat) : Int)) _ hly9 hob4 HB (by omega)).mono ?_
      rintro e w5 ⟨rfl, hb5⟩
      have ho5 := ho4.same hb5
      have hbT5 := hbT4.below hb5 hz4
      have hB5 := hB4.trans (hb5.mono hB4.size)
      have h9p : (playL (xs) (bringL (xs) ((xs.length : Nat) : Int) ((xs.length : Nat) : Int))).length ≤ 9 := by rw [playL_length]; exact hly9
      clear hob4 hbT4 hB4 hb5 ho4
      go_wp2_with (first | (refine wpList_store_tower rfl _ _ rfl w.heap.size (xs) (playL (xs) (bringL (xs) ((xs.length : Nat) : Int) ((xs.length : Nat) : Int))) hly9 h9p rfl rfl hbT5 ?_; intro w6 hbT6 hgr6))
      have ho6 := ho5.grown hgr6 (fun g hg e => by simp at e; have := hf4 g hg; omega)
      have hB6 := hB5.grown hgr6 hB5.size (fun k hk => by simp at hk; omega)
      clear ho5 hB5 hgr6 hbT5
      go_wp2
      go_step3
      have hmi : ((xs.length : Nat) : Int) - 1 = ((xs.length - 1 : Nat) : Int) := by omega
      rw [hmi]
      exact ⟨rfl, ⟨xs.length - 1, playL (xs) (bringL (xs) ((xs.length : Nat) : Int) ((xs.length : Nat) : Int)), [] ++ bringL (xs) ((xs.length : Nat) : Int) ((xs.length : Nat) : Int), v4, _, _, _, _, _, _, _, _, _, _, _, _, _, _, _, _, _, _, _, _, _, _, _, _, _, rfl, ho6, hf4, hbT6, HN.out, hB6⟩⟩
    · have hlti : ((xs.length : Nat) : Int) < 2 := by omega
      have HD := Lib.hid (hat.out.done (by omega))
      have hoD : OwnI w1 r0 (greedyL xs) := by rw [← HD.out]; exact ho
      clear ho
      go_wp2_with fail
      refine (Clip_any _ _ _ hoD).mono ?_
      rintro e w2 ⟨r, rfl, hor, hob, rfl⟩
      have hfr : From w.heap.size r := fun g hg => Nat.le_of_succ_le (hf g (by rw [← hob]; exact hg))
      clear hob
      go_wp2
      simp only [Exit.jump]
      go_ret
      exact ⟨_, rfl, hor, hfr, hbr⟩
  · rintro a' wr ⟨m, ys, out, o, u7, u8, u9, u10, u11, u12, u13, u14, u15, u16, u17, u18, u19, u20, u21, u22, u23, u24, u25, u26, u27, u28, u29, u30, u31, rfl, ho, hf, hbl, hat0, hbr⟩
    clear hbx hb0
    have hat := Lib.hid hat0
    clear hat0
    have hgy := hat.out.1
    have hly := hat.out.2.1
    have hml := hat.out.2.2.1
    have hol := hat.out.len
    have HY := Lib.hid hly
    have HGY := Lib.hid hgy
    have hly9 : (ys).length ≤ 9 := by omega
    have hmy : m ≤ (ys).length := by omega
    clear hgy hly
    by_cases hlt : 2 ≤ m
    · have hlti : (2 : Int) ≤ (m : Nat) := by omega
      have HB := Lib.hid (bringL_bd HGY.out (show 1 ≤ m by omega) hmy)
      have hbl3 := len_bringL (ys) ((m : Nat) : Int) ((m : Nat) : Int)
      have HN := Lib.hid (hat.out.step hlt)
      have HOK : okBring (ys) ((m : Nat) : Int) ((m : Nat) : Int) = true := okBring_iff.2 ⟨HGY.out, by omega, by omega⟩
      have c : ∀ v W, OwnI W v (ys) → Calls Try.prog 126 #[v, .int .i64 ((m : Nat) : Int), .int .i64 ((m : Nat) : Int)] W fun e w' => ∃ r, e = .returned (.tuple #[r, .bool true]) ∧ OwnI w' r (bringL (ys) ((m : Nat) : Int) ((m : Nat) : Int)) ∧ From W.heap.size r ∧ Below W.heap.size W w' := fun v W h1 => by
        have h := BringTo_any v (ys) ((m : Nat) : Int) ((m : Nat) : Int) W h1 (by omega)
        rw [show mBringTo (ys) ((m : Nat) : Int) ((m : Nat) : Int) = bringL (ys) ((m : Nat) : Int) ((m : Nat) : Int) from if_pos HOK, HOK] at h
        exact h
      have hz0 := hbl.lt
      have hol2 := ho.lt
      have hs0 := hbr.size
      clear HOK
      go_wp2_with (first | (refine wpList_load_tower rfl _ rfl w.heap.size (ys) hly9 rfl hbl ?_))
      refine (list_any (ys) xs.length _ (by first | rfl | exact HY.out) hl9).mono ?_
      rintro e w2 ⟨rl, rfl, hoL, hfL, hb2⟩
      go_wp2_with fail
      refine (c _ _ hoL).mono ?_
      rintro e w3 ⟨rb, rfl, hob, hfb, hb3⟩
      obtain ⟨adb, capb, rfl, _⟩ := hob.shape
      have hsrc := Own.src hob
      have ho3 := (ho.same hb2).same hb3
      have hbT3 := (hbl.below hb2 hz0).below hb3 (Nat.lt_of_lt_of_le hz0 hb2.size)
      have hB2 := hbr.trans (hb2.mono hbr.size)
      have hB3 := hB2.trans (hb3.mono hB2.size)
      have hs3 : w.heap.size + 1 ≤ w3.heap.size := by have := hb2.size; have := hb3.size; omega
      have hapart := apart_gt hfb (fun g hg => Nat.lt_of_lt_of_le (hol2 g hg) hb2.size)
      clear ho hbl hbr hb2 hb3 hB2 c hoL hfL
      go_wp2_with (at_builtin; refine wpList_appI Try.intSl rfl _ _ rfl _ (out) rfl ho3 (w.heap.size + 1) hf adb _ capb (bringL (ys) ((m : Nat) : Int) ((m : Nat) : Int)) rfl rfl hsrc w3 (Below.refl _ _) hs3 (by omega) (by omega) ?_)
      intro v4 w4 ho4 hf4 hb4 hgr4
      have hob4 := hob.grown hgr4 (fun g hg e => hapart g hg e)
      have hbT4 := hbT3.below hb4 (by omega)
      have hB4 := hB3.trans (hb4.mono (by omega))
      have hz4 := hbT4.lt
      clear hob hbT3 hB3 hb4 hgr4 ho3 hsrc hapart
      go_wp2_with (first | (refine wpList_load_tower rfl _ rfl w.heap.size (ys) hly9 rfl hbT4 ?_))
      refine (played_any _ (ys) (bringL (ys) ((m : Nat) : Int) ((m : Nat) : Int)) _ hly9 hob4 HB (by omega)).mono ?_
      rintro e w5 ⟨rfl, hb5⟩
      have ho5 := ho4.same hb5
      have hbT5 := hbT4.below hb5 hz4
      have hB5 := hB4.trans (hb5.mono hB4.size)
      have h9p : (playL (ys) (bringL (ys) ((m : Nat) : Int) ((m : Nat) : Int))).length ≤ 9 := by rw [playL_length]; exact hly9
      clear hob4 hbT4 hB4 hb5 ho4
      go_wp2_with (first | (refine wpList_store_tower rfl _ _ rfl w.heap.size (ys) (playL (ys) (bringL (ys) ((m : Nat) : Int) ((m : Nat) : Int))) hly9 h9p rfl rfl hbT5 ?_; intro w6 hbT6 hgr6))
      have ho6 := ho5.grown hgr6 (fun g hg e => by simp at e; have := hf4 g hg; omega)
      have hB6 := hB5.grown hgr6 hB5.size (fun k hk => by simp at hk; omega)
      clear ho5 hB5 hgr6 hbT5
      go_wp2
      go_step3
      have hmi : ((m : Nat) : Int) - 1 = ((m - 1 : Nat) : Int) := by omega
      rw [hmi]
      exact ⟨rfl, ⟨m - 1, playL (ys) (bringL (ys) ((m : Nat) : Int) ((m : Nat) : Int)), out ++ bringL (ys) ((m : Nat) : Int) ((m : Nat) : Int), v4, _, _, _, _, _, _, _, _, _, _, _, _, _, _, _, _, _, _, _, _, _, _, _, _, _, rfl, ho6, hf4, hbT6, HN.out, hB6⟩, by simp [intOf]; omega⟩
    · have hlti : ((m : Nat) : Int) < 2 := by omega
      have HD := Lib.hid (hat.out.done (by omega))
      have hoD : OwnI wr o (greedyL xs) := by rw [← HD.out]; exact ho
      clear ho
      go_wp2_with fail
      refine (Clip_any _ _ _ hoD).mono ?_
      rintro e w2 ⟨r, rfl, hor, hob, rfl⟩
      have hfr : From w.heap.size r := fun g hg => Nat.le_of_succ_le (hf g (by rw [← hob]; exact hg))
      clear hob
      go_wp2
      simp only [Exit.jump]
      go_ret
      exact ⟨_, rfl, hor, hfr, hbr⟩

theorem mGreedy_eq (xs : List Int) : mGreedyLength xs = ((mGreedyPlan xs).length : Int) := by
  unfold mGreedyLength mGreedyPlan
  split <;> rfl

end Go.Proofs.Ytlhagdldmpnbfaa

