import Derived.Test.YtmlikchhkblohaaR6
namespace Go.Proofs.Ytmlikchhkblohaa
open Go Go.RowKit Go.Pan Go.Shelf

attribute [local go_sem] Oper.semAt_some

theorem growB_in {may : Int → Int → Bool} {bs : List Int} {x : Int} (h : x ∈ bs) : growB may bs x = false := by simp [growB, h]
theorem growB_first {may : Int → Int → Bool} {x : Int} : growB may [] x = true := by simp [growB]
theorem growB_may {may : Int → Int → Bool} {bs : List Int} {x a : Int} (h : x ∉ bs) (hb : bs ≠ []) (ha : bs.getLastD 0 = a) : growB may bs x = may a x := by
  subst ha
  unfold growB
  rw [decide_eq_false h, decide_eq_false hb]
  rfl
theorem getLastD_at {bs : List Int} {k : Nat} (h : bs.length = k + 1) : bs.getLastD 0 = bs[k]'(by omega) := by
  have hn : bs ≠ [] := by rintro rfl; simp at h
  rw [List.getLastD_eq_getLast?, List.getLast?_eq_some_getLast hn, Option.getD_some, List.getLast_eq_getElem hn]
  congr 1
  omega
theorem twl_zero {bs : List Int} (h : bs.length < 9) : twl bs = twl (bs ++ [0]) := by
  unfold twl
  obtain ⟨d, hd⟩ : ∃ d, 9 - bs.length = d + 1 := ⟨9 - bs.length - 1, by omega⟩
  rw [List.length_append, List.length_singleton, hd, show 9 - (bs.length + 1) = d from by omega, List.replicate_succ]
  simp
theorem twl_last {bs : List Int} (y x : Int) : (twl (bs ++ [y])).set bs.length (iv x) = twl (bs ++ [x]) := by
  unfold twl
  simp
theorem twl_first (bs : List Int) (y : Int) (h : bs.length < 9) : ∃ post : List Value, twl (bs ++ [y]) = [] ++ bs.map iv ++ post ∧ 9 ≤ ([] ++ bs.map iv ++ post : List Value).length := by
  refine ⟨(([y] ++ List.replicate (9 - (bs ++ [y]).length) 0).map iv), ?_, ?_⟩
  · simp [twl]
  · simp; omega

/-- how a call of grow ends -/
def GrowPost (B : Nat) (J Jx : List TwU → World → Prop) (to : List TwU) (w : World) (e : Ending) (w' : World) : Prop :=
  (e = .returned (.bool true) ∧ J to w' ∧ Up B w w') ∨ (e = .returned (.bool false) ∧ ∃ p, Jx p w')

set_option maxRecDepth 100000 in
set_option maxHeartbeats 4000000 in
theorem grow_any (mf : FuncId) (may : Int → Int → Bool) (n : Nat) (hn : n ≤ 9)
    (hC : ∀ (args : Array Value) (u : World), (callFunc mf args).run Try.prog u = .ok (.enter mf args) u)
    (hM : Hid (∀ (a b : Int) (u : World), -1048576 ≤ a → a ≤ 1048576 → -1048576 ≤ b → b ≤ 1048576 → Calls Try.prog mf #[.int .i64 a, .int .i64 b] u fun e w' => e = .returned (.bool (may a b)) ∧ u = w'))
    (l B : Nat) (L : List TwU) (J Jx : List TwU → World → Prop) (hJ : Hid (∀ s A A', J s A → Below B A A' → J s A'))
    (hY : Hid (∀ pre (x : TwU) r W1, J pre W1 → L = pre ++ x :: r → YieldAt Fence.wide 8 Try.prog l #[tw x.1] W1 fun e W' => (e = .returned (.bool true) ∧ J (pre ++ [x]) W' ∧ Up B W1 W') ∨ (e = .returned (.bool false) ∧ Jx (pre ++ [x]) W'))) :
    ∀ (f : Nat) (bs : List Int) (pre : List TwU) (w : World), bs.length + f = n → Hid (∀ x ∈ bs, -9 ≤ x ∧ x ≤ 9) → Hid (∃ r, L = pre ++ towL (growL may n f bs) ++ r) → B ≤ w.heap.size → J pre w →
      Calls Try.prog 183 #[tw bs, .int .i64 bs.length, .int .i64 n, .func (.func mf) #[] #[], .func (.yield l) #[] #[]] w (GrowPost B J Jx (pre ++ towL (growL may n f bs)) w) := by
  intro f
  induction f with
  | zero =>
    intro bs pre w hbn hX hN hB hJ0
    have h9 : bs.length ≤ 9 := by omega
    have HL := Lib.hid (show towL (growL may n 0 bs) = [mkU bs] from rfl)
    have HV := Lib.hid (mkU_val h9)
    obtain ⟨r0, hle⟩ : ∃ r, L = pre ++ mkU bs :: r := by
      obtain ⟨r, hr⟩ := hN.out
      exact ⟨r, by rw [hr, HL.out]; simp⟩
    have hj1 := hJ.out _ _ _ hJ0 ((Below.refl B w).alloc hB (.cells (twl bs).toArray 86))
    have hbx := Blk.new w 86 (twl bs) _ rfl
    have hU1 := Up.below (B := B) (Below.alloc (Below.refl w.heap.size w) (Nat.le_refl _) (.cells (twl bs).toArray 86)) (Nat.le_refl _)
    obtain ⟨fn, tmps, assign, bodyc, hy, hR⟩ := hY.out pre (mkU bs) r0 _ hj1 hle
    rw [HV.out] at hy
    have hq : ((bs.length : Int) == (n : Int)) = true := by simp; omega
    clear hbn hN hJ0 hJ hY hle
    refine callsIn_wide.1 (callsIn_of_wp (F := Fence.wide) (n := 9) Try.func183 rfl trivial ?_ rfl)
    simp only [Try.ntmps183, List.size_toArray, List.length_cons, List.length_nil, Nat.reduceAdd, Nat.reduceSub, Array.replicate_succ, Array.replicate_zero, List.push_toArray, List.append_toArray, List.nil_append, List.cons_append]
    gi_wp2_with (refine wpListIn_load_tow rfl _ rfl w.heap.size bs h9 rfl hbx ?_)
    refine hR.mono ?_
    rintro e W3 (⟨rfl, hJ4, hk4⟩ | ⟨rfl, hJx4⟩)
    · gi_wp2
      go_ret
      exact .inl ⟨rfl, by rw [HL.out]; exact hJ4, hU1.trans hk4⟩
    · gi_wp2
      go_ret
      exact .inr ⟨rfl, _, hJx4⟩
  | succ f ih =>
    intro bs pre w hbn hX hN hB hJ0
    have h9 : bs.length ≤ 9 := by omega
    have hlt9 : bs.length < 9 := by omega
    have hj1 := hJ.out _ _ _ hJ0 ((Below.refl B w).alloc hB (.cells (twl bs).toArray 86))
    have hbx : Blk (w.alloc (.cells (twl bs).toArray 86)) w.heap.size 86 (twl (bs ++ [0])) := by rw [← twl_zero hlt9]; exact Blk.new w 86 (twl bs) _ rfl
    have hU1 := Up.below (B := B) (Below.alloc (Below.refl w.heap.size w) (Nat.le_refl _) (.cells (twl bs).toArray 86)) (Nat.le_refl _)
    have hq : ((bs.length : Int) == (n : Int)) = false := by simp; omega
    refine callsIn_wide.1 (callsIn_of_wp (F := Fence.wide) (n := 9) Try.func183 rfl trivial ?_ rfl)
    simp only [Try.ntmps183, List.size_toArray, List.length_cons, List.length_nil, Nat.reduceAdd, Nat.reduceSub, Array.replicate_succ, Array.replicate_zero, List.push_toArray, List.append_toArray, List.nil_append, List.cons_append]
    gi_wp2
    gi_loopw [11] (fun i wr => ∃ (m : Nat) (y : Int), m ≤ n ∧ i = .int .i64 ((m : Int) + 1) ∧ Blk wr w.heap.size 86 (twl (bs ++ [y])) ∧ J (pre ++ towL (growTo may n f bs m)) wr ∧ Up B w wr) (fun i _ => n + 1 - (intOf i).toNat)
    case atStart => exact ⟨0, 0, Nat.zero_le _, by go_num, hbx, by simpa [growTo_zero, towL] using hj1, hU1⟩
    case round =>
      obtain ⟨m, y, hm, rfl, hbl, hjr, hUr⟩ := hrel
      clear hbx hj1 hU1
      have h9y : (bs ++ [y]).length ≤ 9 := by simp; omega
      have h9x : (bs ++ [(m : Int) + 1]).length ≤ 9 := by simp; omega
      by_cases hlt : m < n
      · have hle : (m : Int) + 1 ≤ n := by omega
        have hbn9 : (bs.length : Int) ≤ 9 := by omega
        have hm9 : (m : Int) < 9 := by omega
        have hsz := hUr.size
        have hgl := hbl.lt
        obtain ⟨post, hp1, hp2⟩ := twl_first bs y hlt9
        have hbl' := hbl
        rw [hp1] at hbl'
        have hown : OwnI wr (.slice (some ⟨w.heap.size, 0, none⟩) bs.length 9) bs := Own.of_blk hbl' rfl rfl h9 (by unfold maxLen; omega) (by simpa using hp2)
        clear hbl' hp1 hp2
        have hnl : bs.length ≤ 1048576 := by omega
        gi_wp2_with fail
        refine ⟨trivial, (callsIn_wide.2 (slContains_any _ bs ((m : Int) + 1) _ hown hnl)).mono ?_⟩
        rintro e w2 ⟨rfl, hb2⟩
        have hbl2 := hbl.below hb2 hgl
        have hj2 := hJ.out _ _ _ hjr (hb2.mono (by omega))
        have hU2 := hUr.trans (Up.below hb2 (Nat.le_refl _))
        clear hown hjr hUr
        by_cases hc : (m : Int) + 1 ∈ bs
        · have HG := Lib.hid (growTo_no (n := n) (f := f) (growB_in (may := may) hc))
          rw [decide_eq_true hc]
          have HC := Lib.hid hc
          clear hc hN ih hY hC hM
          gi_wp2_with (refine wpListIn_skip rfl rfl ?_)
          go_roundw
          case rel => exact ⟨m + 1, y, by omega, by go_num, hbl2, by rw [HG.out]; exact hj2, hU2⟩
          case measure => simp [intOf] <;> omega
        · rw [decide_eq_false hc]
          have HC := Lib.hid hc
          clear hc
          have hle9 : bs.length < 9 := by omega
          have hbl3 := hbl2.set bs.length (iv ((m : Int) + 1))
          rw [twl_last] at hbl3
          have hfz := hbl2.frozen bs.length
          obtain ⟨c0, hc0⟩ : ∃ c0, (twl (bs ++ [y]))[bs.length]? = some c0 := ⟨_, List.getElem?_eq_getElem (by rw [twl_length _ h9y]; omega)⟩
          have hcc := (hbl2.cell bs.length).trans hc0
          have hj3 := hJ.out _ _ _ hj2 ((Below.refl B w2).setCell (p := ⟨w.heap.size, bs.length, none⟩) hB (iv ((m : Int) + 1)))
          have hB3 : B ≤ (w2.setCell ⟨w.heap.size, bs.length, none⟩ (iv ((m : Int) + 1))).heap.size := by have := hb2.size; simp [World.setCell]; omega
          have hU3 : Up B w (w2.setCell ⟨w.heap.size, bs.length, none⟩ (iv ((m : Int) + 1))) := ⟨by have := hU2.size; simp [World.setCell]; exact this, fun g h1 h2 => (heap_setCell_other w2 ⟨w.heap.size, bs.length, none⟩ g _ (by simp; omega)).trans (hU2.same g h1 h2)⟩
          have hXX : Hid (∀ x ∈ bs ++ [(m : Int) + 1], -9 ≤ x ∧ x ≤ 9) := Lib.hid fun x hx => by
            rcases List.mem_append.1 hx with h | h
            · exact hX.out x h
            · simp at h; omega
          by_cases h0 : bs.length = 0
          · have hgb : growB may bs ((m : Int) + 1) = true := by rw [List.eq_nil_of_length_eq_zero h0]; exact growB_first
            have HG := Lib.hid (growTo_yes (n := n) (f := f) hgb)
            have hq0 : decide ((0 : Int) < bs.length) = false := decide_eq_false (by omega)
            have hq1 : decide (0 < bs.length) = false := decide_eq_false (by omega)
            have H0 := Lib.hid h0
            clear h0 hgb
            have HP : Hid (∃ r, growL may n (f + 1) bs = growTo may n f bs m ++ growL may n f (bs ++ [(m : Int) + 1]) ++ r) := Lib.hid (by
              obtain ⟨r, hr⟩ := growTo_prefix may n f bs (show m + 1 ≤ n by omega)
              exact ⟨r, by rw [← growTo_all, hr, HG.out]⟩)
            have hNN : Hid (∃ r, L = pre ++ towL (growTo may n f bs m) ++ towL (growL may n f (bs ++ [(m : Int) + 1])) ++ r) := Lib.hid (by
              obtain ⟨r, hr⟩ := hN.out
              obtain ⟨r2, hr2⟩ := HP.out
              exact ⟨towL r2 ++ r, by rw [hr, hr2, towL_append, towL_append]; simp⟩)
            have hcall := ih (bs ++ [(m : Int) + 1]) (pre ++ towL (growTo may n f bs m)) _ (by simp; omega) hXX hNN hB3 hj3
            have hcast : ((bs ++ [(m : Int) + 1]).length : Int) = (bs.length : Int) + 1 := by simp
            rw [hcast] at hcall
            clear hcast hc0 hN hJ0 hX ih hbl hbl2 hY hM hC hXX hNN hJ
            gi_wp2_with (first
              | (refine wpListIn_skip rfl rfl ?_)
              | (refine wpListIn_load_tow rfl _ rfl w.heap.size (bs ++ [(m : Int) + 1]) h9x rfl hbl3 ?_))
            refine ⟨trivial, (callsIn_wide.2 hcall).mono ?_⟩
            rintro e w4 (⟨rfl, hj4, hU4⟩ | ⟨rfl, pp, hjx4⟩)
            · have hbl4 : Blk w4 w.heap.size 86 (twl (bs ++ [(m : Int) + 1])) := by unfold Blk; rw [hU4.same _ hB hbl3.lt]; exact hbl3
              have hU5 := hU3.trans hU4
              clear hbl3 hU4 hU3 hj3 hcc hfz hB3 hU2 hj2
              gi_wp2
              go_roundw
              case rel => exact ⟨m + 1, (m : Int) + 1, by omega, by go_num, hbl4, by rw [HG.out, towL_append, ← List.append_assoc]; exact hj4, hU5⟩
              case measure => simp [intOf] <;> omega
            · clear hbl3 hU3 hj3 hcc hfz hB3 hU2 hj2
              gi_wp2
              go_ret
              exact .inr ⟨rfl, pp, hjx4⟩
          · obtain ⟨q, hq⟩ : ∃ q, bs.length = q + 1 := ⟨bs.length - 1, by omega⟩
            obtain ⟨a, ha⟩ : ∃ a, bs.getLastD 0 = a := ⟨_, rfl⟩
            have hat := getLastD_at hq
            rw [ha] at hat
            have hab := hX.out a (hat ▸ List.getElem_mem _)
            have ha1 := hab.1
            have ha2 := hab.2
            have hcl : w2.cell? ⟨w.heap.size, bs.length - 1, none⟩ = some (iv a) := by
              rw [hbl2.cell, hq, Nat.add_sub_cancel, twl_get (bs ++ [y]) q (by simp; omega), List.getElem_append_left (by omega), hat]
            have hgm := growB_may (may := may) HC.out (by rintro rfl; simp at h0) ha
            have hq0 : decide ((0 : Int) < bs.length) = true := decide_eq_true (by omega)
            have hq1 : decide (0 < bs.length) = true := decide_eq_true (by omega)
            have hlp : (1 : Int) ≤ bs.length := by omega
            have HQ := Lib.hid hq
            clear h0 hq hat hab ha
            gi_wp2_with fail
            refine ⟨trivial, (callsIn_wide.2 (hM.out a ((m : Int) + 1) _ (by omega) (by omega) (by omega) (by omega))).mono ?_⟩
            rintro e w3 ⟨rfl, rfl⟩
            cases hmay : may a ((m : Int) + 1) with
            | true =>
              rw [hmay] at hgm
              have HG := Lib.hid (growTo_yes (n := n) (f := f) hgm)
              clear hgm hmay
              have HP : Hid (∃ r, growL may n (f + 1) bs = growTo may n f bs m ++ growL may n f (bs ++ [(m : Int) + 1]) ++ r) := Lib.hid (by
                obtain ⟨r, hr⟩ := growTo_prefix may n f bs (show m + 1 ≤ n by omega)
                exact ⟨r, by rw [← growTo_all, hr, HG.out]⟩)
              have hNN : Hid (∃ r, L = pre ++ towL (growTo may n f bs m) ++ towL (growL may n f (bs ++ [(m : Int) + 1])) ++ r) := Lib.hid (by
                obtain ⟨r, hr⟩ := hN.out
                obtain ⟨r2, hr2⟩ := HP.out
                exact ⟨towL r2 ++ r, by rw [hr, hr2, towL_append, towL_append]; simp⟩)
              have hcall := ih (bs ++ [(m : Int) + 1]) (pre ++ towL (growTo may n f bs m)) _ (by simp; omega) hXX hNN hB3 hj3
              have hcast : ((bs ++ [(m : Int) + 1]).length : Int) = (bs.length : Int) + 1 := by simp
              rw [hcast] at hcall
              clear hcast hc0 hN hJ0 hX ih hbl hbl2 hY hM hC hXX hNN hJ
              gi_wp2_with (first
                | (refine wpListIn_skip rfl rfl ?_)
                | (refine wpListIn_load_tow rfl _ rfl w.heap.size (bs ++ [(m : Int) + 1]) h9x rfl hbl3 ?_))
              refine ⟨trivial, (callsIn_wide.2 hcall).mono ?_⟩
              rintro e w4 (⟨rfl, hj4, hU4⟩ | ⟨rfl, pp, hjx4⟩)
              · have hbl4 : Blk w4 w.heap.size 86 (twl (bs ++ [(m : Int) + 1])) := by unfold Blk; rw [hU4.same _ hB hbl3.lt]; exact hbl3
                have hU5 := hU3.trans hU4
                clear hbl3 hU4 hU3 hj3 hcc hfz hB3 hU2 hj2
                gi_wp2
                go_roundw
                case rel => exact ⟨m + 1, (m : Int) + 1, by omega, by go_num, hbl4, by rw [HG.out, towL_append, ← List.append_assoc]; exact hj4, hU5⟩
                case measure => simp [intOf] <;> omega
              · clear hbl3 hU3 hj3 hcc hfz hB3 hU2 hj2
                gi_wp2
                go_ret
                exact .inr ⟨rfl, pp, hjx4⟩
            | false =>
              rw [hmay] at hgm
              have HG := Lib.hid (growTo_no (n := n) (f := f) hgm)
              clear hgm hmay hcl hfz hcc hc0 hbl3 hbl hj3 hB3 hU3 hXX hN ih hY hC hM hJ hX
              gi_wp2_with (refine wpListIn_skip rfl rfl ?_)
              go_roundw
              case rel => exact ⟨m + 1, y, by omega, by go_num, hbl2, by rw [HG.out]; exact hj2, hU2⟩
              case measure => simp [intOf] <;> omega
      · obtain rfl : m = n := by omega
        clear hY hJ hC hM ih hN
        gi_wp2
        go_ret
        exact .inl ⟨rfl, hjr, hUr⟩

end Go.Proofs.Ytmlikchhkblohaa

