import Derived.Test.YtocccocpacohaabI9
import Derived.Test.YtocccocpacohaabS11
namespace Go.Proofs.Ytocccocpacohaab
open Go Go.RowKit Go.Pan

theorem noOne_lit1 (k : Nat) : noOne [(k : Int) + 2] = [(k : Int) + 2] := by simp [noOne]; omega
theorem noOne_lit2 (a b : Nat) : noOne [(a : Int) + 2, (b : Int) + 2] = [(a : Int) + 2, (b : Int) + 2] := by
  simp only [noOne, List.filter_cons, List.filter_nil]
  rw [if_pos (by simp; omega), if_pos (by simp; omega)]
theorem playL_lit2 (xs : List Int) (a b : Nat) : playL xs [(a : Int) + 2, (b : Int) + 2] = turnL (turnL xs (a + 2)) (b + 2) := by
  show turnL (turnL xs ((a : Int) + 2).toNat) ((b : Int) + 2).toNat = _
  rw [show ((a : Int) + 2).toNat = a + 2 by omega, show ((b : Int) + 2).toNat = b + 2 by omega]

set_option maxHeartbeats 1600000 in
theorem TwoTurnSorts_any (v : Value) (xs : List Int) (w : World) (hv : OwnI w v xs) (hn : xs.length ≤ 1048576) :
    Calls Try.prog 54 #[v] w fun e w' => ∃ r, e = .returned (.tuple #[r, .bool (okTwoTurnSorts xs)]) ∧ OwnI w' r (mTwoTurnSorts xs) ∧ From w.heap.size r ∧ Below w.heap.size w w' := by
  obtain ⟨ad, cap, rfl, hc, _, _⟩ := hv.shape
  cases hg : goodB xs with
  | true =>
    have HG := Lib.hid (goodB_iff.1 hg)
    have HM := Lib.hid (show mTwoTurnSorts xs = (twoL xs).getD [] from if_pos hg)
    have HO := Lib.hid (show okTwoTurnSorts xs = (twoL xs).isSome by unfold okTwoTurnSorts; rw [hg]; rfl)
    have hl9 := HG.out.le9
    have hl1 := HG.out.1
    have hut := Try.underlying46
    have hs9 : (twl xs).length = 9 := twl_length _ hl9
    have hsz : (Try.prog.info? 46).map (·.size) = some (twl xs).length := by rw [Try.infoT, hs9]
    have heq0 := tower_eq xs (ramp 1 xs.length) hl9 (by rw [ramp_length])
    have HS9 := Lib.hid hs9
    clear hs9
    go_enter Try.func54, Try.ntmps54
    go_wp2_with fail
    refine (IsStack_any _ _ _ hv hn).mono ?_
    rintro e w1 ⟨rfl, hb⟩
    go_wp2_with fail
    refine (towerOf_any _ _ _ (hv.same hb) hl9).mono ?_
    rintro e w2 ⟨rfl, hb2⟩
    have hz : Blk (w2.alloc (.cells (twl []).toArray 46)) w2.heap.size 46 (twl []) := Blk.new w2 _ (twl []) _ rfl
    have hB2 := hb.trans (hb2.mono hb.size)
    have hs2 := hB2.size
    have hB3 := hB2.alloc hB2.size (.cells (twl []).toArray 46)
    clear hb hb2 hv
    go_wp2_with (first | (refine wpList_store_tower rfl _ _ rfl w2.heap.size [] xs (by simp) hl9 rfl rfl hz ?_; intro w3 hbT hgr))
    have hB4 := hB3.grown hgr hB3.size (fun k hk => by simp at hk; omega)
    have hlT := hbT.lt
    have hra := hbT.range
    clear hz hB2 hB3 hgr
    cases hr : isRamp xs with
    | true =>
      have HT := Lib.hid (twoL_nil hr)
      have hde : decide (xs = ramp 1 xs.length) = true := hr
      rw [hde] at heq0
      clear hr hde
      go_wp2_with fail
      refine wp_region_held_drew (S := (fun w' => w'.rangeAt w2.heap.size 0 (twl xs))) (by kernel_rfl) (hra) (fun hHeld => ?_)
      refine wpAnyH_take (i := 0) rfl (by kernel_rfl) (by kernel_rfl) (by kernel_rfl) (fun _ _ _ h => h) (yieldsIf_load_mid (by rfl) _ _ rfl _ _ rfl _ _ (fun w hw => hw) hut rfl hsz) (by assumption) ?_
      refine wpAnyH_take (i := 1) (v := ?_) rfl (by kernel_rfl) (by kernel_rfl) (by kernel_rfl) (fun _ _ _ h => h) (Or.inl ⟨by rfl, ?_⟩) (by assumption) ?_
      rotate_left
      · intro w _; go_simp; with_reducible rfl
      refine wpAnyH_ready (rs := [2]) (by kernel_rfl) (by simp) ?_
      refine AllReadyH.cons rfl (fun K hK => ?_) AllReadyH.nil
      go_simp
      refine (sortedTower_any _ _ hl9).mono ?_
      rintro e w6 ⟨rfl, hb6⟩
      go_wp2_with fail
      refine hK.out _ _ (range_below hHeld hb6 hlT) (fun hHeld => ?_)
      clear hK K
      refine wpAnyH_take (i := 3) (v := ?_) rfl (by kernel_rfl) (by kernel_rfl) (by kernel_rfl) (fun _ _ _ h => h) (Or.inl ⟨by rfl, ?_⟩) (by assumption) ?_
      rotate_left
      · intro w _; go_simp; with_reducible rfl
      refine wpAnyH_done (by kernel_rfl) ?_ _
      have hB6 := hB4.drew.trans (hb6.mono hB4.size)
      clear hra hbT
      go_wp2_with fail
      refine (planOf_any _ [] _ (OwnI.nil _) (by simp)).mono ?_
      rintro e w7 ⟨r, rfl, ho, hf, hb7⟩
      go_wp2
      go_ret2
      exact ⟨_, by rw [HO.out, HT.out]; rfl, by rw [HM.out, HT.out]; exact ho, hf.mono hB6.size, hB6.trans (hb7.mono hB6.size)⟩
    | false =>
      have HR := Lib.hid hr
      have hde : decide (xs = ramp 1 xs.length) = false := hr
      rw [hde] at heq0
      clear hr hde
      go_wp2_with fail
      refine wp_region_held_drew (S := (fun w' => w'.rangeAt w2.heap.size 0 (twl xs))) (by kernel_rfl) (hra) (fun hHeld => ?_)
      refine wpAnyH_take (i := 0) rfl (by kernel_rfl) (by kernel_rfl) (by kernel_rfl) (fun _ _ _ h => h) (yieldsIf_load_mid (by rfl) _ _ rfl _ _ rfl _ _ (fun w hw => hw) hut rfl hsz) (by assumption) ?_
      refine wpAnyH_take (i := 1) (v := ?_) rfl (by kernel_rfl) (by kernel_rfl) (by kernel_rfl) (fun _ _ _ h => h) (Or.inl ⟨by rfl, ?_⟩) (by assumption) ?_
      rotate_left
      · intro w _; go_simp; with_reducible rfl
      refine wpAnyH_ready (rs := [2]) (by kernel_rfl) (by simp) ?_
      refine AllReadyH.cons rfl (fun K hK => ?_) AllReadyH.nil
      go_simp
      refine (sortedTower_any _ _ hl9).mono ?_
      rintro e w6 ⟨rfl, hb6⟩
      go_wp2_with fail
      refine hK.out _ _ (range_below hHeld hb6 hlT) (fun hHeld => ?_)
      clear hK K
      refine wpAnyH_take (i := 3) (v := ?_) rfl (by kernel_rfl) (by kernel_rfl) (by kernel_rfl) (fun _ _ _ h => h) (Or.inl ⟨by rfl, ?_⟩) (by assumption) ?_
      rotate_left
      · intro w _; go_simp; with_reducible rfl
      refine wpAnyH_done (by kernel_rfl) ?_ _
      have hB6 := hB4.drew.trans (hb6.mono hB4.size)
      have hbT6 := (hbT.drew).below hb6 hlT
      clear hra hbT hB4 hb6 heq0
      go_wp2
      go_loopw [6] (fun i wr => ∃ k : Nat, k + 1 ≤ xs.length ∧ i = .int .i64 ((k : Int) + 2) ∧ Hid (oneTo xs k = none) ∧ Blk wr w2.heap.size 46 (twl xs) ∧ Below w.heap.size w wr) (fun i _ => xs.length + 2 - (intOf i).toNat)
      case atStart => exact ⟨0, hl1, by go_num, rfl, hbT6, hB6⟩
      case round =>
        obtain ⟨k, hk, rfl, h0, hbT, hbr⟩ := hrel
        have hlT2 := hbT.lt
        clear hB6 hbT6
        by_cases hlt : k + 2 ≤ xs.length
        · have hli : (k : Int) + 2 ≤ xs.length := by omega
          have ct := turned_any xs (k + 2) wr hl9 hlt
          rw [Int.natCast_add, show ((2 : Nat) : Int) = 2 from rfl] at ct
          have heq := tower_eq (turnL xs (k + 2)) (ramp 1 xs.length) (by rw [turnL_length]; exact hl9) (by rw [turnL_length, ramp_length])
          rw [← isRamp_turn] at heq
          cases h1 : isRamp (turnL xs (k + 2)) with
          | true =>
            have HT := Lib.hid (twoL_one HR.out (by omega) h0.out h1)
            have HN := Lib.hid (noOne_lit1 k)
            rw [h1] at heq
            clear h1
            go_wp2_with (first | (refine wpList_load_tower rfl _ rfl w2.heap.size xs hl9 rfl hbT ?_))
            refine ct.mono ?_
            rintro e w7 ⟨rfl, hb7⟩
            go_wp2_with fail
            refine (sortedTower_any _ _ hl9).mono ?_
            rintro e w8 ⟨rfl, hb8⟩
            have hB7 := hbr.trans (hb7.mono hbr.size)
            have hB8 := hB7.trans (hb8.mono hB7.size)
            clear ct hbT hbr hb7 hb8 hB7
            go_wp2_with fail
            refine (planOf_any _ [(k : Int) + 2] _ (OwnI.lit _ _ [(k : Int) + 2] 1 rfl (by omega) _ rfl) (by simp)).mono ?_
            rintro e w9 ⟨r, rfl, ho, hf, hb9⟩
            have hB9 := hB8.alloc hB8.size (.cells #[.int .i64 ((k : Int) + 2)] 3)
            go_wp2
            go_ret2
            exact ⟨_, by rw [HO.out, HT.out]; rfl, by rw [HM.out, HT.out]; rw [HN.out] at ho; exact ho, hf.mono hB9.size, hB9.trans (hb9.mono hB9.size)⟩
          | false =>
            have HT := Lib.hid (show oneTo xs (k + 1) = none by rw [oneTo_step h0.out, h1]; rfl)
            rw [h1] at heq
            clear h1
            go_wp2_with (first | (refine wpList_load_tower rfl _ rfl w2.heap.size xs hl9 rfl hbT ?_))
            refine ct.mono ?_
            rintro e w7 ⟨rfl, hb7⟩
            go_wp2_with fail
            refine (sortedTower_any _ _ hl9).mono ?_
            rintro e w8 ⟨rfl, hb8⟩
            have hB7 := hbr.trans (hb7.mono hbr.size)
            have hB8 := hB7.trans (hb8.mono hB7.size)
            have hbT8 := (hbT.below hb7 hlT2).below hb8 (Nat.lt_of_lt_of_le hlT2 hb7.size)
            clear ct hbT hbr hb7 hb8 hB7
            go_wp2
            go_roundw
            case rel => exact ⟨k + 1, by omega, by go_num, HT.out, hbT8, hB8⟩
            case measure => simp [intOf] <;> omega
        · have hli : (xs.length : Int) < (k : Int) + 2 := by omega
          have HONE := Lib.hid (show oneTo xs (xs.length - 1) = none by rw [show xs.length - 1 = k by omega]; exact h0.out)
          obtain ⟨wo, rfl⟩ : ∃ wo : World, wo = wr := ⟨_, rfl⟩
          go_wp2
          go_loopw [7, 8] (fun i _ wr => ∃ a : Nat, a + 1 ≤ xs.length ∧ i = .int .i64 ((a : Int) + 2) ∧ Hid (pairTo xs a = none) ∧ Blk wr w2.heap.size 46 (twl xs) ∧ Below w.heap.size w wr) (fun i _ _ => xs.length + 2 - (intOf i).toNat)
          case atStart => exact ⟨0, hl1, by go_num, rfl, hbT, hbr⟩
          case round =>
            obtain ⟨a, ha, rfl, h2, hbTa, hbr2⟩ := hrel
            clear hbr hbT
            by_cases hlt2 : a + 2 ≤ xs.length
            · have hli2 : (a : Int) + 2 ≤ xs.length := by omega
              obtain ⟨wp, rfl⟩ : ∃ wp : World, wp = wr := ⟨_, rfl⟩
              go_wp2
              go_loopw [8] (fun i wr => ∃ b : Nat, b + 1 ≤ xs.length ∧ i = .int .i64 ((b : Int) + 2) ∧ Hid (oneTo (turnL xs (a + 2)) b = none) ∧ Blk wr w2.heap.size 46 (twl xs) ∧ Below w.heap.size w wr) (fun i _ => xs.length + 2 - (intOf i).toNat)
              case atStart => exact ⟨0, hl1, by go_num, rfl, hbTa, hbr2⟩
              case round =>
                obtain ⟨b, hb, rfl, h3, hbT, hbr3⟩ := hrel
                have hlT3 := hbT.lt
                clear hbr2 hbTa
                by_cases hlt3 : b + 2 ≤ xs.length
                · have hli3 : (b : Int) + 2 ≤ xs.length := by omega
                  have heq := tower_eq (turnL (turnL xs (a + 2)) (b + 2)) (ramp 1 xs.length) (by rw [turnL_length, turnL_length]; exact hl9) (by rw [turnL_length, turnL_length, ramp_length])
                  rw [show decide (turnL (turnL xs (a + 2)) (b + 2) = ramp 1 xs.length) = isRamp (turnL (turnL xs (a + 2)) (b + 2)) by rw [isRamp_turn, turnL_length]] at heq
                  have HPB := Lib.hid (show ∀ k ∈ [(a : Int) + 2, (b : Int) + 2], 1 ≤ k ∧ k ≤ (xs.length : Int) by intro k hk; simp at hk; omega)
                  have cp := fun W => played_any (.slice (some ⟨W, 0, none⟩) 2 2) xs [(a : Int) + 2, (b : Int) + 2]
                  rw [playL_lit2] at cp
                  cases h1 : isRamp (turnL (turnL xs (a + 2)) (b + 2)) with
                  | true =>
                    have HT := Lib.hid (twoL_two HR.out HONE.out (by omega) (by omega) h2.out h3.out h1)
                    have HN := Lib.hid (noOne_lit2 a b)
                    rw [h1] at heq
                    clear h1
                    go_wp2_with (first | (refine wpList_load_tower rfl _ rfl w2.heap.size xs hl9 rfl hbT ?_))
                    refine (cp _ _ hl9 (OwnI.lit _ _ [(a : Int) + 2, (b : Int) + 2] 2 rfl (by omega) _ rfl) HPB (by simp)).mono ?_
                    rintro e w7 ⟨rfl, hb7⟩
                    have hB7' := hbr3.alloc hbr3.size (.cells #[.int .i64 ((a : Int) + 2), .int .i64 ((b : Int) + 2)] 3)
                    have hB7 := hB7'.trans (hb7.mono hB7'.size)
                    clear cp
                    go_wp2_with fail
                    refine (sortedTower_any _ _ hl9).mono ?_
                    rintro e w8 ⟨rfl, hb8⟩
                    have hB8 := hB7.trans (hb8.mono hB7.size)
                    clear hbT hbr3 hb7 hb8 hB7 hB7'
                    go_wp2_with fail
                    refine (planOf_any _ [(a : Int) + 2, (b : Int) + 2] _ (OwnI.lit _ _ [(a : Int) + 2, (b : Int) + 2] 2 rfl (by omega) _ rfl) (by simp)).mono ?_
                    rintro e w9 ⟨r, rfl, ho, hf, hb9⟩
                    have hB9 := hB8.alloc hB8.size (.cells #[.int .i64 ((a : Int) + 2), .int .i64 ((b : Int) + 2)] 3)
                    go_wp2
                    go_ret2
                    exact ⟨_, by rw [HO.out, HT.out]; rfl, by rw [HM.out, HT.out]; rw [HN.out] at ho; exact ho, hf.mono hB9.size, hB9.trans (hb9.mono hB9.size)⟩
                  | false =>
                    have HT := Lib.hid (show oneTo (turnL xs (a + 2)) (b + 1) = none by rw [oneTo_step h3.out, h1]; rfl)
                    rw [h1] at heq
                    clear h1
                    go_wp2_with (first | (refine wpList_load_tower rfl _ rfl w2.heap.size xs hl9 rfl hbT ?_))
                    refine (cp _ _ hl9 (OwnI.lit _ _ [(a : Int) + 2, (b : Int) + 2] 2 rfl (by omega) _ rfl) HPB (by simp)).mono ?_
                    rintro e w7 ⟨rfl, hb7⟩
                    have hB7' := hbr3.alloc hbr3.size (.cells #[.int .i64 ((a : Int) + 2), .int .i64 ((b : Int) + 2)] 3)
                    have hB7 := hB7'.trans (hb7.mono hB7'.size)
                    have hbT7 := (hbT.alloc (.cells #[.int .i64 ((a : Int) + 2), .int .i64 ((b : Int) + 2)] 3)).below hb7 (Nat.lt_succ_of_lt hlT3 |> fun h => by simpa using h)
                    clear cp
                    go_wp2_with fail
                    refine (sortedTower_any _ _ hl9).mono ?_
                    rintro e w8 ⟨rfl, hb8⟩
                    have hB8 := hB7.trans (hb8.mono hB7.size)
                    have hbT8 := hbT7.below hb8 hbT7.lt
                    clear hbT hbr3 hb7 hb8 hB7 hB7' hbT7
                    go_wp2
                    go_roundw
                    case rel => exact ⟨b + 1, by omega, by go_num, HT.out, hbT8, hB8⟩
                    case measure => simp [intOf] <;> omega
                · have hli3 : (xs.length : Int) < (b : Int) + 2 := by omega
                  have HT := Lib.hid (show pairTo xs (a + 1) = none by rw [pairTo_step h2.out, show xs.length - 1 = b by omega, h3.out]; rfl)
                  go_wp2
                  go_roundw
                  case rel => exact ⟨a + 1, by omega, by go_num, HT.out, hbT, hbr3⟩
                  case measure => simp [intOf] <;> omega
            · have hli2 : (xs.length : Int) < (a : Int) + 2 := by omega
              have HT := Lib.hid (twoL_none HR.out HONE.out (by rw [show xs.length - 1 = a by omega]; exact h2.out))
              go_wp2
              go_ret2
              exact ⟨_, by rw [HO.out, HT.out]; rfl, by rw [HM.out, HT.out]; exact OwnI.nil _, From.nil _ _ _, hbr2⟩
  | false =>
    have HM := Lib.hid (show mTwoTurnSorts xs = [] from if_neg (by rw [hg]; exact Bool.false_ne_true))
    have HO := Lib.hid (show okTwoTurnSorts xs = false by unfold okTwoTurnSorts; rw [hg]; rfl)
    go_enter Try.func54, Try.ntmps54
    go_wp2_with fail
    refine (IsStack_any _ _ _ hv hn).mono ?_
    rintro e w1 ⟨rfl, hb⟩
    go_wp2
    go_ret2
    exact ⟨_, by rw [HO.out]; rfl, by rw [HM.out]; exact OwnI.nil _, From.nil _ _ _, hb⟩

end Go.Proofs.Ytocccocpacohaab
