import Derived.Test.YtlomdnldokbjoaaU11
namespace Go.Proofs.Ytlomdnldokbjoaa
open Go Go.RowKit Go.Pan

set_option maxHeartbeats 1600000 in
theorem CardGame_any (v : Value) (xs : List Int) (k : Int) (w : World) (hv : OwnI w v xs) (hn : xs.length ≤ 1048576) :
    Calls Try.prog 101 #[v, .int .i64 k] w fun e w' => e = .returned (.tuple #[.int .i64 (mCardFirst xs k), .int .i64 (mCardMore xs k), .bool (okCard xs k)]) ∧ Below w.heap.size w w' := by
  obtain ⟨ad, cap, rfl, hcc, _, _⟩ := hv.shape
  have hb0 : Below w.heap.size w (w.alloc (.cells #[.int .i64 k] 3)) := below_new w _
  have hz0 : w.heap.size < (w.alloc (.cells #[.int .i64 k] 3)).heap.size := by simp
  have hc0 : (w.alloc (.cells #[.int .i64 k] 3)).cell? ⟨w.heap.size, 0, none⟩ = some (.int .i64 k) := by
    rw [(Blk.new w 3 [.int .i64 k] _ rfl).cell 0]; rfl
  have HC0 := Lib.hid hc0
  have c := IsStack_any _ _ _ (hv.alloc (.cells #[.int .i64 k] 3)) hn
  cases hg : goodB xs with
  | true =>
    cases hi : inB k 1 xs.length with
    | true =>
      have hkb := inB_iff.1 hi
      obtain ⟨n, rfl⟩ : ∃ n : Nat, k = n := ⟨k.toNat, by omega⟩
      have hkl : n ≤ xs.length := by omega
      have hO : okCard xs n = true := by unfold okCard; rw [hg, hi]; rfl
      have HO := Lib.hid hO
      have hG := goodB_iff.1 hg
      have h9 := hG.le9
      have HM1 := Lib.hid (show mCardFirst xs (n : Int) = (againI (cardT n) xs : Int) by unfold mCardFirst; rw [if_pos hO]; simp)
      have HM2 := Lib.hid (show mCardMore xs (n : Int) = (againP (cardT n) xs : Int) by unfold mCardMore; rw [if_pos hO]; simp)
      have hit := iter_good (st := cardT n) hG (fun x hx => ⟨cardT_good hx, cardT_length n x⟩)
      have HIT := Lib.hid hit
      have cp := isPlace_any ad xs.length cap (n : Int)
      rw [hi] at cp
      rw [hg] at c
      have C3 := Lib.hid (fun (b : Nat) w2 => againC_any (cardT n) xs.length xs (.pointer (some ⟨b, 0, none⟩)) (.pointer (some ⟨w.heap.size, 0, none⟩)) w2 HIT)
      obtain ⟨I, hI⟩ : ∃ I, againI (cardT n) xs = I := ⟨_, rfl⟩
      obtain ⟨P, hP⟩ : ∃ P, againP (cardT n) xs = P := ⟨_, rfl⟩
      rw [hI] at HM1
      rw [hP] at HM2
      rw [hI, hP] at C3
      clear hg hG hit hi hkb hI hP hO
      go_enter Try.func101, Try.ntmps101
      go_wp2_with fail
      refine c.mono ?_
      rintro e w1 ⟨rfl, hb1⟩
      have hc1 := (hb1.cell (p := ⟨w.heap.size, 0, none⟩) hz0).trans HC0.out
      have hv1 := (hv.alloc (.cells #[.int .i64 (n : Int)] 3)).same hb1
      have hz1 : w.heap.size < w1.heap.size := Nat.lt_of_lt_of_le hz0 hb1.size
      have hB1 := hb0.trans (hb1.mono hb0.size)
      clear c hv hb1 hc0
      go_wp2_with fail
      refine (cp w1).mono ?_
      rintro e w1' ⟨rfl, rfl⟩
      clear cp
      have HC1 := Lib.hid hc1
      have hcx : (w1.alloc (.cells #[.int .i64 (xs.length : Int)] 3)).cell? ⟨w1.heap.size, 0, none⟩ = some (.int .i64 (xs.length : Int)) := by
        rw [(Blk.new w1 3 [.int .i64 (xs.length : Int)] _ rfl).cell 0]; rfl
      have HCN := Lib.hid hcx
      have hbn := below_new w1 (.cells #[.int .i64 (xs.length : Int)] 3)
      have hvn := hv1.same hbn
      have HCK := Lib.hid ((hbn.cell (p := ⟨w.heap.size, 0, none⟩) hz1).trans hc1)
      have hzn : w1.heap.size < (w1.alloc (.cells #[.int .i64 (xs.length : Int)] 3)).heap.size := by simp
      have hBn := hB1.trans (hbn.mono hB1.size)
      clear hv1 hc1 hcx hbn
      go_wp2_with fail
      refine (towerOf_any _ _ _ hvn h9).mono ?_
      rintro e w2 ⟨rfl, hb2⟩
      have HC2 := Lib.hid ((hb2.cell (p := ⟨w1.heap.size, 0, none⟩) hzn).trans HCN.out)
      have HK2 := Lib.hid ((hb2.cell (p := ⟨w.heap.size, 0, none⟩) (Nat.lt_trans hz1 hzn)).trans HCK.out)
      have hz2 : w1.heap.size < w2.heap.size := Nat.lt_of_lt_of_le hzn hb2.size
      have hz3 : w.heap.size < w2.heap.size := Nat.lt_trans hz1 hz2
      have hB2 := hBn.trans (hb2.mono hBn.size)
      clear hvn hb2 hzn
      go_wp2_with fail
      refine (C3.out w1.heap.size w2 (Lib.hid fun q u hq hl hb => cardStep_any q xs.length n w1.heap.size w.heap.size u (Lib.hid hq) (Lib.hid hl) hkl ((hb.cell (p := ⟨w1.heap.size, 0, none⟩) hz2).trans HC2.out) ((hb.cell (p := ⟨w.heap.size, 0, none⟩) hz3).trans HK2.out) (Nat.lt_of_lt_of_le hz2 hb.size) (Nat.lt_of_lt_of_le hz3 hb.size))).mono ?_
      rintro e w3 ⟨rfl, hb3⟩
      have hB3 := hB2.trans (hb3.mono hB2.size)
      clear hb3
      go_wp2
      go_ret3
      exact ⟨by rw [HM1.out, HM2.out, HO.out]; rfl, hB3⟩
    | false =>
      have HO := Lib.hid (show okCard xs k = false by unfold okCard; rw [hg, hi]; rfl)
      have HM1 := Lib.hid (show mCardFirst xs k = 0 from if_neg (by rw [HO.out]; exact Bool.false_ne_true))
      have HM2 := Lib.hid (show mCardMore xs k = 0 from if_neg (by rw [HO.out]; exact Bool.false_ne_true))
      have cp := isPlace_any ad xs.length cap k
      rw [hi] at cp
      rw [hg] at c
      clear hg hi
      go_enter Try.func101, Try.ntmps101
      go_wp2_with fail
      refine c.mono ?_
      rintro e w1 ⟨rfl, hb1⟩
      have hc1 := (hb1.cell (p := ⟨w.heap.size, 0, none⟩) hz0).trans HC0.out
      clear c hv
      go_wp2_with fail
      refine (cp w1).mono ?_
      rintro e w1' ⟨rfl, rfl⟩
      clear cp
      go_wp2
      go_ret3
      exact ⟨by rw [HM1.out, HM2.out, HO.out]; rfl, hb0.trans (hb1.mono hb0.size)⟩
  | false =>
    have HO := Lib.hid (show okCard xs k = false by unfold okCard; rw [hg]; rfl)
    have HM1 := Lib.hid (show mCardFirst xs k = 0 from if_neg (by rw [HO.out]; exact Bool.false_ne_true))
    have HM2 := Lib.hid (show mCardMore xs k = 0 from if_neg (by rw [HO.out]; exact Bool.false_ne_true))
    rw [hg] at c
    clear hg
    go_enter Try.func101, Try.ntmps101
    go_wp2_with fail
    refine c.mono ?_
    rintro e w1 ⟨rfl, hb1⟩
    clear c hv
    go_wp2
    go_ret3
    exact ⟨by rw [HM1.out, HM2.out, HO.out]; rfl, hb0.trans (hb1.mono hb0.size)⟩

end Go.Proofs.Ytlomdnldokbjoaa

