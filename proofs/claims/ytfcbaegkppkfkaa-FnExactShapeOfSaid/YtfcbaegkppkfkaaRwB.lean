import Derived.Test.YtfcbaegkppkfkaaRwN
import Derived.Test.YtfcbaegkppkfkaaPsA
import Derived.Test.YtfcbaegkppkfkaaS1
namespace Go.Proofs.Ytfcbaegkppkfkaa
open Go Go.RowKit Go.Pan

theorem isNaN_any (x : Int) (w : World) : Calls Try.prog 69 #[.int .i64 x] w fun e w' => e = .returned (.bool false) ∧ w' = w := by
  have h : (x == x) = true := by simp
  go_enter Try.func69, Try.ntmps69
  go_wp2
  go_ret
  exact ⟨by simp, rfl⟩

theorem Less_any (x y : Int) (w : World) : Calls Try.prog 64 #[.int .i64 x, .int .i64 y] w fun e w' => e = .returned (.bool (decide (x < y))) ∧ w' = w := by
  go_enter Try.func64, Try.ntmps64
  go_wp2_with fail
  refine ((isNaN_any _ _)).mono ?_
  rintro e w1 ⟨rfl, rfl⟩
  go_wp2
  go_ret
  exact ⟨rfl, rfl⟩

theorem sNaN_any (x : Int) (w : World) : Calls Try.prog 65 #[.int .i64 x] w fun e w' => e = .returned (.bool false) ∧ w' = w := by
  have h : (x == x) = true := by simp
  go_enter Try.func65, Try.ntmps65
  go_wp2
  go_ret
  exact ⟨by simp, rfl⟩

set_option maxHeartbeats 4000000 in
set_option maxRecDepth 100000 in
/-- slices.BinarySearch in a row that rises: the place of the first size not less than x -/
theorem bsRow_any (g o c : Nat) (xs : List Int) (x : Int) (w : World) (hu : OwnI w (.slice (some ⟨g, o, none⟩) xs.length c) xs) (h0 : 0 < xs.length) (h9 : xs.length ≤ 9) (hr : xs.Pairwise (· < ·)) :
    Calls Try.prog 67 #[.slice (some ⟨g, o, none⟩) xs.length c, .int .i64 x] w fun e w' => e = .returned (.tuple #[.int .i64 (hitP xs x), .bool (decide (xs[hitP xs x]? = some x))]) ∧ w' = w := by
  have h1 := hu.shape
  obtain ⟨ad', c', he, hlc, _, _⟩ := h1
  simp only [Value.slice.injEq, true_and] at he
  obtain ⟨rfl, rfl⟩ := he
  obtain ⟨g', o', he, hg, hcr, _⟩ := Own.at hu (by omega)
  simp only [Option.some.injEq, Addr.mk.injEq, and_true] at he
  obtain ⟨rfl, rfl⟩ := he
  have HCR := Lib.hid hcr
  have HR := Lib.hid hr
  have H0 := Lib.hid (show (∀ q (hq : q < xs.length), q < 0 → xs[q] < x) ∧ (∀ q (hq : q < xs.length), xs.length ≤ q → x ≤ xs[q]) from ⟨fun _ _ h => by omega, fun _ _ h => by omega⟩)
  obtain ⟨n, hn⟩ : ∃ n, xs.length = n := ⟨_, rfl⟩
  have HN := Lib.hid hn
  rw [hn] at h9 hlc h0 ⊢
  clear hu hcr hr hn
  go_enter Try.func67, Try.ntmps67
  go_wp2
  go_loopw [7, 8, 9] (fun iv_ jv _ wi => ∃ a b : Nat, a ≤ b ∧ b ≤ n ∧ iv_ = .int .i64 a ∧ jv = .int .i64 b ∧ Hid ((∀ q (hq : q < xs.length), q < a → xs[q] < x) ∧ (∀ q (hq : q < xs.length), b ≤ q → x ≤ xs[q])) ∧ wi = w) (fun iv_ jv _ _ => (intOf jv).toNat - (intOf iv_).toNat)
  case atStart => exact ⟨0, n, Nat.zero_le _, Nat.le_refl _, rfl, rfl, by rw [← HN.out]; exact H0, rfl⟩
  case round =>
    obtain ⟨a, b, hab, hbn, rfl, rfl, HK, rfl⟩ := hrel
    clear H0
    by_cases hlt : a < b
    · have hlt' : (a : Int) < (b : Int) := by omega
      obtain ⟨h, hh⟩ : ∃ h : Nat, h = (a + b) / 2 := ⟨_, rfl⟩
      have hhd : ((a : Int) + (b : Int)) / 2 = (h : Int) := by omega
      have hha : a ≤ h := by omega
      have hhb : h < b := by omega
      have hhn : h < n := by omega
      have hhn' : (h : Int) < (n : Int) := by omega
      have hhx : h < xs.length := by rw [HN.out]; exact hhn
      have hch := HCR.out h (by omega)
      rw [List.getElem?_map, List.getElem?_eq_getElem hhx] at hch
      obtain ⟨y, hye⟩ : ∃ y, xs[h] = y := ⟨_, rfl⟩
      rw [hye] at hch
      have hch' : wr.cell? ⟨g, o + h, none⟩ = some (.int .i64 y) := hch
      have HY := Lib.hid hye
      have hw1 : IntKind.i64.wrap ((a : Int) + (b : Int)) = ((a + b : Nat) : Int) := by push_cast; exact IntWalk.i64_in _ (by omega)
      clear hch hye hh
      by_cases hyx : y < x
      · have HK2 := Lib.hid (show (∀ q (hq : q < xs.length), q < h + 1 → xs[q] < x) ∧ (∀ q (hq : q < xs.length), b ≤ q → x ≤ xs[q]) from ⟨fun q hq h2 => by
          by_cases e : q = h
          · subst e; rw [HY.out]; exact hyx
          · have := (List.pairwise_iff_getElem.1 HR.out) q h hq hhx (by omega)
            rw [HY.out] at this; omega, HK.out.2⟩)
        go_wp2_with (refine (Less_any _ _ _).mono ?_; rintro e w' ⟨rfl, rfl⟩)
        go_roundw
        case rel => exact ⟨h + 1, b, by omega, by omega, by go_num, rfl, HK2, by trivial⟩
        case measure => simp [intOf] <;> omega
      · have HK2 := Lib.hid (show (∀ q (hq : q < xs.length), q < a → xs[q] < x) ∧ (∀ q (hq : q < xs.length), h ≤ q → x ≤ xs[q]) from ⟨HK.out.1, fun q hq h2 => by
          by_cases e : q = h
          · subst e; rw [HY.out]; omega
          · have := (List.pairwise_iff_getElem.1 HR.out) h q hhx hq (by omega)
            rw [HY.out] at this; omega⟩)
        go_wp2_with (refine (Less_any _ _ _).mono ?_; rintro e w' ⟨rfl, rfl⟩)
        go_roundw
        case rel => exact ⟨a, h, by omega, by omega, rfl, rfl, HK2, by trivial⟩
        case measure => simp [intOf] <;> omega
    · obtain rfl : a = b := by omega
      have HH := Lib.hid (show hitP xs x = a from hitP_eq (by rw [HN.out]; exact hbn) (fun i hi h => HK.out.1 i hi h) (fun hj => by have := HK.out.2 a hj (Nat.le_refl _); omega))
      by_cases han : a < n
      · have han' : (a : Int) < (n : Int) := by omega
        have hax : a < xs.length := by rw [HN.out]; exact han
        have hch := HCR.out a (by omega)
        rw [List.getElem?_map, List.getElem?_eq_getElem hax] at hch
        obtain ⟨y, hye⟩ : ∃ y, xs[a] = y := ⟨_, rfl⟩
        rw [hye] at hch
        have hch' : wr.cell? ⟨g, o + a, none⟩ = some (.int .i64 y) := hch
        have HY := Lib.hid (show xs[a]? = some y by rw [List.getElem?_eq_getElem hax, hye])
        clear hch hye
        by_cases hyx : y = x
        · have hyx' : (y == x) = true := by rw [hyx]; simp
          go_wp2_with (refine (sNaN_any _ _).mono ?_; rintro e w' ⟨rfl, rfl⟩)
          go_ret2
          exact ⟨by rw [HH.out, HY.out, hyx]; simp, rfl⟩
        · have hyx' : (y == x) = false := by rw [beq_eq_false_iff_ne]; exact hyx
          go_wp2_with (refine (sNaN_any _ _).mono ?_; rintro e w' ⟨rfl, rfl⟩)
          go_ret2
          exact ⟨by rw [HH.out, HY.out]; simp [hyx], rfl⟩
      · obtain rfl : a = n := by omega
        have han' : ¬ ((a : Int) < (a : Int)) := by omega
        have HY := Lib.hid (show xs[a]? = none from List.getElem?_eq_none (by rw [HN.out]; exact Nat.le_refl _))
        go_wp2
        go_ret2
        exact ⟨by rw [HH.out, HY.out]; simp, rfl⟩

set_option maxHeartbeats 4000000 in
set_option maxRecDepth 100000 in
/-- slices.BinarySearch in a row that rises: the place of the first size not less than x -/
theorem bsI_any (g o c : Nat) (xs : List Int) (x : Int) (w : World) (hu : OwnI w (.slice (some ⟨g, o, none⟩) xs.length c) xs) (h0 : 0 < xs.length) (h9 : xs.length ≤ 9) (hr : xs.Pairwise (· < ·)) :
    Calls Try.prog 59 #[.slice (some ⟨g, o, none⟩) xs.length c, .int .i64 x] w fun e w' => e = .returned (.tuple #[.int .i64 (hitP xs x), .bool (decide (xs[hitP xs x]? = some x))]) ∧ w' = w := by
  have h1 := hu.shape
  obtain ⟨ad', c', he, hlc, _, _⟩ := h1
  simp only [Value.slice.injEq, true_and] at he
  obtain ⟨rfl, rfl⟩ := he
  obtain ⟨g', o', he, hg, hcr, _⟩ := Own.at hu (by omega)
  simp only [Option.some.injEq, Addr.mk.injEq, and_true] at he
  obtain ⟨rfl, rfl⟩ := he
  have HCR := Lib.hid hcr
  have HR := Lib.hid hr
  have H0 := Lib.hid (show (∀ q (hq : q < xs.length), q < 0 → xs[q] < x) ∧ (∀ q (hq : q < xs.length), xs.length ≤ q → x ≤ xs[q]) from ⟨fun _ _ h => by omega, fun _ _ h => by omega⟩)
  obtain ⟨n, hn⟩ : ∃ n, xs.length = n := ⟨_, rfl⟩
  have HN := Lib.hid hn
  rw [hn] at h9 hlc h0 ⊢
  clear hu hcr hr hn
  go_enter Try.func59, Try.ntmps59
  go_wp2
  go_loopw [7, 8, 9] (fun iv_ jv _ wi => ∃ a b : Nat, a ≤ b ∧ b ≤ n ∧ iv_ = .int .i64 a ∧ jv = .int .i64 b ∧ Hid ((∀ q (hq : q < xs.length), q < a → xs[q] < x) ∧ (∀ q (hq : q < xs.length), b ≤ q → x ≤ xs[q])) ∧ wi = w) (fun iv_ jv _ _ => (intOf jv).toNat - (intOf iv_).toNat)
  case atStart => exact ⟨0, n, Nat.zero_le _, Nat.le_refl _, rfl, rfl, by rw [← HN.out]; exact H0, rfl⟩
  case round =>
    obtain ⟨a, b, hab, hbn, rfl, rfl, HK, rfl⟩ := hrel
    clear H0
    by_cases hlt : a < b
    · have hlt' : (a : Int) < (b : Int) := by omega
      obtain ⟨h, hh⟩ : ∃ h : Nat, h = (a + b) / 2 := ⟨_, rfl⟩
      have hhd : ((a : Int) + (b : Int)) / 2 = (h : Int) := by omega
      have hha : a ≤ h := by omega
      have hhb : h < b := by omega
      have hhn : h < n := by omega
      have hhn' : (h : Int) < (n : Int) := by omega
      have hhx : h < xs.length := by rw [HN.out]; exact hhn
      have hch := HCR.out h (by omega)
      rw [List.getElem?_map, List.getElem?_eq_getElem hhx] at hch
      obtain ⟨y, hye⟩ : ∃ y, xs[h] = y := ⟨_, rfl⟩
      rw [hye] at hch
      have hch' : wr.cell? ⟨g, o + h, none⟩ = some (.int .i64 y) := hch
      have HY := Lib.hid hye
      have hw1 : IntKind.i64.wrap ((a : Int) + (b : Int)) = ((a + b : Nat) : Int) := by push_cast; exact IntWalk.i64_in _ (by omega)
      clear hch hye hh
      by_cases hyx : y < x
      · have HK2 := Lib.hid (show (∀ q (hq : q < xs.length), q < h + 1 → xs[q] < x) ∧ (∀ q (hq : q < xs.length), b ≤ q → x ≤ xs[q]) from ⟨fun q hq h2 => by
          by_cases e : q = h
          · subst e; rw [HY.out]; exact hyx
          · have := (List.pairwise_iff_getElem.1 HR.out) q h hq hhx (by omega)
            rw [HY.out] at this; omega, HK.out.2⟩)
        go_wp2_with (refine (Less_any _ _ _).mono ?_; rintro e w' ⟨rfl, rfl⟩)
        go_roundw
        case rel => exact ⟨h + 1, b, by omega, by omega, by go_num, rfl, HK2, by trivial⟩
        case measure => simp [intOf] <;> omega
      · have HK2 := Lib.hid (show (∀ q (hq : q < xs.length), q < a → xs[q] < x) ∧ (∀ q (hq : q < xs.length), h ≤ q → x ≤ xs[q]) from ⟨HK.out.1, fun q hq h2 => by
          by_cases e : q = h
          · subst e; rw [HY.out]; omega
          · have := (List.pairwise_iff_getElem.1 HR.out) h q hhx hq (by omega)
            rw [HY.out] at this; omega⟩)
        go_wp2_with (refine (Less_any _ _ _).mono ?_; rintro e w' ⟨rfl, rfl⟩)
        go_roundw
        case rel => exact ⟨a, h, by omega, by omega, rfl, rfl, HK2, by trivial⟩
        case measure => simp [intOf] <;> omega
    · obtain rfl : a = b := by omega
      have HH := Lib.hid (show hitP xs x = a from hitP_eq (by rw [HN.out]; exact hbn) (fun i hi h => HK.out.1 i hi h) (fun hj => by have := HK.out.2 a hj (Nat.le_refl _); omega))
      by_cases han : a < n
      · have han' : (a : Int) < (n : Int) := by omega
        have hax : a < xs.length := by rw [HN.out]; exact han
        have hch := HCR.out a (by omega)
        rw [List.getElem?_map, List.getElem?_eq_getElem hax] at hch
        obtain ⟨y, hye⟩ : ∃ y, xs[a] = y := ⟨_, rfl⟩
        rw [hye] at hch
        have hch' : wr.cell? ⟨g, o + a, none⟩ = some (.int .i64 y) := hch
        have HY := Lib.hid (show xs[a]? = some y by rw [List.getElem?_eq_getElem hax, hye])
        clear hch hye
        by_cases hyx : y = x
        · have hyx' : (y == x) = true := by rw [hyx]; simp
          go_wp2_with (refine (sNaN_any _ _).mono ?_; rintro e w' ⟨rfl, rfl⟩)
          go_ret2
          exact ⟨by rw [HH.out, HY.out, hyx]; simp, rfl⟩
        · have hyx' : (y == x) = false := by rw [beq_eq_false_iff_ne]; exact hyx
          go_wp2_with (refine (sNaN_any _ _).mono ?_; rintro e w' ⟨rfl, rfl⟩)
          go_ret2
          exact ⟨by rw [HH.out, HY.out]; simp [hyx], rfl⟩
      · obtain rfl : a = n := by omega
        have han' : ¬ ((a : Int) < (a : Int)) := by omega
        have HY := Lib.hid (show xs[a]? = none from List.getElem?_eq_none (by rw [HN.out]; exact Nat.le_refl _))
        go_wp2
        go_ret2
        exact ⟨by rw [HH.out, HY.out]; simp, rfl⟩

end Go.Proofs.Ytfcbaegkppkfkaa
