import Derived.Test.YtajdlioojibmdaaQ6
import Derived.Test.YtajdlioojibmdaaTEx
import Derived.Test.YtajdlioojibmdaaLib4
namespace Go.Pan
open Go Go.RowKit
theorem exD_len (a b c : Int) (k : Nat) : (exD a b c k).length = k := by simp [exD, ramp_length]
theorem exC_len {n a b : Int} (hn : n ≤ 9) (hb : 0 ≤ b) (k : Nat) : (exC n a b k).length ≤ 10 * k := by
  induction k with
  | zero => simp [exC, ramp_nil]
  | succ k ih => rw [exC_succ, List.length_append, exD_len]; omega
theorem exS_len {n a : Int} (hn : n ≤ 9) (ha : 0 ≤ a) (k : Nat) : (exS n a k).length ≤ 100 * k := by
  induction k with
  | zero => simp [exS, ramp_nil]
  | succ k ih =>
    have h := exC_len (n := n) (a := a) (b := a + k) hn (by omega) (n - (a + k)).toNat
    rw [exS_succ, List.length_append]; omega
theorem exA_len {n : Int} (hn : n ≤ 9) (k : Nat) : (exA n k).length ≤ 1000 * k := by
  induction k with
  | zero => simp [exA, ramp_nil]
  | succ k ih =>
    have h := exS_len (n := n) (a := 1 + k) hn (by omega) (n + 1 - (1 + k)).toNat
    rw [exA_succ, List.length_append]; omega
theorem fillQ (c0 c1 c2 c3 : Value) : ∀ (B : Array Value), B.size = 4 → (((B.setIfInBounds 0 c0).setIfInBounds 1 c1).setIfInBounds 2 c2).setIfInBounds 3 c3 = #[c0, c1, c2, c3]
  | ⟨[b0, b1, b2, b3]⟩, _ => by simp
theorem run_build_quad {P : Program} {t e : TypeId} {i : TypeInfo} {z : Value} (hu : P.underlying t = some (.slice e)) (hi : P.info? e = some i) (hz : i.zero = some z) (hzc : z.cells.size = 4) (hs : i.size = 4) (w : World) (c0 c1 c2 c3 : Value) :
    (Instr.buildSlice t 1 #[(0, .agg #[c0, c1, c2, c3])]).run P w = .ok (.slice (some ⟨w.heap.size, 0, none⟩) 1 1) (w.alloc (.cells #[c0, c1, c2, c3] e)) := by
  have hf : ∀ (B : Array Value), B.size = 4 → (((B.setIfInBounds 0 c0).setIfInBounds 1 c1).setIfInBounds 2 c2).setIfInBounds 3 c3 = #[c0, c1, c2, c3] := fillQ c0 c1 c2 c3
  simp [Instr.buildSlice, run_underlying hu, Go.sizeOf, typeInfo, hi, hz, hs, zeroValue, Instr.fill, newRow, Value.cells, List.zipIdx, Array.range]
  rw [hf _ (by simp [hs])]
theorem wpList_build_quad {P : Program} {ops : Array Oper} {rest : List Oper} {o : Oper} {a : Act} {w : World} {Q : Exit → Act → World → Prop} {t e : TypeId} {i : TypeInfo} {z : Value}
    (hu : P.underlying t = some (.slice e)) (hi : P.info? e = some i) (hz : i.zero = some z) (hzc : z.cells.size = 4) (hs : i.size = 4)
    (hg : o.guard = none) (x : Operand) (hop : o.op = Op.buildSlice t 1 #[(0, x)]) (c0 c1 c2 c3 : Value) (hx : a.eval x = .agg #[c0, c1, c2, c3])
    (h : wpList P ops Q rest (a.put o.dst (.slice (some ⟨w.heap.size, 0, none⟩) 1 1)) (w.alloc (.cells #[c0, c1, c2, c3] e))) :
    wpList P ops Q (o :: rest) a w := by
  refine wpList_plain hg fun K hK => ?_
  have hrun := run_build_quad (P := P) hu hi hz hzc hs w c0 c1 c2 c3
  unfold Oper.wp
  simp [execOp, hop, hx, hrun, Result.andThen]
  exact hK _ _ h
theorem Src.quad {w : World} {g : Nat} {ty : TypeId} {p : Int × Int × Int × Int} (h : Blk w g ty [iv p.1, iv p.2.1, iv p.2.2.1, iv p.2.2.2]) : Src w (some ⟨g, 0, none⟩) 1 1 (fl c4.c [p]) :=
  .inr ⟨_, rfl, fun j u hj => by
    rw [Addr.add_lit, Nat.zero_add, h.cell j]
    exact hj⟩

end Go.Pan

namespace Go.Proofs.Ytajdlioojibmdaa
open Go Go.RowKit Go.Pan

theorem exSl : CelSl c4 Try.prog 37 58 32 := by
  obtain ⟨i, hi, hz0, hz1, hz2⟩ := info_parts infoExchange3
  exact ⟨Try.underlying37, i, _, hi, hz0, rfl, hz1, hz2⟩

set_option maxRecDepth 100000 in
set_option maxHeartbeats 3200000 in
theorem bkExchanges_any (n : Nat) (w : World) (h1 : 1 ≤ n) (h9 : n ≤ 9) :
    Calls Try.prog 61 #[.int .i64 n] w fun e w' => ∃ r, e = .returned r ∧ OwnC c4 w' r (exAll n) ∧ From w.heap.size r ∧ Below w.heap.size w w' := by
  obtain ⟨i0, hi, hz0, hz1, hz2⟩ := info_parts infoExchange3
  have HI := Lib.hid hi
  have HZ0 := Lib.hid hz0
  have HZ1 := Lib.hid hz1
  clear hi hz0 hz1 hz2
  go_enter Try.func61, Try.ntmps61
  go_wp2
  go_loopw [3, 4, 5, 6, 7] (fun v3 v4 _ _ _ wr => ∃ ka : Nat, ka ≤ n ∧ v4 = .int .i64 (1 + (ka : Int)) ∧ OwnC c4 wr v3 (exA n ka) ∧ From w.heap.size v3 ∧ Below w.heap.size w wr) (fun _ v4 _ _ _ _ => n + 1 - (intOf v4).toNat)
  case atStart => exact ⟨0, by omega, by go_num, OwnC.nil _, From.nil _ _ _, Below.refl _ _⟩
  case round =>
    obtain ⟨ka, hka, rfl, ho, hf, hbr⟩ := hrel
    by_cases hla : ka < n
    · have hS1 := exA_succ (n : Int) ka
      obtain ⟨A, hA⟩ : ∃ A : Int, 1 + (ka : Int) = A := ⟨_, rfl⟩
      obtain ⟨P1, hP1⟩ : ∃ P, exA n ka = P := ⟨_, rfl⟩
      have hl1 : P1.length ≤ 9000 := by have := exA_len (n := (n : Int)) (by omega) ka; rw [hP1] at this; omega
      rw [hA, hP1] at hS1
      rw [hP1] at ho
      rw [hA]
      have HS1 := Lib.hid hS1
      have HO := Lib.hid (show OwnC c4 wr u3 (P1 ++ exS n A 0) by rw [show exS n A 0 = [] by simp [exS, ramp_nil], List.append_nil]; exact ho)
      have hA1 : 1 ≤ A := by omega
      have hAn : A ≤ n := by omega
      clear hS1 hP1 ho
      obtain ⟨wo, hwo⟩ : ∃ x, wr = x := ⟨_, rfl⟩
      rw [hwo] at HO hbr ⊢
      clear hwo
      go_wp2
      go_loopw [3, 5, 6, 7] (fun v3 v5 _ _ wr => ∃ kb : Nat, A + kb ≤ n + 1 ∧ v5 = .int .i64 (A + (kb : Int)) ∧ OwnC c4 wr v3 (P1 ++ exS n A kb) ∧ From w.heap.size v3 ∧ Below w.heap.size w wr) (fun _ v5 _ _ _ => n + 1 - (intOf v5).toNat)
      case atStart => exact ⟨0, by omega, by go_num, HO.out, hf, hbr⟩
      case round =>
        obtain ⟨kb, hkb, rfl, ho, hf2, hbr2⟩ := hrel
        clear HO hf hbr
        by_cases hlb : A + kb ≤ n
        · have hS2 := exS_succ (n : Int) A kb
          obtain ⟨B, hB⟩ : ∃ B : Int, A + (kb : Int) = B := ⟨_, rfl⟩
          have hx := exS_len (n := (n : Int)) (a := A) (by omega) (by omega) kb
          obtain ⟨P2, hP2⟩ : ∃ P, P1 ++ exS n A kb = P := ⟨_, rfl⟩
          have hl2 : P2.length ≤ 10000 := by rw [← hP2, List.length_append]; omega
          rw [hB] at hS2
          have HS2 := Lib.hid (show P1 ++ exS n A (kb + 1) = P2 ++ exC n A B (n - B).toNat by rw [hS2, ← List.append_assoc, hP2])
          rw [hP2] at ho
          rw [hB] at hlb ⊢
          have HO := Lib.hid (show OwnC c4 wr u3 (P2 ++ exC n A B 0) by rw [show exC n A B 0 = [] by simp [exC, ramp_nil], List.append_nil]; exact ho)
          have hB1 : A ≤ B := by omega
          clear hS2 hP2 ho hx
          obtain ⟨wo2, hwo2⟩ : ∃ x, wr = x := ⟨_, rfl⟩
          rw [hwo2] at HO hbr2 ⊢
          clear hwo2
          go_wp2
          go_loopw [3, 6, 7] (fun v3 v6 _ wr => ∃ kc : Nat, B + 1 + kc ≤ n + 1 ∧ v6 = .int .i64 (B + 1 + (kc : Int)) ∧ OwnC c4 wr v3 (P2 ++ exC n A B kc) ∧ From w.heap.size v3 ∧ Below w.heap.size w wr) (fun _ v6 _ _ => n + 1 - (intOf v6).toNat)
          case atStart => exact ⟨0, by omega, by go_num, HO.out, hf2, hbr2⟩
          case round =>
            obtain ⟨kc, hkc, rfl, ho, hf3, hbr3⟩ := hrel
            clear HO hf2 hbr2
            by_cases hlc : B + 1 + kc ≤ n
            · have hS3 := exC_succ (n : Int) A B kc
              obtain ⟨C, hC⟩ : ∃ C : Int, B + 1 + (kc : Int) = C := ⟨_, rfl⟩
              have hx := exC_len (n := (n : Int)) (a := A) (b := B) (by omega) (by omega) kc
              obtain ⟨P3, hP3⟩ : ∃ P, P2 ++ exC n A B kc = P := ⟨_, rfl⟩
              have hl3 : P3.length ≤ 10200 := by rw [← hP3, List.length_append]; omega
              rw [hC] at hS3
              have HS3 := Lib.hid (show P2 ++ exC n A B (kc + 1) = P3 ++ exD A B C (n + 1 - C).toNat by rw [hS3, ← List.append_assoc, hP3])
              rw [hP3] at ho
              rw [hC] at hlc ⊢
              have HO := Lib.hid (show OwnC c4 wr u3 (P3 ++ exD A B C 0) by rw [show exD A B C 0 = [] by simp [exD, ramp_nil], List.append_nil]; exact ho)
              have hC1 : B < C := by omega
              clear hS3 hP3 ho hx
              obtain ⟨wo3, hwo3⟩ : ∃ x, wr = x := ⟨_, rfl⟩
              rw [hwo3] at HO hbr3 ⊢
              clear hwo3
              go_wp2
              go_loopw [3, 7] (fun v3 v7 wr => ∃ kd : Nat, C + kd ≤ n + 1 ∧ v7 = .int .i64 (C + (kd : Int)) ∧ OwnC c4 wr v3 (P3 ++ exD A B C kd) ∧ From w.heap.size v3 ∧ Below w.heap.size w wr) (fun _ v7 _ => n + 1 - (intOf v7).toNat)
              case atStart => exact ⟨0, by omega, by go_num, HO.out, hf3, hbr3⟩
              case round =>
                obtain ⟨kd, hkd, rfl, ho, hf4, hbr4⟩ := hrel
                clear HO hf3 hbr3
                by_cases hld : C + kd ≤ n
                · have hlen : (P3 ++ exD A B C kd).length ≤ 1048576 := by rw [List.length_append, exD_len]; omega
                  have HS4 := Lib.hid (show P3 ++ exD A B C (kd + 1) = (P3 ++ exD A B C kd) ++ [(A, B, C, C + (kd : Int))] by rw [exD_succ, List.append_assoc])
                  have hsi := hbr4.size
                  have hba := hbr4.alloc hsi (.cells #[.int .i64 A, .int .i64 B, .int .i64 C, .int .i64 (C + (kd : Int))] 58)
                  have hsrc := Src.quad (p := (A, B, C, C + (kd : Int))) (Blk.new wr 58 [iv A, iv B, iv C, iv (C + (kd : Int))] _ rfl)
                  have hoa := ho.alloc (.cells #[.int .i64 A, .int .i64 B, .int .i64 C, .int .i64 (C + (kd : Int))] 58)
                  clear ho hbr4
                  go_wp2_with (first | (refine wpList_build_quad Try.underlying37 HI.out HZ0.out rfl HZ1.out rfl _ rfl (.int .i64 A) (.int .i64 B) (.int .i64 C) (.int .i64 (C + (kd : Int))) rfl ?_) | (at_builtin; refine wpList_appC exSl (by omega) (by omega) rfl _ _ rfl _ (P3 ++ exD A B C kd) rfl hoa w.heap.size hf4 (some ⟨wr.heap.size, 0, none⟩) 1 1 [(A, B, C, C + (kd : Int))] rfl rfl hsrc _ hba (by simp <;> omega) hlen (by simp) ?_; intro v7 w7 ho7 hf7 hb7 hg7))
                  rw [← HS4.out] at ho7
                  go_roundw
                  case rel => exact ⟨kd + 1, by omega, by go_num, ho7, hf7, hb7⟩
                  case measure => simp [intOf] <;> omega
                · obtain rfl : kd = (n + 1 - C).toNat := by omega
                  have HO2 := Lib.hid (show OwnC c4 wr u3 (P2 ++ exC n A B (kc + 1)) by rw [HS3.out]; exact ho)
                  have hgt : ¬ (C + (((n + 1 - C).toNat : Nat) : Int) ≤ n) := hld
                  clear ho
                  go_wp2
                  go_roundw
                  case rel => exact ⟨kc + 1, by omega, by go_num, HO2.out, hf4, hbr4⟩
                  case measure => simp [intOf] <;> omega
            · obtain rfl : kc = (n - B).toNat := by omega
              have HO2 := Lib.hid (show OwnC c4 wr u3 (P1 ++ exS n A (kb + 1)) by rw [HS2.out]; exact ho)
              have hgt : ¬ (B + 1 + (((n - B).toNat : Nat) : Int) ≤ n) := hlc
              clear ho
              go_wp2
              go_roundw
              case rel => exact ⟨kb + 1, by omega, by go_num, HO2.out, hf3, hbr3⟩
              case measure => simp [intOf] <;> omega
        · obtain rfl : kb = (n + 1 - A).toNat := by omega
          have HO2 := Lib.hid (show OwnC c4 wr u3 (exA n (ka + 1)) by rw [HS1.out]; exact ho)
          have hgt : ¬ (A + (((n + 1 - A).toNat : Nat) : Int) ≤ n) := hlb
          clear ho
          go_wp2
          go_roundw
          case rel => exact ⟨ka + 1, by omega, by go_num, HO2.out, hf2, hbr2⟩
          case measure => simp [intOf] <;> omega
    · obtain rfl : ka = n := by omega
      have hge : ¬ (1 + (ka : Int) ≤ ka) := by omega
      have HO2 := Lib.hid (show OwnC c4 wr u3 (exAll ka) from ho)
      clear ho
      go_wp2
      go_ret
      exact ⟨_, rfl, HO2.out, hf, hbr⟩

theorem exSl2 : CelSl c4 Try.prog 93 58 32 := by
  obtain ⟨i, hi, hz0, hz1, hz2⟩ := info_parts infoExchange3
  exact ⟨Try.underlying93, i, _, hi, hz0, rfl, hz1, hz2⟩
theorem exS_end {n A : Int} (h : A ≤ n) : exS n A (n + 1 - A).toNat = exS n A (n - A).toNat := by
  have e : (n + 1 - A).toNat = (n - A).toNat + 1 := by omega
  have e2 : (n - (A + (((n - A).toNat : Nat) : Int))).toNat = 0 := by omega
  rw [e, exS_succ, e2]
  simp [exC, ramp_nil]
theorem exA_end {n : Nat} (h1 : 1 ≤ n) : exAll n = exA n (n - 1) := by
  unfold exAll
  obtain ⟨k, rfl⟩ : ∃ k, n = k + 1 := ⟨n - 1, by omega⟩
  rw [exA_succ, Nat.add_sub_cancel]
  have e : ((((k + 1 : Nat) : Int)) + 1 - (1 + (k : Int))).toNat = (((k + 1 : Nat) : Int) + 1 - (1 + (k : Int))).toNat := rfl
  rw [exS_end (by omega)]
  have e2 : (((k + 1 : Nat) : Int) - (1 + (k : Int))).toNat = 0 := by omega
  rw [e2]
  simp [exS, ramp_nil]

set_option maxRecDepth 100000 in
set_option maxHeartbeats 3200000 in
theorem exchangesFor_any (n : Nat) (w : World) (h1 : 1 ≤ n) (h9 : n ≤ 9) :
    Calls Try.prog 62 #[.int .i64 n] w fun e w' => ∃ r, e = .returned r ∧ OwnC c4 w' r (exAll n) ∧ From w.heap.size r ∧ Below w.heap.size w w' := by
  obtain ⟨i0, hi, hz0, hz1, hz2⟩ := info_parts infoExchange3
  have HI := Lib.hid hi
  have HZ0 := Lib.hid hz0
  have HZ1 := Lib.hid hz1
  clear hi hz0 hz1 hz2
  go_enter Try.func62, Try.ntmps62
  go_wp2
  go_loopw [3, 4, 5, 6, 7] (fun v3 v4 _ _ _ wr => ∃ ka : Nat, ka + 1 ≤ n ∧ v4 = .int .i64 (1 + (ka : Int)) ∧ OwnC c4 wr v3 (exA n ka) ∧ From w.heap.size v3 ∧ Below w.heap.size w wr) (fun _ v4 _ _ _ _ => n + 1 - (intOf v4).toNat)
  case atStart => exact ⟨0, by omega, by go_num, OwnC.nil _, From.nil _ _ _, Below.refl _ _⟩
  case round =>
    obtain ⟨ka, hka, rfl, ho, hf, hbr⟩ := hrel
    by_cases hla : ka + 1 < n
    · have hS1 := exA_succ (n : Int) ka
      obtain ⟨A, hA⟩ : ∃ A : Int, 1 + (ka : Int) = A := ⟨_, rfl⟩
      obtain ⟨P1, hP1⟩ : ∃ P, exA n ka = P := ⟨_, rfl⟩
      have hl1 : P1.length ≤ 9000 := by have := exA_len (n := (n : Int)) (by omega) ka; rw [hP1] at this; omega
      rw [hA, hP1] at hS1
      rw [hP1] at ho
      rw [hA]
      have HS1 := Lib.hid hS1
      have HO := Lib.hid (show OwnC c4 wr u3 (P1 ++ exS n A 0) by rw [show exS n A 0 = [] by simp [exS, ramp_nil], List.append_nil]; exact ho)
      have hA1 : 1 ≤ A := by omega
      have hAn : A < n := by omega
      clear hS1 hP1 ho
      obtain ⟨wo, hwo⟩ : ∃ x, wr = x := ⟨_, rfl⟩
      rw [hwo] at HO hbr ⊢
      clear hwo
      go_wp2
      go_loopw [3, 5, 6, 7] (fun v3 v5 _ _ wr => ∃ kb : Nat, A + kb ≤ n ∧ v5 = .int .i64 (A + (kb : Int)) ∧ OwnC c4 wr v3 (P1 ++ exS n A kb) ∧ From w.heap.size v3 ∧ Below w.heap.size w wr) (fun _ v5 _ _ _ => n + 1 - (intOf v5).toNat)
      case atStart => exact ⟨0, by omega, by go_num, HO.out, hf, hbr⟩
      case round =>
        obtain ⟨kb, hkb, rfl, ho, hf2, hbr2⟩ := hrel
        clear HO hf hbr
        by_cases hlb : A + kb < n
        · have hS2 := exS_succ (n : Int) A kb
          obtain ⟨B, hB⟩ : ∃ B : Int, A + (kb : Int) = B := ⟨_, rfl⟩
          have hx := exS_len (n := (n : Int)) (a := A) (by omega) (by omega) kb
          obtain ⟨P2, hP2⟩ : ∃ P, P1 ++ exS n A kb = P := ⟨_, rfl⟩
          have hl2 : P2.length ≤ 10000 := by rw [← hP2, List.length_append]; omega
          rw [hB] at hS2
          have HS2 := Lib.hid (show P1 ++ exS n A (kb + 1) = P2 ++ exC n A B (n - B).toNat by rw [hS2, ← List.append_assoc, hP2])
          rw [hP2] at ho
          rw [hB] at hlb ⊢
          have HO := Lib.hid (show OwnC c4 wr u3 (P2 ++ exC n A B 0) by rw [show exC n A B 0 = [] by simp [exC, ramp_nil], List.append_nil]; exact ho)
          have hB1 : A ≤ B := by omega
          clear hS2 hP2 ho hx
          obtain ⟨wo2, hwo2⟩ : ∃ x, wr = x := ⟨_, rfl⟩
          rw [hwo2] at HO hbr2 ⊢
          clear hwo2
          go_wp2
          go_loopw [3, 6, 7] (fun v3 v6 _ wr => ∃ kc : Nat, B + 1 + kc ≤ n + 1 ∧ v6 = .int .i64 (B + 1 + (kc : Int)) ∧ OwnC c4 wr v3 (P2 ++ exC n A B kc) ∧ From w.heap.size v3 ∧ Below w.heap.size w wr) (fun _ v6 _ _ => n + 1 - (intOf v6).toNat)
          case atStart => exact ⟨0, by omega, by go_num, HO.out, hf2, hbr2⟩
          case round =>
            obtain ⟨kc, hkc, rfl, ho, hf3, hbr3⟩ := hrel
            clear HO hf2 hbr2
            by_cases hlc : B + 1 + kc ≤ n
            · have hS3 := exC_succ (n : Int) A B kc
              obtain ⟨C, hC⟩ : ∃ C : Int, B + 1 + (kc : Int) = C := ⟨_, rfl⟩
              have hx := exC_len (n := (n : Int)) (a := A) (b := B) (by omega) (by omega) kc
              obtain ⟨P3, hP3⟩ : ∃ P, P2 ++ exC n A B kc = P := ⟨_, rfl⟩
              have hl3 : P3.length ≤ 10200 := by rw [← hP3, List.length_append]; omega
              rw [hC] at hS3
              have HS3 := Lib.hid (show P2 ++ exC n A B (kc + 1) = P3 ++ exD A B C (n + 1 - C).toNat by rw [hS3, ← List.append_assoc, hP3])
              rw [hP3] at ho
              rw [hC] at hlc ⊢
              have HO := Lib.hid (show OwnC c4 wr u3 (P3 ++ exD A B C 0) by rw [show exD A B C 0 = [] by simp [exD, ramp_nil], List.append_nil]; exact ho)
              have hC1 : B < C := by omega
              clear hS3 hP3 ho hx
              obtain ⟨wo3, hwo3⟩ : ∃ x, wr = x := ⟨_, rfl⟩
              rw [hwo3] at HO hbr3 ⊢
              clear hwo3
              go_wp2
              go_loopw [3, 7] (fun v3 v7 wr => ∃ kd : Nat, C + kd ≤ n + 1 ∧ v7 = .int .i64 (C + (kd : Int)) ∧ OwnC c4 wr v3 (P3 ++ exD A B C kd) ∧ From w.heap.size v3 ∧ Below w.heap.size w wr) (fun _ v7 _ => n + 1 - (intOf v7).toNat)
              case atStart => exact ⟨0, by omega, by go_num, HO.out, hf3, hbr3⟩
              case round =>
                obtain ⟨kd, hkd, rfl, ho, hf4, hbr4⟩ := hrel
                clear HO hf3 hbr3
                by_cases hld : C + kd ≤ n
                · have hlen : (P3 ++ exD A B C kd).length ≤ 1048576 := by rw [List.length_append, exD_len]; omega
                  have HS4 := Lib.hid (show P3 ++ exD A B C (kd + 1) = (P3 ++ exD A B C kd) ++ [(A, B, C, C + (kd : Int))] by rw [exD_succ, List.append_assoc])
                  have hsi := hbr4.size
                  have hba := hbr4.alloc hsi (.cells #[.int .i64 A, .int .i64 B, .int .i64 C, .int .i64 (C + (kd : Int))] 58)
                  have hsrc := Src.quad (p := (A, B, C, C + (kd : Int))) (Blk.new wr 58 [iv A, iv B, iv C, iv (C + (kd : Int))] _ rfl)
                  have hoa := ho.alloc (.cells #[.int .i64 A, .int .i64 B, .int .i64 C, .int .i64 (C + (kd : Int))] 58)
                  clear ho hbr4
                  go_wp2_with (first | (refine wpList_build_quad Try.underlying93 HI.out HZ0.out rfl HZ1.out rfl _ rfl (.int .i64 A) (.int .i64 B) (.int .i64 C) (.int .i64 (C + (kd : Int))) rfl ?_) | (at_builtin; refine wpList_appC exSl2 (by omega) (by omega) rfl _ _ rfl _ (P3 ++ exD A B C kd) rfl hoa w.heap.size hf4 (some ⟨wr.heap.size, 0, none⟩) 1 1 [(A, B, C, C + (kd : Int))] rfl rfl hsrc _ hba (by simp <;> omega) hlen (by simp) ?_; intro v7 w7 ho7 hf7 hb7 hg7))
                  rw [← HS4.out] at ho7
                  go_roundw
                  case rel => exact ⟨kd + 1, by omega, by go_num, ho7, hf7, hb7⟩
                  case measure => simp [intOf] <;> omega
                · obtain rfl : kd = (n + 1 - C).toNat := by omega
                  have HO2 := Lib.hid (show OwnC c4 wr u3 (P2 ++ exC n A B (kc + 1)) by rw [HS3.out]; exact ho)
                  have hgt : ¬ (C + (((n + 1 - C).toNat : Nat) : Int) ≤ n) := hld
                  clear ho
                  go_wp2
                  go_roundw
                  case rel => exact ⟨kc + 1, by omega, by go_num, HO2.out, hf4, hbr4⟩
                  case measure => simp [intOf] <;> omega
            · obtain rfl : kc = (n - B).toNat := by omega
              have HO2 := Lib.hid (show OwnC c4 wr u3 (P1 ++ exS n A (kb + 1)) by rw [HS2.out]; exact ho)
              have hgt : ¬ (B + 1 + (((n - B).toNat : Nat) : Int) ≤ n) := hlc
              clear ho
              go_wp2
              go_roundw
              case rel => exact ⟨kb + 1, by omega, by go_num, HO2.out, hf3, hbr3⟩
              case measure => simp [intOf] <;> omega
        · obtain rfl : kb = (n - A).toNat := by omega
          have HO2 := Lib.hid (show OwnC c4 wr u3 (exA n (ka + 1)) by rw [HS1.out, exS_end (by omega)]; exact ho)
          have hgt : ¬ (A + (((n - A).toNat : Nat) : Int) < n) := hlb
          clear ho
          go_wp2
          go_roundw
          case rel => exact ⟨ka + 1, by omega, by go_num, HO2.out, hf2, hbr2⟩
          case measure => simp [intOf] <;> omega
    · have hge : ¬ (1 + (ka : Int) < n) := by omega
      have HO2 := Lib.hid (show OwnC c4 wr u3 (exAll n) by rw [exA_end h1, show n - 1 = ka by omega]; exact ho)
      clear ho
      go_wp2
      go_ret
      exact ⟨_, rfl, HO2.out, hf, hbr⟩

end Go.Proofs.Ytajdlioojibmdaa

