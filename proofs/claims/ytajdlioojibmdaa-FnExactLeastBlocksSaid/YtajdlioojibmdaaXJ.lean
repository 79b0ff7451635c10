import Derived.Test.YtajdlioojibmdaaXC
import Derived.Test.YtajdlioojibmdaaXI
namespace Go.Pan
-- block moves: the spec's side
theorem bkD_len (a b : Int) (k : Nat) : (bkD a b k).length = k := by simp [bkD, ramp_length]
theorem bkS_len {n a : Int} (hn : n ≤ 9) (ha : 0 ≤ a) (k : Nat) : (bkS n a k).length ≤ 10 * k := by
  induction k with
  | zero => simp [bkS, ramp_nil]
  | succ k ih => rw [bkS_succ, List.length_append, bkD_len]; omega
theorem bkA_len {n : Int} (hn : n ≤ 9) (k : Nat) : (bkA n k).length ≤ 100 * k := by
  induction k with
  | zero => simp [bkA, ramp_nil]
  | succ k ih =>
    have h := bkS_len (n := n) (a := 1 + k) hn (by omega) (n + 1 - (1 + k)).toNat
    rw [bkA_succ, List.length_append]; omega
theorem fillT (c0 c1 c2 : Value) : ∀ (B : Array Value), B.size = 3 → ((B.setIfInBounds 0 c0).setIfInBounds 1 c1).setIfInBounds 2 c2 = #[c0, c1, c2]
  | ⟨[b0, b1, b2]⟩, _ => by simp
theorem run_build_triX {P : Program} {t e : TypeId} {i : TypeInfo} {z : Value} (hu : P.underlying t = some (.slice e)) (hi : P.info? e = some i) (hz : i.zero = some z) (_hzc : z.cells.size = 3) (hs : i.size = 3) (w : World) (c0 c1 c2 : Value) :
    (Instr.buildSlice t 1 #[(0, .agg #[c0, c1, c2])]).run P w = .ok (.slice (some ⟨w.heap.size, 0, none⟩) 1 1) (w.alloc (.cells #[c0, c1, c2] e)) := by
  have hf : ∀ (B : Array Value), B.size = 3 → ((B.setIfInBounds 0 c0).setIfInBounds 1 c1).setIfInBounds 2 c2 = #[c0, c1, c2] := fillT c0 c1 c2
  simp [Instr.buildSlice, run_underlying hu, Go.sizeOf, typeInfo, hi, hz, hs, zeroValue, Instr.fill, newRow, Value.cells, List.zipIdx, Array.range]
  rw [hf _ (by simp [hs])]
theorem wpList_build_triX {P : Program} {ops : Array Oper} {rest : List Oper} {o : Oper} {a : Act} {w : World} {Q : Exit → Act → World → Prop} {t e : TypeId} {i : TypeInfo} {z : Value}
    (hu : P.underlying t = some (.slice e)) (hi : P.info? e = some i) (hz : i.zero = some z) (_hzc : z.cells.size = 3) (hs : i.size = 3)
    (hg : o.guard = none) (x : Operand) (hop : o.op = Op.buildSlice t 1 #[(0, x)]) (c0 c1 c2 : Value) (hx : a.eval x = .agg #[c0, c1, c2])
    (h : wpList P ops Q rest (a.put o.dst (.slice (some ⟨w.heap.size, 0, none⟩) 1 1)) (w.alloc (.cells #[c0, c1, c2] e))) :
    wpList P ops Q (o :: rest) a w := by
  refine wpList_plain hg fun K hK => ?_
  have hrun := run_build_triX (P := P) hu hi hz _hzc hs w c0 c1 c2
  unfold Oper.wp
  simp [execOp, hop, hx, hrun, Result.andThen]
  exact hK _ _ h
theorem srcT {w : World} {g : Nat} {ty : TypeId} {p : Int × Int × Int} (h : Blk w g ty [iv p.1, iv p.2.1, iv p.2.2]) : Src w (some ⟨g, 0, none⟩) 1 1 (fl c3.c [p]) :=
  .inr ⟨_, rfl, fun j u hj => by
    rw [Addr.add_lit, Nat.zero_add, h.cell j]
    exact hj⟩
/-- the stacks next to one by block moves -/
theorem nxB (xs : List Int) {n : Nat} (h1 : 1 ≤ n) (h9 : n ≤ 9) : nxX (tchAll n) xs = (bkAll n).map (bkT xs) := by
  unfold nxX tchAll
  rw [List.map_map]
  exact List.map_congr_left fun b hb => touch_T ((bkAll_B h1 h9).1 hb) xs
/-- the block moves that are told by the numbers of a shortest list -/
theorem pickB_at {m : Nat} (h1 : 1 ≤ m) (h9 : m ≤ 9) (hG : GOk (xG (tchAll m) m)) {t : List Int} (ht : (xG (tchAll m) m).St t) {d : Nat} {q : List Int} (hq : (xG (tchAll m) m).St q) (hd : gfar (xG (tchAll m) m) q t = d) {j : Nat} (hj : j < d) :
    ∃ i, ∃ h : i < (bkAll m).length, (decL (ggoL (xG (tchAll m) m) t d q))[j]? = some (i : Int) ∧ (((ggoL (xG (tchAll m) m) t d q).map fun k => xAt (tchAll m) k.toNat).map blockL)[j]? = some ((bkAll m)[i]) := by
  obtain ⟨i, hi, h2, h3⟩ := pick_at hG ht hq hd hj
  have hib : i < (bkAll m).length := by unfold tchAll at hi; rwa [List.length_map] at hi
  refine ⟨i, hib, h2, ?_⟩
  rw [List.getElem?_map, h3, Option.map_some, xAt_get hi]
  congr 1
  have e : (tchAll m)[i] = touchL (bkAll m)[i] := by simp [tchAll]
  rw [e]
  rfl

end Go.Pan

namespace Go.Proofs.Ytajdlioojibmdaa
open Go Go.RowKit Go.Pan

theorem bkSl : CelSl c3 Try.prog 28 53 24 := by
  obtain ⟨i, hi, hz0, hz1, hz2⟩ := info_parts infoBlock3
  exact ⟨Try.underlying28, i, _, hi, hz0, rfl, hz1, hz2⟩

set_option maxRecDepth 100000 in
set_option maxHeartbeats 3200000 in
theorem bkAll_any (n : Nat) (w : World) (h1 : 1 ≤ n) (h9 : n ≤ 9) :
    Calls Try.prog 53 #[.int .i64 n] w fun e w' => ∃ r, e = .returned r ∧ OwnC c3 w' r (bkAll n) ∧ From w.heap.size r ∧ Below w.heap.size w w' := by
  obtain ⟨i0, hi, hz0, hz1, hz2⟩ := info_parts infoBlock3
  have HI := Lib.hid hi
  have HZ0 := Lib.hid hz0
  have HZ1 := Lib.hid hz1
  clear hi hz0 hz1 hz2
  go_enter Try.func53, Try.ntmps53
  go_wp2
  go_loopw [3, 4, 5, 6] (fun v3 v4 _ _ wr => ∃ ka : Nat, ka ≤ n ∧ v4 = .int .i64 (1 + (ka : Int)) ∧ OwnC c3 wr v3 (bkA n ka) ∧ From w.heap.size v3 ∧ Below w.heap.size w wr) (fun _ v4 _ _ _ => n + 1 - (intOf v4).toNat)
  case atStart => exact ⟨0, by omega, by go_num, OwnC.nil _, From.nil _ _ _, Below.refl _ _⟩
  case round =>
    obtain ⟨ka, hka, rfl, ho, hf, hbr⟩ := hrel
    by_cases hla : ka < n
    · have hS1 := bkA_succ (n : Int) ka
      obtain ⟨A, hA⟩ : ∃ A : Int, 1 + (ka : Int) = A := ⟨_, rfl⟩
      obtain ⟨P1, hP1⟩ : ∃ P, bkA n ka = P := ⟨_, rfl⟩
      have hl1 : P1.length ≤ 9000 := by have := bkA_len (n := (n : Int)) (by omega) ka; rw [hP1] at this; omega
      rw [hA, hP1] at hS1
      rw [hP1] at ho
      rw [hA]
      have HS1 := Lib.hid hS1
      have HO := Lib.hid (show OwnC c3 wr u3 (P1 ++ bkS n A 0) by rw [show bkS n A 0 = [] by simp [bkS, ramp_nil], List.append_nil]; exact ho)
      have hA1 : 1 ≤ A := by omega
      have hAn : A ≤ n := by omega
      clear hS1 hP1 ho
      obtain ⟨wo, hwo⟩ : ∃ x, wr = x := ⟨_, rfl⟩
      rw [hwo] at HO hbr ⊢
      clear hwo
      go_wp2
      go_loopw [3, 5, 6] (fun v3 v5 _ wr => ∃ kb : Nat, A + kb ≤ n + 1 ∧ v5 = .int .i64 (A + (kb : Int)) ∧ OwnC c3 wr v3 (P1 ++ bkS n A kb) ∧ From w.heap.size v3 ∧ Below w.heap.size w wr) (fun _ v5 _ _ => n + 1 - (intOf v5).toNat)
      case atStart => exact ⟨0, by omega, by go_num, HO.out, hf, hbr⟩
      case round =>
        obtain ⟨kb, hkb, rfl, ho, hf2, hbr2⟩ := hrel
        clear HO hf hbr
        by_cases hlb : A + kb ≤ n
        · have hS2 := bkS_succ (n : Int) A kb
          obtain ⟨B, hB⟩ : ∃ B : Int, A + (kb : Int) = B := ⟨_, rfl⟩
          have hx := bkS_len (n := (n : Int)) (a := A) (by omega) (by omega) kb
          obtain ⟨P2, hP2⟩ : ∃ P, P1 ++ bkS n A kb = P := ⟨_, rfl⟩
          have hl2 : P2.length ≤ 10000 := by rw [← hP2, List.length_append]; omega
          rw [hB] at hS2
          have HS2 := Lib.hid (show P1 ++ bkS n A (kb + 1) = P2 ++ bkD A B (n - B).toNat by rw [hS2, ← List.append_assoc, hP2])
          rw [hP2] at ho
          rw [hB] at hlb ⊢
          have HO := Lib.hid (show OwnC c3 wr u3 (P2 ++ bkD A B 0) by rw [show bkD A B 0 = [] by simp [bkD, ramp_nil], List.append_nil]; exact ho)
          have hB1 : A ≤ B := by omega
          clear hS2 hP2 ho hx
          obtain ⟨wo2, hwo2⟩ : ∃ x, wr = x := ⟨_, rfl⟩
          rw [hwo2] at HO hbr2 ⊢
          clear hwo2
          go_wp2
          go_loopw [3, 6] (fun v3 v6 wr => ∃ kd : Nat, B + 1 + kd ≤ n + 1 ∧ v6 = .int .i64 (B + 1 + (kd : Int)) ∧ OwnC c3 wr v3 (P2 ++ bkD A B kd) ∧ From w.heap.size v3 ∧ Below w.heap.size w wr) (fun _ v6 _ => n + 1 - (intOf v6).toNat)
          case atStart => exact ⟨0, by omega, by go_num, HO.out, hf2, hbr2⟩
          case round =>
            obtain ⟨kd, hkd, rfl, ho, hf4, hbr4⟩ := hrel
            clear HO hf2 hbr2
            by_cases hld : B + 1 + kd ≤ n
            · have hlen : (P2 ++ bkD A B kd).length ≤ 1048576 := by rw [List.length_append, bkD_len]; omega
              have HS4 := Lib.hid (show P2 ++ bkD A B (kd + 1) = (P2 ++ bkD A B kd) ++ [(A, B, B + 1 + (kd : Int))] by rw [bkD_succ, List.append_assoc])
              have hsi := hbr4.size
              have hba := hbr4.alloc hsi (.cells #[.int .i64 A, .int .i64 B, .int .i64 (B + 1 + (kd : Int))] 53)
              have hsrc := srcT (p := (A, B, B + 1 + (kd : Int))) (Blk.new wr 53 [iv A, iv B, iv (B + 1 + (kd : Int))] _ rfl)
              have hoa := ho.alloc (.cells #[.int .i64 A, .int .i64 B, .int .i64 (B + 1 + (kd : Int))] 53)
              clear ho hbr4
              go_wp2_with (first | (refine wpList_build_triX Try.underlying28 HI.out HZ0.out rfl HZ1.out rfl _ rfl (.int .i64 A) (.int .i64 B) (.int .i64 (B + 1 + (kd : Int))) rfl ?_) | (at_builtin; refine wpList_appC bkSl (by omega) (by omega) rfl _ _ rfl _ (P2 ++ bkD A B kd) rfl hoa w.heap.size hf4 (some ⟨wr.heap.size, 0, none⟩) 1 1 [(A, B, B + 1 + (kd : Int))] rfl rfl hsrc _ hba (by simp <;> omega) hlen (by simp) ?_; intro v7 w7 ho7 hf7 hb7 hg7))
              rw [← HS4.out] at ho7
              go_roundw
              case rel => exact ⟨kd + 1, by omega, by go_num, ho7, hf7, hb7⟩
              case measure => simp [intOf] <;> omega
            · obtain rfl : kd = (n - B).toNat := by omega
              have HO2 := Lib.hid (show OwnC c3 wr u3 (P1 ++ bkS n A (kb + 1)) by rw [HS2.out]; exact ho)
              have hgt : ¬ (B + 1 + (((n - B).toNat : Nat) : Int) ≤ n) := hld
              clear ho
              go_wp2
              go_roundw
              case rel => exact ⟨kb + 1, by omega, by go_num, HO2.out, hf4, hbr4⟩
              case measure => simp [intOf] <;> omega
        · obtain rfl : kb = (n + 1 - A).toNat := by omega
          have HO2 := Lib.hid (show OwnC c3 wr u3 (bkA n (ka + 1)) by rw [HS1.out]; exact ho)
          have hgt : ¬ (A + (((n + 1 - A).toNat : Nat) : Int) ≤ n) := hlb
          clear ho
          go_wp2
          go_roundw
          case rel => exact ⟨ka + 1, by omega, by go_num, HO2.out, hf2, hbr2⟩
          case measure => simp [intOf] <;> omega
    · obtain rfl : ka = n := by omega
      have hge : ¬ (1 + (ka : Int) ≤ ka) := by omega
      have HO2 := Lib.hid (show OwnC c3 wr u3 (bkAll ka) from ho)
      clear ho
      go_wp2
      go_ret
      exact ⟨_, rfl, HO2.out, hf, hbr⟩

set_option maxHeartbeats 1600000 in
set_option maxRecDepth 100000 in
theorem bkNextB_any (v : Value) (xs : List Int) (w : World) (hv : OwnI w v xs) (h1 : 1 ≤ xs.length) (h6 : xs.length ≤ 6) :
    Calls Try.prog 83 #[v, .bool false] w fun e w' => ∃ r hs, e = .returned r ∧ SS w' w.heap.size w'.heap.size r hs (nxX (tchAll xs.length) xs) ∧ Below w.heap.size w w' := by
  obtain ⟨ad, cap, rfl, _, _, _⟩ := hv.shape
  obtain ⟨i1, hi, hs0, hs1, hs2⟩ := info_parts Try.info22
  have HI := Lib.hid hi
  have HS0 := Lib.hid hs0
  have HS1 := Lib.hid hs1
  have HS2 := Lib.hid hs2
  have cE := bkAll_any xs.length w h1 (by omega)
  have HX := Lib.hid (fun p (hp : p ∈ bkAll xs.length) => (bkAll_B h1 (by omega)).1 hp)
  have HNX := Lib.hid (nxB xs h1 (show xs.length ≤ 9 by omega))
  have hE1 : (bkAll xs.length).length ≤ 1000 := by have := bkA_len (n := (xs.length : Int)) (by omega) xs.length; unfold bkAll; omega
  have HV := Lib.hid hv
  clear hi hs0 hs1 hs2 hv
  go_enter Try.func83, Try.ntmps83
  go_wp2_with fail
  refine (cE).mono ?_
  rintro e w1 ⟨r1, rfl, ho1, hf1, hb1⟩
  clear cE
  obtain ⟨LE, hLE⟩ : ∃ L, bkAll xs.length = L := ⟨_, rfl⟩
  rw [hLE] at ho1 HX hE1 HNX
  obtain ⟨a1, c1, rfl, _, _, _⟩ := ho1.shape
  have HO1 := Lib.hid ho1
  have HLE := Lib.hid hLE
  have h0 : Hid (RW w1 w1.heap.size (.slice none 0 0) [] ((LE.take 0).map (bkT xs))) := Lib.hid (RW.nil _ _)
  have hz1 := hb1.size
  obtain ⟨E, hE⟩ : ∃ E, LE.length = E := ⟨_, rfl⟩
  rw [hE] at hE1 ⊢
  have HE := Lib.hid hE
  clear ho1 hf1 hLE hE
  go_wp2
  go_loopw [5, 9, 31] (fun ov _ iv wr => ∃ (k : Nat) (hs : List Value), k ≤ E ∧ iv = .int .i64 k ∧ Hid (RW wr w1.heap.size ov hs ((LE.take k).map (bkT xs))) ∧ Below w1.heap.size w1 wr) (fun _ _ iv _ => E - (intOf iv).toNat)
  case atStart => exact ⟨0, [], Nat.zero_le _, rfl, h0, Below.refl _ _⟩
  case round =>
    obtain ⟨k, hs, hk, rfl, hW, hbr⟩ := hrel
    obtain ⟨wk, rfl⟩ : ∃ z, z = wr := ⟨_, rfl⟩
    clear h0
    by_cases hlt : k < E
    · have hlt' : (k : Int) < (E : Int) := by omega
      have hkl : k < LE.length := by rw [HE.out]; exact hlt
      have HST := Lib.hid (take_map_succ (bkT xs) LE k hkl)
      obtain ⟨b, off, rfl, hbl, hra⟩ := OwnC.rowAt ((HO1.out.below hbr (Nat.le_refl _)).alloc (.cells #[.int .i64 0, .int .i64 0, .int .i64 0] 53)) hkl
      have hB := HX.out _ (List.getElem_mem hkl)
      obtain ⟨p, hp⟩ : ∃ p, LE[k] = p := ⟨_, rfl⟩
      rw [hp] at hra hB HST
      have hB := Lib.hid hB
      have hra0 := HO1.out.below hbr (Nat.le_refl _)
      obtain ⟨b', off', e', _, hraw⟩ := OwnC.rowAt hra0 hkl
      simp only [Option.some.injEq, Addr.mk.injEq, and_true] at e'
      obtain ⟨rfl, rfl⟩ := e'
      rw [hp] at hraw
      have hra' : wk.rangeAt b (off + k * 3) [.int .i64 p.1, .int .i64 p.2.1, .int .i64 p.2.2] := hraw
      have hsz2 : (Try.prog.info? 53).map (·.size) = some ([.int .i64 p.1, .int .i64 p.2.1, .int .i64 p.2.2] : List Value).length := infoBlock
      have hzM : Blk (wk.alloc (.cells #[.int .i64 0, .int .i64 0, .int .i64 0] 53)) wk.heap.size 53 [.int .i64 0, .int .i64 0, .int .i64 0] := Blk.new wk _ [.int .i64 0, .int .i64 0, .int .i64 0] _ rfl
      have hhl : hs.length = k := by rw [hW.out.ss.len, List.length_map, List.length_take]; omega
      have HHL := Lib.hid hhl
      have hzk : w1.heap.size ≤ wk.heap.size := hbr.size
      clear hp hra hkl hhl hra0 hraw
      go_upto_region 12 with (first | (refine wpList_load_mid rfl 53 _ rfl b (off + k * 3) rfl [.int .i64 p.1, .int .i64 p.2.1, .int .i64 p.2.2] _ hra' Try.underlying53 rfl hsz2 ?_) | (refine wpList_store_blk rfl 53 _ _ rfl wk.heap.size 0 [.int .i64 p.1, .int .i64 p.2.1, .int .i64 p.2.2] rfl rfl _ _ hzM (by simp) hsz2 (by intro u hu; simp at hu; rcases hu with rfl | rfl | rfl <;> rfl) ?_; intro w4 hM4 hg4))
      have hM4' : Blk w4 wk.heap.size 53 [.int .i64 p.1, .int .i64 p.2.1, .int .i64 p.2.2] := by simpa using hM4
      have hrM := hM4'.range
      have hb4 : Below wk.heap.size wk w4 := (below_new wk _).grown hg4 (by simp) (by intro q hq; cases hq; exact Nat.le_refl _)
      have hB4 := hbr.trans (hb4.mono hzk)
      have hz4 := hb4.size
      have hX4 := hW.out.below hb4
      have cS := bkMove_any (.slice ad xs.length cap) xs xs.length p w4 (HV.out.same (hb1.trans (hB4.mono hz1))) (by omega) hB (Lib.hid rfl)
      clear hW hbr hb4 hM4 hM4' hg4 hzM hra'
      go_wp2_with (first | (refine wpList_load_mid rfl 53 _ rfl wk.heap.size 0 rfl [.int .i64 p.1, .int .i64 p.2.1, .int .i64 p.2.2] _ hrM Try.underlying53 rfl hsz2 ?_))
      refine cS.mono ?_
      rintro e w5 ⟨r5, rfl, ho5, hf5, hb5⟩
      obtain ⟨a5, l5, c5, rfl⟩ : ∃ a l c, r5 = .slice a l c := by obtain ⟨a, c, h, _⟩ := ho5.shape; exact ⟨a, _, c, h⟩
      have hz5 := hb5.size
      have hl5 := ho5.lt
      have hX5 := hX4.below hb5
      have HI5 := Lib.hid (show In w4.heap.size (w5.heap.size + 1) (.slice a5 l5 c5) from fun q hq => ⟨hf5 q hq, by have := hl5 q hq; omega⟩)
      have HS5 := Lib.hid ((hX4.ss.below hb5 (Nat.le_refl _)).below (below_new w5 (.cells #[.slice a5 l5 c5] 22)) (by omega))
      have HO5 := Lib.hid (ho5.alloc (.cells #[.slice a5 l5 c5] 22))
      have hown5 := hX5.row.alloc (.cells #[.slice a5 l5 c5] 22)
      have hB5 := (hB4.trans (hb5.mono hB4.size)).alloc (by have := hB4.size; omega) (.cells #[.slice a5 l5 c5] 22)
      have HIN := Lib.hid hX4.ss.inn
      have hz45 : w1.heap.size ≤ w4.heap.size := hB4.size
      clear hX4 hX5 ho5 hf5 hb5 cS hl5 hrM hB4
      go_wp2_with (at_builtin; refine wpList_append_lies _ rfl _ _ 42 rfl w1.heap.size 22 i1 _ 1 24 Try.underlying42 HI.out HS0.out HS1.out HS2.out rfl (by omega) _ hs.length hs rfl hown5 _ 1 1 [.slice a5 l5 c5] rfl (by simp) (World.news_of_block (heap_alloc_new _ _)) (by simp [Value.oneCell']) (by omega) (by have := HHL.out; unfold maxLen; omega) (by have := HHL.out; omega) (by simp; omega) (w5.heap.size + 1) (by simp) ?_)
      intro g8 cap8 w8 hown8 hgr8 hat8 hlt8
      have hS8 := SS.app (cap := cap8) HS5.out (by simp; omega) HO5.out (by simpa using HI5.out) hown8 hgr8 (by simpa using hat8) hlt8 hz45
      rw [← HST.out] at hS8
      have HW8 := Lib.hid (show RW w8 w1.heap.size (.slice (some ⟨g8, 0, none⟩) (hs.length + 1) cap8) (hs ++ [.slice a5 l5 c5]) ((LE.take (k + 1)).map (bkT xs)) from ⟨hS8, by rw [List.length_append]; exact hown8⟩)
      have HB8 := Lib.hid (hB5.grown hgr8 (by simp; omega) (fun b hb => (HIN.out b hb).1))
      clear hown5 hown8 hS8 hat8 hgr8 hlt8 hB5
      go_wp2
      go_roundw
      case rel => exact ⟨k + 1, _, by omega, by go_num, HW8, HB8.out⟩
      case measure => simp [intOf] <;> omega
    · obtain rfl : k = E := by omega
      have HR := Lib.hid (show SS wk w.heap.size wk.heap.size u5 hs (nxX (tchAll xs.length) xs) by
        rw [HNX.out, ← List.take_length (l := LE), HE.out]
        exact hW.out.ss.mono hz1 (Nat.le_refl _))
      have hge : (k : Int) ≤ (k : Int) := Int.le_refl _
      have HB := Lib.hid (hb1.trans (hbr.mono hz1))
      clear hW hbr
      go_wp2
      go_ret
      exact ⟨_, hs, rfl, HR.out, HB.out⟩

theorem nextOk_bk : NextOk false := fun v xs w hv h1 h6 => bkNextB_any v xs w hv h1 h6

theorem sCountByBlocks_any (n : Int) (w : World) :
    Calls Try.prog 24 #[.int .i64 n] w fun e w' => ∃ r, e = .returned (.tuple #[r, .bool (okFew n)]) ∧ OwnI w' r (mCountByBlocks n) ∧ From w.heap.size r ∧ Below w.heap.size w w' := by
  have c := l1In_any n 1 6 w
  cases hg : okFew n with
  | true =>
    have HM := Lib.hid (show mCountByBlocks n = gbyL (xG (tchAll n.toNat) n.toNat) (ramp 1 n.toNat) from if_pos hg)
    have hb := inB_iff.1 hg
    have hg' : inB n 1 6 = true := hg
    rw [hg'] at c
    obtain ⟨m, rfl⟩ : ∃ m : Nat, n = m := ⟨n.toNat, by omega⟩
    have cc := bkCount_any false m w (by omega) (by omega) (Lib.hid nextOk_bk)
    rw [Int.toNat_natCast] at HM
    clear hg hg' hb
    go_enter Try.func24, Try.ntmps24
    go_wp2_with fail
    refine (c).mono ?_
    rintro e w0 ⟨rfl, rfl⟩
    go_wp2_with fail
    refine (cc).mono ?_
    rintro e w1 ⟨r, rfl, ho, hf, hb⟩
    go_wp2
    go_ret2
    exact ⟨_, rfl, by rw [HM.out]; exact ho, hf, hb⟩
  | false =>
    have HM := Lib.hid (show mCountByBlocks n = [] from if_neg (by rw [hg]; exact Bool.false_ne_true))
    have hg' : inB n 1 6 = false := hg
    rw [hg'] at c
    clear hg hg'
    go_enter Try.func24, Try.ntmps24
    go_wp2_with fail
    refine (c).mono ?_
    rintro e w0 ⟨rfl, rfl⟩
    go_wp2
    go_ret2
    exact ⟨_, rfl, by rw [HM.out]; exact OwnI.nil _, From.nil _ _ _, Below.refl _ _⟩

set_option maxHeartbeats 4000000 in
set_option maxRecDepth 100000 in
theorem sLeastBlocks_any (v : Value) (xs : List Int) (w : World) (hv : OwnI w v xs) (hn : xs.length ≤ 1048576) :
    Calls Try.prog 18 #[v] w fun e w' => ∃ r, e = .returned (.tuple #[r, .bool (sfewB xs)]) ∧ OwnC c3 w' r (mLeastBlocks xs) ∧ From w.heap.size r ∧ Below w.heap.size w w' := by
  obtain ⟨ad, cap, rfl, _, _, _⟩ := hv.shape
  have c := bkFew_any _ xs w hv hn
  cases hg : sfewB xs with
  | true =>
    obtain ⟨hst, h1, h6⟩ := sfewB_iff.1 hg
    rw [hg] at c
    have HM := Lib.hid (show mLeastBlocks xs = ((ggoL (xG (tchAll xs.length) xs.length) (ramp 1 xs.length) (xfar tchAll xs) xs).map fun k => xAt (tchAll xs.length) k.toNat).map blockL by unfold mLeastBlocks mLeastX; rw [if_pos hg])
    have HX := Lib.hid (tchAll_ok h1 h6)
    have HGM := Lib.hid (xG_ok HX.out h1 h6)
    have HT := Lib.hid (show (xG (tchAll xs.length) xs.length).St (ramp 1 xs.length) from St.ramp xs.length h1 (by omega))
    have hd5 := xfar_le (L := tchAll) (fun _ a b => tchAll_ok a b) hg
    obtain ⟨d, hd⟩ : ∃ d, xfar tchAll xs = d := ⟨_, rfl⟩
    have HD := Lib.hid (show gfar (xG (tchAll xs.length) xs.length) xs (ramp 1 xs.length) = d from hd)
    rw [hd] at HM hd5
    have cl := fun u hu => bkList_any false xs.length d (.slice ad xs.length cap) xs u hu h1 h6 (Lib.hid nextOk_bk) (Lib.hid hst) HD
    have HPK := Lib.hid (fun j (hj : j < d) => pickB_at h1 (show xs.length ≤ 9 by omega) HGM.out HT.out (show (xG (tchAll xs.length) xs.length).St xs from hst) HD.out hj)
    have HPL := Lib.hid (show (decL (ggoL (xG (tchAll xs.length) xs.length) (ramp 1 xs.length) d xs)).length = d by rw [decL_length, ggoL_length])
    have HSLL := Lib.hid (show (((ggoL (xG (tchAll xs.length) xs.length) (ramp 1 xs.length) d xs).map fun k => xAt (tchAll xs.length) k.toNat).map blockL).length = d by rw [List.length_map, List.length_map, ggoL_length])
    obtain ⟨P, hP⟩ : ∃ P, decL (ggoL (xG (tchAll xs.length) xs.length) (ramp 1 xs.length) d xs) = P := ⟨_, rfl⟩
    obtain ⟨SL, hSL⟩ : ∃ SL, ((ggoL (xG (tchAll xs.length) xs.length) (ramp 1 xs.length) d xs).map fun k => xAt (tchAll xs.length) k.toNat).map blockL = SL := ⟨_, rfl⟩
    rw [hSL] at HM HPK HSLL
    have cl : ∀ u, OwnI u (.slice ad xs.length cap) xs → Calls Try.prog 52 #[.slice ad xs.length cap, .bool false] u fun e w' => ∃ r, e = .returned r ∧ OwnI w' r P ∧ From u.heap.size r ∧ Below u.heap.size u w' := by
      rw [← hP]; exact cl
    rw [hP] at HPK HPL
    obtain ⟨i0, hi, hz0, hz1, hz2⟩ := info_parts infoBlock3
    have HI := Lib.hid hi
    have HZ0 := Lib.hid hz0
    have HZ1 := Lib.hid hz1
    have hL1 : (bkAll xs.length).length ≤ 1000 := by have := bkA_len (n := (xs.length : Int)) (by omega) xs.length; unfold bkAll; omega
    have cE := fun u => bkAll_any xs.length u h1 (by omega)
    have HG := Lib.hid hg
    clear hi hz0 hz1 hz2 hg hd hP hSL hst
    go_enter Try.func18, Try.ntmps18
    go_wp2_with fail
    refine (c).mono ?_
    rintro e w0 ⟨rfl, hb0⟩
    clear c
    go_wp2_with fail
    refine (cl _ (hv.same hb0)).mono ?_
    rintro e w1 ⟨r1, rfl, ho1, hf1, hb1⟩
    clear cl
    have hB1 := hb0.trans (hb1.mono hb0.size)
    have HB1 := Lib.hid hB1
    have hz1 := hB1.size
    obtain ⟨a1, c1, rfl, hcN, _, _⟩ := ho1.shape
    have hO1 : Own w1 1 (.slice a1 P.length c1) P.length (P.map iv) := ho1
    rw [HPL.out] at hO1 hcN ⊢
    have HO1 := Lib.hid hO1
    clear ho1 hf1 hb0 hb1 hB1 hO1
    go_wp2
    go_loopw [4, 6, 13] (fun ov _ iv' wr => ∃ j : Nat, j ≤ d ∧ iv' = .int .i64 j ∧ OwnC c3 wr ov (SL.take j) ∧ From w1.heap.size ov ∧ Below w1.heap.size w1 wr) (fun _ _ iv' _ => d - (intOf iv').toNat)
    case atStart => exact ⟨0, Nat.zero_le _, rfl, OwnC.nil _, From.nil _ _ _, Below.refl _ _⟩
    case round =>
      obtain ⟨j, hj, rfl, ho, hf, hbr⟩ := hrel
      obtain ⟨wr, rfl⟩ : ∃ z, z = wr := ⟨_, rfl⟩
      by_cases hlt : j < d
      · have hlt' : (j : Int) < (d : Int) := by omega
        have hor := Own.same HO1.out hbr
        obtain ⟨g1, o1, rfl, hg1, hc1, _⟩ := Own.at hor (by omega)
        have h1r := hc1 j (by omega)
        obtain ⟨i, hil, hPj, hSj⟩ := HPK.out j hlt
        rw [List.getElem?_map, hPj, Option.map_some] at h1r
        have hi1 : (i : Int) < ((bkAll xs.length).length : Int) := by omega
        have HTK := Lib.hid (show SL.take (j + 1) = SL.take j ++ [(bkAll xs.length)[i]] by
          rw [List.take_add_one, hSj]; rfl)
        obtain ⟨p, hp⟩ : ∃ p, (bkAll xs.length)[i] = p := ⟨_, rfl⟩
        have HPE := Lib.hid hp
        rw [hp] at HTK
        have hzr := hbr.size
        clear hor hc1 hPj hSj hp
        go_wp2_with fail
        refine (cE wr).mono ?_
        rintro e3 w3 ⟨r3, rfl, ho3, hf3, hb3⟩
        obtain ⟨a3, k3, rfl, _, _, _⟩ := ho3.shape
        obtain ⟨b, off, rfl, hbl, hra⟩ := OwnC.rowAt ho3 hil
        rw [HPE.out] at hra
        have hra' : w3.rangeAt b (off + i * 3) [.int .i64 p.1, .int .i64 p.2.1, .int .i64 p.2.2] := hra
        have hszs : (Try.prog.info? 53).map (·.size) = some ([.int .i64 p.1, .int .i64 p.2.1, .int .i64 p.2.2] : List Value).length := infoBlock
        have hsrc := srcT (p := p) (Blk.new w3 53 [iv p.1, iv p.2.1, iv p.2.2] _ rfl)
        have ho3' : OwnC c3 w3 u4 (SL.take j) := Own.same ho hb3
        have hoa : OwnC c3 (w3.alloc (.cells #[.int .i64 p.1, .int .i64 p.2.1, .int .i64 p.2.2] 53)) u4 (SL.take j) := Own.alloc ho3' _
        have hB3 := hbr.trans (hb3.mono hzr)
        have hbn := hB3.alloc hB3.size (.cells #[.int .i64 p.1, .int .i64 p.2.1, .int .i64 p.2.2] 53)
        have hz8a : w1.heap.size ≤ (w3.alloc (.cells #[.int .i64 p.1, .int .i64 p.2.1, .int .i64 p.2.2] 53)).heap.size := hbn.size
        have HF := Lib.hid hf
        have hl1 : (SL.take j).length ≤ 1048576 := by rw [List.length_take]; omega
        clear ho ho3 hf3 hb3 hra ho3' hB3 hf
        go_wp2_with (first | (refine wpList_load_mid rfl 53 _ rfl b (off + i * 3) rfl [.int .i64 p.1, .int .i64 p.2.1, .int .i64 p.2.2] _ hra' Try.underlying53 rfl hszs ?_) | (refine wpList_build_triX Try.underlying28 HI.out HZ0.out rfl HZ1.out rfl _ rfl (.int .i64 p.1) (.int .i64 p.2.1) (.int .i64 p.2.2) rfl ?_) | (at_builtin; refine wpList_appC bkSl (by omega) (by omega) rfl _ _ rfl u4 (SL.take j) rfl hoa w1.heap.size HF.out (some ⟨w3.heap.size, 0, none⟩) 1 1 [p] rfl rfl hsrc w1 hbn hz8a hl1 (by simp) ?_; intro v9 w9 ho9 hf9 hb9 hg9))
        have HO9 := Lib.hid (show OwnC c3 w9 v9 (SL.take (j + 1)) by rw [HTK.out]; exact ho9)
        clear ho9 hg9 hsrc hoa hbn
        go_wp2
        go_roundw
        case rel => exact ⟨j + 1, by omega, by go_num, HO9.out, hf9, hb9⟩
        case measure => simp [intOf] <;> omega
      · obtain rfl : j = d := by omega
        have HO := Lib.hid (show OwnC c3 wr u4 (mLeastBlocks xs) by
          rw [HM.out, ← List.take_length (l := SL), HSLL.out]
          exact ho)
        have hge : (j : Int) ≤ (j : Int) := Int.le_refl _
        have HB := Lib.hid (HB1.out.trans (hbr.mono hz1))
        clear ho
        go_wp2
        go_ret2
        exact ⟨_, rfl, HO.out, hf.mono hz1, HB.out⟩
  | false =>
    have HM := Lib.hid (show mLeastBlocks xs = [] by unfold mLeastBlocks mLeastX; rw [if_neg (by rw [hg]; exact Bool.false_ne_true)]; rfl)
    rw [hg] at c
    clear hg
    go_enter Try.func18, Try.ntmps18
    go_wp2_with fail
    refine (c).mono ?_
    rintro e w0 ⟨rfl, hb0⟩
    go_wp2
    go_ret2
    exact ⟨_, rfl, by rw [HM.out]; exact OwnC.nil _, From.nil _ _ _, hb0⟩

set_option maxHeartbeats 1600000 in
set_option maxRecDepth 100000 in
theorem sBlockDistance_any (v : Value) (xs : List Int) (w : World) (hv : OwnI w v xs) (hn : xs.length ≤ 1048576) :
    Calls Try.prog 14 #[v] w fun e w' => e = .returned (.tuple #[.int .i64 (mBlockDistance xs), .bool (sfewB xs)]) ∧ Below w.heap.size w w' := by
  obtain ⟨ad, cap, rfl, _, _, _⟩ := hv.shape
  have c := bkFew_any _ xs w hv hn
  cases hg : sfewB xs with
  | true =>
    obtain ⟨hst, h1, h6⟩ := sfewB_iff.1 hg
    rw [hg] at c
    have HM := Lib.hid (show mBlockDistance xs = (xfar tchAll xs : Int) from if_pos hg)
    have HFA := Lib.hid (show (sFar (xBd (tchAll xs.length) xs.length))[rankL xs]? = some ((xfar tchAll xs : Nat) : Int) by
      have h := xBd_d (tchAll_ok h1 h6) h1 h6 hst
      unfold xfar
      rw [← h]
      exact sFar_get (show rankL xs < (xBd (tchAll xs.length) xs.length).N from rank_lt hst))
    have hrN := rank_lt hst
    have HFL := Lib.hid (sFar_length (xBd (tchAll xs.length) xs.length))
    have HFN := Lib.hid (show (xBd (tchAll xs.length) xs.length).N = fact xs.length from rfl)
    obtain ⟨F, hF⟩ : ∃ F, sFar (xBd (tchAll xs.length) xs.length) = F := ⟨_, rfl⟩
    have cf : ∀ u, Calls Try.prog 50 #[.int .i64 xs.length, .bool false] u fun e w' => ∃ r, e = .returned r ∧ OwnI w' r F ∧ From u.heap.size r ∧ Below u.heap.size u w' := fun u => by
      rw [← hF]; exact bkFar_any false xs.length u h1 h6 (Lib.hid nextOk_bk)
    rw [hF] at HFA HFL
    obtain ⟨N, hN⟩ : ∃ N, fact xs.length = N := ⟨_, rfl⟩
    rw [hN] at hrN HFN
    rw [HFN.out] at HFL
    obtain ⟨k, hk⟩ : ∃ k, rankL xs = k := ⟨_, rfl⟩
    have HK := Lib.hid hk
    rw [hk] at hrN HFA
    have hkN : (k : Int) < (N : Int) := by omega
    have cR := fun u hu => faRank_any (.slice ad xs.length cap) xs u hu (by omega)
    rw [hk] at cR
    clear hg hst hF hN hk
    go_enter Try.func14, Try.ntmps14
    go_wp2_with fail
    refine (c).mono ?_
    rintro e w0 ⟨rfl, hb0⟩
    clear c
    go_wp2_with fail
    refine (cf _).mono ?_
    rintro e w1 ⟨r1, rfl, ho1, hf1, hb1⟩
    clear cf
    obtain ⟨a1, c1, rfl, hcN, _, _⟩ := ho1.shape
    have hO1 : Own w1 1 (.slice a1 F.length c1) F.length (F.map iv) := ho1
    rw [HFL.out] at hO1 hcN ⊢
    obtain ⟨g1, o1, rfl, _, hc1, _⟩ := Own.at hO1 (by omega)
    have hcr := hc1 k (by omega)
    rw [List.getElem?_map, HFA.out, Option.map_some] at hcr
    have hB1 := hb0.trans (hb1.mono hb0.size)
    have hv1 := hv.same hB1
    clear hO1 ho1 hf1 hc1 hb0 hb1
    go_wp2_with fail
    refine (cR w1 hv1).mono ?_
    rintro e2 w2 ⟨rfl, rfl⟩
    clear cR
    go_wp2
    go_ret2
    exact ⟨by rw [HM.out]; rfl, hB1⟩
  | false =>
    have HM := Lib.hid (show mBlockDistance xs = 0 from if_neg (by rw [hg]; exact Bool.false_ne_true))
    rw [hg] at c
    clear hg
    go_enter Try.func14, Try.ntmps14
    go_wp2_with fail
    refine (c).mono ?_
    rintro e w0 ⟨rfl, hb0⟩
    go_wp2
    go_ret2
    exact ⟨by rw [HM.out]; rfl, hb0⟩

end Go.Proofs.Ytajdlioojibmdaa

namespace Go.Pan
open Go Go.RowKit

-- slices.DeleteFunc over a list of exchanges of one's own; the block moves among them
theorem ownBlkX {w : World} {ad : Option Addr} {n cap : Nat} {cs : List Value} (h : Own w 4 (.slice ad n cap) n cs) (hc : 0 < cap) :
    ∃ g off ty pre post, ad = some ⟨g, off, none⟩ ∧ Blk w g ty (pre ++ cs ++ post) ∧ pre.length = off ∧ off + cap * 4 ≤ (pre ++ cs ++ post).length := by
  obtain ⟨ad', cap', hv, h1, h2, h3, h4, h⟩ := h
  simp only [Value.slice.injEq, true_and] at hv
  obtain ⟨rfl, rfl⟩ := hv
  cases ad with
  | none => have := h4 rfl; omega
  | some a =>
    obtain ⟨hs, cur, ty, hh, r, hcc⟩ := h a rfl
    obtain ⟨g, off, sp⟩ := a
    simp only at hs hh r hcc
    subst hs
    have hmid : (cur.toList.drop off).take (n * 4) = cs := by
      apply List.ext_getElem?
      intro j
      rw [List.getElem?_take, List.getElem?_drop]
      by_cases hj : j < n * 4
      · rw [if_pos hj]
        have := hcc j hj
        rw [← this]
        simp
      · rw [if_neg hj, List.getElem?_eq_none (by rw [h1]; omega)]
    have hall : cur.toList.take off ++ cs ++ cur.toList.drop (off + n * 4) = cur.toList := by
      rw [← hmid, List.append_assoc, ← List.drop_drop, List.take_append_drop, List.take_append_drop]
    refine ⟨g, off, ty, cur.toList.take off, cur.toList.drop (off + n * 4), rfl, ?_, ?_, ?_⟩
    · unfold Blk; rw [hall]; exact hh
    · rw [List.length_take, Array.length_toList]; omega
    · rw [hall, Array.length_toList]; omega
theorem ownOfX {w : World} {g off n cap : Nat} {ty : TypeId} {pre post cs : List Value} (h : Blk w g ty (pre ++ cs ++ post)) (ho : pre.length = off) (hn : cs.length = n * 4) (hc : n ≤ cap) (hm : cap ≤ maxLen) (hl : off + cap * 4 ≤ (pre ++ cs ++ post).length) :
    Own w 4 (.slice (some ⟨g, off, none⟩) n cap) n cs := by
  subst ho
  refine ⟨_, cap, rfl, hn, hc, hm, by simp, fun a ha => ?_⟩
  cases ha
  refine ⟨rfl, _, ty, h, by simpa using hl, fun j hj => ?_⟩
  simp only [List.getElem?_toArray]
  rw [List.append_assoc, List.getElem?_append_right (by omega), Nat.add_sub_cancel_left, List.getElem?_append_left (by rw [hn]; exact hj)]
theorem fl_take (l : List (Int × Int × Int × Int)) (k : Nat) (h : k ≤ l.length) : (fl c4.c l).take (k * 4) = fl c4.c (l.take k) := by
  have e : fl c4.c l = fl c4.c (l.take k) ++ fl c4.c (l.drop k) := by rw [← fl_append, List.take_append_drop]
  rw [e, List.take_left']
  rw [fl_length c4, List.length_take, Nat.min_eq_left h]
theorem fl_drop (l : List (Int × Int × Int × Int)) (k : Nat) (h : k ≤ l.length) : (fl c4.c l).drop (k * 4) = fl c4.c (l.drop k) := by
  have e : fl c4.c l = fl c4.c (l.take k) ++ fl c4.c (l.drop k) := by rw [← fl_append, List.take_append_drop]
  rw [e, List.drop_left']
  rw [fl_length c4, List.length_take, Nat.min_eq_left h]
theorem mid_take (pre post A : List Value) (k : Nat) (h : k ≤ A.length) : (pre ++ A ++ post).take (pre.length + k) = pre ++ A.take k := by
  rw [List.append_assoc, List.take_length_add_append, List.take_append_of_le_length h]
theorem mid_drop (pre post A : List Value) (k : Nat) (h : k ≤ A.length) : (pre ++ A ++ post).drop (pre.length + k) = A.drop k ++ post := by
  rw [List.append_assoc, List.drop_length_add_append, List.drop_append_of_le_length h]
theorem set_take {α : Type} (l : List α) (i : Nat) (e : α) (h : i < l.length) : (l.set i e).take (i + 1) = l.take i ++ [e] := by
  rw [List.take_add_one, List.take_set_of_le (Nat.le_refl _), List.getElem?_set_self h]; rfl
theorem fl_setX (pre post : List Value) (l : List (Int × Int × Int × Int)) (i : Nat) (e : Int × Int × Int × Int) (h : i < l.length) :
    (pre ++ fl c4.c l ++ post).take (pre.length + i * 4) ++ c4.c e ++ (pre ++ fl c4.c l ++ post).drop (pre.length + i * 4 + 4) = pre ++ fl c4.c (l.set i e) ++ post := by
  have hl : (fl c4.c l).length = l.length * 4 := fl_length c4 l
  rw [mid_take _ _ _ _ (by omega), show pre.length + i * 4 + 4 = pre.length + (i + 1) * 4 by omega, mid_drop _ _ _ _ (by omega), fl_take l i (by omega), fl_drop l (i + 1) (by omega)]
  have e2 : l.set i e = l.take i ++ e :: l.drop (i + 1) := List.set_eq_take_append_cons_drop .. |>.trans (by rw [if_pos h])
  rw [e2, fl_append]
  have e3 : fl c4.c (e :: l.drop (i + 1)) = c4.c e ++ fl c4.c (l.drop (i + 1)) := by simp [fl]
  rw [e3]
  simp only [List.append_assoc]
theorem zero4 (n : Nat) : (Builtin.zeroCells #[iv 0, iv 0, iv 0, iv 0] n).toList = List.replicate (n * 4) (iv 0) := by
  apply List.ext_getElem
  · simp [Builtin.zeroCells]
  · intro i h1 h2
    rcases (show i % 4 = 0 ∨ i % 4 = 1 ∨ i % 4 = 2 ∨ i % 4 = 3 by omega) with h | h | h | h <;> simp [Builtin.zeroCells, h]
theorem run_clear4 {P : Program} (w : World) (t e ty : TypeId) (z : Value) (ht : P.underlying t = some (.slice e)) (hv : ∀ w, (zeroValue e).run P w = .ok z w) (hz : z.cells = #[iv 0, iv 0, iv 0, iv 0]) (b o n c : Nat) (hn : 0 < n)
    (hc : ∀ j, j < n * 4 → (w.cell? ⟨b, o + j, none⟩).isSome = true) (hf : ∀ j, j < n * 4 → w.frozen? ⟨b, o + j, none⟩ = false) :
    (Builtin.clear_ #[t] ty #[.slice (some ⟨b, o, none⟩) n c]).run P w = .ok (.tuple #[]) (w.setCells b o (List.replicate (n * 4) (iv 0))) := by
  have hzc : (Builtin.zeroCells z.cells n).toList = List.replicate (n * 4) (iv 0) := by rw [hz]; exact zero4 n
  have hst := run_storeCells_cells (P := P) b o (List.replicate (n * 4) (iv 0)) 0 w (by simpa using hc) (by simpa using hf) (by intro v hv'; rw [List.eq_of_mem_replicate hv']; rfl)
  simp only [Nat.add_zero] at hst
  obtain ⟨m, rfl⟩ : ∃ m, n = m + 1 := ⟨n - 1, by omega⟩
  simp [Builtin.clear_, run_underlying ht, hv, hzc, hst]
/-- the block moves among the exchanges -/
def noBk (e : Int × Int × Int × Int) : Bool := decide (e ≠ touchL (blockL e))
theorem keep_bk {m : Nat} (h1 : 1 ≤ m) (h6 : m ≤ 6) : (exAll m).filter (fun e => !noBk e) = tchAll m := by
  match m, h1, h6 with
  | 1, _, _ => decide +kernel
  | 2, _, _ => decide +kernel
  | 3, _, _ => decide +kernel
  | 4, _, _ => decide +kernel
  | 5, _, _ => decide +kernel
  | 6, _, _ => decide +kernel

end Go.Pan

namespace Go.Proofs.Ytajdlioojibmdaa
open Go Go.RowKit Go.Pan

abbrev exV (e : Int × Int × Int × Int) : Value := .agg #[.int .i64 e.1, .int .i64 e.2.1, .int .i64 e.2.2.1, .int .i64 e.2.2.2]

set_option maxHeartbeats 1600000 in
set_option maxRecDepth 100000 in
theorem idxFuncX_any (F : FuncId) (v : Value) (L : List (Int × Int × Int × Int)) (pr : Int × Int × Int × Int → Bool) (ik : Nat) (R : Int) (w : World) (hv : OwnC c4 w v L) (hl : L.length ≤ 9000) (hk : ik ≤ L.length)
    (hi : Hid (∀ (j : Nat) (e : Int × Int × Int × Int), j < ik → L[j]? = some e → pr e = false)) (hy : Hid (∀ e, L[ik]? = some e → pr e = true)) (hR : Hid ((ik < L.length → R = ik) ∧ (ik = L.length → R = -1)))
    (hC : ∀ (args : Array Value) (u : World), (callFunc F args).run Try.prog u = .ok (.enter F args) u)
    (hF : Hid (∀ (e : Int × Int × Int × Int) (W : World), Calls Try.prog F #[exV e] W fun r W' => r = .returned (.bool (pr e)) ∧ Below W.heap.size W W')) :
    Calls Try.prog 119 #[v, .func (Fn.func F) #[] #[]] w fun e w' => e = .returned (.int .i64 R) ∧ Below w.heap.size w w' := by
  obtain ⟨al, cl, rfl, _, _, _⟩ := hv.shape
  have HOL := Lib.hid hv
  clear hv
  go_enter Try.func119, Try.ntmps119
  go_wp2
  go_loopw [8] (fun i wr => ∃ j : Nat, i = .int .i64 j ∧ j ≤ ik ∧ Below w.heap.size w wr) (fun i _ => L.length - (intOf i).toNat)
  case atStart => exact ⟨0, rfl, Nat.zero_le _, Below.refl _ _⟩
  case round =>
    obtain ⟨j, rfl, hjk, hbr⟩ := hrel
    by_cases hjl : j < L.length
    · have hji : (j : Int) < (L.length : Int) := by omega
      obtain ⟨tb, toff, hta, htl, hra⟩ := OwnC.rowAt (Own.same HOL.out hbr) hjl
      subst hta
      obtain ⟨e2, he2⟩ : ∃ q, L[j] = q := ⟨_, rfl⟩
      have cF := hF.out e2 wr
      have hget : L[j]? = some e2 := by rw [List.getElem?_eq_getElem hjl, he2]
      rw [he2] at hra
      have hra' : wr.rangeAt tb (toff + j * 4) [.int .i64 e2.1, .int .i64 e2.2.1, .int .i64 e2.2.2.1, .int .i64 e2.2.2.2] := hra
      have hszs : (Try.prog.info? 58).map (·.size) = some ([.int .i64 e2.1, .int .i64 e2.2.1, .int .i64 e2.2.2.1, .int .i64 e2.2.2.2] : List Value).length := infoExchange
      by_cases hjE : j = ik
      · have hp : pr e2 = true := hy.out e2 (by rw [← hjE]; exact hget)
        rw [hp] at cF
        have HJ := Lib.hid (show R = (j : Int) by rw [hR.out.1 (by omega), hjE])
        clear he2 hra hp hget hjE
        go_wp2_with (first | (refine wpList_load_mid rfl 58 _ rfl tb (toff + j * 4) rfl [.int .i64 e2.1, .int .i64 e2.2.1, .int .i64 e2.2.2.1, .int .i64 e2.2.2.2] _ hra' Try.underlying58 rfl hszs ?_))
        refine cF.mono ?_
        rintro e w2 ⟨rfl, hb2⟩
        have hB2 := hbr.trans (hb2.mono hbr.size)
        clear cF
        go_wp2
        go_ret
        exact ⟨by rw [HJ.out]; rfl, hB2⟩
      · have hp : pr e2 = false := hi.out j e2 (by omega) hget
        rw [hp] at cF
        have hjk2 : j + 1 ≤ ik := by omega
        clear he2 hra hp hget hjE
        go_wp2_with (first | (refine wpList_load_mid rfl 58 _ rfl tb (toff + j * 4) rfl [.int .i64 e2.1, .int .i64 e2.2.1, .int .i64 e2.2.2.1, .int .i64 e2.2.2.2] _ hra' Try.underlying58 rfl hszs ?_))
        refine cF.mono ?_
        rintro e w2 ⟨rfl, hb2⟩
        have hB2 := hbr.trans (hb2.mono hbr.size)
        clear cF
        go_wp2
        go_roundw
        case rel => exact ⟨j + 1, by go_num, hjk2, hB2⟩
        case measure => simp [intOf] <;> omega
    · have HJ := Lib.hid (hR.out.2 (by omega))
      have hge : (L.length : Int) ≤ (j : Int) := by omega
      go_wp2
      go_ret
      exact ⟨by rw [HJ.out]; rfl, hbr⟩

theorem blockOf_any (e : Int × Int × Int × Int) (w : World) : Calls Try.prog 56 #[exV e] w fun r w' => r = .returned (.agg #[.int .i64 e.1, .int .i64 e.2.1, .int .i64 e.2.2.2]) ∧ Below w.heap.size w w' := by
  go_enter Try.func56, Try.ntmps56
  go_wp2
  exact bodyPost_ret (v := .agg #[.int .i64 e.1, .int .i64 e.2.1, .int .i64 e.2.2.2]) (by simp [results, Try.results56, go_sem]) rfl ⟨rfl, ((Below.refl _ _).alloc (Nat.le_refl _) _).alloc (by simp) _⟩

theorem noBk_eq (e : Int × Int × Int × Int) : noBk e = !(e.2.2.1 == (touchL (blockL e)).2.2.1) := by
  obtain ⟨a, b, c, d⟩ := e
  unfold noBk touchL blockL
  by_cases h : c = IntKind.i64.wrap (b + 1)
  · simp [h]
  · simp [h]

set_option maxHeartbeats 1600000 in
set_option maxRecDepth 100000 in
theorem noBk_any (e : Int × Int × Int × Int) (w : World) : Calls Try.prog 91 #[exV e] w fun r w' => r = .returned (.bool (noBk e)) ∧ Below w.heap.size w w' := by
  have hb0 := below_new w (.cells #[.int .i64 e.1, .int .i64 e.2.1, .int .i64 e.2.2.1, .int .i64 e.2.2.2] 58)
  have hbl : Blk (w.alloc (.cells #[.int .i64 e.1, .int .i64 e.2.1, .int .i64 e.2.2.1, .int .i64 e.2.2.2] 58)) w.heap.size 58 [.int .i64 e.1, .int .i64 e.2.1, .int .i64 e.2.2.1, .int .i64 e.2.2.2] := Blk.new w _ [.int .i64 e.1, .int .i64 e.2.1, .int .i64 e.2.2.1, .int .i64 e.2.2.2] _ rfl
  have hut := Try.underlying58
  have hsz : (Try.prog.info? 58).map (·.size) = some ([.int .i64 e.1, .int .i64 e.2.1, .int .i64 e.2.2.1, .int .i64 e.2.2.2] : List Value).length := infoExchange
  have hlt := hbl.lt
  have HNE := Lib.hid (noBk_eq e)
  go_enter Try.func91, Try.ntmps91
  go_wp2_with fail
  refine wp_region_held_drew (S := (fun w' => w'.rangeAt w.heap.size 0 [.int .i64 e.1, .int .i64 e.2.1, .int .i64 e.2.2.1, .int .i64 e.2.2.2] ∧ Below w.heap.size w w' ∧ w.heap.size < w'.heap.size)) (by kernel_rfl) (⟨hbl.range, hb0.drew, hlt⟩) (fun hHeld => ?_)
  refine wpAnyH_take (i := 0) rfl (by kernel_rfl) (by kernel_rfl) (by kernel_rfl) (fun _ _ _ h => h) (yieldsIf_load_mid (by rfl) _ _ rfl _ _ rfl _ _ (fun w hw => hw.1) hut rfl hsz) (by assumption) ?_
  try simp only [List.getElem_toArray, List.getElem_cons_zero, Act.put, List.setIfInBounds_toArray, List.set_cons_zero, List.set_cons_succ]
  refine wpAnyH_take (i := 1) rfl (by kernel_rfl) (by kernel_rfl) (by kernel_rfl) (fun _ _ _ h => h) (yieldsIf_load_mid (by rfl) _ _ rfl _ _ rfl _ _ (fun w hw => hw.1) hut rfl hsz) (by assumption) ?_
  try simp only [List.getElem_toArray, List.getElem_cons_zero, List.getElem_cons_succ, Act.put, List.setIfInBounds_toArray, List.set_cons_zero, List.set_cons_succ]
  refine wpAnyH_ready (rs := [2]) (by kernel_rfl) (by simp) ?_
  refine AllReadyH.cons rfl (fun K hK => ?_) AllReadyH.nil
  go_simp
  refine (blockOf_any e _).mono ?_
  rintro e w1 ⟨rfl, hb1⟩
  go_wp2_with fail
  refine hK.out _ _ (⟨range_below hHeld.1 hb1 hHeld.2.2, hHeld.2.1.trans (hb1.mono hHeld.2.1.size), Nat.lt_of_lt_of_le hHeld.2.2 hb1.size⟩) (fun hHeld => ?_)
  clear hK K
  try simp only [List.getElem_toArray, List.getElem_cons_zero, List.getElem_cons_succ, Act.put, List.setIfInBounds_toArray, List.set_cons_zero, List.set_cons_succ]
  refine wpAnyH_ready (rs := [3]) (by kernel_rfl) (by simp) ?_
  refine AllReadyH.cons rfl (fun K hK => ?_) AllReadyH.nil
  go_simp
  refine (touching_any (blockL e) _).mono ?_
  rintro e w2 ⟨rfl, hb2⟩
  go_wp2_with fail
  refine hK.out _ _ (⟨range_below hHeld.1 hb2 hHeld.2.2, hHeld.2.1.trans (hb2.mono hHeld.2.1.size), Nat.lt_of_lt_of_le hHeld.2.2 hb2.size⟩) (fun hHeld => ?_)
  clear hK K
  try simp only [List.getElem_toArray, List.getElem_cons_zero, List.getElem_cons_succ, Act.put, List.setIfInBounds_toArray, List.set_cons_zero, List.set_cons_succ]
  refine wpAnyH_take (i := 4) (v := .bool (noBk e)) rfl (by kernel_rfl) (by kernel_rfl) (by kernel_rfl) (fun _ _ _ h => h) (Or.inl ⟨by rfl, ?_⟩) (by assumption) ?_
  · intro w_ _
    go_simp
    by_cases h : e.2.2.1 = (touchL (blockL e)).2.2.1
    · have hN : noBk e = false := by rw [HNE.out]; simp [← h]
      rw [hN, if_pos (show e.1 = (touchL (blockL e)).1 from rfl), if_pos (show e.2.1 = (touchL (blockL e)).2.1 from rfl), if_pos h, if_pos (show e.2.2.2 = (touchL (blockL e)).2.2.2 from rfl)]
    · have hN : noBk e = true := by rw [HNE.out]; simp [h]
      rw [hN, if_pos (show e.1 = (touchL (blockL e)).1 from rfl), if_pos (show e.2.1 = (touchL (blockL e)).2.1 from rfl), if_neg h]
  try simp only [List.getElem_toArray, List.getElem_cons_zero, List.getElem_cons_succ, Act.put, List.setIfInBounds_toArray, List.set_cons_zero, List.set_cons_succ]
  refine wpAnyH_take (i := 5) (v := ?_) rfl (by kernel_rfl) (by kernel_rfl) (by kernel_rfl) (fun _ _ _ h => h) (Or.inl ⟨by rfl, ?_⟩) (by assumption) ?_
  rotate_left
  · intro w _; go_simp; with_reducible rfl
  try simp only [List.getElem_toArray, List.getElem_cons_zero, List.getElem_cons_succ, Act.put, List.setIfInBounds_toArray, List.set_cons_zero, List.set_cons_succ]
  refine wpAnyH_done (by kernel_rfl) ?_ _
  go_wp2
  go_ret
  exact ⟨rfl, hHeld.2.1⟩

set_option maxHeartbeats 4000000 in
set_option maxRecDepth 100000 in
theorem delFunc_any (F : FuncId) (v : Value) (L : List (Int × Int × Int × Int)) (pr : Int × Int × Int × Int → Bool) (B : Nat) (w : World) (hv : OwnC c4 w v L) (hl : L.length ≤ 1000) (hf : From B v) (hBw : B ≤ w.heap.size)
    (hC : ∀ (args : Array Value) (u : World), (callFunc F args).run Try.prog u = .ok (.enter F args) u)
    (hF : Hid (∀ (e : Int × Int × Int × Int) (W : World), Calls Try.prog F #[exV e] W fun r W' => r = .returned (.bool (pr e)) ∧ Below W.heap.size W W')) :
    Calls Try.prog 90 #[v, .func (Fn.func F) #[] #[]] w fun e w' => ∃ r, e = .returned r ∧ OwnC c4 w' r (L.filter fun e => !pr e) ∧ From B r ∧ Below B w w' := by
  have hv0 := hv
  obtain ⟨al, cl, rfl, hcap, hmx, hnil⟩ := hv.shape
  have hle := List.findIdx_le_length (xs := L) (p := pr)
  have hi : Hid (∀ (j : Nat) (e : Int × Int × Int × Int), j < L.findIdx pr → L[j]? = some e → pr e = false) := Lib.hid fun j e hj he => by
    have h := List.not_of_lt_findIdx hj
    obtain ⟨hjl, he⟩ := List.getElem?_eq_some_iff.1 he
    rw [he] at h
    simpa using h
  have hy : Hid (∀ e, L[L.findIdx pr]? = some e → pr e = true) := Lib.hid fun e he => by
    obtain ⟨hjl, he⟩ := List.getElem?_eq_some_iff.1 he
    rw [← he]
    exact List.findIdx_getElem (w := hjl)
  have hpre : Hid ((L.take (L.findIdx pr)).filter (fun e => !pr e) = L.take (L.findIdx pr)) := Lib.hid (List.filter_eq_self.2 fun e he => by
    obtain ⟨j, hj, e1⟩ := List.getElem_of_mem he
    rw [List.getElem_take] at e1
    rw [List.length_take] at hj
    rw [hi.out j e (by omega) (by rw [List.getElem?_eq_getElem (by omega), e1])]
    rfl)
  obtain ⟨ik, hik⟩ : ∃ k, L.findIdx pr = k := ⟨_, rfl⟩
  rw [hik] at hle hi hy hpre
  clear hik
  by_cases hall : ik = L.length
  · have HFI := Lib.hid (show L.filter (fun e => !pr e) = L by
      have h := hpre.out
      rw [hall, List.take_length] at h
      exact h)
    have ci := idxFuncX_any F (.slice al L.length cl) L pr ik (-1) w hv (by omega) hle hi hy (Lib.hid ⟨fun h => by omega, fun _ => rfl⟩) hC hF
    clear hall hi hy hpre hle
    go_enter Try.func90, Try.ntmps90
    go_wp2_with fail
    refine (ci).mono ?_
    rintro e w1 ⟨rfl, hb1⟩
    clear ci
    have hO := Own.same hv0 hb1
    clear hv hv0
    go_wp2
    go_ret
    exact ⟨_, rfl, by rw [HFI.out]; exact hO, hf, hb1.mono hBw⟩
  · have hikn : ik < L.length := by omega
    obtain ⟨g, off, ty, pre, post, rfl, hBl, hp, hfit⟩ := ownBlkX hv0 (by omega)
    obtain ⟨i0, hii, hz0, hz1, hz2⟩ := info_parts infoExchange3
    have hzv : ∀ u, (zeroValue 58).run Try.prog u = .ok (.agg #[.int .i64 0, .int .i64 0, .int .i64 0, .int .i64 0]) u := fun u => by simp [zeroValue, typeInfo, hii, hz0]
    have HZV := Lib.hid hzv
    have ci := idxFuncX_any F (.slice (some ⟨g, off, none⟩) L.length cl) L pr ik (ik : Int) w hv (by omega) hle hi hy (Lib.hid ⟨fun _ => rfl, fun h => by omega⟩) hC hF
    have HT0 := Lib.hid (show L.take ik = (L.take (ik + 1)).filter (fun e => !pr e) by
      rw [List.take_add_one, List.getElem?_eq_getElem hikn, List.filter_append, hpre.out]
      have := hy.out L[ik] (List.getElem?_eq_getElem hikn)
      simp [this])
    obtain ⟨n, hn⟩ : ∃ n, L.length = n := ⟨_, rfl⟩
    have HLN := Lib.hid hn
    have hgB : B ≤ g := hf g rfl
    have hgl := hBl.lt
    have hne : (((ik : Nat) : Int) == -1) = false := by simp
    subst hp
    have HFIT := Lib.hid hfit
    rw [hn] at ci hcap hl hikn ⊢
    have hnc : n ≤ cl := hcap
    clear hv hv0 hi hy hpre hle hall hn hii hz0 hz1 hz2 hzv hnil hfit hcap
    go_enter Try.func90, Try.ntmps90
    go_wp2_with fail
    refine (ci).mono ?_
    rintro e w1 ⟨rfl, hb1⟩
    clear ci
    have HB1 := Lib.hid (hBl.below hb1 hgl)
    have hBb1 := hb1.mono hBw
    have hfl : (fl c4.c L).length = n * 4 := by rw [fl_length c4, HLN.out]
    have HPL := Lib.hid (show (pre ++ fl c4.c L ++ post).length = pre.length + n * 4 + post.length by simp only [List.length_append, hfl])
    clear hBl hb1 hfl
    go_wp2
    go_loopw [5, 6, 7] (fun iv' jv _ wr => ∃ (i j : Nat) (K : List (Int × Int × Int × Int)), iv' = .int .i64 i ∧ jv = .int .i64 j ∧ i < j ∧ j ≤ n ∧ Hid (K.length = n) ∧ Hid (K.take i = (L.take j).filter (fun e => !pr e)) ∧ Hid (K.drop j = L.drop j) ∧ Hid (Blk wr g ty (pre ++ fl c4.c K ++ post)) ∧ Below B w wr) (fun _ jv _ _ => n - (intOf jv).toNat)
    case atStart => exact ⟨ik, ik + 1, L, rfl, by go_num, by omega, by omega, HLN, HT0, Lib.hid rfl, HB1, hBb1⟩
    case round =>
      obtain ⟨i, j, K, rfl, rfl, hij, hjn, hKn, hKt, hKd, hKb, hbr⟩ := hrel
      obtain ⟨wk, rfl⟩ : ∃ z, z = wr := ⟨_, rfl⟩
      clear HB1 hBb1 HT0
      have hKfl : (fl c4.c K).length = n * 4 := by rw [fl_length c4, hKn.out]
      have hKpl : (pre ++ fl c4.c K ++ post).length = pre.length + n * 4 + post.length := by simp only [List.length_append, hKfl]
      have hfit : pre.length + cl * 4 ≤ pre.length + n * 4 + post.length := by have := HFIT.out; rw [HPL.out] at this; exact this
      have HKPL := Lib.hid hKpl
      by_cases hlt : j < n
      · have hlt' : (j : Int) < (n : Int) := by omega
        have hjK : j < K.length := by rw [hKn.out]; exact hlt
        have hown : OwnC c4 wk (.slice (some ⟨g, pre.length, none⟩) K.length cl) K := ownOfX hKb.out rfl (fl_length c4 K) (by rw [hKn.out]; exact hnc) hmx (by rw [hKpl]; exact hfit)
        obtain ⟨b, off, he, _, hra⟩ := OwnC.rowAt hown hjK
        simp only [Option.some.injEq, Addr.mk.injEq, and_true] at he
        obtain ⟨rfl, rfl⟩ := he
        obtain ⟨e, hee⟩ : ∃ e, K[j] = e := ⟨_, rfl⟩
        have HLJ := Lib.hid (show L[j]? = some e by
          have h := congrArg (fun l => l[0]?) hKd.out
          simp only [List.getElem?_drop, Nat.add_zero] at h
          rw [← h, List.getElem?_eq_getElem hjK, hee])
        rw [hee] at hra
        have hra' : wk.rangeAt g (pre.length + j * 4) [.int .i64 e.1, .int .i64 e.2.1, .int .i64 e.2.2.1, .int .i64 e.2.2.2] := hra
        have hszs : (Try.prog.info? 58).map (·.size) = some ([.int .i64 e.1, .int .i64 e.2.1, .int .i64 e.2.2.1, .int .i64 e.2.2.2] : List Value).length := infoExchange
        have hzM : Blk (wk.alloc (.cells #[.int .i64 0, .int .i64 0, .int .i64 0, .int .i64 0] 58)) wk.heap.size 58 [.int .i64 0, .int .i64 0, .int .i64 0, .int .i64 0] := Blk.new wk _ [.int .i64 0, .int .i64 0, .int .i64 0, .int .i64 0] _ rfl
        have hgk := hKb.out.lt
        have hszk := hbr.size
        have hBk : B ≤ wk.heap.size := by omega
        clear hown hra hee hjK hKfl hKpl
        go_upto_region 8 with (first | (refine wpList_load_mid rfl 58 _ rfl g (pre.length + j * 4) rfl [.int .i64 e.1, .int .i64 e.2.1, .int .i64 e.2.2.1, .int .i64 e.2.2.2] _ hra' Try.underlying58 rfl hszs ?_) | (refine wpList_store_blk rfl 58 _ _ rfl wk.heap.size 0 [.int .i64 e.1, .int .i64 e.2.1, .int .i64 e.2.2.1, .int .i64 e.2.2.2] rfl rfl _ _ hzM (by simp) hszs (by intro u hu; simp at hu; rcases hu with rfl | rfl | rfl | rfl <;> rfl) ?_; intro w4 hM4 hg4))
        have hM4' : Blk w4 wk.heap.size 58 [.int .i64 e.1, .int .i64 e.2.1, .int .i64 e.2.2.1, .int .i64 e.2.2.2] := by simpa using hM4
        have hb4 : Below wk.heap.size wk w4 := (below_new wk _).grown hg4 (by simp) (by intro q hq; cases hq; exact Nat.le_refl _)
        have hB4 := hbr.trans (hb4.mono hBk)
        have hK4 := hKb.out.below hb4 hgk
        have hrM := hM4'.range
        have hl4 := hM4'.lt
        have hg4l := hK4.lt
        clear hM4 hg4 hzM hra' hb4 hKb hbr
        have cF := hF.out e w4
        cases hpe : pr e with
        | true =>
          rw [hpe] at cF
          have HT := Lib.hid (show K.take i = (L.take (j + 1)).filter (fun e => !pr e) by
            rw [List.take_add_one, HLJ.out, List.filter_append, ← hKt.out]
            simp [hpe])
          have HD := Lib.hid (show K.drop (j + 1) = L.drop (j + 1) by rw [← List.drop_drop, ← List.drop_drop, hKd.out])
          clear hpe hKt hKd
          go_wp2_with (first | (refine wpList_load_mid rfl 58 _ rfl wk.heap.size 0 rfl [.int .i64 e.1, .int .i64 e.2.1, .int .i64 e.2.2.1, .int .i64 e.2.2.2] _ hrM Try.underlying58 rfl hszs ?_))
          refine cF.mono ?_
          rintro e5 w5 ⟨rfl, hb5⟩
          have HK5 := Lib.hid (hK4.below hb5 hg4l)
          have hB5 := hB4.trans (hb5.mono (by have := hB4.size; omega))
          clear hK4 hB4 hb5 cF hM4' hrM
          go_wp2
          go_roundw
          case rel => exact ⟨i, j + 1, K, rfl, by go_num, by omega, by omega, hKn, HT, HD, HK5, hB5⟩
          case measure => simp [intOf] <;> omega
        | false =>
          rw [hpe] at cF
          have hiK : i < K.length := by rw [hKn.out]; omega
          have HKN := Lib.hid (show (K.set i e).length = n by rw [List.length_set]; exact hKn.out)
          have HT := Lib.hid (show (K.set i e).take (i + 1) = (L.take (j + 1)).filter (fun e => !pr e) by
            rw [set_take K i e hiK, List.take_add_one, HLJ.out, List.filter_append, ← hKt.out]
            simp [hpe])
          have HD := Lib.hid (show (K.set i e).drop (j + 1) = L.drop (j + 1) by rw [List.drop_set_of_lt (by omega), ← List.drop_drop, ← List.drop_drop, hKd.out])
          have HSET := Lib.hid (fl_setX pre post K i e hiK)
          have hfit4 : pre.length + i * 4 + ([.int .i64 e.1, .int .i64 e.2.1, .int .i64 e.2.2.1, .int .i64 e.2.2.2] : List Value).length ≤ (pre ++ fl c4.c K ++ post).length := by rw [HKPL.out]; simp only [List.length_cons, List.length_nil]; omega
          have HF4 := Lib.hid hfit4
          have hi' : (i : Int) < (n : Int) := by omega
          clear hpe hKt hKd hiK hfit4
          go_wp2_with (first | (refine wpList_load_mid rfl 58 _ rfl wk.heap.size 0 rfl [.int .i64 e.1, .int .i64 e.2.1, .int .i64 e.2.2.1, .int .i64 e.2.2.2] _ hrM Try.underlying58 rfl hszs ?_))
          refine cF.mono ?_
          rintro e5 w5 ⟨rfl, hb5⟩
          have hK5 := hK4.below hb5 hg4l
          have hB5 := hB4.trans (hb5.mono (by have := hB4.size; omega))
          have hrM5 := range_below hrM hb5 hl4
          clear hK4 hB4 hb5 cF hM4' hrM
          go_wp2_with (first | (refine wpList_load_mid rfl 58 _ rfl wk.heap.size 0 rfl [.int .i64 e.1, .int .i64 e.2.1, .int .i64 e.2.2.1, .int .i64 e.2.2.2] _ hrM5 Try.underlying58 rfl hszs ?_) | (refine wpList_store_blk rfl 58 _ _ rfl g (pre.length + i * 4) [.int .i64 e.1, .int .i64 e.2.1, .int .i64 e.2.2.1, .int .i64 e.2.2.2] rfl rfl _ _ hK5 HF4.out hszs (by intro u hu; simp at hu; rcases hu with rfl | rfl | rfl | rfl <;> rfl) ?_; intro w6 hK6 hg6))
          have HK6 := Lib.hid (show Blk w6 g ty (pre ++ fl c4.c (K.set i e) ++ post) by rw [← HSET.out]; exact hK6)
          have HB6 := Lib.hid (hB5.grown hg6 (by have := hB5.size; omega) (by intro q hq; cases hq; exact hgB))
          clear hK6 hg6 hK5 hB5 hrM5
          go_wp2
          go_roundw
          case rel => exact ⟨i + 1, j + 1, _, by go_num, by go_num, by omega, by omega, HKN, HT, HD, HK6, HB6.out⟩
          case measure => simp [intOf] <;> omega
      · obtain rfl : j = n := by omega
        have HFI := Lib.hid (show K.take i = L.filter (fun e => !pr e) by
          rw [hKt.out, ← HLN.out, List.take_length])
        obtain ⟨W2, hW2⟩ : ∃ W2, W2 = wk.setCells g (pre.length + i * 4) (List.replicate ((j - i) * 4) (iv 0)) := ⟨_, rfl⟩
        have hcl : ∀ ty', (Builtin.clear_ #[93] ty' #[.slice (some ⟨g, pre.length + i * 4, none⟩) (j - i) (cl - i)]).run Try.prog wk = .ok (.tuple #[]) W2 := fun ty' => by
          rw [hW2]
          exact run_clear4 wk _ _ ty' _ Try.underlying93 HZV.out rfl g (pre.length + i * 4) (j - i) _ (by omega) (fun t ht => by rw [hKb.out.cell, List.getElem?_eq_getElem (by rw [hKpl]; omega)]; rfl) (fun t ht => hKb.out.frozen _)
        have hKi : (K.take i).length = i := by rw [List.length_take, hKn.out]; omega
        have hB2 : Blk W2 g ty (pre ++ fl c4.c (K.take i) ++ (List.replicate ((j - i) * 4) (iv 0) ++ post)) := by
          have h := hKb.out.setCells (List.replicate ((j - i) * 4) (iv 0)) (pre.length + i * 4) (by rw [hKpl, List.length_replicate]; omega)
          rw [mid_take _ _ _ _ (by rw [hKfl]; omega), fl_take K i (by rw [hKn.out]; omega), List.length_replicate, show pre.length + i * 4 + (j - i) * 4 = pre.length + j * 4 by omega, mid_drop _ _ _ _ (by rw [hKfl]; exact Nat.le_refl _), ← hKfl, List.drop_length, List.nil_append] at h
          rw [hW2]
          simp only [List.append_assoc] at h ⊢
          exact h
        have hG2 : wk.grownBy W2 (some g) := by rw [hW2]; exact grownBy_setCells _ _ ⟨rfl, rfl, rfl, Nat.le_refl _, fun _ _ _ => rfl⟩
        have HR := Lib.hid (show OwnC c4 W2 (.slice (some ⟨g, pre.length, none⟩) i cl) (L.filter fun e => !pr e) by
          rw [← HFI.out]
          have h := ownOfX (cap := cl) hB2 rfl (by rw [fl_length c4]) (by rw [hKi]; omega) hmx (by simp only [List.length_append, fl_length c4, hKi, List.length_replicate]; omega)
          rw [hKi] at h
          show Own W2 4 _ (K.take i).length _
          rw [hKi]
          exact h)
        have HB := Lib.hid (hbr.grown hG2 (by have := hbr.size; omega) (by intro q hq; cases hq; exact hgB))
        have hge : ¬ ((j : Int) < (j : Int)) := by omega
        have hi1 : (i : Int) ≤ (j : Int) := by omega
        have hi2 : (i : Int) ≤ (cl : Int) := by omega
        have hi3 : (j : Int) ≤ (cl : Int) := by omega
        have HW := Lib.hid hW2
        clear hB2 hG2 hW2 hKb hKt hKd hbr hKfl hKpl hKi hfit
        go_wp2
        go_ret
        exact ⟨_, rfl, HR.out, fun q hq => by cases hq; exact hgB, HB.out⟩

theorem blocksFor_any (m : Nat) (w : World) (h1 : 1 ≤ m) (h6 : m ≤ 6) :
    Calls Try.prog 55 #[.int .i64 m] w fun e w' => ∃ r, e = .returned r ∧ OwnC c4 w' r (tchAll m) ∧ From w.heap.size r ∧ Below w.heap.size w w' := by
  have HK := Lib.hid (keep_bk h1 h6)
  have hL := (exAll_ok h1 h6).le
  go_enter Try.func55, Try.ntmps55
  go_wp2_with fail
  refine (exchangesFor_any m _ h1 (by omega)).mono ?_
  rintro e w1 ⟨r1, rfl, ho1, hf1, hb1⟩
  have cd := delFunc_any 91 r1 (exAll m) noBk w.heap.size w1 ho1 hL hf1 hb1.size (fun args u => by go_simp) (Lib.hid fun e W => noBk_any e W)
  rw [HK.out] at cd
  clear ho1 hf1
  go_wp2_with fail
  refine (cd).mono ?_
  rintro e w2 ⟨r2, rfl, ho2, hf2, hb2⟩
  have HB := Lib.hid (hb1.trans hb2)
  clear hb1 hb2
  go_wp2
  go_ret
  exact ⟨_, rfl, ho2, hf2, HB.out⟩

theorem bkKind : Kind 55 tchAll := fun m u h1 h6 => blocksFor_any m u h1 h6

theorem CountByBlocks_any (n : Int) (w : World) :
    Calls Try.prog 25 #[.int .i64 n] w fun e w' => ∃ r, e = .returned (.tuple #[r, .bool (okFew n)]) ∧ OwnI w' r (mCountByBlocks n) ∧ From w.heap.size r ∧ Below w.heap.size w w' := by
  have c := countsBy_any 55 tchAll n w (fun args u => by go_simp) (Lib.hid bkKind) (Lib.hid fun m h1 h6 => tchAll_ok h1 h6)
  have HM := Lib.hid (show mCountX tchAll n = mCountByBlocks n from rfl)
  rw [HM.out] at c
  go_enter Try.func25, Try.ntmps25
  go_wp2_with fail
  refine (c).mono ?_
  rintro e w1 ⟨r, rfl, ho, hf, hb⟩
  go_wp2
  go_ret2
  exact ⟨_, rfl, ho, hf, hb⟩

set_option maxRecDepth 100000 in
set_option maxHeartbeats 1600000 in
theorem LeastBlocks_any (v : Value) (xs : List Int) (w : World) (hv : OwnI w v xs) (hn : xs.length ≤ 1048576) :
    Calls Try.prog 19 #[v] w fun e w' => ∃ r, e = .returned (.tuple #[r, .bool (sfewB xs)]) ∧ OwnC c3 w' r (mLeastBlocks xs) ∧ From w.heap.size r ∧ Below w.heap.size w w' := by
  have cl := leastList_any 55 tchAll v xs w hv hn (fun args u => by go_simp) (Lib.hid bkKind) (Lib.hid fun m h1 h6 => tchAll_ok h1 h6)
  obtain ⟨ad, cap, rfl, _, _, _⟩ := hv.shape
  have hsl : (mLeastX tchAll xs).length ≤ 5 := by
    rw [mLeastX_length]
    split
    · rename_i h; exact xfar_le (fun _ a b => tchAll_ok a b) h
    · omega
  have HBE := Lib.hid (show mLeastBlocks xs = (mLeastX tchAll xs).map blockL from rfl)
  obtain ⟨SL, hSL⟩ : ∃ SL, mLeastX tchAll xs = SL := ⟨_, rfl⟩
  rw [hSL] at cl hsl HBE
  obtain ⟨BL, hBL⟩ : ∃ BL, mLeastBlocks xs = BL := ⟨_, rfl⟩
  rw [hBL] at HBE ⊢
  obtain ⟨n, hnn⟩ : ∃ n, SL.length = n := ⟨_, rfl⟩
  have HSN := Lib.hid hnn
  have HBN := Lib.hid (show BL.length = n by rw [HBE.out, List.length_map]; exact hnn)
  rw [hnn] at hsl
  obtain ⟨ok, hok⟩ : ∃ b, sfewB xs = b := ⟨_, rfl⟩
  rw [hok] at cl ⊢
  obtain ⟨i0, hi, hz0, hz1, hz2⟩ := info_parts infoBlock3
  have HI := Lib.hid hi
  have HZ0 := Lib.hid hz0
  have HZ1 := Lib.hid hz1
  have HZ2 := Lib.hid hz2
  clear hi hz0 hz1 hz2 hSL hBL hnn hok hv
  go_enter Try.func19, Try.ntmps19
  go_wp2_with fail
  refine (cl).mono ?_
  rintro e w1 ⟨r1, rfl, ho1, hf1, hb1⟩
  clear cl
  obtain ⟨a1, c1, rfl, _, _, _⟩ := ho1.shape
  have hz1 := hb1.size
  have hO1 : Own w1 4 (.slice a1 SL.length c1) SL.length (fl c4.c SL) := ho1
  have HO1 := Lib.hid ho1
  rw [HSN.out] at HO1 ⊢
  clear ho1 hf1 hO1
  go_wp2_with (at_make; refine wpList_make_full _ rfl _ _ 28 rfl w1.heap.size 53 i0 _ 3 Try.underlying28 HI.out HZ0.out HZ1.out _ _ _ _ n rfl rfl rfl rfl ?b1 ?b2 ?b3 ?_)
  case b1 => rw [HZ2.out]; omega
  case b2 => unfold maxLen; omega
  case b3 => exact Nat.le_refl _
  intro w3 hown hgr
  have hb3 := (Blk.of_rowN hown).1
  have hB3 : Below w1.heap.size w1 w3 := (Below.refl _ _).grown hgr (Nat.le_refl _) (by intro k hk; cases hk)
  have hz3 : Blk w3 w1.heap.size 53 (fl c3.c (BL.take 0) ++ List.replicate ((n - 0) * 3) (iv 0)) := by
    have e := madeCells_zero 3 (n * 3) (by omega)
    rw [List.take_zero, Nat.sub_zero]
    rw [show (#[Value.int .i64 0, Value.int .i64 0, Value.int .i64 0] : Array Value) = (List.replicate 3 (iv 0)).toArray from rfl, e] at hb3
    exact hb3
  clear hb3 hown hgr
  obtain ⟨gM, hgM⟩ : ∃ g, w1.heap.size = g := ⟨_, rfl⟩
  have HGM := Lib.hid hgM
  rw [hgM] at hz3 hB3 ⊢
  have hwg : w.heap.size ≤ gM := by omega
  clear hgM
  go_wp2
  go_loopw [7, 8, 19] (fun _ _ iv' wr => ∃ k : Nat, k ≤ n ∧ iv' = .int .i64 k ∧ Blk wr gM 53 (fl c3.c (BL.take k) ++ List.replicate ((n - k) * 3) (iv 0)) ∧ Below gM w1 wr) (fun _ _ iv' _ => n - (intOf iv').toNat)
  case atStart => exact ⟨0, by omega, by go_num, hz3, hB3⟩
  case round =>
    obtain ⟨k, hk, rfl, hbl, hbr⟩ := hrel
    obtain ⟨wk, rfl⟩ : ∃ z, z = wr := ⟨_, rfl⟩
    clear hz3 hB3
    by_cases hlt : k < n
    · have hlt' : (k : Int) < (n : Int) := by omega
      have hkS : k < SL.length := by rw [HSN.out]; exact hlt
      have hkB : k < BL.length := by rw [HBN.out]; exact hlt
      have hor : OwnC c4 wk (.slice a1 SL.length c1) SL := by rw [HSN.out]; exact Own.below HO1.out hbr (by have := HGM.out; omega)
      obtain ⟨b, off, rfl, hbl0, hra⟩ := OwnC.rowAt hor hkS
      obtain ⟨p, hp⟩ : ∃ p, SL[k] = p := ⟨_, rfl⟩
      rw [hp] at hra
      have hra' : wk.rangeAt b (off + k * 4) [.int .i64 p.1, .int .i64 p.2.1, .int .i64 p.2.2.1, .int .i64 p.2.2.2] := hra
      have hsz2 : (Try.prog.info? 58).map (·.size) = some ([.int .i64 p.1, .int .i64 p.2.1, .int .i64 p.2.2.1, .int .i64 p.2.2.2] : List Value).length := infoExchange
      have hsz3 : (Try.prog.info? 53).map (·.size) = some ([.int .i64 p.1, .int .i64 p.2.1, .int .i64 p.2.2.2] : List Value).length := infoBlock
      have HSTEP := Lib.hid (fl_step c3 BL k hkB)
      have HGE := Lib.hid (show c3.c BL[k] = [.int .i64 p.1, .int .i64 p.2.1, .int .i64 p.2.2.2] by
        have e : BL[k] = blockL p := by simp only [HBE.out, List.getElem_map, hp]
        rw [e]; rfl)
      have HFIT := Lib.hid (show k * 3 + ([.int .i64 p.1, .int .i64 p.2.1, .int .i64 p.2.2.2] : List Value).length ≤ (fl c3.c (BL.take k) ++ List.replicate ((n - k) * 3) (iv 0)).length by
        have := HBN.out
        rw [List.length_append, fl_length c3, List.length_take, List.length_replicate]
        simp only [List.length_cons, List.length_nil]
        omega)
      have hzM : Blk (wk.alloc (.cells #[.int .i64 0, .int .i64 0, .int .i64 0, .int .i64 0] 58)) wk.heap.size 58 [.int .i64 0, .int .i64 0, .int .i64 0, .int .i64 0] := Blk.new wk _ [.int .i64 0, .int .i64 0, .int .i64 0, .int .i64 0] _ rfl
      have hgk := hbl.lt
      rw [HBN.out] at HSTEP
      clear hra hp hkS hor
      go_upto_region 6 with (first | (refine wpList_load_mid rfl 58 _ rfl b (off + k * 4) rfl [.int .i64 p.1, .int .i64 p.2.1, .int .i64 p.2.2.1, .int .i64 p.2.2.2] _ hra' Try.underlying58 rfl hsz2 ?_) | (refine wpList_store_blk rfl 58 _ _ rfl wk.heap.size 0 [.int .i64 p.1, .int .i64 p.2.1, .int .i64 p.2.2.1, .int .i64 p.2.2.2] rfl rfl _ _ hzM (by simp) hsz2 (by intro u hu; simp at hu; rcases hu with rfl | rfl | rfl | rfl <;> rfl) ?_; intro w4 hM4 hg4))
      have hM4' : Blk w4 wk.heap.size 58 [.int .i64 p.1, .int .i64 p.2.1, .int .i64 p.2.2.1, .int .i64 p.2.2.2] := by simpa using hM4
      have hrM := hM4'.range
      have hb4 : Below wk.heap.size wk w4 := (below_new wk _).grown hg4 (by simp) (by intro q hq; cases hq; exact Nat.le_refl _)
      have hB4 := hbr.trans (hb4.mono (by omega))
      have hbl4 := hbl.below hb4 hgk
      have hg4l := hbl4.lt
      clear hM4 hM4' hg4 hzM hra' hb4 hbl hbr
      go_wp2_with (first | (refine wpList_load_mid rfl 58 _ rfl wk.heap.size 0 rfl [.int .i64 p.1, .int .i64 p.2.1, .int .i64 p.2.2.1, .int .i64 p.2.2.2] _ hrM Try.underlying58 rfl hsz2 ?_))
      refine (blockOf_any p w4).mono ?_
      rintro e5 w5 ⟨rfl, hb5⟩
      have hbl5 := hbl4.below hb5 hg4l
      have hB5 := hB4.trans (hb5.mono (by omega))
      have hg5l := hbl5.lt
      clear hbl4 hB4 hb5 hrM
      go_wp2_with (first | (refine wpList_store_blk rfl _ _ _ rfl gM (k * 3) [.int .i64 p.1, .int .i64 p.2.1, .int .i64 p.2.2.2] (by first | rfl | simp) rfl _ _ hbl5 HFIT.out hsz3 (by intro v hv; simp at hv; rcases hv with rfl | rfl | rfl <;> rfl) ?_; intro w6 hbl6 hgr6))
      have HB6 := Lib.hid (show Blk w6 gM 53 (fl c3.c (BL.take (k + 1)) ++ List.replicate ((n - (k + 1)) * 3) (iv 0)) by
        rw [← HSTEP.out, HGE.out]; exact hbl6)
      have HBB6 := Lib.hid (hB5.grown hgr6 (by omega) (by intro j hj; cases hj; exact Nat.le_refl _))
      clear hbl6 hgr6 hbl5 hB5
      go_wp2
      go_roundw
      case rel => exact ⟨k + 1, by omega, by go_num, HB6.out, HBB6.out⟩
      case measure => simp [intOf] <;> omega
    · obtain rfl : k = n := by omega
      have hge : ¬ ((k : Int) < (k : Int)) := by omega
      have HO := Lib.hid (show OwnC c3 wk (.slice (some ⟨gM, 0, none⟩) k k) BL by
        have h := hbl
        rw [← HBN.out, List.take_length, Nat.sub_self, Nat.zero_mul, List.replicate_zero, List.append_nil] at h
        exact OwnC.of_blk h HBN.out.symm (by unfold maxLen; omega))
      have HBB := Lib.hid (hb1.trans (hbr.mono hwg))
      clear hbl
      go_wp2
      go_ret2
      exact ⟨_, rfl, HO.out, From.at _ _ _ _ _ hwg, HBB.out⟩

theorem BlockDistance_any (v : Value) (xs : List Int) (w : World) (hv : OwnI w v xs) (hn : xs.length ≤ 1048576) :
    Calls Try.prog 16 #[v] w fun e w' => e = .returned (.tuple #[.int .i64 (mBlockDistance xs), .bool (sfewB xs)]) ∧ Below w.heap.size w w' := by
  have c := LeastBlocks_any v xs w hv hn
  have HD := Lib.hid (show (((mLeastBlocks xs).length : Nat) : Int) = mBlockDistance xs by
    unfold mLeastBlocks mBlockDistance
    rw [List.length_map, mLeastX_length]
    split <;> rfl)
  obtain ⟨ad, cap, rfl, _, _, _⟩ := hv.shape
  go_enter Try.func16, Try.ntmps16
  go_wp2_with fail
  refine (c).mono ?_
  rintro e w1 ⟨r, rfl, ho, hf, hb⟩
  obtain ⟨a1, c1, rfl, _, _, _⟩ := ho.shape
  clear ho hf c
  go_wp2
  go_ret2
  exact ⟨by rw [← HD.out]; rfl, hb⟩

end Go.Proofs.Ytajdlioojibmdaa
