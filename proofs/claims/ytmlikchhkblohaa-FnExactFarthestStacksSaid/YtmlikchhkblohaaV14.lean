import Derived.Test.YtmlikchhkblohaaV3
import Derived.Test.YtmlikchhkblohaaV4
import Derived.Test.YtmlikchhkblohaaQ3
namespace Go.Proofs.Ytmlikchhkblohaa
open Go Go.RowKit Go.Pan

set_option maxHeartbeats 1600000 in
set_option maxRecDepth 100000 in
theorem sgAll_any (n : Nat) (w : World) (h1 : 1 ≤ n) (h9 : n ≤ 9) :
    Calls Try.prog 162 #[.int .i64 n] w fun e w' => ∃ r, e = .returned r ∧ OwnC c2 w' r (segsAll n) ∧ From w.heap.size r ∧ Below w.heap.size w w' := by
  obtain ⟨i0, hi, hz0, hz1, hz2⟩ := info_parts infoSegment3
  have HI := Lib.hid hi
  have HZ0 := Lib.hid hz0
  have HZ1 := Lib.hid hz1
  clear hi hz0 hz1 hz2
  go_enter Try.func162, Try.ntmps162
  go_wp2
  go_loopw [3, 4] (fun o i wr => ∃ k : Nat, k ≤ n ∧ i = .int .i64 ((k : Int) + 1) ∧ OwnC c2 wr o (segsTo n k) ∧ From w.heap.size o ∧ Below w.heap.size w wr) (fun _ i _ => n + 1 - (intOf i).toNat)
  case atStart => exact ⟨0, by omega, by go_num, OwnC.nil _, From.nil _ _ _, Below.refl _ _⟩
  case round =>
    obtain ⟨k, hk, rfl, ho, hf, hbr⟩ := hrel
    by_cases hlt : k < n
    · have hlt' : (k : Int) + 1 ≤ n := by omega
      have HO := Lib.hid (show OwnC c2 wr u3 (segsAt n k 0) by rw [segsAt_zero]; exact ho)
      clear ho
      go_wp2
      obtain ⟨wo, hwo⟩ : ∃ x, wr = x := ⟨_, rfl⟩
      rw [hwo] at HO hbr ⊢
      clear hwo
      go_loopw [3, 5] (fun o i wr => ∃ j : Nat, k + 1 + j ≤ n ∧ i = .int .i64 ((k : Int) + 2 + j) ∧ OwnC c2 wr o (segsAt n k j) ∧ From w.heap.size o ∧ Below w.heap.size w wr) (fun _ i _ => n + 2 - (intOf i).toNat)
      case atStart => exact ⟨0, by omega, by go_num, HO.out, hf, hbr⟩
      case round =>
        obtain ⟨j, hj, rfl, hoi, hfi, hbi⟩ := hrel
        clear HO hf hbr
        by_cases hjl : k + 1 + j < n
        · have hle : (k : Int) + 2 + j ≤ n := by omega
          have hlen : (segsAt n k j).length ≤ 1048576 := by
            have h3 := segsTo_le n k
            have h4 : n * k ≤ 9 * 9 := Nat.mul_le_mul h9 (by omega)
            unfold segsAt
            rw [List.length_append, segsUp_length]; omega
          have HS := Lib.hid (segsAt_succ n k j)
          have hsi := hbi.size
          have hba := hbi.alloc hsi (.cells #[.int .i64 ((k : Int) + 1), .int .i64 ((k : Int) + 2 + j)] 62)
          have hsrc := Src.pair (p := ((k : Int) + 1, (k : Int) + 2 + j)) (Blk.new wr 62 [iv ((k : Int) + 1), iv ((k : Int) + 2 + j)] _ rfl)
          have hoa := hoi.alloc (.cells #[.int .i64 ((k : Int) + 1), .int .i64 ((k : Int) + 2 + j)] 62)
          clear hoi hbi
          go_wp2_with (first | (refine wpList_build_pair Try.underlying54 HI.out HZ0.out HZ1.out rfl _ rfl (.int .i64 ((k : Int) + 1)) (.int .i64 ((k : Int) + 2 + j)) rfl ?_) | (at_builtin; refine wpList_appC segSl (by omega) (by omega) rfl _ _ rfl _ (segsAt n k j) rfl hoa w.heap.size hfi (some ⟨wr.heap.size, 0, none⟩) 1 1 [((k : Int) + 1, (k : Int) + 2 + j)] rfl rfl hsrc w hba (by simp; omega) hlen (by simp) ?_; intro v7 w7 ho7 hf7 hb7 hg7))
          rw [← HS.out] at ho7
          go_roundw
          case rel => exact ⟨j + 1, by omega, by go_num, ho7, hf7, hb7⟩
          case measure => simp [intOf] <;> omega
        · obtain rfl : j = n - (k + 1) := by omega
          have hgt : (n : Int) < (k : Int) + 2 + ((n - (k + 1) : Nat) : Int) := by omega
          have HO2 := Lib.hid (show OwnC c2 wr u3 (segsTo n (k + 1)) by rw [← segsAt_end]; exact hoi)
          clear hoi
          go_wp2
          go_roundw
          case rel => exact ⟨k + 1, by omega, by go_num, HO2.out, hfi, hbi⟩
          case measure => simp [intOf] <;> omega
    · obtain rfl : k = n := by omega
      have hge : (k : Int) < (k : Int) + 1 := by omega
      have HO2 := Lib.hid (show OwnC c2 wr u3 (segsAll k) from ho)
      clear ho
      go_wp2
      go_ret
      exact ⟨_, rfl, HO2.out, hf, hbr⟩

set_option maxHeartbeats 4000000 in
set_option maxRecDepth 100000 in
theorem sgSelection_any (v : Value) (xs : List Int) (w : World) (hv : OwnI w v xs) (hg : Hid (Go.Pan.Good xs)) :
    Calls Try.prog 113 #[v] w fun e w' => ∃ r, e = .returned r ∧ OwnC c2 w' r (selL xs) ∧ From w.heap.size r ∧ Below w.heap.size w w' := by
  obtain ⟨i0, hi, hz0, hz1, hz2⟩ := info_parts infoSegment3
  have HI := Lib.hid hi
  have HZ0 := Lib.hid hz0
  have HZ1 := Lib.hid hz1
  have hl9 := hg.out.le9
  have hl1 := hg.out.1
  have hsv : OwnI w v (selTo xs 0).xs := hv
  clear hi hz0 hz1 hz2 hv
  go_enter Try.func113, Try.ntmps113
  go_wp2
  go_loopw [0, 3, 4] (fun s o i wr => ∃ k : Nat, k + 1 ≤ xs.length ∧ i = .int .i64 ((k : Int) + 1) ∧ OwnI wr s (selTo xs k).xs ∧ OwnC c2 wr o (selTo xs k).l ∧ From w.heap.size o ∧ Below w.heap.size w wr) (fun _ _ i _ => xs.length + 1 - (intOf i).toNat)
  case atStart => exact ⟨0, by omega, by go_num, hsv, OwnC.nil _, From.nil _ _ _, Below.refl _ _⟩
  case round =>
    obtain ⟨k, hk, rfl, hs, ho, hf, hbr⟩ := hrel
    clear hsv
    have hinv := selInv hg.out k (by omega)
    have hsl := hinv.len
    obtain ⟨a0, c0, rfl, hc0, _, _⟩ := hs.shape
    have hsn : (selTo xs k).xs.length ≤ 1048576 := by omega
    have HSN := Lib.hid (show ((selTo xs k).xs.length : Int) = (xs.length : Int) by rw [hsl])
    have HSL := Lib.hid hsl
    have hol : (selTo xs k).l.length ≤ 1048576 := by have := selTo_len xs k; omega
    by_cases hlt : k + 1 < xs.length
    · have hlt' : (k : Int) + 1 < (selTo xs k).xs.length := by omega
      have hlr := hbr.size
      by_cases he : placeL (selTo xs k).xs ((k : Int) + 1) = (k : Int) + 1
      · have HS := Lib.hid (show selTo xs (k + 1) = selTo xs k by rw [selTo, selStep, if_pos he])
        have hq : (placeL (selTo xs k).xs ((k : Int) + 1) != (k : Int) + 1) = false := by simp [he]
        obtain ⟨Y, hY⟩ : ∃ Y, (selTo xs k).xs = Y := ⟨_, rfl⟩
        obtain ⟨Z, hZ⟩ : ∃ Z, (selTo xs k).l = Z := ⟨_, rfl⟩
        have HY := Lib.hid hY
        have HZ := Lib.hid hZ
        rw [hY] at hs hsn hq hlt' hc0 ⊢
        rw [hZ] at ho
        have cp := stPlace_any _ Y ((k : Int) + 1) wr hs hsn
        obtain ⟨pl, hpl⟩ : ∃ pl, placeL Y ((k : Int) + 1) = pl := ⟨_, rfl⟩
        rw [hpl] at cp hq
        clear he hinv hsl hY hZ hpl
        go_wp2_with fail
        refine cp.mono ?_
        rintro e w2 ⟨rfl, hb2⟩
        have hs2 := hs.same hb2
        have ho2 := ho.same hb2
        have hB2 := hbr.trans (hb2.mono hlr)
        clear hs ho hbr hb2 cp
        go_wp2
        go_roundw
        case rel => exact ⟨k + 1, by omega, by go_num, by rw [HS.out, HY.out]; exact hs2, by rw [HS.out, HZ.out]; exact ho2, hf, hB2⟩
        case measure => simp [intOf] <;> omega
      · have HB := Lib.hid (hinv.seg (by omega) he)
        have HSx := Lib.hid (show (selTo xs (k + 1)).xs = segT (selTo xs k).xs ((k : Int) + 1, placeL (selTo xs k).xs ((k : Int) + 1)) by rw [selTo, selStep, if_neg he])
        have HSl := Lib.hid (show (selTo xs (k + 1)).l = (selTo xs k).l ++ [((k : Int) + 1, placeL (selTo xs k).xs ((k : Int) + 1))] by rw [selTo, selStep, if_neg he])
        have hq : (placeL (selTo xs k).xs ((k : Int) + 1) != (k : Int) + 1) = true := by simp [he]
        obtain ⟨Y, hY⟩ : ∃ Y, (selTo xs k).xs = Y := ⟨_, rfl⟩
        obtain ⟨Z, hZ⟩ : ∃ Z, (selTo xs k).l = Z := ⟨_, rfl⟩
        rw [hY] at hs hsn hq hlt' HB HSx HSl HSN hc0 ⊢
        rw [hZ] at ho HSl hol
        have cp := stPlace_any _ Y ((k : Int) + 1) wr hs hsn
        obtain ⟨pl, hpl⟩ : ∃ pl, placeL Y ((k : Int) + 1) = pl := ⟨_, rfl⟩
        rw [hpl] at cp hq HB HSx HSl
        clear he hinv hsl hY hZ hpl
        go_wp2_with fail
        refine cp.mono ?_
        rintro e w2 ⟨rfl, hb2⟩
        have hs2 := hs.same hb2
        have ho2 := ho.same hb2
        have hB2 := hbr.trans (hb2.mono hlr)
        have hz2 := hB2.size
        have hoa := ho2.alloc (.cells #[.int .i64 ((k : Int) + 1), .int .i64 pl] 62)
        have hsa := hs2.alloc (.cells #[.int .i64 ((k : Int) + 1), .int .i64 pl] 62)
        have hBa := hB2.alloc hz2 (.cells #[.int .i64 ((k : Int) + 1), .int .i64 pl] 62)
        have hz : Blk (w2.alloc (.cells [.int .i64 ((k : Int) + 1), .int .i64 pl].toArray 62)) w2.heap.size 62 [.int .i64 ((k : Int) + 1), .int .i64 pl] := Blk.new w2 _ _ _ rfl
        clear hs ho hbr hb2 cp hs2 ho2 hB2
        go_wp2_with fail
        refine (sgTurn_any _ Y (xs.length : Int) ((k : Int) + 1, pl) _ hsa hsn HB HSN).mono ?_
        rintro e w3 ⟨r3, rfl, ho3, hf3, hb3⟩
        have hz3 := hz.below hb3 (by simp)
        have k0 : w3.cell? ⟨w2.heap.size, 0, none⟩ = some (.int .i64 ((k : Int) + 1)) := hz3.cell 0
        have k1 : w3.cell? ⟨w2.heap.size, 1, none⟩ = some (.int .i64 pl) := hz3.cell 1
        have hou3 := hoa.same hb3
        have hB3 := hBa.trans (hb3.mono hBa.size)
        have hsz3 := hB3.size
        have HAP := Lib.hid (show ∀ g, r3.ownBlock = some g → Value.ownBlock u3 ≠ some g from fun g hg e => by
          have h1 := hf3 g hg
          have h2 := hoa.lt g e
          omega)
        have hou4 := hou3.alloc (.cells #[.int .i64 ((k : Int) + 1), .int .i64 pl] 62)
        have hB4 := hB3.alloc hsz3 (.cells #[.int .i64 ((k : Int) + 1), .int .i64 pl] 62)
        have hsrc := Src.pair (p := ((k : Int) + 1, pl)) (Blk.new w3 62 [iv ((k : Int) + 1), iv pl] _ rfl)
        have HR3 := Lib.hid (Own.alloc ho3 (.cells #[.int .i64 ((k : Int) + 1), .int .i64 pl] 62))
        clear hoa hsa hBa hz hz3 hou3 hB3 hb3 ho3 hf3
        go_wp2_with (first | (refine wpList_build_pair Try.underlying54 HI.out HZ0.out HZ1.out rfl _ rfl (.int .i64 ((k : Int) + 1)) (.int .i64 pl) rfl ?_) | (at_builtin; refine wpList_appC segSl (by omega) (by omega) rfl _ _ rfl u3 Z rfl hou4 w.heap.size hf (some ⟨w3.heap.size, 0, none⟩) 1 1 [((k : Int) + 1, pl)] rfl rfl hsrc w hB4 (by simp; omega) hol (by simp) ?_; intro v7 w7 ho7 hf7 hb7 hg7))
        rw [← HSl.out] at ho7
        have hr7 : OwnI w7 r3 (selTo xs (k + 1)).xs := by rw [HSx.out]; exact Own.grown HR3.out hg7 HAP.out
        clear hg7
        go_roundw
        case rel => exact ⟨k + 1, by omega, by go_num, hr7, ho7, hf7, hb7⟩
        case measure => simp [intOf] <;> omega
    · have hge : ((selTo xs k).xs.length : Int) ≤ (k : Int) + 1 := by omega
      have HO := Lib.hid (show OwnC c2 wr u3 (selL xs) by unfold selL; rw [show xs.length - 1 = k by omega]; exact ho)
      clear ho hinv hsl hs
      go_wp2
      go_ret
      exact ⟨_, rfl, HO.out, hf, hbr⟩

end Go.Proofs.Ytmlikchhkblohaa

namespace Go.Pan
/-- the number of a stack -/
def codeL (xs : List Int) : Int := xs.foldl (fun n x => 7 * n + x) 0
theorem codeL_snoc (xs : List Int) (x : Int) : codeL (xs ++ [x]) = 7 * codeL xs + x := by simp [codeL, List.foldl_append]
theorem codeF_bd : ∀ (xs : List Int) (n : Int), 0 ≤ n → (∀ x ∈ xs, 1 ≤ x ∧ x ≤ 6) → 0 ≤ xs.foldl (fun n x => 7 * n + x) n ∧ xs.foldl (fun n x => 7 * n + x) n + 1 ≤ 7 ^ xs.length * (n + 1)
  | [], n, h, _ => by simp; omega
  | x :: xs, n, h, hx => by
    have h0 := hx x (List.mem_cons_self ..)
    have h1 := codeF_bd xs (7 * n + x) (by omega) (fun y hy => hx y (List.mem_cons_of_mem _ hy))
    rw [List.foldl_cons, List.length_cons, Int.pow_succ, Int.mul_assoc]
    have h2 : (7 : Int) ^ xs.length * (7 * n + x + 1) ≤ 7 ^ xs.length * (7 * (n + 1)) := Int.mul_le_mul_of_nonneg_left (by omega) (Int.pow_nonneg (by omega))
    exact ⟨h1.1, by omega⟩
theorem codeL_bd {xs : List Int} (h6 : xs.length ≤ 6) (h : ∀ x ∈ xs, 1 ≤ x ∧ x ≤ 6) : 0 ≤ codeL xs ∧ codeL xs ≤ 117648 := by
  have h1 := codeF_bd xs 0 (by omega) h
  have h2 : (7 : Int) ^ xs.length ≤ 7 ^ 6 := by
    have : xs.length = 0 ∨ xs.length = 1 ∨ xs.length = 2 ∨ xs.length = 3 ∨ xs.length = 4 ∨ xs.length = 5 ∨ xs.length = 6 := by omega
    rcases this with e | e | e | e | e | e | e <;> rw [e] <;> decide
  unfold codeL
  omega
theorem codeF_inj : ∀ (xs ys : List Int) (n m : Int), xs.length = ys.length → (∀ x ∈ xs, 1 ≤ x ∧ x ≤ 6) → (∀ x ∈ ys, 1 ≤ x ∧ x ≤ 6) → xs.foldl (fun n x => 7 * n + x) n = ys.foldl (fun n x => 7 * n + x) m → n = m ∧ xs = ys
  | [], [], n, m, _, _, _, h => ⟨h, rfl⟩
  | [], _ :: _, _, _, hl, _, _, _ => by simp at hl
  | _ :: _, [], _, _, hl, _, _, _ => by simp at hl
  | x :: xs, y :: ys, n, m, hl, hx, hy, h => by
    have h0 := hx x (List.mem_cons_self ..)
    have h1 := hy y (List.mem_cons_self ..)
    rw [List.foldl_cons, List.foldl_cons] at h
    obtain ⟨e1, e2⟩ := codeF_inj xs ys _ _ (by simpa using hl) (fun z hz => hx z (List.mem_cons_of_mem _ hz)) (fun z hz => hy z (List.mem_cons_of_mem _ hz)) h
    have e3 : n = m := by omega
    have e4 : x = y := by omega
    exact ⟨e3, by rw [e4, e2]⟩
theorem codeL_inj {xs ys : List Int} (hl : xs.length = ys.length) (hx : ∀ x ∈ xs, 1 ≤ x ∧ x ≤ 6) (hy : ∀ x ∈ ys, 1 ≤ x ∧ x ≤ 6) (h : codeL xs = codeL ys) : xs = ys := (codeF_inj xs ys 0 0 hl hx hy h).2

end Go.Pan

namespace Go.Proofs.Ytmlikchhkblohaa
open Go Go.RowKit Go.Pan

set_option maxRecDepth 100000 in
theorem sgCode_any (v : Value) (xs : List Int) (w : World) (hv : OwnI w v xs) (hx : Hid (∀ x ∈ xs, 1 ≤ x ∧ x ≤ 6)) (h6 : xs.length ≤ 6) :
    Calls Try.prog 172 #[v] w fun e w' => e = .returned (.int .i64 (codeL xs)) ∧ Below w.heap.size w w' := by
  obtain ⟨ad, cap, rfl, hc, _, _⟩ := hv.shape
  have HV := Lib.hid hv
  clear hv
  go_enter Try.func172, Try.ntmps172
  go_wp2
  go_loopw [3, 5, 8] (fun n _ i wr => ∃ k : Nat, k ≤ xs.length ∧ i = .int .i64 k ∧ n = .int .i64 (codeL (xs.take k)) ∧ Below w.heap.size w wr) (fun _ _ i _ => xs.length - (intOf i).toNat)
  case atStart => exact ⟨0, Nat.zero_le _, rfl, rfl, Below.refl _ _⟩
  case round =>
    obtain ⟨k, hk, rfl, rfl, hbr⟩ := hrel
    by_cases hlt : k < xs.length
    · obtain ⟨g, off, rfl, hgl, hcell, _⟩ := (HV.out.below hbr (Nat.le_refl _)).at (by omega)
      have hck := hcell k (by omega)
      rw [List.getElem?_map, List.getElem?_eq_getElem hlt] at hck
      have hbd := codeL_bd (xs := xs.take k) (by rw [List.length_take]; omega) (fun x h => hx.out x (List.mem_of_mem_take h))
      have hxk := hx.out _ (List.getElem_mem hlt)
      have hst : codeL (xs.take (k + 1)) = 7 * codeL (xs.take k) + xs[k] := by rw [List.take_succ_eq_append_getElem hlt, codeL_snoc]
      obtain ⟨C, hC⟩ : ∃ C, codeL (xs.take k) = C := ⟨_, rfl⟩
      obtain ⟨x, hxx⟩ : ∃ x, xs[k] = x := ⟨_, rfl⟩
      rw [hC, hxx] at hst
      rw [hC] at hbd ⊢
      rw [hxx] at hck hxk
      have HST := Lib.hid hst
      have hck' : wr.cell? ⟨g, off + k, none⟩ = some (.int .i64 x) := hck
      clear hcell hck hC hxx hst
      go_wp2
      go_roundw
      case rel => exact ⟨k + 1, by omega, by go_num, by rw [HST.out], hbr⟩
      case measure => simp [intOf] <;> omega
    · obtain rfl : k = xs.length := by omega
      rw [List.take_length]
      go_wp2
      go_ret
      exact ⟨rfl, hbr⟩

/-- the code of the place j -/
def keyAt (ord : List Nat) (cs : List Int) (j : Nat) : Int := cs.getD (ord.getD j 0) 0

set_option maxRecDepth 100000 in
set_option maxHeartbeats 800000 in
theorem sgPlace_any (v u : Value) (ord : List Nat) (cs : List Int) (code : Int) (w : World) (hv : OwnI w v (ord.map fun (j : Nat) => (j : Int))) (hu : OwnI w u cs) (hn : ord.length ≤ 1048576) (hm : cs.length ≤ 1048576) (hlt : Hid (∀ j ∈ ord, j < cs.length)) (hmono : Hid (∀ i j, i < j → j < ord.length → keyAt ord cs i < keyAt ord cs j)) :
    Calls Try.prog 173 #[v, u, .int .i64 code] w fun e w' => ∃ lo : Nat, lo ≤ ord.length ∧ (∀ j, j < lo → keyAt ord cs j < code) ∧ (∀ j, lo ≤ j → j < ord.length → code ≤ keyAt ord cs j) ∧ e = .returned (.tuple #[.int .i64 lo, .bool (decide (lo < ord.length ∧ keyAt ord cs lo = code))]) ∧ Below w.heap.size w w' := by
  obtain ⟨ad, cap, rfl, hc, _, _⟩ := hv.shape
  obtain ⟨bd, cbp, rfl, hc', _, _⟩ := hu.shape
  rw [List.length_map] at hc ⊢
  have HV := Lib.hid hv
  have HU := Lib.hid hu
  clear hv hu
  go_enter Try.func173, Try.ntmps173
  go_wp2
  go_loopw [8, 9, 10] (fun l h _ wr => ∃ lo hi : Nat, l = .int .i64 lo ∧ h = .int .i64 hi ∧ lo ≤ hi ∧ hi ≤ ord.length ∧ Hid (∀ j, j < lo → keyAt ord cs j < code) ∧ Hid (∀ j, hi ≤ j → j < ord.length → code ≤ keyAt ord cs j) ∧ Below w.heap.size w wr) (fun l h _ _ => (intOf h).toNat - (intOf l).toNat)
  case atStart => exact ⟨0, ord.length, rfl, rfl, Nat.zero_le _, Nat.le_refl _, Lib.hid (fun j h => by omega), Lib.hid (fun j h1 h2 => by omega), Below.refl _ _⟩
  case round =>
    obtain ⟨lo, hi, rfl, rfl, hle, hhi, hA, hB, hbr⟩ := hrel
    have hvr := HV.out.below hbr (Nat.le_refl _)
    have hur := HU.out.below hbr (Nat.le_refl _)
    by_cases hlh : lo < hi
    · have hlh' : (lo : Int) < hi := by omega
      obtain ⟨mid, hmid⟩ : ∃ mid, (lo + hi) / 2 = mid := ⟨_, rfl⟩
      have hm1 : lo ≤ mid := by omega
      have hm2 : mid < hi := by omega
      have hq1 : ((lo : Int) + hi).tdiv 2 = (mid : Int) := by rw [Int.tdiv_eq_ediv_of_nonneg (by omega)]; omega
      have hml : mid < ord.length := by omega
      have hom : ord[mid] < cs.length := hlt.out _ (List.getElem_mem hml)
      have hkey : keyAt ord cs mid = cs[ord[mid]] := by
        unfold keyAt
        rw [List.getD_eq_getElem?_getD, List.getD_eq_getElem?_getD, List.getElem?_eq_getElem hml, Option.getD_some, List.getElem?_eq_getElem hom]
        rfl
      have hvl : mid < (ord.map fun (j : Nat) => (j : Int)).length := by rw [List.length_map]; exact hml
      obtain ⟨g, off, e1, hgl, hcell, _⟩ := hvr.at (by omega)
      obtain ⟨g2, off2, e2, hgl2, hcell2, _⟩ := hur.at (by omega)
      subst e1
      subst e2
      have hck := hcell mid (by rw [Nat.mul_one]; exact hvl)
      rw [List.getElem?_map, List.getElem?_map, List.getElem?_eq_getElem hml] at hck
      obtain ⟨o, ho⟩ : ∃ o, ord[mid] = o := ⟨_, rfl⟩
      have hck2 := hcell2 ord[mid] (by rw [Nat.mul_one]; exact hom)
      rw [List.getElem?_map, List.getElem?_eq_getElem hom, ← hkey] at hck2
      rw [ho] at hck hck2 hom
      obtain ⟨K, hK⟩ : ∃ K, keyAt ord cs mid = K := ⟨_, rfl⟩
      rw [hK] at hck2
      have HK := Lib.hid hK
      have hck' : wr.cell? ⟨g, off + mid, none⟩ = some (.int .i64 o) := hck
      have hck2' : wr.cell? ⟨g2, off2 + o, none⟩ = some (.int .i64 K) := hck2
      have hoi : (o : Int) < cs.length := by omega
      have hmi : (mid : Int) < ord.length := by omega
      have HMID := Lib.hid hmid
      clear hcell hcell2 hck hck2 hkey ho hK hvr hur hmid
      by_cases hlt2 : K < code
      · have HA2 := Lib.hid (show ∀ j, j < mid + 1 → keyAt ord cs j < code from fun j hj => by
          by_cases e : j = mid
          · rw [e, HK.out]; exact hlt2
          · have := hmono.out j mid (by omega) hml; rw [HK.out] at this; omega)
        go_wp2
        go_roundw
        case rel => exact ⟨mid + 1, hi, by go_num, rfl, by omega, hhi, HA2, hB, hbr⟩
        case measure => simp [intOf] <;> omega
      · have hge : code ≤ K := by omega
        have HB2 := Lib.hid (show ∀ j, mid ≤ j → j < ord.length → code ≤ keyAt ord cs j from fun j h1 h2 => by
          by_cases e : j = mid
          · rw [e, HK.out]; exact hge
          · have := hmono.out mid j (by omega) h2; rw [HK.out] at this; omega)
        go_wp2
        go_roundw
        case rel => exact ⟨lo, mid, rfl, rfl, hm1, by omega, hA, HB2, hbr⟩
        case measure => simp [intOf] <;> omega
    · obtain rfl : lo = hi := by omega
      have hge : (lo : Int) ≤ lo := Int.le_refl _
      by_cases hll : lo < ord.length
      · have hml := hll
        have hmi : (lo : Int) < ord.length := by omega
        have hom : ord[lo] < cs.length := hlt.out _ (List.getElem_mem hml)
        have hkey : keyAt ord cs lo = cs[ord[lo]] := by
          unfold keyAt
          rw [List.getD_eq_getElem?_getD, List.getD_eq_getElem?_getD, List.getElem?_eq_getElem hml, Option.getD_some, List.getElem?_eq_getElem hom]
          rfl
        have hvl : lo < (ord.map fun (j : Nat) => (j : Int)).length := by rw [List.length_map]; exact hml
        obtain ⟨g, off, e1, hgl, hcell, _⟩ := hvr.at (by omega)
        obtain ⟨g2, off2, e2, hgl2, hcell2, _⟩ := hur.at (by omega)
        subst e1
        subst e2
        have hck := hcell lo (by rw [Nat.mul_one]; exact hvl)
        rw [List.getElem?_map, List.getElem?_map, List.getElem?_eq_getElem hml] at hck
        obtain ⟨o, ho⟩ : ∃ o, ord[lo] = o := ⟨_, rfl⟩
        have hck2 := hcell2 ord[lo] (by rw [Nat.mul_one]; exact hom)
        rw [List.getElem?_map, List.getElem?_eq_getElem hom, ← hkey] at hck2
        rw [ho] at hck hck2 hom
        obtain ⟨K, hK⟩ : ∃ K, keyAt ord cs lo = K := ⟨_, rfl⟩
        rw [hK] at hck2
        have HK := Lib.hid hK
        have hck' : wr.cell? ⟨g, off + lo, none⟩ = some (.int .i64 o) := hck
        have hck2' : wr.cell? ⟨g2, off2 + o, none⟩ = some (.int .i64 K) := hck2
        have hoi : (o : Int) < cs.length := by omega
        have HLL := Lib.hid hll
        clear hcell hcell2 hck hck2 hkey ho hK hvr hur hll
        by_cases hke : K = code
        · have hq : (K == code) = true := by simp [hke]
          have HKE := Lib.hid hke
          clear hke
          go_wp2
          go_quiet (fail)
          go_wp2
          go_ret2
          exact ⟨lo, hhi, hA.out, hB.out, by rw [decide_eq_true ⟨HLL.out, HK.out.trans HKE.out⟩]; rfl, hbr.drewN _⟩
        · have hq : (K == code) = false := by simp [hke]
          have HKE := Lib.hid hke
          clear hke
          go_wp2
          go_quiet (fail)
          go_wp2
          go_ret2
          exact ⟨lo, hhi, hA.out, hB.out, by rw [decide_eq_false (fun h => HKE.out (HK.out.symm.trans h.2))]; rfl, hbr.drewN _⟩
      · have hmi : (ord.length : Int) ≤ lo := by omega
        have HLL := Lib.hid hll
        have HD1 := Lib.hid (show decide (lo < ord.length) = false from decide_eq_false hll)
        have HD2 := Lib.hid (show decide ((lo : Int) < (ord.length : Int)) = false from decide_eq_false (by omega))
        clear hll hvr hur
        go_wp2
        refine wp_region_held_drew (S := (fun w' => Below w.heap.size w w')) (by kernel_rfl) (hbr.drew) (fun hHeld => ?_)
        refine wpAnyH_take (i := 0) (v := ?_) rfl (by kernel_rfl) (by kernel_rfl) (by kernel_rfl) (fun _ _ _ h => h) (Or.inl ⟨by rfl, ?_⟩) (by assumption) ?_
        rotate_left
        · intro w _; go_simp; with_reducible rfl
        try simp only [List.getElem_toArray, List.getElem_cons_zero, Act.put, List.setIfInBounds_toArray, List.set_cons_zero, List.set_cons_succ]
        refine wpAnyH_take (i := 1) (v := ?_) rfl (by kernel_rfl) (by kernel_rfl) (by kernel_rfl) (fun _ _ _ h => h) (Or.inl ⟨by rfl, ?_⟩) (by assumption) ?_
        rotate_left
        · intro w _; go_simp; with_reducible rfl
        try simp only [List.getElem_toArray, List.getElem_cons_zero, List.getElem_cons_succ, Act.put, List.setIfInBounds_toArray, List.set_cons_zero, List.set_cons_succ]
        refine wpAnyH_take (i := 2) (v := ?_) rfl (by kernel_rfl) (by kernel_rfl) (by kernel_rfl) (fun _ _ _ h => h) (Or.inl ⟨by rfl, ?_⟩) (by assumption) ?_
        rotate_left
        · intro w _; go_simp; with_reducible rfl
        try simp only [List.getElem_toArray, List.getElem_cons_zero, List.getElem_cons_succ, Act.put, List.setIfInBounds_toArray, List.set_cons_zero, List.set_cons_succ]
        refine wpAnyH_take (i := 3) (v := ?_) rfl (by kernel_rfl) (by kernel_rfl) (by kernel_rfl) (fun _ _ _ h => h) (Or.inl ⟨by rfl, ?_⟩) (by assumption) ?_
        rotate_left
        · intro w _; go_simp; with_reducible rfl
        try simp only [List.getElem_toArray, List.getElem_cons_zero, List.getElem_cons_succ, Act.put, List.setIfInBounds_toArray, List.set_cons_zero, List.set_cons_succ]
        refine wpAnyH_take (i := 4) (v := ?_) rfl (by kernel_rfl) (by kernel_rfl) (by kernel_rfl) (fun _ _ _ h => h) (Or.inl ⟨by rfl, ?_⟩) (by assumption) ?_
        rotate_left
        · intro w _; go_simp; with_reducible rfl
        try simp only [List.getElem_toArray, List.getElem_cons_zero, List.getElem_cons_succ, Act.put, List.setIfInBounds_toArray, List.set_cons_zero, List.set_cons_succ]
        first | rw [HD1.out] | rw [HD2.out]
        refine wpAnyH_take (i := 5) (v := ?_) rfl (by kernel_rfl) (by kernel_rfl) (by kernel_rfl) (fun _ _ _ h => h) (Or.inl ⟨by rfl, ?_⟩) (by assumption) ?_
        rotate_left
        · intro w _; go_simp; with_reducible rfl
        try simp only [List.getElem_toArray, List.getElem_cons_zero, List.getElem_cons_succ, Act.put, List.setIfInBounds_toArray, List.set_cons_zero, List.set_cons_succ]
        refine wpAnyH_take (i := 6) (v := undef) rfl (by kernel_rfl) (by kernel_rfl) (by kernel_rfl) (fun _ _ _ h => h) (Or.inr ⟨by rfl, rfl⟩) (by assumption) ?_
        try simp only [List.getElem_toArray, List.getElem_cons_zero, List.getElem_cons_succ, Act.put, List.setIfInBounds_toArray, List.set_cons_zero, List.set_cons_succ]
        refine wpAnyH_take (i := 7) (v := undef) rfl (by kernel_rfl) (by kernel_rfl) (by kernel_rfl) (fun _ _ _ h => h) (Or.inr ⟨by rfl, rfl⟩) (by assumption) ?_
        try simp only [List.getElem_toArray, List.getElem_cons_zero, List.getElem_cons_succ, Act.put, List.setIfInBounds_toArray, List.set_cons_zero, List.set_cons_succ]
        refine wpAnyH_take (i := 8) (v := undef) rfl (by kernel_rfl) (by kernel_rfl) (by kernel_rfl) (fun _ _ _ h => h) (Or.inr ⟨by rfl, rfl⟩) (by assumption) ?_
        try simp only [List.getElem_toArray, List.getElem_cons_zero, List.getElem_cons_succ, Act.put, List.setIfInBounds_toArray, List.set_cons_zero, List.set_cons_succ]
        refine wpAnyH_take (i := 9) (v := undef) rfl (by kernel_rfl) (by kernel_rfl) (by kernel_rfl) (fun _ _ _ h => h) (Or.inr ⟨by rfl, rfl⟩) (by assumption) ?_
        try simp only [List.getElem_toArray, List.getElem_cons_zero, List.getElem_cons_succ, Act.put, List.setIfInBounds_toArray, List.set_cons_zero, List.set_cons_succ]
        refine wpAnyH_take (i := 10) (v := undef) rfl (by kernel_rfl) (by kernel_rfl) (by kernel_rfl) (fun _ _ _ h => h) (Or.inr ⟨by rfl, rfl⟩) (by assumption) ?_
        try simp only [List.getElem_toArray, List.getElem_cons_zero, List.getElem_cons_succ, Act.put, List.setIfInBounds_toArray, List.set_cons_zero, List.set_cons_succ]
        refine wpAnyH_take (i := 11) (v := undef) rfl (by kernel_rfl) (by kernel_rfl) (by kernel_rfl) (fun _ _ _ h => h) (Or.inr ⟨by rfl, rfl⟩) (by assumption) ?_
        try simp only [List.getElem_toArray, List.getElem_cons_zero, List.getElem_cons_succ, Act.put, List.setIfInBounds_toArray, List.set_cons_zero, List.set_cons_succ]
        refine wpAnyH_take (i := 12) (v := undef) rfl (by kernel_rfl) (by kernel_rfl) (by kernel_rfl) (fun _ _ _ h => h) (Or.inr ⟨by rfl, rfl⟩) (by assumption) ?_
        try simp only [List.getElem_toArray, List.getElem_cons_zero, List.getElem_cons_succ, Act.put, List.setIfInBounds_toArray, List.set_cons_zero, List.set_cons_succ]
        refine wpAnyH_take (i := 13) (v := undef) rfl (by kernel_rfl) (by kernel_rfl) (by kernel_rfl) (fun _ _ _ h => h) (Or.inr ⟨by rfl, rfl⟩) (by assumption) ?_
        try simp only [List.getElem_toArray, List.getElem_cons_zero, List.getElem_cons_succ, Act.put, List.setIfInBounds_toArray, List.set_cons_zero, List.set_cons_succ]
        refine wpAnyH_take (i := 14) (v := undef) rfl (by kernel_rfl) (by kernel_rfl) (by kernel_rfl) (fun _ _ _ h => h) (Or.inr ⟨by rfl, rfl⟩) (by assumption) ?_
        try simp only [List.getElem_toArray, List.getElem_cons_zero, List.getElem_cons_succ, Act.put, List.setIfInBounds_toArray, List.set_cons_zero, List.set_cons_succ]
        refine wpAnyH_take (i := 15) (v := ?_) rfl (by kernel_rfl) (by kernel_rfl) (by kernel_rfl) (fun _ _ _ h => h) (Or.inl ⟨by rfl, ?_⟩) (by assumption) ?_
        rotate_left
        · intro w _; go_simp; with_reducible rfl
        try simp only [List.getElem_toArray, List.getElem_cons_zero, List.getElem_cons_succ, Act.put, List.setIfInBounds_toArray, List.set_cons_zero, List.set_cons_succ]
        refine wpAnyH_take (i := 16) (v := ?_) rfl (by kernel_rfl) (by kernel_rfl) (by kernel_rfl) (fun _ _ _ h => h) (Or.inl ⟨by rfl, ?_⟩) (by assumption) ?_
        rotate_left
        · intro w _; go_simp; with_reducible rfl
        try simp only [List.getElem_toArray, List.getElem_cons_zero, List.getElem_cons_succ, Act.put, List.setIfInBounds_toArray, List.set_cons_zero, List.set_cons_succ]
        refine wpAnyH_take (i := 17) (v := ?_) rfl (by kernel_rfl) (by kernel_rfl) (by kernel_rfl) (fun _ _ _ h => h) (Or.inl ⟨by rfl, ?_⟩) (by assumption) ?_
        rotate_left
        · intro w _; go_simp; with_reducible rfl
        try simp only [List.getElem_toArray, List.getElem_cons_zero, List.getElem_cons_succ, Act.put, List.setIfInBounds_toArray, List.set_cons_zero, List.set_cons_succ]
        refine wpAnyH_done (by kernel_rfl) ?_ _
        have hbe := hHeld
        go_wp2
        go_ret2
        exact ⟨lo, hhi, hA.out, hB.out, by rw [decide_eq_false (fun h => HLL.out h.1)]; rfl, hbe⟩

end Go.Proofs.Ytmlikchhkblohaa

