import Derived.Test.YtmlikchhkblohaaM10
import Derived.Test.YtmlikchhkblohaaI5
import Derived.Test.YtmlikchhkblohaaI16
import Derived.Test.YtmlikchhkblohaaNT
import Derived.Test.YtmlikchhkblohaaGE
import Derived.Test.YtmlikchhkblohaaS8
import Derived.Test.YtmlikchhkblohaaS21
import Derived.Test.YtmlikchhkblohaaLib4
import Derived.Test.YtmlikchhkblohaaWbX1
import Derived.Lib.MinMax
import Derived.BigQuiet
import Derived.Deep.AppendLies
namespace Go.Pan
open Go Go.RowKit

-- doubled stacks
def dbl (x : Int) : List Int := if 0 < x then [2 * x - 1, 2 * x] else [-2 * x, -2 * x - 1]
theorem dbl_length (x : Int) : (dbl x).length = 2 := by unfold dbl; split <;> rfl
def doubL (xs : List Int) : List Int := xs.flatMap dbl
theorem doubL_length (xs : List Int) : (doubL xs).length = 2 * xs.length := by
  induction xs with
  | nil => rfl
  | cons a l ih =>
    have : doubL (a :: l) = dbl a ++ doubL l := rfl
    rw [this, List.length_append, dbl_length, ih, List.length_cons]
    omega
def doubTo (xs : List Int) (k : Nat) : List Int := doubL (xs.take k)
theorem doubTo_pos {xs : List Int} {k : Nat} (h : k < xs.length) (hp : 0 < xs[k]) : doubTo xs k ++ [2 * xs[k] - 1, 2 * xs[k]] = doubTo xs (k + 1) := by
  unfold doubTo doubL
  rw [List.take_succ_eq_append_getElem h, List.flatMap_append]
  simp [dbl, hp]
theorem doubTo_neg {xs : List Int} {k : Nat} (h : k < xs.length) (hp : ¬ 0 < xs[k]) : doubTo xs k ++ [-2 * xs[k], -2 * xs[k] - 1] = doubTo xs (k + 1) := by
  unfold doubTo doubL
  rw [List.take_succ_eq_append_getElem h, List.flatMap_append]
  simp [dbl, hp]
theorem doubTo_length (xs : List Int) (k : Nat) : (doubTo xs k).length ≤ 2 * k := by
  unfold doubTo
  rw [doubL_length, List.length_take]
  omega
def okDouble (xs : List Int) : Bool := burntB xs && decide (2 * xs.length ≤ 9)
theorem okDouble_iff {xs : List Int} : okDouble xs = true ↔ Burnt xs ∧ 2 * xs.length ≤ 9 := by simp only [okDouble, Bool.and_eq_true, burntB_iff, decide_eq_true_iff]
def mDoubleStack (xs : List Int) : List Int := if okDouble xs = true then doubL xs else []
theorem len_mDoubleStack (xs : List Int) : (mDoubleStack xs).length ≤ 1048576 := by
  unfold mDoubleStack
  split
  · rename_i h; rw [doubL_length]; have := (okDouble_iff.1 h).2; omega
  · simp

-- halved ones
def halv (a b : Int) : Int := if b < a then (-a).tdiv 2 else b / 2
theorem halv_hi {a b : Int} (h : b < a) (h0 : 0 ≤ a) : halv a b = -(a / 2) := by
  unfold halv
  rw [if_pos h, Int.neg_tdiv, Int.tdiv_eq_ediv_of_nonneg h0]
theorem halv_lo {a b : Int} (h : ¬ b < a) : halv a b = b / 2 := if_neg h
def halvL (xs : List Int) : List Int := (List.range (xs.length / 2)).map fun i => halv (xs.getD (2 * i) 0) (xs.getD (2 * i + 1) 0)
theorem halvL_length (xs : List Int) : (halvL xs).length = xs.length / 2 := by simp [halvL]
theorem halvL_at (xs : List Int) (i : Nat) (h : i < xs.length / 2) : (halvL xs)[i]'(by rw [halvL_length]; exact h) = halv (xs.getD (2 * i) 0) (xs.getD (2 * i + 1) 0) := by simp [halvL]
def pairOk (a b : Int) : Prop := (a % 2 = 1 ∧ b = a + 1) ∨ (a % 2 = 0 ∧ b = a - 1)
instance (a b : Int) : Decidable (pairOk a b) := inferInstanceAs (Decidable (_ ∨ _))
theorem dbl_pair {a b : Int} (ha : 1 ≤ a) (hb : 1 ≤ b) : dbl (halv a b) = [a, b] ↔ pairOk a b := by
  unfold pairOk
  by_cases h : b < a
  · rw [halv_hi h (by omega)]
    unfold dbl
    rw [if_neg (by omega)]
    simp only [List.cons.injEq, and_true]
    omega
  · rw [halv_lo h]
    unfold dbl
    by_cases h1 : 0 < b / 2
    · rw [if_pos h1]
      simp only [List.cons.injEq, and_true]
      omega
    · rw [if_neg h1]
      simp only [List.cons.injEq, and_true]
      omega
theorem doubL_pair (xs : List Int) (i : Nat) (h : i < xs.length) : (doubL xs)[2 * i]? = (dbl xs[i])[0]? ∧ (doubL xs)[2 * i + 1]? = (dbl xs[i])[1]? := by
  induction xs generalizing i with
  | nil => simp at h
  | cons a l ih =>
    have e : doubL (a :: l) = dbl a ++ doubL l := rfl
    rw [e]
    cases i with
    | zero =>
      have := dbl_length a
      constructor
      · rw [List.getElem?_append_left (by omega)]; rfl
      · rw [List.getElem?_append_left (by omega)]; rfl
    | succ i =>
      have h' : i < l.length := by simpa using h
      have := dbl_length a
      have h2 := ih i h'
      constructor
      · rw [List.getElem?_append_right (by omega), this, show 2 * (i + 1) - 2 = 2 * i by omega]; exact h2.1
      · rw [List.getElem?_append_right (by omega), this, show 2 * (i + 1) + 1 - 2 = 2 * i + 1 by omega]; exact h2.2
def pairTo (xs : List Int) (k : Nat) : Prop := ∀ i, i < k → pairOk (xs.getD (2 * i) 0) (xs.getD (2 * i + 1) 0)
instance (xs : List Int) (k : Nat) : Decidable (pairTo xs k) := inferInstanceAs (Decidable (∀ i, i < k → _))
def okHalve (xs : List Int) : Bool := goodB xs && decide (xs.length % 2 = 0) && decide (pairTo xs (xs.length / 2))
def mHalveStack (xs : List Int) : List Int := if okHalve xs = true then halvL xs else []
theorem len_mHalveStack (xs : List Int) : (mHalveStack xs).length ≤ 1048576 := by
  unfold mHalveStack
  split
  · rename_i h
    simp only [okHalve, Bool.and_eq_true, goodB_iff] at h
    have := h.1.1.2.1
    rw [halvL_length]; omega
  · simp
theorem pair_of_eq {xs : List Int} (hg : Good xs) (h : doubL (halvL xs) = xs) : xs.length % 2 = 0 ∧ pairTo xs (xs.length / 2) := by
  have hl := congrArg List.length h
  rw [doubL_length, halvL_length] at hl
  refine ⟨by omega, fun i hi => ?_⟩
  have h1 := doubL_pair (halvL xs) i (by rw [halvL_length]; exact hi)
  rw [h, halvL_at xs i hi] at h1
  have ha := hg.bd (show 2 * i < xs.length by omega)
  have hb := hg.bd (show 2 * i + 1 < xs.length by omega)
  have e1 : xs[2 * i]? = some (xs.getD (2 * i) 0) := by rw [getD_eq (by omega), List.getElem?_eq_getElem]
  have e2 : xs[2 * i + 1]? = some (xs.getD (2 * i + 1) 0) := by rw [getD_eq (by omega), List.getElem?_eq_getElem]
  rw [e1, e2] at h1
  refine (dbl_pair ha.1 hb.1).1 ?_
  have hd := dbl_length (halv (xs.getD (2 * i) 0) (xs.getD (2 * i + 1) 0))
  match hm : dbl (halv (xs.getD (2 * i) 0) (xs.getD (2 * i + 1) 0)), hd with
  | [c, d], _ =>
    rw [hm] at h1
    simp only [List.getElem?_cons_zero, List.getElem?_cons_succ, Option.some.injEq] at h1
    rw [h1.1, h1.2]
theorem eq_of_pair {xs : List Int} (hg : Good xs) (h2 : xs.length % 2 = 0) (h : pairTo xs (xs.length / 2)) : doubL (halvL xs) = xs := by
  apply List.ext_getElem?
  intro j
  by_cases hj : j < xs.length
  · have hi : j / 2 < xs.length / 2 := by omega
    have h1 := doubL_pair (halvL xs) (j / 2) (by rw [halvL_length]; exact hi)
    have ha := hg.bd (show 2 * (j / 2) < xs.length by omega)
    have hb := hg.bd (show 2 * (j / 2) + 1 < xs.length by omega)
    rw [halvL_at xs _ hi, (dbl_pair ha.1 hb.1).2 (h _ hi)] at h1
    have e1 : xs[2 * (j / 2)]? = some (xs.getD (2 * (j / 2)) 0) := by rw [getD_eq (by omega), List.getElem?_eq_getElem]
    have e2 : xs[2 * (j / 2) + 1]? = some (xs.getD (2 * (j / 2) + 1) 0) := by rw [getD_eq (by omega), List.getElem?_eq_getElem]
    rcases Nat.mod_two_eq_zero_or_one j with hm | hm
    · have e : 2 * (j / 2) = j := by omega
      rw [e] at h1 e1
      rw [h1.1, e1]
      rfl
    · have e : 2 * (j / 2) + 1 = j := by omega
      rw [e] at h1 e2
      rw [h1.2, e2]
      rfl
  · rw [List.getElem?_eq_none (by rw [doubL_length, halvL_length]; omega), List.getElem?_eq_none (by omega)]
theorem abs_halv {a b : Int} (ha : 1 ≤ a) (hb : 1 ≤ b) (h : pairOk a b) : (b < a ∧ a = 2 * absI (halv a b)) ∨ (a < b ∧ b = 2 * absI (halv a b)) := by
  unfold pairOk at h
  rw [absI_eq]
  by_cases hl : b < a
  · left
    rw [halv_hi hl (by omega)]
    omega
  · right
    rw [halv_lo hl]
    omega
theorem burnt_halv {xs : List Int} (hg : Good xs) (h2 : xs.length % 2 = 0) (h : pairTo xs (xs.length / 2)) : Burnt (halvL xs) := by
  have h1 := hg.1
  have h9 := hg.2.1
  have hat : ∀ i, i < xs.length / 2 → ∃ p, p < xs.length ∧ p / 2 = i ∧ xs.getD p 0 = 2 * absI (halv (xs.getD (2 * i) 0) (xs.getD (2 * i + 1) 0)) := by
    intro i hi
    have ha := hg.bd (show 2 * i < xs.length by omega)
    have hb := hg.bd (show 2 * i + 1 < xs.length by omega)
    rcases abs_halv ha.1 hb.1 (h i hi) with ⟨_, e⟩ | ⟨_, e⟩
    · exact ⟨2 * i, by omega, by omega, e⟩
    · exact ⟨2 * i + 1, by omega, by omega, e⟩
  have hlen : (absL (halvL xs)).length = xs.length / 2 := by rw [absL_length, halvL_length]
  refine ⟨by rw [hlen]; omega, by rw [hlen]; omega, fun x hx => ?_, ?_⟩
  · obtain ⟨i, hi, e⟩ := List.getElem_of_mem hx
    rw [hlen] at hi
    have e2 : x = absI (halv (xs.getD (2 * i) 0) (xs.getD (2 * i + 1) 0)) := by
      rw [← e]; simp only [absL, List.getElem_map]; rw [halvL_at xs i hi]
    obtain ⟨p, hp, _, e3⟩ := hat i hi
    have := hg.bd hp
    rw [hlen, e2]
    omega
  · refine List.pairwise_iff_getElem.2 fun i j hi hj hij e => ?_
    rw [hlen] at hi hj
    simp only [absL, List.getElem_map] at e
    rw [halvL_at xs i hi, halvL_at xs j hj] at e
    obtain ⟨p, hp, hpi, e1⟩ := hat i hi
    obtain ⟨q, hq, hqj, e2⟩ := hat j hj
    have hpq : xs.getD p 0 = xs.getD q 0 := by rw [e1, e2, e]
    have hlt : p < q := by omega
    exact hg.ne hlt hq hpq
/-- what the program looks at, and what the document asks -/
theorem half_ok {xs : List Int} (hg : goodB xs = true) : decide (mDoubleStack (halvL xs) = xs) = okHalve xs := by
  have hG := goodB_iff.1 hg
  unfold okHalve
  rw [hg, Bool.true_and, Bool.eq_iff_iff, decide_eq_true_iff, Bool.and_eq_true, decide_eq_true_iff, decide_eq_true_iff]
  constructor
  · intro h
    unfold mDoubleStack at h
    split at h
    · exact pair_of_eq hG h
    · rw [← h] at hG
      have := hG.1
      simp at this
  · rintro ⟨h2, hp⟩
    unfold mDoubleStack
    rw [if_pos (okDouble_iff.2 ⟨burnt_halv hG h2 hp, by rw [halvL_length]; have := hG.2.1; omega⟩)]
    exact eq_of_pair hG h2 hp

-- the greedy plan of burnt stacks
def topTo (xs : List Int) (m : Nat) : List Int := if 1 < placeL (absL xs) m then [placeL (absL xs) m] else []
def sideTo (xs : List Int) (m : Nat) : List Int := if 0 < (bplayL xs (topTo xs m)).getD 0 0 then [1] else []
def downB (xs : List Int) (m : Nat) : List Int := if xs.getD (m - 1) 0 = m then [] else topTo xs m ++ sideTo xs m ++ [(m : Int)]
theorem downB_length (xs : List Int) (m : Nat) : (downB xs m).length ≤ 3 := by
  unfold downB topTo sideTo
  split
  · simp
  · split <;> split <;> simp
def bgrTo (xs : List Int) : Nat → List Int
  | 0 => []
  | j + 1 => bgrTo xs j ++ downB (bplayL xs (bgrTo xs j)) (xs.length - j)
theorem bgrTo_length (xs : List Int) (j : Nat) : (bgrTo xs j).length ≤ 3 * j := by
  induction j with
  | zero => simp [bgrTo]
  | succ j ih =>
    have := downB_length (bplayL xs (bgrTo xs j)) (xs.length - j)
    simp only [bgrTo, List.length_append]
    omega
def mBurntGreedy (xs : List Int) : List Int := if burntB xs = true then bgrTo xs xs.length else []
theorem len_mBurntGreedy (xs : List Int) : (mBurntGreedy xs).length ≤ 1048576 := by
  unfold mBurntGreedy
  split
  · rename_i h; have h1 := bgrTo_length xs xs.length; have := (burntB_iff.1 h).len; omega
  · simp
theorem Burnt.has {xs : List Int} (h : Burnt xs) {m : Nat} (h1 : 1 ≤ m) (h2 : m ≤ xs.length) : (m : Int) ∈ absL xs :=
  mem_of_good h (by omega) (by rw [absL_length]; omega)
theorem topTo_bd {xs : List Int} (h : Burnt xs) {m : Nat} (h1 : 1 ≤ m) (h2 : m ≤ xs.length) : ∀ k ∈ topTo xs m, 1 ≤ k ∧ k ≤ (xs.length : Int) := by
  have := placeL_bd (h.has h1 h2)
  rw [absL_length] at this
  intro k hk
  unfold topTo at hk
  split at hk
  · simp at hk; omega
  · cases hk
theorem downB_bd {xs : List Int} (h : Burnt xs) {m : Nat} (h1 : 1 ≤ m) (h2 : m ≤ xs.length) : ∀ k ∈ downB xs m, 1 ≤ k ∧ k ≤ (xs.length : Int) := by
  intro k hk
  unfold downB at hk
  split at hk
  · cases hk
  · rcases List.mem_append.1 hk with hk | hk
    · rcases List.mem_append.1 hk with hk | hk
      · exact topTo_bd h h1 h2 k hk
      · unfold sideTo at hk
        split at hk
        · simp at hk; have := h.len; omega
        · cases hk
    · simp at hk; omega
/-- the place among nine cells, the last ones 0 -/
theorem place_pad {ys : List Int} {x : Int} (n : Nat) (h : x ∈ ys) : placeL (ys ++ List.replicate n 0) x = placeL ys x := by
  rw [placeL_of_mem h, placeL_of_mem (List.mem_append_left _ h), List.idxOf_append, if_pos h]
theorem sides_pad {xs : List Int} (h : Burnt xs) (n : Nat) : sidesL (xs ++ List.replicate n 0) = absL xs ++ List.replicate n 0 := by
  unfold sidesL
  rw [List.map_append, List.map_replicate]
  rw [show xs.map sizeW = absL xs from sides_burnt h, show sizeW 0 = 0 from by rw [sizeW_small (by omega) (by omega)]; rfl]

end Go.Pan

namespace Go.Proofs.Ytmlikchhkblohaa
open Go Go.RowKit Go.Pan

set_option maxRecDepth 100000 in
set_option maxHeartbeats 400000 in
theorem withoutSides_any (v : Value) (xs : List Int) (w : World) (hv : OwnI w v xs) (hn : xs.length ≤ 1048576) :
    Calls Try.prog 189 #[v] w fun e w' => ∃ r, e = .returned r ∧ OwnI w' r (sidesL xs) ∧ From w.heap.size r ∧ Below w.heap.size w w' := by
  obtain ⟨ad, cap, rfl, hc, _, _⟩ := hv.shape
  have HL := Lib.hid (sidesL_length xs)
  obtain ⟨i0, hi, hz0, hz1, hz2⟩ := info_parts Try.info3
  go_enter Try.func189, Try.ntmps189
  go_wp2_with (at_make; refine wpList_make_full _ rfl _ _ 22 rfl w.heap.size 3 i0 (.int .i64 0) 1 Try.underlying22 hi hz0 hz1 _ _ _ _ xs.length rfl rfl rfl rfl ?b1 ?b2 ?b3 ?_)
  case b1 => rw [hz2]; omega
  case b2 => unfold maxLen; omega
  case b3 => exact Nat.le_refl _
  intro w1 hown hgrow
  have ho0 : OwnI w1 (.slice (some ⟨w.heap.size, 0, none⟩) xs.length xs.length) (fillTo (sidesL xs) 0) := by rw [fillTo_zero, HL.out]; exact OwnI.of_made hown
  have hb0 : Below w.heap.size w w1 := (Below.refl _ _).grown hgrow (Nat.le_refl _) (by intro k hk; cases hk)
  clear hi hz0 hz1 hz2 hgrow hown
  go_wp2
  go_loopw [4, 5, 11] (fun _ _ i wr => ∃ k : Nat, k ≤ xs.length ∧ i = .int .i64 k ∧ OwnI wr (.slice (some ⟨w.heap.size, 0, none⟩) xs.length xs.length) (fillTo (sidesL xs) k) ∧ Below w.heap.size w wr) (fun _ _ i _ => xs.length - (intOf i).toNat)
  case atStart => exact ⟨0, Nat.zero_le _, rfl, ho0, hb0⟩
  case round =>
    obtain ⟨k, hk, rfl, ho, hbr⟩ := hrel
    by_cases hlt : k < xs.length
    · obtain ⟨g, off, rfl, hgl, hcell, hf⟩ := hv.at (by omega)
      have hck := hcell k (by omega)
      rw [List.getElem?_map, List.getElem?_eq_getElem hlt] at hck
      have hc1 := (hbr.cell (p := ⟨g, off + k, none⟩) hgl).trans hck
      obtain ⟨hd, hfd, hst⟩ := OwnI.cellAt ho k (by rw [fillTo_length _ _ (by rw [HL.out]; omega), HL.out]; exact hlt)
      have hst := hst (max xs[k] (wrap64 (-xs[k])))
      rw [fillTo_step (sidesL xs) k (by rw [HL.out]; exact hlt) (max xs[k] (wrap64 (-xs[k]))) (by simp only [sidesL, List.getElem_map, sizeW])] at hst
      have hb2 := hbr.setCell (p := ⟨w.heap.size, k, none⟩) (Nat.le_refl _) (iv (max xs[k] (wrap64 (-xs[k]))))
      clear hcell hf hck hv ho hbr ho0 hb0
      go_wp2
      go_roundw
      case rel => exact ⟨k + 1, by omega, by go_num, hst, hb2⟩
      case measure => simp [intOf] <;> omega
    · obtain rfl : k = xs.length := by omega
      have he : fillTo (sidesL xs) xs.length = sidesL xs := by have := fillTo_all (sidesL xs); rwa [HL.out] at this
      rw [he] at ho
      clear hv ho0 hb0 he
      have ho2 : Hid (OwnI wr (.slice (some ⟨w.heap.size, 0, none⟩) xs.length xs.length) (sidesL xs)) := Lib.hid ho
      clear ho
      go_wp2
      go_ret
      exact ⟨_, rfl, ho2.out, From.at _ _ _ _ _ (Nat.le_refl _), hbr⟩

theorem IsBurnt_any (v : Value) (xs : List Int) (w : World) (hv : OwnI w v xs) (hn : xs.length ≤ 1048576) (hw : Wf64 xs) :
    Calls Try.prog 168 #[v] w fun e w' => e = .returned (.bool (burntB xs)) ∧ Below w.heap.size w w' := by
  have hl : (sidesL xs).length ≤ 1048576 := by rw [sidesL_length]; exact hn
  have HW := Lib.hid (good_sides hw)
  clear hw
  go_enter Try.func168, Try.ntmps168
  go_wp2_with fail
  refine (withoutSides_any _ _ _ hv hn).mono ?_
  rintro e w1 ⟨r, rfl, ho, hf, hb⟩
  go_wp2_with fail
  refine (IsStack_any _ _ _ ho hl).mono ?_
  rintro e w2 ⟨rfl, hb2⟩
  go_wp2
  go_ret
  exact ⟨by rw [← HW.out]; rfl, hb.trans (hb2.mono hb.size)⟩

theorem twl_neg (ys : List Int) (j : Nat) (h : j < ys.length) : (twl (negTo ys j)).set j (iv (-ys[j])) = twl (negTo ys (j + 1)) := by
  rw [twl_set _ _ _ (by rw [negTo_length]; exact h), negTo_step ys j h]

set_option maxRecDepth 100000 in
set_option maxHeartbeats 800000 in
theorem turnedOver_any (xs : List Int) (k : Nat) (w : World) (h9 : xs.length ≤ 9) (hk : k ≤ xs.length) (hX : Hid (∀ x ∈ xs, -9 ≤ x ∧ x ≤ 9)) :
    Calls Try.prog 241 #[tw xs, .int .i64 k] w fun e w' => e = .returned (tw (bturnL xs k)) ∧ Below w.heap.size w w' := by
  have hbx : Blk ((w.alloc (.cells (twl xs).toArray 86)).alloc (.cells (twl []).toArray 86)) w.heap.size 86 (twl xs) := (Blk.new w _ (twl xs) _ rfl).alloc _
  have hz : Blk ((w.alloc (.cells (twl xs).toArray 86)).alloc (.cells (twl []).toArray 86)) (w.heap.size + 1) 86 (twl []) := Blk.new _ _ (twl []) _ (by simp)
  have hb0 : Below w.heap.size w ((w.alloc (.cells (twl xs).toArray 86)).alloc (.cells (twl []).toArray 86)) := ((Below.refl _ _).alloc (Nat.le_refl _) _).alloc (by simp) _
  have HT := Lib.hid (twl_length xs h9)
  obtain ⟨ys, hys⟩ : ∃ ys, turnL xs k = ys := ⟨_, rfl⟩
  have hyl : ys.length = xs.length := by rw [← hys, turnL_length]
  have hY9 : ys.length ≤ 9 := by omega
  have hky : k ≤ ys.length := by omega
  have HY := Lib.hid (show ∀ x ∈ ys, -9 ≤ x ∧ x ≤ 9 from fun x hx => hX.out x ((turnL_perm xs k).mem_iff.1 (by rw [hys]; exact hx)))
  have HTY := Lib.hid (twl_length ys hY9)
  have HYS := Lib.hid hys
  clear hyl hys
  go_enter Try.func241, Try.ntmps241
  go_wp2_with (first | (refine wpList_load_tower rfl _ rfl w.heap.size xs h9 rfl hbx ?_))
  refine (turned_any _ _ _ h9 hk).mono ?_
  rintro e w2 ⟨rfl, hb2⟩
  rw [HYS.out]
  have hbx2 := hbx.below hb2 hbx.lt
  have hz2 := hz.below hb2 hz.lt
  have hB2 := hb0.trans (hb2.mono hb0.size)
  clear hbx hz hb2 hb0
  go_wp2_with (first | (refine wpList_store_tower rfl _ _ rfl w.heap.size xs ys h9 hY9 rfl rfl hbx2 ?_; intro w3 hbT3 hgr3; have hz3 := hbT3.lt))
  have hzT3 := hz2.grown hgr3 (by simp)
  have hB3 := hB2.grown hgr3 hB2.size (by intro k hk; cases hk; exact Nat.le_refl _)
  clear hbx2 hz2 hgr3 hB2
  go_loopw [5, 10] (fun _ i wr => ∃ j : Nat, j ≤ k ∧ i = .int .i64 j ∧ Blk wr w.heap.size 86 (twl (negTo ys j)) ∧ Blk wr (w.heap.size + 1) 86 (twl []) ∧ Below w.heap.size w wr) (fun _ i _ => k - (intOf i).toNat)
  case atStart => exact ⟨0, Nat.zero_le _, rfl, by rw [negTo_zero]; exact hbT3, hzT3, hB3⟩
  case round =>
    obtain ⟨j, hj, rfl, ho, hz, hbr⟩ := hrel
    clear hbT3 hzT3 hB3
    have hN9 : (negTo ys j).length ≤ 9 := by rw [negTo_length]; exact hY9
    by_cases hlt : j < k
    · have hjl : j < ys.length := by omega
      have hjn : j < (negTo ys j).length := by rw [negTo_length]; exact hjl
      have hck := ho.cell j
      rw [twl_get _ j hjn, negTo_at ys j hjl] at hck
      have hfk := ho.frozen j
      have hx := HY.out _ (List.getElem_mem hjl)
      have hx1 := hx.1
      have hx2 := hx.2
      have hst := ho.set j (iv (-ys[j]))
      rw [twl_neg ys j hjl] at hst
      have hz' := hz.other (a := ⟨w.heap.size, j, none⟩) (by simp) (iv (-ys[j]))
      have hb' := hbr.setCell (p := ⟨w.heap.size, j, none⟩) (Nat.le_refl _) (iv (-ys[j]))
      have hj9 : (j : Int) < 9 := by omega
      clear hx ho hz hbr
      go_wp2
      go_roundw
      case rel => exact ⟨j + 1, by omega, by go_num, hst, hz', hb'⟩
      case measure => simp [intOf] <;> omega
    · obtain rfl : j = k := by omega
      have HB := Lib.hid (show negTo ys j = bturnL xs j by unfold bturnL; rw [HYS.out])
      rw [HB.out] at ho hN9
      have h9t := twl_length _ hN9
      have H9T := Lib.hid h9t
      clear h9t
      go_wp2_with (first | (refine wpList_load_tower rfl _ rfl w.heap.size (bturnL xs j) hN9 rfl ho ?_) | (refine wpList_store_tower rfl _ _ rfl (w.heap.size + 1) [] (bturnL xs j) (by simp) hN9 rfl rfl hz ?_; intro w5 hbT5 hgr5))
      have hB5 := hbr.grown hgr5 hbr.size (by intro k hk; cases hk; omega)
      exact bodyPost_ret (results_tower rfl _ _ (w.heap.size + 1) (bturnL xs j) hN9 rfl hbT5) rfl ⟨rfl, hB5⟩

end Go.Proofs.Ytmlikchhkblohaa

namespace Go.Proofs.Ytmlikchhkblohaa
open Go Go.RowKit Go.Pan

theorem StTo_bturn (xs p : List Int) (k : Nat) : StTo bturnL xs p k = bplayL xs (p.take k) := by
  have : ∀ (q : List Int) (ys : List Int), q.foldl (fun r j => bturnL r j.toNat) ys = bplayL ys q := by
    intro q
    induction q with
    | nil => intro ys; rfl
    | cons a q ih => intro ys; exact ih _
  exact this _ _
theorem Burnt.nine {xs : List Int} (h : Burnt xs) : ∀ x ∈ xs, -9 ≤ x ∧ x ≤ 9 := fun x hx => by have := h.bd hx; omega

theorem twN_length (st : List Int → Nat → List Int) (xs p : List Int) (h : ∀ k, (StTo st xs p k).length ≤ 9) : ∀ m, (twN st xs p m).length = m * 9
  | 0 => rfl
  | m + 1 => by rw [twN_succ, List.length_append, twN_length st xs p h m, twl_length _ (h m)]; omega
theorem twN_get (st : List Int → Nat → List Int) (xs p : List Int) (h : ∀ k, (StTo st xs p k).length ≤ 9) (k j : Nat) (hj : j < 9) : ∀ m, k < m → (twN st xs p m)[k * 9 + j]? = (twl (StTo st xs p k))[j]?
  | 0, h0 => by omega
  | m + 1, h0 => by
    rw [twN_succ]
    by_cases hk : k < m
    · rw [List.getElem?_append_left (by rw [twN_length st xs p h]; omega), twN_get st xs p h k j hj m hk]
    · obtain rfl : k = m := by omega
      rw [List.getElem?_append_right (by rw [twN_length st xs p h]; omega), twN_length st xs p h, Nat.add_sub_cancel_left]

end Go.Proofs.Ytmlikchhkblohaa

namespace Go.Proofs.Ytmlikchhkblohaa
open Go Go.RowKit Go.Pan

set_option maxRecDepth 100000 in
theorem burntTurns_any (m : Nat) (w : World) (hm : m ≤ 9) :
    Calls Try.prog 240 #[.int .i64 m] w fun e w' => ∃ r, e = .returned r ∧ OwnI w' r (ramp 1 m) ∧ From w.heap.size r ∧ Below w.heap.size w w' := by
  have c := turnsFrom_any 1 m w (by omega) (by omega) (by omega)
  rw [Nat.add_sub_cancel] at c
  have HC := Lib.hid c
  clear c
  go_enter Try.func240, Try.ntmps240
  go_wp2_with fail
  refine HC.out.mono ?_
  rintro e w1 ⟨r, rfl, ho, hf, hb⟩
  go_wp2
  go_ret
  exact ⟨_, rfl, ho, hf, hb⟩

set_option maxRecDepth 100000 in
set_option maxHeartbeats 800000 in
theorem burntTurned_any (pv : Value) (xs : List Int) (k : Nat) (w : World) (h9 : xs.length ≤ 9) (hk : k ≤ xs.length) (hX : Hid (∀ x ∈ xs, -9 ≤ x ∧ x ≤ 9)) :
    Calls Try.prog 239 #[pv, tw xs, .int .i64 k] w fun e w' => e = .returned (tw (bturnL xs k)) ∧ Below w.heap.size w w' := by
  have hbx : Blk ((w.alloc (.cells (twl xs).toArray 86)).alloc (.cells (twl []).toArray 86)) w.heap.size 86 (twl xs) := (Blk.new w _ (twl xs) _ rfl).alloc _
  have hz : Blk ((w.alloc (.cells (twl xs).toArray 86)).alloc (.cells (twl []).toArray 86)) (w.heap.size + 1) 86 (twl []) := Blk.new _ _ (twl []) _ (by simp)
  have hb0 : Below w.heap.size w ((w.alloc (.cells (twl xs).toArray 86)).alloc (.cells (twl []).toArray 86)) := ((Below.refl _ _).alloc (Nat.le_refl _) _).alloc (by simp) _
  have HT := Lib.hid (twl_length xs h9)
  have h9t : (bturnL xs k).length ≤ 9 := by rw [bturnL_length]; exact h9
  have H9T := Lib.hid (twl_length _ h9t)
  go_enter Try.func239, Try.ntmps239
  go_wp2_with (first | (refine wpList_load_tower rfl _ rfl w.heap.size xs h9 rfl hbx ?_))
  refine (turnedOver_any _ _ _ h9 hk hX).mono ?_
  rintro e w2 ⟨rfl, hb2⟩
  have hz2 := hz.below hb2 hz.lt
  have hB2 := hb0.trans (hb2.mono hb0.size)
  clear hbx hz hb2 hb0
  go_wp2_with (first | (refine wpList_store_tower rfl _ _ rfl (w.heap.size + 1) [] (bturnL xs k) (by simp) h9t rfl rfl hz2 ?_; intro w5 hbT5 hgr5))
  have hB5 := hB2.grown hgr5 hB2.size (by intro k hk; cases hk; omega)
  exact bodyPost_ret (results_tower rfl _ _ (w.heap.size + 1) (bturnL xs k) h9t rfl hbT5) rfl ⟨rfl, hB5⟩

theorem burnt_mT (m : Nat) (u : World) : Sem.run Try.prog (method 314 116 (.int .i64 m) "loop.example/g01221/impl.turns") u = .ok (240, .int .i64 m) u := by kernel_rfl
theorem burnt_mD (m : Nat) (u : World) : Sem.run Try.prog (method 314 116 (.int .i64 m) "loop.example/g01221/impl.turned") u = .ok (239, .int .i64 m) u := by kernel_rfl

theorem burnt_GP {m : Nat} (h5 : m ≤ 5) : GP (bG m) 116 (.int .i64 m) 240 239 where
  mT := burnt_mT m
  mD := burnt_mD m
  cT := fun args u => by go_simp
  cD := fun args u => by go_simp
  rb := fun _ _ _ _ => trivial
  turns := fun u _ => by
    rw [bks_ramp]
    exact burntTurns_any m u (by omega)
  turned := fun q k u _ hq hk => by
    have h1 := mem_bks.1 hk
    have h2 : q.length = m := hq.2
    exact burntTurned_any _ q k u (by omega) (by omega) (Lib.hid (Burnt.nine hq.1))

theorem isSearchedBurnt_any (n : Int) (w : World) :
    Calls Try.prog 124 #[.int .i64 n] w fun e w' => e = .returned (.bool (inB n 1 5)) ∧ w = w' := by
  go_enter Try.func124, Try.ntmps124
  unfold inB
  by_cases h1 : (1 : Int) ≤ n
  · by_cases h2 : n ≤ 5
    · go_wp2
      go_ret
      simp [h1, h2]
    · have h2' : (5 : Int) < n := by omega
      go_wp2
      go_ret
      simp [h1, h2]
  · have h1' : n < 1 := by omega
    go_wp2
    go_ret
    simp
    omega

set_option maxHeartbeats 800000 in
set_option maxRecDepth 100000 in
theorem burntWayHome_yes (v : Value) (xs : List Int) (w : World) (hv : OwnI w v xs) (hn : xs.length ≤ 1048576) (hw : Wf64 xs) (hg : bfewB xs = true) :
    Calls Try.prog 120 #[v] w fun e w' => ∃ g cap ms, e = .returned (.tuple #[.slice (some ⟨g, 0, none⟩) (bfar xs + 1) cap, .bool true]) ∧ Wv (bG xs.length) w' w.heap.size (.slice (some ⟨g, 0, none⟩) (bfar xs + 1) cap) ms (wayP (bG xs.length) xs (ramp 1 xs.length) (bfar xs) (bfar xs)) ∧ Below w.heap.size w w' := by
  obtain ⟨hS, h1, h5⟩ := bfewB_iff.1 hg
  have HC := Lib.hid (bG_ok h1 h5)
  have HS := Lib.hid (show (bG xs.length).St xs from hS)
  have HH := Lib.hid (show (bG xs.length).St (ramp 1 xs.length) from BSt.ramp h1 (by omega))
  have HP := Lib.hid (burnt_GP h5)
  have h9 : xs.length ≤ 9 := by omega
  have hks : (bG xs.length).ks.length ≤ 1000 := by rw [bks_length]; omega
  have HB := Lib.hid (burntB_iff.2 hS.1)
  have HI := Lib.hid (show inB (xs.length : Int) 1 5 = true from inB_iff.2 ⟨by omega, by omega⟩)
  have c := IsBurnt_any _ xs w hv hn hw
  rw [HB.out] at c
  obtain ⟨ad, cap, rfl, _, _, _⟩ := hv.shape
  clear hS hg hw
  go_enter Try.func120, Try.ntmps120
  go_wp2_with fail
  refine c.mono ?_
  rintro e w1 ⟨rfl, hb1⟩
  clear c
  go_wp2_with fail
  refine (isSearchedBurnt_any _ _).mono ?_
  rintro e w1' ⟨rfl, rfl⟩
  rw [HI.out]
  go_wp2_with fail
  refine (towerOf_any _ xs w1 (hv.same hb1) h9).mono ?_
  rintro e w2 ⟨rfl, hb2⟩
  go_wp2_with fail
  refine (sortedTower_any _ w2 h9).mono ?_
  rintro e w3 ⟨rfl, hb3⟩
  have hB2 := hb1.trans (hb2.mono hb1.size)
  have hB3 := hB2.trans (hb3.mono hB2.size)
  have c4 := way_any (bG xs.length) _ _ _ _ xs (ramp 1 xs.length) w3 HC HP hks HS HH
  go_wp2_with fail
  refine c4.mono ?_
  rintro e w4 ⟨g, cap2, ms, rfl, hW, hb4⟩
  clear c4
  go_wp2
  go_ret2
  exact ⟨g, cap2, ms, rfl, hW.mono hB3.size, hB3.trans (hb4.mono hB3.size)⟩

set_option maxRecDepth 100000 in
theorem burntWayHome_no (v : Value) (xs : List Int) (w : World) (hv : OwnI w v xs) (hn : xs.length ≤ 1048576) (hw : Wf64 xs) (hg : bfewB xs = false) :
    Calls Try.prog 120 #[v] w fun e w' => e = .returned (.tuple #[.slice none 0 0, .bool false]) ∧ Below w.heap.size w w' := by
  have c := IsBurnt_any _ xs w hv hn hw
  obtain ⟨ad, cap, rfl, _, _, _⟩ := hv.shape
  clear hw
  cases hB : burntB xs with
  | true =>
    rw [hB] at c
    have HI := Lib.hid (show inB (xs.length : Int) 1 5 = false by simpa [bfewB, hB] using hg)
    clear hg hB
    go_enter Try.func120, Try.ntmps120
    go_wp2_with fail
    refine c.mono ?_
    rintro e w1 ⟨rfl, hb1⟩
    clear c
    go_wp2_with fail
    refine (isSearchedBurnt_any _ _).mono ?_
    rintro e w1' ⟨rfl, rfl⟩
    rw [HI.out]
    go_wp2
    go_ret2
    exact ⟨rfl, hb1⟩
  | false =>
    rw [hB] at c
    clear hg hB
    go_enter Try.func120, Try.ntmps120
    go_wp2_with fail
    refine c.mono ?_
    rintro e w1 ⟨rfl, hb1⟩
    clear c
    go_wp2
    go_ret2
    exact ⟨rfl, hb1⟩

set_option maxHeartbeats 800000 in
set_option maxRecDepth 100000 in
theorem BurntDistance_any (v : Value) (xs : List Int) (w : World) (hv : OwnI w v xs) (hn : xs.length ≤ 1048576) (hw : Wf64 xs) :
    Calls Try.prog 70 #[v] w fun e w' => e = .returned (.tuple #[.int .i64 (mBurntDistance xs), .bool (bfewB xs)]) ∧ Below w.heap.size w w' := by
  cases hg : bfewB xs with
  | true =>
    have HM := Lib.hid (show mBurntDistance xs = (bfar xs : Int) from if_pos hg)
    have hle := bfar_le hg
    have c := burntWayHome_yes _ xs w hv hn hw hg
    obtain ⟨d, hd⟩ : ∃ d, bfar xs = d := ⟨_, rfl⟩
    rw [hd] at c HM hle
    have hd2 : d + 1 ≤ 1048576 := by omega
    obtain ⟨ad, cap, rfl, _, _, _⟩ := hv.shape
    clear hg hw hd
    go_enter Try.func70, Try.ntmps70
    go_wp2_with fail
    refine c.mono ?_
    rintro e w1 ⟨g, cap2, ms, rfl, hW, hb1⟩
    clear c
    have c2 := wturns_any (some ⟨g, 0, none⟩) (d + 1) cap2 w1 hd2
    rw [Nat.add_sub_cancel] at c2
    go_wp2_with fail
    refine c2.mono ?_
    rintro e w2 ⟨rfl, rfl⟩
    go_wp2
    go_ret2
    exact ⟨by rw [HM.out]; rfl, hb1⟩
  | false =>
    have HM := Lib.hid (show mBurntDistance xs = 0 from if_neg (by rw [hg]; exact Bool.false_ne_true))
    have c := burntWayHome_no _ xs w hv hn hw hg
    obtain ⟨ad, cap, rfl, _, _, _⟩ := hv.shape
    clear hg hw
    go_enter Try.func70, Try.ntmps70
    go_wp2_with fail
    refine c.mono ?_
    rintro e w1 ⟨rfl, hb1⟩
    clear c
    have c2 := wturns_any none 0 0 w1 (by omega)
    go_wp2_with fail
    refine c2.mono ?_
    rintro e w2 ⟨rfl, rfl⟩
    go_wp2
    go_ret2
    exact ⟨by rw [HM.out]; rfl, hb1⟩

set_option maxHeartbeats 1600000 in
set_option maxRecDepth 100000 in
theorem LeastBurnt_any (v : Value) (xs : List Int) (w : World) (hv : OwnI w v xs) (hn : xs.length ≤ 1048576) (hw : Wf64 xs) :
    Calls Try.prog 72 #[v] w fun e w' => ∃ r, e = .returned (.tuple #[r, .bool (bfewB xs)]) ∧ OwnI w' r (mLeastBurnt xs) ∧ From w.heap.size r ∧ Below w.heap.size w w' := by
  cases hg : bfewB xs with
  | true =>
    have HM := Lib.hid (show mLeastBurnt xs = ggoL (bG xs.length) (ramp 1 xs.length) (bfar xs) xs from if_pos hg)
    obtain ⟨hS, h1, h5⟩ := bfewB_iff.1 hg
    have hle := bfar_le hg
    have h9 : xs.length ≤ 9 := by omega
    have c := burntWayHome_yes _ xs w hv hn hw hg
    have HC := Lib.hid (bG_ok h1 h5)
    have HS := Lib.hid (show (bG xs.length).St xs from hS)
    have HH := Lib.hid (show (bG xs.length).St (ramp 1 xs.length) from BSt.ramp h1 (by omega))
    have HP := Lib.hid (burnt_GP h5)
    have hks : (bG xs.length).ks.length ≤ 9 := by rw [bks_length]; omega
    have HD := Lib.hid (show gfar (bG xs.length) xs (ramp 1 xs.length) = bfar xs from rfl)
    obtain ⟨ad, cap, rfl, _, _, _⟩ := hv.shape
    obtain ⟨d, hd⟩ : ∃ d, bfar xs = d := ⟨_, rfl⟩
    rw [hd] at c HM hle HD
    have hd2 : d + 1 ≤ 1048576 := by omega
    clear hS hg hd hw
    go_enter Try.func72, Try.ntmps72
    go_wp2_with fail
    refine c.mono ?_
    rintro e w1 ⟨g, cap2, ms, rfl, hW, hb1⟩
    clear c
    go_wp2_with fail
    refine (towerOf_any _ xs w1 (hv.same hb1) h9).mono ?_
    rintro e w2 ⟨rfl, hb2⟩
    have hW2 := hW.below hb2 (Nat.le_refl _)
    have hB2 := hb1.trans (hb2.mono hb1.size)
    have c3 := firstPlan_any (bG xs.length) _ _ _ _ d _ g cap2 ms xs (ramp 1 xs.length) w2 HC HP hks HS HH HD hd2 hW2
    clear hW hW2
    go_wp2_with fail
    refine c3.mono ?_
    rintro e w3 ⟨r, rfl, ho, hf, hb3⟩
    go_wp2
    go_ret2
    exact ⟨_, rfl, by rw [HM.out]; exact ho, hf.mono hB2.size, hB2.trans (hb3.mono hB2.size)⟩
  | false =>
    have HM := Lib.hid (show mLeastBurnt xs = [] from if_neg (by rw [hg]; exact Bool.false_ne_true))
    have c := burntWayHome_no _ xs w hv hn hw hg
    obtain ⟨ad, cap, rfl, _, _, _⟩ := hv.shape
    clear hg hw
    go_enter Try.func72, Try.ntmps72
    go_wp2_with fail
    refine c.mono ?_
    rintro e w1 ⟨rfl, hb1⟩
    clear c
    go_wp2
    go_ret2
    exact ⟨_, rfl, by rw [HM.out]; exact OwnI.nil _, From.nil _ _ _, hb1⟩

set_option maxHeartbeats 800000 in
set_option maxRecDepth 100000 in
theorem burntWave_any (m : Nat) (w : World) (h1 : 1 ≤ m) (h5 : m ≤ 5) :
    Calls Try.prog 125 #[.int .i64 m] w fun e w' => ∃ g cap ms, e = .returned (.slice (some ⟨g, 0, none⟩) (gecc (bG m) (ramp 1 m) + 1) cap) ∧ Wv (bG m) w' w.heap.size (.slice (some ⟨g, 0, none⟩) (gecc (bG m) (ramp 1 m) + 1 + 1) cap) ms (gnearL (bG m) (ramp 1 m) (gecc (bG m) (ramp 1 m) + 1)) ∧ Below w.heap.size w w' := by
  have HC := Lib.hid (bG_ok h1 h5)
  have HH := Lib.hid (show (bG m).St (ramp 1 m) from BSt.ramp h1 (by omega))
  have HP := Lib.hid (burnt_GP h5)
  have hks : (bG m).ks.length ≤ 1000 := by rw [bks_length]; omega
  go_enter Try.func125, Try.ntmps125
  go_wp2_with fail
  refine (sortedTower_any m w (by omega)).mono ?_
  rintro e w3 ⟨rfl, hb3⟩
  have c4 := wholeWave_any (bG m) _ _ _ _ (ramp 1 m) w3 HC HP hks HH
  go_wp2_with fail
  refine c4.mono ?_
  rintro e w4 ⟨g, cap2, ms, rfl, hW, hb4⟩
  clear c4
  go_wp2
  go_ret
  exact ⟨g, cap2, ms, rfl, hW.mono hb3.size, hb3.trans (hb4.mono hb3.size)⟩

set_option maxHeartbeats 800000 in
set_option maxRecDepth 100000 in
theorem CountBurntBy_any (n : Int) (w : World) :
    Calls Try.prog 74 #[.int .i64 n] w fun e w' => ∃ r, e = .returned (.tuple #[r, .bool (inB n 1 5)]) ∧ OwnI w' r (mCountBurntBy n) ∧ From w.heap.size r ∧ Below w.heap.size w w' := by
  have c := isSearchedBurnt_any n w
  cases hg : inB n 1 5 with
  | true =>
    have HM := Lib.hid (show mCountBurntBy n = bbyL n.toNat from if_pos hg)
    obtain ⟨m, rfl, h1, h5⟩ := inB_five hg
    rw [hg] at c
    rw [Int.toNat_natCast] at HM
    have HC := Lib.hid (bG_ok h1 h5)
    have HH := Lib.hid (show (bG m).St (ramp 1 m) from BSt.ramp h1 (by omega))
    have heb := gecc_le HC.out HH.out
    have hdm := HC.out.dm30
    have c1 := burntWave_any m w h1 h5
    obtain ⟨L, hL⟩ : ∃ L, gecc (bG m) (ramp 1 m) + 1 = L := ⟨_, rfl⟩
    have HL := Lib.hid hL
    have hLb : L ≤ 1001 := by omega
    rw [hL] at c1
    clear hg hL heb hdm
    go_enter Try.func74, Try.ntmps74
    go_wp2_with fail
    refine c.mono ?_
    rintro e w0 ⟨rfl, rfl⟩
    clear c
    go_wp2_with fail
    refine c1.mono ?_
    rintro e w1 ⟨g, cap, ms, rfl, hW, hb1⟩
    clear c1
    have c2 := counts_any (bG m) _ g cap L ms (ramp 1 m) w1 HC HH HL hLb hW
    clear hW
    go_wp2_with fail
    refine c2.mono ?_
    rintro e w3 ⟨r, rfl, ho, hf, hb3⟩
    go_wp2
    go_ret2
    exact ⟨_, rfl, by rw [HM.out]; exact ho, hf.mono hb1.size, hb1.trans (hb3.mono hb1.size)⟩
  | false =>
    have HM := Lib.hid (show mCountBurntBy n = [] from if_neg (by rw [hg]; exact Bool.false_ne_true))
    rw [hg] at c
    clear hg
    go_enter Try.func74, Try.ntmps74
    go_wp2_with fail
    refine c.mono ?_
    rintro e w0 ⟨rfl, rfl⟩
    clear c
    go_wp2
    go_ret2
    exact ⟨_, rfl, by rw [HM.out]; exact OwnI.nil _, From.nil _ _ _, Below.refl _ _⟩

end Go.Proofs.Ytmlikchhkblohaa

namespace Go.Proofs.Ytmlikchhkblohaa
open Go Go.RowKit Go.Pan

theorem absTo_step (xs : List Int) (k : Nat) (h : k < xs.length) : absL (xs.take k) ++ [absI xs[k]] = absL (xs.take (k + 1)) := by
  rw [List.take_succ_eq_append_getElem h]; unfold absL; rw [List.map_append]; rfl

set_option maxHeartbeats 400000 in
theorem buForget_any (v : Value) (xs : List Int) (w : World) (hv : OwnI w v xs) (hn : xs.length ≤ 1048576) (hb : Hid (∀ x ∈ xs, -1048576 ≤ x ∧ x ≤ 1048576)) :
    Calls Try.prog 167 #[v] w fun e w' => ∃ r, e = .returned r ∧ OwnI w' r (absL xs) ∧ From w.heap.size r ∧ Below w.heap.size w w' := by
  obtain ⟨ad, cap, rfl, hc, _, _⟩ := hv.shape
  go_enter Try.func167, Try.ntmps167
  go_wp2
  go_loopw [3, 5, 8] (fun o _ i wr => ∃ k : Nat, k ≤ xs.length ∧ i = .int .i64 k ∧ OwnI wr o (absL (xs.take k)) ∧ From w.heap.size o ∧ Below w.heap.size w wr) (fun _ _ i _ => xs.length - (intOf i).toNat)
  case atStart => exact ⟨0, Nat.zero_le _, rfl, by simpa [absL] using OwnI.nil w, From.nil _ _ _, Below.refl _ _⟩
  case round =>
    obtain ⟨k, hk, rfl, ho, hf, hbr⟩ := hrel
    by_cases hlt : k < xs.length
    · obtain ⟨g, off, rfl, hgl, hcell, hfz⟩ := hv.at (by omega)
      have hck := hcell k (by omega)
      rw [List.getElem?_map, List.getElem?_eq_getElem hlt] at hck
      have hc1 := (hbr.cell (p := ⟨g, off + k, none⟩) hgl).trans hck
      have hx := hb.out _ (List.getElem_mem hlt)
      have hx1 := hx.1
      have hx2 := hx.2
      have HS := Lib.hid (absTo_step xs k hlt)
      have hlen : (absL (xs.take k)).length ≤ 1048576 := by rw [absL_length, List.length_take]; omega
      have hs := hbr.size
      clear hcell hfz hck hv hx
      go_wp2_with fail
      refine (l1Abs_any _ _ hx1 hx2).mono ?_
      rintro e w1 ⟨rfl, rfl⟩
      go_wp2_with (at_builtin; refine wpList_app1 Try.intSl rfl _ _ rfl _ (absL (xs.take k)) rfl (ho.alloc _) w.heap.size hf wr.heap.size (absI xs[k]) rfl ?c1 w (hbr.alloc hs _) ?c2 hlen ?_)
      case c1 => simp [go_sem]
      case c2 => simp; exact Nat.le_succ_of_le hs
      intro v' w1 ho' hf' hb' _
      rw [HS.out] at ho'
      clear HS ho hf hbr
      go_wp2
      go_roundw
      case rel => exact ⟨k + 1, by omega, by go_num, ho', hf', hb'⟩
      case measure => simp [intOf] <;> omega
    · obtain rfl : k = xs.length := by omega
      clear hv
      rw [List.take_length] at ho
      go_wp2
      go_ret
      exact ⟨_, rfl, ho, hf, hbr⟩

theorem buGood_any (v : Value) (xs : List Int) (w : World) (hv : OwnI w v xs) (hn : xs.length ≤ 1048576) :
    Calls Try.prog 165 #[v] w fun e w' => e = .returned (.bool (burntB xs)) ∧ Below w.heap.size w w' := by
  cases ha : allB xs (-9) 9 with
  | true =>
    have hal := allB_iff.1 ha
    have HX := Lib.hid (show ∀ x ∈ xs, -1048576 ≤ x ∧ x ≤ 1048576 from fun x hx => by have := hal x hx; omega)
    have hla : (absL xs).length ≤ 1048576 := by rw [absL_length]; exact hn
    have HA := Lib.hid ha
    clear ha hal
    go_enter Try.func165, Try.ntmps165
    go_wp2_with fail
    refine (l1All_any _ _ _ _ _ hv hn).mono ?_
    rintro e w1 ⟨rfl, hb⟩
    rw [HA.out]
    go_wp2_with fail
    refine (buForget_any _ _ _ (hv.same hb) hn HX).mono ?_
    rintro e w2 ⟨r, rfl, ho, hf, hb2⟩
    go_wp2_with fail
    refine (stGood_any _ _ _ ho hla).mono ?_
    rintro e w3 ⟨rfl, hb3⟩
    go_wp2
    go_ret
    exact ⟨rfl, (hb.trans (hb2.mono hb.size)).trans (hb3.mono (Nat.le_trans hb.size hb2.size))⟩
  | false =>
    have HM := Lib.hid (burnt_not ha)
    have HA := Lib.hid ha
    clear ha
    go_enter Try.func165, Try.ntmps165
    go_wp2_with fail
    refine (l1All_any _ _ _ _ _ hv hn).mono ?_
    rintro e w1 ⟨rfl, hb⟩
    rw [HA.out]
    go_wp2
    go_ret
    exact ⟨by rw [HM.out]; rfl, hb⟩

set_option maxHeartbeats 400000 in
theorem buTurn_any (v : Value) (xs : List Int) (k : Nat) (w : World) (hv : OwnI w v xs) (hn : xs.length ≤ 1048576) (hk : k ≤ xs.length) (hb : Hid (∀ x ∈ xs, -1048576 ≤ x ∧ x ≤ 1048576)) :
    Calls Try.prog 122 #[v, .int .i64 k] w fun e w' => ∃ r, e = .returned r ∧ OwnI w' r (bturnL xs k) ∧ From w.heap.size r ∧ Below w.heap.size w w' := by
  obtain ⟨ad, cap, rfl, hc, _, _⟩ := hv.shape
  go_enter Try.func122, Try.ntmps122
  go_wp2
  go_loopw [5, 6] (fun o i wr => ∃ j : Nat, j ≤ k ∧ i = .int .i64 ((k : Int) - 1 - j) ∧ OwnI wr o ((revNeg xs k).take j) ∧ From w.heap.size o ∧ Below w.heap.size w wr) (fun _ i _ => (intOf i + 1).toNat)
  case atStart => exact ⟨0, Nat.zero_le _, by go_num, by simpa using OwnI.nil w, From.nil _ _ _, Below.refl _ _⟩
  case round =>
    obtain ⟨j, hj, rfl, ho, hf, hbr⟩ := hrel
    have hso := hv.below hbr (Nat.le_refl _)
    by_cases hlt : j < k
    · obtain ⟨g, off, rfl, hgl, hcell, hfz⟩ := hso.at (by omega)
      obtain ⟨m, hm⟩ : ∃ m : Nat, m = k - 1 - j := ⟨_, rfl⟩
      have hmi : (k : Int) - 1 - j = (m : Int) := by omega
      have hml : m < xs.length := by omega
      have hck := hcell m (by omega)
      rw [List.getElem?_map, List.getElem?_eq_getElem hml] at hck
      have HS := Lib.hid (bturnTo_step xs k j hk hlt xs[m] (by subst hm; rfl))
      have HM := Lib.hid hmi
      have hx := hb.out _ (List.getElem_mem hml)
      have hx1 := hx.1
      have hx2 := hx.2
      have hlen : ((revNeg xs k).take j).length ≤ 1048576 := by rw [List.length_take]; omega
      rw [hmi]
      have hmk : m < k := by omega
      clear hcell hfz hv hso hmi hm hx
      go_wp2_with (at_builtin; refine wpList_app1 Try.intSl rfl _ _ rfl _ ((revNeg xs k).take j) rfl (ho.alloc _) w.heap.size hf wr.heap.size (-xs[m]) rfl ?c1 w (hbr.alloc hbr.size _) ?c2 hlen ?_)
      case c1 => simp [go_sem]
      case c2 => simp; exact Nat.le_succ_of_le hbr.size
      intro v' w1 ho' hf' hb' _
      rw [HS.out] at ho'
      clear HS ho hf hbr hck
      go_wp2
      go_roundw
      case rel => exact ⟨j + 1, by omega, by have := HM.out; go_num, ho', hf', hb'⟩
      case measure => simp [intOf] <;> omega
    · obtain rfl : j = k := by omega
      have HE := Lib.hid (show ((revNeg xs j).take j) ++ xs.drop j = bturnL xs j by rw [List.take_of_length_le (by simp [revNeg]; omega), bturnL_eq xs j hk]; rfl)
      have hl1 : ((revNeg xs j).take j).length ≤ 1048576 := by rw [List.length_take]; omega
      have hl2 : (xs.drop j).length ≤ 1048576 := by simp; omega
      clear hv
      go_wp2_with (first | (refine wpList_from Try.intSl rfl _ _ rfl ad xs.length cap j rfl rfl hk xs rfl hso ?_; intro sp m c hm hod hsrc _) | (at_builtin; refine wpList_appI Try.intSl rfl _ _ rfl _ _ rfl ho w.heap.size hf sp m c (xs.drop j) rfl hm.out hsrc w hbr hbr.size hl1 hl2 ?_))
      intro v' w1 ho' hf' hb' _
      rw [HE.out] at ho'
      go_wp2
      go_ret
      exact ⟨_, rfl, ho', hf', hb'⟩

theorem Burnt.small {xs : List Int} (h : Burnt xs) : ∀ x ∈ xs, -1048576 ≤ x ∧ x ≤ 1048576 := fun x hx => by have := h.bd hx; omega

def BPlayTo (xs p : List Int) (k : Nat) : List Int := bplayL xs (p.take k)
theorem BPlayTo_length (xs p : List Int) (k : Nat) : (BPlayTo xs p k).length = xs.length := bplayL_length _ _
theorem BPlayTo_step (xs p : List Int) (k : Nat) (h : k < p.length) (j : Nat) (hj : p[k] = (j : Int)) : bturnL (BPlayTo xs p k) j = BPlayTo xs p (k + 1) := by
  unfold BPlayTo
  rw [bplayL_take_succ xs p k h, hj]
  simp

end Go.Proofs.Ytmlikchhkblohaa

namespace Go.Pan
theorem signN_snoc (l : List Int) (x : Int) : signN (l ++ [x]) = 2 * signN l + if x < 0 then 1 else 0 := by
  induction l with
  | nil => simp [signN]
  | cons y l ih =>
    simp only [List.cons_append, signN, ih, List.length_append, List.length_cons, List.length_nil]
    rw [Nat.pow_succ]
    split <;> omega
theorem signN_step (xs : List Int) (k : Nat) (h : k < xs.length) : signN (xs.take (k + 1)) = 2 * signN (xs.take k) + if xs[k] < 0 then 1 else 0 := by
  rw [List.take_succ_eq_append_getElem h, signN_snoc]
theorem signN_few (xs : List Int) (k : Nat) (h : xs.length ≤ 9) : signN (xs.take k) ≤ 512 := by
  have h1 := signN_lt (xs.take k)
  have h2 : (2 : Nat) ^ (xs.take k).length ≤ 2 ^ 9 := Nat.pow_le_pow_right (by omega) (by rw [List.length_take]; omega)
  omega

end Go.Pan

namespace Go.Proofs.Ytmlikchhkblohaa
open Go Go.RowKit Go.Pan

set_option maxHeartbeats 800000 in
set_option maxRecDepth 100000 in
theorem buRank_any (v : Value) (xs : List Int) (w : World) (hv : OwnI w v xs) (h9 : xs.length ≤ 9) (hb : Hid (∀ x ∈ xs, -1048576 ≤ x ∧ x ≤ 1048576)) :
    Calls Try.prog 119 #[v] w fun e w' => e = .returned (.int .i64 (brank xs : Nat)) ∧ Below w.heap.size w w' := by
  obtain ⟨ad, cap, rfl, hc, _, _⟩ := hv.shape
  have hn : xs.length ≤ 1048576 := by omega
  have c := buForget_any _ xs w hv hn hb
  have ha9 : (absL xs).length ≤ 9 := by rw [absL_length]; exact h9
  have hrb : rankL (absL xs) ≤ 362880 := by
    have h1 := rankL_lt (absL xs)
    have h2 := fact_mono ha9
    have h3 : fact 9 = 362880 := rfl
    omega
  have hpw : (2 : Nat) ^ xs.length ≤ 512 := by
    have h2 : (2 : Nat) ^ xs.length ≤ 2 ^ 9 := Nat.pow_le_pow_right (by omega) h9
    omega
  have hm := Nat.mul_le_mul hrb hpw
  have HS := Lib.hid (show ((brank xs : Nat) : Int) = ((rankL (absL xs) : Nat) : Int) * 2 ^ xs.length + (signN xs : Nat) by unfold brank; simp)
  have hp0 : (0 : Int) ≤ ((rankL (absL xs) : Nat) : Int) * 2 ^ xs.length := Int.mul_nonneg (by omega) (Int.le_of_lt (Int.pow_pos (by decide)))
  have hp1 : ((rankL (absL xs) : Nat) : Int) * 2 ^ xs.length ≤ (185794560 : Int) := by
    have h : (((rankL (absL xs) * 2 ^ xs.length : Nat)) : Int) = ((rankL (absL xs) : Nat) : Int) * 2 ^ xs.length := by simp
    omega
  clear hrb hpw hm
  go_enter Try.func119, Try.ntmps119
  go_wp2
  go_loop [3, 5, 8] (fun s _ i => ∃ k : Nat, k ≤ xs.length ∧ i = .int .i64 k ∧ s = .int .i64 (signN (xs.take k) : Nat)) (fun _ _ i => xs.length - (intOf i).toNat)
  case atStart => exact ⟨0, Nat.zero_le _, rfl, rfl⟩
  case round =>
    obtain ⟨k, hk, rfl, rfl⟩ := hrel
    have hsf := signN_few xs k h9
    by_cases hlt : k < xs.length
    · obtain ⟨g, off, rfl, hgl, hcell, hfz⟩ := hv.at (by omega)
      have hck := hcell k (by omega)
      rw [List.getElem?_map, List.getElem?_eq_getElem hlt] at hck
      have HT := Lib.hid (signN_step xs k hlt)
      obtain ⟨x, hx⟩ : ∃ x, xs[k] = x := ⟨_, rfl⟩
      rw [hx] at hck HT
      clear hcell hfz hv hx c
      by_cases hx0 : x < 0
      · have HN := Lib.hid (show ((signN (xs.take (k + 1)) : Nat) : Int) = (signN (xs.take k) : Nat) * 2 + 1 by rw [HT.out, if_pos hx0]; omega)
        go_wp2
        go_round
        case rel => exact ⟨k + 1, by omega, by go_num, by rw [HN.out]⟩
        case measure => simp [intOf] <;> omega
      · have HN := Lib.hid (show ((signN (xs.take (k + 1)) : Nat) : Int) = (signN (xs.take k) : Nat) * 2 by rw [HT.out, if_neg hx0]; omega)
        have hx0' : 0 ≤ x := by omega
        go_wp2
        go_round
        case rel => exact ⟨k + 1, by omega, by go_num, by rw [HN.out]⟩
        case measure => simp [intOf] <;> omega
    · obtain rfl : k = xs.length := by omega
      have HA := Lib.hid (show xs.take xs.length = xs from List.take_length)
      go_wp2_with fail
      refine c.mono ?_
      rintro e w1 ⟨r, rfl, ho, hf, hb1⟩
      clear c
      go_wp2_with fail
      refine (faRank_any _ _ w1 ho ha9).mono ?_
      rintro e w2 ⟨rfl, rfl⟩
      rw [HA.out] at hsf
      go_wp2
      go_ret
      exact ⟨by rw [HS.out]; rfl, hb1⟩

theorem buFew_any (v : Value) (xs : List Int) (w : World) (hv : OwnI w v xs) (hn : xs.length ≤ 1048576) :
    Calls Try.prog 117 #[v] w fun e w' => e = .returned (.bool (bfewB xs)) ∧ Below w.heap.size w w' := by
  obtain ⟨ad, cap, rfl, hc, _, _⟩ := hv.shape
  have c := buGood_any _ xs w hv hn
  cases hg : burntB xs with
  | true =>
    have HF := Lib.hid (show bfewB xs = decide ((xs.length : Int) ≤ 5) by
      have h1 := (burntB_iff.1 hg).len
      unfold bfewB inB
      rw [hg]
      simp
      omega)
    rw [hg] at c
    clear hg
    go_enter Try.func117, Try.ntmps117
    go_wp2_with fail
    refine c.mono ?_
    rintro e w1 ⟨rfl, hb⟩
    clear c
    go_wp2
    go_ret
    exact ⟨by rw [HF.out]; rfl, hb⟩
  | false =>
    have HF := Lib.hid (show bfewB xs = false by unfold bfewB; rw [hg]; rfl)
    rw [hg] at c
    clear hg
    go_enter Try.func117, Try.ntmps117
    go_wp2_with fail
    refine c.mono ?_
    rintro e w1 ⟨rfl, hb⟩
    clear c
    go_wp2
    go_ret
    exact ⟨by rw [HF.out]; rfl, hb⟩

end Go.Proofs.Ytmlikchhkblohaa

namespace Go.Pan
theorem bsize_step (m j : Nat) : fact (j + 1) * 2 ^ m * (j + 2) = fact (j + 2) * 2 ^ m := by
  rw [show fact (j + 2) = (j + 2) * fact (j + 1) from rfl, Nat.mul_comm, Nat.mul_assoc]
theorem bsize_le {m j : Nat} (h5 : m ≤ 5) (hj : j ≤ m) : fact j * 2 ^ m ≤ 3840 := by
  have h1 := Nat.mul_le_mul_right (2 ^ m) (fact_mono hj)
  have h2 := bBd_few h5
  rw [bBd_N] at h2
  omega

end Go.Pan

namespace Go.Proofs.Ytmlikchhkblohaa
open Go Go.RowKit Go.Pan

theorem infoBL : (Try.prog.info? 106).map (fun i => (i.zero, i.size)) = some (some (.agg #[.slice none 0 0, .slice none 0 0]), 2) := by kernel_rfl

theorem step_store_new2 {P : Program} {ops : Array Oper} {o : Oper} {a : Act} {w : World} {K : Act → World → Prop} {Q : Exit → Act → World → Prop} {E : Prop}
    (hgd : o.guard = none) (ty : TypeId) (x y : Operand) (ho : o.op = .store ty x y) (g : Nat) (c0 c1 : Value) (hx : a.eval x = .pointer (some ⟨g, 0, none⟩)) (hy : a.eval y = .agg #[c0, c1])
    (t : TypeId) (old : List Value) (hg : Blk w g t old) (hi : (P.info? ty).map (·.size) = some 2) (hold : old.length = 2) (h1 : c0.oneCell' = true ∧ c1.oneCell' = true)
    (h : ∀ w', Blk w' g t [c0, c1] → w.grownBy w' (some g) → K (a.put o.dst undef) w') :
    if Region.wanted o (yielded ops a.tmps) = true then Oper.wp P o a w K Q else E := by
  have hw : Region.wanted o (yielded ops a.tmps) = true := by simp [Region.wanted, hgd]
  rw [if_pos hw]
  exact wp_store_row ty x y ho g #[c0, c1] hx hy t old.toArray hg (by simpa using hi) (by simpa using hold) (by simp [h1]) (h _ (hg.setRow [c0, c1]) ⟨rfl, rfl, rfl, by simp [World.setRow], fun k _ hk => setRow_other w g k _ (fun e => hk (by rw [e]))⟩)
theorem wpList_store2 {P : Program} {ops : Array Oper} {rest : List Oper} {o : Oper} {a : Act} {w : World} {Q : Exit → Act → World → Prop}
    (hgd : o.guard = none) (ty : TypeId) (x y : Operand) (ho : o.op = .store ty x y) (g : Nat) (c0 c1 : Value) (hx : a.eval x = .pointer (some ⟨g, 0, none⟩)) (hy : a.eval y = .agg #[c0, c1])
    (t : TypeId) (old : List Value) (hg : Blk w g t old) (hi : (P.info? ty).map (·.size) = some 2) (hold : old.length = 2) (h1 : c0.oneCell' = true ∧ c1.oneCell' = true)
    (h : wpList P ops Q rest (a.put o.dst undef) (w.setRow g #[c0, c1])) : wpList P ops Q (o :: rest) a w :=
  wpList_store_row hgd ty x y ho g #[c0, c1] hx hy t old.toArray hg (by simpa using hi) (by simpa using hold) (by simp [h1]) h
theorem wpList_load2 {P : Program} {ops : Array Oper} {rest : List Oper} {o : Oper} {a : Act} {w : World} {Q : Exit → Act → World → Prop}
    (hgd : o.guard = none) (ty : TypeId) (x : Operand) (ho : o.op = .load ty x) (g : Nat) (c0 c1 : Value) (hx : a.eval x = .pointer (some ⟨g, 0, none⟩))
    (t : TypeId) (hg : Blk w g t [c0, c1]) {d : TypeDesc} (hu : P.underlying ty = some d) (hs : (match d with | .struct _ | .array _ _ => true | _ => false) = true) (hi : (P.info? ty).map (·.size) = some 2)
    (h : wpList P ops Q rest (a.put o.dst (.agg #[c0, c1])) w) : wpList P ops Q (o :: rest) a w :=
  wpList_load_row hgd ty x ho g hx t #[c0, c1] _ _ hg hu hs (by simpa using hi) h

/-- the blocks of the two slices and of the struct -/
structure BA0 (B N : Nat) (w : World) (bl a s : Nat) (F : List Int) (S : List Value) : Prop where
  l : Blk w bl 106 [.slice (some ⟨a, 0, none⟩) N N, .slice (some ⟨s, 0, none⟩) N N]
  far : Blk w a 3 (F.map iv)
  st : Blk w s 22 S
  ba : B ≤ a
  bs : B ≤ s
  bb : B ≤ bl
  ne : a ≠ s ∧ bl ≠ a ∧ bl ≠ s
def CutB (N : Nat) (w W : World) (s5 : Value) (wx : World) : Prop := ∃ bl a s, s5 = .pointer (some ⟨bl, 0, none⟩) ∧
  BA0 (w.heap.size + 1) N wx bl a s (List.replicate N 0) (List.replicate N (.slice none 0 0)) ∧ Below W.heap.size W wx

theorem leafB {N : Nat} {w W m1 m2 m3 m4 : World} {bl a s : Nat} (hW : W.heap.size = w.heap.size + 1) (h1 : W.drew.grownBy m1 none) (h2 : m1.grownBy m2 none) (h3 : m2.grownBy m3 none)
    (l1 : W.drew.heap.size < m1.heap.size) (l2 : m1.heap.size < m2.heap.size) (l3 : m2.heap.size < m3.heap.size) (g4 : m3.grownBy m4 (some bl))
    (f4 : Blk m4 bl 106 [.slice (some ⟨a, 0, none⟩) N N, .slice (some ⟨s, 0, none⟩) N N])
    (fa : Blk m3 a 3 (List.replicate N (iv 0))) (fs : Blk m3 s 22 (List.replicate N (.slice none 0 0)))
    (b1 : W.drew.heap.size ≤ bl) (b2 : W.drew.heap.size ≤ a) (b4 : W.drew.heap.size ≤ s) (hne : a ≠ s ∧ bl ≠ a ∧ bl ≠ s) : CutB N w W (.pointer (some ⟨bl, 0, none⟩)) m4 := by
  have e : W.drew.heap.size = W.heap.size := rfl
  refine ⟨bl, a, s, rfl, ⟨f4, ?_, ?_, by omega, by omega, by omega, hne⟩, ?_⟩
  · rw [List.map_replicate]; exact fa.grown g4 (by simp; omega)
  · exact fs.grown g4 (by simp; omega)
  · have hb : Below W.heap.size W m3 := ((Below.grown (Below.refl W.heap.size W).drew h1 (Nat.le_refl _) (by intro k hk; cases hk)).grown h2 (by omega) (by intro k hk; cases hk)).grown h3 (by omega) (by intro k hk; cases hk)
    exact hb.grown g4 (by omega) (by intro k hk; cases hk; omega)

theorem heapB_ne {w : World} {b j : Nat} {u : Value} {g : Nat} (h : g ≠ b) : (w.setCell ⟨b, j, none⟩ u).heap[g]? = w.heap[g]? := heap_setCell_other w ⟨b, j, none⟩ g u h

/-- all that the search has laid: the struct, its two slices, the rows of the second; qb the queue's block -/
structure BA (B N : Nat) (w : World) (bl a s : Nat) (qb : Option Nat) (F : List Int) (S : List Value) (X : List (List Int)) : Prop extends BA0 B N w bl a s F S where
  lF : F.length = N
  lS : S.length = N
  lX : X.length = N
  row : ∀ (i : Nat) (u : Value) (xs : List Int), S[i]? = some u → X[i]? = some xs → OwnI w u xs ∧ ∀ g, u.ownBlock = some g → B ≤ g ∧ g ≠ bl ∧ g ≠ a ∧ g ≠ s ∧ qb ≠ some g
  nq : qb ≠ some bl ∧ qb ≠ some a ∧ qb ≠ some s
section
variable {B N : Nat} {w w' : World} {bl a s : Nat} {qb : Option Nat} {F : List Int} {S : List Value} {X : List (List Int)}
theorem BA.keptB (h : BA B N w bl a s qb F S X) (hk : ∀ g, B ≤ g → g < w.heap.size → qb ≠ some g → w'.heap[g]? = w.heap[g]?) : BA B N w' bl a s qb F S X := by
  have k : ∀ {g : Nat} {ty : TypeId} {cs : List Value}, Blk w g ty cs → B ≤ g → qb ≠ some g → Blk w' g ty cs := fun {g ty cs} hb hB hq => by
    unfold Blk
    rw [hk g hB hb.lt hq]
    exact hb
  exact ⟨⟨k h.l h.bb h.nq.1, k h.far h.ba h.nq.2.1, k h.st h.bs h.nq.2.2, h.ba, h.bs, h.bb, h.ne⟩, h.lF, h.lS, h.lX, fun i u xs hu hx => by
    obtain ⟨h1, h2⟩ := h.row i u xs hu hx
    exact ⟨h1.kept fun g hg => hk g (h2 g hg).1 (h1.lt g hg) (h2 g hg).2.2.2.2, h2⟩, h.nq⟩
theorem BA.kept (h : BA B N w bl a s qb F S X) (hk : ∀ g, g < w.heap.size → qb ≠ some g → w'.heap[g]? = w.heap[g]?) : BA B N w' bl a s qb F S X := h.keptB fun g _ h1 h2 => hk g h1 h2
theorem BA.below (h : BA B N w bl a s qb F S X) {M : Nat} (hb : Below M w w') (hN : w.heap.size ≤ M) : BA B N w' bl a s qb F S X := h.kept fun g hg _ => hb.block g (Nat.lt_of_lt_of_le hg hN)
theorem BA.grown (h : BA B N w bl a s qb F S X) (hg : w.grownBy w' qb) : BA B N w' bl a s qb F S X := h.kept fun g hl hq => hg.block g hl (fun e => hq e.symm)
theorem BA.alloc (h : BA B N w bl a s qb F S X) (o : Obj) : BA B N (w.alloc o) bl a s qb F S X := h.kept fun g hl _ => Below.heap_alloc w o g hl
theorem BA.drewN (h : BA B N w bl a s qb F S X) (k : Nat) : BA B N (w.drewN k) bl a s qb F S X := h.kept fun _ _ _ => rfl
theorem BA.requeue (h : BA B N w bl a s qb F S X) {g0 : Nat} (hq : qb = some g0 ∨ w.heap.size ≤ g0) : BA B N w bl a s (some g0) F S X := by
  rcases hq with rfl | hq
  · exact h
  · have k : ∀ {g : Nat} {ty : TypeId} {cs : List Value}, Blk w g ty cs → some g0 ≠ some g := fun {g ty cs} hb e => by have := hb.lt; cases e; omega
    exact ⟨h.toBA0, h.lF, h.lS, h.lX, fun i u xs hu hx => by
      obtain ⟨h1, h2⟩ := h.row i u xs hu hx
      exact ⟨h1, fun g hg => ⟨(h2 g hg).1, (h2 g hg).2.1, (h2 g hg).2.2.1, (h2 g hg).2.2.2.1, fun e => by have := h1.lt g hg; cases e; omega⟩⟩, ⟨k h.l, k h.far, k h.st⟩⟩
theorem BA.grownQ (h : BA B N w bl a s qb F S X) (hg : w.grownBy w' qb) {g0 : Nat} (hq : qb = some g0 ∨ w.heap.size ≤ g0) : BA B N w' bl a s (some g0) F S X := by
  have h1 := h.grown hg
  have h2 := h.requeue hq
  exact ⟨h1.toBA0, h1.lF, h1.lS, h1.lX, fun i u xs hu hx => ⟨(h1.row i u xs hu hx).1, (h2.row i u xs hu hx).2⟩, h2.nq⟩
theorem BA.cl (h : BA0 B N w bl a s F S) : w.cell? ⟨bl, 0, none⟩ = some (.slice (some ⟨a, 0, none⟩) N N) ∧ w.cell? ⟨bl, 1, none⟩ = some (.slice (some ⟨s, 0, none⟩) N N) :=
  ⟨by rw [h.l.cell 0]; rfl, by rw [h.l.cell 1]; rfl⟩
theorem BA.cF (h : BA0 B N w bl a s F S) (j : Nat) (hj : j < F.length) : w.cell? ⟨a, j, none⟩ = some (iv F[j]) ∧ w.frozen? ⟨a, j, none⟩ = false :=
  ⟨by rw [h.far.cell j, List.getElem?_map, List.getElem?_eq_getElem hj]; rfl, h.far.frozen j⟩
theorem BA.cS (h : BA0 B N w bl a s F S) (j : Nat) (hj : j < S.length) : w.cell? ⟨s, j, none⟩ = some S[j] ∧ w.frozen? ⟨s, j, none⟩ = false :=
  ⟨by rw [h.st.cell j, List.getElem?_eq_getElem hj], h.st.frozen j⟩
theorem BA0.setF (h : BA0 B N w bl a s F S) (j : Nat) (x : Int) : BA0 B N (w.setCell ⟨a, j, none⟩ (iv x)) bl a s (F.set j x) S := by
  obtain ⟨n1, n2, n3⟩ := h.ne
  refine ⟨h.l.other n2 _, ?_, h.st.other (by simpa using n1.symm) _, h.ba, h.bs, h.bb, h.ne⟩
  rw [List.map_set]
  exact h.far.set j _
theorem BA0.setS (h : BA0 B N w bl a s F S) (j : Nat) (u : Value) : BA0 B N (w.setCell ⟨s, j, none⟩ u) bl a s F (S.set j u) := by
  obtain ⟨n1, n2, n3⟩ := h.ne
  exact ⟨h.l.other n3 _, h.far.other n1 _, h.st.set j _, h.ba, h.bs, h.bb, h.ne⟩
theorem BA.setF (h : BA B N w bl a s qb F S X) (j : Nat) (x : Int) : BA B N (w.setCell ⟨a, j, none⟩ (iv x)) bl a s qb (F.set j x) S X :=
  ⟨h.toBA0.setF j x, by rw [List.length_set]; exact h.lF, h.lS, h.lX, fun i u xs hu hx => by
    obtain ⟨h1, h2⟩ := h.row i u xs hu hx
    exact ⟨h1.kept fun g hg => heapB_ne (h2 g hg).2.2.1, h2⟩, h.nq⟩
theorem BA.setS (h : BA B N w bl a s qb F S X) (j : Nat) (v : Value) (ys : List Int) (hv : OwnI w v ys) (hb : ∀ g, v.ownBlock = some g → B ≤ g ∧ g ≠ bl ∧ g ≠ a ∧ g ≠ s ∧ qb ≠ some g) :
    BA B N (w.setCell ⟨s, j, none⟩ v) bl a s qb F (S.set j v) (X.set j ys) :=
  ⟨h.toBA0.setS j v, h.lF, by rw [List.length_set]; exact h.lS, by rw [List.length_set]; exact h.lX, fun i u xs hu hx => by
    by_cases e : j = i
    · subst e
      have hl : j < S.length := by have := (List.getElem?_eq_some_iff.1 hu).1; simpa using this
      have hl2 : j < X.length := by have := (List.getElem?_eq_some_iff.1 hx).1; simpa using this
      rw [List.getElem?_set_self hl] at hu
      rw [List.getElem?_set_self hl2] at hx
      cases hu
      cases hx
      exact ⟨hv.kept fun g hg => heapB_ne (hb g hg).2.2.2.1, hb⟩
    · rw [List.getElem?_set_ne e] at hu hx
      obtain ⟨h1, h2⟩ := h.row i u xs hu hx
      exact ⟨h1.kept fun g hg => heapB_ne (h2 g hg).2.2.2.1, h2⟩, h.nq⟩
/-- a new slice lies elsewhere -/
theorem BA.new (h : BA B N w bl a s qb F S X) {v : Value} (hf : From w.heap.size v) (hB : B ≤ w.heap.size) (hq : ∀ g, qb = some g → g < w.heap.size) : ∀ g, v.ownBlock = some g → B ≤ g ∧ g ≠ bl ∧ g ≠ a ∧ g ≠ s ∧ qb ≠ some g := fun g hg => by
  have h1 := hf g hg
  have h2 := h.l.lt
  have h3 := h.far.lt
  have h5 := h.st.lt
  exact ⟨by omega, by omega, by omega, by omega, fun e => by have := hq g e; omega⟩
theorem BA.start (h : BA0 B N w bl a s F (List.replicate N (.slice none 0 0))) (hF : F.length = N) : BA B N w bl a s none F (List.replicate N (.slice none 0 0)) (List.replicate N []) :=
  ⟨h, hF, by simp, by simp, fun i u xs hu hx => by
    have e1 := List.mem_of_getElem? hu
    have e2 := List.mem_of_getElem? hx
    rw [List.mem_replicate] at e1 e2
    obtain ⟨_, rfl⟩ := e1
    obtain ⟨_, rfl⟩ := e2
    exact ⟨OwnI.nil w, fun g hg => by simp [Value.ownBlock] at hg⟩, by simp⟩
end
/-- the layers that are returned -/
structure BAR (g : Bd) (u : Nat → List Int) (w : World) (v1 v2 : Value) (S : List Value) : Prop where
  far : OwnI w v1 (sFar g)
  st : Go.Pan.Own w 1 v2 g.N S
  row : ∀ (i : Nat) (x : Value) (xs : List Int), S[i]? = some x → (sAll g u)[i]? = some xs → OwnI w x xs
theorem BAR.below {g : Bd} {u : Nat → List Int} {w w' : World} {v1 v2 : Value} {S : List Value} (h : BAR g u w v1 v2 S) {M : Nat} (hb : Below M w w') (hN : w.heap.size ≤ M) : BAR g u w' v1 v2 S :=
  ⟨h.far.below hb hN, h.st.below hb hN, fun i x xs hu hx => (h.row i x xs hu hx).below hb hN⟩
theorem BAR.mk' {g : Bd} {u : Nat → List Int} {B N : Nat} {w : World} {bl a s : Nat} {qb : Option Nat} {F : List Int} {S : List Value} {X : List (List Int)} (h : BA B N w bl a s qb F S X) (hN : g.N = N) (hl : N ≤ 1048576) (hF : F = sFar g) (hX : X = sAll g u) :
    BAR g u w (.slice (some ⟨a, 0, none⟩) N N) (.slice (some ⟨s, 0, none⟩) N N) S := by
  subst hF; subst hX; subst hN
  refine ⟨OwnI.of_blk0 h.far (sFar_length g).symm (by omega), ?_, fun i x xs hu hx => (h.row i x xs hu hx).1⟩
  refine ⟨_, g.N, rfl, by rw [h.lS]; simp, Nat.le_refl _, by unfold maxLen; omega, by simp, fun a ha => ?_⟩
  cases ha
  refine ⟨rfl, _, _, h.st, by simp [h.lS], fun j hj => by simp⟩

set_option maxHeartbeats 4000000 in
set_option maxRecDepth 100000 in
theorem buAll_any (n N : Nat) (w : World) (h1 : 1 ≤ n) (h5 : n ≤ 5) (hN : Hid ((bBd n).N = N)) :
    Calls Try.prog 118 #[.int .i64 n] w fun e w' => ∃ a s S, e = .returned (.agg #[.slice (some ⟨a, 0, none⟩) N N, .slice (some ⟨s, 0, none⟩) N N]) ∧
      BAR (bBd n) (bun n) w' (.slice (some ⟨a, 0, none⟩) N N) (.slice (some ⟨s, 0, none⟩) N N) S ∧ Below w.heap.size w w' := by
  have HG := Lib.hid (bBd_ok h1 h5)
  obtain ⟨iI, hI, hI0, hI1, hI2⟩ := info_parts Try.info3
  obtain ⟨iS, hS, hS0, hS1, hS2⟩ := info_parts Try.info22
  have HI := Lib.hid hI
  have HI0 := Lib.hid hI0
  have HI1 := Lib.hid hI1
  have HI2 := Lib.hid hI2
  have HS := Lib.hid hS
  have HS0 := Lib.hid hS0
  have HS1 := Lib.hid hS1
  have HS2 := Lib.hid hS2
  have hfm : N ≤ 3840 := by rw [← hN.out]; exact bBd_few h5
  have HNP := Lib.hid (show (bBd n).N = fact n * 2 ^ n from rfl)
  have h2n : (2 : Nat) ^ n ≤ 2 ^ 5 := Nat.pow_le_pow_right (by omega) h5
  have HP1 := Lib.hid (show (1 : Int) * 2 ^ n = ((fact 1 * 2 ^ n : Nat) : Int) by simp [fact])
  have hp0 : (0 : Int) ≤ 1 * 2 ^ n := by have := HP1.out; omega
  have hp1 : (1 : Int) * 2 ^ n ≤ (32 : Int) := by have h := HP1.out; simp only [fact] at h; omega
  clear hI hI0 hI1 hI2 hS hS0 hS1 hS2 h2n
  go_enter Try.func118, Try.ntmps118
  go_wp2
  go_loop [3, 4] (fun a k => ∃ j F : Nat, j + 1 ≤ n ∧ k = .int .i64 ((j : Int) + 2) ∧ F = fact (j + 1) * 2 ^ n ∧ a = .int .i64 F) (fun _ k => n + 1 - (intOf k).toNat)
  case atStart => exact ⟨0, _, h1, rfl, rfl, by rw [← HP1.out]; simp⟩
  case round =>
    obtain ⟨j, F, hj, rfl, hF, rfl⟩ := hrel
    have HF := Lib.hid hF
    clear hp0 hp1
    by_cases hlt : j + 1 < n
    · have hle : (j : Int) + 2 ≤ n := by omega
      have hf2 := bsize_le (m := n) (j := j + 2) h5 (by omega)
      have HG2 := Lib.hid (show ((fact (j + 2) * 2 ^ n : Nat) : Int) = (F : Int) * ((j : Int) + 2) by rw [← bsize_step, hF]; simp)
      have hp0 : (0 : Int) ≤ (F : Int) * ((j : Int) + 2) := Int.mul_nonneg (by omega) (by omega)
      have hp1 : (F : Int) * ((j : Int) + 2) ≤ (3840 : Int) := by have := HG2.out; omega
      clear hF hf2
      go_wp2
      go_round
      case rel => exact ⟨j + 1, fact (j + 2) * 2 ^ n, by omega, by go_num, rfl, by rw [HG2.out]⟩
      case measure => simp [intOf] <;> omega
    · have hjn : (n : Int) < (j : Int) + 2 := by omega
      obtain rfl : F = N := by rw [hF, ← hN.out, HNP.out]; congr 2; omega
      clear hF HF hlt
      go_upto_region 6 with fail
      go_cut [5] (fun s5 wx => CutB F w (w.alloc (.cells #[.slice none 0 0, .slice none 0 0] 106)) s5 wx)
      case first =>
        obtain ⟨W, hW⟩ : ∃ W, W = (w.alloc (.cells #[.slice none 0 0, .slice none 0 0] 106)) := ⟨_, rfl⟩
        have hWz : W.heap.size = w.heap.size + 1 := by rw [hW]; simp
        rw [← hW]
        have HW := Lib.hid hW
        have HWZ := Lib.hid hWz
        clear hW hWz
        refine wp_region_held_drew (S := (fun _ => True)) (by kernel_rfl) (trivial) (fun hHeld => ?_)
        refine wpAnyH_take (i := 0) (v := ?_) rfl (by kernel_rfl) (by kernel_rfl) (by kernel_rfl) (fun _ _ _ h => h) (Or.inl ⟨by rfl, ?_⟩) (by assumption) ?_
        rotate_left
        · intro w _; go_simp; with_reducible rfl
        refine wpAnyH_take (i := 2) (v := ?_) rfl (by kernel_rfl) (by kernel_rfl) (by kernel_rfl) (fun _ _ _ h => h) (Or.inl ⟨by rfl, ?_⟩) (by assumption) ?_
        rotate_left
        · intro w _; go_simp; with_reducible rfl
        try simp only [List.getElem_toArray, List.getElem_cons_zero, List.getElem_cons_succ, Act.put, List.setIfInBounds_toArray, List.set_cons_zero, List.set_cons_succ]
        refine wpAnyH_ready (rs := [1, 3, 5]) (by kernel_rfl) (by simp) ?_
        refine AllReadyH.cons rfl (fun K hK => ?_) (AllReadyH.cons rfl (fun K hK => ?_) (AllReadyH.cons rfl (fun K hK => ?_) AllReadyH.nil))
        · refine step_make_new rfl _ _ 22 rfl 3 iI (.int .i64 0) Try.underlying22 HI.out HI0.out HI1.out rfl _ _ _ _ F rfl rfl rfl rfl (by rw [HI2.out]; omega) (by unfold maxLen; omega) ?_
          intro m1 h1
          refine hK.out _ _ trivial (fun _ => ?_)
          clear hK K
          try simp only [List.getElem_toArray, List.getElem_cons_zero, List.getElem_cons_succ, Act.put, List.setIfInBounds_toArray, List.set_cons_zero, List.set_cons_succ]
          refine wpAnyH_ready (rs := [3, 5]) (by kernel_rfl) (by simp) ?_
          refine AllReadyH.cons rfl (fun K hK => ?_) (AllReadyH.cons rfl (fun K hK => ?_) AllReadyH.nil)
          · refine step_make_new rfl _ _ 34 rfl 22 iS (.slice none 0 0) Try.underlying34 HS.out HS0.out HS1.out rfl _ _ _ _ F rfl rfl rfl rfl (by rw [HS2.out]; omega) (by unfold maxLen; omega) ?_
            intro m2 h2
            refine hK.out _ _ trivial (fun _ => ?_)
            clear hK K
            try simp only [List.getElem_toArray, List.getElem_cons_zero, List.getElem_cons_succ, Act.put, List.setIfInBounds_toArray, List.set_cons_zero, List.set_cons_succ]
            refine wpAnyH_take (i := 4) (v := ?_) rfl (by kernel_rfl) (by kernel_rfl) (by kernel_rfl) (fun _ _ _ h => h) (Or.inl ⟨by rfl, ?_⟩) (by assumption) ?_
            rotate_left
            · intro w _; go_simp; with_reducible rfl
            try simp only [List.getElem_toArray, List.getElem_cons_zero, List.getElem_cons_succ, Act.put, List.setIfInBounds_toArray, List.set_cons_zero, List.set_cons_succ]
            refine wpAnyH_ready (rs := [5]) (by kernel_rfl) (by simp) ?_
            refine AllReadyH.cons rfl (fun K hK => ?_) AllReadyH.nil
            go_simp
            obtain ⟨m3, e3⟩ : ∃ x, x = m2.alloc (.cells [.slice none 0 0, .slice none 0 0].toArray 106) := ⟨_, rfl⟩
            have h3 := NewB.alloc (m2) 106 [.slice none 0 0, .slice none 0 0]
            rw [← e3] at h3
            refine hK.out _ (m2.alloc (.cells [.slice none 0 0, .slice none 0 0].toArray 106)) trivial (fun _ => ?_)
            rw [← e3]
            clear hK K e3
            try simp only [List.getElem_toArray, List.getElem_cons_zero, List.getElem_cons_succ, Act.put, List.setIfInBounds_toArray, List.set_cons_zero, List.set_cons_succ]
            have fl := h3.blk
            have fa := ((h1.blk).grown h2.gr (by simp)).grown h3.gr (by simp)
            have fs := (h2.blk).grown h3.gr (by simp)
            refine wpAnyH_ready (rs := [6]) (by kernel_rfl) (by simp) ?_
            refine AllReadyH.cons rfl (fun K hK => ?_) AllReadyH.nil
            refine step_store_new2 rfl 106 _ _ rfl _ _ _ rfl rfl _ _ fl (by kernel_rfl) rfl ⟨rfl, rfl⟩ ?_
            intro m4 f4 g4
            refine hK.out _ _ trivial (fun _ => ?_)
            clear hK K
            refine wpAnyH_done (by kernel_rfl) ?_ _
            go_wp2_with fail
            go_meet
            have l0 : W.drew.heap.size = W.heap.size := rfl
            have l1 := h1.lt
            have l2 := h2.lt
            have l3 := h3.lt
            rw [← HW.out]
            exact leafB HWZ.out h1.gr h2.gr h3.gr l1 l2 l3 g4 f4 fa fs (by omega) (by omega) (by omega) (by omega)
          · go_simp
            obtain ⟨m2, e2⟩ : ∃ x, x = m1.alloc (.cells [.slice none 0 0, .slice none 0 0].toArray 106) := ⟨_, rfl⟩
            have h2 := NewB.alloc (m1) 106 [.slice none 0 0, .slice none 0 0]
            rw [← e2] at h2
            refine hK.out _ (m1.alloc (.cells [.slice none 0 0, .slice none 0 0].toArray 106)) trivial (fun _ => ?_)
            rw [← e2]
            clear hK K e2
            try simp only [List.getElem_toArray, List.getElem_cons_zero, List.getElem_cons_succ, Act.put, List.setIfInBounds_toArray, List.set_cons_zero, List.set_cons_succ]
            refine wpAnyH_ready (rs := [3]) (by kernel_rfl) (by simp) ?_
            refine AllReadyH.cons rfl (fun K hK => ?_) AllReadyH.nil
            refine step_make_new rfl _ _ 34 rfl 22 iS (.slice none 0 0) Try.underlying34 HS.out HS0.out HS1.out rfl _ _ _ _ F rfl rfl rfl rfl (by rw [HS2.out]; omega) (by unfold maxLen; omega) ?_
            intro m3 h3
            refine hK.out _ _ trivial (fun _ => ?_)
            clear hK K
            try simp only [List.getElem_toArray, List.getElem_cons_zero, List.getElem_cons_succ, Act.put, List.setIfInBounds_toArray, List.set_cons_zero, List.set_cons_succ]
            refine wpAnyH_take (i := 4) (v := ?_) rfl (by kernel_rfl) (by kernel_rfl) (by kernel_rfl) (fun _ _ _ h => h) (Or.inl ⟨by rfl, ?_⟩) (by assumption) ?_
            rotate_left
            · intro w _; go_simp; with_reducible rfl
            try simp only [List.getElem_toArray, List.getElem_cons_zero, List.getElem_cons_succ, Act.put, List.setIfInBounds_toArray, List.set_cons_zero, List.set_cons_succ]
            have fl := (h2.blk).grown h3.gr (by simp)
            have fa := ((h1.blk).grown h2.gr (by simp)).grown h3.gr (by simp)
            have fs := h3.blk
            refine wpAnyH_ready (rs := [6]) (by kernel_rfl) (by simp) ?_
            refine AllReadyH.cons rfl (fun K hK => ?_) AllReadyH.nil
            refine step_store_new2 rfl 106 _ _ rfl _ _ _ rfl rfl _ _ fl (by kernel_rfl) rfl ⟨rfl, rfl⟩ ?_
            intro m4 f4 g4
            refine hK.out _ _ trivial (fun _ => ?_)
            clear hK K
            refine wpAnyH_done (by kernel_rfl) ?_ _
            go_wp2_with fail
            go_meet
            have l0 : W.drew.heap.size = W.heap.size := rfl
            have l1 := h1.lt
            have l2 := h2.lt
            have l3 := h3.lt
            rw [← HW.out]
            exact leafB HWZ.out h1.gr h2.gr h3.gr l1 l2 l3 g4 f4 fa fs (by omega) (by omega) (by omega) (by omega)
        · refine step_make_new rfl _ _ 34 rfl 22 iS (.slice none 0 0) Try.underlying34 HS.out HS0.out HS1.out rfl _ _ _ _ F rfl rfl rfl rfl (by rw [HS2.out]; omega) (by unfold maxLen; omega) ?_
          intro m1 h1
          refine hK.out _ _ trivial (fun _ => ?_)
          clear hK K
          try simp only [List.getElem_toArray, List.getElem_cons_zero, List.getElem_cons_succ, Act.put, List.setIfInBounds_toArray, List.set_cons_zero, List.set_cons_succ]
          refine wpAnyH_ready (rs := [1, 5]) (by kernel_rfl) (by simp) ?_
          refine AllReadyH.cons rfl (fun K hK => ?_) (AllReadyH.cons rfl (fun K hK => ?_) AllReadyH.nil)
          · refine step_make_new rfl _ _ 22 rfl 3 iI (.int .i64 0) Try.underlying22 HI.out HI0.out HI1.out rfl _ _ _ _ F rfl rfl rfl rfl (by rw [HI2.out]; omega) (by unfold maxLen; omega) ?_
            intro m2 h2
            refine hK.out _ _ trivial (fun _ => ?_)
            clear hK K
            try simp only [List.getElem_toArray, List.getElem_cons_zero, List.getElem_cons_succ, Act.put, List.setIfInBounds_toArray, List.set_cons_zero, List.set_cons_succ]
            refine wpAnyH_take (i := 4) (v := ?_) rfl (by kernel_rfl) (by kernel_rfl) (by kernel_rfl) (fun _ _ _ h => h) (Or.inl ⟨by rfl, ?_⟩) (by assumption) ?_
            rotate_left
            · intro w _; go_simp; with_reducible rfl
            try simp only [List.getElem_toArray, List.getElem_cons_zero, List.getElem_cons_succ, Act.put, List.setIfInBounds_toArray, List.set_cons_zero, List.set_cons_succ]
            refine wpAnyH_ready (rs := [5]) (by kernel_rfl) (by simp) ?_
            refine AllReadyH.cons rfl (fun K hK => ?_) AllReadyH.nil
            go_simp
            obtain ⟨m3, e3⟩ : ∃ x, x = m2.alloc (.cells [.slice none 0 0, .slice none 0 0].toArray 106) := ⟨_, rfl⟩
            have h3 := NewB.alloc (m2) 106 [.slice none 0 0, .slice none 0 0]
            rw [← e3] at h3
            refine hK.out _ (m2.alloc (.cells [.slice none 0 0, .slice none 0 0].toArray 106)) trivial (fun _ => ?_)
            rw [← e3]
            clear hK K e3
            try simp only [List.getElem_toArray, List.getElem_cons_zero, List.getElem_cons_succ, Act.put, List.setIfInBounds_toArray, List.set_cons_zero, List.set_cons_succ]
            have fl := h3.blk
            have fa := (h2.blk).grown h3.gr (by simp)
            have fs := ((h1.blk).grown h2.gr (by simp)).grown h3.gr (by simp)
            refine wpAnyH_ready (rs := [6]) (by kernel_rfl) (by simp) ?_
            refine AllReadyH.cons rfl (fun K hK => ?_) AllReadyH.nil
            refine step_store_new2 rfl 106 _ _ rfl _ _ _ rfl rfl _ _ fl (by kernel_rfl) rfl ⟨rfl, rfl⟩ ?_
            intro m4 f4 g4
            refine hK.out _ _ trivial (fun _ => ?_)
            clear hK K
            refine wpAnyH_done (by kernel_rfl) ?_ _
            go_wp2_with fail
            go_meet
            have l0 : W.drew.heap.size = W.heap.size := rfl
            have l1 := h1.lt
            have l2 := h2.lt
            have l3 := h3.lt
            rw [← HW.out]
            exact leafB HWZ.out h1.gr h2.gr h3.gr l1 l2 l3 g4 f4 fa fs (by omega) (by omega) (by omega) (by omega)
          · go_simp
            obtain ⟨m2, e2⟩ : ∃ x, x = m1.alloc (.cells [.slice none 0 0, .slice none 0 0].toArray 106) := ⟨_, rfl⟩
            have h2 := NewB.alloc (m1) 106 [.slice none 0 0, .slice none 0 0]
            rw [← e2] at h2
            refine hK.out _ (m1.alloc (.cells [.slice none 0 0, .slice none 0 0].toArray 106)) trivial (fun _ => ?_)
            rw [← e2]
            clear hK K e2
            try simp only [List.getElem_toArray, List.getElem_cons_zero, List.getElem_cons_succ, Act.put, List.setIfInBounds_toArray, List.set_cons_zero, List.set_cons_succ]
            refine wpAnyH_ready (rs := [1]) (by kernel_rfl) (by simp) ?_
            refine AllReadyH.cons rfl (fun K hK => ?_) AllReadyH.nil
            refine step_make_new rfl _ _ 22 rfl 3 iI (.int .i64 0) Try.underlying22 HI.out HI0.out HI1.out rfl _ _ _ _ F rfl rfl rfl rfl (by rw [HI2.out]; omega) (by unfold maxLen; omega) ?_
            intro m3 h3
            refine hK.out _ _ trivial (fun _ => ?_)
            clear hK K
            try simp only [List.getElem_toArray, List.getElem_cons_zero, List.getElem_cons_succ, Act.put, List.setIfInBounds_toArray, List.set_cons_zero, List.set_cons_succ]
            refine wpAnyH_take (i := 4) (v := ?_) rfl (by kernel_rfl) (by kernel_rfl) (by kernel_rfl) (fun _ _ _ h => h) (Or.inl ⟨by rfl, ?_⟩) (by assumption) ?_
            rotate_left
            · intro w _; go_simp; with_reducible rfl
            try simp only [List.getElem_toArray, List.getElem_cons_zero, List.getElem_cons_succ, Act.put, List.setIfInBounds_toArray, List.set_cons_zero, List.set_cons_succ]
            have fl := (h2.blk).grown h3.gr (by simp)
            have fa := h3.blk
            have fs := ((h1.blk).grown h2.gr (by simp)).grown h3.gr (by simp)
            refine wpAnyH_ready (rs := [6]) (by kernel_rfl) (by simp) ?_
            refine AllReadyH.cons rfl (fun K hK => ?_) AllReadyH.nil
            refine step_store_new2 rfl 106 _ _ rfl _ _ _ rfl rfl _ _ fl (by kernel_rfl) rfl ⟨rfl, rfl⟩ ?_
            intro m4 f4 g4
            refine hK.out _ _ trivial (fun _ => ?_)
            clear hK K
            refine wpAnyH_done (by kernel_rfl) ?_ _
            go_wp2_with fail
            go_meet
            have l0 : W.drew.heap.size = W.heap.size := rfl
            have l1 := h1.lt
            have l2 := h2.lt
            have l3 := h3.lt
            rw [← HW.out]
            exact leafB HWZ.out h1.gr h2.gr h3.gr l1 l2 l3 g4 f4 fa fs (by omega) (by omega) (by omega) (by omega)
        · go_simp
          obtain ⟨m1, e1⟩ : ∃ x, x = W.drew.alloc (.cells [.slice none 0 0, .slice none 0 0].toArray 106) := ⟨_, rfl⟩
          have h1 := NewB.alloc (W.drew) 106 [.slice none 0 0, .slice none 0 0]
          rw [← e1] at h1
          refine hK.out _ (W.drew.alloc (.cells [.slice none 0 0, .slice none 0 0].toArray 106)) trivial (fun _ => ?_)
          rw [← e1]
          clear hK K e1
          try simp only [List.getElem_toArray, List.getElem_cons_zero, List.getElem_cons_succ, Act.put, List.setIfInBounds_toArray, List.set_cons_zero, List.set_cons_succ]
          refine wpAnyH_ready (rs := [1, 3]) (by kernel_rfl) (by simp) ?_
          refine AllReadyH.cons rfl (fun K hK => ?_) (AllReadyH.cons rfl (fun K hK => ?_) AllReadyH.nil)
          · refine step_make_new rfl _ _ 22 rfl 3 iI (.int .i64 0) Try.underlying22 HI.out HI0.out HI1.out rfl _ _ _ _ F rfl rfl rfl rfl (by rw [HI2.out]; omega) (by unfold maxLen; omega) ?_
            intro m2 h2
            refine hK.out _ _ trivial (fun _ => ?_)
            clear hK K
            try simp only [List.getElem_toArray, List.getElem_cons_zero, List.getElem_cons_succ, Act.put, List.setIfInBounds_toArray, List.set_cons_zero, List.set_cons_succ]
            refine wpAnyH_ready (rs := [3]) (by kernel_rfl) (by simp) ?_
            refine AllReadyH.cons rfl (fun K hK => ?_) AllReadyH.nil
            refine step_make_new rfl _ _ 34 rfl 22 iS (.slice none 0 0) Try.underlying34 HS.out HS0.out HS1.out rfl _ _ _ _ F rfl rfl rfl rfl (by rw [HS2.out]; omega) (by unfold maxLen; omega) ?_
            intro m3 h3
            refine hK.out _ _ trivial (fun _ => ?_)
            clear hK K
            try simp only [List.getElem_toArray, List.getElem_cons_zero, List.getElem_cons_succ, Act.put, List.setIfInBounds_toArray, List.set_cons_zero, List.set_cons_succ]
            refine wpAnyH_take (i := 4) (v := ?_) rfl (by kernel_rfl) (by kernel_rfl) (by kernel_rfl) (fun _ _ _ h => h) (Or.inl ⟨by rfl, ?_⟩) (by assumption) ?_
            rotate_left
            · intro w _; go_simp; with_reducible rfl
            try simp only [List.getElem_toArray, List.getElem_cons_zero, List.getElem_cons_succ, Act.put, List.setIfInBounds_toArray, List.set_cons_zero, List.set_cons_succ]
            have fl := ((h1.blk).grown h2.gr (by simp)).grown h3.gr (by simp)
            have fa := (h2.blk).grown h3.gr (by simp)
            have fs := h3.blk
            refine wpAnyH_ready (rs := [6]) (by kernel_rfl) (by simp) ?_
            refine AllReadyH.cons rfl (fun K hK => ?_) AllReadyH.nil
            refine step_store_new2 rfl 106 _ _ rfl _ _ _ rfl rfl _ _ fl (by kernel_rfl) rfl ⟨rfl, rfl⟩ ?_
            intro m4 f4 g4
            refine hK.out _ _ trivial (fun _ => ?_)
            clear hK K
            refine wpAnyH_done (by kernel_rfl) ?_ _
            go_wp2_with fail
            go_meet
            have l0 : W.drew.heap.size = W.heap.size := rfl
            have l1 := h1.lt
            have l2 := h2.lt
            have l3 := h3.lt
            rw [← HW.out]
            exact leafB HWZ.out h1.gr h2.gr h3.gr l1 l2 l3 g4 f4 fa fs (by omega) (by omega) (by omega) (by omega)
          · refine step_make_new rfl _ _ 34 rfl 22 iS (.slice none 0 0) Try.underlying34 HS.out HS0.out HS1.out rfl _ _ _ _ F rfl rfl rfl rfl (by rw [HS2.out]; omega) (by unfold maxLen; omega) ?_
            intro m2 h2
            refine hK.out _ _ trivial (fun _ => ?_)
            clear hK K
            try simp only [List.getElem_toArray, List.getElem_cons_zero, List.getElem_cons_succ, Act.put, List.setIfInBounds_toArray, List.set_cons_zero, List.set_cons_succ]
            refine wpAnyH_ready (rs := [1]) (by kernel_rfl) (by simp) ?_
            refine AllReadyH.cons rfl (fun K hK => ?_) AllReadyH.nil
            refine step_make_new rfl _ _ 22 rfl 3 iI (.int .i64 0) Try.underlying22 HI.out HI0.out HI1.out rfl _ _ _ _ F rfl rfl rfl rfl (by rw [HI2.out]; omega) (by unfold maxLen; omega) ?_
            intro m3 h3
            refine hK.out _ _ trivial (fun _ => ?_)
            clear hK K
            try simp only [List.getElem_toArray, List.getElem_cons_zero, List.getElem_cons_succ, Act.put, List.setIfInBounds_toArray, List.set_cons_zero, List.set_cons_succ]
            refine wpAnyH_take (i := 4) (v := ?_) rfl (by kernel_rfl) (by kernel_rfl) (by kernel_rfl) (fun _ _ _ h => h) (Or.inl ⟨by rfl, ?_⟩) (by assumption) ?_
            rotate_left
            · intro w _; go_simp; with_reducible rfl
            try simp only [List.getElem_toArray, List.getElem_cons_zero, List.getElem_cons_succ, Act.put, List.setIfInBounds_toArray, List.set_cons_zero, List.set_cons_succ]
            have fl := ((h1.blk).grown h2.gr (by simp)).grown h3.gr (by simp)
            have fa := h3.blk
            have fs := (h2.blk).grown h3.gr (by simp)
            refine wpAnyH_ready (rs := [6]) (by kernel_rfl) (by simp) ?_
            refine AllReadyH.cons rfl (fun K hK => ?_) AllReadyH.nil
            refine step_store_new2 rfl 106 _ _ rfl _ _ _ rfl rfl _ _ fl (by kernel_rfl) rfl ⟨rfl, rfl⟩ ?_
            intro m4 f4 g4
            refine hK.out _ _ trivial (fun _ => ?_)
            clear hK K
            refine wpAnyH_done (by kernel_rfl) ?_ _
            go_wp2_with fail
            go_meet
            have l0 : W.drew.heap.size = W.heap.size := rfl
            have l1 := h1.lt
            have l2 := h2.lt
            have l3 := h3.lt
            rw [← HW.out]
            exact leafB HWZ.out h1.gr h2.gr h3.gr l1 l2 l3 g4 f4 fa fs (by omega) (by omega) (by omega) (by omega)
      case rest =>
        obtain ⟨bl, a, s, rfl, H0, hB0⟩ := hcut
        obtain ⟨W, hW⟩ : ∃ W, W = (w.alloc (.cells #[.slice none 0 0, .slice none 0 0] 106)) := ⟨_, rfl⟩
        rw [← hW] at hB0
        have hWz : W.heap.size = w.heap.size + 1 := by rw [hW]; simp
        have hWB : Below w.heap.size w W := by rw [hW]; exact below_new w _
        have hWb : Blk W w.heap.size 106 [.slice none 0 0, .slice none 0 0] := by rw [hW]; exact Blk.new w _ [.slice none 0 0, .slice none 0 0] _ rfl
        rw [hWz] at hB0
        have HW := Lib.hid hW
        have HWZ := Lib.hid hWz
        clear hW hWz
        have hfp : 0 < F := by rw [← hN.out]; exact HG.out.pos
        have hsz0 : w.heap.size + 1 ≤ wc.heap.size := by have := hB0.size; have := HWZ.out; omega
        obtain ⟨c0, c1⟩ := BA.cl H0
        go_wp2
        clear c0 c1
        have hB0' := hB0
        rw [← sNeg_zero] at H0
        go_loopw [6, 30] (fun _ i wr => ∃ k : Nat, k ≤ F ∧ i = .int .i64 k ∧ BA0 (w.heap.size + 1) F wr bl a s (sNeg F k) (List.replicate F (.slice none 0 0)) ∧ Below (w.heap.size + 1) W wr) (fun _ i _ => F - (intOf i).toNat)
        case atStart => exact ⟨0, Nat.zero_le _, rfl, H0, hB0'⟩
        case round =>
          obtain ⟨k, hk, rfl, H, hB⟩ := hrel
          clear hB0 hB0' H0
          by_cases hlt : k < F
          · obtain ⟨c0, c1⟩ := BA.cl H
            obtain ⟨hc, hf⟩ := BA.cF H k (by rw [sNeg_length hk]; exact hlt)
            have H' := H.setF k (-1)
            rw [sNeg_step F k hlt] at H'
            have hB' := hB.setCell (p := ⟨a, k, none⟩) (by exact H.ba) (iv (-1))
            clear H hB c1
            go_wp2
            go_roundw
            case rel => exact ⟨k + 1, by omega, by go_num, H', hB'⟩
            case measure => simp [intOf] <;> omega
          · obtain rfl : k = F := by omega
            obtain ⟨c0, c1⟩ := BA.cl H
            obtain ⟨hc, hf⟩ := BA.cF H 0 (by rw [sNeg_length hk]; exact hfp)
            have H1 := H.setF 0 0
            have HST := Lib.hid (sF_start HG.out)
            rw [hN.out] at HST
            rw [sNeg_all, HST.out] at H1
            have hB1 := hB.setCell (p := ⟨a, 0, none⟩) (by exact H.ba) (iv 0)
            have F2 := BA.start H1 (by rw [sF_length]; exact hN.out)
            obtain ⟨W2, hW2⟩ : ∃ W2, W2 = wr.setCell ⟨a, 0, none⟩ (iv 0) := ⟨_, rfl⟩
            rw [← hW2] at F2 hB1
            have HW2 := Lib.hid hW2
            clear hW2 H H1 hB hlt c1
            go_wp2
            rw [← HW2.out]
            have F2d : BA (w.heap.size + 1) k W2.drew bl a s none (sF (bBd n) [0]) (List.replicate k (.slice none 0 0)) (List.replicate k []) := F2.kept (fun _ _ _ => rfl)
            have hszd : w.heap.size + 1 ≤ W2.drew.heap.size := by have := hB1.size; have := HWZ.out; show _ ≤ W2.heap.size; omega
            have k1 : W2.drew.cell? ⟨bl, 1, none⟩ = some (.slice (some ⟨s, 0, none⟩) k k) := (BA.cl F2d.toBA0).2
            have HXS := Lib.hid (sX_start (u := bun n) HG.out)
            rw [hN.out, bun_zero h1 (by omega)] at HXS
            go_region_held3 (fun w' => w'.cell? ⟨bl, 1, none⟩ = some (.slice (some ⟨s, 0, none⟩) k k)) (first | exact k1 | exact k2 | exact k3)
              ((go_at_call 148; refine (stFirst_any n _ (by omega)).mono ?_; rintro e w2 ⟨r, rfl, hor, hfr, hb2⟩; obtain ⟨ra, rcap, rfl, _, _, _⟩ := hor.shape; have F3 := F2d.below hb2 (Nat.le_refl _); have hco := F2d.new hfr hszd (fun g hg => by cases hg); have F4 := F3.setS 0 _ (ramp 1 n) hor hco; have k2 := (BA.cl F3.toBA0).2; have k3 := (BA.cl F4.toBA0).2; obtain ⟨hcs, hfs⟩ := BA.cS F3.toBA0 0 (by simp; omega)))
            rw [HXS.out] at F4
            have hB4 : Below (w.heap.size + 1) W (w2.setCell ⟨s, 0, none⟩ (.slice ra (ramp 1 n).length rcap)) := (hB1.drew.trans (hb2.mono hszd)).setCell (p := ⟨s, 0, none⟩) (by exact F3.bs) (.slice ra (ramp 1 n).length rcap)
            obtain ⟨W4, hW4⟩ : ∃ W4, W4 = w2.setCell ⟨s, 0, none⟩ (.slice ra (ramp 1 n).length rcap) := ⟨_, rfl⟩
            rw [← hW4] at F4 hB4
            have HW4 := Lib.hid hW4
            clear hW4 F2 F2d hco k1 k2 k3 hcs hfs hor hfr hb2 hB1
            rw [← HW4.out]
            go_wp2
            have hown4 : (W4.alloc (.cells #[.int .i64 0] 3)).ownsRow (w.heap.size + 1) 3 1 (.slice (some ⟨W4.heap.size, 0, none⟩) 1 1) 1 (([0] : List Nat).map fun r : Nat => iv (r : Int)) := World.ownsRow_lit W4 #[.int .i64 0] 1 (by have := hB4.size; have := HWZ.out; omega) (by unfold maxLen; omega) rfl
            have F6 : BA (w.heap.size + 1) k (W4.alloc (.cells #[.int .i64 0] 3)) bl a s (some W4.heap.size) (sF (bBd n) [0]) ((List.replicate k (.slice none 0 0)).set 0 (.slice ra (ramp 1 n).length rcap)) (sX (bBd n) (bun n) [0]) := (F4.requeue (.inr (Nat.le_refl _))).alloc _
            have hB6 : Below (w.heap.size + 1) W (W4.alloc (.cells #[.int .i64 0] 3)) := hB4.alloc (by have := hB4.size; have := HWZ.out; omega) _
            have hqs := SQ.start HG.out
            clear F4 hB4
            go_loopw [7, 8, 9, 10, 11] (fun qv qi _ _ _ wr => ∃ (p : Nat) (Q : List Nat) (g cap : Nat) (S : List Value), qi = .int .i64 p ∧ qv = .slice (some ⟨g, 0, none⟩) Q.length cap ∧ SQ (bBd n) Q p ∧ wr.ownsRow (w.heap.size + 1) 3 1 (.slice (some ⟨g, 0, none⟩) Q.length cap) Q.length (Q.map fun r : Nat => iv (r : Int)) ∧ BA (w.heap.size + 1) k wr bl a s (some g) (sF (bBd n) Q) S (sX (bBd n) (bun n) Q) ∧ Below (w.heap.size + 1) W wr) (fun _ qi _ _ _ _ => k - (intOf qi).toNat)
            case atStart => exact ⟨0, [0], _, _, _, rfl, rfl, hqs, hown4, F6, hB6⟩
            case round =>
              obtain ⟨p, Q, g, cap, S, rfl, rfl, hQ, hown, hF, hB⟩ := hrel
              clear hqs hown4 F6 hB6
              by_cases hlt : p < Q.length
              · obtain ⟨x, hx⟩ : ∃ x, Q[p]? = some x := ⟨_, List.getElem?_eq_getElem hlt⟩
                have hlt' : (p : Int) < Q.length := by omega
                have HI0' := hQ.inner hx
                rw [bBd_lo] at HI0'
                have hxl : x < (bBd n).N := hQ.lt x (List.mem_of_getElem? hx)
                have hpN : p < k := by have := hQ.length_le; rw [hN.out] at this; omega
                have HX := Lib.hid hx
                clear hx hQ
                go_wp2
                go_loopw [7, 9, 10, 11] (fun qv kv _ _ w5 => ∃ (Q' : List Nat) (K g' cap' : Nat) (S' : List Value), kv = .int .i64 K ∧ 1 ≤ K ∧ K ≤ n + 1 ∧ qv = .slice (some ⟨g', 0, none⟩) Q'.length cap' ∧ SI (bBd n) Q' p x K ∧ w5.ownsRow (w.heap.size + 1) 3 1 (.slice (some ⟨g', 0, none⟩) Q'.length cap') Q'.length (Q'.map fun r : Nat => iv (r : Int)) ∧ BA (w.heap.size + 1) k w5 bl a s (some g') (sF (bBd n) Q') S' (sX (bBd n) (bun n) Q') ∧ Below (w.heap.size + 1) W w5) (fun _ kv _ _ _ => n + 1 - (intOf kv).toNat)
                case atStart => exact ⟨Q, 1, g, cap, S, rfl, by omega, by omega, rfl, HI0', hown, hF, hB⟩
                case round =>
                  obtain ⟨Q', K, g', cap', S', rfl, hK1, hKn, rfl, hBI, hown', hF', hB'⟩ := hrel
                  clear HI0' hown hF hB
                  by_cases hKl : K ≤ n
                  · have hKl' : (K : Int) ≤ n := by omega
                    have hxQ := List.mem_of_getElem? hBI.cur
                    have hpl := (List.getElem?_eq_some_iff.1 hBI.cur).1
                    have hpl' : (p : Int) < Q'.length := by omega
                    obtain ⟨u, hu⟩ : ∃ u, S'[x]? = some u := ⟨_, List.getElem?_eq_getElem (by rw [hF'.lS, ← hN.out]; exact hxl)⟩
                    have hXx : (sX (bBd n) (bun n) Q')[x]? = some (bun n x) := by rw [List.getElem?_eq_getElem (by rw [sX_length]; exact hxl), sX_get hxl, if_pos hxQ]
                    obtain ⟨hou, _⟩ := hF'.row x u _ hu hXx
                    have hst : BSt n (bun n x) := bun_st h1 (by omega) hxl
                    obtain ⟨ua, uc, rfl, _, _, _⟩ := hou.shape
                    obtain ⟨c0, c1⟩ := BA.cl hF'.toBA0
                    have hsx : wr.cell? ⟨s, x, none⟩ = some (.slice ua (bun n x).length uc) := by have := (BA.cS hF'.toBA0 x (by rw [hF'.lS, ← hN.out]; exact hxl)).1; rw [List.getElem?_eq_getElem (by rw [hF'.lS, ← hN.out]; exact hxl)] at hu; rw [this, ← hu]
                    have hcq : wr.cell? ⟨g', p, none⟩ = some (iv x) := by rw [hown'.cellAt p (by omega), List.getElem?_map, hBI.cur]; rfl
                    have hxk : x < k := by rw [← hN.out]; exact hxl
                    have hxl' : (x : Int) < k := by omega
                    have hlu : (bun n x).length = n := hst.2
                    have hu9 : (bun n x).length ≤ 1048576 := by omega
                    have huK : K ≤ (bun n x).length := by omega
                    have htl : (bBd n).nb x K < (bBd n).N := HG.out.lt x K hxl hK1 (by rw [bBd_hi]; omega)
                    have hsmall := Lib.hid (Burnt.small hst.1)
                    have hst2 := hst.turn K
                    have hsmall2 := Lib.hid (Burnt.small hst2.1)
                    obtain ⟨tq, hto⟩ : ∃ t, (bBd n).nb x K = t := ⟨_, rfl⟩
                    have htr : brank (bturnL (bun n x) K) = tq := hto
                    have hun : bun n tq = bturnL (bun n x) K := by rw [← hto]; exact bnb_un h1 (by omega) hxl K
                    rw [hto] at htl
                    have HTO := Lib.hid hto
                    have HTR := Lib.hid htr
                    have HUN := Lib.hid hun
                    have hl9 : (bturnL (bun n x) K).length ≤ 9 := by rw [bturnL_length]; omega
                    have hgq := hown'.lt g' rfl
                    have hblt := hF'.l.lt
                    have hslt := hF'.st.lt
                    have hD : BA (w.heap.size + 1) k wr.drew bl a s (some g') (sF (bBd n) Q') S' (sX (bBd n) (bun n) Q') := hF'.kept (fun _ _ _ => rfl)
                    have hownD : wr.drew.ownsRow (w.heap.size + 1) 3 1 (.slice (some ⟨g', 0, none⟩) Q'.length cap') Q'.length (Q'.map fun r : Nat => iv (r : Int)) := hown'
                    have hBD := hB'.drew
                    have houD : OwnI wr.drew (.slice ua (bun n x).length uc) (bun n x) := hou.kept (fun _ _ => rfl)
                    have hzD : w.heap.size + 1 ≤ wr.drew.heap.size := by have := hB'.size; have := HWZ.out; show _ ≤ wr.heap.size; omega
                    have HLU := Lib.hid hlu
                    clear hst hst2 hto htr hun hu hXx hlu
                    go_upto_region 21 with fail
                    refine wp_region_held_drew (S := (fun w' => w'.cell? ⟨bl, 1, none⟩ = some (.slice (some ⟨s, 0, none⟩) k k) ∧ w'.cell? ⟨g', p, none⟩ = some (iv x) ∧ w'.cell? ⟨s, x, none⟩ = some (.slice ua (bun n x).length uc))) (by kernel_rfl) (⟨c1, hcq, hsx⟩) (fun hHeld => ?_)
                    refine wpAnyH_take (i := 0) (v := ?_) rfl (by kernel_rfl) (by kernel_rfl) (by kernel_rfl) (fun _ _ _ h => h) (Or.inl ⟨by rfl, ?_⟩) (by assumption) ?_
                    rotate_left
                    · intro w _; go_simp; with_reducible rfl
                    try simp only [List.getElem_toArray, List.getElem_cons_zero, Act.put, List.setIfInBounds_toArray, List.set_cons_zero, List.set_cons_succ]
                    refine wpAnyH_take (i := 1) (v := ?_) rfl (by kernel_rfl) (by kernel_rfl) (by kernel_rfl) (fun _ _ _ h => h) (Or.inl ⟨by rfl, ?_⟩) (by assumption) ?_
                    rotate_left
                    · intro w hSw; (try dsimp only at hSw); (go_simp <;> with_reducible rfl)
                    try simp only [List.getElem_toArray, List.getElem_cons_zero, List.getElem_cons_succ, Act.put, List.setIfInBounds_toArray, List.set_cons_zero, List.set_cons_succ]
                    refine wpAnyH_take (i := 2) (v := ?_) rfl (by kernel_rfl) (by kernel_rfl) (by kernel_rfl) (fun _ _ _ h => h) (Or.inl ⟨by rfl, ?_⟩) (by assumption) ?_
                    rotate_left
                    · intro w _; go_simp; with_reducible rfl
                    try simp only [List.getElem_toArray, List.getElem_cons_zero, List.getElem_cons_succ, Act.put, List.setIfInBounds_toArray, List.set_cons_zero, List.set_cons_succ]
                    refine wpAnyH_take (i := 3) (v := ?_) rfl (by kernel_rfl) (by kernel_rfl) (by kernel_rfl) (fun _ _ _ h => h) (Or.inl ⟨by rfl, ?_⟩) (by assumption) ?_
                    rotate_left
                    · intro w _; go_simp; with_reducible rfl
                    try simp only [List.getElem_toArray, List.getElem_cons_zero, List.getElem_cons_succ, Act.put, List.setIfInBounds_toArray, List.set_cons_zero, List.set_cons_succ]
                    refine wpAnyH_take (i := 4) (v := ?_) rfl (by kernel_rfl) (by kernel_rfl) (by kernel_rfl) (fun _ _ _ h => h) (Or.inl ⟨by rfl, ?_⟩) (by assumption) ?_
                    rotate_left
                    · intro w _; go_simp; with_reducible rfl
                    try simp only [List.getElem_toArray, List.getElem_cons_zero, List.getElem_cons_succ, Act.put, List.setIfInBounds_toArray, List.set_cons_zero, List.set_cons_succ]
                    refine wpAnyH_take (i := 5) (v := ?_) rfl (by kernel_rfl) (by kernel_rfl) (by kernel_rfl) (fun _ _ _ h => h) (Or.inl ⟨by rfl, ?_⟩) (by assumption) ?_
                    rotate_left
                    · intro w hSw; (try dsimp only at hSw); (go_simp <;> with_reducible rfl)
                    try simp only [List.getElem_toArray, List.getElem_cons_zero, List.getElem_cons_succ, Act.put, List.setIfInBounds_toArray, List.set_cons_zero, List.set_cons_succ]
                    refine wpAnyH_take (i := 6) (v := ?_) rfl (by kernel_rfl) (by kernel_rfl) (by kernel_rfl) (fun _ _ _ h => h) (Or.inl ⟨by rfl, ?_⟩) (by assumption) ?_
                    rotate_left
                    · intro w _; go_simp; with_reducible rfl
                    try simp only [List.getElem_toArray, List.getElem_cons_zero, List.getElem_cons_succ, Act.put, List.setIfInBounds_toArray, List.set_cons_zero, List.set_cons_succ]
                    refine wpAnyH_take (i := 7) (v := ?_) rfl (by kernel_rfl) (by kernel_rfl) (by kernel_rfl) (fun _ _ _ h => h) (Or.inl ⟨by rfl, ?_⟩) (by assumption) ?_
                    rotate_left
                    · intro w hSw; (try dsimp only at hSw); (go_simp <;> with_reducible rfl)
                    try simp only [List.getElem_toArray, List.getElem_cons_zero, List.getElem_cons_succ, Act.put, List.setIfInBounds_toArray, List.set_cons_zero, List.set_cons_succ]
                    refine wpAnyH_take (i := 8) (v := ?_) rfl (by kernel_rfl) (by kernel_rfl) (by kernel_rfl) (fun _ _ _ h => h) (Or.inl ⟨by rfl, ?_⟩) (by assumption) ?_
                    rotate_left
                    · intro w _; go_simp; with_reducible rfl
                    try simp only [List.getElem_toArray, List.getElem_cons_zero, List.getElem_cons_succ, Act.put, List.setIfInBounds_toArray, List.set_cons_zero, List.set_cons_succ]
                    refine wpAnyH_ready (rs := [9]) (by kernel_rfl) (by simp) ?_
                    refine AllReadyH.cons rfl (fun Kc hK => ?_) AllReadyH.nil
                    go_simp
                    refine (buTurn_any _ (bun n x) K wr.drew houD hu9 huK hsmall).mono ?_
                    rintro e w6 ⟨r, rfl, hor, hfr, hb6⟩
                    go_wp2_with fail
                    refine hK.out _ _ (⟨(hb6.cell (p := ⟨bl, 1, none⟩) hblt).trans hHeld.1, (hb6.cell (p := ⟨g', p, none⟩) hgq.2).trans hHeld.2.1, (hb6.cell (p := ⟨s, x, none⟩) hslt).trans hHeld.2.2⟩) (fun hHeld => ?_)
                    clear hK Kc
                    try simp only [List.getElem_toArray, List.getElem_cons_zero, List.getElem_cons_succ, Act.put, List.setIfInBounds_toArray, List.set_cons_zero, List.set_cons_succ]
                    refine wpAnyH_take (i := 10) (v := ?_) rfl (by kernel_rfl) (by kernel_rfl) (by kernel_rfl) (fun _ _ _ h => h) (Or.inl ⟨by rfl, ?_⟩) (by assumption) ?_
                    rotate_left
                    · intro w _; go_simp; with_reducible rfl
                    try simp only [List.getElem_toArray, List.getElem_cons_zero, List.getElem_cons_succ, Act.put, List.setIfInBounds_toArray, List.set_cons_zero, List.set_cons_succ]
                    refine wpAnyH_done (by kernel_rfl) ?_ _
                    have hF6 := hD.below hb6 (Nat.le_refl _)
                    have hB6 := hBD.trans (hb6.mono hzD)
                    have hown6 : w6.ownsRow (w.heap.size + 1) 3 1 (.slice (some ⟨g', 0, none⟩) Q'.length cap') Q'.length (Q'.map fun r : Nat => iv (r : Int)) := hownD.kept (w' := w6) (row := none) ⟨hb6.os, hb6.tape, hb6.output, hb6.size, fun k hk _ => hb6.block k hk⟩ (.inr (by simp [Value.ownBlock]))
                    have hco := hD.new hfr hzD (fun g hg => by cases hg; exact hgq.2)
                    have hgq6 : g' < w6.heap.size := Nat.lt_of_lt_of_le hgq.2 hb6.size
                    clear hF' hB' hown' hou hsx c0 c1 hcq hD hownD hBD houD hHeld
                    obtain ⟨rl, ra', rc', hrs⟩ : ∃ rl ra' rc', r = .slice ra' rl rc' ∧ rl = (bturnL (bun n x) K).length := by
                      obtain ⟨ra', rc', rfl, _, _, _⟩ := hor.shape
                      exact ⟨_, ra', rc', rfl, rfl⟩
                    obtain ⟨rfl, hrl⟩ := hrs
                    have HRL := Lib.hid hrl
                    clear hrl
                    have c7 := buRank_any _ _ w6 hor hl9 hsmall2
                    rw [HTR.out] at c7
                    go_wp2_with fail
                    refine c7.mono ?_
                    rintro e w7 ⟨rfl, hb7⟩
                    clear c7
                    have hF7 := hF6.below hb7 (Nat.le_refl _)
                    have hz6 : w.heap.size + 1 ≤ w6.heap.size := Nat.le_trans hzD hb6.size
                    have hB7' := hB6.trans (hb7.mono hz6)
                    have hown7 : w7.ownsRow (w.heap.size + 1) 3 1 (.slice (some ⟨g', 0, none⟩) Q'.length cap') Q'.length (Q'.map fun r : Nat => iv (r : Int)) := hown6.kept (w' := w7) (row := none) ⟨hb7.os, hb7.tape, hb7.output, hb7.size, fun k hk _ => hb7.block k hk⟩ (.inr (by simp [Value.ownBlock]))
                    have hor7 := hor.same hb7
                    have hgq7 : g' < w7.heap.size := Nat.lt_of_lt_of_le hgq6 hb7.size
                    clear hF6 hB6 hown6 hor hb6 hb7 hfr
                    obtain ⟨c0, c1⟩ := BA.cl hF7.toBA0
                    obtain ⟨hct, hft⟩ := BA.cF hF7.toBA0 tq (by rw [sF_length]; exact htl)
                    obtain ⟨hcx, hfx⟩ := BA.cF hF7.toBA0 x (by rw [sF_length]; exact hxl)
                    have hcq : w7.cell? ⟨g', p, none⟩ = some (iv x) := by rw [hown7.cellAt p (by omega), List.getElem?_map, hBI.cur]; rfl
                    rw [sF_get htl] at hct
                    rw [sF_get hxl, if_pos hxQ] at hcx
                    have htk : tq < k := by rw [← hN.out]; exact htl
                    have htl' : (tq : Int) < k := by omega
                    have hdx := bBd_le h1 h5 hxl
                    obtain ⟨dx, hdxe⟩ : ∃ d, (bBd n).d x = d := ⟨_, rfl⟩
                    rw [hdxe] at hcx hdx
                    have HDX := Lib.hid hdxe
                    clear hfx hdxe
                    obtain ⟨vt, hvt⟩ : ∃ v : Int, (if tq ∈ Q' then ((bBd n).d tq : Int) else -1) = v := ⟨_, rfl⟩
                    rw [hvt] at hct
                    have HVT := Lib.hid hvt
                    clear hvt
                    by_cases hq : tq ∈ Q'
                    · have hd0 : 0 ≤ vt := by have := HVT.out; rw [if_pos hq] at this; omega
                      have hBI2 := hBI.next_old (by rw [HTO.out]; exact hq)
                      clear hq
                      go_wp2
                      go_roundw
                      case rel => exact ⟨Q', K + 1, g', cap', S', by go_num, by omega, by omega, rfl, hBI2, hown7, hF7, hB7'⟩
                      case measure => simp [intOf] <;> omega
                    · have hd0 : vt < 0 := by have := HVT.out; rw [if_neg hq] at this; omega
                      have hKh : K < (bBd n).hi := by rw [bBd_hi]; omega
                      have hfn := hBI.far_new HG.out hK1 hKh (by rw [HTO.out]; exact hq)
                      rw [HTO.out, HDX.out] at hfn
                      have hBI2 := hBI.next_new HG.out hK1 hKh (by rw [HTO.out]; exact hq)
                      rw [HTO.out] at hBI2
                      have HFN := Lib.hid hfn
                      clear hfn hq
                      have hs1 := IntWalk.i64_in ((dx : Int) + 1) (by omega)
                      go_upto_region 24 with fail
                      go_region
                      clear hs1 c0 c1 hcx hct hft hd0 hcq
                      have F7 := (hF7.setF tq ((dx : Int) + 1)).kept (w' := (w7.setCell ⟨a, tq, none⟩ (iv ((dx : Int) + 1))).drew) (fun _ _ _ => rfl)
                      rw [show ((dx : Int) + 1) = ((bBd n).d tq : Nat) by rw [HFN.out]; simp, sF_snoc] at F7
                      have hB7 : Below (w.heap.size + 1) W (w7.setCell ⟨a, tq, none⟩ (iv ((dx : Int) + 1))).drew := (hB7'.setCell (p := ⟨a, tq, none⟩) (by exact hF7.ba) _).drew
                      have hown8' := hown7.kept (w' := w7.setCell ⟨a, tq, none⟩ (iv ((dx : Int) + 1))) (row := some a) (grownBy_setCell w7 a tq _) (.inr (by have := hF7.nq.2.1; simpa [Value.ownBlock] using this))
                      have hown8 : (w7.setCell ⟨a, tq, none⟩ (iv ((dx : Int) + 1))).drew.ownsRow (w.heap.size + 1) 3 1 (.slice (some ⟨g', 0, none⟩) Q'.length cap') Q'.length (Q'.map fun r : Nat => iv (r : Int)) := hown8'
                      clear hown8'
                      have hor8 : OwnI (w7.setCell ⟨a, tq, none⟩ (iv ((dx : Int) + 1))).drew (.slice ra' rl rc') (bturnL (bun n x) K) := (hor7.kept (w' := w7.setCell ⟨a, tq, none⟩ (iv ((dx : Int) + 1))) (fun g hg => heapB_ne (hco g hg).2.2.1)).drew
                      obtain ⟨W7, hW7⟩ : ∃ W7, W7 = (w7.setCell ⟨a, tq, none⟩ (iv ((dx : Int) + 1))).drew := ⟨_, rfl⟩
                      rw [show (((bBd n).d tq : Nat) : Int) = (dx : Int) + 1 by rw [HFN.out]; simp] at F7
                      rw [← hW7] at F7 hB7 hown8 hor8
                      have HW7 := Lib.hid hW7
                      clear hW7 hF7 hB7' hown7 hor7
                      rw [← HW7.out]
                      have hsz7 : g' < W7.heap.size := (hown8.lt g' rfl).2
                      have hz8 : w.heap.size + 1 ≤ W7.heap.size := by have := hB7.size; have := HWZ.out; omega
                      have F8 := F7.setS tq (.slice ra' rl rc') (bturnL (bun n x) K) hor8 hco
                      rw [← HUN.out, sX_snoc] at F8
                      obtain ⟨c0, c1⟩ := BA.cl F7.toBA0
                      obtain ⟨sv, hcs⟩ : ∃ sv, W7.cell? ⟨s, tq, none⟩ = some sv := ⟨_, (BA.cS F7.toBA0 tq (by rw [F7.lS]; exact htk)).1⟩
                      have hfs := (BA.cS F7.toBA0 tq (by rw [F7.lS]; exact htk)).2
                      have hB8 := hB7.setCell (p := ⟨s, tq, none⟩) (by exact F7.bs) (.slice ra' rl rc')
                      have hown9' := hown8.kept (row := some s) (grownBy_setCell W7 s tq (.slice ra' rl rc')) (.inr (by have := F7.nq.2.2; simpa [Value.ownBlock] using this))
                      have hB8g := (hown8.lt g' rfl).1
                      have hQlen := hBI2.length_le
                      rw [List.length_append, hN.out] at hQlen
                      simp only [List.length_singleton] at hQlen
                      have hnew : ((W7.setCell ⟨s, tq, none⟩ (.slice ra' rl rc')).alloc (.cells #[.int .i64 (tq : Int)] 3)).heap[W7.heap.size]? = some (.cells #[.int .i64 (tq : Int)] 3 (0, 0)) := by
                        have := heap_alloc_new (W7.setCell ⟨s, tq, none⟩ (.slice ra' rl rc')) (.cells #[.int .i64 (tq : Int)] 3)
                        simpa [World.setCell] using this
                      clear F7 hown8 hB7 hor8 hBI
                      go_wp2_with (at_builtin; refine wpList_append_lies _ rfl _ _ 22 rfl (w.heap.size + 1) 3 iI _ 1 8 Try.underlying22 HI.out HI0.out HI1.out HI2.out rfl (by omega) (.slice (some ⟨g', 0, none⟩) Q'.length cap') Q'.length (Q'.map fun r : Nat => iv (r : Int)) rfl (hown9'.alloc _) _ 1 1 [iv (tq : Int)] rfl (by simp) (World.news_of_block hnew) (by simp [Value.oneCell']) (by omega) (by unfold maxLen; omega) (by omega) (by simp; omega) (W7.heap.size + 1) (by simp) ?_)
                      intro g8 cap8 w8 hown9 hgr9 hat hlt9
                      have hws : ((W7.setCell ⟨s, tq, none⟩ (.slice ra' rl rc')).alloc (.cells #[.int .i64 (tq : Int)] 3)).heap.size = W7.heap.size + 1 := by simp [World.setCell]
                      have F9 := (F8.alloc (.cells #[.int .i64 (tq : Int)] 3)).grownQ (w' := w8) hgr9 (g0 := g8) (by
                        rcases hat with h | h
                        · left; simpa [Value.ownBlock] using h
                        · right; omega)
                      have hB9 : Below (w.heap.size + 1) W w8 := (hB8.alloc (by simp [World.setCell]; omega) _).grown hgr9 (by simp [World.setCell]; omega) (by intro k hk; simp [Value.ownBlock] at hk; subst hk; exact hB8g)
                      go_wp2
                      go_roundw
                      case rel => exact ⟨Q' ++ [tq], K + 1, g8, cap8, _, by go_num, by omega, by omega, by simp, hBI2, by simpa using hown9, F9, hB9⟩
                      case measure => simp [intOf] <;> omega
                  · obtain rfl : K = n + 1 := by omega
                    have hKf : (n : Int) < ((n + 1 : Nat) : Int) := by omega
                    have HNX := hBI.next (by rw [bBd_hi]; exact Nat.le_refl _)
                    clear hKl hBI
                    go_wp2
                    go_roundw
                    case rel => exact ⟨p + 1, Q', g', cap', S', by go_num, rfl, HNX, hown', hF', hB'⟩
                    case measure => simp [intOf] <;> omega
              · have hQp : Q.length = p := by have := hQ.hp; omega
                subst hQp
                have hge : (Q.length : Int) ≤ (Q.length : Int) := Int.le_refl _
                have hbl := hF.l
                have hbr := hWb.below hB (Nat.lt_succ_self _)
                have hsr := hbr.setRow [.slice (some ⟨a, 0, none⟩) k k, .slice (some ⟨s, 0, none⟩) k k]
                have hg9 : wr.grownBy (wr.setRow w.heap.size #[.slice (some ⟨a, 0, none⟩) k k, .slice (some ⟨s, 0, none⟩) k k]) (some w.heap.size) := ⟨rfl, rfl, rfl, by simp [World.setRow], fun k _ hk => setRow_other wr w.heap.size k _ (fun e => hk (by rw [e]))⟩
                have hB9 : Below w.heap.size w (wr.setRow w.heap.size #[.slice (some ⟨a, 0, none⟩) k k, .slice (some ⟨s, 0, none⟩) k k]) := (hWB.trans (hB.mono (Nat.le_succ _))).grown hg9 (by have := hWB.size; have := hB.size; omega) (fun k hk => by cases hk; exact Nat.le_refl _)
                have HR9 := BAR.mk' (g := bBd n) (u := bun n) (hF.keptB (w' := wr.setRow w.heap.size #[.slice (some ⟨a, 0, none⟩) k k, .slice (some ⟨s, 0, none⟩) k k]) (fun g hg1 _ _ => setRow_other wr w.heap.size g _ (by omega))) hN.out (by omega) (hQ.far_all HG.out) (hQ.st_all HG.out)
                clear hF hQ hown hB hWB hg9 hlt
                go_wp2_with (first | (refine wpList_load2 rfl 106 _ rfl bl _ _ rfl 106 hbl Try.underlying106 rfl (by kernel_rfl) ?_) | (refine wpList_store2 rfl 106 _ _ rfl w.heap.size _ _ rfl rfl 106 _ hbr (by kernel_rfl) rfl ⟨rfl, rfl⟩ ?_))
                exact bodyPost_ret (results_cell_row rfl _ _ w.heap.size 106 _ _ _ rfl hsr Try.underlying106 rfl (by kernel_rfl)) rfl ⟨a, s, S, rfl, HR9, hB9⟩

end Go.Proofs.Ytmlikchhkblohaa

namespace Go.Proofs.Ytmlikchhkblohaa
open Go Go.RowKit Go.Pan

theorem sFar_at {g : Bd} {r : Nat} (h : r < g.N) : (sFar g)[r]'(by rw [sFar_length]; exact h) = (g.d r : Int) := by simp [sFar]
/-- what is read of the layers at a number -/
theorem BAR.at {g : Bd} {u : Nat → List Int} {w : World} {a N : Nat} {v2 : Value} {S : List Value} (h : BAR g u w (.slice (some ⟨a, 0, none⟩) N N) v2 S) {r : Nat} (hr : r < g.N) :
    w.cell? ⟨a, r, none⟩ = some (iv (g.d r : Nat)) ∧ a < w.heap.size := by
  have h1 := (OwnI.cellAt h.far r (by rw [sFar_length]; exact hr)).1
  rw [sFar_at hr] at h1
  exact ⟨h1, World.block_lt_of_cell? w _ h1⟩
theorem run_bl0 (v0 v1 : Value) (w : World) : (Instr.field 106 (.agg #[v0, v1]) 0).run Try.prog w = .ok v0 w := by kernel_rfl

set_option maxHeartbeats 1600000 in
set_option maxRecDepth 100000 in
theorem sBurntDistance_any (v : Value) (xs : List Int) (w : World) (hv : OwnI w v xs) (hn : xs.length ≤ 1048576) :
    Calls Try.prog 69 #[v] w fun e w' => e = .returned (.tuple #[.int .i64 (mBurntDistance xs), .bool (bfewB xs)]) ∧ Below w.heap.size w w' := by
  have c := buFew_any _ xs w hv hn
  cases hg : bfewB xs with
  | true =>
    obtain ⟨hS, h1, h5⟩ := bfewB_iff.1 hg
    have HM := Lib.hid (show mBurntDistance xs = (((bBd xs.length).d (brank xs) : Nat) : Int) by rw [bBd_d h1 h5 hS]; exact if_pos hg)
    have hrl : brank xs < (bBd xs.length).N := brank_lt hS
    have HSM := Lib.hid (Burnt.small hS.1)
    obtain ⟨ad, cap, rfl, _, _, _⟩ := hv.shape
    rw [hg] at c
    obtain ⟨n, hnn⟩ : ∃ n, xs.length = n := ⟨_, rfl⟩
    have HN := Lib.hid hnn
    rw [hnn] at HM hrl h1 h5 c ⊢
    rw [hnn] at hv
    obtain ⟨N, hNe⟩ : ∃ N, (bBd n).N = N := ⟨_, rfl⟩
    have HNE := Lib.hid hNe
    have hrN : brank xs < N := by rw [← hNe]; exact hrl
    have hu57 := run_bl0
    clear hS hg hnn hNe
    go_enter Try.func69, Try.ntmps69
    go_wp2_with fail
    refine c.mono ?_
    rintro e w1 ⟨rfl, hb1⟩
    clear c
    go_wp2_with fail
    refine (buAll_any n N w1 h1 h5 HNE).mono ?_
    rintro e w2 ⟨a, s, S, rfl, HR, hb2⟩
    have hv1 : OwnI w2 (.slice ad n cap) xs := by
      have := ((show OwnI w (.slice ad n cap) xs from hv).same hb1).same hb2
      exact this
    go_wp2_with fail
    refine (buRank_any _ xs w2 hv1 (by rw [HN.out]; omega) HSM).mono ?_
    rintro e w3 ⟨rfl, hb3⟩
    obtain ⟨h1c, hal⟩ := HR.at hrl
    have h3c := (hb3.cell (p := ⟨a, brank xs, none⟩) hal).trans h1c
    have hi : (brank xs : Int) < N := by omega
    have hb12 := hb1.trans (hb2.mono hb1.size)
    have hb13 := hb12.trans (hb3.mono hb12.size)
    clear h1c
    go_wp2
    go_ret2
    exact ⟨by rw [HM.out]; rfl, hb13⟩
  | false =>
    have HM := Lib.hid (show mBurntDistance xs = 0 from if_neg (by rw [hg]; exact Bool.false_ne_true))
    rw [hg] at c
    clear hg
    go_enter Try.func69, Try.ntmps69
    go_wp2_with fail
    refine c.mono ?_
    rintro e w1 ⟨rfl, hb1⟩
    go_wp2
    go_ret2
    exact ⟨by rw [HM.out]; rfl, hb1⟩

theorem wpList_store2o {P : Program} {ops : Array Oper} {rest : List Oper} {o : Oper} {a : Act} {w : World} {Q : Exit → Act → World → Prop}
    (hgd : o.guard = none) (ty : TypeId) (x y : Operand) (ho : o.op = .store ty x y) (g : Nat) (c0 c1 : Value) (hx : a.eval x = .pointer (some ⟨g, 0, none⟩)) (hy : a.eval y = .agg #[c0, c1])
    (t : TypeId) (old : List Value) (hg : Blk w g t old) (hi : (P.info? ty).map (·.size) = some 2) (hold : old.length = 2) (h1 : c0.oneCell' = true ∧ c1.oneCell' = true)
    (h : ∀ w', Blk w' g t [c0, c1] → w.grownBy w' (some g) → wpList P ops Q rest (a.put o.dst undef) w') : wpList P ops Q (o :: rest) a w := by
  refine wpList_store2 hgd ty x y ho g c0 c1 hx hy t old hg hi hold h1 ?_
  exact h _ (hg.setRow [c0, c1]) ⟨rfl, rfl, rfl, by simp [World.setRow], fun k _ hk => setRow_other w g k _ (fun e => hk (by rw [e]))⟩

set_option maxHeartbeats 4000000 in
set_option maxRecDepth 100000 in
theorem sLeastBurnt_any (v : Value) (xs : List Int) (w : World) (hv : OwnI w v xs) (hn : xs.length ≤ 1048576) :
    Calls Try.prog 71 #[v] w fun e w' => ∃ r, e = .returned (.tuple #[r, .bool (bfewB xs)]) ∧ OwnI w' r (mLeastBurnt xs) ∧ From w.heap.size r ∧ Below w.heap.size w w' := by
  have c := buFew_any _ xs w hv hn
  cases hg : bfewB xs with
  | true =>
    obtain ⟨hS, h1, h5⟩ := bfewB_iff.1 hg
    have HM := Lib.hid (show mLeastBurnt xs = ggoL (bG xs.length) (ramp 1 xs.length) (bfar xs) xs from if_pos hg)
    have hle := bfar_le hg
    have hd0 := bBd_d h1 h5 hS
    have hs := Lib.hid hS
    have HD0 := Lib.hid (show gfar (bG xs.length) xs (ramp 1 xs.length) = bfar xs from rfl)
    rw [HD0.out] at hd0
    obtain ⟨ad, cap, rfl, _, _, _⟩ := hv.shape
    rw [hg] at c
    obtain ⟨d, hd⟩ : ∃ d, bfar xs = d := ⟨_, rfl⟩
    rw [hd] at HM HD0 hd0 hle
    obtain ⟨n, hnn⟩ : ∃ n, xs.length = n := ⟨_, rfl⟩
    rw [hnn] at HM h1 h5 c hs HD0 hd0 ⊢
    rw [hnn] at hv
    have HO := Lib.hid (bG_ok h1 h5)
    have HT := Lib.hid (show (bG n).St (ramp 1 n) from BSt.ramp h1 (by omega))
    have hS' : (bG n).St xs := hs.out
    have hd : gfar (bG n) xs (ramp 1 n) = d := HD0.out
    have HD := Lib.hid hd
    have hrl : brank xs < (bBd n).N := brank_lt hs.out
    have HSM := Lib.hid (Burnt.small hs.out.1)
    have hl9 : xs.length ≤ 9 := by omega
    obtain ⟨N, hNe⟩ : ∃ N, (bBd n).N = N := ⟨_, rfl⟩
    have HNE := Lib.hid hNe
    have hrN : brank xs < N := by rw [← hNe]; exact hrl
    have hrN' : (brank xs : Int) < N := by omega
    have HP0 := Lib.hid (GPath.start HO.out hS' hd)
    have HXS := Lib.hid hS'
    clear hS hg hNe hS' hd
    go_enter Try.func71, Try.ntmps71
    go_wp2_with fail
    refine c.mono ?_
    rintro e w0 ⟨rfl, hb0⟩
    clear c
    have c1 := buAll_any n N w0 h1 h5 HNE
    go_wp2_with fail
    refine c1.mono ?_
    rintro e w1 ⟨a, s, S, rfl, HR, hb1⟩
    clear c1
    have hb01 := hb0.trans (hb1.mono hb0.size)
    have hz : Blk (w1.alloc (.cells #[.slice none 0 0, .slice none 0 0] 106)) w1.heap.size 106 [.slice none 0 0, .slice none 0 0] := Blk.new _ _ [.slice none 0 0, .slice none 0 0] _ rfl
    go_upto_region 5 with (refine wpList_store2o rfl 106 _ _ rfl w1.heap.size _ _ rfl rfl 106 _ hz (by kernel_rfl) rfl ⟨rfl, rfl⟩ ?_; intro w3 hbl hg3)
    have hb13 : Below w1.heap.size w1 w3 := (below_new w1 _).grown hg3 (by simp) (by intro k hk; cases hk; exact Nat.le_refl _)
    have HR3 := HR.below hb13 (Nat.le_refl _)
    have hB3 := hb01.trans (hb13.mono hb01.size)
    have hl0 : w3.cell? ⟨w1.heap.size, 0, none⟩ = some (.slice (some ⟨a, 0, none⟩) N N) := by rw [hbl.cell 0]; rfl
    have hbl1 := hbl.lt
    obtain ⟨bl, hbe⟩ : ∃ b, w1.heap.size = b := ⟨_, rfl⟩
    rw [hbe] at hl0 hbl1 ⊢
    have hz3 : w.heap.size ≤ w3.heap.size := hB3.size
    have hv3 : OwnI w3 (.slice ad n cap) xs := (show OwnI w (.slice ad n cap) xs from hv).same hB3
    obtain ⟨h1c, hal⟩ := HR3.at hrl
    rw [hd0] at h1c
    have HR4 := Lib.hid HR3
    clear hb1 HR hz hg3 hb13 HR3 hbl hbe hb0 hb01 hd0
    refine wp_region_held_drew (S := (fun w' => w'.cell? ⟨bl, 0, none⟩ = some (.slice (some ⟨a, 0, none⟩) N N) ∧ w'.cell? ⟨a, brank xs, none⟩ = some (iv (d : Int)))) (by kernel_rfl) (⟨hl0, h1c⟩) (fun hHeld => ?_)
    refine wpAnyH_take (i := 0) (v := ?_) rfl (by kernel_rfl) (by kernel_rfl) (by kernel_rfl) (fun _ _ _ h => h) (Or.inl ⟨by rfl, ?_⟩) (by assumption) ?_
    rotate_left
    · intro w _; go_simp; with_reducible rfl
    try simp only [List.getElem_toArray, List.getElem_cons_zero, Act.put, List.setIfInBounds_toArray, List.set_cons_zero, List.set_cons_succ]
    refine wpAnyH_take (i := 1) (v := ?_) rfl (by kernel_rfl) (by kernel_rfl) (by kernel_rfl) (fun _ _ _ h => h) (Or.inl ⟨by rfl, ?_⟩) (by assumption) ?_
    rotate_left
    · intro w hSw; (try dsimp only at hSw); (go_simp <;> with_reducible rfl)
    try simp only [List.getElem_toArray, List.getElem_cons_zero, List.getElem_cons_succ, Act.put, List.setIfInBounds_toArray, List.set_cons_zero, List.set_cons_succ]
    refine wpAnyH_take (i := 2) (v := ?_) rfl (by kernel_rfl) (by kernel_rfl) (by kernel_rfl) (fun _ _ _ h => h) (Or.inl ⟨by rfl, ?_⟩) (by assumption) ?_
    rotate_left
    · intro w _; go_simp; with_reducible rfl
    try simp only [List.getElem_toArray, List.getElem_cons_zero, List.getElem_cons_succ, Act.put, List.setIfInBounds_toArray, List.set_cons_zero, List.set_cons_succ]
    refine wpAnyH_ready (rs := [3]) (by kernel_rfl) (by simp) ?_
    refine AllReadyH.cons rfl (fun Kc hK => ?_) AllReadyH.nil
    go_simp
    refine (buRank_any (.slice ad n cap) xs w3.drew (hv3.kept (fun _ _ => rfl)) hl9 HSM).mono ?_
    rintro e w4 ⟨rfl, hb4⟩
    go_wp2_with fail
    refine hK.out _ _ (⟨(hb4.cell (p := ⟨bl, 0, none⟩) hbl1).trans hHeld.1, (hb4.cell (p := ⟨a, brank xs, none⟩) hal).trans hHeld.2⟩) (fun hHeld => ?_)
    clear hK Kc
    try simp only [List.getElem_toArray, List.getElem_cons_zero, List.getElem_cons_succ, Act.put, List.setIfInBounds_toArray, List.set_cons_zero, List.set_cons_succ]
    refine wpAnyH_take (i := 4) (v := ?_) rfl (by kernel_rfl) (by kernel_rfl) (by kernel_rfl) (fun _ _ _ h => h) (Or.inl ⟨by rfl, ?_⟩) (by assumption) ?_
    rotate_left
    · intro w _; go_simp; with_reducible rfl
    try simp only [List.getElem_toArray, List.getElem_cons_zero, List.getElem_cons_succ, Act.put, List.setIfInBounds_toArray, List.set_cons_zero, List.set_cons_succ]
    refine wpAnyH_take (i := 5) (v := ?_) rfl (by kernel_rfl) (by kernel_rfl) (by kernel_rfl) (fun _ _ _ h => h) (Or.inl ⟨by rfl, ?_⟩) (by assumption) ?_
    rotate_left
    · intro w hSw; (try dsimp only at hSw); (go_simp <;> with_reducible rfl)
    try simp only [List.getElem_toArray, List.getElem_cons_zero, List.getElem_cons_succ, Act.put, List.setIfInBounds_toArray, List.set_cons_zero, List.set_cons_succ]
    refine wpAnyH_take (i := 6) (v := ?_) rfl (by kernel_rfl) (by kernel_rfl) (by kernel_rfl) (fun _ _ _ h => h) (Or.inl ⟨by rfl, ?_⟩) (by assumption) ?_
    rotate_left
    · intro w _; go_simp; with_reducible rfl
    try simp only [List.getElem_toArray, List.getElem_cons_zero, List.getElem_cons_succ, Act.put, List.setIfInBounds_toArray, List.set_cons_zero, List.set_cons_succ]
    refine wpAnyH_done (by kernel_rfl) ?_ _
    have hb34 : Below w3.heap.size w3 w4 := (Below.refl w3.heap.size w3).drew.trans hb4
    have hl4 : w4.cell? ⟨bl, 0, none⟩ = some (.slice (some ⟨a, 0, none⟩) N N) := hHeld.1
    have hv4 := hv3.same hb34
    have HR4' := Lib.hid (HR4.out.below hb34 (Nat.le_refl _))
    have hB4 := hB3.trans (hb34.mono hz3)
    have hbl4 : bl < w4.heap.size := Nat.lt_of_lt_of_le hbl1 hb34.size
    have hz4 : w.heap.size ≤ w4.heap.size := hB4.size
    clear h1c hrN' hHeld hb4 hb34 hv3 hl0 HR4 hB3 hal
    go_wp2
    go_loopw [0, 5, 6, 7, 8] (fun sv ov fv _ _ wr => ∃ (i e : Nat) (q out : List Int) (qa : Option Addr) (qc : Nat), sv = .slice qa n qc ∧ fv = .int .i64 e ∧ i + e = d ∧ OwnI wr (.slice qa n qc) q ∧ OwnI wr ov out ∧ From w4.heap.size ov ∧ Hid (GPath (bG n) xs (ramp 1 n) d i q out) ∧ Below w4.heap.size w4 wr) (fun _ _ fv _ _ _ => (intOf fv).toNat)
    case atStart => exact ⟨0, d, xs, [], ad, cap, rfl, rfl, by omega, hv4, OwnI.nil _, From.nil _ _ _, HP0, Below.refl _ _⟩
    case round =>
      obtain ⟨i, e, q, out, qa, qc, rfl, rfl, hie, hq, ho, hf, hp, hbr⟩ := hrel
      clear HP0 hv hv4
      obtain ⟨wo, hwo⟩ : ∃ wo, wo = wr := ⟨_, rfl⟩
      subst hwo
      by_cases he : 0 < e
      · have he' : (0 : Int) < e := by omega
        have hie' : i < d := by omega
        have HQ := Lib.hid hp.out.st
        have HF := Lib.hid (gfirK_spec HO.out hp.out.st HT.out (hp.out.more hie'))
        have HL := Lib.hid (fun j hj hl => gfirK_least (j := j) HO.out hp.out.st HT.out (hp.out.more hie') hj hl)
        have HE := Lib.hid (show gfar (bG n) q (ramp 1 n) = e by have := hp.out.ah; omega)
        have heb : e ≤ 15 := by omega
        have HPN := Lib.hid (hp.out.next HO.out HXS.out HT.out HD.out hie')
        obtain ⟨f, hfe⟩ : ∃ f, gfirK (bG n) (ramp 1 n) q = f := ⟨_, rfl⟩
        rw [hfe] at HF HL HPN
        have hf1 : 1 ≤ f := (mem_bks.1 HF.out.1).1
        have hfn : f ≤ n := (mem_bks.1 HF.out.1).2
        have hl0r : wo.cell? ⟨bl, 0, none⟩ = some (.slice (some ⟨a, 0, none⟩) N N) := (hbr.cell (p := ⟨bl, 0, none⟩) hbl4).trans hl4
        have hqn : q.length = n := HQ.out.2
        have HQN := Lib.hid hqn
        have hqm : q.length ≤ 1048576 := by omega
        clear hfe hqn
        go_wp2
        go_loopw [0, 5, 7, 8] (fun sv ow kv _ w5 => ∃ K : Nat, sv = .slice qa n qc ∧ ow = u5 ∧ kv = .int .i64 K ∧ 1 ≤ K ∧ K ≤ f ∧ Below wo.heap.size wo w5) (fun _ _ kv _ _ => n + 1 - (intOf kv).toNat)
        case atStart => exact ⟨1, rfl, rfl, rfl, Nat.le_refl _, hf1, Below.refl _ _⟩
        case round =>
          obtain ⟨K, rfl, rfl, rfl, hK1, hKf, hb5⟩ := hrel
          have hKn : (K : Int) ≤ n := by omega
          have hkk : K ∈ (bG n).ks := mem_bks.2 ⟨hK1, Nat.le_trans hKf hfn⟩
          have hst : BSt n (bturnL q K) := BSt.turn HQ.out K
          have HST := Lib.hid hst
          have hrk : brank (bturnL q K) < (bBd n).N := brank_lt hst
          have hb35 := hbr.trans (hb5.mono hbr.size)
          have hq5 := hq.same hb5
          have hl5 : wr.cell? ⟨bl, 0, none⟩ = some (.slice (some ⟨a, 0, none⟩) N N) := (hb5.cell (p := ⟨bl, 0, none⟩) (Nat.lt_of_lt_of_le hbl4 hbr.size)).trans hl0r
          have HR5 := Lib.hid (HR4'.out.below hb35 (Nat.le_refl _))
          have hKq : K ≤ q.length := by have := HQN.out; omega
          have HQS := Lib.hid (Burnt.small HQ.out.1)
          have HTS := Lib.hid (Burnt.small hst.1)
          have c4 := buTurn_any (.slice qa n qc) q K wr hq5 hqm hKq HQS
          have ht9 : (bturnL q K).length ≤ 9 := by rw [hst.2]; omega
          clear hst
          go_wp2_with fail
          refine c4.mono ?_
          rintro e w6 ⟨r, rfl, hor, hfr, hb6⟩
          clear c4
          have HR6 := HR5.out.below hb6 (Nat.le_refl _)
          have hbl6 : bl < w6.heap.size := Nat.lt_of_lt_of_le hbl4 (Nat.le_trans hb35.size hb6.size)
          have hl6 : w6.cell? ⟨bl, 0, none⟩ = some (.slice (some ⟨a, 0, none⟩) N N) := (hb6.cell (p := ⟨bl, 0, none⟩) (Nat.lt_of_lt_of_le hbl4 hb35.size)).trans hl5
          obtain ⟨h1c, hal6⟩ := HR6.at hrk
          rw [bBd_d h1 h5 HST.out] at h1c
          have hrkN : brank (bturnL q K) < N := by rw [← HNE.out]; exact hrk
          have hrk' : (brank (bturnL q K) : Int) < N := by omega
          obtain ⟨x, hx⟩ : ∃ x, gfar (bG n) (bturnL q K) (ramp 1 n) = x := ⟨_, rfl⟩
          have HX := Lib.hid hx
          rw [hx] at h1c
          have hs1 := IntWalk.i64_in ((e : Int) - 1) (by omega)
          have hq6 := hq5.same hb6
          have ho6 := (ho.same hb5).same hb6
          have hb36 := hb35.trans (hb6.mono hb35.size)
          have hb56 := hb5.trans (hb6.mono hb5.size)
          have hrn : ∃ ra rc, r = .slice ra n rc := by
            obtain ⟨ra, rc, rfl, _, _, _⟩ := hor.shape
            exact ⟨ra, rc, by rw [HST.out.2]⟩
          obtain ⟨ra, rc, rfl⟩ := hrn
          have hzz := hb5.size
          clear hx hl5 hq5 hb5 hb6 hb35 HR6
          go_upto_region 12 with fail
          refine wp_region_held_drew (S := (fun w' => w'.cell? ⟨bl, 0, none⟩ = some (.slice (some ⟨a, 0, none⟩) N N) ∧ w'.cell? ⟨a, brank (bturnL q K), none⟩ = some (iv (x : Int)))) (by kernel_rfl) (⟨hl6, h1c⟩) (fun hHeld => ?_)
          refine wpAnyH_take (i := 0) (v := ?_) rfl (by kernel_rfl) (by kernel_rfl) (by kernel_rfl) (fun _ _ _ h => h) (Or.inl ⟨by rfl, ?_⟩) (by assumption) ?_
          rotate_left
          · intro w _; go_simp; with_reducible rfl
          try simp only [List.getElem_toArray, List.getElem_cons_zero, Act.put, List.setIfInBounds_toArray, List.set_cons_zero, List.set_cons_succ]
          refine wpAnyH_take (i := 1) (v := ?_) rfl (by kernel_rfl) (by kernel_rfl) (by kernel_rfl) (fun _ _ _ h => h) (Or.inl ⟨by rfl, ?_⟩) (by assumption) ?_
          rotate_left
          · intro w hSw; (try dsimp only at hSw); (go_simp <;> with_reducible rfl)
          try simp only [List.getElem_toArray, List.getElem_cons_zero, List.getElem_cons_succ, Act.put, List.setIfInBounds_toArray, List.set_cons_zero, List.set_cons_succ]
          refine wpAnyH_take (i := 2) (v := ?_) rfl (by kernel_rfl) (by kernel_rfl) (by kernel_rfl) (fun _ _ _ h => h) (Or.inl ⟨by rfl, ?_⟩) (by assumption) ?_
          rotate_left
          · intro w _; go_simp; with_reducible rfl
          try simp only [List.getElem_toArray, List.getElem_cons_zero, List.getElem_cons_succ, Act.put, List.setIfInBounds_toArray, List.set_cons_zero, List.set_cons_succ]
          refine wpAnyH_take (i := 6) (v := ?_) rfl (by kernel_rfl) (by kernel_rfl) (by kernel_rfl) (fun _ _ _ h => h) (Or.inl ⟨by rfl, ?_⟩) (by assumption) ?_
          rotate_left
          · intro w _; go_simp; with_reducible rfl
          try simp only [List.getElem_toArray, List.getElem_cons_zero, List.getElem_cons_succ, Act.put, List.setIfInBounds_toArray, List.set_cons_zero, List.set_cons_succ]
          refine wpAnyH_take (i := 7) (v := ?_) rfl (by kernel_rfl) (by kernel_rfl) (by kernel_rfl) (fun _ _ _ h => h) (Or.inl ⟨by rfl, ?_⟩) (by assumption) ?_
          rotate_left
          · intro w _; go_simp; with_reducible rfl
          try simp only [List.getElem_toArray, List.getElem_cons_zero, List.getElem_cons_succ, Act.put, List.setIfInBounds_toArray, List.set_cons_zero, List.set_cons_succ]
          refine wpAnyH_ready (rs := [3]) (by kernel_rfl) (by simp) ?_
          refine AllReadyH.cons rfl (fun Kc hK => ?_) AllReadyH.nil
          go_simp
          refine (buRank_any (.slice ra n rc) (bturnL q K) w6.drew (hor.kept (fun _ _ => rfl)) ht9 HTS).mono ?_
          rintro e w8 ⟨rfl, hb8⟩
          go_wp2_with fail
          refine hK.out _ _ (⟨(hb8.cell (p := ⟨bl, 0, none⟩) hbl6).trans hHeld.1, (hb8.cell (p := ⟨a, brank (bturnL q K), none⟩) hal6).trans hHeld.2⟩) (fun hHeld => ?_)
          clear hK Kc
          try simp only [List.getElem_toArray, List.getElem_cons_zero, List.getElem_cons_succ, Act.put, List.setIfInBounds_toArray, List.set_cons_zero, List.set_cons_succ]
          refine wpAnyH_take (i := 4) (v := ?_) rfl (by kernel_rfl) (by kernel_rfl) (by kernel_rfl) (fun _ _ _ h => h) (Or.inl ⟨by rfl, ?_⟩) (by assumption) ?_
          rotate_left
          · intro w _; go_simp; with_reducible rfl
          try simp only [List.getElem_toArray, List.getElem_cons_zero, List.getElem_cons_succ, Act.put, List.setIfInBounds_toArray, List.set_cons_zero, List.set_cons_succ]
          refine wpAnyH_take (i := 5) (v := ?_) rfl (by kernel_rfl) (by kernel_rfl) (by kernel_rfl) (fun _ _ _ h => h) (Or.inl ⟨by rfl, ?_⟩) (by assumption) ?_
          rotate_left
          · intro w hSw; (try dsimp only at hSw); (go_simp <;> with_reducible rfl)
          try simp only [List.getElem_toArray, List.getElem_cons_zero, List.getElem_cons_succ, Act.put, List.setIfInBounds_toArray, List.set_cons_zero, List.set_cons_succ]
          refine wpAnyH_take (i := 8) (v := ?_) rfl (by kernel_rfl) (by kernel_rfl) (by kernel_rfl) (fun _ _ _ h => h) (Or.inl ⟨by rfl, ?_⟩) (by assumption) ?_
          rotate_left
          · intro w _; go_simp; with_reducible rfl
          try simp only [List.getElem_toArray, List.getElem_cons_zero, List.getElem_cons_succ, Act.put, List.setIfInBounds_toArray, List.set_cons_zero, List.set_cons_succ]
          refine wpAnyH_done (by kernel_rfl) ?_ _
          have hb68 : Below w6.heap.size w6 w8 := (Below.refl w6.heap.size w6).drew.trans hb8
          have ho8 : OwnI w8 u5 out := ho6.same hb68
          have hr8 : OwnI w8 (.slice ra n rc) (bturnL q K) := hor.same hb68
          have hb38 : Below w4.heap.size w4 w8 := hb36.trans (hb68.mono hb36.size)
          have hb58 : Below wo.heap.size wo w8 := hb56.trans (hb68.mono hb56.size)
          have hz8 : w4.heap.size ≤ w8.heap.size := hb38.size
          have hol := ho.lt
          clear ho6 hq6 hor hb36 hb56 hl6 h1c hb8 hb68 hHeld
          by_cases hxe : (x : Int) = (e : Int) - 1
          · have hKe : K = f := by
              rcases Nat.lt_or_ge K f with h | h
              · have h2 := HL.out K hkk h
                unfold gclo at h2
                rw [show (bG n).mv q K = bturnL q K from rfl, HX.out, HE.out] at h2
                have h3 := of_decide_eq_false h2
                omega
              · omega
            subst hKe
            have hlen : out.length ≤ 1048576 := by have := hp.out.len; omega
            go_wp2_with (at_builtin; refine wpList_app1 Try.intSl rfl _ _ rfl _ out rfl (ho8.alloc _) w4.heap.size hf w8.heap.size (K : Int) rfl ?c1 w4 (hb38.alloc hz8 _) ?c2 hlen ?_)
            case c1 => simp [go_sem]
            case c2 => simp; omega
            intro v' w9 ho9 hf9 hb9 hg9
            have hr9 : OwnI w9 (.slice ra n rc) (bturnL q K) := (hr8.alloc (.cells #[.int .i64 (K : Int)] 3)).grown hg9 (fun g hg e => by have := hol g e; have h2 := hfr g hg; omega)
            clear ho8 hr8 hb38 hg9
            go_wp2
            go_roundw
            case rel => exact ⟨i + 1, e - 1, bturnL q K, out ++ [(K : Int)], ra, rc, rfl, by go_num, by omega, hr9, ho9, hf9, HPN, hb9⟩
            case measure => simp [intOf] <;> omega
          · have hKe : K < f := by
              rcases Nat.lt_or_ge K f with h | h
              · exact h
              · have h2 : K = f := by omega
                have h3 := HF.out.2
                rw [← h2, show (bG n).mv q K = bturnL q K from rfl, HX.out] at h3
                omega
            go_wp2
            go_roundw
            case rel => exact ⟨K + 1, rfl, rfl, by go_num, by omega, by omega, hb58⟩
            case measure => simp [intOf] <;> omega
      · have he0 : e = 0 := by omega
        subst he0
        obtain rfl : i = d := by omega
        have HG := Lib.hid hp.out.last
        clear hp
        go_wp2
        go_ret2
        exact ⟨_, rfl, by rw [HM.out, ← HG.out]; exact ho, hf.mono hz4, hB4.trans (hbr.mono hz4)⟩
  | false =>
    have HM := Lib.hid (show mLeastBurnt xs = [] from if_neg (by rw [hg]; exact Bool.false_ne_true))
    rw [hg] at c
    clear hg
    go_enter Try.func71, Try.ntmps71
    go_wp2_with fail
    refine c.mono ?_
    rintro e w1 ⟨rfl, hb1⟩
    go_wp2
    go_ret2
    exact ⟨_, rfl, by rw [HM.out]; exact OwnI.nil _, From.nil _ _ _, hb1⟩

theorem _root_.Go.Pan.OwnI.atO {w : World} {v : Value} {xs : List Int} (h : OwnI w v xs) (j : Nat) (hj : j < xs.length) :
    ∃ g off cap, v = .slice (some ⟨g, off, none⟩) xs.length cap ∧ w.cell? ⟨g, off + j, none⟩ = some (iv xs[j]) ∧ w.frozen? ⟨g, off + j, none⟩ = false ∧ ∀ u : Int, OwnI (w.setCell ⟨g, off + j, none⟩ (iv u)) (.slice (some ⟨g, off, none⟩) xs.length cap) (xs.set j u) := by
  obtain ⟨ad, cap, rfl, h1, h2, h3⟩ := h.shape
  obtain ⟨g, off, rfl, hg, hc, hf⟩ := Go.Pan.Own.at h (by omega)
  have hcj := hc j (by omega)
  rw [List.getElem?_map, List.getElem?_eq_getElem hj] at hcj
  refine ⟨g, off, cap, rfl, hcj, hf (off + j), fun u => ?_⟩
  have hs := Go.Pan.Own.stored h j (by omega) (iv u)
  unfold OwnI
  rw [List.length_set, List.map_set]
  exact hs

def wlenB : Value → Nat
  | .slice _ n _ => n
  | _ => 0

set_option maxHeartbeats 4000000 in
set_option maxRecDepth 100000 in
theorem sCountBurntBy_any (n : Int) (w : World) :
    Calls Try.prog 73 #[.int .i64 n] w fun e w' => ∃ r, e = .returned (.tuple #[r, .bool (inB n 1 5)]) ∧ OwnI w' r (mCountBurntBy n) ∧ From w.heap.size r ∧ Below w.heap.size w w' := by
  cases hg : inB n 1 5 with
  | true =>
    have HM := Lib.hid (show mCountBurntBy n = bbyL n.toNat from if_pos hg)
    have HGI := Lib.hid hg
    obtain ⟨m, rfl, h1, h5⟩ := inB_five hg
    rw [Int.toNat_natCast] at HM
    obtain ⟨N, hNe⟩ : ∃ N, (bBd m).N = N := ⟨_, rfl⟩
    have HNE := Lib.hid hNe
    have hfl : N ≤ 3840 := by rw [← hNe]; exact bBd_few h5
    have c1 := buAll_any m N w h1 h5 HNE
    have HB := Lib.hid (fun i (hi : i ≤ N) => dLen_le (d := (bBd m).d) (i := i) (M := 15) (fun r hr => bBd_le h1 h5 (by rw [hNe]; omega)))
    have HA := Lib.hid (show dOut (bBd m).d N (dLen (bBd m).d N) = bbyL m by rw [← hNe, bLen_all m]; exact bOut_all h1 h5)
    have hu57 := run_bl0
    clear hg hNe
    go_enter Try.func73, Try.ntmps73
    go_wp2_with fail
    refine (l1In_any _ _ _ _).mono ?_
    rintro e w1 ⟨rfl, rfl⟩
    rw [HGI.out]
    go_wp2_with fail
    refine c1.mono ?_
    rintro e w1 ⟨a, s, S, rfl, HR, hb1⟩
    clear c1
    have hz1 := hb1.size
    go_wp2
    go_loopw [4, 6, 14] (fun ov _ iv' wr => ∃ (i : Nat) (oa : Option Addr) (oc : Nat), i ≤ N ∧ iv' = .int .i64 i ∧ ov = .slice oa (dLen (bBd m).d i) oc ∧ OwnI wr (.slice oa (dLen (bBd m).d i) oc) (dOut (bBd m).d i (dLen (bBd m).d i)) ∧ From w1.heap.size (.slice oa (dLen (bBd m).d i) oc) ∧ Below w1.heap.size w1 wr) (fun _ _ i _ => N - (intOf i).toNat)
    case atStart => exact ⟨0, none, 0, Nat.zero_le _, rfl, rfl, OwnI.nil _, From.nil _ _ _, Below.refl _ _⟩
    case round =>
      obtain ⟨i, oa, oc, hi, rfl, rfl, ho, hf, hbr⟩ := hrel
      obtain ⟨wo, hwo⟩ : ∃ wo, wo = wr := ⟨_, rfl⟩
      subst hwo
      by_cases hlt : i < N
      · have hlt' : (i : Int) < N := by omega
        obtain ⟨h1c, hal⟩ := HR.at (r := i) (by rw [HNE.out]; exact hlt)
        have h1r := (hbr.cell (p := ⟨a, i, none⟩) hal).trans h1c
        obtain ⟨x, hx⟩ : ∃ x, (bBd m).d i = x := ⟨_, rfl⟩
        have HX := Lib.hid hx
        have HLS := Lib.hid (show dLen (bBd m).d (i + 1) = max (dLen (bBd m).d i) (x + 1) by rw [dLen_succ, hx])
        have hlb := HB.out (i + 1) (by omega)
        have hlb0 := HB.out i (by omega)
        have HGW := Lib.hid (fun K (hK : dLen (bBd m).d i ≤ K) => dOut_grow (d := (bBd m).d) (i := i) hK)
        have hxb : x ≤ 15 := by
          rw [HLS.out] at hlb
          omega
        rw [hx] at h1r
        obtain ⟨l0, hl0⟩ : ∃ l, dLen (bBd m).d i = l := ⟨_, rfl⟩
        rw [hl0] at ho hf HLS HGW hlb0 ⊢
        clear h1c hx hlb hl0
        go_wp2
        go_loopw [4] (fun ov w5 => ∃ (K : Nat) (oa : Option Addr) (oc : Nat), l0 ≤ K ∧ K ≤ max l0 (x + 1) ∧ ov = .slice oa K oc ∧ OwnI w5 (.slice oa K oc) (dOut (bBd m).d i K) ∧ From w1.heap.size (.slice oa K oc) ∧ Below w1.heap.size w1 w5) (fun ov _ => x + 1 - wlenB ov)
        case atStart => exact ⟨l0, oa, oc, Nat.le_refl _, Nat.le_max_left _ _, rfl, ho, hf, hbr⟩
        case round =>
          obtain ⟨K, oa2, oc2, hK1, hK2, rfl, ho2, hf2, hb2⟩ := hrel
          clear ho hf h1r
          have hz2 := hb2.size
          by_cases hle : K ≤ x
          · have hle' : (K : Int) ≤ x := by omega
            have hlen : (dOut (bBd m).d i K).length ≤ 1048576 := by rw [dOut_length]; omega
            have HGK := Lib.hid (HGW.out K hK1)
            go_wp2_with (at_builtin; refine wpList_app1 Try.intSl rfl _ _ rfl _ (dOut (bBd m).d i K) rfl (ho2.alloc _) w1.heap.size hf2 wr.heap.size 0 rfl ?c1 w1 (hb2.alloc hz2 _) ?c2 hlen ?_)
            case c1 => simp [go_sem]
            case c2 => simp; omega
            intro v' w9 ho9 hf9 hb9 _
            rw [← HGK.out] at ho9
            obtain ⟨oa9, oc9, rfl, _, _, _⟩ := ho9.shape
            rw [dOut_length] at ho9 hf9 ⊢
            go_wp2
            go_roundw
            case rel => exact ⟨K + 1, oa9, oc9, by omega, by omega, rfl, ho9, hf9, hb9⟩
            case measure => simp [wlenB] <;> omega
          · have hlt2 : (x : Int) < K := by omega
            have hxK : x < K := by omega
            have hKe : dLen (bBd m).d (i + 1) = K := by rw [HLS.out]; omega
            have HKE := Lib.hid hKe
            obtain ⟨g, off, cap, he, hd, hfd, hst⟩ := OwnI.atO ho2 x (by rw [dOut_length]; exact hxK)
            rw [dOut_length] at he hst
            simp only [Value.slice.injEq] at he
            obtain ⟨rfl, _, rfl⟩ := he
            rw [dOut_get hxK] at hd
            have hst2 := hst ((dCnt (bBd m).d i x : Int) + 1)
            rw [dOut_set HX.out] at hst2
            have hcb := dCnt_le (bBd m).d i x
            obtain ⟨k, hk⟩ : ∃ k, dCnt (bBd m).d i x = k := ⟨_, rfl⟩
            rw [hk] at hd hst2 hcb
            have hgB : w1.heap.size ≤ g := hf2 g rfl
            have hb3 := hb2.setCell (p := ⟨g, off + x, none⟩) hgB (iv ((k : Int) + 1))
            have hs1 := IntWalk.i64_in ((k : Int) + 1) (by omega)
            clear hKe hst hk ho2 hb2
            go_wp2
            go_roundw
            case rel => exact ⟨i + 1, _, oc2, by omega, by go_num, by rw [HKE.out], by rw [HKE.out]; exact hst2, by rw [HKE.out]; exact hf2, hb3⟩
            case measure => simp [intOf] <;> omega
      · obtain hie : i = N := by omega
        have HE := Lib.hid (show dOut (bBd m).d i (dLen (bBd m).d i) = bbyL m by rw [hie]; exact HA.out)
        have hge : (N : Int) ≤ i := by omega
        clear hie
        go_wp2
        go_ret2
        exact ⟨_, rfl, by rw [HM.out, ← HE.out]; exact ho, hf.mono hz1, hb1.trans (hbr.mono hz1)⟩
  | false =>
    have HM := Lib.hid (show mCountBurntBy n = [] from if_neg (by rw [hg]; exact Bool.false_ne_true))
    have HGI := Lib.hid hg
    clear hg
    go_enter Try.func73, Try.ntmps73
    go_wp2_with fail
    refine (l1In_any _ _ _ _).mono ?_
    rintro e w1 ⟨rfl, rfl⟩
    rw [HGI.out]
    go_wp2
    go_ret2
    exact ⟨_, rfl, by rw [HM.out]; exact OwnI.nil _, From.nil _ _ _, Below.refl _ _⟩

end Go.Proofs.Ytmlikchhkblohaa

namespace Go.Pan
open Go Go.RowKit
/-- how many of a sorted list come before x; the list with x put in there -/
def kW (out : List (List Int)) (x : List Int) : Nat := (out.takeWhile fun y => ltL y x).length
def insW (out : List (List Int)) (x : List Int) : List (List Int) := out.take (kW out x) ++ x :: out.drop (kW out x)
theorem kW_le (out : List (List Int)) (x : List Int) : kW out x ≤ out.length := by
  unfold kW
  induction out with
  | nil => simp
  | cons y l ih =>
    rw [List.takeWhile_cons]
    split
    · simp; exact ih
    · simp
theorem kW_eq {x : List Int} : ∀ {out : List (List Int)} {k : Nat}, k ≤ out.length → (∀ j (hj : j < out.length), j < k → ltL (out[j]) x = true) → (∀ hk : k < out.length, ltL (out[k]) x = false) → kW out x = k
  | [], k, hk, _, _ => by simp at hk; subst hk; rfl
  | y :: l, 0, _, _, h2 => by
    have := h2 (by simp)
    simp only [List.getElem_cons_zero] at this
    simp [kW, this]
  | y :: l, k + 1, hk, h1, h2 => by
    have h0 := h1 0 (by simp) (by omega)
    simp only [List.getElem_cons_zero] at h0
    have ih := kW_eq (x := x) (out := l) (k := k) (by simpa using hk) (fun j hj hjk => by have := h1 (j + 1) (by simp; omega) (by omega); simpa using this) (fun hk' => by have := h2 (by simp; omega); simpa using this)
    unfold kW at ih ⊢
    rw [List.takeWhile_cons, if_pos h0, List.length_cons, ih]
theorem insW_length (out : List (List Int)) (x : List Int) : (insW out x).length = out.length + 1 := by
  have := kW_le out x
  unfold insW
  simp
  omega
theorem mem_insW {out : List (List Int)} {x q : List Int} : q ∈ insW out x ↔ q = x ∨ q ∈ out := by
  unfold insW
  rw [List.mem_append, List.mem_cons]
  constructor
  · rintro (h | rfl | h)
    · exact .inr (List.mem_of_mem_take h)
    · exact .inl rfl
    · exact .inr (List.mem_of_mem_drop h)
  · rintro (rfl | h)
    · exact .inr (.inl rfl)
    · rw [← List.take_append_drop (kW out x) out, List.mem_append] at h
      rcases h with h | h
      · exact .inl h
      · exact .inr (.inr h)
theorem insW_sorted {out : List (List Int)} {x : List Int} {m : Nat} (hs : out.Pairwise fun a b => ltL a b = true) (hl : ∀ q ∈ out, q.length = m) (hx : x.length = m) (hn : x ∉ out) : (insW out x).Pairwise fun a b => ltL a b = true := by
  induction out with
  | nil => simp [insW, kW]
  | cons y l ih =>
    have hy := hl y (by simp)
    have h1 := List.pairwise_cons.1 hs
    cases hyx : ltL y x with
    | true =>
      have e : insW (y :: l) x = y :: insW l x := by
        unfold insW kW
        rw [List.takeWhile_cons, if_pos hyx]
        simp
      rw [e, List.pairwise_cons]
      refine ⟨fun b hb => ?_, ih h1.2 (fun q hq => hl q (List.mem_cons_of_mem _ hq)) (fun h => hn (List.mem_cons_of_mem _ h))⟩
      rcases mem_insW.1 hb with rfl | hb
      · exact hyx
      · exact h1.1 b hb
    | false =>
      have e : insW (y :: l) x = x :: y :: l := by
        unfold insW kW
        rw [List.takeWhile_cons, if_neg (by rw [hyx]; exact Bool.false_ne_true)]
        simp
      have hxy : ltL x y = true := by
        cases h : ltL x y with
        | true => rfl
        | false => exact absurd (ltL_total x y (by omega) h hyx) (fun e => hn (by rw [e]; simp))
      rw [e, List.pairwise_cons]
      refine ⟨fun b hb => ?_, hs⟩
      rcases List.mem_cons.1 hb with rfl | hb
      · exact hxy
      · exact ltL_trans _ _ _ hxy (h1.1 b hb)
/-- the ranks below i whose distance is E, put in one after the other -/
def foldW (d : Nat → Nat) (u : Nat → List Int) (E : Nat) : Nat → List (List Int)
  | 0 => []
  | i + 1 => if d i = E then insW (foldW d u E i) (u i) else foldW d u E i
theorem foldW_yes {d : Nat → Nat} {u : Nat → List Int} {E i : Nat} (h : d i = E) : foldW d u E (i + 1) = insW (foldW d u E i) (u i) := if_pos h
theorem foldW_no {d : Nat → Nat} {u : Nat → List Int} {E i : Nat} (h : d i ≠ E) : foldW d u E (i + 1) = foldW d u E i := if_neg h
theorem foldW_length (d : Nat → Nat) (u : Nat → List Int) (E i : Nat) : (foldW d u E i).length ≤ i := by
  induction i with
  | zero => simp [foldW]
  | succ i ih =>
    unfold foldW
    split
    · rw [insW_length]; omega
    · omega
theorem mem_foldW {d : Nat → Nat} {u : Nat → List Int} {E : Nat} {q : List Int} : ∀ i, q ∈ foldW d u E i ↔ ∃ r, r < i ∧ d r = E ∧ u r = q
  | 0 => by simp [foldW]
  | i + 1 => by
    have ih := mem_foldW (d := d) (u := u) (E := E) (q := q) i
    by_cases h : d i = E
    · rw [foldW_yes h, mem_insW, ih]
      constructor
      · rintro (rfl | ⟨r, h1, h2, h3⟩)
        · exact ⟨i, by omega, h, rfl⟩
        · exact ⟨r, by omega, h2, h3⟩
      · rintro ⟨r, h1, h2, h3⟩
        by_cases e : r = i
        · subst e; exact .inl h3.symm
        · exact .inr ⟨r, by omega, h2, h3⟩
    · rw [foldW_no h, ih]
      constructor
      · rintro ⟨r, h1, h2, h3⟩; exact ⟨r, by omega, h2, h3⟩
      · rintro ⟨r, h1, h2, h3⟩
        exact ⟨r, by rcases Nat.lt_succ_iff_lt_or_eq.1 h1 with h4 | h4; exact h4; subst h4; exact absurd h2 h, h2, h3⟩
theorem foldW_sorted {d : Nat → Nat} {u : Nat → List Int} {E m N : Nat} (hl : ∀ r, r < N → (u r).length = m) (hi : ∀ r s, r < N → s < N → u r = u s → r = s) : ∀ i, i ≤ N → (foldW d u E i).Pairwise fun a b => ltL a b = true
  | 0, _ => List.Pairwise.nil
  | i + 1, h => by
    have ih := foldW_sorted (d := d) (E := E) hl hi i (by omega)
    by_cases he : d i = E
    · rw [foldW_yes he]
      refine insW_sorted (m := m) ih (fun q hq => ?_) (hl i (by omega)) (fun hq => ?_)
      · obtain ⟨r, h1, _, rfl⟩ := (mem_foldW i).1 hq
        exact hl r (by omega)
      · obtain ⟨r, h1, _, h3⟩ := (mem_foldW i).1 hq
        have := hi r i (by omega) (by omega) h3
        omega
    · rw [foldW_no he]; exact ih
/-- the worst burnt stacks, in order -/
def worstB (m : Nat) : List (List Int) := foldW (bBd m).d (bun m) (gecc (bG m) (ramp 1 m)) (bBd m).N
def mWorstBurnt (n : Int) : List (List Int) := if inB n 1 5 = true then worstB n.toNat else []
theorem bmax_all (m : Nat) : maxTo (bBd m).d (bBd m).N = gecc (bG m) (ramp 1 m) := by
  unfold maxTo gecc
  show _ = gmaxN ((ball m).map (gfar (bG m) (ramp 1 m)))
  rw [ball_un, List.map_map]
  rfl
theorem worstB_sorted {m : Nat} (h1 : 1 ≤ m) (h5 : m ≤ 5) : (worstB m).Pairwise fun x y => ltL x y = true :=
  foldW_sorted (m := m) (N := (bBd m).N) (fun r hr => (bun_st h1 (by omega) hr).2) (fun r s hr hs e => by
    have e1 := brank_bun h1 (by omega) (r := r) hr
    have e2 := brank_bun h1 (by omega) (r := s) hs
    rw [← e1, ← e2, e]) _ (Nat.le_refl _)
theorem mem_worstB {m : Nat} (h1 : 1 ≤ m) (h5 : m ≤ 5) {q : List Int} : q ∈ worstB m ↔ (bG m).St q ∧ 0 < gnearC (bG m) (ramp 1 m) (gecc (bG m) (ramp 1 m)) q := by
  have hO := bG_ok h1 h5
  have hH : (bG m).St (ramp 1 m) := BSt.ramp h1 (by omega)
  unfold worstB
  rw [mem_foldW]
  constructor
  · rintro ⟨r, hr, hd, rfl⟩
    have hs : (bG m).St (bun m r) := bun_st h1 (by omega) hr
    exact ⟨hs, (gnearC_pos hO hH hs).2 hd⟩
  · rintro ⟨hs, hp⟩
    have hd := (gnearC_pos hO hH hs).1 hp
    have hs' : BSt m q := hs
    exact ⟨brank q, brank_lt hs', by
      show gfar (bG m) (ramp 1 m) (bun m (brank q)) = _
      rw [bun_brank h1 (by omega) hs']; exact hd, bun_brank h1 (by omega) hs'⟩
theorem worstB_len {m : Nat} (h5 : m ≤ 5) : (worstB m).length ≤ 3840 := Nat.le_trans (foldW_length _ _ _ _) (bBd_few h5)
theorem worstB_rows {m : Nat} (h1 : 1 ≤ m) (h5 : m ≤ 5) : ∀ xs ∈ worstB m, xs.length ≤ 9 := fun xs hx => by
  have h : BSt m xs := ((mem_worstB h1 h5).1 hx).1
  have := h.2
  omega
theorem len_mWorstBurnt (n : Int) : (mWorstBurnt n).length ≤ 1048576 := by
  unfold mWorstBurnt
  split
  · rename_i h
    obtain ⟨m, rfl, h1, h5⟩ := inB_five h
    have := worstB_len h5
    rw [Int.toNat_natCast]; omega
  · simp
theorem rows_mWorstBurnt (n : Int) : ∀ xs ∈ mWorstBurnt n, xs.length ≤ 1048576 := by
  unfold mWorstBurnt
  split
  · rename_i h
    obtain ⟨m, rfl, h1, h5⟩ := inB_five h
    intro xs hx
    rw [Int.toNat_natCast] at hx
    have := worstB_rows h1 h5 xs hx
    omega
  · intro xs hx; cases hx
theorem tot_mWorstBurnt (n : Int) : pre (mWorstBurnt n) (mWorstBurnt n).length ≤ 1048576 := by
  unfold mWorstBurnt
  split
  · rename_i h
    obtain ⟨m, rfl, h1, h5⟩ := inB_five h
    rw [Int.toNat_natCast]
    have := pre_le (worstB_len h5) (worstB_rows h1 h5)
    omega
  · simp [pre]

end Go.Pan

namespace Go.Proofs.Ytmlikchhkblohaa
open Go Go.RowKit Go.Pan

set_option maxHeartbeats 800000 in
set_option maxRecDepth 100000 in
theorem WorstBurnt_any (n : Int) (w : World) :
    Calls Try.prog 82 #[.int .i64 n] w fun e w' => ∃ r hs, e = .returned (.tuple #[r, .bool (inB n 1 5)]) ∧ SS w' w.heap.size w'.heap.size r hs (mWorstBurnt n) ∧ Below w.heap.size w w' := by
  have c := isSearchedBurnt_any n w
  cases hg : inB n 1 5 with
  | true =>
    have HM := Lib.hid (show mWorstBurnt n = worstB n.toNat from if_pos hg)
    obtain ⟨m, rfl, h1, h5⟩ := inB_five hg
    rw [Int.toNat_natCast] at HM
    rw [hg] at c
    have HC := Lib.hid (bG_ok h1 h5)
    have HH := Lib.hid (show (bG m).St (ramp 1 m) from BSt.ramp h1 (by omega))
    have HMW := Lib.hid (fun q => mem_worstB h1 h5 (q := q))
    have HSO := Lib.hid (worstB_sorted h1 h5)
    have HLM := Lib.hid (show (bG m).len = m from rfl)
    have hle := gecc_le HC.out HH.out
    have hdm := HC.out.dm30
    have c1 := burntWave_any m w h1 h5
    have HNE := Lib.hid (show ∃ q, (bG m).St q ∧ 0 < gnearC (bG m) (ramp 1 m) (gecc (bG m) (ramp 1 m)) q by
      obtain ⟨q, h1, h2⟩ := gecc_at HC.out HH.out
      exact ⟨q, h1, (gnearC_pos HC.out HH.out h1).2 h2⟩)
    obtain ⟨E, hE⟩ : ∃ E, gecc (bG m) (ramp 1 m) = E := ⟨_, rfl⟩
    rw [hE] at hle c1 HMW HNE
    have hEb : E ≤ 1048576 := by omega
    clear hg hE hdm
    go_enter Try.func82, Try.ntmps82
    go_wp2_with fail
    refine c.mono ?_
    rintro e w0 ⟨rfl, rfl⟩
    clear c
    go_wp2_with fail
    refine c1.mono ?_
    rintro e w1 ⟨g, cap, ms, rfl, hW, hb1⟩
    clear c1
    have hml : ms.length = E + 1 + 1 := by rw [hW.len, gnearL_length]
    have hne : ms ≠ [] := by rintro rfl; simp at hml
    obtain ⟨gg, cc, hsh, _, hgl, hcap, hcl⟩ := hW.shape hne
    simp only [Value.slice.injEq, Option.some.injEq, Addr.mk.injEq, and_true] at hsh
    obtain ⟨rfl, hxx, rfl⟩ := hsh
    clear hxx
    obtain ⟨b, hb⟩ : ∃ b, ms[E]? = some b := ⟨_, List.getElem?_eq_getElem (by omega)⟩
    have hcb := hcl E b hb
    have hly := (hW.lay E b _ hb (gnearL_get (bG m) (ramp 1 m) (E + 1) E (by omega))).1
    have c2 := wlastAt_any g E cap b w1 hEb hcb
    clear hml hne hcl hb hW hcap hcb
    go_wp2_with fail
    refine c2.mono ?_
    rintro e w2 ⟨rfl, rfl⟩
    clear c2
    have c3 := stacks_any (bG m) b _ m w1 HC hly HNE.out HLM (by omega)
    go_wp2_with fail
    refine c3.mono ?_
    rintro e w3 ⟨r, hs, L, rfl, hS, hP, hmem, hb3⟩
    clear c3
    have HL := Lib.hid (show L = worstB m from sorted_eq hP HSO.out (fun q => by rw [hmem q, HMW.out q]))
    have HS := Lib.hid (show SS w3 w.heap.size w3.heap.size r hs (mWorstBurnt (m : Int)) by rw [HM.out, ← HL.out]; exact hS.mono hb1.size (Nat.le_refl _))
    have hB := hb1.trans (hb3.mono hb1.size)
    clear hP hmem hS
    go_wp2
    go_ret2
    exact ⟨_, _, rfl, HS.out, hB⟩
  | false =>
    have HM := Lib.hid (show mWorstBurnt n = [] from if_neg (by rw [hg]; exact Bool.false_ne_true))
    rw [hg] at c
    clear hg
    go_enter Try.func82, Try.ntmps82
    go_wp2_with fail
    refine c.mono ?_
    rintro e w0 ⟨rfl, rfl⟩
    clear c
    go_wp2
    go_ret2
    exact ⟨_, [], rfl, by rw [HM.out]; exact SS.nil _ _ _, Below.refl _ _⟩

end Go.Proofs.Ytmlikchhkblohaa

namespace Go.Pan
theorem ltL_at {xs ys : List Int} {k : Nat} (h1 : k < xs.length) (h2 : k < ys.length) (he : xs.take k = ys.take k) (hne : xs[k] ≠ ys[k]) : ltL xs ys = decide (xs[k] < ys[k]) := by
  have e1 : xs = xs.take k ++ xs[k] :: xs.drop (k + 1) := by rw [← List.drop_eq_getElem_cons h1, List.take_append_drop]
  have e2 : ys = xs.take k ++ ys[k] :: ys.drop (k + 1) := by rw [he, ← List.drop_eq_getElem_cons h2, List.take_append_drop]
  have h : ltL (xs.take k ++ xs[k] :: xs.drop (k + 1)) (xs.take k ++ ys[k] :: ys.drop (k + 1)) = decide (xs[k] < ys[k]) := by
    rw [ltL_app, ltL_cons, decide_eq_false hne, Bool.false_and, Bool.or_false]
  rw [← e1, ← e2] at h
  exact h

end Go.Pan

namespace Go.Proofs.Ytmlikchhkblohaa
open Go Go.RowKit Go.Pan

set_option maxHeartbeats 1600000 in
set_option maxRecDepth 100000 in
theorem buLess_any (v u : Value) (xs ys : List Int) (w : World) (hv : OwnI w v xs) (hu : OwnI w u ys) (hl : xs.length = ys.length) (hn : xs.length ≤ 1048576) :
    Calls Try.prog 137 #[v, u] w fun e w' => e = .returned (.bool (ltL xs ys)) ∧ ∃ m, w' = w.drewN m := by
  obtain ⟨ad, cap, rfl, hc, _, _⟩ := hv.shape
  obtain ⟨bd, cbp, rfl, hc', _, _⟩ := hu.shape
  rw [← hl] at hc' ⊢
  have HL := Lib.hid hl
  have HV := Lib.hid hv
  have HU := Lib.hid (show Go.Pan.Own w 1 (.slice bd xs.length cbp) xs.length (ys.map iv) by
    have h : Go.Pan.Own w 1 (.slice bd ys.length cbp) ys.length (ys.map iv) := hu
    rw [← hl] at h
    exact h)
  have H0 := Lib.hid (show xs.take 0 = ys.take 0 by simp)
  clear hl hv hu
  go_enter Try.func137, Try.ntmps137
  go_wp2
  go_loopw [5, 8] (fun _ i wr => ∃ k : Nat, k ≤ xs.length ∧ i = .int .i64 k ∧ Hid (xs.take k = ys.take k) ∧ ∃ t, wr = w.drewN t) (fun _ i _ => xs.length - (intOf i).toNat)
  case atStart => exact ⟨0, Nat.zero_le _, rfl, H0, 0, rfl⟩
  case round =>
    obtain ⟨k, hk, rfl, HE, t, hwt⟩ := hrel
    have HWT := Lib.hid hwt
    clear H0
    by_cases hlt : k < xs.length
    · have hlt' : (k : Int) < (xs.length : Int) := by omega
      have hlt2 : k < ys.length := by rw [← HL.out]; exact hlt
      obtain ⟨g, off, rfl, hgl, hcell, _⟩ := Go.Pan.Own.at HV.out (by omega)
      obtain ⟨g', off', rfl, hgl', hcell', _⟩ := Go.Pan.Own.at HU.out (by omega)
      have h1 := hcell k (by omega)
      have h2 := hcell' k (by omega)
      rw [List.getElem?_map, List.getElem?_eq_getElem hlt] at h1
      rw [List.getElem?_map, List.getElem?_eq_getElem hlt2] at h2
      have hc1 : wr.cell? ⟨g, off + k, none⟩ = _ := (show wr.cell? ⟨g, off + k, none⟩ = w.cell? ⟨g, off + k, none⟩ by rw [hwt]; rfl).trans h1
      have hc2 : wr.cell? ⟨g', off' + k, none⟩ = _ := (show wr.cell? ⟨g', off' + k, none⟩ = w.cell? ⟨g', off' + k, none⟩ by rw [hwt]; rfl).trans h2
      have HT := Lib.hid (fun (e : xs[k] = ys[k]) => show xs.take (k + 1) = ys.take (k + 1) by rw [List.take_succ_eq_append_getElem hlt, List.take_succ_eq_append_getElem hlt2, HE.out, e])
      have HA := Lib.hid (fun (e : xs[k] ≠ ys[k]) => ltL_at hlt hlt2 HE.out e)
      obtain ⟨x, hx⟩ : ∃ x, xs[k] = x := ⟨_, rfl⟩
      obtain ⟨y, hy⟩ : ∃ y, ys[k] = y := ⟨_, rfl⟩
      rw [hx] at hc1
      rw [hy] at hc2
      rw [hx, hy] at HT HA
      clear hcell hcell' h1 h2 hx hy hwt
      by_cases he : x = y
      · have hq : ((x : Int) != y) = false := by simp [he]
        have HT2 := Lib.hid (HT.out he)
        clear he
        go_wp2_with fail
        go_quiet (fail)
        go_wp2
        go_roundw
        case rel => exact ⟨k + 1, by omega, by go_num, HT2, _, by rw [HWT.out, World.drewN_drewN]⟩
        case measure => simp [intOf] <;> omega
      · have hq : ((x : Int) != y) = true := by simp [he]
        have HA2 := Lib.hid (HA.out he)
        clear he
        go_wp2_with fail
        go_quiet (fail)
        go_wp2_with fail
        go_quiet (fail)
        go_wp2
        go_ret
        exact ⟨by rw [HA2.out]; rfl, _, by rw [HWT.out, World.drewN_drewN, World.drewN_drewN]⟩
    · obtain rfl : k = xs.length := by omega
      have hge : ¬ ((xs.length : Int) < (xs.length : Int)) := by omega
      have HF := Lib.hid (show ltL xs ys = false by
        have h := HE.out
        rw [List.take_length, HL.out, List.take_length] at h
        rw [h]; exact ltL_irrefl _)
      clear hwt
      go_wp2
      go_ret
      exact ⟨by rw [HF.out]; rfl, _, HWT.out⟩

end Go.Proofs.Ytmlikchhkblohaa

namespace Go.Proofs.Ytmlikchhkblohaa
open Go Go.RowKit Go.Pan

theorem run_app_zero {P : Program} {w : World} {ty : TypeId} {t e : TypeId} {i : TypeInfo} (ht : P.underlying t = some (.slice e)) (hi : P.info? e = some i) (g n c0 : Nat) (hn : n ≤ c0) (ad : Option Addr) (c : Nat) :
    (Builtin.append_ #[t, t] ty #[.slice (some ⟨g, 0, none⟩) n c0, .slice ad 0 c]).run P w = .ok (.slice (some ⟨g, 0, none⟩) n c0) w := by
  cases ad with
  | none => simp [Builtin.append_, run_underlying ht, sizeOf, typeInfo, hi, Builtin.lenOf, Builtin.firstCells, hn, storeCells]
  | some b => simp [Builtin.append_, run_underlying ht, sizeOf, typeInfo, hi, Builtin.lenOf, Builtin.firstCells, hn, storeCells, loadCells, loadCellsFrom]

theorem step_append_all {P : Program} {w : World} {ops : Array Oper} {o : Oper} {a : Act} {K : Act → World → Prop} {Q : Exit → Act → World → Prop} {E : Prop} (hgd : o.guard = none) (s x : Operand) (t : TypeId)
    (ho : o.op = .call { callee := .builtin .append, args := #[s, x], argTypes := #[t, t] })
    (base : Nat) (e : TypeId) (i : TypeInfo) (z : Value) (bytes : Nat) (ht : P.underlying t = some (.slice e)) (hi : P.info? e = some i) (hz : i.zero = some z)
    (hsize : i.size = 1) (hby : i.bytes = bytes) (hzs : z.cells.size = 1)
    (g0 c0 n : Nat) (xs : List Value) (hs : a.eval s = .slice (some ⟨g0, 0, none⟩) n c0) (hown : w.ownsRow base e 1 (.slice (some ⟨g0, 0, none⟩) n c0) n xs) (hnc : n ≤ c0) (hg0 : g0 < w.heap.size)
    (adx : Option Addr) (m c : Nat) (news : List Value) (hx : a.eval x = .slice adx m c) (hl : news.length = m) (hnews : 0 < m → ∃ ad, adx = some ad ∧ ∀ j u, news[j]? = some u → w.cell? (ad.add j) = some u) (h1 : ∀ u ∈ news, u.oneCell' = true)
    (h63 : n + m ≤ maxLen) (hbytes : (n + m) * bytes ≤ 140737488355328) (hbase : base ≤ w.heap.size) (H : Nat) (hH : w.heap.size = H)
    (h : ∀ g cap w', w'.ownsRow base e 1 (.slice (some ⟨g, 0, none⟩) (n + m) cap) (n + m) (xs ++ news) → w.grownBy w' (some g0) → (g0 = g ∨ g = H) → g < w'.heap.size → K (a.put o.dst (.slice (some ⟨g, 0, none⟩) (n + m) cap)) w') :
    if Region.wanted o (yielded ops a.tmps) = true then Oper.wp P o a w K Q else E := by
  rcases Nat.eq_zero_or_pos m with h0 | h0
  · subst h0
    have hnil : news = [] := List.eq_nil_of_length_eq_zero hl
    subst hnil
    have hw : Region.wanted o (yielded ops a.tmps) = true := by simp [Region.wanted, hgd]
    rw [if_pos hw]
    have hrun := run_app_zero (w := w) (ty := o.type) ht hi g0 n c0 hnc adx c
    unfold Oper.wp
    simp [execOp, ho, resolve, invoke, builtin, hs, hx, hrun, Result.andThen]
    exact h g0 c0 w (by simpa using hown) ⟨rfl, rfl, rfl, Nat.le_refl _, fun _ _ _ => rfl⟩ (.inl rfl) hg0
  · obtain ⟨ad, rfl, hn⟩ := hnews h0
    refine step_append_lies _ hgd s x t ho base e i z 1 bytes ht hi hz hsize hby hzs (by omega) _ n xs hs hown ad m c news hx (by omega) hn h1 h0 h63 hbytes hbase H hH ?_
    intro g cap w' h2 h3 h4 h5
    exact h g cap w' h2 h3 (by rcases h4 with h4 | h4; exact .inl (by simpa [Value.ownBlock] using h4); exact .inr h4) h5

theorem wpList_append_all {P : Program} {w : World} {ops : Array Oper} {rest : List Oper} {o : Oper} {a : Act} {Q : Exit → Act → World → Prop} (hgd : o.guard = none) (s x : Operand) (t : TypeId)
    (ho : o.op = .call { callee := .builtin .append, args := #[s, x], argTypes := #[t, t] })
    (base : Nat) (e : TypeId) (i : TypeInfo) (z : Value) (bytes : Nat) (ht : P.underlying t = some (.slice e)) (hi : P.info? e = some i) (hz : i.zero = some z)
    (hsize : i.size = 1) (hby : i.bytes = bytes) (hzs : z.cells.size = 1)
    (g0 c0 n : Nat) (xs : List Value) (hs : a.eval s = .slice (some ⟨g0, 0, none⟩) n c0) (hown : w.ownsRow base e 1 (.slice (some ⟨g0, 0, none⟩) n c0) n xs) (hnc : n ≤ c0) (hg0 : g0 < w.heap.size)
    (adx : Option Addr) (m c : Nat) (news : List Value) (hx : a.eval x = .slice adx m c) (hl : news.length = m) (hnews : 0 < m → ∃ ad, adx = some ad ∧ ∀ j u, news[j]? = some u → w.cell? (ad.add j) = some u) (h1 : ∀ u ∈ news, u.oneCell' = true)
    (h63 : n + m ≤ maxLen) (hbytes : (n + m) * bytes ≤ 140737488355328) (hbase : base ≤ w.heap.size) (H : Nat) (hH : w.heap.size = H)
    (h : ∀ g cap w', w'.ownsRow base e 1 (.slice (some ⟨g, 0, none⟩) (n + m) cap) (n + m) (xs ++ news) → w.grownBy w' (some g0) → (g0 = g ∨ g = H) → g < w'.heap.size → wpList P ops Q rest (a.put o.dst (.slice (some ⟨g, 0, none⟩) (n + m) cap)) w') : wpList P ops Q (o :: rest) a w := by
  rcases Nat.eq_zero_or_pos m with h0 | h0
  · subst h0
    have hnil : news = [] := List.eq_nil_of_length_eq_zero hl
    subst hnil
    have hrun := run_app_zero (w := w) (ty := o.type) ht hi g0 n c0 hnc adx c
    refine wpList_plain hgd fun K hK => ?_
    unfold Oper.wp
    simp [execOp, ho, resolve, invoke, builtin, hs, hx, hrun, Result.andThen]
    exact hK _ _ (h g0 c0 w (by simpa using hown) ⟨rfl, rfl, rfl, Nat.le_refl _, fun _ _ _ => rfl⟩ (.inl rfl) hg0)
  · obtain ⟨ad, rfl, hn⟩ := hnews h0
    refine wpList_append_lies _ hgd s x t ho base e i z 1 bytes ht hi hz hsize hby hzs (by omega) _ n xs hs hown ad m c news hx (by omega) hn h1 h0 h63 hbytes hbase H hH ?_
    intro g cap w' h2 h3 h4 h5
    exact h g cap w' h2 h3 (by rcases h4 with h4 | h4; exact .inl (by simpa [Value.ownBlock] using h4); exact .inr h4) h5

theorem wpList_fromA {P : Program} {w : World} {ops : Array Oper} {rest : List Oper} {o : Oper} {a : Act} {Q : Exit → Act → World → Prop}
    {t e : TypeId} {i : TypeInfo} (hu : P.underlying t = some (.slice e)) (hi : P.info? e = some i) (hs1 : i.size = 1) (hg : o.guard = none) (x lo : Operand) (hop : o.op = .slice t x (some lo) none none)
    (ad : Option Addr) (n cap k : Nat) (hx : a.eval x = .slice ad n cap) (hl : a.eval lo = .int .i64 k) (hk : k ≤ n) (hnc : n ≤ cap)
    (hK : wpList P ops Q rest (a.put o.dst (.slice (if cap = k then ad else ad.map (·.add (k * 1))) (n - k) (cap - k))) w) :
    wpList P ops Q (o :: rest) a w := by
  have he : P.elem t = e := by simp [Program.elem, hu]
  have hrun : (Instr.sliceAt t (.slice ad n cap) (some (.int .i64 k)) none none).run P w = .ok (.slice (if cap = k then ad else ad.map (·.add (k * 1))) (n - k) (cap - k)) w := by
    rw [run_sliceAt_slice w t _ _ _ _ (by rw [he]; exact hu), run_slice_l w t ad n cap (by rw [he]; exact hu) .i64 k (by omega) (by omega)]
    simp [sizeOf, typeInfo, he, hi, hs1, sliced, Result.andThen]
  refine wpList_plain hg fun K hK' => ?_
  unfold Oper.wp
  simp [execOp, hop, hx, hl, hrun, Result.andThen]
  exact hK' _ _ (by simpa using hK)

/-- a row put in: the new container -/
theorem SS.put {w w' : World} {B N : Nat} {v v' u : Value} {hs : List Value} {L : List (List Int)} {x : List Int} {q N' : Nat} (h : SS w B N v hs L) (hb : ∀ g, B ≤ g → g < N → w'.heap[g]? = w.heap[g]?) (hq : q ≤ hs.length)
    (hu : OwnI w' u x) (hui : ∀ g, u.ownBlock = some g → N ≤ g ∧ g < N') (hv : Go.Pan.Own w' 1 v' (hs.length + 1) (hs.take q ++ u :: hs.drop q)) (hvi : ∀ g, v'.ownBlock = some g → N ≤ g ∧ g < N') (hne : Apart v' u) (hBN : B ≤ N) (hNN : N ≤ N') :
    SS w' B N' v' (hs.take q ++ u :: hs.drop q) (L.take q ++ x :: L.drop q) := by
  have hlL := h.len
  have hk := h.kept hb
  have hln : (hs.take q ++ u :: hs.drop q).length = hs.length + 1 := by simp; omega
  have key : ∀ (i : Nat) (y : Value), (hs.take q ++ u :: hs.drop q)[i]? = some y → (i = q ∧ y = u) ∨ (∃ i', i' ≠ q + hs.length + 5 ∧ hs[i']? = some y ∧ (i < q ∧ i' = i ∨ q < i ∧ i' = i - 1)) := fun i y hy => by
    rcases Nat.lt_trichotomy i q with hi | hi | hi
    · right
      refine ⟨i, by omega, ?_, .inl ⟨hi, rfl⟩⟩
      rw [List.getElem?_append_left (by simp; omega), List.getElem?_take, if_pos hi] at hy
      exact hy
    · subst hi
      left
      rw [List.getElem?_append_right (by simp; omega)] at hy
      simp [Nat.min_eq_left hq] at hy
      exact ⟨rfl, hy.symm⟩
    · right
      rw [List.getElem?_append_right (by simp; omega)] at hy
      have e : i - (hs.take q).length = (i - 1 - q) + 1 := by simp [Nat.min_eq_left hq]; omega
      rw [e, List.getElem?_cons_succ, List.getElem?_drop] at hy
      have hlt := (List.getElem?_eq_some_iff.1 hy).1
      exact ⟨i - 1, by omega, by rw [show q + (i - 1 - q) = i - 1 by omega] at hy; exact hy, .inr ⟨hi, rfl⟩⟩
  have keyL : ∀ (i : Nat) (ys : List Int), (L.take q ++ x :: L.drop q)[i]? = some ys → (i = q → ys = x) ∧ (i < q → L[i]? = some ys) ∧ (q < i → L[i - 1]? = some ys) := fun i ys hy => by
    refine ⟨fun hi => ?_, fun hi => ?_, fun hi => ?_⟩
    · subst hi
      rw [List.getElem?_append_right (by simp; omega)] at hy
      simp [Nat.min_eq_left (show i ≤ L.length by omega)] at hy
      exact hy.symm
    · rw [List.getElem?_append_left (by simp; omega), List.getElem?_take, if_pos hi] at hy
      exact hy
    · rw [List.getElem?_append_right (by simp; omega)] at hy
      have e : i - (L.take q).length = (i - 1 - q) + 1 := by simp [Nat.min_eq_left (show q ≤ L.length by omega)]; omega
      rw [e, List.getElem?_cons_succ, List.getElem?_drop] at hy
      rw [show q + (i - 1 - q) = i - 1 by omega] at hy
      exact hy
  refine ⟨by rw [hln]; simp; omega, by rw [hln]; exact hv, fun g hg => ⟨by have := (hvi g hg).1; omega, (hvi g hg).2⟩, fun i y ys hy hys => ?_, fun i j y y' hij hy hy' => ?_⟩
  · obtain ⟨k1, k2, k3⟩ := keyL i ys hys
    rcases key i y hy with ⟨hi, rfl⟩ | ⟨i', _, hy', hi | hi⟩
    · rw [k1 hi]
      exact ⟨hu, fun g hg => ⟨by have := (hui g hg).1; omega, (hui g hg).2⟩, hne⟩
    · obtain ⟨hi, rfl⟩ := hi
      obtain ⟨r1, r2, r3⟩ := hk.row i' y ys hy' (k2 hi)
      exact ⟨r1, fun g hg => ⟨(r2 g hg).1, by have := (r2 g hg).2; omega⟩, fun g hg e => by have h1 := (hvi g hg).1; have h2 := (r2 g e).2; omega⟩
    · obtain ⟨hi, rfl⟩ := hi
      obtain ⟨r1, r2, r3⟩ := hk.row (i - 1) y ys hy' (k3 hi)
      exact ⟨r1, fun g hg => ⟨(r2 g hg).1, by have := (r2 g hg).2; omega⟩, fun g hg e => by have h1 := (hvi g hg).1; have h2 := (r2 g e).2; omega⟩
  · have low : ∀ (i' : Nat) (z : Value), hs[i']? = some z → ∀ g, z.ownBlock = some g → g < N := fun i' z hz g hg => by
      have hlt := (List.getElem?_eq_some_iff.1 hz).1
      exact ((h.row i' z (L[i']'(by omega)) hz (List.getElem?_eq_getElem _)).2.1 g hg).2
    rcases key i y hy with ⟨hi, rfl⟩ | ⟨i', _, hy1, hi⟩
    · rcases key j y' hy' with ⟨hj, rfl⟩ | ⟨j', _, hy2, hj⟩
      · omega
      · exact fun g hg e => by have h1 := (hui g hg).1; have h2 := low j' y' hy2 g e; omega
    · rcases key j y' hy' with ⟨hj, rfl⟩ | ⟨j', _, hy2, hj⟩
      · exact fun g hg e => by have h1 := (hui g e).1; have h2 := low i' y hy1 g hg; omega
      · exact h.apart i' j' y y' (by omega) hy1 hy2

end Go.Proofs.Ytmlikchhkblohaa

namespace Go.Proofs.Ytmlikchhkblohaa
open Go Go.RowKit Go.Pan

theorem BAR.rowAt {g : Bd} {u : Nat → List Int} {w : World} {s N : Nat} {v1 : Value} {S : List Value} (h : BAR g u w v1 (.slice (some ⟨s, 0, none⟩) N N) S) (hN : g.N = N) {r : Nat} (hr : r < N) :
    ∃ a c, w.cell? ⟨s, r, none⟩ = some (.slice a (u r).length c) ∧ s < w.heap.size ∧ OwnI w (.slice a (u r).length c) (u r) := by
  subst hN
  obtain ⟨g', off, he, hgl, hcell, _⟩ := Go.Pan.Own.at h.st (by omega)
  simp only [Option.some.injEq, Addr.mk.injEq, and_true] at he
  obtain ⟨rfl, rfl⟩ := he
  have hl : S.length = g.N := by have := Go.Pan.Own.len h.st; omega
  have hx : S[r]? = some (S[r]'(by omega)) := List.getElem?_eq_getElem _
  have ho := h.row r _ (u r) hx (sAll_get hr)
  obtain ⟨a, c, e, _, _, _⟩ := ho.shape
  refine ⟨a, c, ?_, hgl, by rw [← e]; exact ho⟩
  have h1 := hcell r (by omega)
  rw [Nat.zero_add, hx, e] at h1
  exact h1

set_option maxHeartbeats 8000000 in
set_option maxRecDepth 100000 in
theorem sWorstBurnt_any (n : Int) (w : World) :
    Calls Try.prog 81 #[.int .i64 n] w fun e w' => ∃ r hs, e = .returned (.tuple #[r, .bool (inB n 1 5)]) ∧ SS w' w.heap.size w'.heap.size r hs (mWorstBurnt n) ∧ Below w.heap.size w w' := by
  have cl := l1In_any n 1 5 w
  cases hg : inB n 1 5 with
  | true =>
    have HM := Lib.hid (show mWorstBurnt n = worstB n.toNat from if_pos hg)
    obtain ⟨m, rfl, h1, h5⟩ := inB_five hg
    rw [Int.toNat_natCast] at HM
    rw [hg] at cl
    obtain ⟨N, hNe⟩ : ∃ N, (bBd m).N = N := ⟨_, rfl⟩
    have HNE := Lib.hid hNe
    have hfl : N ≤ 3840 := by rw [← hNe]; exact bBd_few h5
    have c1 := buAll_any m N w h1 h5 HNE
    have HE := Lib.hid (show maxTo (bBd m).d N = gecc (bG m) (ramp 1 m) by rw [← hNe]; exact bmax_all m)
    have HP := Lib.hid (show foldW (bBd m).d (bun m) (gecc (bG m) (ramp 1 m)) N = worstB m by rw [← hNe]; rfl)
    have HDB := Lib.hid (show ∀ r, r < N → (bBd m).d r ≤ 15 from fun r hr => bBd_le h1 h5 (by rw [hNe]; exact hr))
    have HUL := Lib.hid (show ∀ r, r < N → (bun m r).length = m from fun r hr => (bun_st h1 (by omega) (by rw [← hNe] at hr; exact hr)).2)
    have HMX := Lib.hid (show ∀ r, r < N → (bBd m).d r ≤ maxTo (bBd m).d N from fun r hr => le_gmaxN (List.mem_map.2 ⟨r, List.mem_range.2 hr, rfl⟩))
    have HM0 := Lib.hid (maxTo_zero (bBd m).d)
    obtain ⟨i0, hi, hz0, hz1, hz2⟩ := info_parts Try.info22
    have HI := Lib.hid hi
    have HZ0 := Lib.hid hz0
    have HZ1 := Lib.hid hz1
    have HZ2 := Lib.hid hz2
    clear hg hNe hi hz0 hz1 hz2
    go_enter Try.func81, Try.ntmps81
    go_wp2_with fail
    refine cl.mono ?_
    rintro e w0 ⟨rfl, rfl⟩
    clear cl
    go_wp2_with fail
    refine c1.mono ?_
    rintro e w1 ⟨a, s, S, rfl, HR, hb1⟩
    clear c1
    have hz : Blk (w1.alloc (.cells #[.slice none 0 0, .slice none 0 0] 106)) w1.heap.size 106 [.slice none 0 0, .slice none 0 0] := Blk.new w1 _ [.slice none 0 0, .slice none 0 0] _ rfl
    go_upto_region 4 with (refine wpList_store2o rfl 106 _ _ rfl w1.heap.size _ _ rfl rfl 106 _ hz (by kernel_rfl) rfl ⟨rfl, rfl⟩ ?_; intro w3 hbl hg3)
    have hb13 : Below w1.heap.size w1 w3 := (below_new w1 _).grown hg3 (by simp) (by intro k hk; cases hk; exact Nat.le_refl _)
    have HR3 := HR.below hb13 (Nat.le_refl _)
    have hB3 := hb1.trans (hb13.mono hb1.size)
    have hl0 : w3.cell? ⟨w1.heap.size, 0, none⟩ = some (.slice (some ⟨a, 0, none⟩) N N) := by rw [hbl.cell 0]; rfl
    have hl1 : w3.cell? ⟨w1.heap.size, 1, none⟩ = some (.slice (some ⟨s, 0, none⟩) N N) := by rw [hbl.cell 1]; rfl
    have hbl1 := hbl.lt
    obtain ⟨bl, hbe⟩ : ∃ b, w1.heap.size = b := ⟨_, rfl⟩
    rw [hbe] at hl0 hl1 hbl1 ⊢
    have hz3 : w.heap.size ≤ w3.heap.size := hB3.size
    have HR4 := Lib.hid HR3
    have HL1 := Lib.hid hl1
    clear hb1 HR hz hg3 hb13 HR3 hbl hbe hl1
    go_wp2
    go_loop [5, 7, 21] (fun ms _ i => ∃ k : Nat, k ≤ N ∧ i = .int .i64 k ∧ ms = .int .i64 (maxTo (bBd m).d k : Nat)) (fun _ _ i => N - (intOf i).toNat)
    case atStart => exact ⟨0, Nat.zero_le _, rfl, by rw [HM0.out]; rfl⟩
    case round =>
      obtain ⟨k, hk, rfl, rfl⟩ := hrel
      by_cases hlt : k < N
      · have hlt' : (k : Int) < N := by omega
        obtain ⟨h1c, _⟩ := HR4.out.at (r := k) (by rw [HNE.out]; exact hlt)
        have HS := Lib.hid (show ((maxTo (bBd m).d (k + 1) : Nat) : Int) = if (((bBd m).d k : Nat) : Int) < (maxTo (bBd m).d k : Nat) then ((maxTo (bBd m).d k : Nat) : Int) else (((bBd m).d k : Nat) : Int) by
          rw [maxTo_succ]
          split <;> omega)
        go_wp2_with fail
        refine (l1Most_any _ _ _).mono ?_
        rintro e w5 ⟨rfl, rfl⟩
        rw [← HS.out]
        go_wp2
        go_round
        case rel => exact ⟨k + 1, by omega, by go_num, rfl⟩
        case measure => simp [intOf] <;> omega
      · obtain rfl : k = N := by omega
        have hge : (k : Int) ≤ k := Int.le_refl _
        have hEb : maxTo (bBd m).d k ≤ 15 := maxTo_le HDB.out
        rw [HE.out] at hEb HMX ⊢
        obtain ⟨E, hE⟩ : ∃ E, gecc (bG m) (ramp 1 m) = E := ⟨_, rfl⟩
        rw [hE] at HP hEb HMX ⊢
        have HH0 := Lib.hid (show SS w3 w3.heap.size w3.heap.size (.slice none 0 0) [] (foldW (bBd m).d (bun m) E 0) from SS.nil w3 w3.heap.size w3.heap.size)
        clear hE HM0
        go_wp2
        go_loopw [8, 9, 10, 11, 12, 32] (fun ov _ _ _ _ i wr => ∃ (j : Nat) (hs : List Value), j ≤ k ∧ i = .int .i64 j ∧ Hid (SS wr w3.heap.size wr.heap.size ov hs (foldW (bBd m).d (bun m) E j)) ∧ Below w3.heap.size w3 wr) (fun _ _ _ _ _ i _ => k - (intOf i).toNat)
        case atStart => exact ⟨0, [], Nat.zero_le _, rfl, HH0, Below.refl _ _⟩
        case round =>
          obtain ⟨j, hs, hj, rfl, hS, hbr⟩ := hrel
          clear HH0
          by_cases hjl : j < k
          · have hjl' : (j : Int) < k := by omega
            obtain ⟨h1c, hal⟩ := HR4.out.at (r := j) (by rw [HNE.out]; exact hjl)
            have h1r := (hbr.cell (p := ⟨a, j, none⟩) hal).trans h1c
            have hlen : (foldW (bBd m).d (bun m) E j).length ≤ j := foldW_length _ _ E j
            have hle := HMX.out j hjl
            by_cases hd : (bBd m).d j = E
            · have HN1 := Lib.hid (foldW_yes (u := bun m) hd)
              rw [hd] at h1r
              have hEE : ¬ ((E : Int) < (E : Int)) := by omega
              obtain ⟨L, hLe⟩ : ∃ L, foldW (bBd m).d (bun m) E j = L := ⟨_, rfl⟩
              obtain ⟨x, hxe⟩ : ∃ x, bun m j = x := ⟨_, rfl⟩
              obtain ⟨ra, rc, hcs, hsl, hou⟩ := HR4.out.rowAt HNE.out hjl
              have hxl : (bun m j).length = m := HUL.out j hjl
              have HLL := Lib.hid (show ∀ q ∈ L, q.length = m from fun q hq => by
                rw [← hLe] at hq
                obtain ⟨r, hr, _, rfl⟩ := (mem_foldW j).1 hq
                exact HUL.out r (by omega))
              rw [hLe] at hS hlen HN1
              rw [hxe] at hcs hou hxl HN1
              have hcr := (hbr.cell (p := ⟨s, j, none⟩) hsl).trans hcs
              have hl1r := (hbr.cell (p := ⟨bl, 1, none⟩) hbl1).trans HL1.out
              have HOU := Lib.hid (hou.below hbr (Nat.le_refl _))
              have HML := Lib.hid hS.out.len
              have HXL := Lib.hid hxl
              obtain ⟨oa, oc, rfl, hoc, hocm, _⟩ := hS.out.own.shape
              obtain ⟨M, hMe⟩ : ∃ M, hs.length = M := ⟨_, rfl⟩
              have HMe := Lib.hid hMe
              have hMj : M ≤ j := by have := hS.out.len; omega
              rw [hMe] at hoc hS ⊢
              obtain ⟨wz, rfl⟩ : ∃ z, z = wr := ⟨_, rfl⟩
              have HK0 := Lib.hid (show ∀ j' (hj' : j' < L.length), j' < 0 → ltL (L[j']) x = true from fun j' _ h => by omega)
              clear hd h1c hcs hou hxl hLe hxe hMe hlen hle
              go_wp2
              go_loopw [11] (fun kv wi => ∃ (q t : Nat), q ≤ M ∧ kv = .int .i64 q ∧ Hid (∀ j' (hj' : j' < L.length), j' < q → ltL (L[j']) x = true) ∧ wi = wz.drewN t) (fun kv _ => M - (intOf kv).toNat)
              case atStart => exact ⟨0, 0, Nat.zero_le _, rfl, HK0, rfl⟩
              case round =>
                obtain ⟨q, t, hq, rfl, HKQ, hwt⟩ := hrel
                have HWT := Lib.hid hwt
                clear HK0
                have hl1i : wr.cell? ⟨bl, 1, none⟩ = some (.slice (some ⟨s, 0, none⟩) k k) := by rw [hwt]; exact hl1r
                have hcri : wr.cell? ⟨s, j, none⟩ = some (.slice ra x.length rc) := by rw [hwt]; exact hcr
                by_cases hql : q < M
                · have hql' : (q : Int) < (M : Int) := by omega
                  have hqL : q < L.length := by have := HML.out; have := HMe.out; omega
                  have hSi : SS wr w3.heap.size wz.heap.size (.slice oa M oc) hs L := by rw [hwt]; exact hS.out.kept fun g _ _ => rfl
                  obtain ⟨g, off, rfl, u, hu, hOu, _, _, hcu⟩ := hSi.at q hqL
                  obtain ⟨ua, uc, rfl, _, _, _⟩ := hOu.shape
                  have HUK := Lib.hid (HLL.out _ (List.getElem_mem hqL))
                  have HOX := Lib.hid (show OwnI wr (.slice ra x.length rc) x by rw [hwt]; exact Go.Pan.Own.kept HOU.out fun _ _ => rfl)
                  have HOU2 := Lib.hid hOu
                  have CB := Lib.hid (fun z => show Calls Try.prog 137 #[.slice ua (L[q]).length uc, .slice ra x.length rc] (wr.drewN z) (fun e w' => e = .returned (.bool (ltL (L[q]) x)) ∧ ∃ m, w' = wr.drewN m) from
                    (buLess_any _ _ (L[q]) x (wr.drewN z) (Go.Pan.Own.kept HOU2.out fun _ _ => rfl) (Go.Pan.Own.kept HOX.out fun _ _ => rfl) (by rw [HUK.out, HXL.out]) (by rw [HUK.out]; omega)).mono fun _ _ ⟨he, m2, hw⟩ => ⟨he, _, by rw [hw, World.drewN_drewN]⟩)
                  cases hlt : ltL (L[q]) x with
                  | true =>
                    rw [hlt] at CB
                    have HK2 := Lib.hid (show ∀ j' (hj' : j' < L.length), j' < q + 1 → ltL (L[j']) x = true from fun j' hj' h => by
                      by_cases e : j' = q
                      · subst e; exact hlt
                      · exact HKQ.out j' hj' (by omega))
                    obtain ⟨lq, hlq⟩ : ∃ lq, (L[q]).length = lq := ⟨_, rfl⟩
                    rw [hlq] at hcu CB
                    clear hlt hOu hu hwt hSi hlq
                    go_wp2_with fail
                    go_quiet ((go_at_call 137; exact CB.out _))
                    go_wp2
                    go_roundw
                    case rel => exact ⟨q + 1, _, by omega, by go_num, HK2, by rw [HWT.out, World.drewN_drewN]⟩
                    case measure => simp [intOf] <;> omega
                  | false =>
                    rw [hlt] at CB
                    have HKW := Lib.hid (show kW L x = q from kW_eq (by omega) (fun j' hj' h => HKQ.out j' hj' h) (fun _ => hlt))
                    obtain ⟨lq, hlq⟩ : ∃ lq, (L[q]).length = lq := ⟨_, rfl⟩
                    rw [hlq] at hcu CB
                    clear hlt hOu hu hwt hSi hlq
                    go_wp2_with fail
                    go_quiet ((go_at_call 137; exact CB.out _))
                    have hqc : q ≤ oc := by omega
                    have hqc' : (q : Int) ≤ (oc : Int) := by omega
                    have hq0 : ¬ ((q : Int) < 0) := by omega
                    have hjk : (j : Int) < (k : Int) := by omega
                    have hzr : wr.heap.size = wz.heap.size := by rw [HWT.out]; rfl
                    have HZR := Lib.hid hzr
                    have HSR := Lib.hid (show SS wr w3.heap.size wr.heap.size (.slice (some (⟨g, off, none⟩ : Addr)) M oc) hs L by
                      rw [hzr, HWT.out]; exact hS.out.kept fun g _ _ => rfl)
                    have HOXR := Lib.hid (show OwnI wr (.slice ra x.length rc) x by rw [HWT.out]; exact Go.Pan.Own.kept HOU.out fun _ _ => rfl)
                    have HB3R := Lib.hid (show Below w3.heap.size w3 wr by rw [HWT.out]; exact hbr.drewN _)
                    have hblr : bl < wr.heap.size := by have := hbr.size; omega
                    have hslr : s < wr.heap.size := World.block_lt_of_cell? wr _ hcri
                    have hhl : hs.length = M := HMe.out
                    have HONE := Lib.hid (show ∀ u ∈ hs, u.oneCell' = true from fun u hu => by
                      obtain ⟨i, hi, rfl⟩ := List.getElem_of_mem hu
                      have h := (HSR.out.row i hs[i] (L[i]'(by have := HSR.out.len; omega)) (List.getElem?_eq_getElem hi) (List.getElem?_eq_getElem _)).1
                      obtain ⟨_, _, e, _⟩ := h.shape
                      rw [e]; rfl)
                    have HNW := Lib.hid (show ∀ wn : World, Below wr.heap.size wr wn → 0 < M → ∃ g0 o0, (some (⟨g, off, none⟩ : Addr)) = some (⟨g0, o0, none⟩ : Addr) ∧ ∀ i u, hs[i]? = some u → wn.cell? ⟨g0, o0 + i, none⟩ = some u from fun wn hwn hpos => by
                      have hown := HSR.out.own
                      rw [hhl] at hown
                      obtain ⟨g0, o0, e0, hg0, hc0, _⟩ := Go.Pan.Own.at hown (by omega)
                      refine ⟨g0, o0, e0, fun i u hu => ?_⟩
                      have hi : i < M := by have := (List.getElem?_eq_some_iff.1 hu).1; omega
                      have h := hc0 i (by omega)
                      rw [hu] at h
                      exact (hwn.cell (p := ⟨g0, o0 + i, none⟩) hg0).trans h)
                    have HHL := Lib.hid hhl
                    have hMk : M ≤ 3840 := by omega
                    have hxl2 : x.length ≤ 1048576 := by have := HXL.out; omega
                    clear hhl hzr hS HOU
                    go_upto_region 18 with fail
                    go_cut [12] (fun v12 wx => ∃ (gn cap : Nat) (ua : Option Addr) (uc : Nat), v12 = .slice (some ⟨gn, 0, none⟩) (q + 1) cap ∧ Hid (wx.ownsRow wr.heap.size 22 1 (.slice (some ⟨gn, 0, none⟩) (q + 1) cap) (q + 1) (hs.take q ++ [.slice ua x.length uc])) ∧ Hid (OwnI wx (.slice ua x.length uc) x) ∧ Hid (∀ b, (Value.slice ua x.length uc).ownBlock = some b → wr.heap.size ≤ b ∧ b < wx.heap.size ∧ b ≠ gn) ∧ wr.heap.size ≤ gn ∧ gn < wx.heap.size ∧ Below wr.heap.size wr wx)
                    case first =>
                      have hSh : ∀ z, (wr.drewN z).drew.cell? ⟨bl, 1, none⟩ = some (.slice (some ⟨s, 0, none⟩) k k) ∧ (wr.drewN z).drew.cell? ⟨s, j, none⟩ = some (.slice ra x.length rc) := fun z => ⟨hl1i, hcri⟩
                      have HSB := Lib.hid (show ∀ wn : World, Below wr.heap.size wr wn → wn.cell? ⟨bl, 1, none⟩ = some (.slice (some ⟨s, 0, none⟩) k k) ∧ wn.cell? ⟨s, j, none⟩ = some (.slice ra x.length rc) from fun wn hwn => ⟨(hwn.cell (p := ⟨bl, 1, none⟩) hblr).trans hl1i, (hwn.cell (p := ⟨s, j, none⟩) hslr).trans hcri⟩)
                      refine wp_region_held_drew (S := (fun w' => w'.cell? ⟨bl, 1, none⟩ = some (.slice (some ⟨s, 0, none⟩) k k) ∧ w'.cell? ⟨s, j, none⟩ = some (.slice ra x.length rc))) (by kernel_rfl) (hSh _) (fun hHeld => ?_)
                      refine wpAnyH_take (i := 1) (v := ?_) rfl (by kernel_rfl) (by kernel_rfl) (by kernel_rfl) (fun _ _ _ h => h) (Or.inl ⟨by rfl, ?_⟩) (by assumption) ?_
                      rotate_left
                      · intro w _; go_simp; with_reducible rfl
                      try simp only [List.getElem_toArray, List.getElem_cons_zero, List.getElem_cons_succ, Act.put, List.setIfInBounds_toArray, List.set_cons_zero, List.set_cons_succ]
                      refine wpAnyH_take (i := 2) (v := ?_) rfl (by kernel_rfl) (by kernel_rfl) (by kernel_rfl) (fun _ _ _ h => h) (Or.inl ⟨by rfl, ?_⟩) (by assumption) ?_
                      rotate_left
                      · intro w _; go_simp; with_reducible rfl
                      try simp only [List.getElem_toArray, List.getElem_cons_zero, List.getElem_cons_succ, Act.put, List.setIfInBounds_toArray, List.set_cons_zero, List.set_cons_succ]
                      refine wpAnyH_take (i := 3) (v := ?_) rfl (by kernel_rfl) (by kernel_rfl) (by kernel_rfl) (fun _ _ _ h => h) (Or.inl ⟨by rfl, ?_⟩) (by assumption) ?_
                      rotate_left
                      · intro w _; go_simp; with_reducible rfl
                      try simp only [List.getElem_toArray, List.getElem_cons_zero, List.getElem_cons_succ, Act.put, List.setIfInBounds_toArray, List.set_cons_zero, List.set_cons_succ]
                      refine wpAnyH_take (i := 5) (v := ?_) rfl (by kernel_rfl) (by kernel_rfl) (by kernel_rfl) (fun _ _ _ h => h) (Or.inl ⟨by rfl, ?_⟩) (by assumption) ?_
                      rotate_left
                      · intro w _; go_simp; with_reducible rfl
                      try simp only [List.getElem_toArray, List.getElem_cons_zero, List.getElem_cons_succ, Act.put, List.setIfInBounds_toArray, List.set_cons_zero, List.set_cons_succ]
                      refine wpAnyH_take (i := 6) (v := ?_) rfl (by kernel_rfl) (by kernel_rfl) (by kernel_rfl) (fun _ _ _ h => h) (Or.inl ⟨by rfl, ?_⟩) (by assumption) ?_
                      rotate_left
                      · intro w hSw; obtain ⟨hSw, _⟩ := hSw; (go_simp <;> with_reducible rfl)
                      try simp only [List.getElem_toArray, List.getElem_cons_zero, List.getElem_cons_succ, Act.put, List.setIfInBounds_toArray, List.set_cons_zero, List.set_cons_succ]
                      refine wpAnyH_take (i := 7) (v := ?_) rfl (by kernel_rfl) (by kernel_rfl) (by kernel_rfl) (fun _ _ _ h => h) (Or.inl ⟨by rfl, ?_⟩) (by assumption) ?_
                      rotate_left
                      · intro w _; go_simp; with_reducible rfl
                      try simp only [List.getElem_toArray, List.getElem_cons_zero, List.getElem_cons_succ, Act.put, List.setIfInBounds_toArray, List.set_cons_zero, List.set_cons_succ]
                      refine wpAnyH_take (i := 8) (v := ?_) rfl (by kernel_rfl) (by kernel_rfl) (by kernel_rfl) (fun _ _ _ h => h) (Or.inl ⟨by rfl, ?_⟩) (by assumption) ?_
                      rotate_left
                      · intro w _; go_simp; with_reducible rfl
                      try simp only [List.getElem_toArray, List.getElem_cons_zero, List.getElem_cons_succ, Act.put, List.setIfInBounds_toArray, List.set_cons_zero, List.set_cons_succ]
                      refine wpAnyH_take (i := 9) (v := ?_) rfl (by kernel_rfl) (by kernel_rfl) (by kernel_rfl) (fun _ _ _ h => h) (Or.inl ⟨by rfl, ?_⟩) (by assumption) ?_
                      rotate_left
                      · intro w hSw; obtain ⟨_, hSw⟩ := hSw; (go_simp <;> with_reducible rfl)
                      try simp only [List.getElem_toArray, List.getElem_cons_zero, List.getElem_cons_succ, Act.put, List.setIfInBounds_toArray, List.set_cons_zero, List.set_cons_succ]
                      refine wpAnyH_ready (rs := [0]) (by kernel_rfl) (by simp) ?_
                      refine AllReadyH.cons rfl (fun K hK => ?_) AllReadyH.nil
                      go_simp
                      obtain ⟨wa, hwa⟩ : ∃ wa, wa = (wr.drewN (nq + 1)).alloc (.cells #[] 22) := ⟨_, rfl⟩
                      rw [← hwa]
                      have hBa : Below wr.heap.size wr wa := by rw [hwa]; exact ((Below.refl wr.heap.size wr).drewN (nq + 1)).alloc (Nat.le_refl _) _
                      have hsa : wa.heap.size = wr.heap.size + 1 := by rw [hwa]; simp [World.drewN]
                      have hown0 : wa.ownsRow wr.heap.size 22 1 (.slice (some ⟨wr.heap.size, 0, none⟩) 0 0) 0 [] := by
                        rw [hwa]
                        exact ownsRow_of_blk (cs := []) (Blk.new (wr.drewN (nq + 1)) _ [] _ rfl) (Nat.le_refl _) rfl (Nat.le_refl _) (Nat.zero_le _) rfl rfl
                      have HNA := Lib.hid (HNW.out wa hBa)
                      refine hK.out _ _ (HSB.out wa hBa) (fun hHeld => ?_)
                      clear hK K hwa
                      try simp only [List.getElem_toArray, List.getElem_cons_zero, List.getElem_cons_succ, Act.put, List.setIfInBounds_toArray, List.set_cons_zero, List.set_cons_succ]
                      refine wpAnyH_ready (rs := [4]) (by kernel_rfl) (by simp) ?_
                      refine AllReadyH.cons rfl (fun K hK => ?_) AllReadyH.nil
                      refine step_append_all rfl _ _ 34 rfl wr.heap.size 22 i0 _ 24 Try.underlying34 HI.out HZ0.out HZ1.out HZ2.out rfl wr.heap.size 0 0 [] rfl hown0 (Nat.le_refl _) (by omega) (some (⟨g, off, none⟩ : Addr)) q oc (hs.take q) rfl (by rw [List.length_take, HHL.out]; omega) (fun h0 => by
                        obtain ⟨g0, o0, e, h⟩ := HNA.out (by omega)
                        refine ⟨_, e, fun i u hu => ?_⟩
                        rw [Addr.add_lit]
                        refine h i u ?_
                        rw [List.getElem?_take] at hu
                        split at hu
                        · exact hu
                        · cases hu) (fun u hu => HONE.out u (List.mem_of_mem_take hu)) (by unfold maxLen; omega) (by omega) (by omega) (wr.heap.size + 1) hsa ?_
                      intro g1 cap1 w5 hown5 hgr5 hat5 hlt5
                      rw [Nat.zero_add, List.nil_append] at hown5
                      rw [Nat.zero_add]
                      have hB5 := hBa.grown hgr5 (by omega) (fun b hb => by cases hb; exact Nat.le_refl _)
                      have hcap1 : q ≤ cap1 := by obtain ⟨_, _, e, h, _⟩ := (Go.Pan.Own.of_row hown5).1.shape; cases e; exact h
                      have hg1 : wr.heap.size ≤ g1 := by omega
                      have HOX5 := Lib.hid (HOXR.out.below hB5 (Nat.le_refl _))
                      refine hK.out _ _ (HSB.out w5 hB5) (fun hHeld => ?_)
                      clear hK K hown0 hgr5 hat5 hBa
                      try simp only [List.getElem_toArray, List.getElem_cons_zero, List.getElem_cons_succ, Act.put, List.setIfInBounds_toArray, List.set_cons_zero, List.set_cons_succ]
                      refine wpAnyH_ready (rs := [10]) (by kernel_rfl) (by simp) ?_
                      refine AllReadyH.cons rfl (fun K hK => ?_) AllReadyH.nil
                      go_simp
                      refine (l1Own_any _ x w5 HOX5.out hxl2).mono ?_
                      rintro e w6 ⟨r6, rfl, ho6, hf6, hb6⟩
                      obtain ⟨a6, c6, rfl, _, _, _⟩ := ho6.shape
                      have hB6 := hB5.trans (hb6.mono hB5.size)
                      have hs6 := hb6.size
                      have hs56 := hB5.size
                      have hown6 := hown5.kept (grown_of_below hb6 none) (.inr (by intro h; cases h))
                      have hl6 := Lib.hid ho6.lt
                      have hf6' := Lib.hid hf6
                      go_wp2_with fail
                      refine hK.out _ _ (HSB.out w6 hB6) (fun hHeld => ?_)
                      clear hK K
                      try simp only [List.getElem_toArray, List.getElem_cons_zero, List.getElem_cons_succ, Act.put, List.setIfInBounds_toArray, List.set_cons_zero, List.set_cons_succ]
                      refine wpAnyH_ready (rs := [11]) (by kernel_rfl) (by simp) ?_
                      refine AllReadyH.cons rfl (fun K hK => ?_) AllReadyH.nil
                      go_simp
                      obtain ⟨w7, hw7⟩ : ∃ w7, w7 = w6.alloc (.cells #[.slice a6 x.length c6] 22) := ⟨_, rfl⟩
                      rw [← hw7]
                      have hs7 : w7.heap.size = w6.heap.size + 1 := by rw [hw7]; simp
                      have hB7 : Below wr.heap.size wr w7 := by rw [hw7]; exact hB6.alloc hB6.size _
                      have hown7 : w7.ownsRow wr.heap.size 22 1 (.slice (some ⟨g1, 0, none⟩) q cap1) q (hs.take q) := by rw [hw7]; exact hown6.kept (grown_of_below (below_new w6 _) none) (.inr (by intro h; cases h))
                      have hnw7 : ∀ i u, [Value.slice a6 x.length c6][i]? = some u → w7.cell? ((⟨w6.heap.size, 0, none⟩ : Addr).add i) = some u := by rw [hw7]; exact World.news_of_block (heap_alloc_new w6 _)
                      have ho7 : OwnI w7 (.slice a6 x.length c6) x := by rw [hw7]; exact ho6.alloc _
                      refine hK.out _ _ (HSB.out w7 hB7) (fun hHeld => ?_)
                      clear hK K hw7 ho6 hown6 hown5
                      try simp only [List.getElem_toArray, List.getElem_cons_zero, List.getElem_cons_succ, Act.put, List.setIfInBounds_toArray, List.set_cons_zero, List.set_cons_succ]
                      refine wpAnyH_ready (rs := [12]) (by kernel_rfl) (by simp) ?_
                      refine AllReadyH.cons rfl (fun K hK => ?_) AllReadyH.nil
                      refine step_append_all rfl _ _ 34 rfl wr.heap.size 22 i0 _ 24 Try.underlying34 HI.out HZ0.out HZ1.out HZ2.out rfl g1 cap1 q (hs.take q) rfl hown7 hcap1 (by omega) (some ⟨w6.heap.size, 0, none⟩) 1 1 [.slice a6 x.length c6] rfl rfl (fun _ => ⟨_, rfl, hnw7⟩) (by simp [Value.oneCell']) (by unfold maxLen; omega) (by omega) (by omega) (w6.heap.size + 1) hs7 ?_
                      intro g2 cap2 w8 hown8 hgr8 hat8 hlt8
                      have hB8 := hB7.grown hgr8 hB7.size (fun b hb => by cases hb; exact hg1)
                      have ho8 := Go.Pan.Own.grown ho7 hgr8 (fun b hb e => by cases e; have := hf6'.out _ hb; omega)
                      refine hK.out _ _ (HSB.out w8 hB8) (fun hHeld => ?_)
                      clear hK K
                      try simp only [List.getElem_toArray, List.getElem_cons_zero, List.getElem_cons_succ, Act.put, List.setIfInBounds_toArray, List.set_cons_zero, List.set_cons_succ]
                      refine wpAnyH_take (i := 13) (v := ?_) rfl (by kernel_rfl) (by kernel_rfl) (by kernel_rfl) (fun _ _ _ h => h) (Or.inl ⟨by rfl, ?_⟩) (by assumption) ?_
                      rotate_left
                      · intro w _; go_simp; with_reducible rfl
                      try simp only [List.getElem_toArray, List.getElem_cons_zero, List.getElem_cons_succ, Act.put, List.setIfInBounds_toArray, List.set_cons_zero, List.set_cons_succ]
                      refine wpAnyH_done (by kernel_rfl) ?_ _
                      go_wp2_with fail
                      go_meet
                      exact ⟨g2, cap2, a6, c6, rfl, Lib.hid hown8, Lib.hid ho8, Lib.hid (fun b hb => by
                        have h1 := hf6'.out b hb
                        have h2 := hl6.out b hb
                        have h3 := hgr8.size
                        exact ⟨by omega, by omega, by omega⟩), by omega, hlt8, hB8⟩
                    case rest =>
                      obtain ⟨gn, cap, ua, uc, rfl, hown, ho, hub, hgB, hgl, hBc⟩ := hcut
                      have hcapn : q + 1 ≤ cap := by obtain ⟨_, _, e, h, _⟩ := (Go.Pan.Own.of_row hown.out).1.shape; cases e; exact h
                      have HNC := Lib.hid (HNW.out wc hBc)
                      go_wp2_with (first
                        | (refine wpList_fromA Try.underlying34 HI.out HZ1.out rfl _ _ rfl (some (⟨g, off, none⟩ : Addr)) M oc q rfl rfl hq hoc ?_)
                        | (at_builtin; refine wpList_append_all rfl _ _ 34 rfl wr.heap.size 22 i0 _ 24 Try.underlying34 HI.out HZ0.out HZ1.out HZ2.out rfl gn cap (q + 1) _ rfl hown.out hcapn hgl _ (M - q) (oc - q) (hs.drop q) rfl (by rw [List.length_drop, HHL.out]) (fun h0 => by
                            obtain ⟨g0, o0, e, h⟩ := HNC.out (by omega)
                            rw [if_neg (by omega), e]
                            refine ⟨_, rfl, fun i u hu => ?_⟩
                            rw [List.getElem?_drop] at hu
                            have h2 := h _ _ hu
                            show wc.cell? ((Addr.add ⟨g0, o0, none⟩ (q * 1)).add i) = some u
                            rw [Addr.add_lit, Addr.add_lit, Nat.mul_one, Nat.add_assoc]
                            exact h2) (fun u hu => HONE.out u (List.mem_of_mem_drop hu)) (by unfold maxLen; omega) (by omega) (by omega) wc.heap.size rfl ?_; intro g3 cap3 w9 hown9 hgr9 hat9 hlt9))
                      have hB9 := hBc.grown hgr9 hBc.size (fun b hb => by cases hb; exact hgB)
                      have hg3 : wr.heap.size ≤ g3 := by have := hBc.size; omega
                      have hs39 : w3.heap.size ≤ wr.heap.size := HB3R.out.size
                      have hu9 := Go.Pan.Own.grown ho.out hgr9 (fun b hb e => by cases e; have := (hub.out _ hb).2.2; omega)
                      have hsz9 := hgr9.size
                      have HSF := Lib.hid (show SS w9 w3.heap.size w9.heap.size (.slice (some ⟨g3, 0, none⟩) (q + 1 + (M - q)) cap3) (hs.take q ++ .slice ua x.length uc :: hs.drop q) (foldW (bBd m).d (bun m) E (j + 1)) by
                        rw [HN1.out]
                        unfold insW
                        rw [HKW.out]
                        refine SS.put HSR.out (fun b _ hb => hB9.block b hb) (by rw [HHL.out]; exact hq) hu9 (fun b hb => ?_) ?_ (fun b hb => ?_) (fun b hb e => ?_) hs39 hB9.size
                        · have h := hub.out b hb
                          exact ⟨h.1, by omega⟩
                        · have h := (Go.Pan.Own.of_row hown9).1
                          rw [List.append_assoc, List.singleton_append] at h
                          rw [HHL.out]
                          exact (congrArg (fun z => Go.Pan.Own w9 1 (.slice (some ⟨g3, 0, none⟩) (q + 1 + (M - q)) cap3) z (hs.take q ++ .slice ua x.length uc :: hs.drop q)) (show q + 1 + (M - q) = M + 1 by omega)).mp h
                        · simp [Value.ownBlock] at hb
                          omega
                        · simp [Value.ownBlock] at hb
                          have h := hub.out b e
                          omega)
                      have hB10 := HB3R.out.trans (hB9.mono hs39)
                      clear hown9 hgr9 hat9 hB9 hu9
                      go_wp2
                      go_roundw
                      case rel => exact ⟨j + 1, _, by omega, by go_num, HSF, hB10⟩
                      case measure => simp [intOf] <;> omega
                · obtain rfl : q = M := by omega
                  have hge2 : ¬ ((q : Int) < (q : Int)) := by omega
                  have HKW := Lib.hid (show kW L x = q from kW_eq (by have := HML.out; have := HMe.out; omega) (fun j' hj' h => HKQ.out j' hj' h) (fun h => by have := HML.out; have := HMe.out; omega))
                  clear hwt
                  go_wp2_with fail
                  go_quiet (fail)
                  have hqc : q ≤ oc := by omega
                  have hqc' : (q : Int) ≤ (oc : Int) := by omega
                  have hq0 : ¬ ((q : Int) < 0) := by omega
                  have hjk : (j : Int) < (k : Int) := by omega
                  have hzr : wr.heap.size = wz.heap.size := by rw [HWT.out]; rfl
                  have HZR := Lib.hid hzr
                  have HSR := Lib.hid (show SS wr w3.heap.size wr.heap.size (.slice oa q oc) hs L by
                    rw [hzr, HWT.out]; exact hS.out.kept fun g _ _ => rfl)
                  have HOXR := Lib.hid (show OwnI wr (.slice ra x.length rc) x by rw [HWT.out]; exact Go.Pan.Own.kept HOU.out fun _ _ => rfl)
                  have HB3R := Lib.hid (show Below w3.heap.size w3 wr by rw [HWT.out]; exact hbr.drewN _)
                  have hblr : bl < wr.heap.size := by have := hbr.size; omega
                  have hslr : s < wr.heap.size := World.block_lt_of_cell? wr _ hcri
                  have hhl : hs.length = q := HMe.out
                  have HONE := Lib.hid (show ∀ u ∈ hs, u.oneCell' = true from fun u hu => by
                    obtain ⟨i, hi, rfl⟩ := List.getElem_of_mem hu
                    have h := (HSR.out.row i hs[i] (L[i]'(by have := HSR.out.len; omega)) (List.getElem?_eq_getElem hi) (List.getElem?_eq_getElem _)).1
                    obtain ⟨_, _, e, _⟩ := h.shape
                    rw [e]; rfl)
                  have HNW := Lib.hid (show ∀ wn : World, Below wr.heap.size wr wn → 0 < q → ∃ g0 o0, oa = some (⟨g0, o0, none⟩ : Addr) ∧ ∀ i u, hs[i]? = some u → wn.cell? ⟨g0, o0 + i, none⟩ = some u from fun wn hwn hpos => by
                    have hown := HSR.out.own
                    rw [hhl] at hown
                    obtain ⟨g0, o0, e0, hg0, hc0, _⟩ := Go.Pan.Own.at hown (by omega)
                    refine ⟨g0, o0, e0, fun i u hu => ?_⟩
                    have hi : i < q := by have := (List.getElem?_eq_some_iff.1 hu).1; omega
                    have h := hc0 i (by omega)
                    rw [hu] at h
                    exact (hwn.cell (p := ⟨g0, o0 + i, none⟩) hg0).trans h)
                  have HHL := Lib.hid hhl
                  have hMk : q ≤ 3840 := by omega
                  have hxl2 : x.length ≤ 1048576 := by have := HXL.out; omega
                  clear hhl hzr hS HOU
                  go_upto_region 18 with fail
                  go_cut [12] (fun v12 wx => ∃ (gn cap : Nat) (ua : Option Addr) (uc : Nat), v12 = .slice (some ⟨gn, 0, none⟩) (q + 1) cap ∧ Hid (wx.ownsRow wr.heap.size 22 1 (.slice (some ⟨gn, 0, none⟩) (q + 1) cap) (q + 1) (hs.take q ++ [.slice ua x.length uc])) ∧ Hid (OwnI wx (.slice ua x.length uc) x) ∧ Hid (∀ b, (Value.slice ua x.length uc).ownBlock = some b → wr.heap.size ≤ b ∧ b < wx.heap.size ∧ b ≠ gn) ∧ wr.heap.size ≤ gn ∧ gn < wx.heap.size ∧ Below wr.heap.size wr wx)
                  case first =>
                    have hSh : ∀ z, (wr.drewN z).drew.cell? ⟨bl, 1, none⟩ = some (.slice (some ⟨s, 0, none⟩) k k) ∧ (wr.drewN z).drew.cell? ⟨s, j, none⟩ = some (.slice ra x.length rc) := fun z => ⟨hl1i, hcri⟩
                    have HSB := Lib.hid (show ∀ wn : World, Below wr.heap.size wr wn → wn.cell? ⟨bl, 1, none⟩ = some (.slice (some ⟨s, 0, none⟩) k k) ∧ wn.cell? ⟨s, j, none⟩ = some (.slice ra x.length rc) from fun wn hwn => ⟨(hwn.cell (p := ⟨bl, 1, none⟩) hblr).trans hl1i, (hwn.cell (p := ⟨s, j, none⟩) hslr).trans hcri⟩)
                    refine wp_region_held_drew (S := (fun w' => w'.cell? ⟨bl, 1, none⟩ = some (.slice (some ⟨s, 0, none⟩) k k) ∧ w'.cell? ⟨s, j, none⟩ = some (.slice ra x.length rc))) (by kernel_rfl) (hSh _) (fun hHeld => ?_)
                    refine wpAnyH_take (i := 1) (v := ?_) rfl (by kernel_rfl) (by kernel_rfl) (by kernel_rfl) (fun _ _ _ h => h) (Or.inl ⟨by rfl, ?_⟩) (by assumption) ?_
                    rotate_left
                    · intro w _; go_simp; with_reducible rfl
                    try simp only [List.getElem_toArray, List.getElem_cons_zero, List.getElem_cons_succ, Act.put, List.setIfInBounds_toArray, List.set_cons_zero, List.set_cons_succ]
                    refine wpAnyH_take (i := 2) (v := ?_) rfl (by kernel_rfl) (by kernel_rfl) (by kernel_rfl) (fun _ _ _ h => h) (Or.inl ⟨by rfl, ?_⟩) (by assumption) ?_
                    rotate_left
                    · intro w _; go_simp; with_reducible rfl
                    try simp only [List.getElem_toArray, List.getElem_cons_zero, List.getElem_cons_succ, Act.put, List.setIfInBounds_toArray, List.set_cons_zero, List.set_cons_succ]
                    refine wpAnyH_take (i := 3) (v := ?_) rfl (by kernel_rfl) (by kernel_rfl) (by kernel_rfl) (fun _ _ _ h => h) (Or.inl ⟨by rfl, ?_⟩) (by assumption) ?_
                    rotate_left
                    · intro w _; go_simp; with_reducible rfl
                    try simp only [List.getElem_toArray, List.getElem_cons_zero, List.getElem_cons_succ, Act.put, List.setIfInBounds_toArray, List.set_cons_zero, List.set_cons_succ]
                    refine wpAnyH_take (i := 5) (v := ?_) rfl (by kernel_rfl) (by kernel_rfl) (by kernel_rfl) (fun _ _ _ h => h) (Or.inl ⟨by rfl, ?_⟩) (by assumption) ?_
                    rotate_left
                    · intro w _; go_simp; with_reducible rfl
                    try simp only [List.getElem_toArray, List.getElem_cons_zero, List.getElem_cons_succ, Act.put, List.setIfInBounds_toArray, List.set_cons_zero, List.set_cons_succ]
                    refine wpAnyH_take (i := 6) (v := ?_) rfl (by kernel_rfl) (by kernel_rfl) (by kernel_rfl) (fun _ _ _ h => h) (Or.inl ⟨by rfl, ?_⟩) (by assumption) ?_
                    rotate_left
                    · intro w hSw; obtain ⟨hSw, _⟩ := hSw; (go_simp <;> with_reducible rfl)
                    try simp only [List.getElem_toArray, List.getElem_cons_zero, List.getElem_cons_succ, Act.put, List.setIfInBounds_toArray, List.set_cons_zero, List.set_cons_succ]
                    refine wpAnyH_take (i := 7) (v := ?_) rfl (by kernel_rfl) (by kernel_rfl) (by kernel_rfl) (fun _ _ _ h => h) (Or.inl ⟨by rfl, ?_⟩) (by assumption) ?_
                    rotate_left
                    · intro w _; go_simp; with_reducible rfl
                    try simp only [List.getElem_toArray, List.getElem_cons_zero, List.getElem_cons_succ, Act.put, List.setIfInBounds_toArray, List.set_cons_zero, List.set_cons_succ]
                    refine wpAnyH_take (i := 8) (v := ?_) rfl (by kernel_rfl) (by kernel_rfl) (by kernel_rfl) (fun _ _ _ h => h) (Or.inl ⟨by rfl, ?_⟩) (by assumption) ?_
                    rotate_left
                    · intro w _; go_simp; with_reducible rfl
                    try simp only [List.getElem_toArray, List.getElem_cons_zero, List.getElem_cons_succ, Act.put, List.setIfInBounds_toArray, List.set_cons_zero, List.set_cons_succ]
                    refine wpAnyH_take (i := 9) (v := ?_) rfl (by kernel_rfl) (by kernel_rfl) (by kernel_rfl) (fun _ _ _ h => h) (Or.inl ⟨by rfl, ?_⟩) (by assumption) ?_
                    rotate_left
                    · intro w hSw; obtain ⟨_, hSw⟩ := hSw; (go_simp <;> with_reducible rfl)
                    try simp only [List.getElem_toArray, List.getElem_cons_zero, List.getElem_cons_succ, Act.put, List.setIfInBounds_toArray, List.set_cons_zero, List.set_cons_succ]
                    refine wpAnyH_ready (rs := [0]) (by kernel_rfl) (by simp) ?_
                    refine AllReadyH.cons rfl (fun K hK => ?_) AllReadyH.nil
                    go_simp
                    obtain ⟨wa, hwa⟩ : ∃ wa, wa = (wr.drewN (nq + 1)).alloc (.cells #[] 22) := ⟨_, rfl⟩
                    rw [← hwa]
                    have hBa : Below wr.heap.size wr wa := by rw [hwa]; exact ((Below.refl wr.heap.size wr).drewN (nq + 1)).alloc (Nat.le_refl _) _
                    have hsa : wa.heap.size = wr.heap.size + 1 := by rw [hwa]; simp [World.drewN]
                    have hown0 : wa.ownsRow wr.heap.size 22 1 (.slice (some ⟨wr.heap.size, 0, none⟩) 0 0) 0 [] := by
                      rw [hwa]
                      exact ownsRow_of_blk (cs := []) (Blk.new (wr.drewN (nq + 1)) _ [] _ rfl) (Nat.le_refl _) rfl (Nat.le_refl _) (Nat.zero_le _) rfl rfl
                    have HNA := Lib.hid (HNW.out wa hBa)
                    refine hK.out _ _ (HSB.out wa hBa) (fun hHeld => ?_)
                    clear hK K hwa
                    try simp only [List.getElem_toArray, List.getElem_cons_zero, List.getElem_cons_succ, Act.put, List.setIfInBounds_toArray, List.set_cons_zero, List.set_cons_succ]
                    refine wpAnyH_ready (rs := [4]) (by kernel_rfl) (by simp) ?_
                    refine AllReadyH.cons rfl (fun K hK => ?_) AllReadyH.nil
                    refine step_append_all rfl _ _ 34 rfl wr.heap.size 22 i0 _ 24 Try.underlying34 HI.out HZ0.out HZ1.out HZ2.out rfl wr.heap.size 0 0 [] rfl hown0 (Nat.le_refl _) (by omega) oa q oc (hs.take q) rfl (by rw [List.length_take, HHL.out]; omega) (fun h0 => by
                      obtain ⟨g0, o0, e, h⟩ := HNA.out (by omega)
                      refine ⟨_, e, fun i u hu => ?_⟩
                      rw [Addr.add_lit]
                      refine h i u ?_
                      rw [List.getElem?_take] at hu
                      split at hu
                      · exact hu
                      · cases hu) (fun u hu => HONE.out u (List.mem_of_mem_take hu)) (by unfold maxLen; omega) (by omega) (by omega) (wr.heap.size + 1) hsa ?_
                    intro g1 cap1 w5 hown5 hgr5 hat5 hlt5
                    rw [Nat.zero_add, List.nil_append] at hown5
                    rw [Nat.zero_add]
                    have hB5 := hBa.grown hgr5 (by omega) (fun b hb => by cases hb; exact Nat.le_refl _)
                    have hcap1 : q ≤ cap1 := by obtain ⟨_, _, e, h, _⟩ := (Go.Pan.Own.of_row hown5).1.shape; cases e; exact h
                    have hg1 : wr.heap.size ≤ g1 := by omega
                    have HOX5 := Lib.hid (HOXR.out.below hB5 (Nat.le_refl _))
                    refine hK.out _ _ (HSB.out w5 hB5) (fun hHeld => ?_)
                    clear hK K hown0 hgr5 hat5 hBa
                    try simp only [List.getElem_toArray, List.getElem_cons_zero, List.getElem_cons_succ, Act.put, List.setIfInBounds_toArray, List.set_cons_zero, List.set_cons_succ]
                    refine wpAnyH_ready (rs := [10]) (by kernel_rfl) (by simp) ?_
                    refine AllReadyH.cons rfl (fun K hK => ?_) AllReadyH.nil
                    go_simp
                    refine (l1Own_any _ x w5 HOX5.out hxl2).mono ?_
                    rintro e w6 ⟨r6, rfl, ho6, hf6, hb6⟩
                    obtain ⟨a6, c6, rfl, _, _, _⟩ := ho6.shape
                    have hB6 := hB5.trans (hb6.mono hB5.size)
                    have hs6 := hb6.size
                    have hs56 := hB5.size
                    have hown6 := hown5.kept (grown_of_below hb6 none) (.inr (by intro h; cases h))
                    have hl6 := Lib.hid ho6.lt
                    have hf6' := Lib.hid hf6
                    go_wp2_with fail
                    refine hK.out _ _ (HSB.out w6 hB6) (fun hHeld => ?_)
                    clear hK K
                    try simp only [List.getElem_toArray, List.getElem_cons_zero, List.getElem_cons_succ, Act.put, List.setIfInBounds_toArray, List.set_cons_zero, List.set_cons_succ]
                    refine wpAnyH_ready (rs := [11]) (by kernel_rfl) (by simp) ?_
                    refine AllReadyH.cons rfl (fun K hK => ?_) AllReadyH.nil
                    go_simp
                    obtain ⟨w7, hw7⟩ : ∃ w7, w7 = w6.alloc (.cells #[.slice a6 x.length c6] 22) := ⟨_, rfl⟩
                    rw [← hw7]
                    have hs7 : w7.heap.size = w6.heap.size + 1 := by rw [hw7]; simp
                    have hB7 : Below wr.heap.size wr w7 := by rw [hw7]; exact hB6.alloc hB6.size _
                    have hown7 : w7.ownsRow wr.heap.size 22 1 (.slice (some ⟨g1, 0, none⟩) q cap1) q (hs.take q) := by rw [hw7]; exact hown6.kept (grown_of_below (below_new w6 _) none) (.inr (by intro h; cases h))
                    have hnw7 : ∀ i u, [Value.slice a6 x.length c6][i]? = some u → w7.cell? ((⟨w6.heap.size, 0, none⟩ : Addr).add i) = some u := by rw [hw7]; exact World.news_of_block (heap_alloc_new w6 _)
                    have ho7 : OwnI w7 (.slice a6 x.length c6) x := by rw [hw7]; exact ho6.alloc _
                    refine hK.out _ _ (HSB.out w7 hB7) (fun hHeld => ?_)
                    clear hK K hw7 ho6 hown6 hown5
                    try simp only [List.getElem_toArray, List.getElem_cons_zero, List.getElem_cons_succ, Act.put, List.setIfInBounds_toArray, List.set_cons_zero, List.set_cons_succ]
                    refine wpAnyH_ready (rs := [12]) (by kernel_rfl) (by simp) ?_
                    refine AllReadyH.cons rfl (fun K hK => ?_) AllReadyH.nil
                    refine step_append_all rfl _ _ 34 rfl wr.heap.size 22 i0 _ 24 Try.underlying34 HI.out HZ0.out HZ1.out HZ2.out rfl g1 cap1 q (hs.take q) rfl hown7 hcap1 (by omega) (some ⟨w6.heap.size, 0, none⟩) 1 1 [.slice a6 x.length c6] rfl rfl (fun _ => ⟨_, rfl, hnw7⟩) (by simp [Value.oneCell']) (by unfold maxLen; omega) (by omega) (by omega) (w6.heap.size + 1) hs7 ?_
                    intro g2 cap2 w8 hown8 hgr8 hat8 hlt8
                    have hB8 := hB7.grown hgr8 hB7.size (fun b hb => by cases hb; exact hg1)
                    have ho8 := Go.Pan.Own.grown ho7 hgr8 (fun b hb e => by cases e; have := hf6'.out _ hb; omega)
                    refine hK.out _ _ (HSB.out w8 hB8) (fun hHeld => ?_)
                    clear hK K
                    try simp only [List.getElem_toArray, List.getElem_cons_zero, List.getElem_cons_succ, Act.put, List.setIfInBounds_toArray, List.set_cons_zero, List.set_cons_succ]
                    refine wpAnyH_take (i := 13) (v := ?_) rfl (by kernel_rfl) (by kernel_rfl) (by kernel_rfl) (fun _ _ _ h => h) (Or.inl ⟨by rfl, ?_⟩) (by assumption) ?_
                    rotate_left
                    · intro w _; go_simp; with_reducible rfl
                    try simp only [List.getElem_toArray, List.getElem_cons_zero, List.getElem_cons_succ, Act.put, List.setIfInBounds_toArray, List.set_cons_zero, List.set_cons_succ]
                    refine wpAnyH_done (by kernel_rfl) ?_ _
                    go_wp2_with fail
                    go_meet
                    exact ⟨g2, cap2, a6, c6, rfl, Lib.hid hown8, Lib.hid ho8, Lib.hid (fun b hb => by
                      have h1 := hf6'.out b hb
                      have h2 := hl6.out b hb
                      have h3 := hgr8.size
                      exact ⟨by omega, by omega, by omega⟩), by omega, hlt8, hB8⟩
                  case rest =>
                    obtain ⟨gn, cap, ua, uc, rfl, hown, ho, hub, hgB, hgl, hBc⟩ := hcut
                    have hcapn : q + 1 ≤ cap := by obtain ⟨_, _, e, h, _⟩ := (Go.Pan.Own.of_row hown.out).1.shape; cases e; exact h
                    have HNC := Lib.hid (HNW.out wc hBc)
                    go_wp2_with (first
                      | (refine wpList_fromA Try.underlying34 HI.out HZ1.out rfl _ _ rfl oa q oc q rfl rfl hq hoc ?_)
                      | (at_builtin; refine wpList_append_all rfl _ _ 34 rfl wr.heap.size 22 i0 _ 24 Try.underlying34 HI.out HZ0.out HZ1.out HZ2.out rfl gn cap (q + 1) _ rfl hown.out hcapn hgl _ (q - q) (oc - q) (hs.drop q) rfl (by rw [List.length_drop, HHL.out]) (fun h0 => by
                          obtain ⟨g0, o0, e, h⟩ := HNC.out (by omega)
                          rw [if_neg (by omega), e]
                          refine ⟨_, rfl, fun i u hu => ?_⟩
                          rw [List.getElem?_drop] at hu
                          have h2 := h _ _ hu
                          show wc.cell? ((Addr.add ⟨g0, o0, none⟩ (q * 1)).add i) = some u
                          rw [Addr.add_lit, Addr.add_lit, Nat.mul_one, Nat.add_assoc]
                          exact h2) (fun u hu => HONE.out u (List.mem_of_mem_drop hu)) (by unfold maxLen; omega) (by omega) (by omega) wc.heap.size rfl ?_; intro g3 cap3 w9 hown9 hgr9 hat9 hlt9))
                    have hB9 := hBc.grown hgr9 hBc.size (fun b hb => by cases hb; exact hgB)
                    have hg3 : wr.heap.size ≤ g3 := by have := hBc.size; omega
                    have hs39 : w3.heap.size ≤ wr.heap.size := HB3R.out.size
                    have hu9 := Go.Pan.Own.grown ho.out hgr9 (fun b hb e => by cases e; have := (hub.out _ hb).2.2; omega)
                    have hsz9 := hgr9.size
                    have HSF := Lib.hid (show SS w9 w3.heap.size w9.heap.size (.slice (some ⟨g3, 0, none⟩) (q + 1 + (q - q)) cap3) (hs.take q ++ .slice ua x.length uc :: hs.drop q) (foldW (bBd m).d (bun m) E (j + 1)) by
                      rw [HN1.out]
                      unfold insW
                      rw [HKW.out]
                      refine SS.put HSR.out (fun b _ hb => hB9.block b hb) (by rw [HHL.out]; exact hq) hu9 (fun b hb => ?_) ?_ (fun b hb => ?_) (fun b hb e => ?_) hs39 hB9.size
                      · have h := hub.out b hb
                        exact ⟨h.1, by omega⟩
                      · have h := (Go.Pan.Own.of_row hown9).1
                        rw [List.append_assoc, List.singleton_append] at h
                        rw [HHL.out]
                        exact (congrArg (fun z => Go.Pan.Own w9 1 (.slice (some ⟨g3, 0, none⟩) (q + 1 + (q - q)) cap3) z (hs.take q ++ .slice ua x.length uc :: hs.drop q)) (show q + 1 + (q - q) = q + 1 by omega)).mp h
                      · simp [Value.ownBlock] at hb
                        omega
                      · simp [Value.ownBlock] at hb
                        have h := hub.out b e
                        omega)
                    rw [Nat.sub_self, Nat.add_zero] at HSF
                    have hB10 := HB3R.out.trans (hB9.mono hs39)
                    clear hown9 hgr9 hat9 hB9 hu9
                    go_wp2
                    go_roundw
                    case rel => exact ⟨j + 1, _, by omega, by go_num, HSF, hB10⟩
                    case measure => simp [intOf] <;> omega
            · have HN1 := Lib.hid (foldW_no (u := bun m) hd)
              have hlt3 : (((bBd m).d j : Nat) : Int) < (E : Int) := by omega
              obtain ⟨z, hze⟩ : ∃ z, (bBd m).d j = z := ⟨_, rfl⟩
              rw [hze] at h1r hlt3
              clear hd hze h1c hle
              go_wp2
              go_roundw
              case rel => exact ⟨j + 1, hs, by omega, by go_num, Lib.hid (by rw [HN1.out]; exact hS.out), hbr⟩
              case measure => simp [intOf] <;> omega
          · obtain rfl : j = k := by omega
            have hge3 : (j : Int) ≤ j := Int.le_refl _
            have HF := Lib.hid (show SS wr w.heap.size wr.heap.size u8 hs (mWorstBurnt (m : Int)) by rw [HM.out, ← HP.out]; exact hS.out.mono hz3 (Nat.le_refl _))
            have hB9 := hB3.trans (hbr.mono hz3)
            clear hS
            go_wp2
            go_ret2
            exact ⟨_, _, rfl, HF.out, hB9⟩
  | false =>
    have HM := Lib.hid (show mWorstBurnt n = [] from if_neg (by rw [hg]; exact Bool.false_ne_true))
    rw [hg] at cl
    clear hg
    go_enter Try.func81, Try.ntmps81
    go_wp2_with fail
    refine cl.mono ?_
    rintro e w1 ⟨rfl, rfl⟩
    go_wp2
    go_ret2
    exact ⟨_, [], rfl, by rw [HM.out]; exact SS.nil _ _ _, Below.refl _ _⟩

end Go.Proofs.Ytmlikchhkblohaa
