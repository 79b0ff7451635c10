import Derived.Test.YtakgmcfpdbeajaaR1
import Derived.Test.YtakgmcfpdbeajaaLayA
import Derived.Test.YtakgmcfpdbeajaaN9
import Derived.Test.YtakgmcfpdbeajaaS15
import Derived.Test.YtakgmcfpdbeajaaI18
import Derived.Deep.AppendLies
namespace Go.Pan
open Go

/-- lists held against each other -/
def cmpL : List Int → List Int → Int
  | [], [] => 0
  | [], _ :: _ => -1
  | _ :: _, [] => 1
  | x :: xs, y :: ys => if Lib.compareInt x y = 0 then cmpL xs ys else Lib.compareInt x y
def ltL (xs ys : List Int) : Bool := decide (cmpL xs ys < 0)
theorem compareInt_eq (x y : Int) : Lib.compareInt x y = if x < y then -1 else if y < x then 1 else 0 := rfl
theorem ltL_cons (x y : Int) (xs ys : List Int) : ltL (x :: xs) (y :: ys) = (decide (x < y) || (decide (x = y) && ltL xs ys)) := by
  unfold ltL
  simp only [cmpL, compareInt_eq]
  by_cases h1 : x < y
  · simp [h1]
  · by_cases h2 : y < x
    · have : x ≠ y := by omega
      simp [h1, h2, this]
    · have : x = y := by omega
      simp [this]
theorem ltL_irrefl (xs : List Int) : ltL xs xs = false := by
  induction xs with
  | nil => rfl
  | cons x xs ih => rw [ltL_cons, ih]; simp
theorem ltL_total : ∀ (xs ys : List Int), xs.length = ys.length → ltL xs ys = false → ltL ys xs = false → xs = ys
  | [], [], _, _, _ => rfl
  | [], _ :: _, h, _, _ => by simp at h
  | _ :: _, [], h, _, _ => by simp at h
  | x :: xs, y :: ys, h, h1, h2 => by
    rw [ltL_cons] at h1 h2
    simp only [Bool.or_eq_false_iff, decide_eq_false_iff_not, Bool.and_eq_false_iff] at h1 h2
    have e : x = y := by omega
    subst e
    have h3 : ltL xs ys = false := by rcases h1.2 with h | h; exact absurd rfl h; exact h
    have h4 : ltL ys xs = false := by rcases h2.2 with h | h; exact absurd rfl h; exact h
    rw [ltL_total xs ys (by simpa using h) h3 h4]
theorem ltL_trans : ∀ (xs ys zs : List Int), ltL xs ys = true → ltL ys zs = true → ltL xs zs = true
  | [], [], _, h, _ => by simp [ltL, cmpL] at h
  | _ :: _, [], _, h, _ => by simp [ltL, cmpL] at h
  | [], _ :: _, [], _, h => by simp [ltL, cmpL] at h
  | _ :: _, _ :: _, [], _, h => by simp [ltL, cmpL] at h
  | [], _ :: _, _ :: _, _, _ => by simp [ltL, cmpL]
  | x :: xs, y :: ys, z :: zs, h1, h2 => by
    rw [ltL_cons] at *
    simp only [Bool.or_eq_true, decide_eq_true_iff, Bool.and_eq_true] at *
    rcases h1 with h1 | ⟨h1, h3⟩
    · rcases h2 with h2 | ⟨h2, _⟩
      · left; omega
      · left; omega
    · rcases h2 with h2 | ⟨h2, h4⟩
      · left; omega
      · right; exact ⟨by omega, ltL_trans xs ys zs h3 h4⟩
theorem ltL_ntrans : ∀ (xs ys zs : List Int), ltL xs ys = false → ltL ys zs = false → ltL xs zs = false
  | [], [], [], _, _ => rfl
  | [], [], _ :: _, _, h => by simp [ltL, cmpL] at h
  | [], _ :: _, _, h, _ => by simp [ltL, cmpL] at h
  | _ :: _, [], [], _, _ => by simp [ltL, cmpL]
  | _ :: _, _, [], _, _ => by simp [ltL, cmpL]
  | _ :: _, [], _ :: _, _, h => by simp [ltL, cmpL] at h
  | x :: xs, y :: ys, z :: zs, h1, h2 => by
    rw [ltL_cons] at *
    simp only [Bool.or_eq_false_iff, decide_eq_false_iff_not, Bool.and_eq_false_iff] at *
    refine ⟨by omega, ?_⟩
    by_cases e : x = z
    · right
      have e1 : x = y := by omega
      have e2 : y = z := by omega
      have h3 : ltL xs ys = false := by rcases h1.2 with h | h; exact absurd e1 h; exact h
      have h4 : ltL ys zs = false := by rcases h2.2 with h | h; exact absurd e2 h; exact h
      exact ltL_ntrans xs ys zs h3 h4
    · left; exact e
theorem ltL_pad (xs ys r : List Int) (h : xs.length = ys.length) : ltL (xs ++ r) (ys ++ r) = ltL xs ys := by
  induction xs generalizing ys with
  | nil =>
    obtain rfl := List.eq_nil_of_length_eq_zero h.symm
    rw [List.nil_append, ltL_irrefl]
    rfl
  | cons x xs ih =>
    cases ys with
    | nil => simp at h
    | cons y ys => rw [List.cons_append, List.cons_append, ltL_cons, ltL_cons, ih ys (by simpa using h)]
/-- the nine numbers of a tower -/
def pad9 (q : List Int) : List Int := q ++ List.replicate (9 - q.length) 0
theorem pad9_length {q : List Int} (h : q.length ≤ 9) : (pad9 q).length = 9 := by simp [pad9]; omega
theorem ltL_pad9 {xs ys : List Int} (h : xs.length = ys.length) : ltL (pad9 xs) (pad9 ys) = ltL xs ys := by
  unfold pad9
  rw [h]
  exact ltL_pad xs ys _ h
/-- sorted lists of the same things are the same -/
theorem sorted_eq : ∀ {a b : List (List Int)}, a.Pairwise (fun x y => ltL x y = true) → b.Pairwise (fun x y => ltL x y = true) → (∀ q, q ∈ a ↔ q ∈ b) → a = b
  | [], [], _, _, _ => rfl
  | [], y :: b, _, _, h => by have := (h y).2 (by simp); simp at this
  | x :: a, [], _, _, h => by have := (h x).1 (by simp); simp at this
  | x :: a, y :: b, ha, hb, h => by
    obtain ⟨ha1, ha2⟩ := List.pairwise_cons.1 ha
    obtain ⟨hb1, hb2⟩ := List.pairwise_cons.1 hb
    have e : x = y := by
      have h1 := (h x).1 (by simp)
      have h2 := (h y).2 (by simp)
      rcases List.mem_cons.1 h1 with h1 | h1
      · exact h1
      · rcases List.mem_cons.1 h2 with h2 | h2
        · exact h2.symm
        · have h3 := ltL_trans _ _ _ (hb1 x h1) (ha1 y h2)
          rw [ltL_irrefl] at h3
          cases h3
    subst e
    rw [sorted_eq ha2 hb2 (fun q => by
      have hq := h q
      constructor
      · intro hm
        rcases List.mem_cons.1 (hq.1 (List.mem_cons_of_mem _ hm)) with e | e
        · subst e
          have := ha1 q hm
          rw [ltL_irrefl] at this
          cases this
        · exact e
      · intro hm
        rcases List.mem_cons.1 (hq.2 (List.mem_cons_of_mem _ hm)) with e | e
        · subst e
          have := hb1 q hm
          rw [ltL_irrefl] at this
          cases this
        · exact e)]
end Go.Pan
namespace Go.Proofs.Ytakgmcfpdbeajaa
open Go Go.RowKit Go.Pan Go.Shelf

theorem twl_pad (q : List Int) : twl q = (pad9 q).map iv := rfl

set_option maxRecDepth 100000 in
set_option maxHeartbeats 800000 in
theorem slCompare_any (g1 g2 : Nat) (p q : List Int) (hp : p.length ≤ 9) (hq : q.length ≤ 9) (w : World) (h1 : w.rangeAt g1 0 (twl p)) (h2 : w.rangeAt g2 0 (twl q)) :
    Calls Try.prog 143 #[.slice (some ⟨g1, 0, none⟩) 9 9, .slice (some ⟨g2, 0, none⟩) 9 9] w fun e w' => e = .returned (.int .i64 (cmpL (pad9 p) (pad9 q))) ∧ w = w' := by
  have HP := Lib.hid (pad9_length hp)
  have HQ := Lib.hid (pad9_length hq)
  have H1 := Lib.hid h1
  have H2 := Lib.hid h2
  clear h1 h2 hp hq
  obtain ⟨xs, hxs⟩ : ∃ xs, pad9 p = xs := ⟨_, rfl⟩
  obtain ⟨ys, hys⟩ : ∃ ys, pad9 q = ys := ⟨_, rfl⟩
  rw [twl_pad, hxs] at H1
  rw [twl_pad, hys] at H2
  rw [hxs] at HP ⊢
  rw [hys] at HQ ⊢
  clear hxs hys
  have HC0 := Lib.hid (show cmpL xs ys = cmpL (xs.drop 0) (ys.drop 0) from rfl)
  go_enter Try.func143, Try.ntmps143
  go_wp2
  go_loop [5, 6, 7, 8, 11] (fun _ _ _ _ i => ∃ k : Nat, k ≤ 9 ∧ i = .int .i64 k ∧ Hid (cmpL xs ys = cmpL (xs.drop k) (ys.drop k))) (fun _ _ _ _ i => 9 - (intOf i).toNat)
  case atStart => exact ⟨0, by omega, rfl, HC0⟩
  case round =>
    obtain ⟨k, hk, rfl, HC⟩ := hrel
    clear HC0
    by_cases hlt : k < 9
    · have hkx : k < xs.length := by have := HP.out; omega
      have hky : k < ys.length := by have := HQ.out; omega
      have hcx : w.cell? ⟨g1, k, none⟩ = some (iv xs[k]) := by have := H1.out k (iv xs[k]) (by rw [List.getElem?_map, List.getElem?_eq_getElem hkx]; rfl); rwa [Nat.zero_add] at this
      have hcy : w.cell? ⟨g2, k, none⟩ = some (iv ys[k]) := by have := H2.out k (iv ys[k]) (by rw [List.getElem?_map, List.getElem?_eq_getElem hky]; rfl); rwa [Nat.zero_add] at this
      have HD := Lib.hid (show cmpL xs ys = if Lib.compareInt xs[k] ys[k] = 0 then cmpL (xs.drop (k + 1)) (ys.drop (k + 1)) else Lib.compareInt xs[k] ys[k] by
        rw [HC.out, List.drop_eq_getElem_cons hkx, List.drop_eq_getElem_cons hky]; rfl)
      obtain ⟨x, hx⟩ : ∃ x, xs[k] = x := ⟨_, rfl⟩
      obtain ⟨y, hy⟩ : ∃ y, ys[k] = y := ⟨_, rfl⟩
      rw [hx] at hcx HD
      rw [hy] at hcy HD
      have hlt' : (k : Int) < 9 := by omega
      have c := fun W => AnyG.cmp_Compare_int cmpT x y W
      change ∀ W, Calls Try.prog 153 _ _ _ at c
      obtain ⟨z, hz⟩ : ∃ z, Lib.compareInt x y = z := ⟨_, rfl⟩
      rw [hz] at HD
      simp only [hz] at c
      clear hx hy HC hz
      go_wp2_with fail
      refine (c _).mono ?_
      rintro e w1 ⟨rfl, rfl⟩
      by_cases h0 : z = 0
      · have HE := Lib.hid (show cmpL xs ys = cmpL (xs.drop (k + 1)) (ys.drop (k + 1)) by rw [HD.out, if_pos h0])
        subst h0
        go_wp2
        go_round
        case rel => exact ⟨k + 1, by omega, by go_num, HE⟩
        case measure => simp [intOf] <;> omega
      · have HE := Lib.hid (show cmpL xs ys = z by rw [HD.out, if_neg h0])
        have hne : (z != 0) = true := by simp [h0]
        go_wp2
        go_ret
        exact ⟨by rw [HE.out]; rfl, rfl⟩
    · obtain rfl : k = 9 := by omega
      have HE := Lib.hid (show cmpL xs ys = 0 by rw [HC.out, List.drop_of_length_le (by have := HP.out; omega), List.drop_of_length_le (by have := HQ.out; omega)]; rfl)
      go_wp2
      go_ret
      exact ⟨by rw [HE.out]; rfl, rfl⟩

theorem slCompare_quiet (g1 g2 : Nat) (p q : List Int) (hp : p.length ≤ 9) (hq : q.length ≤ 9) (w : World) (h1 : w.rangeAt g1 0 (twl p)) (h2 : w.rangeAt g2 0 (twl q)) (m : Nat) :
    Calls Try.prog 143 #[.slice (some ⟨g1, 0, none⟩) 9 9, .slice (some ⟨g2, 0, none⟩) 9 9] (w.drewN m) fun e w' => e = .returned (.int .i64 (cmpL (pad9 p) (pad9 q))) ∧ ∃ n, w' = w.drewN n :=
  (slCompare_any g1 g2 p q hp hq (w.drewN m) h1 h2).mono fun _ _ ⟨he, hw⟩ => ⟨he, m, hw.symm⟩

set_option maxHeartbeats 800000 in
theorem compareTowers_any (p q : List Int) (hp : p.length ≤ 9) (hq : q.length ≤ 9) (W : World) :
    Calls Try.prog 129 #[tw p, tw q] W fun e w' => e = .returned (.int .i64 (cmpL (pad9 p) (pad9 q))) ∧ ∃ n os, w' = Sort.grow (W.drewN n) os := by
  have hb1 : Blk ((W.alloc (.cells (twl p).toArray 54)).alloc (.cells (twl q).toArray 54)) W.heap.size 54 (twl p) := (Blk.new W _ (twl p) _ rfl).alloc _
  have hb2 : Blk ((W.alloc (.cells (twl p).toArray 54)).alloc (.cells (twl q).toArray 54)) (W.heap.size + 1) 54 (twl q) := by have := Blk.new (W.alloc (.cells (twl p).toArray 54)) 54 (twl q) _ rfl; simpa using this
  have c := fun m => slCompare_quiet W.heap.size (W.heap.size + 1) p q hp hq _ hb1.range hb2.range m
  have HW := Lib.hid (show (W.alloc (.cells (twl p).toArray 54)).alloc (.cells (twl q).toArray 54) = Sort.grow W #[.cells (twl p).toArray 54, .cells (twl q).toArray 54] by rw [Sort.alloc_eq_grow, Sort.alloc_eq_grow, Sort.grow_grow]; rfl)
  obtain ⟨z, hz⟩ : ∃ z, cmpL (pad9 p) (pad9 q) = z := ⟨_, rfl⟩
  simp only [hz] at c
  rw [hz]
  clear hb1 hb2 hz
  go_enter Try.func129, Try.ntmps129
  go_upto_region 1 with fail
  go_quiet ((go_at_call 143; exact c _))
  go_wp2
  go_ret
  rw [HW.out]
  exact ⟨rfl, nq, _, rfl⟩
end Go.Proofs.Ytakgmcfpdbeajaa

namespace Go.Proofs.Ytakgmcfpdbeajaa
open Go Go.RowKit Go.Pan Go.Shelf

instance : Inhabited TwS := ⟨⟨[], by simp⟩⟩

theorem flatT_length (ss : List TwS) : (flatT ss).length = ss.length * 9 := by
  induction ss with
  | nil => rfl
  | cons x ss ih =>
    have e : flatT (x :: ss) = twl x.1 ++ flatT ss := rfl
    rw [e, List.length_append, twl_length x.1 x.2, ih, List.length_cons]
    omega
theorem flatT_get : ∀ (ss : List TwS) (i c : Nat) (hi : i < ss.length), c < 9 → (flatT ss)[i * 9 + c]? = (twl (ss[i]).1)[c]?
  | x :: ss, 0, c, _, hc => by
    have e : flatT (x :: ss) = twl x.1 ++ flatT ss := rfl
    have hl := twl_length x.1 x.2
    rw [e, List.getElem?_append_left (by omega)]
    simp
  | x :: ss, i + 1, c, hi, hc => by
    have e : flatT (x :: ss) = twl x.1 ++ flatT ss := rfl
    have hl := twl_length x.1 x.2
    have hi' : i < ss.length := by simpa using hi
    rw [e, List.getElem?_append_right (by omega), hl, show (i + 1) * 9 + c - 9 = i * 9 + c by omega, flatT_get ss i c hi' hc]
    simp

/-- how a tower lies in a row -/
def encT (x : TwS) : List Value := twl x.1
theorem encT_length (x : TwS) : (encT x).length = 9 := twl_length x.1 x.2
theorem holds_of_row {w : World} {base g cap : Nat} {ss : List TwS} (h : w.ownsRow base 54 9 (.slice (some ⟨g, 0, none⟩) ss.length cap) ss.length (flatT ss)) :
    Sort.HoldsK encT 9 w g 0 ss.toArray ∧ g < w.heap.size ∧ base ≤ g := by
  rcases h.2 with ⟨h0, _⟩ | ⟨g', cap', cur, he, hb, hg, hn, hm, hsz, ht⟩
  · cases h0
  · simp only [Value.slice.injEq, Option.some.injEq, Addr.mk.injEq, and_true, true_and] at he
    obtain ⟨rfl, rfl⟩ := he
    refine ⟨fun j hj => ?_, (Array.getElem?_eq_some_iff.1 hg).1, hb⟩
    have hj' : j < ss.length * 9 := by simpa using hj
    have hi : j / 9 < ss.length := by omega
    have hc : j % 9 < 9 := by omega
    have e1 : (flatT ss)[j]? = (twl (ss[j / 9]).1)[j % 9]? := by rw [← flatT_get ss (j / 9) (j % 9) hi hc]; congr 1; omega
    have hl := twl_length (ss[j / 9]).1 (ss[j / 9]).2
    have e2 : cur[j]? = some ((twl (ss[j / 9]).1)[j % 9]'(by omega)) := by
      rw [← List.getElem?_eq_getElem, ← e1, ← ht, List.getElem?_take, if_pos hj', Array.getElem?_toList]
    constructor
    · rw [Sort.get_flatK _ _ _ _ (by simpa using hj')]
      have e3 : ss.toArray[j / 9]! = ss[j / 9] := by simp [hi]
      rw [e3]
      unfold encT
      simp only [World.cell?, hg, Nat.zero_add]
      simp [e2, id, hl, hc]
    · simp [World.frozen?, hg]
theorem grownBy_sortK (w : World) (blk off n : Nat) (d' : Array TwS) (os : Array Obj) : w.grownBy (sortWorldK encT 9 w blk off n d' os) (some blk) := by
  refine ⟨rfl, rfl, rfl, ?_, fun j hj hne => ?_⟩
  · unfold sortWorldK
    rw [Sort.size_grow, Sort.size_putRowK]
    exact Nat.le_add_right _ _
  · unfold sortWorldK
    have h1 : j < (Sort.putRowK encT 9 (Sort.ahead w n) blk off d').heap.size := by rw [Sort.size_putRowK]; exact hj
    rw [Sort.heap_grow_old _ _ h1]
    show (w.heap.modify blk _)[j]? = _
    rw [Array.getElem?_modify, if_neg (fun e => hne (by rw [e]))]
theorem ltT (x y : TwS) : ltOf (fun x y : TwS => cmpL (pad9 x.1) (pad9 y.1)) x y = ltL (pad9 x.1) (pad9 y.1) := rfl
theorem swoT : Sort.SWO (ltOf fun x y : TwS => cmpL (pad9 x.1) (pad9 y.1)) where
  irrefl _ := ltL_irrefl _
  trans _ _ _ h1 h2 := ltL_trans _ _ _ h1 h2
  ntrans _ _ _ h1 h2 := ltL_ntrans _ _ _ h1 h2
/-- sorted towers -/
def SortT (ts : List TwS) : Prop := ts.Pairwise fun x y => ltL (pad9 y.1) (pad9 x.1) = false

set_option maxHeartbeats 1000000 in
set_option maxRecDepth 100000 in
theorem sortTowers_any (w : World) (base g cap : Nat) (ss : List TwS) (hl : ss.length ≤ 1000000) (hrow : w.ownsRow base 54 9 (.slice (some ⟨g, 0, none⟩) ss.length cap) ss.length (flatT ss)) :
    Calls Try.prog 141 #[.slice (some ⟨g, 0, none⟩) ss.length cap, .func (.func 129) #[] #[]] w fun e w' => e = .returned (.tuple #[]) ∧
      ∃ ts : List TwS, ts.Perm ss ∧ SortT ts ∧ (∀ (i : Nat) (hi : i < ts.length), w'.rangeAt g (i * 9) (twl (ts[i]).1)) ∧ w.grownBy w' (some g) := by
  obtain ⟨hH, hg, _⟩ := holds_of_row hrow
  have eg : ∀ args w, (callFunc 129 args).run Try.prog w = .ok (.enter 129 args) w := enters_of Try.func129 (by kernel_rfl) rfl
  have hcmp : CmpLays Try.prog 129 #[] encT 9 (fun x y : TwS => cmpL (pad9 x.1) (pad9 y.1)) g 0 ss.toArray.size w := fun m os dk _ x y => compareTowers_any x.1 y.1 x.2 y.2 _
  have hcon := AnyQ.slices_SortFunc sortT 9 Try.isAgg54 Try.sizeOf54 encT encT_length (fun x v hv => twl_one x.1 v hv) (fun x y => cmpL (pad9 x.1) (pad9 y.1)) swoT 129 #[] g 0 cap ss.toArray w eg hcmp hH hg (by simp; omega)
  change Calls Try.prog 141 _ _ _ at hcon
  refine hcon.mono ?_
  rintro e w' ⟨rfl, d', n, os, hp, hs, rfl⟩
  have hsz : d'.size = ss.length := by simpa using hp.1
  refine ⟨rfl, d'.toList, ?_, ?_, fun i hi => ?_, grownBy_sortK w g 0 n d' os⟩
  · have h1 := hp.2.2
    have e1 : d'.extract 0 ss.toArray.size = d' := by
      have : ss.toArray.size = d'.size := by simp [hsz]
      rw [this]
      simp
    have e2 : ss.toArray.extract 0 ss.toArray.size = ss.toArray := by simp
    rw [e1, e2] at h1
    simpa using h1
  · refine List.pairwise_iff_getElem.2 fun i j hi hj hij => ?_
    have hi' : i < d'.size := by simpa using hi
    have hj' : j < d'.size := by simpa using hj
    have h1 := hs i j (Nat.zero_le _) hij (by simp; omega)
    rw [ltT, getElem!_pos d' i hi', getElem!_pos d' j hj'] at h1
    simpa using h1
  · have hi' : i < d'.size := by simpa using hi
    have h2 : Sort.HoldsK encT 9 (sortWorldK encT 9 w g 0 n d' os) g 0 d' := holdsK_sortWorldK_c encT 9 w g 0 ss.toArray d' n os hH hg (by simp [hsz])
    intro c v hv
    have hc : c < 9 := by have := (List.getElem?_eq_some_iff.1 hv).1; rw [twl_length _ (d'.toList[i]).2] at this; exact this
    have h3 := (h2.cell hi' hc).1
    rw [Nat.zero_add, getElem!_pos d' i hi'] at h3
    rw [h3]
    have h4 : (encT d'[i])[c]? = some v := by simpa [encT] using hv
    have hcl : c < (encT d'[i]).length := by rw [encT_length]; exact hc
    rw [List.getElem?_eq_getElem hcl] at h4
    rw [getElem!_pos _ c hcl]
    exact h4

theorem Keys.perm {n : Gm} {c : LC} {ss ts : List TwS} (h : Keys n c ss) (hp : ts.Perm ss) : Keys n c ts :=
  ⟨(hp.map _).nodup_iff.2 h.1, fun q => by rw [(hp.map _).mem_iff]; exact h.2 q⟩
theorem Keys.sorted {n : Gm} (hn : GOk n) {c : LC} {ts : List TwS} (h : Keys n c ts) (hs : SortT ts) : (ts.map (·.1)).Pairwise fun x y => ltL x y = true := by
  rw [List.pairwise_map]
  have h1 : ts.Pairwise fun x y => x.1 ≠ y.1 := List.pairwise_map.1 h.1
  refine (List.Pairwise.and hs h1).imp_of_mem fun {x y} hx hy hxy => ?_
  have hlx := hn.length _ ((h.2 x.1).1 (List.mem_map.2 ⟨x, hx, rfl⟩)).1
  have hly := hn.length _ ((h.2 y.1).1 (List.mem_map.2 ⟨y, hy, rfl⟩)).1
  have hl : x.1.length = y.1.length := by omega
  have h2 := hxy.1
  rw [ltL_pad9 hl.symm] at h2
  cases h3 : ltL x.1 y.1 with
  | true => rfl
  | false => exact absurd (ltL_total _ _ hl h3 h2) hxy.2

set_option maxHeartbeats 1000000 in
set_option maxRecDepth 100000 in
theorem sortedKeys_any (n : Gm) (Bm b : Nat) (c : LC) (w : World) (hn : Hid (GOk n)) (hBm : Bm < w.heap.size) (hm : w.cell? ⟨Bm, 0, none⟩ = some (.map (some b))) (hl : Ly n w b c) (hne : ∃ q, n.St q ∧ 0 < c q) :
    Calls Try.prog 127 #[.func (.func 142) #[] #[.pointer (some ⟨Bm, 0, none⟩)], .func (.func 129) #[] #[]] w fun e w' => ∃ (g cap : Nat) (ts : List TwS),
      e = .returned (.slice (some ⟨g, 0, none⟩) ts.length cap) ∧ Keys n c ts ∧ SortT ts ∧ (∀ (i : Nat) (hi : i < ts.length), w'.rangeAt g (i * 9) (twl (ts[i]).1)) ∧ w.heap.size ≤ g ∧ g < w'.heap.size ∧ Below w.heap.size w w' := by
  have c1 := collectKeys_any n Bm b c w hn hBm hm hl
  have HNE := Lib.hid hne
  clear hm hl hne
  go_enter Try.func127, Try.ntmps127
  go_wp2_with fail
  refine c1.mono ?_
  rintro e w1 ⟨v, ss, rfl, hK, hrow, hnil, hb1⟩
  clear c1
  have hss : ss ≠ [] := by
    rintro rfl
    obtain ⟨q, h1, h2⟩ := HNE.out
    have := (hK.2 q).2 ⟨h1, h2⟩
    simp at this
  have hlen : ss.length ≤ 1000000 := by have h1 := hK.few hn.out; have h2 := hn.out.total; omega
  obtain ⟨g, cap, rfl⟩ : ∃ g cap, v = .slice (some ⟨g, 0, none⟩) ss.length cap := by
    rcases hrow.2 with ⟨h0, _⟩ | ⟨g', cap', cur, he, _⟩
    · exact absurd (hnil.1 h0) hss
    · exact ⟨g', cap', he⟩
  obtain ⟨_, hgl, hgb⟩ := holds_of_row hrow
  have HK := Lib.hid hK
  have HS := Lib.hid hss
  have c2 := sortTowers_any w1 _ g cap ss hlen hrow
  clear hK hrow hnil hss
  go_wp2_with fail
  refine c2.mono ?_
  rintro e w2 ⟨rfl, ts, hp, hs, hr, hg2⟩
  clear c2
  have HL := Lib.hid (show ts.length = ss.length from hp.length_eq)
  have HKT := Lib.hid (HK.out.perm hp)
  have HST := Lib.hid hs
  have HR := Lib.hid hr
  have hb2 := hb1.grown hg2 hb1.size (by intro k hk; cases hk; exact hgb)
  have hgl2 := Nat.lt_of_lt_of_le hgl hg2.size
  clear hp hs hr hg2
  go_wp2
  go_ret
  exact ⟨g, cap, ts, by rw [HL.out]; rfl, HKT.out, HST.out, HR.out, hgb, hgl2, hb2⟩

theorem range_grown {w w' : World} {g o : Nat} {cs : List Value} {row : Option Nat} (h : w.rangeAt g o cs) (hg : w.grownBy w' row) (hl : g < w.heap.size) (hne : row ≠ some g) : w'.rangeAt g o cs := fun j v hv => by
  have e : w'.heap[g]? = w.heap[g]? := hg.block g hl (fun e => hne e.symm)
  have := h j v hv
  simpa [World.cell?, e] using this

set_option maxHeartbeats 3200000 in
set_option maxRecDepth 100000 in
/-- the stacks of a layer in order -/
theorem stacks_any (n : Gm) (b : Nat) (c : LC) (m : Nat) (w : World) (hn : Hid (GOk n)) (hl : Ly n w b c) (hne : ∃ q, n.St q ∧ 0 < c q) (hm : Hid (n.len = m)) (h9 : m ≤ 9) :
    Calls Try.prog 82 #[.map (some b), .int .i64 m] w fun e w' => ∃ r hs L, e = .returned r ∧ SS w' w.heap.size w'.heap.size r hs L ∧ L.Pairwise (fun x y => ltL x y = true) ∧ (∀ q, q ∈ L ↔ n.St q ∧ 0 < c q) ∧ Below w.heap.size w w' := by
  obtain ⟨i0, hi, hz0, hz1, hz2⟩ := info_parts Try.info22
  have HI := Lib.hid hi
  have HZ0 := Lib.hid hz0
  have HZ1 := Lib.hid hz1
  have HZ2 := Lib.hid hz2
  obtain ⟨D, hown, hL⟩ := hl
  have hfl := hn.out.total
  have hsz := Lay.size_le hn.out hL (hown.canon keyd)
  obtain ⟨z, hz⟩ : ∃ z, Maps.size D = z := ⟨_, rfl⟩
  have HZ := Lib.hid hz
  rw [hz] at hsz
  have HLY := Lib.hid (show Ly n w b c from ⟨D, hown, hL⟩)
  have HNE := Lib.hid hne
  clear hi hz0 hz1 hz2 hz hL hne
  go_enter Try.func82, Try.ntmps82
  go_wp2_with (first
    | (at_len; refine wpList_len_own _ rfl _ 61 rfl 54 3 Try.underlying61 _ b n.all.length D rfl hown ?_; rw [HZ.out])
    | (at_make; refine wpList_make_own _ rfl _ _ 32 rfl w.heap.size 25 i0 _ 1 Try.underlying32 HI.out HZ0.out HZ1.out _ _ _ z rfl rfl rfl ?b1 ?b2 ?b3 ?_))
  case b1 => rw [HZ2.out]; omega
  case b2 => unfold maxLen; omega
  case b3 => exact Nat.le_refl _
  intro w1 hownS hgr1
  have hb1 : Below w.heap.size w w1 := (Below.refl _ _).grown hgr1 (Nat.le_refl _) (by intro k hk; cases hk)
  have hl1 := HLY.out.below hb1 (Nat.le_refl _)
  have HSM := Lib.hid (SS.made hownS)
  have hz1 := hb1.size
  clear hown hgr1
  go_wp2_with fail
  refine (mapsKeys_any b w1).mono ?_
  rintro e w2 ⟨rfl, hw2⟩
  have hb12 : Below w1.heap.size w1 w2 := by rw [hw2]; exact below_new w1 _
  have hz2 : w2.heap.size = w1.heap.size + 1 := by rw [hw2]; simp
  have hBm : w1.heap.size < w2.heap.size := by omega
  have hcm : w2.cell? ⟨w1.heap.size, 0, none⟩ = some (.map (some b)) := by rw [hw2]; exact (Boxed.new w1 _ (.map (some b))).cell
  have hl2 := hl1.below hb12 (Nat.le_refl _)
  clear hw2 hl1
  go_wp2_with fail
  refine (sortedKeys_any n w1.heap.size b c w2 hn hBm hcm hl2 HNE.out).mono ?_
  rintro e w3 ⟨g, cap, ts, rfl, hK, hST, hR, hgB, hgl, hb23⟩
  have hb13 := hb12.trans (hb23.mono hb12.size)
  have hB3 := hb1.trans (hb13.mono hz1)
  have hz3 := hb13.size
  have HS3 := Lib.hid (HSM.out.below hb13 (Nat.le_refl _))
  have hown3 := hownS.kept (grown_of_below hb13 none) (.inr (by intro h; cases h))
  have HK := Lib.hid hK
  have HR := Lib.hid hR
  have HSD := Lib.hid (hK.sorted hn.out hST)
  have HLN := Lib.hid (show ∀ (i : Nat) (hi : i < ts.length), (ts[i]).1.length = m from fun i hi => by
    rw [← hm.out]
    exact hn.out.length _ ((hK.2 _).1 (List.mem_map.2 ⟨ts[i], List.getElem_mem hi, rfl⟩)).1)
  have htl : ts.length ≤ 1000000 := by have := hK.few hn.out; omega
  clear hb12 hb23 hb13 hcm hl2 hK hST hR hownS hb1 hBm
  have HH0 := Lib.hid (show ([] : List Value).length = 0 from rfl)
  go_wp2
  go_loopw [5, 7, 15] (fun o _ i wr => ∃ (k gs cp : Nat) (hs : List Value), k ≤ ts.length ∧ i = .int .i64 k ∧ o = .slice (some ⟨gs, 0, none⟩) k cp ∧ Hid (hs.length = k) ∧ Hid (SS wr w.heap.size wr.heap.size o hs ((ts.map (·.1)).take k)) ∧ wr.ownsRow w.heap.size 25 1 o k hs ∧ gs ≠ g ∧ Hid (∀ (i : Nat) (hi : i < ts.length), wr.rangeAt g (i * 9) (twl (ts[i]).1)) ∧ w3.heap.size ≤ wr.heap.size ∧ Below w.heap.size w wr) (fun _ _ i _ => ts.length - (intOf i).toNat)
  case atStart => exact ⟨0, _, _, [], Nat.zero_le _, rfl, rfl, HH0, Lib.hid (by rw [List.take_zero]; exact HS3.out.mono (Nat.le_refl _) (by omega)), hown3, by omega, HR, Nat.le_refl _, hB3⟩
  case round =>
    obtain ⟨k, gs, cp, hs, hk, rfl, rfl, hhl, hS, hownk, hgs, HRk, hzr, hbr⟩ := hrel
    clear HS3 hown3 HH0 HR
    by_cases hlt : k < ts.length
    · have hlt' : (k : Int) < ts.length := by omega
      have hqm := HLN.out k hlt
      have hra := HRk.out k hlt
      have hglr : g < wr.heap.size := Nat.lt_of_lt_of_le hgl hzr
      have HN := Lib.hid (show (ts.map (·.1)).take k ++ [(ts[k]).1] = (ts.map (·.1)).take (k + 1) by rw [List.take_succ_eq_append_getElem (by simpa using hlt)]; simp)
      obtain ⟨q, hq⟩ : ∃ q, (ts[k]).1 = q := ⟨_, rfl⟩
      rw [hq] at hqm hra HN
      have hq9 : q.length ≤ 9 := by omega
      have hszt : (Try.prog.info? 54).map (·.size) = some (twl q).length := by rw [Try.infoT, twl_length q hq9]
      have hzero : Blk (wr.alloc (.cells (twl []).toArray 54)) wr.heap.size 54 (twl []) := Blk.new _ _ (twl []) _ rfl
      have hwz := hB3.size
      have hwr := hbr.size
      have HQM := Lib.hid hqm
      clear hq hqm
      go_wp2_with (first | (refine wpList_load_mid rfl 54 _ rfl g (k * 9) rfl (twl q) _ hra Try.underlying54 rfl hszt ?_) | (refine wpList_store_tower rfl _ _ rfl wr.heap.size [] q (by simp) hq9 rfl rfl hzero ?_; intro w4 hbT4 hgr4; have hz4 := hbT4.lt) | (refine wpList_load_tower rfl _ rfl wr.heap.size q hq9 rfl hbT4 ?_))
      have hg4 : wr.grownBy w4 none := by
        obtain ⟨a1, a2, a3, a4, a5⟩ := hgr4
        exact ⟨a1, a2, a3, by simp at a4; omega, fun k hk _ => (a5 k (by simp; omega) (by simp; omega)).trans (Below.heap_alloc wr _ k hk)⟩
      have hbr4 := hbr.grown hg4 hwr (by intro k hk; cases hk)
      have HR4 := Lib.hid (fun (i : Nat) (hi : i < ts.length) => range_grown (HRk.out i hi) hg4 hglr (by simp))
      have hzz := hg4.size
      have HS4 := Lib.hid (hS.out.grown hg4 (Nat.le_refl _) (fun g hg => by cases hg))
      have hown4 := hownk.kept hg4 (.inr (by intro h; cases h))
      clear hgr4 hzero hra hbr hownk hS hg4 HRk
      refine (list_any q m w4 HQM.out h9).mono ?_
      rintro e w5 ⟨r5, rfl, ho5, hf5, hb5⟩
      obtain ⟨a5, c5, rfl, _, _, _⟩ := ho5.shape
      have hz5 := hb5.size
      have hown5 := hown4.kept (grown_of_below hb5 none) (.inr (by intro h; cases h))
      have hbr5 := hbr4.trans (hb5.mono hbr4.size)
      have HR5 := Lib.hid (fun (i : Nat) (hi : i < ts.length) => range_below (HR4.out i hi) hb5 (Nat.lt_of_lt_of_le hglr hzz))
      have HI5 := Lib.hid (show In wr.heap.size (w5.heap.size + 1) (.slice a5 q.length c5) from fun g hg => ⟨by have := hf5 g hg; omega, Nat.lt_succ_of_lt (ho5.lt g hg)⟩)
      have HS5 := Lib.hid ((HS4.out.below hb5 (by omega)).below (below_new w5 (.cells #[.slice a5 q.length c5] 25)) (by omega))
      have HO5 := Lib.hid (ho5.alloc (.cells #[.slice a5 q.length c5] 25))
      have hs5 := hbr5.size
      clear hown4 hbT4 hbr4 hb5 ho5 hf5 HS4 HR4
      go_wp2_with (at_builtin; refine wpList_append_lies _ rfl _ _ 32 rfl w.heap.size 25 i0 _ 1 24 Try.underlying32 HI.out HZ0.out HZ1.out HZ2.out rfl (by omega) (.slice (some ⟨gs, 0, none⟩) k cp) k hs rfl (hown5.alloc _) _ 1 1 [.slice a5 q.length c5] rfl (by simp) (World.news_of_block (heap_alloc_new _ _)) (by simp [Value.oneCell']) (by omega) (by unfold maxLen; omega) (by omega) (by simp; omega) (w5.heap.size + 1) (by simp) ?_)
      intro g8 cap8 w8 hown8 hgr8 hat8 hlt8
      have hS8 := SS.app (cap := cap8) HS5.out (by simp; omega) HO5.out (by simpa using HI5.out) (by rw [hhl.out]; exact hown8) hgr8 (by simpa using hat8) hlt8 (by omega)
      rw [HN.out, hhl.out] at hS8
      have hbr8 := (hbr5.alloc hs5 (.cells #[.slice a5 q.length c5] 25)).grown hgr8 (by simp; omega) (fun b hb => (HS5.out.inn b hb).1)
      have HR8 := Lib.hid (fun (i : Nat) (hi : i < ts.length) => range_grown (w := w5.alloc (.cells #[.slice a5 q.length c5] 25)) (range_below (HR5.out i hi) (below_new w5 _) (by omega)) hgr8 (by simp; omega) (by simp [Value.ownBlock]; exact hgs))
      have hgs8 : g8 ≠ g := by
        rcases hat8 with h | h
        · simp [Value.ownBlock] at h; omega
        · omega
      have hz8 : w3.heap.size ≤ w8.heap.size := by have := hgr8.size; simp at this; omega
      have HL8 := Lib.hid (show (hs ++ [Value.slice a5 q.length c5]).length = k + 1 by rw [List.length_append, hhl.out]; rfl)
      have HS8 := Lib.hid hS8
      clear hS8 hgr8 hat8 hbr5 hown5 HR5
      go_wp2
      go_roundw
      case rel => exact ⟨k + 1, g8, cap8, _, by omega, by go_num, rfl, HL8, HS8, hown8, hgs8, HR8, hz8, hbr8⟩
      case measure => simp [intOf] <;> omega
    · obtain rfl : k = ts.length := by omega
      have HE := Lib.hid (show (ts.map (·.1)).take ts.length = ts.map (·.1) from List.take_of_length_le (by simp))
      have hge : (ts.length : Int) ≤ ts.length := Int.le_refl _
      go_wp2
      go_ret
      have hS' := hS.out
      rw [HE.out] at hS'
      exact ⟨_, rfl, hs, List.map (fun x : TwS => x.1) ts, hS', HSD.out, HK.out.2, hbr⟩
end Go.Proofs.Ytakgmcfpdbeajaa
