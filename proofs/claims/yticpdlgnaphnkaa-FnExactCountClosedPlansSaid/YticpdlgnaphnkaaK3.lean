import Derived.Test.YticpdlgnaphnkaaK2
import Derived.Deep.DeepCutAuto
import Derived.IntWalk
namespace Go.Proofs.Yticpdlgnaphnkaa
open Go Go.RowKit Go.Pan

set_option maxHeartbeats 1600000 in
set_option maxRecDepth 100000 in
theorem lhas_any (n : Nat) (b : Nat) (c : LC) (q : List Int) (w : World) (hl : Ly n w b c) (hq : St n q) :
    Calls Try.prog 117 #[.map (some b), tw q] w fun e w' => e = .returned (.bool (decide (0 < c q))) ∧ Below w.heap.size w w' := by
  obtain ⟨D, hown, hL⟩ := hl
  have hkey := key_tw hq
  have h9 := hq.1.le9
  have HH := Lib.hid (hL.has q hq)
  have hbx : Blk (w.alloc (.cells (twl q).toArray 54)) w.heap.size 54 (twl q) := Blk.new w _ (twl q) _ rfl
  have hB0 : Below w.heap.size w (w.alloc (.cells (twl q).toArray 54)) := below_new w _
  have ho : (w.alloc (.cells (twl q).toArray 54)).ownsMap Try.prog 54 (plainElem Try.prog 3) b (fact n) D := hown.alloc _
  clear hL hown
  go_enter Try.func117, Try.ntmps117
  go_wp2_with (first | (refine wpList_load_tower rfl _ rfl w.heap.size q h9 rfl hbx ?_) | (at_lookup; refine wpList_lookup_own_ok_int _ rfl _ _ 68 rfl 54 3 .i64 keyd Try.underlying68 Try.underlying3 (zeroI _) b (fact n) D rfl ho _ (kl q) rfl hkey ?_; intro c0 _ _))
  go_ret
  exact ⟨by rw [← HH.out]; rfl, hB0⟩

theorem left_st {n : Nat} {D : DD} {c : LC} (hL : Lay n D c) {k : Lit} (h : Maps.has D k = true) : ∃ q, St n q ∧ k = kl q ∧ 0 < c q := by
  obtain ⟨q, hq, rfl⟩ := hL.keys k h
  rw [hL.has q hq] at h
  exact ⟨q, hq, rfl, of_decide_eq_true h⟩
theorem key_is {n : Nat} {x : Value} {q : List Int} (hq : St n q) (h : keyOf Try.prog 54 x = some (kl q)) : x = tw q := klaw.inj h (key_tw hq)
theorem strike_other {n : Nat} {q p : List Int} (hq : St n q) (hp : St n p) (h : p ≠ q) (left : Lit → Bool) : (left (kl p) && !(kl p).sameKey (kl q)) = left (kl p) := by
  rw [Maps.sameKey_ne (fun e => h (kl_inj hp hq e))]
  simp
theorem strike_self (q : List Int) (left : Lit → Bool) : (left (kl q) && !(kl q).sameKey (kl q)) = false := by
  rw [WideAt.sameKey_self (kl_key q)]
  simp
abbrev Rg (w : World) (n b r : Nat) (D : DD) (left : Lit → Bool) (cnt : Nat) : Prop := w.ranges Try.prog 54 (plainElem Try.prog 3) b r (fact n) D left cnt
theorem invVal (v : Value) (y : DD × List MemPlace) (h : plainElem Try.prog 3 v = some y) : ∃ x : Int, v = .int .i64 x := by
  obtain ⟨a, e, _⟩ := plainElem_int_inv Try.underlying3 h
  exact ⟨a, e⟩
theorem Below.gr {w w' : World} (h : Below w.heap.size w w') : w.grownBy w' none := ⟨h.os, h.tape, h.output, h.size, fun k hk _ => h.block k hk⟩

def MeetR (n : Nat) (c o : LC) (r : Bool) : Prop := r = true ↔ meetC n c o
def MeetTo (n : Nat) (c o : LC) (left : Lit → Bool) : Prop := ∀ q, St n q → 0 < c q → left (kl q) = false → ¬ 0 < o q

set_option maxHeartbeats 1600000 in
set_option maxRecDepth 100000 in
theorem lmeets_any (n : Nat) (b b2 : Nat) (c o : LC) (w : World) (hl : Ly n w b c) (ho : Ly n w b2 o) :
    Calls Try.prog 144 #[.map (some b), .map (some b2)] w fun e w' => ∃ r : Bool, e = .returned (.bool r) ∧ MeetR n c o r ∧ Below w.heap.size w w' := by
  obtain ⟨D, hown, hL⟩ := hl
  go_enter Try.func144, Try.ntmps144
  go_wp2_with (at_range; refine wpList_range_own _ rfl _ 68 rfl 54 3 keyd Try.underlying68 _ b (fact n) D rfl hown ?_; intro w0 hrg0 hg0 hs0)
  go_frame
  have hB0 : Below w.heap.size w w0 := (Below.refl _ _).grown hg0 (Nat.le_refl _) (by intro k hk; cases hk)
  have hst0 : MeetTo n c o (Maps.has D) := fun q hq hc hf => by rw [hL.has q hq, decide_eq_true hc] at hf; cases hf
  have hle0 : ∀ k, Maps.has D k = true → Maps.has D k = true := fun _ h => h
  have HL := Lib.hid hL
  have HLE0 := Lib.hid hle0
  clear hs0 hL hle0 hown hg0
  go_loopw [5] (fun _ wr => ∃ left cnt, Rg wr n b w.heap.size D left cnt ∧ MeetTo n c o left ∧ Hid (∀ k, left k = true → Maps.has D k = true) ∧ Below w.heap.size w wr) (fun _ wr => wr.rangeLeft b w.heap.size)
  case atStart => exact ⟨_, _, hrg0, hst0, HLE0, hB0⟩
  case round =>
    obtain ⟨left, cnt, hrg, hmt, hle, hB⟩ := hrel
    clear hrg0 hst0 HLE0 hB0
    go_wp2_with (at_next; refine wpList_next_ranges _ rfl _ rfl 54 keyd _ (fun x : Value => x) (Value.int .i64) (fun key _ _ => ⟨key, rfl⟩) invVal b w.heap.size (fact n) D left cnt rfl hrg ?_ ?_)
    · intro _ hl0
      have HL0 := Lib.hid hl0
      clear hl0
      go_wp2
      go_ret
      refine ⟨false, rfl, Iff.intro (fun h => (by cases h)) (fun h => ?_), hB⟩
      obtain ⟨q, hq, h1, h2⟩ := h
      exact absurd h2 (hmt q hq h1 (HL0.out _))
    · intro x v k yd yp w1 cnt1 hkey hlk hv hat hrg1 hlt1 hg1 hs1 hen
      obtain ⟨q, hq, rfl, hcq⟩ := left_st HL.out (hle.out _ hlk)
      obtain rfl := key_is hq hkey
      have h9 := hq.1.le9
      have hsr := hB.size
      have hB1 := hB.grown hg1 hsr (by intro k hk; cases hk; exact Nat.le_refl _)
      have hzero : Blk (w1.alloc (.cells (twl []).toArray 54)) w1.heap.size 54 (twl []) := Blk.new _ _ (twl []) _ rfl
      have hs1' : w.heap.size ≤ w1.heap.size := hB1.size
      have HS1 := Lib.hid hs1
      clear hs1 hB hg1 hat
      go_wp2_with (first | (refine wpList_store_tower rfl _ _ rfl w1.heap.size [] q (by simp) h9 rfl rfl hzero ?_; intro w3 hbT3 hgr3; have hz3 := hbT3.lt) | (refine wpList_load_tower rfl _ rfl w1.heap.size q h9 rfl hbT3 ?_))
      have hB3 := (hB1.alloc hs1' (.cells (twl []).toArray 54)).grown hgr3 (by simp; omega) (by intro k hk; cases hk; exact hs1')
      have hrg3 := ((hrg1.alloc (.cells (twl []).toArray 54)).kept hgr3 (by have := hrg1.owns.lt; simp; omega) (by have := hrg1.lt; simp; omega))
      have hsb := hrg1.owns.lt
      have hs3 := hB3.size
      clear hB1 hzero hgr3 hrg1
      refine (lhas_any n b2 o q _ (ho.below hB3 (Nat.le_refl _)) hq).mono ?_
      rintro e w4 ⟨rfl, hb4⟩
      have hB4 := hB3.trans (hb4.mono hs3)
      have hrg4 := hrg3.kept (Below.gr hb4) (by simp) (by simp)
      have HQ := Lib.hid hq
      clear hq hB3 hrg3 hb4 hbT3
      by_cases hoq : 0 < o q
      · have HD := Lib.hid (decide_eq_true hoq)
        rw [HD.out]
        have HM := Lib.hid (show meetC n c o from ⟨q, HQ.out, hcq, hoq⟩)
        clear hoq hmt
        go_wp2
        go_ret
        exact ⟨true, rfl, Iff.intro (fun _ => HM.out) (fun _ => rfl), hB4⟩
      · have HD := Lib.hid (decide_eq_false hoq)
        rw [HD.out]
        have HN := Lib.hid (show MeetTo n c o (fun z => left z && !z.sameKey (kl q)) from fun p hp h1 h2 => by
          by_cases e : p = q
          · rw [e]; exact hoq
          · exact hmt p hp h1 (by simpa only [strike_other HQ.out hp e left] using h2))
        have HLE := Lib.hid (show ∀ k, (left k && !k.sameKey (kl q)) = true → Maps.has D k = true from fun k hk => hle.out k (by rw [Bool.and_eq_true] at hk; exact hk.1))
        clear hoq hmt
        go_wp2
        go_roundw
        case rel => exact ⟨_, _, hrg4, HN.out, HLE, hB4⟩
        case measure => rw [hrg4.left_eq, hrg.left_eq]; omega

def KeepTo (n : Nat) (c o : LC) (left : Lit → Bool) (c' : LC) : Prop := ∀ q, St n q → c' q = if left (kl q) = true then c q else keepC c o q

set_option maxHeartbeats 1600000 in
set_option maxRecDepth 100000 in
theorem lkeep_any (n : Nat) (b b2 : Nat) (c o : LC) (w : World) (hn : Hid (Cnt n)) (hl : Ly n w b c) (ho : Ly n w b2 o) (hne : b ≠ b2) :
    Calls Try.prog 132 #[.map (some b), .map (some b2)] w fun e w' => e = .returned (.tuple #[]) ∧ Ly n w' b (keepC c o) ∧ w.grownBy w' (some b) := by
  obtain ⟨D0, hown, hL0⟩ := hl
  go_enter Try.func132, Try.ntmps132
  go_wp2_with (at_range; refine wpList_range_own _ rfl _ 68 rfl 54 3 keyd Try.underlying68 _ b (fact n) D0 rfl hown ?_; intro w0 hrg0 hg0 hs0)
  go_frame
  have hG0 : w.grownBy w0 (some b) := hg0.but _
  have hst0 : KeepTo n c o (Maps.has D0) c := fun q hq => by
    by_cases hc : 0 < c q
    · rw [if_pos (by rw [hL0.has q hq, decide_eq_true hc])]
    · rw [if_neg (by rw [hL0.has q hq, decide_eq_false hc]; exact Bool.false_ne_true)]
      unfold keepC
      split <;> omega
  have HL0 := Lib.hid hL0
  have HLE0 := Lib.hid (show ∀ k, Maps.has D0 k = true → Maps.has D0 k = true from fun _ h => h)
  clear hs0 hL0 hown hg0
  go_loopw [4] (fun _ wr => ∃ left cnt D c', Rg wr n b w.heap.size D left cnt ∧ KeepTo n c o left c' ∧ Hid (Lay n D c') ∧ Hid (∀ k, left k = true → Maps.has D k = true) ∧ w.grownBy wr (some b)) (fun _ wr => wr.rangeLeft b w.heap.size)
  case atStart => exact ⟨_, _, D0, c, hrg0, hst0, HL0, HLE0, hG0⟩
  case round =>
    obtain ⟨left, cnt, D, c', hrg, hkt, hL, hle, hG⟩ := hrel
    clear hrg0 hst0 HLE0 hG0 HL0
    go_wp2_with (at_next; refine wpList_next_ranges _ rfl _ rfl 54 keyd _ (fun x : Value => x) (Value.int .i64) (fun key _ _ => ⟨key, rfl⟩) invVal b w.heap.size (fact n) D left cnt rfl hrg ?_ ?_)
    · intro _ hl0
      have HE := Lib.hid (show Ly n wr b (keepC c o) from ⟨D, hrg.owns, hL.out.congr (fun q hq => by rw [hkt q hq, if_neg (by rw [hl0]; exact Bool.false_ne_true)])⟩)
      clear hl0
      go_wp2
      go_end0
      exact ⟨rfl, HE.out, hG⟩
    · intro x v k yd yp w1 cnt1 hkey hlk hv hat hrg1 hlt1 hg1 hs1 hen
      obtain ⟨q, hq, rfl, hcq⟩ := left_st hL.out (hle.out _ hlk)
      obtain rfl := key_is hq hkey
      have HCQ := Lib.hid (show c' q = c q by rw [hkt q hq, if_pos hlk])
      have h9 := hq.1.le9
      have hsr := hG.size
      have hG1 := hG.andThen hg1 (by intro j hj; cases hj; exact .inl (Nat.le_refl _))
      have hzero : Blk (w1.alloc (.cells (twl []).toArray 54)) w1.heap.size 54 (twl []) := Blk.new _ _ (twl []) _ rfl
      have hs1' : w.heap.size ≤ w1.heap.size := hG1.size
      have HS1 := Lib.hid hs1
      have hbl := hrg1.owns.lt
      clear hs1 hG hg1 hat
      go_wp2_with (first | (refine wpList_store_tower rfl _ _ rfl w1.heap.size [] q (by simp) h9 rfl rfl hzero ?_; intro w3 hbT3 hgr3; have hz3 := hbT3.lt) | (refine wpList_load_tower rfl _ rfl w1.heap.size q h9 rfl hbT3 ?_))
      have hG3 := (hG1.andThen (World.grownBy_alloc w1 (.cells (twl []).toArray 54) none) (by intro j hj; cases hj)).andThen hgr3 (by intro j hj; cases hj; exact .inl hs1')
      have hrg3 := ((hrg1.alloc (.cells (twl []).toArray 54)).kept hgr3 (by simp; omega) (by have := hrg1.lt; simp; omega))
      clear hG1 hzero hgr3 hrg1
      refine (lhas_any n b2 o q _ (ho.grown hG3 (by simpa using hne)) hq).mono ?_
      rintro e w4 ⟨rfl, hb4⟩
      have hG4 := hG3.andThen (Below.gr hb4) (by intro j hj; cases hj)
      have hrg4 := hrg3.kept (Below.gr hb4) (by simp) (by simp)
      have hbT4 := hbT3.below hb4 hz3
      have HQ := Lib.hid hq
      clear hq hG3 hrg3 hb4 hbT3
      by_cases hoq : 0 < o q
      · have HD := Lib.hid (decide_eq_true hoq)
        rw [HD.out]
        have HN := Lib.hid (show KeepTo n c o (fun z => left z && !z.sameKey (kl q)) c' from fun p hp => by
          by_cases e : p = q
          · subst e
            rw [if_neg (by simp only [strike_self]; exact Bool.false_ne_true), HCQ.out]
            unfold keepC
            rw [if_pos hoq]
          · simp only [strike_other HQ.out hp e left]
            exact hkt p hp)
        have HLE := Lib.hid (show ∀ k, (left k && !k.sameKey (kl q)) = true → Maps.has D k = true from fun k hk => hle.out k (by rw [Bool.and_eq_true] at hk; exact hk.1))
        clear hoq hkt
        go_wp2
        go_roundw
        case rel => exact ⟨_, _, D, c', hrg4, HN.out, hL, HLE, hG4⟩
        case measure => rw [hrg4.left_eq, hrg.left_eq]; omega
      · have HD := Lib.hid (decide_eq_false hoq)
        rw [HD.out]
        have HN := Lib.hid (show KeepTo n c o (fun z => left z && !z.sameKey (kl q)) (fun p => if p = q then 0 else c' p) from fun p hp => by
          show (if p = q then 0 else c' p) = if (left (kl p) && !(kl p).sameKey (kl q)) = true then c p else keepC c o p
          by_cases e : p = q
          · subst e
            rw [if_pos rfl, if_neg (by simp only [strike_self]; exact Bool.false_ne_true)]
            unfold keepC
            rw [if_neg hoq]
          · rw [if_neg e]
            simp only [strike_other HQ.out hp e left]
            exact hkt p hp)
        have HLY := Lib.hid (hL.out.del HQ.out)
        have HLE := Lib.hid (show ∀ k, (left k && !k.sameKey (kl q)) = true → Maps.has (D.del (kl q)) k = true from fun k hk => by
          rw [Bool.and_eq_true] at hk
          have hne' : k ≠ kl q := fun e => by rw [e, WideAt.sameKey_self (kl_key q)] at hk; simp at hk
          rw [Maps.has_del_other hne']
          exact hle.out k hk.1)
        clear hoq hkt
        go_wp2_with (first | (refine wpList_load_tower rfl _ rfl w1.heap.size q h9 rfl hbT4 ?_) | (at_delete; refine wpList_delete_ranges _ rfl _ _ 68 54 rfl 3 keyd Try.underlying68 _ b w.heap.size (fact n) D _ _ rfl hrg4 _ (kl q) rfl hkey ?_; intro w5 cnt5 hrg5 hle5 hturn; go_frame))
        rw [Maps.strike_twice] at hrg5
        have hG5 := hG4.andThen hturn.grown (by intro j hj; cases hj; exact .inr rfl)
        go_roundw
        case rel => exact ⟨_, _, _, _, hrg5, HN.out, HLY, HLE, hG5⟩
        case measure => rw [hrg5.left_eq, hrg.left_eq]; omega

def DropTo (n : Nat) (c o : LC) (left : Lit → Bool) (c' : LC) : Prop := ∀ q, St n q → c' q = if left (kl q) = true then c q else dropC c o q

set_option maxHeartbeats 1600000 in
set_option maxRecDepth 100000 in
theorem ldrop_any (n : Nat) (b b2 : Nat) (c o : LC) (w : World) (hn : Hid (Cnt n)) (hl : Ly n w b c) (ho : Ly n w b2 o) (hne : b ≠ b2) :
    Calls Try.prog 138 #[.map (some b), .map (some b2)] w fun e w' => e = .returned (.tuple #[]) ∧ Ly n w' b (dropC c o) ∧ w.grownBy w' (some b) := by
  obtain ⟨D0, hown, hL0⟩ := hl
  obtain ⟨D2, hown2, hL2⟩ := ho
  have hb0 := hown.lt
  go_enter Try.func138, Try.ntmps138
  go_wp2_with (at_range; refine wpList_range_own _ rfl _ 68 rfl 54 3 keyd Try.underlying68 _ b2 (fact n) D2 rfl hown2 ?_; intro w0 hrg0 hg0 hs0)
  go_frame
  have hG0 : w.grownBy w0 (some b) := hg0.but _
  have hst0 : Hid (∀ q, St n q → 0 < o q → Maps.has D2 (kl q) = true) := Lib.hid (fun q hq ho => by rw [hL2.has q hq, decide_eq_true ho])
  have hown0 := hown.kept hg0 (by simp)
  have HL0 := Lib.hid hL0
  have HL2 := Lib.hid hL2
  have HLE0 := Lib.hid (show ∀ k, Maps.has D2 k = true → Maps.has D2 k = true from fun _ h => h)
  have hst1 : Hid (∀ q, St n q → c q = if 0 < o q ∧ Maps.has D2 (kl q) = false then 0 else c q) := Lib.hid (fun q hq => by
    by_cases ho : 0 < o q
    · rw [if_neg (fun h => by rw [hL2.has q hq, decide_eq_true ho] at h; cases h.2)]
    · rw [if_neg (fun h => ho h.1)])
  clear hs0 hL0 hL2 hown hown2 hg0 hst0
  go_loopw [4] (fun _ wr => ∃ left cnt D c', Rg wr n b2 w.heap.size D2 left cnt ∧ wr.ownsMap Try.prog 54 (plainElem Try.prog 3) b (fact n) D ∧ Hid (∀ q, St n q → c' q = if 0 < o q ∧ left (kl q) = false then 0 else c q) ∧ Hid (Lay n D c') ∧ Hid (∀ k, left k = true → Maps.has D2 k = true) ∧ w.grownBy wr (some b)) (fun _ wr => wr.rangeLeft b2 w.heap.size)
  case atStart => exact ⟨_, _, D0, c, hrg0, hown0, hst1, HL0, HLE0, hG0⟩
  case round =>
    obtain ⟨left, cnt, D, c', hrg, hownr, hkt, hL, hle, hG⟩ := hrel
    clear hrg0 hst1 HLE0 hG0 HL0 hown0
    go_wp2_with (at_next; refine wpList_next_ranges _ rfl _ rfl 54 keyd _ (fun x : Value => x) (Value.int .i64) (fun key _ _ => ⟨key, rfl⟩) invVal b2 w.heap.size (fact n) D2 left cnt rfl hrg ?_ ?_)
    · intro _ hl0
      have HE := Lib.hid (show Ly n wr b (dropC c o) from ⟨D, hownr, hL.out.congr (fun q hq => by
        rw [hkt.out q hq, hl0]
        unfold dropC
        by_cases ho : 0 < o q
        · rw [if_pos ⟨ho, rfl⟩, if_pos ho]
        · rw [if_neg (fun h => ho h.1), if_neg ho])⟩)
      clear hl0
      go_wp2
      go_end0
      exact ⟨rfl, HE.out, hG⟩
    · intro x v k yd yp w1 cnt1 hkey hlk hv hat hrg1 hlt1 hg1 hs1 hen
      obtain ⟨q, hq, rfl, hoq⟩ := left_st HL2.out (hle.out _ hlk)
      obtain rfl := key_is hq hkey
      have h9 := hq.1.le9
      have hsr := hG.size
      have hbl := hownr.lt
      have hG1 := hG.andThen hg1 (by intro j hj; cases hj; exact .inl (Nat.le_refl _))
      have hrne : w.heap.size ≠ b := by omega
      have hown1 := hownr.kept hg1 (by simpa using hrne.symm)
      have hzero : Blk (w1.alloc (.cells (twl []).toArray 54)) w1.heap.size 54 (twl []) := Blk.new _ _ (twl []) _ rfl
      have hs1' : w.heap.size ≤ w1.heap.size := hG1.size
      have HS1 := Lib.hid hs1
      have hbl1 : b < w1.heap.size := hown1.lt
      have hbl2 := hrg1.owns.lt
      have hrl := hrg1.lt
      clear hs1 hG hg1 hat
      go_wp2_with (first | (refine wpList_store_tower rfl _ _ rfl w1.heap.size [] q (by simp) h9 rfl rfl hzero ?_; intro w3 hbT3 hgr3; have hz3 := hbT3.lt; have hown3 := ((hown1.alloc (.cells (twl []).toArray 54)).kept hgr3 (by simp; omega))) | (refine wpList_load_tower rfl _ rfl w1.heap.size q h9 rfl hbT3 ?_) | (at_delete; refine wpList_delete_own _ rfl _ _ 68 54 rfl 3 keyd Try.underlying68 _ b (fact n) D rfl hown3 _ (kl q) rfl hkey ?_; intro w5 hown5 hturn; go_frame))
      have hG3 := (hG1.andThen (World.grownBy_alloc w1 (.cells (twl []).toArray 54) none) (by intro j hj; cases hj)).andThen hgr3 (by intro j hj; cases hj; exact .inl hs1')
      have hrg3 := ((hrg1.alloc (.cells (twl []).toArray 54)).kept hgr3 (by simp; omega) (by simp; omega))
      have hG5 := hG3.andThen hturn.grown (by intro j hj; cases hj; exact .inr rfl)
      have hrg5 := hrg3.kept hturn.grown (by simpa using hne.symm) (by simpa using hrne)
      have HQ := Lib.hid hq
      have HN := Lib.hid (show ∀ p, St n p → (fun p => if p = q then 0 else c' p) p = if 0 < o p ∧ (left (kl p) && !(kl p).sameKey (kl q)) = false then 0 else c p from fun p hp => by
        show (if p = q then 0 else c' p) = _
        by_cases e : p = q
        · subst e
          rw [if_pos rfl, if_pos ⟨hoq, strike_self p left⟩]
        · rw [if_neg e, strike_other HQ.out hp e left]
          exact hkt.out p hp)
      have HLY := Lib.hid (hL.out.del HQ.out)
      have HLE := Lib.hid (show ∀ k, (left k && !k.sameKey (kl q)) = true → Maps.has D2 k = true from fun k hk => hle.out k (by rw [Bool.and_eq_true] at hk; exact hk.1))
      clear hG1 hzero hgr3 hrg1 hG3 hrg3 hq
      go_roundw
      case rel => exact ⟨_, _, _, _, hrg5, hown5, HN, HLY, HLE, hG5⟩
      case measure => rw [hrg5.left_eq, hrg.left_eq]; omega
end Go.Proofs.Yticpdlgnaphnkaa
