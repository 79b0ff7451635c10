import Derived.Test.YtfcbaegkppkfkaaH
import Derived.Test.YtfcbaegkppkfkaaSS
namespace Go.Pan
open Go Go.RowKit

-- a slice of slices of ints that came in: read only, its rows may overlap
def IntM (w : World) (v : Value) (xss : List (List Int)) : Prop :=
  ∃ (ad : Option Addr) (cap : Nat), v = .slice ad xss.length cap ∧ xss.length ≤ cap ∧ cap ≤ maxLen ∧
    (xss ≠ [] → ∃ b off, ad = some ⟨b, off, none⟩ ∧ b < w.heap.size ∧ ∀ i (h : i < xss.length), ∃ u, w.cell? ⟨b, off + i, none⟩ = some u ∧ Ints w u xss[i])
theorem IntM.below {w w' : World} {v : Value} {xss : List (List Int)} (h : IntM w v xss) (hb : Below w.heap.size w w') : IntM w' v xss := by
  obtain ⟨ad, cap, rfl, h1, h2, h3⟩ := h
  refine ⟨ad, cap, rfl, h1, h2, fun hne => ?_⟩
  obtain ⟨b, off, rfl, hbl, hc⟩ := h3 hne
  refine ⟨b, off, rfl, Nat.lt_of_lt_of_le hbl hb.size, fun i hi => ?_⟩
  obtain ⟨u, hu, hx⟩ := hc i hi
  exact ⟨u, (hb.cell (p := ⟨b, off + i, none⟩) hbl).trans hu, hx.below hb (Nat.le_refl _)⟩
theorem IntM.of_rows {w : World} {a : Addr} {len cap : Nat} {A : Nat → Option Addr} {L C : Nat → Nat} {Z : Nat → List Int} (hl : len ≤ cap) (hm : cap ≤ maxLen)
    (hr : ∀ r, r < cap → w.cell? (a.add r) = some (.slice (A r) (L r) (C r)) ∧ L r ≤ C r ∧ C r ≤ maxLen ∧ (Z r).length = C r ∧ (∀ n ∈ Z r, (Lit.int .i64 n).wf = true) ∧ (A r = none → C r = 0) ∧ ∀ a', A r = some a' → 0 ≤ a'.block ∧ ∀ c, c < C r → w.cell? (a'.add c) = some (.int .i64 ((Z r).getD c 0))) :
    ∃ xss : List (List Int), xss.length = len ∧ IntM w (.slice (some a) len cap) xss := by
  have each : ∀ r, r < len → ∃ xs : List Int, Ints w (.slice (A r) (L r) (C r)) xs := fun r hrl => by
    obtain ⟨_, h1, h2, h3, h4, h5, h6⟩ := hr r (by omega)
    have h : (A r = none ∧ L r = 0 ∧ C r = 0 ∧ Z r = []) ∨ ∃ x, A r = some x ∧ L r ≤ C r ∧ C r ≤ maxLen ∧ (Z r).length = C r ∧ (∀ i, i < (Z r).length → w.cell? (x.add i) = some (.int .i64 ((Z r).getD i 0))) ∧ ∀ n ∈ Z r, (Lit.int .i64 n).wf = true := by
      cases hA : A r with
      | none =>
        have hc := h5 hA
        exact .inl ⟨rfl, by omega, hc, List.eq_nil_of_length_eq_zero (by omega)⟩
      | some x => exact .inr ⟨x, rfl, h1, h2, h3, fun i hi => (h6 x hA).2 i (by omega), h4⟩
    obtain ⟨xs, _, hx, _⟩ := Ints.of_row h
    exact ⟨xs, hx⟩
  obtain ⟨f, hf⟩ : ∃ f : Nat → List Int, ∀ r, r < len → Ints w (.slice (A r) (L r) (C r)) (f r) :=
    ⟨fun r => if h : r < len then Classical.choose (each r h) else [], fun r h => by
      show Ints w _ (if h : r < len then Classical.choose (each r h) else [])
      rw [dif_pos h]
      exact Classical.choose_spec (each r h)⟩
  refine ⟨(List.range len).map f, by simp, some a, cap, by simp, by simpa using hl, hm, fun hne => ?_⟩
  have h0 : 0 < len := by
    cases len with
    | zero => simp at hne
    | succ n => omega
  obtain ⟨b, off, sp⟩ := a
  have hsp : sp = none := by
    have := (hr 0 (by omega)).1
    cases sp with
    | none => rfl
    | some s =>
      have e : (⟨b, off, some s⟩ : Addr).add 0 = ⟨b, off, some s⟩ := by simp [Addr.add]
      rw [e] at this
      simp [World.cell?] at this
      split at this <;> simp at this
  subst hsp
  refine ⟨b, off, rfl, ?_, fun i hi => ?_⟩
  · have := (hr 0 (by omega)).1
    rw [Addr.add_lit] at this
    exact World.block_lt_of_cell? w _ this
  · have hi' : i < len := by simpa using hi
    have := (hr i (by omega)).1
    rw [Addr.add_lit] at this
    refine ⟨_, this, ?_⟩
    simpa using hf i hi'
theorem pre_le_all (xss : List (List Int)) (i : Nat) : pre xss i ≤ pre xss xss.length := by
  unfold pre
  rw [List.take_length]
  conv => rhs; rw [← List.take_append_drop i xss, List.map_append, List.sum_append]
  omega
theorem row_le_all (xss : List (List Int)) (i : Nat) (h : i < xss.length) : xss[i].length ≤ pre xss xss.length := by
  have h1 := pre_succ xss i h
  have h2 := pre_le_all xss (i + 1)
  omega
/-- a row of one's own slice of slices gets another value -/
theorem SS.setRow {w : World} {B N g n cap i : Nat} {ty : TypeId} {cs hs : List Value} {xss : List (List Int)} {u : Value} {x : List Int} (h : SS w B N (.slice (some ⟨g, 0, none⟩) n cap) hs xss) (hb : Blk w g ty cs) (hi : i < xss.length)
    (hu : OwnI w u x) (hin : In N w.heap.size u) (hN : N ≤ w.heap.size) (hBN : B ≤ N) : SS (w.setCell ⟨g, i, none⟩ u) B w.heap.size (.slice (some ⟨g, 0, none⟩) n cap) (hs.set i u) (xss.set i x) := by
  have hgN : B ≤ g ∧ g < N := h.inn g rfl
  have hk : ∀ g', g' ≠ g → (w.setCell ⟨g, i, none⟩ u).heap[g']? = w.heap[g']? := fun g' hne => heap_setCell_other w ⟨g, i, none⟩ g' u hne
  have hug : ∀ g', u.ownBlock = some g' → g' ≠ g := fun g' h1 e => by have := (hin g' h1).1; omega
  have hlen := h.len
  refine ⟨by simp [h.len], ?_, fun g' hg' => ⟨(h.inn g' hg').1, Nat.lt_of_lt_of_le (h.inn g' hg').2 hN⟩, fun j u' xs hj hx => ?_, fun j k u1 u2 hjk h1 h2 => ?_⟩
  · obtain ⟨ad, cap', hv, h1, h2, h3, h4, h5⟩ := h.own
    simp only [Value.slice.injEq] at hv
    obtain ⟨rfl, hnn, rfl⟩ := hv
    obtain ⟨hs0, cur, ty', hh, r, hcc⟩ := h5 _ rfl
    have he : cur = cs.toArray ∧ ty' = ty := by
      have := hh.symm.trans hb
      simpa using this
    obtain ⟨rfl, rfl⟩ := he
    refine ⟨_, cap, by rw [List.length_set, hnn], by simp, by rw [List.length_set]; exact h2, h3, by simp, fun a ha => ?_⟩
    cases ha
    refine ⟨rfl, _, ty', hb.set i u, by simpa using r, fun j hj => ?_⟩
    rw [List.length_set] at hj
    have := hcc j hj
    simp only [Nat.zero_add, List.getElem?_toArray] at this ⊢
    rw [List.getElem?_set, List.getElem?_set, this]
    have hil : i < hs.length := by omega
    by_cases e : i = j
    · subst e
      have : i < cs.length := by
        have hr : 0 + cap * 1 ≤ cs.length := by simpa using r
        omega
      simp [this, hil]
    · simp [e]
  · by_cases e : i = j
    · subst e
      have hil : i < hs.length := by omega
      rw [List.getElem?_set_self hil] at hj
      rw [List.getElem?_set_self hi] at hx
      cases hj; cases hx
      exact ⟨hu.kept fun g' hg' => hk g' (hug g' hg'), fun g' hg' => ⟨Nat.le_trans hBN (hin g' hg').1, (hin g' hg').2⟩, fun g' hg' e => by
        have h1 : g = g' := by simpa [Value.ownBlock] using hg'
        exact hug g' e h1.symm⟩
    · rw [List.getElem?_set_ne e] at hj hx
      have hr := h.row j u' xs hj hx
      refine ⟨hr.1.kept fun g' hg' => hk g' (fun e2 => hr.2.2 g rfl (by rw [← e2]; exact hg')), hr.2.1.mono (Nat.le_refl _) hN, hr.2.2⟩
  · have hap : ∀ (k : Nat) (u2 : Value), hs[k]? = some u2 → Apart u u2 := fun k u2 h2 g' hg' e => by
      have hkl : k < hs.length := (List.getElem?_eq_some_iff.1 h2).1
      have := (h.row k u2 _ h2 (List.getElem?_eq_getElem (by omega))).2.1 g' e
      have := (hin g' hg').1
      omega
    by_cases e1 : i = j
    · subst e1
      rw [List.getElem?_set_self (by have := (List.getElem?_eq_some_iff.1 h1).1; simpa using this)] at h1
      rw [List.getElem?_set_ne hjk] at h2
      cases h1
      exact hap k u2 h2
    · rw [List.getElem?_set_ne e1] at h1
      by_cases e2 : i = k
      · subst e2
        rw [List.getElem?_set_self (by have := (List.getElem?_eq_some_iff.1 h2).1; simpa using this)] at h2
        cases h2
        exact (hap j u1 h1).symm
      · rw [List.getElem?_set_ne e2] at h2
        exact h.apart j k u1 u2 hjk h1 h2

end Go.Pan

namespace Go.Proofs.Ytfcbaegkppkfkaa
open Go Go.RowKit Go.Pan

theorem szIntS_any (v : Value) (xs : List Int) (L : Int) (w : World) (hv : Ints w v xs) (h0 : 0 ≤ L) (h1 : L ≤ 1048576) :
    Calls Try.prog 34 #[v, .int .i64 L] w fun e w' => ∃ z : Int, e = .returned (.int .i64 z) ∧ w = w' ∧ (z = -1 ∨ (0 ≤ z ∧ z = L - xs.length)) := by
  obtain ⟨ad, cap, rfl, hc, hm, hr⟩ := hv
  have hs1 := IntWalk.i64_in (L - (xs.length : Int)) (by unfold maxLen at hm; omega)
  by_cases h : L - (xs.length : Int) < 0
  · go_enter Try.func34, Try.ntmps34
    go_wp2
    go_ret
    exact ⟨_, rfl, rfl, .inl rfl⟩
  · have h' : 0 ≤ L - (xs.length : Int) := by omega
    go_enter Try.func34, Try.ntmps34
    go_wp2
    go_ret
    exact ⟨_, rfl, rfl, .inr ⟨h', rfl⟩⟩

set_option maxHeartbeats 1600000 in
set_option maxRecDepth 100000 in
theorem szIntSS_any (v : Value) (xss : List (List Int)) (w : World) (hv : IntM w v xss) :
    Calls Try.prog 23 #[v, .int .i64 1048576] w fun e w' => ∃ z : Int, e = .returned (.int .i64 z) ∧ w = w' ∧ (z = -1 ∨ (0 ≤ z ∧ xss.length + pre xss xss.length ≤ 1048576)) := by
  obtain ⟨ad, cap, rfl, hc, hm, hr⟩ := hv
  have hs1 := IntWalk.i64_in (1048576 - (xss.length : Int)) (by unfold maxLen at hm; omega)
  by_cases h : 1048576 - (xss.length : Int) < 0
  · go_enter Try.func23, Try.ntmps23
    go_wp2
    go_ret
    exact ⟨_, rfl, rfl, .inl rfl⟩
  · have h' : 0 ≤ 1048576 - (xss.length : Int) := by omega
    have hn : xss.length ≤ 1048576 := by omega
    have HR := Lib.hid hr
    clear hr
    go_enter Try.func23, Try.ntmps23
    go_wp2
    go_loopw [1, 5] (fun lv iv' wr => ∃ (i : Nat) (l : Int), i ≤ xss.length ∧ iv' = .int .i64 i ∧ lv = .int .i64 l ∧ 0 ≤ l ∧ Hid (l = 1048576 - (xss.length : Int) - (pre xss i : Nat)) ∧ wr = w) (fun _ iv' _ => xss.length - (intOf iv').toNat)
    case atStart => exact ⟨0, _, Nat.zero_le _, rfl, rfl, h', Lib.hid (by simp [pre]), rfl⟩
    case round =>
      obtain ⟨i, l, hi, rfl, rfl, hl0, hl, rfl⟩ := hrel
      by_cases hlt : i < xss.length
      · have hlt' : (i : Int) < (xss.length : Int) := by omega
        obtain ⟨b, off, rfl, hbl, hcell⟩ := HR.out (by intro e; simp [e] at hlt)
        obtain ⟨u, hu, hx⟩ := hcell i hlt
        have HP := Lib.hid (pre_succ xss i hlt)
        obtain ⟨a2, c2, rfl, _, _, _⟩ := id hx
        have cz := szIntS_any _ xss[i] l wr hx hl0 (by have := hl.out; omega)
        clear hcell hx
        go_wp2_with fail
        refine cz.mono ?_
        rintro e w1 ⟨z, rfl, rfl, hz⟩
        rcases hz with rfl | ⟨hz0, hz1⟩
        · go_wp2
          go_ret
          exact ⟨_, rfl, rfl, .inl rfl⟩
        · have HZ := Lib.hid (show z = 1048576 - (xss.length : Int) - (pre xss (i + 1) : Nat) by
            have := hl.out; have := HP.out; omega)
          clear hz1
          go_wp2
          go_roundw
          case rel => exact ⟨i + 1, z, by omega, by go_num, rfl, hz0, HZ, by first | rfl | trivial⟩
          case measure => simp [intOf] <;> omega
      · obtain rfl : i = xss.length := by omega
        have hge : (xss.length : Int) ≤ (xss.length : Int) := Int.le_refl _
        have HE := Lib.hid (show xss.length + pre xss xss.length ≤ 1048576 by have := hl.out; omega)
        go_wp2
        go_ret
        exact ⟨_, rfl, rfl, .inr ⟨hl0, HE.out⟩⟩

theorem Try.info22M : (Try.prog.info? 22).map (fun i => (i.zero, i.size, i.bytes)) = some (some (.slice none 0 0), 1, 24) := by kernel_rfl

set_option maxHeartbeats 1600000 in
set_option maxRecDepth 100000 in
theorem toIntSS_any (v : Value) (xss : List (List Int)) (w : World) (hv : IntM w v xss) (ht : xss.length + pre xss xss.length ≤ 1048576) :
    Calls Try.prog 25 #[v] w fun e w' => ∃ r hs, e = .returned r ∧ SS w' w.heap.size w'.heap.size r hs xss ∧ Below w.heap.size w w' := by
  obtain ⟨ad, cap, rfl, hc, hm, hr⟩ := id hv
  have HV := Lib.hid hv
  have HT := Lib.hid ht
  have hn : xss.length ≤ 1048576 := by omega
  obtain ⟨i0, hi, hz0, hz1, hz2⟩ := info_parts Try.info22M
  have HI := Lib.hid hi
  have HZ0 := Lib.hid hz0
  have HZ1 := Lib.hid hz1
  have HZ2 := Lib.hid hz2
  obtain ⟨n, hnn⟩ : ∃ n, xss.length = n := ⟨_, rfl⟩
  have HN := Lib.hid hnn
  rw [hnn] at hc hn ⊢
  clear hi hz0 hz1 hz2 hr hv ht hnn
  go_enter Try.func25, Try.ntmps25
  go_wp2_with (at_make; refine wpList_make_full _ rfl _ _ 23 rfl w.heap.size 22 i0 (.slice none 0 0) 1 Try.underlying23 HI.out HZ0.out HZ1.out _ _ _ _ n rfl rfl rfl rfl ?b1 ?b2 ?b3 ?_)
  case b1 => rw [HZ2.out]; omega
  case b2 => unfold maxLen; omega
  case b3 => exact Nat.le_refl _
  intro w1 hown hgr
  obtain ⟨g, hg⟩ : ∃ g, w.heap.size = g := ⟨_, rfl⟩
  have hb0 := (Blk.of_row hown).1
  have hB1 : Below w.heap.size w w1 := (Below.refl _ _).grown hgr (Nat.le_refl _) (by intro k hk; cases hk)
  rw [toList_madeCells_one] at hown hb0
  have hO1 := (Own.of_row hown).1
  have hz1 := hb0.lt
  rw [hg] at hown hb0 hB1 hO1 hz1 ⊢
  have HG := Lib.hid hg
  have HS0 : Hid (SS w1 g w1.heap.size (.slice (some ⟨g, 0, none⟩) n n) (List.replicate n (.slice none 0 0)) (xss.take 0 ++ List.replicate (n - 0) [])) := Lib.hid (by
    rw [List.take_zero, List.nil_append, Nat.sub_zero]
    refine ⟨by simp, by rw [List.length_replicate]; exact hO1, fun g' hg' => ?_, fun i u xs hu hx => ?_, fun i j u u' hij hu hu' => ?_⟩
    · have : g = g' := by simpa [Value.ownBlock] using hg'
      omega
    · rw [List.getElem?_replicate] at hu hx
      split at hu
      · rename_i hlt
        rw [if_pos hlt] at hx
        cases hu; cases hx
        exact ⟨OwnI.nil _, (fun g' h => by cases h), (fun g' h1 h2 => by cases h2)⟩
      · cases hu
    · rw [List.getElem?_replicate] at hu
      split at hu
      · cases hu
        exact fun g' h => by cases h
      · cases hu)
  have HB0 := Lib.hid hb0
  clear hown hgr hg hO1 hb0
  go_wp2
  go_loopw [4] (fun iv' wr => ∃ (i : Nat) (hs cs : List Value), i ≤ n ∧ iv' = .int .i64 i ∧ Hid (SS wr g wr.heap.size (.slice (some ⟨g, 0, none⟩) n n) hs (xss.take i ++ List.replicate (n - i) [])) ∧ Hid (Blk wr g 22 cs) ∧ cs.length = n ∧ Below g w wr) (fun iv' _ => n - (intOf iv').toNat)
  case atStart => exact ⟨0, _, _, Nat.zero_le _, rfl, HS0, HB0, by simp, hB1⟩
  case round =>
    obtain ⟨i, hs, cs, hi, rfl, hS, hBk, hcl, hbr⟩ := hrel
    obtain ⟨wk, rfl⟩ : ∃ z, z = wr := ⟨_, rfl⟩
    clear HS0 HB0 hB1
    by_cases hlt : i < n
    · have hlt' : (i : Int) < (n : Int) := by omega
      have hix : i < xss.length := by rw [HN.out]; exact hlt
      obtain ⟨ad', cap', he, _, _, hr⟩ := HV.out.below (hbr.mono (by have := HG.out; omega))
      simp only [Value.slice.injEq] at he
      obtain ⟨rfl, _, rfl⟩ := he
      obtain ⟨b, off, rfl, hbl, hcell⟩ := hr (by intro e; simp [e] at hix)
      obtain ⟨u, hu, hx⟩ := hcell i hix
      have hrl := row_le_all xss i hix
      have ct := toIntS_any u xss[i] wk hx (by have := HT.out; omega)
      obtain ⟨a2, c2, rfl, _, _, _⟩ := id hx
      obtain ⟨x, hxe⟩ : ∃ x, xss[i] = x := ⟨_, rfl⟩
      rw [hxe] at hu ct hx
      have HSET := Lib.hid (show (xss.take i ++ List.replicate (n - i) []).set i x = xss.take (i + 1) ++ List.replicate (n - (i + 1)) [] by
        rw [List.set_append_right _ _ (by rw [List.length_take]; omega), List.length_take, Nat.min_eq_left (Nat.le_of_lt hix), Nat.sub_self, show n - i = (n - (i + 1)) + 1 by omega, List.replicate_succ, List.set_cons_zero, List.take_add_one, List.getElem?_eq_getElem hix, hxe, List.append_assoc]
        rfl)
      have HLT := Lib.hid (show i < (xss.take i ++ List.replicate (n - i) ([] : List Int)).length by rw [List.length_append, List.length_take, List.length_replicate]; omega)
      have hgk := hBk.out.lt
      clear hrl hr hcell hx hxe
      go_wp2_with fail
      refine ct.mono ?_
      rintro e w5 ⟨r5, rfl, ho5, hf5, hb5⟩
      clear ct
      have hS5 := hS.out.below hb5 (Nat.le_refl _)
      have hB5 := hBk.out.below hb5 hgk
      have hl5 := ho5.lt
      have hz5 := hb5.size
      have HS6 := Lib.hid ((SS.setRow hS5 hB5 HLT.out ho5 (fun q hq => ⟨hf5 q hq, hl5 q hq⟩) hz5 (by omega)).mono (B' := g) (N' := (w5.setCell ⟨g, i, none⟩ r5).heap.size) (Nat.le_refl _) (by simp [World.setCell]))
      rw [HSET.out] at HS6
      have HB6 := Lib.hid (hB5.set i r5)
      have HBB := Lib.hid ((hbr.trans (hb5.mono (by omega))).setCell (p := ⟨g, i, none⟩) (Nat.le_refl _) r5)
      have hci := hB5.cell i
      rw [List.getElem?_eq_getElem (by omega)] at hci
      have hfi := hB5.frozen i
      obtain ⟨y, hy⟩ : ∃ y, cs[i]'(by omega) = y := ⟨_, rfl⟩
      rw [hy] at hci
      obtain ⟨a5, l5, c5, rfl⟩ : ∃ a l c, r5 = .slice a l c := by obtain ⟨a, c, h, _⟩ := ho5.shape; exact ⟨a, _, c, h⟩
      have HCL := Lib.hid (show (cs.set i (.slice a5 l5 c5)).length = n by rw [List.length_set]; exact hcl)
      clear hS5 hB5 hS hBk hbr ho5 hf5 hb5 hl5 hy hu
      go_wp2
      go_roundw
      case rel => exact ⟨i + 1, _, _, by omega, by go_num, HS6, HB6, HCL.out, HBB.out⟩
      case measure => simp [intOf] <;> omega
    · obtain rfl : i = n := by omega
      have HS := Lib.hid (show SS wk g wk.heap.size (.slice (some ⟨g, 0, none⟩) i i) hs xss by
        have h := hS.out
        rw [Nat.sub_self, List.replicate_zero, List.append_nil, ← HN.out, List.take_length] at h
        rw [← HN.out]
        exact h)
      have hge : (i : Int) ≤ (i : Int) := Int.le_refl _
      clear hS
      go_wp2
      go_ret
      exact ⟨_, hs, rfl, HS.out.mono (by have := HG.out; omega) (Nat.le_refl _), hbr.mono (by have := HG.out; omega)⟩

end Go.Proofs.Ytfcbaegkppkfkaa
