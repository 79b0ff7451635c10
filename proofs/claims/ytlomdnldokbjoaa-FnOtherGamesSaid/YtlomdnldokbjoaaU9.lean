import Derived.Test.YtlomdnldokbjoaaU4
import Derived.Test.YtlomdnldokbjoaaKl
import Derived.Deep.LoopGhost
namespace Go.Proofs.Ytlomdnldokbjoaa
open Go Go.RowKit Go.Pan

theorem key_good {q : List Int} (h : Pan.Good q) : keyOf Try.prog 74 (tw q) = some (kl q) := by
  refine key9 (q ++ List.replicate (9 - q.length) 0) (by have := h.2.1; simp; omega) fun x hx => ?_
  rcases List.mem_append.1 hx with hx | hx
  · have := h.digits x hx
    exact small_wf (by omega) (by omega)
  · rw [List.mem_replicate] at hx
    rw [hx.2]
    exact small_wf (by omega) (by omega)
theorem kl_good_inj {q p : List Int} (hq : Pan.Good q) (hp : Pan.Good p) (hl : q.length = p.length) (h : kl q = kl p) : q = p := by
  have e := klaw.inj (key_good hq) (by rw [h]; exact key_good hp)
  simp only [tw, twl, Value.agg.injEq, Array.mk.injEq] at e
  have h2 := List.map_inj_right (f := iv) (fun a b e => by simpa [iv] using e) |>.1 e
  exact (twl_inj hl).1 h2

/-- the map has just the stacks of V, each with its number -/
def Seen (n : Nat) (D : DD) (V : List (List Int)) : Prop :=
  (∀ q, Pan.Good q → q.length = n → Maps.has D (kl q) = decide (q ∈ V)) ∧ ∀ (i : Nat) (q : List Int), V[i]? = some q → ∀ z, D.atKey (kl q) z = .lit (.int .i64 (i : Int))
theorem Seen.empty (n : Nat) : Seen n (.map []) [] := ⟨fun q _ _ => by simp [Maps.has_eq], fun i q h => by simp at h⟩
theorem Seen.put {n : Nat} {D : DD} {V : List (List Int)} (h : Seen n D V) (hD : Maps.IsMap D) (hV : ∀ q ∈ V, Pan.Good q ∧ q.length = n) {q : List Int} (hq : Pan.Good q) (hl : q.length = n) (hn : q ∉ V) :
    Seen n (D.put (kl q) (.lit (.int .i64 (V.length : Int)))) (V ++ [q]) := by
  refine ⟨fun p hp hpl => ?_, fun i p hp z => ?_⟩
  · by_cases e : p = q
    · subst e; rw [Maps.has_put_same hD (kl_key _)]; simp
    · rw [Maps.has_put_other (fun e' => e (kl_good_inj hp hq (by omega) e')), h.1 p hp hpl]
      simp [e]
  · by_cases hi : i < V.length
    · rw [List.getElem?_append_left hi] at hp
      have hm := List.mem_of_getElem? hp
      have hne : p ≠ q := fun e => hn (e ▸ hm)
      have hg := hV p hm
      rw [Maps.atKey_put_other (fun e' => hne (kl_good_inj hg.1 hq (by omega) e'))]
      exact h.2 i p hp z
    · rw [List.getElem?_append_right (by omega)] at hp
      have h0 : i - V.length < 1 := (List.getElem?_eq_some_iff.1 hp).1
      have h1 : i = V.length := by omega
      subst h1
      simp at hp
      subst hp
      rw [Maps.atKey_put_same hD (kl_key _)]

set_option maxHeartbeats 4000000 in
set_option maxRecDepth 100000 in
theorem againB_any (st : List Int → List Int) (n : Nat) (xs : List Int) (p1 : Value) (w : World) (hxs : Hid (∀ m, Pan.Good (iterL st m xs) ∧ (iterL st m xs).length = n))
    (hF : Hid (∀ (q : List Int) (u : World), Pan.Good q → q.length = n → Below w.heap.size w u → Calls Try.prog 176 #[tw q, p1] u fun e w' => e = .returned (tw (st q)) ∧ Below u.heap.size u w')) :
    Calls Try.prog 173 #[tw xs, .func (Fn.func 176) #[] #[p1]] w fun e w' => e = .returned (.tuple #[.int .i64 (againI st xs : Nat), .int .i64 (againP st xs : Nat)]) ∧ Below w.heap.size w w' := by
  have hmm := @run_makeMap Try.prog
  have HV := Lib.hid (again_val hxs.out)
  have h9x : xs.length ≤ 9 := (hxs.out 0).1.2.1
  have hbx0 : Blk ((w.alloc (.cells (twl xs).toArray 74)).alloc (.map #[] 0)) w.heap.size 74 (twl (iterL st 0 xs)) := (Blk.new w _ (twl xs) _ rfl).alloc _
  have hmk : ((w.alloc (.cells (twl xs).toArray 74)).alloc (.map #[] 0)).ownsMap Try.prog 74 (plainElem (H := Unit) Try.prog 3) (w.heap.size + 1) 0 (.map []) := by
    have := World.ownsMap_made (w.alloc (.cells (twl xs).toArray 74)) Try.prog 74 (plainElem (H := Unit) Try.prog 3)
    simpa using this
  have hB0 : Below w.heap.size w ((w.alloc (.cells (twl xs).toArray 74)).alloc (.map #[] 0)) := (below_new w _).alloc (by simp) _
  have HM0 := Lib.hid hmk
  clear hmk
  go_enter Try.func173, Try.ntmps173
  go_wp2
  go_loopg [7] 1000000002 (fun gk i wr => ∃ (m : Nat) (D : DD), i = .int .i64 m ∧ m + gk = 1000000002 ∧ Hid ((orbL st xs m).Nodup) ∧ Hid (Seen n D (orbL st xs m)) ∧ Blk wr w.heap.size 74 (twl (iterL st m xs)) ∧ Hid (wr.ownsMap Try.prog 74 (plainElem (H := Unit) Try.prog 3) (w.heap.size + 1) m D) ∧ Below w.heap.size w wr)
  case atStart => exact ⟨0, .map [], rfl, by omega, Lib.hid (by simp [orbL]), Lib.hid (by have := Seen.empty n; simpa [orbL] using this), hbx0, HM0, hB0⟩
  case round =>
    obtain ⟨m, D, rfl, hmg, hnd, hS, hbT, hown, hbr⟩ := hrel
    clear hbx0 HM0 hB0 h9x
    have HMG := Lib.hid hmg
    have hfew := orb_few hxs.out hnd.out
    have hq := hxs.out m
    have hst := hxs.out (m + 1)
    obtain ⟨q, hqe⟩ : ∃ q, iterL st m xs = q := ⟨_, rfl⟩
    have HQE := Lib.hid hqe
    have HNX := Lib.hid (show iterL st (m + 1) xs = st q by rw [← hqe]; rfl)
    rw [HNX.out] at hst
    rw [hqe] at hq hbT
    have HQ := Lib.hid hq
    have hkey := key_good hq.1
    have h9 : q.length ≤ 9 := hq.1.2.1
    have h9s : (st q).length ≤ 9 := hst.1.2.1
    have hhas := hS.out.1 q hq.1 hq.2
    have hzI := zeroI wr
    by_cases hin : q ∈ orbL st xs m
    · rw [decide_eq_true hin] at hhas
      obtain ⟨i, hi, e⟩ := mem_orbL.1 hin
      have hat := hS.out.2 i q (by rw [orbL_get hi, e]) (.lit (.int .i64 0))
      have hA : Again st xs i (m - i) := ⟨by omega, by rw [show i + (m - i) = m by omega]; exact hnd.out, by rw [show i + (m - i) = m by omega, hqe, e]⟩
      have hu := HV.out.uniq hA
      have HI := Lib.hid hu.1
      have HP := Lib.hid hu.2
      have HAT := Lib.hid hat
      clear hqe hq hmg hin e hat hA hu hst h9s
      go_wp2_with (first | (refine wpList_load_tower rfl _ rfl w.heap.size q h9 rfl hbT ?_) | (at_lookup; refine wpList_lookup_own_ok_int _ rfl _ _ 116 rfl 74 3 .i64 keyd Try.underlying116 Try.underlying3 hzI (w.heap.size + 1) m D rfl hown.out _ (kl q) rfl hkey ?_; intro c0 hat0 _; have hc0 : c0 = (i : Int) := (by have h1 := HAT.out.symm.trans hat0; simpa using h1.symm); clear hat0))
      go_ret2
      exact ⟨by rw [HI.out, HP.out, show ((m - i : Nat) : Int) = (m : Int) - (i : Int) by omega]; rfl, hbr⟩
    · rw [decide_eq_false hin] at hhas
      have HN1 := Lib.hid (show (orbL st xs (m + 1)).Nodup by
        rw [orbL_succ, List.nodup_append]
        exact ⟨hnd.out, by simp, fun a ha b hb e => by rw [List.mem_singleton] at hb; subst hb e; rw [hqe] at ha; exact hin ha⟩)
      have HS1 := Lib.hid (show Seen n (D.put (kl q) (.lit (.int .i64 (m : Int)))) (orbL st xs (m + 1)) by
        have h1 := hS.out.put hown.out.isMap (fun p hp => by obtain ⟨j, _, rfl⟩ := mem_orbL.1 hp; exact hxs.out j) hq.1 hq.2 hin
        rw [orbL_length] at h1
        rw [orbL_succ, hqe]
        exact h1)
      have hm64 : (Lit.int .i64 (m : Int)).wf = true := small_wf (by omega) (by omega)
      have HW := Lib.hid hm64
      have hlT := hbT.lt
      clear hqe hq hmg hin hst hm64
      go_wp2_with (first | (refine wpList_load_tower rfl _ rfl w.heap.size q h9 rfl (by assumption) ?_) | (at_lookup; refine wpList_lookup_own_ok_int _ rfl _ _ 116 rfl 74 3 .i64 keyd Try.underlying116 Try.underlying3 hzI (w.heap.size + 1) m D rfl hown.out _ (kl q) rfl hkey ?_; intro c0 hat0 _; clear hat0) | (at_mapUpdate; refine wpList_mapUpdate_own _ rfl _ _ _ 116 rfl 74 3 keyd Try.underlying116 _ (w.heap.size + 1) m D rfl hown.out (by unfold maxLen; omega) _ _ (kl q) rfl rfl hkey (.lit (.int .i64 (m : Int))) [] (plainElem_int Try.underlying3 HW.out) ?_; intro w3 hown3 hgr3; have hbT3 := hbT.grown hgr3 (by intro h; have := Option.some.inj h; omega); clear hbT))
      have hb3 := hbr.grown hgr3 hbr.size (by intro k hk; cases hk; omega)
      have HO3 := Lib.hid hown3
      have hm3 := hown3.lt
      clear hown3 hgr3 hown
      refine (hF.out q w3 HQ.out.1 HQ.out.2 hb3).mono ?_
      rintro e w4 ⟨rfl, hb4⟩
      have hbT4 := hbT3.below hb4 hbT3.lt
      have HO4 := Lib.hid (HO3.out.kept (grown_of_below hb4 none) (by intro h; cases h))
      have hB4 := hb3.trans (hb4.mono hb3.size)
      clear hbT3 hb4 hb3
      go_wp2_with (first | (refine wpList_store_tower rfl _ _ rfl w.heap.size q (st q) h9 h9s rfl rfl hbT4 ?_; intro w5 hbT5 hgr5))
      have hB5 := hB4.grown hgr5 hB4.size (by intro k hk; cases hk; exact Nat.le_refl _)
      have HO5 := Lib.hid (HO4.out.kept hgr5 (by intro h; have := Option.some.inj h; omega))
      clear hgr5 hbT4 hB4
      go_wp2
      go_roundg (gk - 1)
      case measure => have := HMG.out; omega
      case rel => exact ⟨m + 1, _, by go_num, by have := HMG.out; omega, HN1, HS1, by rw [HNX.out]; exact hbT5, HO5, hB5⟩

set_option maxHeartbeats 4000000 in
set_option maxRecDepth 100000 in
theorem againC_any (st : List Int → List Int) (n : Nat) (xs : List Int) (p1 p2 : Value) (w : World) (hxs : Hid (∀ m, Pan.Good (iterL st m xs) ∧ (iterL st m xs).length = n))
    (hF : Hid (∀ (q : List Int) (u : World), Pan.Good q → q.length = n → Below w.heap.size w u → Calls Try.prog 174 #[tw q, p1, p2] u fun e w' => e = .returned (tw (st q)) ∧ Below u.heap.size u w')) :
    Calls Try.prog 173 #[tw xs, .func (Fn.func 174) #[] #[p1, p2]] w fun e w' => e = .returned (.tuple #[.int .i64 (againI st xs : Nat), .int .i64 (againP st xs : Nat)]) ∧ Below w.heap.size w w' := by
  have hmm := @run_makeMap Try.prog
  have HV := Lib.hid (again_val hxs.out)
  have h9x : xs.length ≤ 9 := (hxs.out 0).1.2.1
  have hbx0 : Blk ((w.alloc (.cells (twl xs).toArray 74)).alloc (.map #[] 0)) w.heap.size 74 (twl (iterL st 0 xs)) := (Blk.new w _ (twl xs) _ rfl).alloc _
  have hmk : ((w.alloc (.cells (twl xs).toArray 74)).alloc (.map #[] 0)).ownsMap Try.prog 74 (plainElem (H := Unit) Try.prog 3) (w.heap.size + 1) 0 (.map []) := by
    have := World.ownsMap_made (w.alloc (.cells (twl xs).toArray 74)) Try.prog 74 (plainElem (H := Unit) Try.prog 3)
    simpa using this
  have hB0 : Below w.heap.size w ((w.alloc (.cells (twl xs).toArray 74)).alloc (.map #[] 0)) := (below_new w _).alloc (by simp) _
  have HM0 := Lib.hid hmk
  clear hmk
  go_enter Try.func173, Try.ntmps173
  go_wp2
  go_loopg [7] 1000000002 (fun gk i wr => ∃ (m : Nat) (D : DD), i = .int .i64 m ∧ m + gk = 1000000002 ∧ Hid ((orbL st xs m).Nodup) ∧ Hid (Seen n D (orbL st xs m)) ∧ Blk wr w.heap.size 74 (twl (iterL st m xs)) ∧ Hid (wr.ownsMap Try.prog 74 (plainElem (H := Unit) Try.prog 3) (w.heap.size + 1) m D) ∧ Below w.heap.size w wr)
  case atStart => exact ⟨0, .map [], rfl, by omega, Lib.hid (by simp [orbL]), Lib.hid (by have := Seen.empty n; simpa [orbL] using this), hbx0, HM0, hB0⟩
  case round =>
    obtain ⟨m, D, rfl, hmg, hnd, hS, hbT, hown, hbr⟩ := hrel
    clear hbx0 HM0 hB0 h9x
    have HMG := Lib.hid hmg
    have hfew := orb_few hxs.out hnd.out
    have hq := hxs.out m
    have hst := hxs.out (m + 1)
    obtain ⟨q, hqe⟩ : ∃ q, iterL st m xs = q := ⟨_, rfl⟩
    have HQE := Lib.hid hqe
    have HNX := Lib.hid (show iterL st (m + 1) xs = st q by rw [← hqe]; rfl)
    rw [HNX.out] at hst
    rw [hqe] at hq hbT
    have HQ := Lib.hid hq
    have hkey := key_good hq.1
    have h9 : q.length ≤ 9 := hq.1.2.1
    have h9s : (st q).length ≤ 9 := hst.1.2.1
    have hhas := hS.out.1 q hq.1 hq.2
    have hzI := zeroI wr
    by_cases hin : q ∈ orbL st xs m
    · rw [decide_eq_true hin] at hhas
      obtain ⟨i, hi, e⟩ := mem_orbL.1 hin
      have hat := hS.out.2 i q (by rw [orbL_get hi, e]) (.lit (.int .i64 0))
      have hA : Again st xs i (m - i) := ⟨by omega, by rw [show i + (m - i) = m by omega]; exact hnd.out, by rw [show i + (m - i) = m by omega, hqe, e]⟩
      have hu := HV.out.uniq hA
      have HI := Lib.hid hu.1
      have HP := Lib.hid hu.2
      have HAT := Lib.hid hat
      clear hqe hq hmg hin e hat hA hu hst h9s
      go_wp2_with (first | (refine wpList_load_tower rfl _ rfl w.heap.size q h9 rfl hbT ?_) | (at_lookup; refine wpList_lookup_own_ok_int _ rfl _ _ 116 rfl 74 3 .i64 keyd Try.underlying116 Try.underlying3 hzI (w.heap.size + 1) m D rfl hown.out _ (kl q) rfl hkey ?_; intro c0 hat0 _; have hc0 : c0 = (i : Int) := (by have h1 := HAT.out.symm.trans hat0; simpa using h1.symm); clear hat0))
      go_ret2
      exact ⟨by rw [HI.out, HP.out, show ((m - i : Nat) : Int) = (m : Int) - (i : Int) by omega]; rfl, hbr⟩
    · rw [decide_eq_false hin] at hhas
      have HN1 := Lib.hid (show (orbL st xs (m + 1)).Nodup by
        rw [orbL_succ, List.nodup_append]
        exact ⟨hnd.out, by simp, fun a ha b hb e => by rw [List.mem_singleton] at hb; subst hb e; rw [hqe] at ha; exact hin ha⟩)
      have HS1 := Lib.hid (show Seen n (D.put (kl q) (.lit (.int .i64 (m : Int)))) (orbL st xs (m + 1)) by
        have h1 := hS.out.put hown.out.isMap (fun p hp => by obtain ⟨j, _, rfl⟩ := mem_orbL.1 hp; exact hxs.out j) hq.1 hq.2 hin
        rw [orbL_length] at h1
        rw [orbL_succ, hqe]
        exact h1)
      have hm64 : (Lit.int .i64 (m : Int)).wf = true := small_wf (by omega) (by omega)
      have HW := Lib.hid hm64
      have hlT := hbT.lt
      clear hqe hq hmg hin hst hm64
      go_wp2_with (first | (refine wpList_load_tower rfl _ rfl w.heap.size q h9 rfl (by assumption) ?_) | (at_lookup; refine wpList_lookup_own_ok_int _ rfl _ _ 116 rfl 74 3 .i64 keyd Try.underlying116 Try.underlying3 hzI (w.heap.size + 1) m D rfl hown.out _ (kl q) rfl hkey ?_; intro c0 hat0 _; clear hat0) | (at_mapUpdate; refine wpList_mapUpdate_own _ rfl _ _ _ 116 rfl 74 3 keyd Try.underlying116 _ (w.heap.size + 1) m D rfl hown.out (by unfold maxLen; omega) _ _ (kl q) rfl rfl hkey (.lit (.int .i64 (m : Int))) [] (plainElem_int Try.underlying3 HW.out) ?_; intro w3 hown3 hgr3; have hbT3 := hbT.grown hgr3 (by intro h; have := Option.some.inj h; omega); clear hbT))
      have hb3 := hbr.grown hgr3 hbr.size (by intro k hk; cases hk; omega)
      have HO3 := Lib.hid hown3
      have hm3 := hown3.lt
      clear hown3 hgr3 hown
      refine (hF.out q w3 HQ.out.1 HQ.out.2 hb3).mono ?_
      rintro e w4 ⟨rfl, hb4⟩
      have hbT4 := hbT3.below hb4 hbT3.lt
      have HO4 := Lib.hid (HO3.out.kept (grown_of_below hb4 none) (by intro h; cases h))
      have hB4 := hb3.trans (hb4.mono hb3.size)
      clear hbT3 hb4 hb3
      go_wp2_with (first | (refine wpList_store_tower rfl _ _ rfl w.heap.size q (st q) h9 h9s rfl rfl hbT4 ?_; intro w5 hbT5 hgr5))
      have hB5 := hB4.grown hgr5 hB4.size (by intro k hk; cases hk; exact Nat.le_refl _)
      have HO5 := Lib.hid (HO4.out.kept hgr5 (by intro h; have := Option.some.inj h; omega))
      clear hgr5 hbT4 hB4
      go_wp2
      go_roundg (gk - 1)
      case measure => have := HMG.out; omega
      case rel => exact ⟨m + 1, _, by go_num, by have := HMG.out; omega, HN1, HS1, by rw [HNX.out]; exact hbT5, HO5, hB5⟩

end Go.Proofs.Ytlomdnldokbjoaa

