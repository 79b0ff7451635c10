import Derived.Test.YtpclomokljgphaaR9
namespace Go.Proofs.Ytpclomokljgphaa
open Go Go.RowKit Go.Pan Go.Shelf

attribute [local go_sem] Oper.semAt_some

theorem run_loadVar_one (w : World) (t : TypeId) (g : Nat) (v : Value) (ha : (isAgg t).run Try.prog w = .ok false w) (hc : w.cell? ⟨g, 0, none⟩ = some v) : (loadVar t ⟨g, 0, none⟩).run Try.prog w = .ok v w := by
  simp [loadVar, ha, go_sem, hc]
theorem results_cells2 {fn : Func} {p u : Tmp} {tp tu : TypeId} (h : fn.results = #[.cell p tp, .cell u tu]) (tmps : Array Value) (w : World) (g k : Nat) (a b : Value)
    (hp : tmps.getD p undef = .pointer (some ⟨g, 0, none⟩)) (hu : tmps.getD u undef = .pointer (some ⟨k, 0, none⟩)) (h1 : (isAgg tp).run Try.prog w = .ok false w) (h2 : (isAgg tu).run Try.prog w = .ok false w)
    (hg : w.cell? ⟨g, 0, none⟩ = some a) (hk : w.cell? ⟨k, 0, none⟩ = some b) : (results fn tmps).run Try.prog w = .ok (.tuple #[a, b]) w := by
  have hp' : tmps[p]?.getD undef = .pointer (some ⟨g, 0, none⟩) := by simpa using hp
  have hu' : tmps[u]?.getD undef = .pointer (some ⟨k, 0, none⟩) := by simpa using hu
  simp [results, h, hp', hu', asAddr, run_loadVar_one w tp g a h1 hg, run_loadVar_one w tu k b h2 hk]
theorem agg_sl (w : World) : (isAgg 22).run Try.prog w = .ok false w := by
  simp [isAgg, go_sem]
theorem agg_bool (w : World) : (isAgg 4).run Try.prog w = .ok false w := by
  simp [isAgg, go_sem]

theorem callsIn_round {l n : Nat} {P : Program} {f : FuncId} {args : Array Value} {w : World} {R : Ending → World → Prop} (h : Calls P f args w R) : CallsIn (Fence.wide.inRound l) n P f args w R := (callsIn_wide (n := n)).2 h

theorem growL_len (may : Int → Int → Bool) (n : Nat) : ∀ (f : Nat) (bs q : List Int), q ∈ growL may n f bs → q.length = bs.length + f
  | 0, bs, q, h => by simp [growL] at h; rw [h]; rfl
  | f + 1, bs, q, h => by
    rw [growL, List.mem_flatMap] at h
    obtain ⟨x, _, hx⟩ := h
    have := growL_len may n f _ q hx
    simp at this
    omega
theorem towL_mem {L : List (List Int)} {x : TwU} {pre r : List TwU} (h : towL L = pre ++ x :: r) (h9 : ∀ q ∈ L, q.length ≤ 9) : x.1 ∈ L := by
  have hx : x ∈ towL L := by rw [h]; simp
  unfold towL at hx
  obtain ⟨q, hq, rfl⟩ := List.mem_map.1 hx
  rw [mkU_val (h9 q hq)]
  exact hq
theorem towL_head {L : List (List Int)} {x : TwU} {r : List TwU} (h : towL L = x :: r) (h9 : ∀ q ∈ L, q.length ≤ 9) : L.headD [] = x.1 ∧ L.length ≠ 0 := by
  cases L with
  | nil => simp [towL] at h
  | cons q t =>
    simp only [towL, List.map_cons, List.cons.injEq] at h
    refine ⟨?_, by simp⟩
    rw [← h.1, mkU_val (h9 q (List.mem_cons_self ..))]
    rfl

theorem len_mFirstNoPair (n : Int) : (mFirstNoPair n).length ≤ 1048576 := by
  unfold mFirstNoPair
  split
  · rename_i hi
    have hb := inB_iff.1 hi
    unfold noPairs
    rw [← growL_no]
    cases h : growL noPairB n.toNat n.toNat [] with
    | nil => simp
    | cons q t =>
      have := growL_len noPairB n.toNat n.toNat [] q (by rw [h]; simp)
      simp at this
      simp
      omega
  · simp

set_option maxHeartbeats 800000 in
theorem sFirstNoPair_any (n : Int) (w : World) :
    Calls Try.prog 61 #[.int .i64 n] w fun e w' => ∃ r, e = .returned (.tuple #[r, .bool (okFirst n)]) ∧ OwnI w' r (mFirstNoPair n) ∧ From w.heap.size r ∧ Below w.heap.size w w' := by
  have c := l1In_any n 1 9 w
  cases hi : inB n 1 9 with
  | true =>
    obtain ⟨m, hm⟩ : ∃ m : Nat, n = (m : Int) := ⟨n.toNat, by have := inB_iff.1 hi; omega⟩
    subst hm
    have hb := inB_iff.1 hi
    have HM := Lib.hid (show mFirstNoPair (m : Int) = (lookL m m []).headD [] by unfold mFirstNoPair noPairs; rw [if_pos hi]; rfl)
    have HK := Lib.hid (show okFirst (m : Int) = decide ((lookL m m []).length ≠ 0) by unfold okFirst noPairs; rw [hi, Bool.true_and]; rfl)
    have HB := Lib.hid hb
    rw [hi] at c
    clear hi hb
    by_cases h0 : (lookL m m []).length = 0
    · have HK0 := Lib.hid (show okFirst (m : Int) = false by rw [HK.out, h0]; rfl)
      have HM0 := Lib.hid (show mFirstNoPair (m : Int) = [] by rw [HM.out, List.eq_nil_of_length_eq_zero h0]; rfl)
      have hq : (((lookL m m []).length : Int) == 0) = true := by rw [h0]; rfl
      have hq2 : decide ((lookL m m []).length = 0) = true := decide_eq_true h0
      have H0 := Lib.hid h0
      clear h0
      go_enter Try.func61, Try.ntmps61
      go_wp2_with fail
      refine c.mono ?_
      rintro e w1 ⟨rfl, rfl⟩
      clear c
      go_wp2_with fail
      refine (gaLook_any m (by have := HB.out; omega) (by have := HB.out; omega) m [] _ _ (OwnI.nil _) (by simp) (Lib.hid (fun x hx => by cases hx))).mono ?_
      rintro e w2 ⟨r, rfl, ho, hf, hb⟩
      clear ho hf
      go_wp2
      go_ret2
      exact ⟨_, by rw [HK0.out]; rfl, by rw [HM0.out]; exact OwnI.nil _, From.nil _ _ _, hb⟩
    · have HK0 := Lib.hid (show okFirst (m : Int) = true by rw [HK.out]; exact decide_eq_true h0)
      have hq : (((lookL m m []).length : Int) == 0) = false := by simp; intro h; exact h0 (by rw [h]; rfl)
      have hq2 : decide ((lookL m m []).length = 0) = false := decide_eq_false h0
      have H0 := Lib.hid h0
      clear h0
      go_enter Try.func61, Try.ntmps61
      go_wp2_with fail
      refine c.mono ?_
      rintro e w1 ⟨rfl, rfl⟩
      clear c
      go_wp2_with fail
      refine (gaLook_any m (by have := HB.out; omega) (by have := HB.out; omega) m [] _ _ (OwnI.nil _) (by simp) (Lib.hid (fun x hx => by cases hx))).mono ?_
      rintro e w2 ⟨r, rfl, ho, hf, hb⟩
      go_wp2
      go_ret2
      exact ⟨_, by rw [HK0.out]; rfl, by rw [HM.out]; exact ho, hf, hb⟩
  | false =>
    have HM := Lib.hid (show mFirstNoPair n = [] from if_neg (by rw [hi]; exact Bool.false_ne_true))
    have HK := Lib.hid (show okFirst n = false by unfold okFirst; rw [hi]; rfl)
    rw [hi] at c
    clear hi
    go_enter Try.func61, Try.ntmps61
    go_wp2_with fail
    refine c.mono ?_
    rintro e w1 ⟨rfl, rfl⟩
    clear c
    go_wp2
    go_ret2
    exact ⟨_, by rw [HK.out]; rfl, by rw [HM.out]; exact OwnI.nil _, From.nil _ _ _, Below.refl _ _⟩

end Go.Proofs.Ytpclomokljgphaa
