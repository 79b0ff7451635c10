import Derived.Test.YtdlnniciccpchaaS3
import Derived.Test.YtdlnniciccpchaaH
import Derived.OpenShut
import Derived.Deep.QuietTactic
import Derived.BigQuiet
import Derived.BigCall
import Derived.Laws.BitsAllLaws
namespace Go.Proofs.Ytdlnniciccpchaa
open Go Go.RowKit Go.Pan

theorem cell_grownYW {w w' : World} {g o : Nat} {row : Option Nat} (hg : w.grownBy w' row) (hl : g < w.heap.size) (hne : row ≠ some g) : w'.cell? ⟨g, o, none⟩ = w.cell? ⟨g, o, none⟩ := by
  have e : w'.heap[g]? = w.heap[g]? := hg.block g hl (fun e => hne e.symm)
  simp [World.cell?, e]

theorem run_fromIW (n cap k : Nat) (ad : Option Addr) (hk : k ≤ n) (W : World) : (Instr.sliceAt 24 (.slice ad n cap) (some (.int .i64 (k : Int))) none none).run Try.prog W = .ok (.slice (if cap = k then ad else ad.map (·.add (k * 1))) (n - k) (cap - k)) W := by
  obtain ⟨i, hi, hz, hs1, hb8⟩ := info_parts Try.info3
  have he : Try.prog.elem 24 = 3 := by simp [Program.elem, Try.underlying24]
  rw [run_sliceAt_slice W 24 _ _ _ _ (by rw [he]; exact Try.underlying24), run_slice_l W 24 ad n cap (by rw [he]; exact Try.underlying24) .i64 k (by omega) (by omega)]
  simp [sizeOf, typeInfo, he, hi, hs1, sliced, Result.andThen]

theorem run_toIW (n cap k : Nat) (ad : Option Addr) (hk : k ≤ cap) (W : World) : (Instr.sliceAt 24 (.slice ad n cap) none (some (.int .i64 (k : Int))) none).run Try.prog W = .ok (.slice ad k cap) W := by
  obtain ⟨i, hi, hz, hs1, hb8⟩ := info_parts Try.info3
  have he : Try.prog.elem 24 = 3 := by simp [Program.elem, Try.underlying24]
  rw [run_sliceAt_slice W 24 _ _ _ _ (by rw [he]; exact Try.underlying24), run_slice_h W 24 ad n cap (by rw [he]; exact Try.underlying24) .i64 k (by omega) (by omega)]
  simp [sizeOf, typeInfo, he, hi, hs1, sliced, Result.andThen]
  intro _
  cases ad <;> simp [Addr.add]

/-- 's[k:]' as a value -/
def fromVW (ad : Option Addr) (n cap k : Nat) : Value := .slice (if cap = k then ad else ad.map (·.add (k * 1))) (n - k) (cap - k)

theorem fromV_ownW {w : World} {ad : Option Addr} {cap k : Nat} {q : List Int} (h : OwnI w (.slice ad q.length cap) q) (hk : k ≤ q.length) : OwnI w (fromVW ad q.length cap k) (q.drop k) := by
  have := Own.drop h hk
  unfold OwnI fromVW
  rw [List.length_drop, List.map_drop]
  exact this

theorem own_drewN {w : World} {sz n : Nat} {v : Value} {cs : List Value} (h : Go.Pan.Own w sz v n cs) (k : Nat) : Go.Pan.Own (w.drewN k) sz v n cs := h.kept fun _ _ => rfl
theorem gtrans {a b c : World} {row : Option Nat} (h : a.grownBy b row) (k : b.grownBy c row) : a.grownBy c row :=
  ⟨k.os.trans h.os, k.tape.trans h.tape, k.output.trans h.output, Nat.le_trans h.size k.size, fun i hi hn => by rw [k.block i (Nat.lt_of_lt_of_le hi h.size) hn, h.block i hi hn]⟩
/-- a slice of n bytes that can be read, in a block below g -/
def Byts (w : World) (v : Value) (n : Nat) (g : Nat) : Prop :=
  ∃ ad cap, v = .slice ad n cap ∧ (0 < n → ∃ b off, ad = some ⟨b, off, none⟩ ∧ b < g ∧ b < w.heap.size ∧ ∀ i, i < n → ∃ x : Nat, x ≤ 255 ∧ w.cell? ⟨b, off + i, none⟩ = some (.int .u8 x))
theorem Byts.grown {w w' : World} {v : Value} {n g : Nat} (h : Byts w v n g) (hg : w.grownBy w' (some g)) : Byts w' v n g := by
  obtain ⟨ad, cap, rfl, h⟩ := h
  refine ⟨ad, cap, rfl, fun hn => ?_⟩
  obtain ⟨b, off, rfl, hb, hs, hc⟩ := h hn
  refine ⟨b, off, rfl, hb, Nat.lt_of_lt_of_le hs hg.size, fun i hi => ?_⟩
  have e : w'.heap[b]? = w.heap[b]? := hg.block b hs (by simp; omega)
  obtain ⟨x, h1, h2⟩ := hc i hi
  refine ⟨x, h1, ?_⟩
  rw [← h2]
  simp [World.cell?, e]
/-- a cursor in block g that was asked for at most k bytes -/
def Cu (w : World) (g k : Nat) : Prop :=
  ∃ (v : Value) (n at' : Nat) (seed : Int), Blk w g 78 [v, .int .i64 at', .int .u64 seed] ∧ Byts w v n g ∧ at' ≤ k ∧ n ≤ maxLen ∧ 0 ≤ seed ∧ seed < 18446744073709551616
theorem Cu.mono {w : World} {g k k' : Nat} (h : Cu w g k) (hk : k ≤ k') : Cu w g k' := by
  obtain ⟨v, n, a, s, h1, h2, h3, h4⟩ := h
  exact ⟨v, n, a, s, h1, h2, by omega, h4⟩
theorem Cu.lt {w : World} {g k : Nat} (h : Cu w g k) : g < w.heap.size := by
  obtain ⟨v, n, a, s, h1, _⟩ := h
  exact h1.lt
theorem Cu.grown {w w' : World} {g k : Nat} {row : Option Nat} (h : Cu w g k) (hg : w.grownBy w' row) (hne : row ≠ some g) (hlt : ∀ r, row = some r → g ≤ r) : Cu w' g k := by
  obtain ⟨v, n, a, s, h1, h2, h3, h4⟩ := h
  refine ⟨v, n, a, s, h1.grown hg hne, ?_, h3, h4⟩
  obtain ⟨ad, cap, rfl, h⟩ := h2
  refine ⟨ad, cap, rfl, fun hn => ?_⟩
  obtain ⟨b, off, rfl, hb, hs, hc⟩ := h hn
  refine ⟨b, off, rfl, hb, Nat.lt_of_lt_of_le hs hg.size, fun i hi => ?_⟩
  have e : w'.heap[b]? = w.heap[b]? := hg.block b hs (fun e => by have := hlt b e.symm; omega)
  obtain ⟨x, h1, h2⟩ := hc i hi
  refine ⟨x, h1, ?_⟩
  rw [← h2]
  simp [World.cell?, e]

theorem Cu.drewN {w : World} {g k : Nat} (h : Cu w g k) (n : Nat) : Cu (w.drewN n) g k := h

set_option maxHeartbeats 1000000 in
theorem curNext_any (g k : Nat) (w : World) (h : Cu w g k) (hk : k ≤ 1099511627776) :
    Calls Try.prog 83 #[.pointer (some ⟨g, 0, none⟩)] w fun e w' => ∃ x : Nat, e = .returned (.int .i64 x) ∧ x ≤ 255 ∧ Cu w' g (k + 1) ∧ w.grownBy w' (some g) := by
  obtain ⟨v, n, at', seed, hb, hby, hat, hn, hs0, hs1⟩ := h
  obtain ⟨ad, cap, rfl, hby'⟩ := id hby
  have hc0 : w.cell? ⟨g, 0, none⟩ = some (.slice ad n cap) := hb.cell 0
  have hc1 : w.cell? ⟨g, 1, none⟩ = some (.int .i64 at') := hb.cell 1
  have hc2 : w.cell? ⟨g, 2, none⟩ = some (.int .u64 seed) := hb.cell 2
  have hf1 : w.frozen? ⟨g, 1, none⟩ = false := hb.frozen 1
  have hf2 : w.frozen? ⟨g, 2, none⟩ = false := hb.frozen 2
  by_cases hlt : at' < n
  · obtain ⟨b, off, rfl, hbg, hbs, hcell⟩ := hby' (by omega)
    obtain ⟨x, hx, hcx⟩ := hcell at' hlt
    clear hcell hby'
    go_enter Try.func83, Try.ntmps83
    have hltI : (at' : Int) < (n : Int) := by omega
    go_wp2
    go_quiet (fail)
    go_wp2
    go_quiet (fail)
    rename_i nq1
    go_wp2
    obtain ⟨s', hs'⟩ : ∃ s', (IntKind.u64.wrap (IntKind.u64.wrap (IntKind.u64.wrap (seed * 6364136223846793005) + ↑x) + 1442695040888963407)) = s' := ⟨_, rfl⟩
    have hs2 : 0 ≤ s' ∧ s' < 18446744073709551616 := by rw [← hs', IntKind.wrap_u64]; omega
    rw [hs']
    have hw9 := ((hb.drewN (nq1 + nq)).set 1 (.int .i64 ((at' : Int) + 1))).set 2 (.int .u64 s')
    have hg9 : w.grownBy (((w.drewN (nq1 + nq)).setCell ⟨g, 1, none⟩ (.int .i64 ((at' : Int) + 1))).setCell ⟨g, 2, none⟩ (.int .u64 s')) (some g) := ⟨rfl, rfl, rfl, by simp, fun i hi hne => by rw [heap_setCell_other, heap_setCell_other] <;> first | rfl | (simp at hne ⊢; omega)⟩
    obtain ⟨w9, e9⟩ : ∃ w9, (((w.drewN (nq1 + nq)).setCell ⟨g, 1, none⟩ (.int .i64 ((at' : Int) + 1))).setCell ⟨g, 2, none⟩ (.int .u64 s')) = w9 := ⟨_, rfl⟩
    rw [e9] at hw9 hg9 ⊢
    have hcu : Cu w9 g (k + 1) := ⟨_, n, at' + 1, s', by simpa using hw9, hby.grown hg9, by omega, hn, hs2.1, hs2.2⟩
    have d0 : w9.cell? ⟨g, 0, none⟩ = some (.slice (some ⟨b, off, none⟩) n cap) := hw9.cell 0
    have d1 : w9.cell? ⟨g, 1, none⟩ = some (.int .i64 ((at' : Int) + 1)) := hw9.cell 1
    have hle : ((at' : Int) + 1) ≤ (n : Int) := by omega
    clear hb hby hw9 hc0 hc1 hc2 hf1 hf2 hcx e9
    go_quiet (fail)
    go_wp2
    go_ret
    exact ⟨x, rfl, hx, hcu.drewN _, hg9.drewN _⟩
  · have hltI : ¬ (at' : Int) < (n : Int) := by omega
    have HF := Lib.hid hltI
    have hd : decide ((at' : Int) < (n : Int)) = false := by simpa using hltI
    clear hby'
    go_enter Try.func83, Try.ntmps83
    go_wp2
    go_quiet (fail)
    go_wp2
    obtain ⟨s', hs'⟩ : ∃ s', (IntKind.u64.wrap (IntKind.u64.wrap (IntKind.u64.wrap (seed * 6364136223846793005)) + 1442695040888963407)) = s' := ⟨_, rfl⟩
    have hs2 : 0 ≤ s' ∧ s' < 18446744073709551616 := by rw [← hs', IntKind.wrap_u64]; omega
    rw [hs']
    have hw9 := ((hb.drewN nq).set 1 (.int .i64 ((at' : Int) + 1))).set 2 (.int .u64 s')
    have hg9 : w.grownBy (((w.drewN nq).setCell ⟨g, 1, none⟩ (.int .i64 ((at' : Int) + 1))).setCell ⟨g, 2, none⟩ (.int .u64 s')) (some g) := ⟨rfl, rfl, rfl, by simp, fun i hi hne => by rw [heap_setCell_other, heap_setCell_other] <;> first | rfl | (simp at hne ⊢; omega)⟩
    obtain ⟨w9, e9⟩ : ∃ w9, (((w.drewN nq).setCell ⟨g, 1, none⟩ (.int .i64 ((at' : Int) + 1))).setCell ⟨g, 2, none⟩ (.int .u64 s')) = w9 := ⟨_, rfl⟩
    rw [e9] at hw9 hg9 ⊢
    have hcu : Cu w9 g (k + 1) := ⟨_, n, at' + 1, s', by simpa using hw9, hby.grown hg9, by omega, hn, hs2.1, hs2.2⟩
    have d0 : w9.cell? ⟨g, 0, none⟩ = some (.slice ad n cap) := hw9.cell 0
    have d1 : w9.cell? ⟨g, 1, none⟩ = some (.int .i64 ((at' : Int) + 1)) := hw9.cell 1
    have d2 : w9.cell? ⟨g, 2, none⟩ = some (.int .u64 s') := hw9.cell 2
    have hd2 : decide (((at' : Int) + 1) ≤ (n : Int)) = false := by simp; omega
    clear hb hby hw9 hc0 hc1 hc2 hf1 hf2 e9 hd hltI
    go_quiet (fail)
    go_wp2
    go_ret
    have hq : 0 ≤ s' / 1099511627776 ∧ s' / 1099511627776 < 18446744073709551616 := by omega
    have hx := u64_and (s' / 1099511627776) 255 hq.1 hq.2 (by omega) (by omega)
    have hy : ((s' / 1099511627776).toNat &&& (255 : Int).toNat) ≤ 255 := Nat.and_le_right
    obtain ⟨x, e⟩ : ∃ x : Nat, ((s' / 1099511627776).toNat &&& (255 : Int).toNat) = x := ⟨_, rfl⟩
    rw [e] at hx hy
    refine ⟨x, ?_, hy, hcu.drewN _, hg9.drewN _⟩
    rw [hx, IntWalk.wrap64_in _ (by omega)]
    rfl

set_option maxHeartbeats 1000000 in
theorem curPick_any (g k : Nat) (n : Int) (w : World) (h : Cu w g k) (hk : k ≤ 1099511627775) (hn : n ≤ 1000000) :
    Calls Try.prog 64 #[.pointer (some ⟨g, 0, none⟩), .int .i64 n] w fun e w' => ∃ x : Nat, e = .returned (.int .i64 x) ∧ (x : Int) < max n 1 ∧ Cu w' g (k + 2) ∧ w.grownBy w' (some g) := by
  by_cases h1 : n ≤ 1
  · go_enter Try.func64, Try.ntmps64
    go_wp2
    go_ret
    exact ⟨0, rfl, by omega, h.mono (by omega), World.grownBy.refl _ _⟩
  · by_cases h2 : n > 200
    · go_enter Try.func64, Try.ntmps64
      go_wp2_with fail
      refine (curNext_any g k w h (by omega)).mono ?_
      rintro e w1 ⟨x, rfl, hx, h', hg⟩
      go_wp2_with fail
      refine (curNext_any g (k + 1) w1 h' (by omega)).mono ?_
      rintro e w2 ⟨y, rfl, hy, h'', hg'⟩
      go_wp2
      go_ret
      refine ⟨((x * 256 + y) % n.toNat), ?_, ?_, h'', gtrans hg hg'⟩
      · have e : (((x * 256 + y) % n.toNat : Nat) : Int) = ((x : Int) * 256 + y) % n := by
          rw [Int.natCast_emod, Int.toNat_of_nonneg (by omega)]
          simp
        rw [e]
        rfl
      · have := Nat.mod_lt (x * 256 + y) (show n.toNat > 0 by omega)
        omega
    · go_enter Try.func64, Try.ntmps64
      go_wp2_with fail
      refine (curNext_any g k w h (by omega)).mono ?_
      rintro e w1 ⟨x, rfl, hx, h', hg⟩
      go_wp2
      go_ret
      refine ⟨x % n.toNat, ?_, ?_, h'.mono (by omega), hg⟩
      · have e : ((x % n.toNat : Nat) : Int) = (x : Int) % n := by
          rw [Int.natCast_emod, Int.toNat_of_nonneg (by omega)]
        rw [e]
        rfl
      · have := Nat.mod_lt x (show n.toNat > 0 by omega)
        omega

theorem curOne_any (g k : Nat) (n : Int) (w : World) (h : Cu w g k) (hk : k ≤ 1099511627775) (hn : n ≤ 1000000) :
    Calls Try.prog 62 #[.pointer (some ⟨g, 0, none⟩), .int .i64 n] w fun e w' => ∃ b : Bool, e = .returned (.bool b) ∧ Cu w' g (k + 2) ∧ w.grownBy w' (some g) := by
  go_enter Try.func62, Try.ntmps62
  go_wp2_with fail
  refine (curPick_any g k n w h hk hn).mono ?_
  rintro e w1 ⟨x, rfl, hx, h', hg⟩
  go_wp2
  go_ret
  exact ⟨_, rfl, h', hg⟩

set_option maxHeartbeats 1000000 in
/-- an element of a list -/
theorem curAmong_any (g k : Nat) (v : Value) (xs : List Int) (w : World) (h : Cu w g k) (hv : OwnI w v xs) (hvg : v.ownBlock ≠ some g) (h0 : 0 < xs.length) (hk : k ≤ 1099511627775) (hn : xs.length ≤ 1000000) :
    Calls Try.prog 57 #[.pointer (some ⟨g, 0, none⟩), v] w fun e w' => ∃ x ∈ xs, e = .returned (.int .i64 x) ∧ Cu w' g (k + 2) ∧ w.grownBy w' (some g) := by
  obtain ⟨ad, cap, rfl, hcap, _, _⟩ := hv.shape
  obtain ⟨g', off, rfl, hgl, hcell, hfz⟩ := hv.at (by omega)
  have hne : some g ≠ some g' := fun e => hvg (by simp [Value.ownBlock] at e ⊢; exact e.symm)
  clear hvg hfz hv
  go_enter Try.func57, Try.ntmps57
  go_wp2_with fail
  refine (curPick_any g k xs.length w h hk (by omega)).mono ?_
  rintro e w1 ⟨x, rfl, hx, h', hg⟩
  have hx1 : x < xs.length := by omega
  have hxi : (x : Int) < (xs.length : Int) := by omega
  have hc1 : w1.cell? ⟨g', off + x, none⟩ = some (.int .i64 xs[x]) := by rw [cell_grownYW hg hgl hne]; rw [hcell x (by omega), List.getElem?_map, List.getElem?_eq_getElem hx1]; rfl
  clear hcell hx
  go_wp2
  go_ret
  exact ⟨xs[x], List.getElem_mem hx1, rfl, h', hg⟩

theorem gthen {a b c : World} {row row' : Option Nat} (h : a.grownBy b row) (k : b.grownBy c row') (hr : ∀ j, row' = some j → a.heap.size ≤ j ∨ row = some j) : a.grownBy c row :=
  ⟨k.os.trans h.os, k.tape.trans h.tape, k.output.trans h.output, Nat.le_trans h.size k.size, fun i hi hn => by
    have hk : some i ≠ row' := fun e => by
      rcases hr i e.symm with h1 | h1
      · omega
      · exact hn h1.symm
    rw [k.block i (Nat.lt_of_lt_of_le hi h.size) hk, h.block i hi hn]⟩
theorem gbelow {a b c : World} {row : Option Nat} {B : Nat} (h : a.grownBy b row) (k : Below B b c) (hB : a.heap.size ≤ B) : a.grownBy c row :=
  ⟨k.os.trans h.os, k.tape.trans h.tape, k.output.trans h.output, Nat.le_trans h.size k.size, fun i hi hn => by rw [k.block i (by omega), h.block i hi hn]⟩
theorem Cu.below {w w' : World} {g k B : Nat} (h : Cu w g k) (hb : Below B w w') (hB : g < B) : Cu w' g k := by
  obtain ⟨v, n, a, s, h1, h2, h3, h4⟩ := h
  refine ⟨v, n, a, s, h1.below hb hB, ?_, h3, h4⟩
  obtain ⟨ad, cap, rfl, h⟩ := h2
  refine ⟨ad, cap, rfl, fun hn => ?_⟩
  obtain ⟨b, off, rfl, hb', hs, hc⟩ := h hn
  refine ⟨b, off, rfl, hb', Nat.lt_of_lt_of_le hs hb.size, fun i hi => ?_⟩
  obtain ⟨x, h1, h2⟩ := hc i hi
  exact ⟨x, h1, by rw [hb.cell (p := ⟨b, off + i, none⟩) (by show b < B; omega)]; exact h2⟩

theorem cell_litW {w : World} (g : Nat) (hg : g = w.heap.size) (v : Value) (ty : TypeId) : (w.alloc (.cells #[v] ty)).cell? ⟨g, 0, none⟩ = some v := by
  subst hg
  exact (Blk.new w ty [v] _ rfl).cell 0
theorem from_opt {ad : Option Addr} {cap n : Nat} {q : List Int} (hk : n ≤ q.length) : ∃ (a0 : Option Addr) (c0 : Nat), (∀ W : World, (Instr.sliceAt 24 (.slice ad q.length cap) (some (.int .i64 (n : Int))) none none).run Try.prog W = .ok (.slice a0 (q.drop n).length c0) W) ∧
    ∀ w : World, OwnI w (.slice ad q.length cap) q → OwnI w (.slice a0 (q.drop n).length c0) (q.drop n) := by
  refine ⟨if cap = n then ad else ad.map (·.add (n * 1)), cap - n, fun W => by rw [run_fromIW q.length cap n ad hk W, List.length_drop], fun w h => ?_⟩
  have := fromV_ownW h hk
  unfold fromVW at this
  rw [List.length_drop]
  exact this

set_option maxHeartbeats 1000000 in
/-- a list of n numbers -/
theorem curSure_any (g k : Nat) (n : Nat) (w : World) (h : Cu w g k) (hk : k ≤ 1099511000000) (hn : n ≤ 1000) :
    Calls Try.prog 65 #[.pointer (some ⟨g, 0, none⟩), .int .i64 (n : Int)] w fun e w' => ∃ r, e = .returned r ∧ ∃ xs, OwnI w' r xs ∧ xs.length = n ∧ From w.heap.size r ∧ Cu w' g (k + 2 * n) ∧ w.grownBy w' (some g) := by
  have hgl := h.lt
  go_enter Try.func65, Try.ntmps65
  go_wp2
  go_loopw [5, 6] (fun o i wr => ∃ (j : Nat) (xs : List Int), i = .int .i64 ((j : Int) + 1) ∧ j ≤ n ∧ xs.length = j ∧ OwnI wr o xs ∧ From w.heap.size o ∧ Cu wr g (k + 2 * j) ∧ w.grownBy wr (some g)) (fun _ i _ => ((n : Int) + 1 - intOf i).toNat)
  case atStart => exact ⟨0, [], by go_num, Nat.zero_le _, rfl, OwnI.nil w, From.nil _ _ _, h.mono (by omega), World.grownBy.refl _ _⟩
  case round =>
    obtain ⟨j, xs, rfl, hj, hxl, ho, hf, hcu, hgr⟩ := hrel
    subst hxl
    by_cases hlt : xs.length < n
    · have hlt1 : (xs.length : Int) + 1 ≤ (n : Int) := by omega
      obtain ⟨ad, cap, rfl, hcap, _, _⟩ := ho.shape
      have hlen : xs.length ≤ 1000000 := by omega
      have HF := Lib.hid hf
      have HO := Lib.hid ho
      have HGR := Lib.hid hgr
      clear ho hf hgr
      go_wp2_with fail
      refine (curPick_any g (k + 2 * xs.length) ((xs.length : Int) + 1) wr hcu (by omega) (by omega)).mono ?_
      rintro e w1 ⟨x, rfl, hx, h', hg⟩
      have hxl1 : x ≤ xs.length := by omega
      have hgr1 := HGR.out
      have hne : ∀ g1, (Value.slice ad xs.length cap).ownBlock = some g1 → some g ≠ some g1 := fun g1 e e2 => by have := HF.out g1 e; cases e2; omega
      have ho1 := Own.grown HO.out hg hne
      have hgr2 := gtrans HGR.out hg
      have HG2 := Lib.hid hgr2
      have HO1 := Lib.hid ho1
      have H2 := Lib.hid (fun W => run_toIW xs.length cap x ad (by omega) W)
      have hot := OwnI.take ho1 hxl1
      obtain ⟨T, hT⟩ : ∃ T, xs.take x = T := ⟨_, rfl⟩
      have hTl : T.length = x := by rw [← hT, List.length_take]; omega
      rw [hT] at hot
      subst hTl
      have HT := Lib.hid hT
      have HX := Lib.hid hx
      have htm : T.length ≤ 1048576 := by omega
      clear hx hT ho1 hgr1 hgr2 hne
      go_wp2_with fail
      refine (l1Own_any _ T w1 hot htm).mono ?_
      rintro e w2 ⟨r, rfl, ho2, hf2, hb2⟩
      have hl2 := ho2.lt
      have hs1 := hg.size
      have HCU2 := Lib.hid (h'.below hb2 h'.lt)
      have HO2 := Lib.hid (Own.same HO1.out hb2)
      clear hot
      go_wp2_with (at_builtin; go_loud (refine wpList_app1 Try.intSl rfl _ _ rfl r T rfl (ho2.alloc _) w1.heap.size hf2 w2.heap.size ((xs.length : Int) + 1) rfl (cell_litW _ rfl _ _) w1 (hb2.alloc hb2.size _) (by simp; have := hb2.size; omega) (by omega) ?_))
      intro v3 w3 ho3 hf3 hb3 hg3
      have hgr3 := gbelow HG2.out hb3 (by have := HGR.out.size; omega)
      have HCU3 := Lib.hid (h'.below hb3 h'.lt)
      obtain ⟨a0, c0, hfr, hfo⟩ := from_opt (ad := ad) (cap := cap) (n := T.length) (q := xs) hxl1
      have ho23 := hfo _ (Own.same HO1.out hb3)
      obtain ⟨D, hD⟩ : ∃ D, xs.drop T.length = D := ⟨_, rfl⟩
      rw [hD] at hfr ho23
      have hDl : D.length = xs.length - T.length := by rw [← hD, List.length_drop]
      have hsrc := ho23.src
      obtain ⟨N, hN⟩ : ∃ N, T ++ [(xs.length : Int) + 1] = N := ⟨_, rfl⟩
      have hNl : N.length = T.length + 1 := by rw [← hN]; simp
      rw [hN] at ho3
      have HN := Lib.hid hNl
      have hN1 : N.length ≤ 1048576 := by omega
      have hD1 : D.length ≤ 1048576 := by omega
      have HDL := Lib.hid hDl
      have hl3 := ho3.lt
      have hs3 := hb3.size
      clear hfo hD hDl hN hNl ho23
      go_wp2_with (at_builtin; go_loud (refine wpList_appI Try.intSl rfl _ _ rfl v3 N rfl ho3 w1.heap.size hf3 a0 D.length c0 D rfl rfl hsrc w1 hb3 hs3 hN1 hD1 ?_))
      intro v4 w4 ho4 hf4 hb4 hg4
      have hgr4 := gbelow HG2.out hb4 (by have := HGR.out.size; omega)
      have hcu4 := h'.below hb4 h'.lt
      have hlen4 : (N ++ D).length = xs.length + 1 := by rw [List.length_append, HN.out, HDL.out]; omega
      have hff := From.mono hf4 (show w.heap.size ≤ w1.heap.size by have := HGR.out.size; omega)
      go_wp2
      go_roundw
      case rel => exact ⟨xs.length + 1, N ++ D, by go_num, by omega, hlen4, ho4, hff, hcu4.mono (by omega), hgr4⟩
      case measure => simp [intOf]; omega
    · have hlt1 : ¬ (xs.length : Int) + 1 ≤ (n : Int) := by omega
      go_wp2
      go_ret
      exact ⟨_, rfl, xs, ho, by omega, hf, hcu.mono (by omega), hgr⟩
theorem OwnI.putW {w : World} {gu ou c j n : Nat} {r : List Int} (h : OwnI w (.slice (some ⟨gu, ou, none⟩) n c) r) (hj : j < r.length) (x : Int) : OwnI (w.setCell ⟨gu, ou + j, none⟩ (iv x)) (.slice (some ⟨gu, ou, none⟩) n c) (r.set j x) := by
  obtain ⟨ad, cap, hv, h1, h2, h3, h4, h5⟩ := h
  simp only [Value.slice.injEq] at hv
  obtain ⟨rfl, hnn, rfl⟩ := hv
  obtain ⟨hs0, cur, ty, hh, hroom, hcells⟩ := h5 _ rfl
  have hb : Blk w gu ty cur.toList := hh
  have hb2 := hb.set (ou + j) (iv x)
  refine ⟨_, c, by rw [List.length_set, hnn], by simp, by rw [List.length_set]; exact h2, h3, by simp, fun a ha => ?_⟩
  cases ha
  refine ⟨rfl, _, ty, hb2, by simpa using hroom, fun i hi => ?_⟩
  rw [List.length_set] at hi
  have hc := hcells i hi
  simp only at hc
  simp only [List.getElem?_toArray]
  have hlen : cur.toList.length = cur.size := Array.length_toList
  rw [List.getElem?_set, List.map_set, List.getElem?_set, List.length_map]
  by_cases e : j = i
  · subst e
    have hlt : ou + j < cur.size := by simp only at hroom; omega
    simp [hlt, hj]
  · rw [if_neg (by omega), if_neg e]
    rw [← hc]
    simp

set_option maxHeartbeats 2000000 in
/-- a list of at most ten numbers -/
theorem curStack_any (g k : Nat) (w : World) (h : Cu w g k) (hk : k ≤ 1099510000000) :
    Calls Try.prog 82 #[.pointer (some ⟨g, 0, none⟩)] w fun e w' => ∃ r, e = .returned r ∧ ∃ xs, OwnI w' r xs ∧ xs.length ≤ 10 ∧ From w.heap.size r ∧ Cu w' g (k + 50) ∧ w.grownBy w' (some g) := by
  have hgl := h.lt
  go_enter Try.func82, Try.ntmps82
  go_wp2_with fail
  refine (curPick_any g k 7 w h (by omega) (by omega)).mono ?_
  rintro e w1 ⟨x, rfl, hx, h1, hg1⟩
  go_wp2_with fail
  refine (curSure_any g (k + 2) (1 + x) w1 h1 (by omega) (by omega)).mono ?_
  rintro e w2 ⟨s, rfl, xs, ho, hxl, hf, h2, hg2⟩
  go_wp2_with fail
  refine (curPick_any g (k + 2 + 2 * (1 + x)) 14 w2 h2 (by omega) (by omega)).mono ?_
  rintro e w3 ⟨y, rfl, hy, h3, hg3⟩
  have hg12 := gtrans hg1 hg2
  have hg13 := gtrans hg12 hg3
  have hs1 := hg1.size
  have hne : ∀ g1, s.ownBlock = some g1 → some g ≠ some g1 := fun g1 e e2 => by have := hf g1 e; cases e2; omega
  have hfw := From.mono hf hs1
  have ho3 := Own.grown ho hg3 hne
  have HF := Lib.hid hfw
  have HG := Lib.hid hg13
  have hx10 : xs.length ≤ 10 := by omega
  have hx1 : 1 ≤ xs.length := by omega
  have h3' : Cu w3 g (k + 18) := h3.mono (by omega)
  clear hg1 hg2 hg3 hg12 hg13 h h1 h2 ho hf hfw h3 hxl hx
  by_cases hy0 : y = 0
  · subst hy0
    obtain ⟨ad, cap, rfl, hcap, _, _⟩ := ho3.shape
    obtain ⟨gs, off, rfl, hgsl, hcell, hfz⟩ := ho3.at (by omega)
    have hgs : gs ≠ g := fun e => hne gs rfl (by rw [e])
    have HO3 := Lib.hid ho3
    clear ho3 hne
    go_wp2_with fail
    refine (curPick_any g (k + 18) xs.length w3 h3' (by omega) (by omega)).mono ?_
    rintro e w4 ⟨i, rfl, hi, h4, hg4⟩
    have hi1 : i < xs.length := by omega
    have h4a := h4.below ((Below.refl w4.heap.size w4).alloc (Nat.le_refl _) (.cells #[.int .i64 (-1), .int .i64 0, .int .i64 ((xs.length : Int) + 1), .int .i64 1, .int .i64 4611686018427387904] 3)) h4.lt
    have hgl4 := h4.lt
    have hlit : OwnI (w4.alloc (.cells #[.int .i64 (-1), .int .i64 0, .int .i64 ((xs.length : Int) + 1), .int .i64 1, .int .i64 4611686018427387904] 3)) (.slice (some ⟨w4.heap.size, 0, none⟩) 5 5) [-1, 0, (xs.length : Int) + 1, 1, 4611686018427387904] := OwnI.lit w4 _ _ 5 rfl (by omega) _ (by simp)
    have cA := curAmong_any g _ _ _ _ h4a hlit (by simp [Value.ownBlock]; omega) (by simp) (by omega) (by simp)
    go_wp2_with fail
    refine cA.mono ?_
    rintro e w5 ⟨z, hz, rfl, h5, hg5⟩
    have hl4 : gs < w4.heap.size := Nat.lt_of_lt_of_le hgsl hg4.size
    have hgr5 : w.grownBy w5 (some g) := gtrans (gbelow (gtrans HG.out hg4) ((Below.refl w4.heap.size w4).alloc (Nat.le_refl _) _) (by have := HG.out.size; have := hg4.size; omega)) hg5
    have ho4 : OwnI w4 _ xs := Own.grown HO3.out hg4 (fun g1 e e2 => hgs (by cases e2; simpa [Value.ownBlock] using e))
    have ho5 : OwnI w5 _ xs := Own.grown (ho4.alloc _) hg5 (fun g1 e e2 => hgs (by cases e2; simpa [Value.ownBlock] using e))
    obtain ⟨gs', off', e', _, hcell5, hfz5⟩ := ho5.at (by omega)
    cases e'
    have hcs : w5.cell? ⟨gs, off + i, none⟩ = some (.int .i64 xs[i]) := by rw [hcell5 i (by omega), List.getElem?_map, List.getElem?_eq_getElem hi1]; rfl
    have hfs : w5.frozen? ⟨gs, off + i, none⟩ = false := hfz5 _
    have hiI : (i : Int) < (xs.length : Int) := by omega
    have hfr : w.heap.size ≤ gs := HF.out gs rfl
    have ho6 := OwnI.putW ho5 hi1 z
    have hg6 := gthen hgr5 (grownBy_setCell w5 gs (off + i) (iv z)) (fun j e => by cases e; exact .inl hfr)
    have h6 : Cu (w5.setCell ⟨gs, off + i, none⟩ (iv z)) g (k + 18 + 2 + 2) := h5.grown (grownBy_setCell w5 gs (off + i) (iv z)) (by simpa using hgs) (fun r e => by cases e; omega)
    have hl6 : (xs.set i z).length = xs.length := List.length_set
    have HO6 := Lib.hid ho6
    have HL6 := Lib.hid hl6
    clear ho6 hl6
    clear hcell5 hfz5 hcell hfz cA hlit h4a hi
    go_wp2
    go_ret
    exact ⟨_, rfl, xs.set i z, HO6.out, by rw [HL6.out]; exact hx10, HF.out, h6.mono (by omega), hg6⟩
  · have hd0 : ¬ ((y : Int) = 0) := by omega
    by_cases hy1 : y = 1
    · subst hy1
      clear hd0
      go_wp2
      go_ret
      exact ⟨_, rfl, [], OwnI.nil _, by simp, From.nil _ _ _, h3'.mono (by omega), HG.out⟩
    · have hd1 : ¬ ((y : Int) = 1) := by omega
      by_cases hy2 : y = 2
      · subst hy2
        clear hd0 hd1
        go_wp2_with fail
        refine (curPick_any g (k + 18) 2 w3 h3' (by omega) (by omega)).mono ?_
        rintro e w4 ⟨i, rfl, hi, h4, hg4⟩
        go_wp2_with fail
        refine (curSure_any g (k + 18 + 2) (9 + i) w4 h4 (by omega) (by omega)).mono ?_
        rintro e w5 ⟨r, rfl, ys, ho5, hyl, hf5, h5, hg5⟩
        have hgr5 := gtrans (gtrans HG.out hg4) hg5
        have hff := From.mono hf5 (show w.heap.size ≤ w4.heap.size by have := HG.out.size; have := hg4.size; omega)
        go_wp2
        go_ret
        exact ⟨_, rfl, ys, ho5, by omega, hff, h5.mono (by omega), hgr5⟩
      · have hd2 : ¬ ((y : Int) = 2) := by omega
        go_wp2
        go_ret
        exact ⟨_, rfl, xs, ho3, hx10, HF.out, h3'.mono (by omega), HG.out⟩

/-- a list of at most m + 1 numbers, or ten -/
theorem curNear_any (g k m : Nat) (w : World) (h : Cu w g k) (hk : k ≤ 1099500000000) (hm : m ≤ 9) :
    Calls Try.prog 63 #[.pointer (some ⟨g, 0, none⟩), .int .i64 (m : Int)] w fun e w' => ∃ r, e = .returned r ∧ ∃ xs, OwnI w' r xs ∧ xs.length ≤ 10 ∧ From w.heap.size r ∧ Cu w' g (k + 60) ∧ w.grownBy w' (some g) := by
  have hgl := h.lt
  go_enter Try.func63, Try.ntmps63
  go_wp2_with fail
  refine (curOne_any g k 14 w h (by omega) (by omega)).mono ?_
  rintro e w1 ⟨b, rfl, h1, hg1⟩
  cases b with
  | true =>
    go_wp2_with fail
    refine (curStack_any g (k + 2) w1 h1 (by omega)).mono ?_
    rintro e w2 ⟨r, rfl, xs, ho, hxl, hf, h2, hg2⟩
    have hg := gtrans hg1 hg2
    have hff := From.mono hf hg1.size
    go_wp2
    go_ret
    exact ⟨_, rfl, xs, ho, hxl, hff, h2.mono (by omega), hg⟩
  | false =>
    go_wp2_with fail
    refine (curPick_any g (k + 2) m w1 h1 (by omega) (by omega)).mono ?_
    rintro e w2 ⟨i, rfl, hi, h2, hg2⟩
    go_wp2_with fail
    refine (curSure_any g (k + 2 + 2) (1 + i) w2 h2 (by omega) (by omega)).mono ?_
    rintro e w3 ⟨r, rfl, xs, ho, hxl, hf, h3, hg3⟩
    have hg := gtrans (gtrans hg1 hg2) hg3
    have hff := From.mono hf (Nat.le_trans hg1.size hg2.size)
    go_wp2
    go_ret
    exact ⟨_, rfl, xs, ho, by omega, hff, h3.mono (by omega), hg⟩

set_option maxHeartbeats 400000 in
theorem fSameQ_any (v u : Value) (xs ys : List Int) (w : World) (hv : Ints w v xs) (hu : Ints w u ys) (hn : xs.length ≤ 1048576) (_hm : ys.length ≤ 1048576) :
    Calls Try.prog 13 #[v, u] w fun e w' => e = .returned (.bool (decide (xs = ys))) ∧ ∃ n, w' = w.drewN n := by
  obtain ⟨ad, cap, rfl, hc, _, hr⟩ := hv
  obtain ⟨bd, cbp, rfl, hc', _, hs⟩ := hu
  by_cases hl : xs.length = ys.length
  · rw [← hl]
    have HL := Lib.hid hl
    clear hl
    go_enter Try.func13, Try.ntmps13
    go_wp2
    go_loopw [13] (fun i wr => ∃ k : Nat, k ≤ xs.length ∧ i = .int .i64 k ∧ xs.take k = ys.take k ∧ ∃ m, wr = w.drewN m) (fun i _ => xs.length - (intOf i).toNat)
    case atStart => exact ⟨0, Nat.zero_le _, rfl, by simp, 0, rfl⟩
    case round =>
      obtain ⟨k, hk, rfl, he, m, rfl⟩ := hrel
      have HE := Lib.hid he
      clear he
      by_cases hlt : k < xs.length
      · have hlt2 : k < ys.length := by have := HL.out; omega
        obtain ⟨b, off, rfl, hbl, hcell⟩ := hr (by intro h; simp [h] at hlt)
        obtain ⟨b', off', rfl, hbl', hcell'⟩ := hs (by intro h; simp [h] at hlt2)
        have hc1 := hcell k hlt
        have hc2 := hcell' k hlt2
        clear hr hcell hs hcell'
        by_cases hx : xs[k] = ys[k]
        · have hq : ((xs[k] : Int) != ys[k]) = false := by simp [hx]
          have HX := Lib.hid hx
          clear hx
          go_wp2
          go_quiet (fail)
          go_wp2
          go_roundw
          case rel => exact ⟨k + 1, by omega, by go_num, eq_take_succ xs ys k HL.out hlt HE.out HX.out, _, by first | rfl | exact World.drewN_drewN ..⟩
          case measure => simp [intOf]; omega
        · have hq : ((xs[k] : Int) != ys[k]) = true := by simp [hx]
          have HX := Lib.hid hx
          clear hx
          go_wp2
          go_quiet (fail)
          go_wp2
          go_ret
          exact ⟨by rw [show decide (xs = ys) = false from decide_eq_false fun e => HX.out (by simp [e])]; rfl, _, by first | rfl | exact World.drewN_drewN ..⟩
      · obtain rfl : k = xs.length := by omega
        clear hr hs
        go_wp2
        go_ret
        have h := HE.out
        rw [List.take_length, HL.out, List.take_length] at h
        exact ⟨by rw [show decide (xs = ys) = true from decide_eq_true h]; rfl, _, by first | rfl | exact World.drewN_drewN ..⟩
  · have hq : (((xs.length : Nat) : Int) != (ys.length : Int)) = true := by simp; omega
    have HL := Lib.hid hl
    clear hl
    go_enter Try.func13, Try.ntmps13
    go_wp2
    go_ret
    exact ⟨by rw [show decide (xs = ys) = false from decide_eq_false fun e => HL.out (by rw [e])]; rfl, 0, rfl⟩

theorem fSame_any (v u : Value) (xs ys : List Int) (w : World) (hv : Ints w v xs) (hu : Ints w u ys) (hn : xs.length ≤ 1048576) (hm : ys.length ≤ 1048576) :
    Calls Try.prog 13 #[v, u] w fun e w' => e = .returned (.bool (decide (xs = ys))) ∧ Below w.heap.size w w' :=
  (fSameQ_any v u xs ys w hv hu hn hm).mono fun _ _ ⟨h, _, e⟩ => ⟨h, by rw [e]; exact (Below.refl _ _).drewN _⟩

theorem Byts.of_row {w : World} {a : Option Addr} {len cap : Nat} {zs : List Int} (h : (a = none ∧ len = 0 ∧ cap = 0 ∧ zs = []) ∨
    ∃ x, a = some x ∧ len ≤ cap ∧ cap ≤ maxLen ∧ zs.length = cap ∧ (∀ i, i < zs.length → w.cell? (x.add i) = some (.int .u8 (zs.getD i 0))) ∧ ∀ n ∈ zs, (Lit.int .u8 n).wf = true) :
    Byts w (.slice a len cap) len w.heap.size ∧ len ≤ maxLen := by
  rcases h with ⟨rfl, rfl, rfl, rfl⟩ | ⟨⟨b, off, sp⟩, rfl, hl, hm, hz, hc, hwf⟩
  · exact ⟨⟨none, 0, rfl, by simp⟩, by simp [maxLen]⟩
  · refine ⟨⟨some ⟨b, off, sp⟩, cap, rfl, fun h0 => ?_⟩, by omega⟩
    have hsp : sp = none := by
      have := hc 0 (by omega)
      cases sp with
      | none => rfl
      | some s =>
        have e : (⟨b, off, some s⟩ : Addr).add 0 = ⟨b, off, some s⟩ := by simp [Addr.add]
        rw [e] at this
        simp [World.cell?] at this
        split at this <;> simp at this
    subst hsp
    have hb : b < w.heap.size := by
      have := hc 0 (by omega)
      rw [Addr.add_lit] at this
      exact World.block_lt_of_cell? w _ this
    refine ⟨b, off, rfl, hb, hb, fun i hi => ?_⟩
    have h1 := hc i (by omega)
    rw [Addr.add_lit] at h1
    have h2 : zs.getD i 0 ∈ zs := by
      rw [List.getD_eq_getElem?_getD, List.getElem?_eq_getElem (by omega)]
      exact List.getElem_mem _
    have h3 := hwf _ h2
    obtain ⟨h4, h5⟩ := bounds_u8 h3
    refine ⟨(zs.getD i 0).toNat, by omega, ?_⟩
    rw [Int.toNat_of_nonneg h4]
    exact h1

theorem Cu.new (a : Option Addr) (n c : Nat) (w : World) (hv : Byts w (.slice a n c) n w.heap.size) (hn : n ≤ maxLen) :
    Cu (w.alloc (.cells #[.slice a n c, .int .i64 0, .int .u64 0] 78)) w.heap.size 0 := by
  refine ⟨_, n, 0, 0, Blk.new w _ [.slice a n c, .int .i64 0, .int .u64 0] _ rfl, ?_, Nat.le_refl _, hn, by omega, by omega⟩
  obtain ⟨ad, cap, e, h⟩ := hv
  cases e
  refine ⟨_, _, rfl, fun h0 => ?_⟩
  obtain ⟨b, off, rfl, hb, hs, hc⟩ := h h0
  refine ⟨b, off, rfl, hb, by simp; omega, fun i hi => ?_⟩
  obtain ⟨x, h1, h2⟩ := hc i hi
  refine ⟨x, h1, ?_⟩
  rw [((Below.refl w.heap.size w).alloc (Nat.le_refl _) _).cell (p := ⟨b, off + i, none⟩) (by exact hb)]
  exact h2

theorem Byts.later {w w' : World} {v : Value} {n : Nat} (h : Byts w v n w.heap.size) (hb : Below w.heap.size w w') : Byts w' v n w'.heap.size := by
  obtain ⟨ad, cap, rfl, h⟩ := h
  refine ⟨ad, cap, rfl, fun hn => ?_⟩
  obtain ⟨b, off, rfl, hb', hs, hc⟩ := h hn
  refine ⟨b, off, rfl, Nat.lt_of_lt_of_le hb' hb.size, Nat.lt_of_lt_of_le hs hb.size, fun i hi => ?_⟩
  obtain ⟨x, h1, h2⟩ := hc i hi
  exact ⟨x, h1, by rw [hb.cell (p := ⟨b, off + i, none⟩) (by exact hb')]; exact h2⟩

theorem big_any (a b : Option Addr) (n m c d : Nat) (w : World) (hn : n ≤ maxLen) (_hm : m ≤ maxLen) :
    Calls Try.prog 5 #[.slice a n c, .slice b m d] w fun e w' => ∃ x : Bool, e = .returned (.bool x) ∧ w' = w := by
  unfold maxLen at hn
  by_cases h1 : (1048576 : Int) < (n : Int)
  · go_enter Try.func5, Try.ntmps5
    go_wp2
    go_ret
    first | exact ⟨_, rfl, rfl⟩ | rfl | (simp; done) | (simp; omega)
  · go_enter Try.func5, Try.ntmps5
    go_wp2
    go_ret
    first | exact ⟨_, rfl, rfl⟩ | rfl | (simp; done) | (simp; omega)

set_option maxHeartbeats 1000000 in
theorem DrawDistanceBetween_any (a : Option Addr) (n c : Nat) (w : World) (hv : Byts w (.slice a n c) n w.heap.size) (hn : n ≤ maxLen) :
    Calls Try.prog 31 #[.slice a n c] w fun e w' => ∃ r u, e = .returned (.tuple #[r, u]) ∧ ∃ xs ys, OwnI w' r xs ∧ OwnI w' u ys ∧ xs.length ≤ 10 ∧ ys.length ≤ 10 ∧ Below w.heap.size w w' := by
  go_enter Try.func31, Try.ntmps31
  have hcu : Cu (w.alloc (.cells #[.slice a n c, .int .i64 0, .int .u64 0] 78)) w.heap.size 0 := by
    refine ⟨_, n, 0, 0, Blk.new w _ [.slice a n c, .int .i64 0, .int .u64 0] _ rfl, ?_, Nat.le_refl _, hn, by omega, by omega⟩
    obtain ⟨ad, cap, e, h⟩ := hv
    cases e
    refine ⟨_, _, rfl, fun h0 => ?_⟩
    obtain ⟨b, off, rfl, hb, hs, hc⟩ := h h0
    refine ⟨b, off, rfl, hb, by simp; omega, fun i hi => ?_⟩
    obtain ⟨x, h1, h2⟩ := hc i hi
    refine ⟨x, h1, ?_⟩
    rw [((Below.refl w.heap.size w).alloc (Nat.le_refl _) _).cell (p := ⟨b, off + i, none⟩) (by exact hb)]
    exact h2
  have hB := (Below.refl w.heap.size w).alloc (Nat.le_refl _) (.cells #[.slice a n c, .int .i64 0, .int .u64 0] 78)
  clear hv hn
  go_wp2_with fail
  refine (curOne_any w.heap.size 0 10 _ hcu (by omega) (by omega)).mono ?_
  rintro e w1 ⟨b, rfl, h1, hg1⟩
  have hB1 := hB.grown hg1 (by simp) (by simp)
  have hs1 := h1.lt
  clear hB hg1 hcu
  cases b with
  | true =>
    go_wp2_with fail
    refine (curNear_any w.heap.size 2 5 w1 h1 (by omega) (by omega)).mono ?_
    rintro e w2 ⟨r, rfl, xs, ho, hxl, hf, h2, hg2⟩
    have hB2 := hB1.grown hg2 hB1.size (by simp)
    have hs2 := hg2.size
    go_wp2_with fail
    refine (curNear_any w.heap.size 62 5 w2 h2 (by omega) (by omega)).mono ?_
    rintro e w3 ⟨u, rfl, ys, hu, hyl, hfu, h3, hg3⟩
    have hB3 := hB2.grown hg3 hB2.size (by simp)
    have ho3 := Own.grown ho hg3 (fun g1 e e2 => by have := hf g1 e; cases e2; omega)
    clear ho hg2 hg3 hB1 hB2
    go_wp2
    go_ret2
    exact ⟨_, _, rfl, xs, ys, ho3, hu, hxl, hyl, hB3⟩
  | false =>
    go_wp2_with fail
    refine (curPick_any w.heap.size 2 5 w1 h1 (by omega) (by omega)).mono ?_
    rintro e w2 ⟨i, rfl, hi, h2, hg2⟩
    have hB2 := hB1.grown hg2 hB1.size (by simp)
    have hs2 := hg2.size
    go_wp2_with fail
    refine (curSure_any w.heap.size 4 (1 + i) w2 h2 (by omega) (by omega)).mono ?_
    rintro e w3 ⟨r, rfl, xs, ho, hxl, hf, h3, hg3⟩
    have hB3 := hB2.grown hg3 hB2.size (by simp)
    have hs3 := hg3.size
    go_wp2_with fail
    refine (curSure_any w.heap.size (4 + 2 * (1 + i)) (1 + i) w3 h3 (by omega) (by omega)).mono ?_
    rintro e w4 ⟨u, rfl, ys, hu, hyl, hfu, h4, hg4⟩
    have hB4 := hB3.grown hg4 hB3.size (by simp)
    have ho4 := Own.grown ho hg4 (fun g1 e e2 => by have := hf g1 e; cases e2; omega)
    clear ho hg2 hg3 hg4 hB1 hB2 hB3
    go_wp2
    go_ret2
    exact ⟨_, _, rfl, xs, ys, ho4, hu, by omega, by omega, hB4⟩

theorem DrawPlanBetween_any (a : Option Addr) (n c : Nat) (w : World) (hv : Byts w (.slice a n c) n w.heap.size) (hn : n ≤ maxLen) :
    Calls Try.prog 6 #[.slice a n c] w fun e w' => ∃ r u, e = .returned (.tuple #[r, u]) ∧ ∃ xs ys, OwnI w' r xs ∧ OwnI w' u ys ∧ xs.length ≤ 10 ∧ ys.length ≤ 10 ∧ Below w.heap.size w w' := by
  go_enter Try.func6, Try.ntmps6
  go_wp2_with fail
  refine (DrawDistanceBetween_any a n c w hv hn).mono ?_
  rintro e w1 ⟨r, u, rfl, xs, ys, h1, h2, h3, h4, h5⟩
  go_wp2
  go_ret2
  exact ⟨_, _, rfl, xs, ys, h1, h2, h3, h4, h5⟩
end Go.Proofs.Ytdlnniciccpchaa
