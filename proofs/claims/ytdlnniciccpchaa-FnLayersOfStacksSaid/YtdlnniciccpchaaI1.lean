import Derived.Test.YtdlnniciccpchaaS1
import Derived.Test.YtdlnniciccpchaaArr
namespace Go.Proofs.Ytdlnniciccpchaa
open Go Go.RowKit Go.Pan

theorem Try.infoT : (Try.prog.info? 52).map (·.size) = some 9 := by kernel_rfl

theorem ramp_snoc (k : Int) (n : Nat) : ramp k (n + 1) = ramp k n ++ [k + n] := by simp [ramp, List.range_succ]

set_option maxHeartbeats 400000 in
theorem sortedTower_any (n : Nat) (w : World) (hn : n ≤ 9) :
    Calls Try.prog 58 #[.int .i64 n] w fun e w' => e = .returned (tw (ramp 1 n)) ∧ Below w.heap.size w w' := by
  go_enter Try.func58, Try.ntmps58
  go_wp2
  go_loopw [6] (fun i wr => ∃ k : Nat, k ≤ n ∧ i = .int .i64 k ∧ Blk wr w.heap.size 52 (twl []) ∧ Blk wr (w.heap.size + 1) 52 (twl (ramp 1 k)) ∧ Below w.heap.size w wr) (fun i _ => n - (intOf i).toNat)
  case atStart => exact ⟨0, Nat.zero_le _, rfl, (Blk.new w _ (twl []) _ rfl).alloc _, Blk.new _ _ (twl []) _ (by simp), ((Below.refl _ _).alloc (Nat.le_refl _) _).alloc (by simp) _⟩
  case round =>
    obtain ⟨k, hk, rfl, hz, ho, hbr⟩ := hrel
    by_cases hlt : k < n
    · have hlen : (twl (ramp 1 k)).length = 9 := twl_length _ (by rw [ramp_length]; omega)
      obtain ⟨c, hc⟩ : ∃ c, (twl (ramp 1 k))[k]? = some c := ⟨_, List.getElem?_eq_getElem (by rw [hlen]; omega)⟩
      have hck := ho.cell k
      rw [hc] at hck
      have hfk := ho.frozen k
      have hst := ho.set k (iv ((k : Int) + 1))
      have e : (twl (ramp 1 k)).set k (iv ((k : Int) + 1)) = twl (ramp 1 (k + 1)) := by
        have := twl_snoc (ramp 1 k) ((k : Int) + 1) (by rw [ramp_length]; omega)
        rw [ramp_length] at this
        rw [this, ramp_snoc, Int.add_comm]
      rw [e] at hst
      have hz' := hz.other (a := ⟨w.heap.size + 1, k, none⟩) (by simp) (iv ((k : Int) + 1))
      have hb' := hbr.setCell (p := ⟨w.heap.size + 1, k, none⟩) (by simp) (iv ((k : Int) + 1))
      clear e ho hz hbr hlen hc
      go_wp2
      go_roundw
      case rel => exact ⟨k + 1, by omega, by go_num, hz', hst, hb'⟩
      case measure => simp [intOf]; omega
    · obtain rfl : k = n := by omega
      have h9 := twl_length (ramp 1 k) (by rw [ramp_length]; omega)
      have hz9 : (twl []).length = 9 := by simp [twl]
      have hs : (Try.prog.info? 52).map (·.size) = some (twl (ramp 1 k)).toArray.size := by rw [Try.infoT]; simp [h9]
      have h0 : ((twl []).toArray).size = (twl (ramp 1 k)).toArray.size := by simp [h9, hz9]
      have hon : (twl (ramp 1 k)).toArray.all (·.oneCell') = true := by simp [twl, Value.oneCell']
      have hr := hz.setRow (twl (ramp 1 k))
      have hb2 := below_setRow hbr (Nat.le_refl w.heap.size) (twl (ramp 1 k)).toArray
      have HS := Lib.hid h9
      clear h9 hz9
      go_wp2_with (first | (refine wpList_load_row rfl 52 _ rfl (w.heap.size + 1) rfl 52 _ _ _ ho Try.underlying52 rfl hs ?_) | (refine wpList_store_row rfl 52 _ _ rfl w.heap.size (twl (ramp 1 k)).toArray rfl rfl 52 _ hz hs h0 hon ?_))
      exact bodyPost_ret (results_cell_row rfl _ _ w.heap.size 52 _ _ _ rfl hr Try.underlying52 rfl hs) rfl ⟨rfl, hb2⟩

theorem isCount_any (n : Int) (w : World) :
    Calls Try.prog 87 #[.int .i64 n] w fun e w' => e = .returned (.bool (inB n 1 9)) ∧ w = w' := by
  go_enter Try.func87, Try.ntmps87
  by_cases h : 1 ≤ n
  · go_wp2
    go_ret
    exact ⟨by simp [inB, h], rfl⟩
  · go_wp2
    go_ret
    exact ⟨by simp only [inB, decide_eq_false (show ¬ 1 ≤ n from by omega)]; rfl, rfl⟩

theorem isPlace_any (ad : Option Addr) (n cap : Nat) (x : Int) (w : World) :
    Calls Try.prog 88 #[.slice ad n cap, .int .i64 x] w fun e w' => e = .returned (.bool (inB x 1 n)) ∧ w = w' := by
  go_enter Try.func88, Try.ntmps88
  by_cases h : 1 ≤ x
  · go_wp2
    go_ret
    exact ⟨by simp [inB, h], rfl⟩
  · go_wp2
    go_ret
    exact ⟨by simp only [inB, decide_eq_false (show ¬ 1 ≤ x from by omega)]; rfl, rfl⟩

theorem mem_take_succ {xs : List Int} {k : Nat} (h : k < xs.length) {P : Int → Prop} (h1 : ∀ x ∈ xs.take k, P x) (h2 : P xs[k]) : ∀ x ∈ xs.take (k + 1), P x := by
  rw [List.take_succ_eq_append_getElem h]
  intro x hx
  simp only [List.mem_append, List.mem_singleton] at hx
  rcases hx with hx | rfl
  · exact h1 x hx
  · exact h2

def InR (xs : List Int) (k : Nat) : Prop := ∀ x ∈ xs.take k, 1 ≤ x ∧ x ≤ xs.length

set_option maxRecDepth 100000 in
set_option maxHeartbeats 800000 in
theorem IsStack_any (v : Value) (xs : List Int) (w : World) (hv : OwnI w v xs) (hn : xs.length ≤ 1048576) :
    Calls Try.prog 71 #[v] w fun e w' => e = .returned (.bool (goodB xs)) ∧ Below w.heap.size w w' := by
  obtain ⟨ad, cap, rfl, hc, hcm, _⟩ := hv.shape
  by_cases h19 : 1 ≤ xs.length ∧ xs.length ≤ 9
  · have hin : inB xs.length 1 9 = true := by simp [inB]; omega
    go_enter Try.func71, Try.ntmps71
    go_wp2_with (go_at_call 87; refine (isCount_any _ _).mono ?_; rintro e w' ⟨rfl, rfl⟩)
    go_loopw [12] (fun i wr => ∃ k : Nat, k ≤ xs.length ∧ i = .int .i64 k ∧ Blk wr w.heap.size 52 ((seenAt (xs.take k)).map iv) ∧ InR xs k ∧ Below w.heap.size w wr) (fun i _ => xs.length - (intOf i).toNat)
    case atStart => exact ⟨0, Nat.zero_le _, rfl, by rw [List.take_zero, seenAt_nil]; exact Blk.new w _ _ _ rfl, by simp [InR], (Below.refl _ _).alloc (Nat.le_refl _) _⟩
    case round =>
      obtain ⟨k, hk, rfl, hfd, hir, hbr⟩ := hrel
      have HI := Lib.hid hir
      clear hir
      by_cases hlt : k < xs.length
      · obtain ⟨g, off, rfl, hgl, hcell, hf⟩ := hv.at (by omega)
        have hck := hcell k (by omega)
        rw [List.getElem?_map, List.getElem?_eq_getElem hlt] at hck
        have hc1 := (hbr.cell (p := ⟨g, off + k, none⟩) hgl).trans hck
        clear hcell hf hck hv
        by_cases hb : 1 ≤ xs[k] ∧ xs[k] ≤ xs.length
        · obtain ⟨m, hm⟩ : ∃ m : Nat, xs[k] = (m : Int) + 1 := ⟨(xs[k] - 1).toNat, by omega⟩
          have hm9 : m < 9 := by omega
          have hml : m < xs.length := by omega
          have hib : inB ((m : Int) + 1) 1 xs.length = true := by simp [inB]; omega
          have HR := Lib.hid (show InR xs (k + 1) from mem_take_succ hlt HI.out hb)
          obtain ⟨c, hcs⟩ : ∃ c, ((seenAt (xs.take k)).map iv)[m]? = some c := ⟨_, List.getElem?_eq_getElem (by simpa [seenAt] using hm9)⟩
          have hcc := hfd.cell m
          rw [hcs] at hcc
          have hff := hfd.frozen m
          have hst := hfd.set m (iv ((m : Int) + 1))
          rw [← List.map_set, seenAt_snoc _ m, ← hm, ← List.take_succ_eq_append_getElem hlt, hm] at hst
          have hb2 := hbr.setCell (p := ⟨w.heap.size, m, none⟩) (Nat.le_refl _) (iv ((m : Int) + 1))
          have hc2 : wr.cell? ⟨g, off + k, none⟩ = some (iv ((m : Int) + 1)) := by rw [hc1, ← hm]; rfl
          clear hc1 hb hm hcs hfd hbr
          go_wp2_with (go_at_call 88; refine (isPlace_any _ _ _ _ _).mono ?_; rintro e w' ⟨rfl, rfl⟩)
          go_roundw
          case rel => exact ⟨k + 1, by omega, by go_num, hst, HR.out, hb2⟩
          case measure => simp [intOf]; omega
        · have hib : inB xs[k] 1 xs.length = false := by simp [inB]; omega
          have HB := Lib.hid hb
          clear hb
          go_wp2_with (go_at_call 88; refine (isPlace_any _ _ _ _ _).mono ?_; rintro e w' ⟨rfl, rfl⟩)
          go_ret
          exact ⟨by rw [not_good_at hlt (.inl HB.out)]; rfl, hbr⟩
      · obtain rfl : k = xs.length := by omega
        clear hv
        rw [List.take_length] at hfd
        have hu := Try.underlying52
        have hs : (Try.prog.info? 52).map (·.size) = some ((seenAt xs).map iv).length := by rw [Try.infoT]; simp [seenAt_length]
        have hs9 : ((seenAt xs).map iv).length = 9 := by simp [seenAt_length]
        have hon : ∀ v ∈ (seenAt xs).map iv, v.oneCell' = true := by simp [Value.oneCell']
        have hra := hfd.range
        have hbl := hfd.lt
        clear hfd
        have heq : ∀ W, (Op.equalIn 10000 52 (.agg ((seenAt xs).map iv).toArray) (tw (ramp 1 xs.length))).run Try.prog W = .ok (goodB xs) W := fun W => by
          obtain ⟨i0, hi, _⟩ := info_parts Try.info3
          have h := run_equalIn_ints W 9998 (seenAt xs) (ramp 1 xs.length ++ List.replicate (9 - (ramp 1 xs.length).length) 0) Try.underlying52 hi Try.underlying3 (by kernel_rfl) (seenAt_length _) (by simp [ramp]; omega)
          rw [goodB_seenAt xs h19.1 h19.2 (by have := HI.out; unfold InR at this; rwa [List.take_length] at this)]
          simp only [ramp_length] at h
          simp only [tw, twl, ramp_length]
          exact h
        go_wp2_with fail
        go_region_held3 (fun w' => w'.rangeAt w.heap.size 0 ((seenAt xs).map iv)) (first | (exact hra) | (exact range_below (by assumption) hb2 (by exact hbl))) ((go_at_call 58; refine (sortedTower_any _ _ h19.2).mono ?_; rintro e w' ⟨rfl, hb2⟩))
        go_wp2
        go_ret
        exact ⟨rfl, (hbr.drew).trans (hb2.mono hbr.size)⟩
  · have hin : inB xs.length 1 9 = false := by simp [inB]; omega
    go_enter Try.func71, Try.ntmps71
    go_wp2_with (go_at_call 87; refine (isCount_any _ _).mono ?_; rintro e w' ⟨rfl, rfl⟩)
    go_ret
    exact ⟨by rw [show goodB xs = false from decide_eq_false fun h => h19 ⟨h.1, h.2.1⟩]; rfl, Below.refl _ _⟩

end Go.Proofs.Ytdlnniciccpchaa

