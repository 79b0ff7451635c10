import Derived.Test.YtieongcagkfedaaU3
import Derived.Test.YtieongcagkfedaaI4
import Derived.Test.YtieongcagkfedaaTw
import Derived.Test.YtieongcagkfedaaS4
namespace Go.Proofs.Ytieongcagkfedaa
open Go Go.RowKit Go.Pan

-- IsHome, TopStep: both sides
theorem OwnI.head {w : World} {v : Value} {xs : List Int} (h : OwnI w v xs) (h1 : 1 ≤ xs.length) : ∃ g off cap, v = .slice (some ⟨g, off, none⟩) xs.length cap ∧ w.cell? ⟨g, off, none⟩ = some (iv (xs.getD 0 0)) ∧ g < w.heap.size := by
  obtain ⟨ad, cap, rfl, hc, hm, hn⟩ := h.shape
  obtain ⟨g, off, rfl, hg, hcell, _⟩ := h.at (by omega)
  refine ⟨g, off, cap, rfl, ?_, hg⟩
  have := hcell 0 (by omega)
  rw [Nat.add_zero] at this
  rw [this, List.getElem?_map, List.getElem?_eq_getElem (by omega)]
  rw [getD_eq (by omega)]
  rfl

theorem twl_at {xs : List Int} {i : Nat} (hi : i < 9) : (twl xs)[i]? = some (iv (xs.getD i 0)) ∨ 9 < xs.length := by
  by_cases h9 : 9 < xs.length
  · exact .inr h9
  left
  unfold twl
  rw [List.getElem?_map]
  by_cases h : i < xs.length
  · rw [List.getElem?_append_left h, List.getElem?_eq_getElem h, getD_eq h]; rfl
  · rw [List.getElem?_append_right (by omega), List.getElem?_replicate, if_pos (by omega), List.getD_eq_getElem?_getD, List.getElem?_eq_none (by omega)]; rfl

theorem isHome_any (xs : List Int) (w : World) (h9 : xs.length ≤ 9) :
    Calls Try.prog 143 #[tw xs] w fun e w' => e = .returned (.bool (homeB xs)) ∧ Below w.heap.size w w' := by
  have hbx : Blk (w.alloc (.cells (twl xs).toArray 65)) w.heap.size 65 (twl xs) := Blk.new w _ (twl xs) _ rfl
  have hb0 := below_new w (.cells (twl xs).toArray 65)
  have hc := (hbx.cell 0).trans ((twl_at (xs := xs) (i := 0) (by omega)).resolve_right (by omega))
  obtain ⟨t, ht⟩ : ∃ t, xs.getD 0 0 = t := ⟨_, rfl⟩
  have HH := Lib.hid (show homeB xs = decide (t = 1) by unfold homeB; rw [ht])
  rw [ht] at hc
  clear ht hbx
  go_enter Try.func143, Try.ntmps143
  go_wp2
  go_ret
  exact ⟨by rw [HH.out]; rfl, hb0⟩

theorem cell_grownX {w w' : World} {g o : Nat} {row : Option Nat} (hg : w.grownBy w' row) (hl : g < w.heap.size) (hne : row ≠ some g) : w'.cell? ⟨g, o, none⟩ = w.cell? ⟨g, o, none⟩ := by
  have e : w'.heap[g]? = w.heap[g]? := hg.block g hl (fun e => hne e.symm)
  simp [World.cell?, e]
theorem range_grownX {w w' : World} {g o : Nat} {cs : List Value} {row : Option Nat} (h : w.rangeAt g o cs) (hg : w.grownBy w' row) (hl : g < w.heap.size) (hne : row ≠ some g) : w'.rangeAt g o cs := fun j v hv => by
  rw [cell_grownX hg hl hne]; exact h j v hv

theorem step_store_tower {ops : Array Oper} {o : Oper} {a : Act} {w : World} {K : Act → World → Prop} {Q : Exit → Act → World → Prop} {E : Prop}
    (hg : o.guard = none) (x y : Operand) (hop : o.op = Op.store 65 x y) (g : Nat) (xs ys : List Int) (hx9 : xs.length ≤ 9) (hy9 : ys.length ≤ 9) (hx : a.eval x = .pointer (some ⟨g, 0, none⟩)) (hy : a.eval y = tw ys) (hb : Blk w g 65 (twl xs))
    (h : ∀ w', Blk w' g 65 (twl ys) → w.grownBy w' (some g) → K (a.put o.dst undef) w') :
    if Region.wanted o (yielded ops a.tmps) = true then Oper.wp Try.prog o a w K Q else E := by
  have hw : Region.wanted o (yielded ops a.tmps) = true := by simp [Region.wanted, hg]
  rw [if_pos hw]
  have h1 := twl_length xs hx9
  have h2 := twl_length ys hy9
  refine wp_store_row 65 x y hop g (twl ys).toArray hx hy 65 _ hb (by rw [Try.infoT]; simp [h2]) (by simp [h1, h2]) (by simp [twl, Value.oneCell']) ?_
  exact h _ (hb.setRow (twl ys)) ⟨rfl, rfl, rfl, by simp [World.setRow], fun k _ hk => setRow_other w g k _ (fun e => hk (by rw [e]))⟩

theorem topTurned_any (xs : List Int) (w : World) (hg : Hid (Pan.Good xs)) :
    Calls Try.prog 144 #[tw xs] w fun e w' => e = .returned (tw (topT xs)) ∧ Below w.heap.size w w' := by
  have h9 := hg.out.le9
  obtain ⟨t, ht⟩ : ∃ t : Nat, xs.getD 0 0 = (t : Int) := ⟨(xs.getD 0 0).toNat, by have := hg.out.at (i := 0) hg.out.1; omega⟩
  have htl : t ≤ xs.length := by have := hg.out.at (i := 0) hg.out.1; omega
  have HT := Lib.hid (show turnL xs t = topT xs by unfold topT; rw [ht, Int.toNat_natCast])
  have hbx : Blk ((w.alloc (.cells (twl xs).toArray 65)).alloc (.cells (twl []).toArray 65)) w.heap.size 65 (twl xs) := (Blk.new w _ (twl xs) _ rfl).alloc _
  have hz : Blk ((w.alloc (.cells (twl xs).toArray 65)).alloc (.cells (twl []).toArray 65)) (w.heap.size + 1) 65 (twl []) := Blk.new _ _ (twl []) _ (by simp)
  have hb0 : Below w.heap.size w ((w.alloc (.cells (twl xs).toArray 65)).alloc (.cells (twl []).toArray 65)) := ((Below.refl _ _).alloc (Nat.le_refl _) _).alloc (by simp) _
  have hc := (hbx.cell 0).trans ((twl_at (xs := xs) (i := 0) (by omega)).resolve_right (by omega))
  rw [ht] at hc
  have HC := Lib.hid (show ((w.alloc (.cells (twl xs).toArray 65)).alloc (.cells #[.int .i64 0, .int .i64 0, .int .i64 0, .int .i64 0, .int .i64 0, .int .i64 0, .int .i64 0, .int .i64 0, .int .i64 0] 65)).cell? ⟨w.heap.size, 0, none⟩ = some (.int .i64 (t : Int)) from hc)
  have h9T : (topT xs).length ≤ 9 := by rw [topT_length]; exact h9
  clear ht hc
  go_enter Try.func144, Try.ntmps144
  go_wp2_with (first | (refine wpList_load_tower rfl _ rfl w.heap.size xs h9 rfl hbx ?_; have hc := HC.out))
  refine (turned_any _ _ _ h9 htl).mono ?_
  rintro e w2 ⟨rfl, hb2⟩
  rw [HT.out]
  have hz2 := hz.below hb2 hz.lt
  have hB2 := hb0.trans (hb2.mono hb0.size)
  clear hbx hz hb2 hb0
  go_wp2_with (first | (refine wpList_store_tower rfl _ _ rfl (w.heap.size + 1) [] (topT xs) (by simp) h9T rfl rfl hz2 ?_; intro w5 hbT5 hgr5))
  have hB5 := hB2.grown hgr5 hB2.size (by intro k hk; cases hk; omega)
  exact bodyPost_ret (results_tower rfl _ _ (w.heap.size + 1) (topT xs) h9T rfl hbT5) rfl ⟨rfl, hB5⟩

end Go.Proofs.Ytieongcagkfedaa

