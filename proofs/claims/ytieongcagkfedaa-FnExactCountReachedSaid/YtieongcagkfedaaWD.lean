import Derived.Test.YtieongcagkfedaaWC
import Derived.Test.YtieongcagkfedaaMF
import Derived.Test.YtieongcagkfedaaI4
import Derived.Test.YtieongcagkfedaaLayC
namespace Go.Pan
open Go Go.RowKit
theorem Blk.shape {w : World} {g : Nat} {ty : TypeId} {cs : List Value} (h : Blk w g ty cs) : w.shape? g = some (ty, cs.length) := by
  unfold Blk at h
  unfold World.shape?
  rw [h]
  simp
theorem pad9_del {xs : List Int} {a : Nat} (ha : a < xs.length) (h9 : xs.length ≤ 9) : ((pad9 xs).take 9).take a ++ ((pad9 xs).take 9).drop (a + 1) ++ List.replicate 1 0 = pad9 (delL xs a) := by
  have e9 : (pad9 xs).take 9 = pad9 xs := List.take_of_length_le (by rw [pad9_length h9]; omega)
  rw [e9]
  unfold pad9
  rw [delL_length ha, List.take_append_of_le_length (by omega), List.drop_append_of_le_length (by omega)]
  unfold delL
  have e : 9 - (xs.length - 1) = (9 - xs.length) + 1 := by omega
  rw [e, show List.replicate (9 - xs.length + 1) (0 : Int) = List.replicate (9 - xs.length) 0 ++ [0] from List.replicate_succ']
  simp only [List.append_assoc]
  rfl
theorem pad9_take8 {ds : List Int} (h8 : ds.length ≤ 8) : pad9 ds = (pad9 ds).take 8 ++ [0] := by
  unfold pad9
  have e : 9 - ds.length = (8 - ds.length) + 1 := by omega
  rw [e, List.replicate_succ', ← List.append_assoc, List.take_append_of_le_length (by simp; omega), List.take_of_length_le (by simp; omega)]
theorem pad9_ins {ds : List Int} {b : Nat} {x : Int} (hb : b ≤ ds.length) (h8 : ds.length ≤ 8) : ((pad9 ds).take 8).take b ++ [x] ++ ((pad9 ds).take 8).drop b = pad9 (ds.take b ++ [x] ++ ds.drop b) := by
  have e8 : (pad9 ds).take 8 = ds ++ List.replicate (8 - ds.length) 0 := by
    unfold pad9
    have e : 9 - ds.length = (8 - ds.length) + 1 := by omega
    rw [e, List.replicate_succ', ← List.append_assoc, List.take_append_of_le_length (by simp; omega), List.take_of_length_le (by simp; omega)]
  rw [e8, List.take_append_of_le_length hb, List.drop_append_of_le_length hb]
  unfold pad9
  have hl : (ds.take b ++ [x] ++ ds.drop b).length = ds.length + 1 := by simp; omega
  rw [hl, show 9 - (ds.length + 1) = 8 - ds.length by omega]
  simp only [List.append_assoc]

end Go.Pan

namespace Go.Proofs.Ytieongcagkfedaa
open Go Go.RowKit Go.Pan

theorem delTw_any (xs : List Int) (b a : Nat) (ty : TypeId) (w : World) (hb : Blk w b ty (twl xs)) (ha : a < xs.length) (h9 : xs.length ≤ 9) :
    Calls Try.prog 151 #[.slice (some ⟨b, 0, none⟩) 9 9, .int .i64 a, .int .i64 ((a : Int) + 1)] w fun e w' => e = .returned (.slice (some ⟨b, 0, none⟩) 8 9) ∧ Blk w' b ty (twl (delL xs a)) ∧ w.grownBy w' (some b) := by
  have h := Any.slices_Delete_int_cells Ytieongcagkfedaa.delLay b 0 9 9 a (a + 1) (pad9 xs) w (by rw [pad9_length h9]; omega) (by omega) (by omega) (by omega) (by omega) (fun j hj => by
    rw [Nat.zero_add, hb.cell j, twl_pad, List.getElem?_map, List.getElem?_eq_getElem hj, getD_eq hj]; rfl) (fun j _ => by rw [Nat.zero_add]; exact hb.frozen j)
  rw [Int.natCast_add, Int.natCast_one] at h
  change Calls Try.prog 151 _ _ _ at h
  refine h.mono ?_
  rintro e w' ⟨rfl, q, rfl⟩
  rw [show a + 1 - a = 1 by omega, pad9_del ha h9]
  refine ⟨rfl, ?_, grownBy_setCells _ _ ⟨rfl, rfl, rfl, Nat.le_refl _, fun _ _ _ => rfl⟩⟩
  have hl : ((pad9 (delL xs a)).map (Value.int .i64)).length = 9 := by rw [List.length_map, pad9_length (by rw [delL_length ha]; omega)]
  have hd : Blk (w.drewN q) b ty (twl xs) := hb
  have h2 := hd.setCells ((pad9 (delL xs a)).map (Value.int .i64)) 0 (by rw [hl, twl_length xs h9]; omega)
  rw [hl, List.drop_of_length_le (by rw [twl_length xs h9]; omega)] at h2
  simpa [twl_pad] using h2

theorem insTw_any (ds : List Int) (g b vb : Nat) (x : Int) (ty : TypeId) (w : World) (hb : Blk w g ty (twl ds)) (hv : Blk w vb 3 [.int .i64 x]) (hne : vb ≠ g) (hbl : b ≤ ds.length) (h8 : ds.length ≤ 8) :
    Calls Try.prog 152 #[.slice (some ⟨g, 0, none⟩) 8 9, .int .i64 b, .slice (some ⟨vb, 0, none⟩) 1 1] w fun e w' => e = .returned (.slice (some ⟨g, 0, none⟩) 9 9) ∧ Blk w' g ty (twl (ds.take b ++ [x] ++ ds.drop b)) ∧ w.grownBy w' (some g) := by
  have hp9 := pad9_length (show ds.length ≤ 9 by omega)
  have hres := pad9_ins (x := x) hbl h8
  have h88 := pad9_take8 h8
  obtain ⟨cs, hcs⟩ : ∃ cs, (pad9 ds).take 8 = cs := ⟨_, rfl⟩
  rw [hcs] at hres h88
  have hcl : cs.length = 8 := by rw [← hcs, List.length_take]; omega
  have hbc : Blk w g ty ((cs ++ [0]).map iv) := by rw [← h88]; exact hb
  have hcell : ∀ j v, (cs.map iv)[j]? = some v → w.cell? ⟨g, 0 + j, none⟩ = some v := fun j v hj => by
    have hjl : j < 8 := by have := (List.getElem?_eq_some_iff.1 hj).1; rw [List.length_map] at this; omega
    rw [Nat.zero_add, hbc.cell j, List.map_append, List.getElem?_append_left (by rw [List.length_map]; omega)]; exact hj
  have hsome : ∀ j, j < 9 → (w.cell? ⟨g, 0 + j, none⟩).isSome = true := fun j hj => by
    rw [Nat.zero_add, hbc.cell j, List.getElem?_eq_getElem (by simp; omega)]; rfl
  have hvc : ∀ j v, ([Value.int .i64 x])[j]? = some v → w.cell? ⟨vb, 0 + j, none⟩ = some v := fun j v hj => by rw [Nat.zero_add, hv.cell j]; exact hj
  have hone : ∀ v ∈ cs.map iv, v.oneCell' = true := fun v hv => by obtain ⟨y, _, rfl⟩ := List.mem_map.1 hv; rfl
  by_cases h : b = 8
  · subst h
    have hc := Any2.slices_Insert_int_end_room Ytieongcagkfedaa.insLay g 0 8 9 vb 0 1 1 [.int .i64 x] w (by omega) (by omega) (by omega) rfl (fun j hj => by rw [show 0 + 8 + j = 0 + (8 + j) by omega]; exact hsome _ (by omega)) (fun j _ => hbc.frozen _) hvc (by simp [Value.oneCell'])
    change Calls Try.prog 152 _ _ _ at hc
    refine hc.mono ?_
    rintro e w' ⟨rfl, rfl⟩
    refine ⟨rfl, ?_, grownBy_setCells _ _ (World.grownBy.refl _ _)⟩
    have h2 := hbc.setCells [.int .i64 x] (0 + 8) (by simp; omega)
    have e2 : twl (ds.take 8 ++ [x] ++ ds.drop 8) = ((cs ++ [0]).map iv).take (0 + 8) ++ [.int .i64 x] ++ ((cs ++ [0]).map iv).drop (0 + 8 + [Value.int .i64 x].length) := by
      rw [twl_pad, ← hres, List.take_of_length_le (by omega), List.drop_of_length_le (by omega)]
      rw [List.map_append (l₁ := cs) (l₂ := [0]), List.take_append_of_le_length (by rw [List.length_map]; omega), List.take_of_length_le (by rw [List.length_map]; omega), List.drop_of_length_le (by simp; omega)]
      simp
    rw [e2]; exact h2
  · have hc := Any2.slices_Insert_int_shift Ytieongcagkfedaa.insLay g 0 8 9 b vb 0 1 1 (cs.map iv) [.int .i64 x] w (by omega) (by omega) (by omega) (by omega) hne (by rw [List.length_map]; exact hcl) rfl hcell (fun j hj => hsome j (by omega)) (fun j _ => hbc.frozen _) hvc hone (by simp [Value.oneCell']) 3 ty 1 9 hv.shape (by rw [hbc.shape]; simp; omega) (by omega) (hv.frozen _) (hv.frozen _)
    change Calls Try.prog 152 _ _ _ at hc
    refine hc.mono ?_
    rintro e w' ⟨rfl, rfl⟩
    refine ⟨rfl, ?_, grownBy_setCells _ _ (grownBy_setCells _ _ ⟨rfl, rfl, rfl, Nat.le_refl _, fun _ _ _ => rfl⟩)⟩
    have hbd : Blk w.drew g ty ((cs ++ [0]).map iv) := hbc
    have h1 := hbd.setCells ((cs.map iv).drop b) (0 + (b + 1)) (by simp; omega)
    have h2 := h1.setCells [.int .i64 x] (0 + b) (by simp; omega)
    have e2 : twl (ds.take b ++ [x] ++ ds.drop b) = (cs.map iv).take b ++ [.int .i64 x] ++ (cs.map iv).drop b := by
      rw [twl_pad, ← hres]
      simp
    rw [e2]
    have hb9 : b < 8 := by omega
    have e3 : (((cs ++ [0]).map iv).take (0 + (b + 1)) ++ (cs.map iv).drop b ++ ((cs ++ [0]).map iv).drop (0 + (b + 1) + ((cs.map iv).drop b).length)) = (cs.map iv).take (b + 1) ++ (cs.map iv).drop b := by
      have hml : (cs.map iv).length = 8 := by rw [List.length_map]; exact hcl
      have hdl : ((cs.map iv).drop b).length = 8 - b := by rw [List.length_drop, hml]
      have e5 : (cs.map iv ++ [0].map iv).drop (b + 1 + ((cs.map iv).drop b).length) = [] := List.drop_of_length_le (by rw [hdl, List.length_append, hml]; simp; omega)
      rw [List.map_append, Nat.zero_add, e5, List.take_append_of_le_length (by omega), List.append_nil]
    rw [e3] at h2
    have e4 : ((cs.map iv).take (b + 1) ++ (cs.map iv).drop b).take (0 + b) ++ [Value.int .i64 x] ++ ((cs.map iv).take (b + 1) ++ (cs.map iv).drop b).drop (0 + b + [Value.int .i64 x].length) = (cs.map iv).take b ++ [.int .i64 x] ++ (cs.map iv).drop b := by
      have hl : ((cs.map iv).take (b + 1)).length = b + 1 := by rw [List.length_take, List.length_map, hcl]; omega
      rw [Nat.zero_add, List.take_append_of_le_length (by omega), List.take_take, Nat.min_eq_left (by omega)]
      congr 1
      rw [show b + [Value.int .i64 x].length = b + 1 from rfl, List.drop_append_of_le_length (by omega), List.drop_of_length_le (by omega), List.nil_append]
    rw [e4] at h2
    exact h2

set_option maxHeartbeats 1600000 in
set_option maxRecDepth 100000 in
theorem inserted_any (xs : List Int) (n : Int) (p : Int × Int) (w : World) (h9 : xs.length ≤ 9) (hp : Hid (insB n p = true)) (hl : Hid ((xs.length : Int) = n)) :
    Calls Try.prog 147 #[tw xs, .agg #[.int .i64 p.1, .int .i64 p.2]] w fun e w' => e = .returned (tw (insT xs p)) ∧ Below w.heap.size w w' := by
  have hB := insB_iff.1 hp.out
  have hln := hl.out
  obtain ⟨p0, p1⟩ := p
  simp only at hB
  obtain ⟨a, rfl⟩ : ∃ a : Nat, p0 = (a : Int) + 1 := ⟨(p0 - 1).toNat, by omega⟩
  obtain ⟨b, rfl⟩ : ∃ b : Nat, p1 = (b : Int) + 1 := ⟨(p1 - 1).toNat, by omega⟩
  have ha : a < xs.length := by omega
  have hb : b < xs.length := by omega
  have hDl : (delL xs a).length = xs.length - 1 := delL_length ha
  have hE : insT xs ((a : Int) + 1, (b : Int) + 1) = (delL xs a).take b ++ [xs[a]] ++ (delL xs a).drop b := by
    unfold insT insL
    simp only
    rw [show ((a : Int) + 1 - 1).toNat = a by omega, show ((b : Int) + 1 - 1).toNat = b by omega, getD_eq ha]
  have hil : (insT xs ((a : Int) + 1, (b : Int) + 1)).length = xs.length := insT_length hp.out hln
  obtain ⟨W, hW⟩ : ∃ W, W = (((w.alloc (.cells (twl xs).toArray 65)).alloc (.cells #[.int .i64 ((a : Int) + 1), .int .i64 ((b : Int) + 1)] 126)).alloc (.cells (twl []).toArray 65)) := ⟨_, rfl⟩
  have hbx : Blk W w.heap.size 65 (twl xs) := by rw [hW]; exact ((Blk.new w _ (twl xs) _ rfl).alloc _).alloc _
  have hz : Blk W (w.heap.size + 1 + 1) 65 (twl []) := by rw [hW]; exact Blk.new _ _ (twl []) _ (by simp)
  have hkk : Blk W (w.heap.size + 1) 126 [.int .i64 ((a : Int) + 1), .int .i64 ((b : Int) + 1)] := by rw [hW]; exact (Blk.new _ _ _ _ (by simp)).alloc _
  have hb0 : Below w.heap.size w W := by rw [hW]; exact (((Below.refl _ _).alloc (Nat.le_refl _) _).alloc (by simp) _).alloc (by simp; omega) _
  have hk0 : W.cell? ⟨w.heap.size + 1, 0, none⟩ = some (.int .i64 ((a : Int) + 1)) := hkk.cell 0
  have hcx := hbx.cell a
  rw [twl, List.getElem?_map, List.getElem?_append_left ha, List.getElem?_eq_getElem ha] at hcx
  obtain ⟨x, hx⟩ : ∃ x, xs[a] = x := ⟨_, rfl⟩
  rw [hx] at hcx hE
  have hcx' : W.cell? ⟨w.heap.size, a, none⟩ = some (.int .i64 x) := hcx
  obtain ⟨ds, hds⟩ : ∃ ds, delL xs a = ds := ⟨_, rfl⟩
  have HDS := Lib.hid hds
  rw [hds] at hE hDl
  have hbl : b ≤ ds.length := by omega
  have h8 : ds.length ≤ 8 := by omega
  have hwa : IntKind.i64.wrap (a : Int) = (a : Int) := IntWalk.i64_in _ (by omega)
  have hwb : IntKind.i64.wrap (b : Int) = (b : Int) := IntWalk.i64_in _ (by omega)
  have HWA := Lib.hid hwa
  have HWB := Lib.hid hwb
  have HE := Lib.hid hE
  have HIL := Lib.hid hil
  have HAL := Lib.hid ha
  have ha9 : (a : Int) < 9 := by omega
  have hWs : W.heap.size = w.heap.size + 3 := by rw [hW]; simp
  have HW := Lib.hid hW
  have HWS := Lib.hid hWs
  have HBX := Lib.hid hbx
  have HZ := Lib.hid hz
  have HKK := Lib.hid hkk
  clear hB hln hl hp hDl hE hil hW hcx hx hds hwa hwb hb ha hWs hbx hz hkk
  go_enter Try.func147, Try.ntmps147
  go_upto_region 1 with fail
  generalize hWW : World.alloc (World.alloc (World.alloc w _) _) _ = W2
  have hWe : W = W2 := HW.out.trans hWW
  clear hWW
  subst hWe
  go_wp2_with fail
  refine wp_region_held_drew (S := (fun w' => w'.cell? ⟨w.heap.size + 1, 0, none⟩ = some (.int .i64 ((a : Int) + 1)))) (by kernel_rfl) (hk0) (fun hHeld => ?_)
  refine wpAnyH_take (i := 0) (v := ?_) rfl (by kernel_rfl) (by kernel_rfl) (by kernel_rfl) (fun _ _ _ h => h) (Or.inl ⟨by rfl, ?_⟩) (by assumption) ?_
  rotate_left
  · intro w _; go_simp; with_reducible rfl
  try simp only [List.getElem_toArray, List.getElem_cons_zero, Act.put, List.setIfInBounds_toArray, List.set_cons_zero, List.set_cons_succ]
  refine wpAnyH_take (i := 1) (v := ?_) rfl (by kernel_rfl) (by kernel_rfl) (by kernel_rfl) (fun _ _ _ h => h) (Or.inl ⟨by rfl, ?_⟩) (by assumption) ?_
  rotate_left
  · intro w _; go_simp; with_reducible rfl
  try simp only [List.getElem_toArray, List.getElem_cons_zero, List.getElem_cons_succ, Act.put, List.setIfInBounds_toArray, List.set_cons_zero, List.set_cons_succ]
  refine wpAnyH_take (i := 2) (v := ?_) rfl (by kernel_rfl) (by kernel_rfl) (by kernel_rfl) (fun _ _ _ h => h) (Or.inl ⟨by rfl, ?_⟩) (by assumption) ?_
  rotate_left
  · intro w hSw; obtain hx0 := hSw; (go_simp <;> with_reducible rfl)
  try simp only [List.getElem_toArray, List.getElem_cons_zero, List.getElem_cons_succ, Act.put, List.setIfInBounds_toArray, List.set_cons_zero, List.set_cons_succ]
  refine wpAnyH_take (i := 3) (v := ?_) rfl (by kernel_rfl) (by kernel_rfl) (by kernel_rfl) (fun _ _ _ h => h) (Or.inl ⟨by rfl, ?_⟩) (by assumption) ?_
  rotate_left
  · intro w _; go_simp; with_reducible rfl
  try simp only [List.getElem_toArray, List.getElem_cons_zero, List.getElem_cons_succ, Act.put, List.setIfInBounds_toArray, List.set_cons_zero, List.set_cons_succ]
  rw [HWA.out]
  refine wpAnyH_take (i := 4) (v := ?_) rfl (by kernel_rfl) (by kernel_rfl) (by kernel_rfl) (fun _ _ _ h => h) (Or.inl ⟨by rfl, ?_⟩) (by assumption) ?_
  rotate_left
  · intro w _; go_simp; with_reducible rfl
  try simp only [List.getElem_toArray, List.getElem_cons_zero, List.getElem_cons_succ, Act.put, List.setIfInBounds_toArray, List.set_cons_zero, List.set_cons_succ]
  refine wpAnyH_take (i := 5) (v := ?_) rfl (by kernel_rfl) (by kernel_rfl) (by kernel_rfl) (fun _ _ _ h => h) (Or.inl ⟨by rfl, ?_⟩) (by assumption) ?_
  rotate_left
  · intro w hSw; obtain hx0 := hSw; (go_simp <;> with_reducible rfl)
  try simp only [List.getElem_toArray, List.getElem_cons_zero, List.getElem_cons_succ, Act.put, List.setIfInBounds_toArray, List.set_cons_zero, List.set_cons_succ]
  refine wpAnyH_ready (rs := [6]) (by kernel_rfl) (by simp) ?_
  refine AllReadyH.cons rfl (fun K hK => ?_) AllReadyH.nil
  go_simp
  refine (delTw_any xs w.heap.size a _ _ HBX.out.drew HAL.out h9).mono ?_
  rintro e w2 ⟨rfl, hb2, hg2⟩
  go_wp2_with fail
  refine hK.out _ _ (((cell_grownX hg2 (by have := HWS.out; show w.heap.size + 1 < W.heap.size; omega) (by simp)).trans hHeld)) (fun hHeld => ?_)
  clear hK K
  try simp only [List.getElem_toArray, List.getElem_cons_zero, List.getElem_cons_succ, Act.put, List.setIfInBounds_toArray, List.set_cons_zero, List.set_cons_succ]
  refine wpAnyH_take (i := 7) (v := ?_) rfl (by kernel_rfl) (by kernel_rfl) (by kernel_rfl) (fun _ _ _ h => h) (Or.inl ⟨by rfl, ?_⟩) (by assumption) ?_
  rotate_left
  · intro w _; go_simp; with_reducible rfl
  try simp only [List.getElem_toArray, List.getElem_cons_zero, List.getElem_cons_succ, Act.put, List.setIfInBounds_toArray, List.set_cons_zero, List.set_cons_succ]
  refine wpAnyH_done (by kernel_rfl) ?_ _
  have hk2 : Blk w2 (w.heap.size + 1) 126 [.int .i64 ((a : Int) + 1), .int .i64 ((b : Int) + 1)] := HKK.out.drew.grown hg2 (by simp)
  have hz2 : Blk w2 (w.heap.size + 1 + 1) 65 (twl []) := HZ.out.drew.grown hg2 (by simp; omega)
  have hB2 := hb0.drew.grown hg2 (by have := HWS.out; show w.heap.size ≤ W.heap.size; omega) (fun k hk => by simp at hk; omega)
  have hk21 : w2.cell? ⟨w.heap.size + 1, 1, none⟩ = some (.int .i64 ((b : Int) + 1)) := hk2.cell 1
  rw [HDS.out] at hb2
  have HB2 := Lib.hid hb2
  have HZ2 := Lib.hid hz2
  have HK2 := Lib.hid hk2
  have hz2s : w.heap.size + 3 ≤ w2.heap.size := by have := hg2.size; have h : W.drew.heap.size = W.heap.size := rfl; have := HWS.out; omega
  clear hHeld hb2 hz2 hk2 hk0 hcx' hb0 hg2
  go_wp2_with fail
  refine wp_region_held_drew (S := (fun w' => w'.cell? ⟨w.heap.size + 1, 1, none⟩ = some (.int .i64 ((b : Int) + 1)))) (by kernel_rfl) (hk21) (fun hHeld => ?_)
  refine wpAnyH_take (i := 0) (v := ?_) rfl (by kernel_rfl) (by kernel_rfl) (by kernel_rfl) (fun _ _ _ h => h) (Or.inl ⟨by rfl, ?_⟩) (by assumption) ?_
  rotate_left
  · intro w _; go_simp; with_reducible rfl
  try simp only [List.getElem_toArray, List.getElem_cons_zero, Act.put, List.setIfInBounds_toArray, List.set_cons_zero, List.set_cons_succ]
  refine wpAnyH_take (i := 1) (v := ?_) rfl (by kernel_rfl) (by kernel_rfl) (by kernel_rfl) (fun _ _ _ h => h) (Or.inl ⟨by rfl, ?_⟩) (by assumption) ?_
  rotate_left
  · intro w _; go_simp; with_reducible rfl
  try simp only [List.getElem_toArray, List.getElem_cons_zero, List.getElem_cons_succ, Act.put, List.setIfInBounds_toArray, List.set_cons_zero, List.set_cons_succ]
  refine wpAnyH_take (i := 2) (v := ?_) rfl (by kernel_rfl) (by kernel_rfl) (by kernel_rfl) (fun _ _ _ h => h) (Or.inl ⟨by rfl, ?_⟩) (by assumption) ?_
  rotate_left
  · intro w _; go_simp; with_reducible rfl
  try simp only [List.getElem_toArray, List.getElem_cons_zero, List.getElem_cons_succ, Act.put, List.setIfInBounds_toArray, List.set_cons_zero, List.set_cons_succ]
  refine wpAnyH_take (i := 3) (v := ?_) rfl (by kernel_rfl) (by kernel_rfl) (by kernel_rfl) (fun _ _ _ h => h) (Or.inl ⟨by rfl, ?_⟩) (by assumption) ?_
  rotate_left
  · intro w hSw; obtain hx0 := hSw; (go_simp <;> with_reducible rfl)
  try simp only [List.getElem_toArray, List.getElem_cons_zero, List.getElem_cons_succ, Act.put, List.setIfInBounds_toArray, List.set_cons_zero, List.set_cons_succ]
  refine wpAnyH_take (i := 4) (v := ?_) rfl (by kernel_rfl) (by kernel_rfl) (by kernel_rfl) (fun _ _ _ h => h) (Or.inl ⟨by rfl, ?_⟩) (by assumption) ?_
  rotate_left
  · intro w _; go_simp; with_reducible rfl
  try simp only [List.getElem_toArray, List.getElem_cons_zero, List.getElem_cons_succ, Act.put, List.setIfInBounds_toArray, List.set_cons_zero, List.set_cons_succ]
  rw [HWB.out]
  refine wpAnyH_take (i := 5) (v := ?_) rfl (by kernel_rfl) (by kernel_rfl) (by kernel_rfl) (fun _ _ _ h => h) (Or.inl ⟨by rfl, ?_⟩) (by assumption) ?_
  rotate_left
  · intro w _; go_simp; with_reducible rfl
  try simp only [List.getElem_toArray, List.getElem_cons_zero, List.getElem_cons_succ, Act.put, List.setIfInBounds_toArray, List.set_cons_zero, List.set_cons_succ]
  refine wpAnyH_ready (rs := [6]) (by kernel_rfl) (by simp) ?_
  refine AllReadyH.cons rfl (fun K hK => ?_) AllReadyH.nil
  go_simp
  obtain ⟨m3, e3⟩ : ∃ y, y = (w2.alloc (.cells #[.int .i64 x] 3)).drew := ⟨_, rfl⟩
  have hvb : Blk m3 w2.heap.size 3 [.int .i64 x] := by rw [e3]; exact (Blk.new w2 3 [.int .i64 x] _ rfl).drew
  have hg3 : Blk m3 w.heap.size 65 (twl ds) := by rw [e3]; exact (HB2.out.alloc _).drew
  have hK3 : Blk m3 (w.heap.size + 1) 126 [.int .i64 ((a : Int) + 1), .int .i64 ((b : Int) + 1)] := by rw [e3]; exact (HK2.out.alloc _).drew
  have hZ3 : Blk m3 (w.heap.size + 1 + 1) 65 (twl []) := by rw [e3]; exact (HZ2.out.alloc _).drew
  have hB3 : Below w.heap.size w m3 := by rw [e3]; exact (hB2.alloc hB2.size _).drew
  refine hK.out _ _ (by rw [← e3]; exact hK3.cell 1) (fun hHeld => ?_)
  rw [← e3] at hHeld ⊢
  clear hK K e3
  try simp only [List.getElem_toArray, List.getElem_cons_zero, List.getElem_cons_succ, Act.put, List.setIfInBounds_toArray, List.set_cons_zero, List.set_cons_succ]
  refine wpAnyH_ready (rs := [7]) (by kernel_rfl) (by simp) ?_
  refine AllReadyH.cons rfl (fun K hK => ?_) AllReadyH.nil
  go_simp
  refine (insTw_any ds w.heap.size b w2.heap.size x _ _ hg3 hvb (by omega) hbl h8).mono ?_
  rintro e w4 ⟨rfl, hb4, hg4⟩
  go_wp2_with fail
  refine hK.out _ _ (((cell_grownX hg4 hK3.lt (by simp)).trans hHeld)) (fun hHeld => ?_)
  clear hK K
  try simp only [List.getElem_toArray, List.getElem_cons_zero, List.getElem_cons_succ, Act.put, List.setIfInBounds_toArray, List.set_cons_zero, List.set_cons_succ]
  have hk4 : Blk w4 (w.heap.size + 1) 126 [.int .i64 ((a : Int) + 1), .int .i64 ((b : Int) + 1)] := hK3.grown hg4 (by simp)
  have hz4 : Blk w4 (w.heap.size + 1 + 1) 65 (twl []) := hZ3.grown hg4 (by simp; omega)
  have hB4 := hB3.grown hg4 hB3.size (fun k hk => by simp at hk; omega)
  obtain ⟨R, hR⟩ : ∃ R, ds.take b ++ [x] ++ ds.drop b = R := ⟨_, rfl⟩
  have HR := Lib.hid hR
  rw [hR] at hb4
  have hRl : R.length ≤ 9 := by rw [← hR, ← HE.out, HIL.out]; exact h9
  have hR9 := twl_length R hRl
  have hcopy : ∀ ty, (Builtin.copy_ #[22, 22] ty #[.slice (some ⟨w.heap.size, 0, none⟩) 9 9, .slice (some ⟨w.heap.size, 0, none⟩) 9 9]).run Try.prog w4 = .ok (goInt (twl R).length) (w4.setCells w.heap.size 0 (twl R)) := fun ty =>
    run_copy_cells w4 _ _ ty 3 w.heap.size 0 9 9 ⟨w.heap.size, 0, none⟩ 9 9 (twl R) Try.underlying22 Try.infoI (by rw [hR9]; rfl) (fun j v hj => by rw [Addr.add_lit, Nat.zero_add, hb4.cell j]; exact hj)
      (fun j hj => by rw [Nat.zero_add, hb4.cell j, List.getElem?_eq_getElem hj]; rfl) (fun j _ => by rw [Nat.zero_add]; exact hb4.frozen j) (fun v hv => by unfold twl at hv; obtain ⟨y, _, rfl⟩ := List.mem_map.1 hv; rfl)
  have hb5 := hb4.setCells (twl R) 0 (by omega)
  rw [List.take_zero, List.nil_append, Nat.zero_add, List.drop_of_length_le (by omega), List.append_nil] at hb5
  have hg5 := grownBy_setCells (twl R) 0 (World.grownBy.refl w4 (some w.heap.size))
  obtain ⟨w5, hw5⟩ : ∃ y, w4.setCells w.heap.size 0 (twl R) = y := ⟨_, rfl⟩
  rw [hw5] at hb5 hg5
  simp only [hw5] at hcopy
  have hk5 := hk4.grown hg5 (by simp)
  have hz5 := hz4.grown hg5 (by simp; omega)
  have hB5 := hB4.grown hg5 hB4.size (fun k hk => by simp at hk; omega)
  refine wpAnyH_ready (rs := [8]) (by kernel_rfl) (by simp) ?_
  refine AllReadyH.cons rfl (fun K hK => ?_) AllReadyH.nil
  refine step_copy_runI rfl _ _ 22 22 rfl _ _ rfl rfl (hcopy _) ?_
  refine hK.out _ _ (hk5.cell 1) (fun hHeld => ?_)
  clear hK K hcopy hw5
  try simp only [List.getElem_toArray, List.getElem_cons_zero, List.getElem_cons_succ, Act.put, List.setIfInBounds_toArray, List.set_cons_zero, List.set_cons_succ]
  refine wpAnyH_done (by kernel_rfl) ?_ _
  have h9' : (twl R).length = 9 := hR9
  have hz9 : (twl []).length = 9 := by simp [twl]
  have hs : (Try.prog.info? 65).map (·.size) = some (twl R).toArray.size := by rw [Try.infoT]; simp [h9']
  have h0 : ((twl []).toArray).size = (twl R).toArray.size := by simp [h9', hz9]
  have hon : (twl R).toArray.all (·.oneCell') = true := by simp [twl, Value.oneCell']
  have hr := hz5.setRow (twl R)
  have hb3 := below_setRow hB5 (by omega : w.heap.size ≤ w.heap.size + 1 + 1) (twl R).toArray
  have HS := Lib.hid h9'
  clear h9' hz9 hR9 hR hHeld hb4 hk4 hz4 hB4 hvb hg3 hK3 hZ3 hB3 hg4 hg5 hk5 hB5 hk21
  go_wp2_with (first | (refine wpList_load_row rfl 65 _ rfl w.heap.size rfl 65 _ _ _ hb5 Try.underlying65 rfl hs ?_) | (refine wpList_store_row rfl 65 _ _ rfl (w.heap.size + 1 + 1) (twl R).toArray rfl rfl 65 _ hz5 hs h0 hon ?_))
  exact bodyPost_ret (results_cell_row rfl _ _ (w.heap.size + 1 + 1) 65 _ _ _ rfl hr Try.underlying65 rfl hs) rfl ⟨by rw [HE.out, HR.out], hb3⟩

end Go.Proofs.Ytieongcagkfedaa

