import Derived.Test.YtajdlioojibmdaaV18
import Derived.Test.YtajdlioojibmdaaI4
import Derived.Test.YtajdlioojibmdaaU4
namespace Go.Pan
open Go Go.RowKit
/-- 'append(s, x...)' of nothing, s being full -/
theorem wpList_app_zero {P : Program} {w : World} {ops : Array Oper} {rest : List Oper} {o : Oper} {a : Act} {Q : Exit → Act → World → Prop} (hgd : o.guard = none) (s x : Operand) (t : TypeId)
    (ho : o.op = .call { callee := .builtin .append, args := #[s, x], argTypes := #[t, t] })
    (e : TypeId) (i : TypeInfo) (ht : P.underlying t = some (.slice e)) (hi : P.info? e = some i)
    (b off n : Nat) (hs : a.eval s = .slice (some ⟨b, off, none⟩) n n) (ad : Addr) (c : Nat) (hx : a.eval x = .slice (some ad) 0 c)
    (h : wpList P ops Q rest (a.put o.dst (.slice (some ⟨b, off, none⟩) n n)) w) : wpList P ops Q (o :: rest) a w := by
  have hrun := run_append_room_cells (P := P) w t o.type e i ht hi b off n n ad 0 c [] (by simp) (by simp) (by simp) (Nat.le_refl _) (by simp) (by simp)
  have hw : w.setCells b (off + n * i.size) [] = w := rfl
  rw [hw, Nat.add_zero] at hrun
  refine wpList_plain hgd fun K hK => ?_
  unfold Oper.wp
  simp [execOp, ho, resolve, invoke, builtin, hs, hx, hrun, Result.andThen]
  exact hK _ _ h
theorem part_get (xs : List Int) (b c j : Nat) (hc : c ≤ xs.length) {u : Value} (h : (((xs.take c).drop b).map iv)[j]? = some u) : (twl xs)[b + j]? = some u := by
  rw [List.getElem?_map, List.getElem?_drop, List.getElem?_take] at h
  by_cases hb : b + j < c
  · rw [if_pos hb] at h
    unfold twl
    rw [List.getElem?_map, List.getElem?_append_left (by omega)]
    exact h
  · rw [if_neg hb] at h
    simp at h
theorem tw_part {w : World} {g : Nat} {ty : TypeId} {xs : List Int} (h : Blk w g ty (twl xs)) (b c : Nat) (hc : c ≤ xs.length) : ∀ (j : Nat) (u : Value), (((xs.take c).drop b).map iv)[j]? = some u → w.cell? ((⟨g, b, none⟩ : Addr).add j) = some u := fun j u hj => by
  rw [Addr.add_lit, h.cell]
  exact part_get xs b c j hc hj
theorem splice_ex (xs : List Int) (a b c d : Nat) (h1 : a ≤ b) (h2 : b ≤ c) (h3 : c ≤ d) (h4 : d ≤ xs.length) :
    splice (twl xs) a ((((xs.take d).drop c) ++ ((xs.take c).drop b ++ (xs.take b).drop a)).map iv) = twl (exL xs a b c d) := by
  have hl : (((xs.take d).drop c) ++ ((xs.take c).drop b ++ (xs.take b).drop a)).length = d - a := by
    simp only [List.length_append, List.length_drop, List.length_take]; omega
  have e1 : (twl xs).take a = (xs.take a).map iv := by
    unfold twl
    rw [← List.map_take, List.take_append_of_le_length (by omega)]
  have e2 : (twl xs).drop d = (xs.drop d ++ List.replicate (9 - xs.length) 0).map iv := by
    unfold twl
    rw [← List.map_drop, List.drop_append_of_le_length h4]
  unfold splice
  rw [List.length_map, hl, show a + (d - a) = d by omega, e1, e2]
  unfold twl
  rw [exL_length xs a b c d h1 h2 h3]
  unfold exL
  simp only [List.map_append, List.append_assoc]

end Go.Pan

namespace Go.Proofs.Ytajdlioojibmdaa
open Go Go.RowKit Go.Pan

theorem ints_one (l : List Int) : ∀ u ∈ l.map iv, u.oneCell' = true := fun u hu => by
  obtain ⟨x, _, rfl⟩ := List.mem_map.1 hu
  rfl

/-- a part of a tower as a full slice of one's own -/
theorem tw_own {w : World} {g : Nat} {ty : TypeId} {xs : List Int} (h : Blk w g ty (twl xs)) (h9 : xs.length ≤ 9) (b c : Nat) (hbc : b ≤ c) (hc : c ≤ xs.length) {k : Nat} (hk : k = c - b) : OwnI w (.slice (some ⟨g, b, none⟩) k k) ((xs.take c).drop b) := by
  have hl : ((xs.take c).drop b).length = k := by rw [List.length_drop, List.length_take]; omega
  have hp : ((xs.take b).map iv).length = b := by rw [List.length_map, List.length_take]; omega
  have he : twl xs = (xs.take b).map iv ++ ((xs.take c).drop b).map iv ++ (twl xs).drop c := by
    have h1 : (twl xs).take c = (xs.take c).map iv := by
      unfold twl
      rw [← List.map_take, List.take_append_of_le_length hc]
    have h2 : (xs.take b).map iv ++ ((xs.take c).drop b).map iv = (xs.take c).map iv := by rw [← List.map_append, take_mid xs b c hbc]
    rw [h2, ← h1, List.take_append_drop]
  have h9t := twl_length xs h9
  have hb : Blk w g ty ((xs.take b).map iv ++ ((xs.take c).drop b).map iv ++ (twl xs).drop c) := by rw [← he]; exact h
  unfold OwnI
  rw [hl]
  exact Own.of_blk hb hp hl (Nat.le_refl _) (by unfold maxLen; omega) (by rw [← he]; omega)

set_option maxHeartbeats 4000000 in
set_option maxRecDepth 100000 in
theorem exchanged_any (xs : List Int) (n : Int) (p : Int × Int × Int × Int) (w : World) (h9 : xs.length ≤ 9) (hp : Hid (exB n p = true)) (hl : Hid ((xs.length : Int) = n)) :
    Calls Try.prog 183 #[tw xs, .agg #[.int .i64 p.1, .int .i64 p.2.1, .int .i64 p.2.2.1, .int .i64 p.2.2.2]] w fun e w' => e = .returned (tw (exT xs p)) ∧ Below w.heap.size w w' := by
  have hB := exB_iff.1 hp.out
  have hln := hl.out
  obtain ⟨p0, p1, p2, p3⟩ := p
  simp only at hB
  obtain ⟨a, rfl⟩ : ∃ a : Nat, p0 = (a : Int) + 1 := ⟨(p0 - 1).toNat, by omega⟩
  obtain ⟨b, rfl⟩ : ∃ b : Nat, p1 = (b : Int) := ⟨p1.toNat, by omega⟩
  obtain ⟨c, rfl⟩ : ∃ c : Nat, p2 = (c : Int) + 1 := ⟨(p2 - 1).toNat, by omega⟩
  obtain ⟨d, rfl⟩ : ∃ d : Nat, p3 = (d : Int) := ⟨p3.toNat, by omega⟩
  have hab : a + 1 ≤ b ∧ b ≤ c ∧ c + 1 ≤ d ∧ d ≤ xs.length := by omega
  obtain ⟨hab1, hbc1, hcd1, hdl⟩ := hab
  have hE : exT xs ((a : Int) + 1, (b : Int), (c : Int) + 1, (d : Int)) = exL xs a b c d := by
    unfold exT
    simp only
    rw [show ((a : Int) + 1 - 1).toNat = a by omega, show ((c : Int) + 1 - 1).toNat = c by omega, Int.toNat_natCast, Int.toNat_natCast]
  have hSP := splice_ex xs a b c d (by omega) (by omega) (by omega) hdl
  rw [← hE] at hSP
  have HSP := Lib.hid hSP
  have hl9 : (exT xs ((a : Int) + 1, (b : Int), (c : Int) + 1, (d : Int))).length ≤ 9 := by rw [hE, exL_length xs a b c d (by omega) (by omega) (by omega)]; exact h9
  obtain ⟨G, hG⟩ : ∃ G, exT xs ((a : Int) + 1, (b : Int), (c : Int) + 1, (d : Int)) = G := ⟨_, rfl⟩
  have HG := Lib.hid hG
  rw [hG] at hl9 HSP
  have h9t : (twl xs).length = 9 := twl_length xs h9
  obtain ⟨W, hW⟩ : ∃ W, W = (((w.alloc (.cells (twl xs).toArray 95)).alloc (.cells #[.int .i64 ((a : Int) + 1), .int .i64 (b : Int), .int .i64 ((c : Int) + 1), .int .i64 (d : Int)] 58)).alloc (.cells (twl []).toArray 95)) := ⟨_, rfl⟩
  have hbx : Blk W w.heap.size 95 (twl xs) := by rw [hW]; exact ((Blk.new w _ (twl xs) _ rfl).alloc _).alloc _
  have hz : Blk W (w.heap.size + 1 + 1) 95 (twl []) := by rw [hW]; exact Blk.new _ _ (twl []) _ (by simp)
  have hb0 : Below w.heap.size w W := by rw [hW]; exact (((Below.refl _ _).alloc (Nat.le_refl _) _).alloc (by simp) _).alloc (by simp; omega) _
  have hk0 : W.cell? ⟨w.heap.size + 1, 0, none⟩ = some (.int .i64 ((a : Int) + 1)) := by rw [hW]; simp [go_sem]
  have hk1 : W.cell? ⟨w.heap.size + 1, 1, none⟩ = some (.int .i64 (b : Int)) := by rw [hW]; simp [go_sem]
  have hk2 : W.cell? ⟨w.heap.size + 1, 2, none⟩ = some (.int .i64 ((c : Int) + 1)) := by rw [hW]; simp [go_sem]
  have hk3 : W.cell? ⟨w.heap.size + 1, 3, none⟩ = some (.int .i64 (d : Int)) := by rw [hW]; simp [go_sem]
  have hWs : W.heap.size = w.heap.size + 1 + 1 + 1 := by rw [hW]; simp
  have HW := Lib.hid (show W = (((w.alloc (.cells (twl xs).toArray 95)).alloc (.cells #[.int .i64 ((a : Int) + 1), .int .i64 (b : Int), .int .i64 ((c : Int) + 1), .int .i64 (d : Int)] 58)).alloc (.cells #[.int .i64 0, .int .i64 0, .int .i64 0, .int .i64 0, .int .i64 0, .int .i64 0, .int .i64 0, .int .i64 0, .int .i64 0] 95)) by rw [hW]; rfl)
  have hwa : IntKind.i64.wrap (a : Int) = (a : Int) := IntWalk.i64_in _ (by omega)
  have hwc : IntKind.i64.wrap (c : Int) = (c : Int) := IntWalk.i64_in _ (by omega)
  have HWA := Lib.hid hwa
  have i1 : (a : Int) ≤ b := by omega
  have i2 : (b : Int) ≤ c := by omega
  have i3 : (c : Int) ≤ d := by omega
  have i4 : (d : Int) ≤ 9 := by omega
  have i5 : (b : Int) ≤ 9 := by omega
  have i6 : (c : Int) ≤ 9 := by omega
  have i7 : (a : Int) ≤ 9 := by omega
  obtain ⟨iI, hI, hI0, hI1, hI2⟩ := info_parts Try.info3
  have HI := Lib.hid hI
  have HI0 := Lib.hid hI0
  have HI1 := Lib.hid hI1
  have HI2 := Lib.hid hI2
  clear hE hG hB hln hl hp hW hSP hI hI0 hI1 hI2
  have HLB1 := Lib.hid (show ((xs.take d).drop c).length = d - c by rw [List.length_drop, List.length_take]; omega)
  have HLM1 := Lib.hid (show ((xs.take c).drop b).length = c - b by rw [List.length_drop, List.length_take]; omega)
  have HLA1 := Lib.hid (show ((xs.take b).drop a).length = b - a by rw [List.length_drop, List.length_take]; omega)
  have HLB := Lib.hid (show (((xs.take d).drop c).map iv).length = (d - c) * 1 by rw [List.length_map, HLB1.out, Nat.mul_one])
  have HLM := Lib.hid (show (((xs.take c).drop b).map iv).length = (c - b) * 1 by rw [List.length_map, HLM1.out, Nat.mul_one])
  have HLA := Lib.hid (show (((xs.take b).drop a).map iv).length = (b - a) * 1 by rw [List.length_map, HLA1.out, Nat.mul_one])
  have hna : ¬ (9 : Nat) = a := by omega
  by_cases hbc : b = c
  · subst hbc
    go_enter Try.func183, Try.ntmps183
    go_wp2_with fail
    rw [← HW.out]
    refine wp_region_held_drew (S := (fun w' => w'.cell? ⟨w.heap.size + 1, 0, none⟩ = some (.int .i64 ((a : Int) + 1)))) (by kernel_rfl) (hk0) (fun hHeld => ?_)
    refine wpAnyH_take (i := 0) (v := ?_) rfl (by kernel_rfl) (by kernel_rfl) (by kernel_rfl) (fun _ _ _ h => h) (Or.inl ⟨by rfl, ?_⟩) (by assumption) ?_
    rotate_left
    · intro w _; go_simp; with_reducible rfl
    try simp only [List.getElem_toArray, List.getElem_cons_zero, Act.put, List.setIfInBounds_toArray, List.set_cons_zero, List.set_cons_succ]
    refine wpAnyH_take (i := 1) (v := ?_) rfl (by kernel_rfl) (by kernel_rfl) (by kernel_rfl) (fun _ _ _ h => h) (Or.inl ⟨by rfl, ?_⟩) (by assumption) ?_
    rotate_left
    · intro w hSw; obtain hx0 := hSw; (go_simp <;> with_reducible rfl)
    try simp only [List.getElem_toArray, List.getElem_cons_zero, List.getElem_cons_succ, Act.put, List.setIfInBounds_toArray, List.set_cons_zero, List.set_cons_succ]
    refine wpAnyH_take (i := 2) (v := ?_) rfl (by kernel_rfl) (by kernel_rfl) (by kernel_rfl) (fun _ _ _ h => h) (Or.inl ⟨by rfl, ?_⟩) (by assumption) ?_
    rotate_left
    · intro w _; go_simp; with_reducible rfl
    try simp only [List.getElem_toArray, List.getElem_cons_zero, List.getElem_cons_succ, Act.put, List.setIfInBounds_toArray, List.set_cons_zero, List.set_cons_succ]
    try rw [HWA.out]
    refine wpAnyH_take (i := 3) (v := ?_) rfl (by kernel_rfl) (by kernel_rfl) (by kernel_rfl) (fun _ _ _ h => h) (Or.inl ⟨by rfl, ?_⟩) (by assumption) ?_
    rotate_left
    · intro w _; go_simp; with_reducible rfl
    try simp only [List.getElem_toArray, List.getElem_cons_zero, List.getElem_cons_succ, Act.put, List.setIfInBounds_toArray, List.set_cons_zero, List.set_cons_succ]
    try rw [if_neg hna]
    refine wpAnyH_take (i := 4) (v := ?_) rfl (by kernel_rfl) (by kernel_rfl) (by kernel_rfl) (fun _ _ _ h => h) (Or.inl ⟨by rfl, ?_⟩) (by assumption) ?_
    rotate_left
    · intro w _; go_simp; with_reducible rfl
    try simp only [List.getElem_toArray, List.getElem_cons_zero, List.getElem_cons_succ, Act.put, List.setIfInBounds_toArray, List.set_cons_zero, List.set_cons_succ]
    refine wpAnyH_take (i := 5) (v := ?_) rfl (by kernel_rfl) (by kernel_rfl) (by kernel_rfl) (fun _ _ _ h => h) (Or.inl ⟨by rfl, ?_⟩) (by assumption) ?_
    rotate_left
    · intro w _; go_simp; with_reducible rfl
    try simp only [List.getElem_toArray, List.getElem_cons_zero, List.getElem_cons_succ, Act.put, List.setIfInBounds_toArray, List.set_cons_zero, List.set_cons_succ]
    refine wpAnyH_take (i := 7) (v := ?_) rfl (by kernel_rfl) (by kernel_rfl) (by kernel_rfl) (fun _ _ _ h => h) (Or.inl ⟨by rfl, ?_⟩) (by assumption) ?_
    rotate_left
    · intro w _; go_simp; with_reducible rfl
    try simp only [List.getElem_toArray, List.getElem_cons_zero, List.getElem_cons_succ, Act.put, List.setIfInBounds_toArray, List.set_cons_zero, List.set_cons_succ]
    have hbD := hbx.drew
    have hBD := hb0.drew
    have hzD := hz.drew
    refine wpAnyH_ready (rs := [6]) (by kernel_rfl) (by simp) ?_
    refine AllReadyH.cons rfl (fun K hK => ?_) AllReadyH.nil
    refine step_of_list rfl fun Q' hQ' => ?_
    refine wpList_app_zero rfl _ _ 22 rfl 3 iI Try.underlying22 HI.out w.heap.size b (d - b) rfl ⟨w.heap.size, 0, none⟩ 0 rfl ?_
    refine hQ' _ _ ?_
    refine hK.out _ _ hHeld (fun hHeld => ?_)
    clear hK K hQ' Q'
    try simp only [List.getElem_toArray, List.getElem_cons_zero, List.getElem_cons_succ, Act.put, List.setIfInBounds_toArray, List.set_cons_zero, List.set_cons_succ]
    refine wpAnyH_ready (rs := [8]) (by kernel_rfl) (by simp) ?_
    refine AllReadyH.cons rfl (fun K hK => ?_) AllReadyH.nil
    refine step_of_list rfl fun Q' hQ' => ?_
    refine wpList_append_grows _ rfl _ _ 22 rfl 3 iI _ 1 8 Try.underlying22 HI.out HI0.out HI1.out HI2.out rfl (by omega) (some ⟨w.heap.size, b, none⟩) (d - b) (d - b) (((xs.take d).drop b).map iv) rfl (fun h => by cases h) HLB.out (fun q hq => by cases hq; exact tw_part hbD b d hdl) ⟨w.heap.size, a, none⟩ (b - a) (b - a) (((xs.take b).drop a).map iv) rfl HLA.out (tw_part hbD a b (by omega)) (ints_one _) (by omega) (by unfold maxLen; omega) (by omega) ?_
    intro v8 w8 hown8 hgr8
    have hbl8 := hbD.grown hgr8 (by simp)
    have hz8 := hzD.grown hgr8 (by simp)
    have hB8 := hBD.grown hgr8 hBD.size (fun k hk => by cases hk)
    have ho8 : OwnI w8 v8 ((xs.take d).drop b ++ ((xs.take b).drop b ++ (xs.take b).drop a)) := by
      have h := (Own.of_row hown8).1
      have e0 : (xs.take b).drop b = [] := by simp
      rw [e0, List.nil_append]
      have e : d - b + (b - a) = ((xs.take d).drop b ++ (xs.take b).drop a).length := by rw [List.length_append, HLB1.out, HLA1.out]
      unfold OwnI
      rw [← e, List.map_append]
      exact h
    refine hQ' _ _ ?_
    refine hK.out _ _ (hgr8.cell hHeld (by simp)) (fun hHeld => ?_)
    clear hK K hQ' Q' hgr8 hown8
    try simp only [List.getElem_toArray, List.getElem_cons_zero, List.getElem_cons_succ, Act.put, List.setIfInBounds_toArray, List.set_cons_zero, List.set_cons_succ]
    obtain ⟨a8, c8, rfl, hc8, _, _⟩ := ho8.shape
    have hsrc := Own.src ho8
    have hsl : ((xs.take d).drop b ++ ((xs.take b).drop b ++ (xs.take b).drop a)).length = d - a := by simp only [List.length_append, List.length_drop, List.length_take]; omega
    have hpos : ∃ ad, a8 = some ad ∧ ∀ j v, (((xs.take d).drop b ++ ((xs.take b).drop b ++ (xs.take b).drop a)).map iv)[j]? = some v → w8.cell? (ad.add j) = some v := by
      rcases hsrc with ⟨_, h0, _⟩ | ⟨ad, rfl, hcc⟩
      · omega
      · exact ⟨ad, rfl, hcc⟩
    obtain ⟨ad8, rfl, hcc8⟩ := hpos
    refine wpAnyH_ready (rs := [9]) (by kernel_rfl) (by simp) ?_
    refine AllReadyH.cons rfl (fun K hK => ?_) AllReadyH.nil
    refine step_of_list rfl fun Q' hQ' => ?_
    refine wpList_copy_own rfl _ _ _ _ rfl 3 Try.underlying22 Try.infoI w.heap.size a (9 - a) (9 - a) ad8 _ _ rfl rfl (twl xs).toArray 95 hbl8 (((xs.take d).drop b ++ ((xs.take b).drop b ++ (xs.take b).drop a)).map iv) (by rw [List.length_map, hsl]; exact (Nat.min_eq_left (by omega)).symm) hcc8 (by rw [List.length_map, hsl, List.size_toArray]; omega) (ints_one _) ?_
    have hset := hbl8.setRow (splice (twl xs) a (((xs.take d).drop b ++ ((xs.take b).drop b ++ (xs.take b).drop a)).map iv))
    rw [HSP.out] at hset
    have hg9 : w8.grownBy (w8.setRow w.heap.size (twl G).toArray) (some w.heap.size) := ⟨rfl, rfl, rfl, by simp [World.setRow], fun k _ hk => setRow_other w8 w.heap.size k _ (fun e => hk (by rw [e]))⟩
    have hz9 := hz8.grown hg9 (by simp; omega)
    have hB9 := hB8.grown hg9 hB8.size (fun k hk => by cases hk; exact Nat.le_refl _)
    have hk9 := hg9.cell (show w8.cell? ⟨w.heap.size + 1, 0, none⟩ = _ from hHeld) (by simp)
    have hW9 : ∀ Z : Array Value, Z = (twl G).toArray → (w8.setRow w.heap.size Z) = w8.setRow w.heap.size (twl G).toArray := fun Z h => by rw [h]
    rw [hW9 _ (by rw [← HSP.out]; simp [splice])]
    refine hQ' _ _ ?_
    refine hK.out _ _ hk9 (fun hHeld => ?_)
    clear hK K hQ' Q' hHeld
    try simp only [List.getElem_toArray, List.getElem_cons_zero, List.getElem_cons_succ, Act.put, List.setIfInBounds_toArray, List.set_cons_zero, List.set_cons_succ]
    refine wpAnyH_done (by kernel_rfl) ?_ _
    obtain ⟨w9, hw9⟩ : ∃ x, w8.setRow w.heap.size (twl G).toArray = x := ⟨_, rfl⟩
    rw [hw9] at hset hz9 hB9 hk9 ⊢
    have h9g := twl_length G hl9
    have hz0 : (twl []).length = 9 := by simp [twl]
    have hs : (Try.prog.info? 95).map (·.size) = some (twl G).toArray.size := by rw [Try.infoT]; simp [h9g]
    have h0 : ((twl []).toArray).size = (twl G).toArray.size := by simp [h9g, hz0]
    have hon : (twl G).toArray.all (·.oneCell') = true := by simp [twl, Value.oneCell']
    have hr := hz9.setRow (twl G)
    have hb3 := below_setRow hB9 (by omega : w.heap.size ≤ w.heap.size + 1 + 1) (twl G).toArray
    have HS := Lib.hid h9g
    clear h9g hz0 hsrc hcc8 hsl hw9 hz8 hbl8 hB8 hg9 hB9 hk9 ho8
    go_wp2_with (first | (refine wpList_load_row rfl 95 _ rfl w.heap.size rfl 95 _ _ _ hset Try.underlying95 rfl hs ?_) | (refine wpList_store_row rfl 95 _ _ rfl (w.heap.size + 1 + 1) (twl G).toArray rfl rfl 95 _ hz9 hs h0 hon ?_))
    exact bodyPost_ret (results_cell_row rfl _ _ (w.heap.size + 1 + 1) 95 _ _ _ rfl hr Try.underlying95 rfl hs) rfl ⟨by rw [HG.out], hb3⟩
  · have hbc2 : b < c := by omega
    have hbc3 : ¬ c - b = 0 := by omega
    have hbc4 : ¬ (c : Int) ≤ b := by omega
    go_enter Try.func183, Try.ntmps183
    go_wp2_with fail
    rw [← HW.out]
    refine wp_region_held_drew (S := (fun w' => w'.cell? ⟨w.heap.size + 1, 0, none⟩ = some (.int .i64 ((a : Int) + 1)))) (by kernel_rfl) (hk0) (fun hHeld => ?_)
    refine wpAnyH_take (i := 0) (v := ?_) rfl (by kernel_rfl) (by kernel_rfl) (by kernel_rfl) (fun _ _ _ h => h) (Or.inl ⟨by rfl, ?_⟩) (by assumption) ?_
    rotate_left
    · intro w _; go_simp; with_reducible rfl
    try simp only [List.getElem_toArray, List.getElem_cons_zero, Act.put, List.setIfInBounds_toArray, List.set_cons_zero, List.set_cons_succ]
    refine wpAnyH_take (i := 1) (v := ?_) rfl (by kernel_rfl) (by kernel_rfl) (by kernel_rfl) (fun _ _ _ h => h) (Or.inl ⟨by rfl, ?_⟩) (by assumption) ?_
    rotate_left
    · intro w hSw; obtain hx0 := hSw; (go_simp <;> with_reducible rfl)
    try simp only [List.getElem_toArray, List.getElem_cons_zero, List.getElem_cons_succ, Act.put, List.setIfInBounds_toArray, List.set_cons_zero, List.set_cons_succ]
    refine wpAnyH_take (i := 2) (v := ?_) rfl (by kernel_rfl) (by kernel_rfl) (by kernel_rfl) (fun _ _ _ h => h) (Or.inl ⟨by rfl, ?_⟩) (by assumption) ?_
    rotate_left
    · intro w _; go_simp; with_reducible rfl
    try simp only [List.getElem_toArray, List.getElem_cons_zero, List.getElem_cons_succ, Act.put, List.setIfInBounds_toArray, List.set_cons_zero, List.set_cons_succ]
    try rw [HWA.out]
    refine wpAnyH_take (i := 3) (v := ?_) rfl (by kernel_rfl) (by kernel_rfl) (by kernel_rfl) (fun _ _ _ h => h) (Or.inl ⟨by rfl, ?_⟩) (by assumption) ?_
    rotate_left
    · intro w _; go_simp; with_reducible rfl
    try simp only [List.getElem_toArray, List.getElem_cons_zero, List.getElem_cons_succ, Act.put, List.setIfInBounds_toArray, List.set_cons_zero, List.set_cons_succ]
    try rw [if_neg hna]
    refine wpAnyH_take (i := 4) (v := ?_) rfl (by kernel_rfl) (by kernel_rfl) (by kernel_rfl) (fun _ _ _ h => h) (Or.inl ⟨by rfl, ?_⟩) (by assumption) ?_
    rotate_left
    · intro w _; go_simp; with_reducible rfl
    try simp only [List.getElem_toArray, List.getElem_cons_zero, List.getElem_cons_succ, Act.put, List.setIfInBounds_toArray, List.set_cons_zero, List.set_cons_succ]
    refine wpAnyH_take (i := 5) (v := ?_) rfl (by kernel_rfl) (by kernel_rfl) (by kernel_rfl) (fun _ _ _ h => h) (Or.inl ⟨by rfl, ?_⟩) (by assumption) ?_
    rotate_left
    · intro w _; go_simp; with_reducible rfl
    try simp only [List.getElem_toArray, List.getElem_cons_zero, List.getElem_cons_succ, Act.put, List.setIfInBounds_toArray, List.set_cons_zero, List.set_cons_succ]
    refine wpAnyH_take (i := 7) (v := ?_) rfl (by kernel_rfl) (by kernel_rfl) (by kernel_rfl) (fun _ _ _ h => h) (Or.inl ⟨by rfl, ?_⟩) (by assumption) ?_
    rotate_left
    · intro w _; go_simp; with_reducible rfl
    try simp only [List.getElem_toArray, List.getElem_cons_zero, List.getElem_cons_succ, Act.put, List.setIfInBounds_toArray, List.set_cons_zero, List.set_cons_succ]
    have hbD := hbx.drew
    have hBD := hb0.drew
    have hzD := hz.drew
    refine wpAnyH_ready (rs := [6]) (by kernel_rfl) (by simp) ?_
    refine AllReadyH.cons rfl (fun K hK => ?_) AllReadyH.nil
    refine step_of_list rfl fun Q' hQ' => ?_
    refine wpList_append_grows _ rfl _ _ 22 rfl 3 iI _ 1 8 Try.underlying22 HI.out HI0.out HI1.out HI2.out rfl (by omega) (some ⟨w.heap.size, c, none⟩) (d - c) (d - c) (((xs.take d).drop c).map iv) rfl (fun h => by cases h) HLB.out (fun q hq => by cases hq; exact tw_part hbD c d hdl) ⟨w.heap.size, b, none⟩ (c - b) (c - b) (((xs.take c).drop b).map iv) rfl HLM.out (tw_part hbD b c (by omega)) (ints_one _) (by omega) (by unfold maxLen; omega) (by omega) ?_
    intro v6 w6 hown6 hgr6
    have hs6 : W.heap.size ≤ w6.heap.size := hgr6.size
    have hb6 := hbD.grown hgr6 (by simp)
    have hz6 := hzD.grown hgr6 (by simp)
    have hB6 := hBD.grown hgr6 hBD.size (fun k hk => by cases hk)
    have ho6 : OwnI w6 v6 ((xs.take d).drop c ++ (xs.take c).drop b) := by
      have h := (Own.of_row hown6).1
      have e : d - c + (c - b) = ((xs.take d).drop c ++ (xs.take c).drop b).length := by rw [List.length_append, HLB1.out, HLM1.out]
      unfold OwnI
      rw [← e, List.map_append]
      exact h
    have hf6 := (Own.of_row hown6).2
    refine hQ' _ _ ?_
    refine hK.out _ _ ((hgr6.cell (show W.drew.cell? ⟨w.heap.size + 1, 0, none⟩ = _ from hk0) (by simp))) (fun hHeld => ?_)
    clear hK K hQ' Q' hgr6 hown6
    try simp only [List.getElem_toArray, List.getElem_cons_zero, List.getElem_cons_succ, Act.put, List.setIfInBounds_toArray, List.set_cons_zero, List.set_cons_succ]
    refine wpAnyH_ready (rs := [8]) (by kernel_rfl) (by simp) ?_
    refine AllReadyH.cons rfl (fun K hK => ?_) AllReadyH.nil
    refine step_of_list rfl fun Q' hQ' => ?_
    refine wpList_appI Try.intSl rfl _ _ rfl v6 ((xs.take d).drop c ++ (xs.take c).drop b) rfl ho6 W.drew.heap.size hf6 (some ⟨w.heap.size, a, none⟩) (b - a) (b - a) ((xs.take b).drop a) rfl HLA1.out.symm (.inr ⟨_, rfl, tw_part hb6 a b (by omega)⟩) w6 (Below.refl _ _) hs6 (by rw [List.length_append, HLB1.out, HLM1.out]; omega) (by rw [HLA1.out]; omega) ?_
    intro v8 w8 ho8 hf8 hb8 _
    have hb8w : Below W.heap.size w6 w8 := hb8.mono (Nat.le_refl _)
    have hbl8 := hb6.below hb8w (by omega)
    have hz8 := hz6.below hb8w (by omega)
    have hB8 := hB6.trans (hb8w.mono (by omega))
    have ho8 : OwnI w8 v8 ((xs.take d).drop c ++ ((xs.take c).drop b ++ (xs.take b).drop a)) := by rw [← List.append_assoc]; exact ho8
    refine hQ' _ _ ?_
    refine hK.out _ _ ((hb8w.cell (p := ⟨w.heap.size + 1, 0, none⟩) (by simp; omega)).trans hHeld) (fun hHeld => ?_)
    clear hK K hQ' Q' hb8 ho6
    try simp only [List.getElem_toArray, List.getElem_cons_zero, List.getElem_cons_succ, Act.put, List.setIfInBounds_toArray, List.set_cons_zero, List.set_cons_succ]
    obtain ⟨a8, c8, rfl, hc8, _, _⟩ := ho8.shape
    have hsrc := Own.src ho8
    have hsl : ((xs.take d).drop c ++ ((xs.take c).drop b ++ (xs.take b).drop a)).length = d - a := by simp only [List.length_append, List.length_drop, List.length_take]; omega
    have hpos : ∃ ad, a8 = some ad ∧ ∀ j v, (((xs.take d).drop c ++ ((xs.take c).drop b ++ (xs.take b).drop a)).map iv)[j]? = some v → w8.cell? (ad.add j) = some v := by
      rcases hsrc with ⟨_, h0, _⟩ | ⟨ad, rfl, hcc⟩
      · omega
      · exact ⟨ad, rfl, hcc⟩
    obtain ⟨ad8, rfl, hcc8⟩ := hpos
    refine wpAnyH_ready (rs := [9]) (by kernel_rfl) (by simp) ?_
    refine AllReadyH.cons rfl (fun K hK => ?_) AllReadyH.nil
    refine step_of_list rfl fun Q' hQ' => ?_
    refine wpList_copy_own rfl _ _ _ _ rfl 3 Try.underlying22 Try.infoI w.heap.size a (9 - a) (9 - a) ad8 _ _ rfl rfl (twl xs).toArray 95 hbl8 (((xs.take d).drop c ++ ((xs.take c).drop b ++ (xs.take b).drop a)).map iv) (by rw [List.length_map, hsl]; exact (Nat.min_eq_left (by omega)).symm) hcc8 (by rw [List.length_map, hsl, List.size_toArray]; omega) (ints_one _) ?_
    have hset := hbl8.setRow (splice (twl xs) a (((xs.take d).drop c ++ ((xs.take c).drop b ++ (xs.take b).drop a)).map iv))
    rw [HSP.out] at hset
    have hg9 : w8.grownBy (w8.setRow w.heap.size (twl G).toArray) (some w.heap.size) := ⟨rfl, rfl, rfl, by simp [World.setRow], fun k _ hk => setRow_other w8 w.heap.size k _ (fun e => hk (by rw [e]))⟩
    have hz9 := hz8.grown hg9 (by simp; omega)
    have hB9 := hB8.grown hg9 hB8.size (fun k hk => by cases hk; exact Nat.le_refl _)
    have hk9 := hg9.cell (show w8.cell? ⟨w.heap.size + 1, 0, none⟩ = _ from hHeld) (by simp)
    have hW9 : ∀ Z : Array Value, Z = (twl G).toArray → (w8.setRow w.heap.size Z) = w8.setRow w.heap.size (twl G).toArray := fun Z h => by rw [h]
    rw [hW9 _ (by rw [← HSP.out]; simp [splice])]
    refine hQ' _ _ ?_
    refine hK.out _ _ hk9 (fun hHeld => ?_)
    clear hK K hQ' Q' hHeld
    try simp only [List.getElem_toArray, List.getElem_cons_zero, List.getElem_cons_succ, Act.put, List.setIfInBounds_toArray, List.set_cons_zero, List.set_cons_succ]
    refine wpAnyH_done (by kernel_rfl) ?_ _
    obtain ⟨w9, hw9⟩ : ∃ x, w8.setRow w.heap.size (twl G).toArray = x := ⟨_, rfl⟩
    rw [hw9] at hset hz9 hB9 hk9 ⊢
    have h9g := twl_length G hl9
    have hz0 : (twl []).length = 9 := by simp [twl]
    have hs : (Try.prog.info? 95).map (·.size) = some (twl G).toArray.size := by rw [Try.infoT]; simp [h9g]
    have h0 : ((twl []).toArray).size = (twl G).toArray.size := by simp [h9g, hz0]
    have hon : (twl G).toArray.all (·.oneCell') = true := by simp [twl, Value.oneCell']
    have hr := hz9.setRow (twl G)
    have hb3 := below_setRow hB9 (by omega : w.heap.size ≤ w.heap.size + 1 + 1) (twl G).toArray
    have HS := Lib.hid h9g
    clear h9g hz0 hsrc hcc8 hsl hw9 hz8 hbl8 hB8 hg9 hB9 hk9 ho8
    go_wp2_with (first | (refine wpList_load_row rfl 95 _ rfl w.heap.size rfl 95 _ _ _ hset Try.underlying95 rfl hs ?_) | (refine wpList_store_row rfl 95 _ _ rfl (w.heap.size + 1 + 1) (twl G).toArray rfl rfl 95 _ hz9 hs h0 hon ?_))
    exact bodyPost_ret (results_cell_row rfl _ _ (w.heap.size + 1 + 1) 95 _ _ _ rfl hr Try.underlying95 rfl hs) rfl ⟨by rw [HG.out], hb3⟩

end Go.Proofs.Ytajdlioojibmdaa

