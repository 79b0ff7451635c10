import Derived.Test.YtdlnniciccpchaaI2
namespace Go.Proofs.Ytdlnniciccpchaa
open Go Go.RowKit Go.Pan

theorem twl_one (xs : List Int) : ∀ v ∈ twl xs, v.oneCell' = true := by
  intro v hv
  simp only [twl, List.mem_map] at hv
  obtain ⟨x, _, rfl⟩ := hv
  rfl

-- towers loaded, stored and returned, the world behind a store under a name of its own
theorem wpList_load_tower {ops : Array Oper} {rest : List Oper} {o : Oper} {a : Act} {w : World} {Q : Exit → Act → World → Prop} (hgd : o.guard = none) (x : Operand) (ho : o.op = .load 52 x)
    (g : Nat) (xs : List Int) (h9 : xs.length ≤ 9) (hx : a.eval x = .pointer (some ⟨g, 0, none⟩)) (hg : Blk w g 52 (twl xs))
    (h : wpList Try.prog ops Q rest (a.put o.dst (tw xs)) w) : wpList Try.prog ops Q (o :: rest) a w :=
  wpList_load_row hgd 52 x ho g hx 52 _ _ _ hg Try.underlying52 rfl (by rw [Try.infoT]; simp [twl_length xs h9]) h

theorem wpList_store_tower {ops : Array Oper} {rest : List Oper} {o : Oper} {a : Act} {w : World} {Q : Exit → Act → World → Prop} (hgd : o.guard = none) (x y : Operand) (ho : o.op = .store 52 x y)
    (g : Nat) (xs ys : List Int) (hx9 : xs.length ≤ 9) (hy9 : ys.length ≤ 9) (hx : a.eval x = .pointer (some ⟨g, 0, none⟩)) (hy : a.eval y = tw ys) (hg : Blk w g 52 (twl xs))
    (h : ∀ w', Blk w' g 52 (twl ys) → w.grownBy w' (some g) → wpList Try.prog ops Q rest (a.put o.dst undef) w') : wpList Try.prog ops Q (o :: rest) a w := by
  have h1 := twl_length xs hx9
  have h2 := twl_length ys hy9
  refine wpList_store_row hgd 52 x y ho g (twl ys).toArray hx hy 52 _ hg (by rw [Try.infoT]; simp [h2]) (by simp [h1, h2]) (by simp [twl, Value.oneCell']) ?_
  exact h _ (hg.setRow (twl ys)) ⟨rfl, rfl, rfl, by simp [World.setRow], fun k _ hk => setRow_other w g k _ (fun e => hk (by rw [e]))⟩

theorem results_tower {fn : Func} {p : Tmp} (h : fn.results = #[.cell p 52]) (tmps : Array Value) (w : World) (g : Nat) (xs : List Int) (h9 : xs.length ≤ 9)
    (hp : tmps.getD p undef = .pointer (some ⟨g, 0, none⟩)) (hg : Blk w g 52 (twl xs)) : (results fn tmps).run Try.prog w = .ok (tw xs) w :=
  results_cell_row h tmps w g 52 _ _ _ hp hg Try.underlying52 rfl (by rw [Try.infoT]; simp [twl_length xs h9])

end Go.Proofs.Ytdlnniciccpchaa

