import Derived.Test.YtmlikchhkblohaaR5
import Derived.Test.YtmlikchhkblohaaM9
import Derived.Test.YtmlikchhkblohaaS19
import Derived.Test.YtmlikchhkblohaaI8
namespace Go.Pan
open Go Go.RowKit

/-- may size x stand behind the beginning bs -/
def growB (may : Int → Int → Bool) (bs : List Int) (x : Int) : Bool := !(decide (x ∈ bs)) && (decide (bs = []) || may (bs.getLastD 0) x)
def gmayTo (may : Int → Int → Bool) (bs : List Int) (m : Nat) : List Int := (ramp 1 m).filter fun x => growB may bs x
/-- all stacks of n that begin with bs, neighbours as they may be, f the places left -/
def growL (may : Int → Int → Bool) (n : Nat) : Nat → List Int → List (List Int)
  | 0, bs => [bs]
  | f + 1, bs => (gmayTo may bs n).flatMap fun x => growL may n f (bs ++ [x])
def growTo (may : Int → Int → Bool) (n f : Nat) (bs : List Int) (m : Nat) : List (List Int) := (gmayTo may bs m).flatMap fun x => growL may n f (bs ++ [x])
theorem growTo_zero (may : Int → Int → Bool) (n f : Nat) (bs : List Int) : growTo may n f bs 0 = [] := rfl
theorem growTo_all (may : Int → Int → Bool) (n f : Nat) (bs : List Int) : growTo may n f bs n = growL may n (f + 1) bs := rfl
theorem gmayTo_succ (may : Int → Int → Bool) (bs : List Int) (m : Nat) : gmayTo may bs (m + 1) = gmayTo may bs m ++ if growB may bs ((m : Int) + 1) = true then [(m : Int) + 1] else [] := by
  simp only [gmayTo, ramp, List.range_succ, List.map_append, List.filter_append, List.map_cons, List.map_nil]
  rw [Int.add_comm 1 (m : Int)]
  cases h : growB may bs ((m : Int) + 1) <;> simp [h]
theorem growTo_yes {may : Int → Int → Bool} {n f : Nat} {bs : List Int} {m : Nat} (h : growB may bs ((m : Int) + 1) = true) : growTo may n f bs (m + 1) = growTo may n f bs m ++ growL may n f (bs ++ [(m : Int) + 1]) := by
  unfold growTo
  rw [gmayTo_succ, if_pos h, List.flatMap_append]
  simp
theorem growTo_no {may : Int → Int → Bool} {n f : Nat} {bs : List Int} {m : Nat} (h : growB may bs ((m : Int) + 1) = false) : growTo may n f bs (m + 1) = growTo may n f bs m := by
  unfold growTo
  rw [gmayTo_succ, if_neg (by rw [h]; exact Bool.false_ne_true), List.append_nil]
theorem gmayTo_length (may : Int → Int → Bool) (bs : List Int) (m : Nat) : (gmayTo may bs m).length ≤ m := by
  unfold gmayTo
  exact Nat.le_trans (List.length_filter_le _ _) (by simp [ramp])
theorem growL_length (may : Int → Int → Bool) (n : Nat) (hn : n ≤ 9) : ∀ (f : Nat) (bs : List Int), (growL may n f bs).length ≤ 9 ^ f
  | 0, bs => by simp [growL]
  | f + 1, bs => by
    have h := flat_le (9 ^ f) (fun x => growL may n f (bs ++ [x])) (gmayTo may bs n) (fun x _ => growL_length may n hn f _)
    have h2 := gmayTo_length may bs n
    have h3 : (gmayTo may bs n).length * 9 ^ f ≤ 9 * 9 ^ f := Nat.mul_le_mul_right _ (by omega)
    rw [growL, Nat.pow_succ]
    omega
theorem growTo_prefix (may : Int → Int → Bool) (n f : Nat) (bs : List Int) {m m' : Nat} (h : m ≤ m') : ∃ r, growTo may n f bs m' = growTo may n f bs m ++ r := by
  induction h with
  | refl => exact ⟨[], by simp⟩
  | step _ ih =>
    obtain ⟨r, hr⟩ := ih
    rename_i q _
    cases hb : growB may bs ((q : Int) + 1) with
    | true => exact ⟨r ++ growL may n f (bs ++ [(q : Int) + 1]), by rw [growTo_yes hb, hr, List.append_assoc]⟩
    | false => exact ⟨r, by rw [growTo_no hb, hr]⟩
/-- a stack as a tower -/
abbrev TwU := { q : List Int // q.length ≤ 9 }
def mkU (q : List Int) : TwU := if h : q.length ≤ 9 then ⟨q, h⟩ else ⟨[], by simp⟩
theorem mkU_val {q : List Int} (h : q.length ≤ 9) : (mkU q).1 = q := by unfold mkU; rw [dif_pos h]
def towL (L : List (List Int)) : List TwU := L.map mkU
theorem towL_append (A B : List (List Int)) : towL (A ++ B) = towL A ++ towL B := by simp [towL]

end Go.Pan

namespace Go.Proofs.Ytmlikchhkblohaa
open Go Go.RowKit Go.Pan Go.Shelf

attribute [local go_sem] Oper.semAt_some

theorem wpListIn_store_row' {F : Fence} {n : Nat} {P : Program} {ops : Array Oper} {rest : List Oper} {o : Oper} {a : Act} {w : World} {Q : Exit → Act → World → Prop} (hgd : o.guard = none) (ty : TypeId) (x y : Operand) (ho : o.op = .store ty x y)
    (g : Nat) (cells : Array Value) (hx : a.eval x = .pointer (some ⟨g, 0, none⟩)) (hy : a.eval y = .agg cells)
    (t : TypeId) (old : Array Value) (hg : w.heap[g]? = some (.cells old t (0, 0))) (hi : (P.info? ty).map (·.size) = some cells.size)
    (hold : old.size = cells.size) (h1 : cells.all (·.oneCell') = true)
    (h : wpListIn F n P ops Q rest (a.put o.dst undef) (w.setRow g cells)) : wpListIn F n P ops Q (o :: rest) a w := by
  refine wpListIn_plain hgd fun K hK => ?_
  unfold Oper.wpIn
  refine ⟨by simp [Oper.about, ho], ?_⟩
  rw [Oper.semAt_plain F _ _ (by rw [ho]; intro c hc; cases hc)]
  simp only [execOp, ho, hx, hy, Instr.storeAt, Instr.sureAddr, Sem.run_bind, Sem.run_pure, Result.andThen_ok, run_storeVar_row w g t ty old cells hg hi hold h1]
  exact hK _ _ h
theorem wpListIn_load_row' {F : Fence} {n : Nat} {P : Program} {ops : Array Oper} {rest : List Oper} {o : Oper} {a : Act} {w : World} {Q : Exit → Act → World → Prop} (hgd : o.guard = none) (ty : TypeId) (x : Operand) (ho : o.op = .load ty x)
    (g : Nat) (hx : a.eval x = .pointer (some ⟨g, 0, none⟩)) (t : TypeId) (cs : Array Value) (fr : Nat × Nat) (d : TypeDesc) (hg : w.heap[g]? = some (.cells cs t fr))
    (hu : P.underlying ty = some d) (hd : (match d with | .struct _ | .array _ _ => true | _ => false) = true) (hi : (P.info? ty).map (·.size) = some cs.size)
    (h : wpListIn F n P ops Q rest (a.put o.dst (.agg cs)) w) : wpListIn F n P ops Q (o :: rest) a w := by
  refine wpListIn_plain hgd fun K hK => ?_
  unfold Oper.wpIn
  refine ⟨by simp [Oper.about, ho], ?_⟩
  rw [Oper.semAt_plain F _ _ (by rw [ho]; intro c hc; cases hc)]
  simp only [execOp, ho, hx, Instr.loadAt, Instr.sureAddr, Sem.run_bind, Sem.run_pure, Result.andThen_ok, run_loadVar_row w g t ty cs fr d hg hu hd hi]
  exact hK _ _ h
theorem wpListIn_load_tow {F : Fence} {n : Nat} {ops : Array Oper} {rest : List Oper} {o : Oper} {a : Act} {w : World} {Q : Exit → Act → World → Prop} (hgd : o.guard = none) (x : Operand) (ho : o.op = .load 86 x)
    (g : Nat) (xs : List Int) (h9 : xs.length ≤ 9) (hx : a.eval x = .pointer (some ⟨g, 0, none⟩)) (hg : Blk w g 86 (twl xs))
    (h : wpListIn F n Try.prog ops Q rest (a.put o.dst (tw xs)) w) : wpListIn F n Try.prog ops Q (o :: rest) a w :=
  wpListIn_load_row' hgd 86 x ho g hx 86 _ _ _ hg Try.underlying86 rfl (by rw [Try.infoT]; simp [twl_length xs h9]) h
theorem wpListIn_store_tow {F : Fence} {n : Nat} {ops : Array Oper} {rest : List Oper} {o : Oper} {a : Act} {w : World} {Q : Exit → Act → World → Prop} (hgd : o.guard = none) (x y : Operand) (ho : o.op = .store 86 x y)
    (g : Nat) (xs ys : List Int) (hx9 : xs.length ≤ 9) (hy9 : ys.length ≤ 9) (hx : a.eval x = .pointer (some ⟨g, 0, none⟩)) (hy : a.eval y = tw ys) (hg : Blk w g 86 (twl xs))
    (h : ∀ w', Blk w' g 86 (twl ys) → w.grownBy w' (some g) → wpListIn F n Try.prog ops Q rest (a.put o.dst undef) w') : wpListIn F n Try.prog ops Q (o :: rest) a w := by
  have h1 := twl_length xs hx9
  have h2 := twl_length ys hy9
  refine wpListIn_store_row' hgd 86 x y ho g (twl ys).toArray hx hy 86 _ hg (by rw [Try.infoT]; simp [h2]) (by simp [h1, h2]) (by simp [twl, Value.oneCell']) ?_
  exact h _ (hg.setRow (twl ys)) ⟨rfl, rfl, rfl, by simp [World.setRow], fun k _ hk => setRow_other w g k _ (fun e => hk (by rw [e]))⟩

theorem slContains_any (v : Value) (xs : List Int) (x : Int) (w : World) (hv : OwnI w v xs) (hn : xs.length ≤ 1048576) :
    Calls Try.prog 201 #[v, .int .i64 x] w fun e w' => e = .returned (.bool (decide (x ∈ xs))) ∧ Below w.heap.size w w' := by
  have hg : decide (1 ≤ placeL xs x) = decide (x ∈ xs) := by
    by_cases h : x ∈ xs
    · have := (placeL_bd h).1
      simp [h, this]
    · simp [h, placeL]
  have HG := Lib.hid hg
  clear hg
  go_enter Try.func201, Try.ntmps201
  go_wp2_with fail
  refine (Index_any v xs x _ hv hn).mono ?_
  rintro e w1 ⟨rfl, hb1⟩
  have hx1 : -1 ≤ placeL xs x - 1 := by simp [placeL]; split <;> omega
  go_wp2
  go_ret
  exact ⟨by show Ending.returned (.bool (decide (1 ≤ placeL xs x))) = _; rw [HG.out], hb1⟩

theorem YieldAt.wide {m m' : Nat} {P : Program} {l : Nat} {args : Array Value} {W : World} {R : Ending → World → Prop} (h : YieldAt Fence.wide m P l args W R) : YieldAt Fence.wide m' P l args W R := by
  obtain ⟨fn, tmps, assign, body, he, hf, hr⟩ := h
  exact ⟨fn, tmps, assign, body, he, hf, fun c cs _ => hr c cs (room_wide _)⟩

end Go.Proofs.Ytmlikchhkblohaa

