import Derived.Test.YtlomdnldokbjoaaS3
namespace Go.Proofs.Ytlomdnldokbjoaa
open Go Go.RowKit Go.Pan

theorem cell_grownY {w w' : World} {g o : Nat} {row : Option Nat} (hg : w.grownBy w' row) (hl : g < w.heap.size) (hne : row ≠ some g) : w'.cell? ⟨g, o, none⟩ = w.cell? ⟨g, o, none⟩ := by
  have e : w'.heap[g]? = w.heap[g]? := hg.block g hl (fun e => hne e.symm)
  simp [World.cell?, e]

theorem run_fromI (n cap k : Nat) (ad : Option Addr) (hk : k ≤ n) (W : World) : (Instr.sliceAt 24 (.slice ad n cap) (some (.int .i64 (k : Int))) none none).run Try.prog W = .ok (.slice (if cap = k then ad else ad.map (·.add (k * 1))) (n - k) (cap - k)) W := by
  obtain ⟨i, hi, hz, hs1, hb8⟩ := info_parts Try.info3
  have he : Try.prog.elem 24 = 3 := by simp [Program.elem, Try.underlying24]
  rw [run_sliceAt_slice W 24 _ _ _ _ (by rw [he]; exact Try.underlying24), run_slice_l W 24 ad n cap (by rw [he]; exact Try.underlying24) .i64 k (by omega) (by omega)]
  simp [sizeOf, typeInfo, he, hi, hs1, sliced, Result.andThen]
theorem run_toI (n cap k : Nat) (ad : Option Addr) (hk : k ≤ cap) (W : World) : (Instr.sliceAt 24 (.slice ad n cap) none (some (.int .i64 (k : Int))) none).run Try.prog W = .ok (.slice ad k cap) W := by
  obtain ⟨i, hi, hz, hs1, hb8⟩ := info_parts Try.info3
  have he : Try.prog.elem 24 = 3 := by simp [Program.elem, Try.underlying24]
  rw [run_sliceAt_slice W 24 _ _ _ _ (by rw [he]; exact Try.underlying24), run_slice_h W 24 ad n cap (by rw [he]; exact Try.underlying24) .i64 k (by omega) (by omega)]
  simp [sizeOf, typeInfo, he, hi, hs1, sliced, Result.andThen]
  intro _
  cases ad <;> simp [Addr.add]
/-- 's[k:]' as a value -/
def fromV (ad : Option Addr) (n cap k : Nat) : Value := .slice (if cap = k then ad else ad.map (·.add (k * 1))) (n - k) (cap - k)
theorem fromV_own {w : World} {ad : Option Addr} {cap k : Nat} {q : List Int} (h : OwnI w (.slice ad q.length cap) q) (hk : k ≤ q.length) : OwnI w (fromV ad q.length cap k) (q.drop k) := by
  have := Own.drop h hk
  unfold OwnI fromV
  rw [List.length_drop, List.map_drop]
  exact this

theorem from_some {ad : Addr} {cap n : Nat} {q : List Int} (hk : n ≤ q.length) : ∃ (a0 : Addr) (c0 : Nat), (∀ W : World, (Instr.sliceAt 24 (.slice (some ad) q.length cap) (some (.int .i64 (n : Int))) none none).run Try.prog W = .ok (.slice (some a0) (q.drop n).length c0) W) ∧
    ∀ w : World, OwnI w (.slice (some ad) q.length cap) q → OwnI w (.slice (some a0) (q.drop n).length c0) (q.drop n) := by
  have hl : (q.drop n).length = q.length - n := List.length_drop
  by_cases hc : cap = n
  · refine ⟨ad, cap - n, fun W => by rw [run_fromI q.length cap n (some ad) hk W, if_pos hc, hl], fun w h => ?_⟩
    have := fromV_own h hk
    unfold fromV at this
    rw [if_pos hc] at this
    rw [hl]; exact this
  · refine ⟨ad.add (n * 1), cap - n, fun W => by rw [run_fromI q.length cap n (some ad) hk W, if_neg hc, hl]; rfl, fun w h => ?_⟩
    have := fromV_own h hk
    unfold fromV at this
    rw [if_neg hc] at this
    rw [hl]; exact this

theorem l1OwnRow_any (a0 : Addr) (cap : Nat) (ys : List Int) (w : World) (hv : OwnI w (.slice (some a0) ys.length cap) ys) (hn : ys.length ≤ 1048576) :
    Calls Try.prog 113 #[.slice (some a0) ys.length cap] w fun e w' => ∃ r, e = .returned r ∧ w'.ownsRow w.heap.size 3 1 r ys.length (ys.map iv) ∧ Below w.heap.size w w' := by
  obtain ⟨i0, hi, hz0, hz1, hz2⟩ := info_parts Try.info3
  have hsrc := Own.src hv
  have hs : ∀ j u, (ys.map iv)[j]? = some u → (w.alloc (.cells #[] 3)).cell? (a0.add j) = some u := by
    rcases hsrc.alloc (.cells #[] 3) with ⟨h, _⟩ | ⟨ad, h, hc⟩
    · cases h
    · cases h; exact hc
  have hb0 := below_new w (.cells #[] 3)
  have hown : (w.alloc (.cells #[] 3)).ownsRow w.heap.size 3 1 (.slice (some ⟨w.heap.size, 0, none⟩) 0 0) 0 [] := ⟨rfl, .inr ⟨w.heap.size, 0, #[], rfl, Nat.le_refl _, heap_alloc_new w _, Nat.le_refl _, by simp [maxLen], rfl, rfl⟩⟩
  have HS := Lib.hid hs
  clear hs hsrc
  go_enter Try.func113, Try.ntmps113
  go_wp2_with (at_builtin; refine wpList_append_own _ rfl _ _ 24 rfl w.heap.size 3 i0 _ 1 8 Try.underlying24 hi hz0 hz1 hz2 rfl (by omega) (.slice (some ⟨w.heap.size, 0, none⟩) 0 0) 0 [] rfl hown a0 ys.length cap (ys.map iv) rfl (by simp) HS.out (by simp [Value.oneCell']) (by unfold maxLen; omega) (by omega) (by simp) ?_)
  intro v' w1 ho hgr _
  have hB := hb0.grown hgr (by simp) (by intro b hb; simp [Value.ownBlock] at hb; omega)
  have HO := Lib.hid (show w1.ownsRow w.heap.size 3 1 v' ys.length (ys.map iv) by simpa using ho)
  clear ho hgr
  go_wp2
  go_ret
  exact ⟨_, rfl, HO.out, hB⟩

end Go.Proofs.Ytlomdnldokbjoaa

