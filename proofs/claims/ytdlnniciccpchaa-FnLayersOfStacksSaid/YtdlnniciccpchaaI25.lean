import Derived.Test.YtdlnniciccpchaaPl
import Derived.Test.YtdlnniciccpchaaFaX1
namespace Go.Proofs.Ytdlnniciccpchaa
open Go Go.RowKit Go.Pan

set_option maxHeartbeats 800000 in
set_option maxRecDepth 100000 in
theorem WorstStacks_any (n : Int) (w : World) :
    Calls Try.prog 18 #[.int .i64 n] w fun e w' => ∃ r hs, e = .returned (.tuple #[r, .bool (inB n 1 7)]) ∧ SS w' w.heap.size w'.heap.size r hs (mWorstStacks n) ∧ Below w.heap.size w w' := by
  have c := isSearchedCount_any n w
  cases hg : inB n 1 7 with
  | true =>
    have HM := Lib.hid (show mWorstStacks n = worstS n.toNat from if_pos hg)
    obtain ⟨m, rfl, hm, h7⟩ := inB_seven hg
    rw [Int.toNat_natCast] at HM
    rw [hg] at c
    have HC := Lib.hid (pG_ok hm h7)
    have HH := Lib.hid (show (pG m).St (ramp 1 m) from hm.home)
    have HMW := Lib.hid (fun q => mem_worstS hm h7 (q := q))
    have HLM := Lib.hid (show (pG m).len = m from rfl)
    have hle := gecc_le HC.out HH.out
    have hdm : (pG m).dm ≤ 1000 := HC.out.dm30
    have c1 := plainWave_any m w hm h7
    have HNE := Lib.hid (show ∃ q, (pG m).St q ∧ 0 < gnearC (pG m) (ramp 1 m) (peccN m) q by
      obtain ⟨q, h1, h2⟩ := gecc_at HC.out HH.out
      exact ⟨q, h1, (gnearC_pos HC.out HH.out h1).2 h2⟩)
    have HPE := Lib.hid (show gecc (pG m) (ramp 1 m) = peccN m from rfl)
    have h9 := hm.le
    obtain ⟨E, hE⟩ : ∃ E, gecc (pG m) (ramp 1 m) = E := ⟨_, rfl⟩
    have HE := Lib.hid (show peccN m = E from hE)
    rw [hE] at hle c1
    have hEb : E ≤ 1048576 := by omega
    clear hg hm hE hdm
    go_enter Try.func18, Try.ntmps18
    go_wp2_with fail
    refine c.mono ?_
    rintro e w0 ⟨rfl, rfl⟩
    clear c
    go_wp2_with fail
    refine c1.mono ?_
    rintro e w1 ⟨g, cap, ms, rfl, hW, hb1⟩
    clear c1
    have hml : ms.length = E + 1 + 1 := by rw [hW.len, gnearL_length]
    have hne : ms ≠ [] := by rintro rfl; simp at hml
    obtain ⟨gg, cc, hsh, _, hgl, hcap, hcl⟩ := hW.shape hne
    simp only [Value.slice.injEq, Option.some.injEq, Addr.mk.injEq, and_true] at hsh
    obtain ⟨rfl, _, rfl⟩ := hsh
    obtain ⟨b, hb⟩ : ∃ b, ms[E]? = some b := ⟨_, List.getElem?_eq_getElem (by omega)⟩
    have hcb := hcl E b hb
    have hly := (hW.lay E b _ hb (gnearL_get (pG m) (ramp 1 m) (E + 1) E (by omega))).1
    rw [← HE.out] at hly
    have c2 := wlastAt_any g E cap b w1 hEb hcb
    clear hml hne hcl hb hW hcap hcb
    go_wp2_with fail
    refine c2.mono ?_
    rintro e w2 ⟨rfl, rfl⟩
    clear c2
    have c3 := stacks_any (pG m) b _ m w1 HC hly HNE.out HLM (by omega)
    go_wp2_with fail
    refine c3.mono ?_
    rintro e w3 ⟨r, hs, L, rfl, hS, hP, hmem, hb3⟩
    clear c3
    have HL := Lib.hid (show L = worstS m from sorted_eq hP (worstS_sorted m) (fun q => by rw [hmem q, HMW.out q]))
    have HS := Lib.hid (show SS w3 w.heap.size w3.heap.size r hs (mWorstStacks (m : Int)) by rw [HM.out, ← HL.out]; exact hS.mono hb1.size (Nat.le_refl _))
    have hB := hb1.trans (hb3.mono hb1.size)
    clear hP hmem hS
    go_wp2
    go_ret2
    exact ⟨_, _, rfl, HS.out, hB⟩
  | false =>
    have HM := Lib.hid (show mWorstStacks n = [] from if_neg (by rw [hg]; exact Bool.false_ne_true))
    rw [hg] at c
    clear hg
    go_enter Try.func18, Try.ntmps18
    go_wp2_with fail
    refine c.mono ?_
    rintro e w0 ⟨rfl, rfl⟩
    clear c
    go_wp2
    go_ret2
    exact ⟨_, [], rfl, by rw [HM.out]; exact SS.nil _ _ _, Below.refl _ _⟩

end Go.Proofs.Ytdlnniciccpchaa

