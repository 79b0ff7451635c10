import Derived.Test.YtmlikchhkblohaaQ2
import Derived.Test.YtmlikchhkblohaaV14
import Derived.Test.YtmlikchhkblohaaLib4
import Derived.Test.YtmlikchhkblohaaFaX1
import Derived.Test.YtmlikchhkblohaaLib
import Derived.Test.YtmlikchhkblohaaNT
import Derived.Test.YtmlikchhkblohaaV5
import Derived.Deep.DeepCutAuto
import Derived.Deep.AppendLies
import Derived.Conc.LoneSelect
import Derived.Conc.SmallLaws
namespace Go.Pan
/-- what segments reach in at most a moves -/
def reachS (m : Nat) : Nat → List (List Int) → List (List Int)
  | 0, l => l
  | a + 1, l => reachS m a (l.flatMap fun q => q :: (segsAll m).map fun p => segT q p)
theorem reachS_mono {m : Nat} : ∀ (a : Nat) (l : List (List Int)) (q : List Int), q ∈ l → q ∈ reachS m a l
  | 0, _, _, h => h
  | a + 1, l, q, h => reachS_mono a _ q (List.mem_flatMap.2 ⟨q, h, List.mem_cons_self ..⟩)
theorem reachS_step {m : Nat} : ∀ (a : Nat) (l : List (List Int)) (q : List Int) (p : Int × Int), q ∈ reachS m a l → p ∈ segsAll m → segT q p ∈ reachS m (a + 1) l
  | 0, l, q, p, h, hp => List.mem_flatMap.2 ⟨q, h, List.mem_cons_of_mem _ (List.mem_map.2 ⟨p, hp, rfl⟩)⟩
  | a + 1, l, q, p, h, hp => reachS_step a _ q p h hp
theorem mem_reachS {m : Nat} (h1 : 1 ≤ m) (h6 : m ≤ 6) {s : List Int} (hs : St m s) : ∀ (a : Nat) (u : List Int), St m u → gfar (sG m) s u ≤ a → u ∈ reachS m a [s]
  | 0, u, hu, h => by
    have := (gfar_zero (sG_ok h1 h6) (show (sG m).St s from hs) hu).1 (by omega)
    rw [← this]; exact List.mem_singleton.2 rfl
  | a + 1, u, hu, h => by
    by_cases h0 : gfar (sG m) s u ≤ a
    · exact (fun h => by
        have h2 : ∀ (a : Nat) (l : List (List Int)), u ∈ reachS m a l → u ∈ reachS m (a + 1) l := by
          intro a
          induction a with
          | zero => intro l h; exact List.mem_flatMap.2 ⟨u, h, List.mem_cons_self ..⟩
          | succ a ih => intro l h; exact ih _ h
        exact h2 a [s] h) (mem_reachS h1 h6 hs a u hu h0)
    · have he : gfar (sG m) s u = a + 1 := by omega
      obtain ⟨k, hk, hf⟩ := gfar_prev (sG_ok h1 h6) (show (sG m).St s from hs) hu he
      have hB := sgAt_B h1 (by omega) hk
      have hv : St m (segT u (sgAt m k)) := hu.seg hB
      have h3 := mem_reachS h1 h6 hs a (segT u (sgAt m k)) hv (Nat.le_of_eq hf)
      have h4 := reachS_step a [s] _ _ h3 (sgAt_mem hk)
      rwa [segT_segT hu hB] at h4
theorem far_gtS {m : Nat} (h1 : 1 ≤ m) (h6 : m ≤ 6) {s t : List Int} (hs : St m s) (ht : St m t) (a b : Nat) (h : ((reachS m a [s]).all fun u => !(reachS m b [t]).contains u) = true) : a + b < gfar (sG m) s t := by
  apply Nat.lt_of_not_le
  intro hle
  obtain ⟨u, hu, e1, e2⟩ := gfar_mid (sG_ok h1 h6) (a := min a (gfar (sG m) s t)) (b := gfar (sG m) s t - min a (gfar (sG m) s t)) (show (sG m).St s from hs) (show (sG m).St t from ht) (by omega)
  have m1 := mem_reachS h1 h6 hs a u hu (by omega)
  have m2 := mem_reachS h1 h6 ht b u hu (by rw [gfar_symm (sG_ok h1 h6) (show (sG m).St t from ht) hu]; omega)
  have h2 := List.all_eq_true.1 h u m1
  simp [m2] at h2
theorem gecc_seg {m : Nat} (h1 : 1 ≤ m) (h6 : m ≤ 6) : gecc (sG m) (ramp 1 m) = m - 1 := by
  have hok := sG_ok h1 h6
  have hr : St m (ramp 1 m) := St.ramp m h1 (by omega)
  have hle := gecc_le hok (show (sG m).St (ramp 1 m) from hr)
  have hdm : (sG m).dm = m - 1 := rfl
  have key : ∀ (u : List Int) (a b : Nat), St m u → ((reachS m a [ramp 1 m]).all fun q => !(reachS m b [u]).contains q) = true → a + b + 1 ≤ gecc (sG m) (ramp 1 m) := fun u a b hu h => by
    have g1 := far_gtS h1 h6 hr hu a b h
    have g2 := gfar_ecc hok (show (sG m).St (ramp 1 m) from hr) (show (sG m).St u from hu)
    omega
  have hm : m = 1 ∨ m = 2 ∨ m = 3 ∨ m = 4 ∨ m = 5 ∨ m = 6 := by omega
  rcases hm with rfl | rfl | rfl | rfl | rfl | rfl
  · omega
  · have := key [2, 1] 0 0 ⟨by decide, rfl⟩ (by decide +kernel); omega
  · have := key [3, 1, 2] 1 0 ⟨by decide, rfl⟩ (by decide +kernel); omega
  · have := key [3, 1, 4, 2] 1 1 ⟨by decide, rfl⟩ (by decide +kernel); omega
  · have := key [3, 1, 5, 2, 4] 2 1 ⟨by decide, rfl⟩ (by decide +kernel); omega
  · have := key [3, 1, 5, 2, 6, 4] 2 2 ⟨by decide, rfl⟩ (by decide +kernel); omega

end Go.Pan

namespace Go.Pan
/-- the board of the stacks of m, for segments -/
def sgBd (m : Nat) : Bd := gBd (sG m) (fact m) rankL (unrank m) (ramp 1 m) 1 (sgN m + 1)
theorem sgBd_ok {m : Nat} (h1 : 1 ≤ m) (h6 : m ≤ 6) : BOk (sgBd m) :=
  gBd_ok (sG_ok h1 h6) (fun k => by rw [mem_sks]; omega) (fun _ h => rank_lt h) (fun _ h => unrank_st h1 (by omega) h) (fun _ h => unrank_rank h1 (by omega) h) (fun _ h => rank_unrank h)
    (St.ramp m h1 (by omega)) (rankL_ramp m 1)
theorem sgBd_N (m : Nat) : (sgBd m).N = fact m := rfl
theorem sgBd_lo (m : Nat) : (sgBd m).lo = 1 := rfl
theorem sgBd_hi (m : Nat) : (sgBd m).hi = sgN m + 1 := rfl
theorem sgBd_d {m : Nat} (h1 : 1 ≤ m) (h6 : m ≤ 6) {q : List Int} (h : St m q) : (sgBd m).d (rankL q) = gfar (sG m) q (ramp 1 m) := by
  show gfar (sG m) (ramp 1 m) (unrank m (rankL q)) = _
  rw [unrank_rank h1 (by omega) h]
  exact gfar_symm (sG_ok h1 h6) (show (sG m).St (ramp 1 m) from St.ramp m h1 (by omega)) h
theorem sgBd_nb {m : Nat} (h1 : 1 ≤ m) (h6 : m ≤ 6) {r : Nat} (h : r < fact m) {k : Nat} (hk : k ∈ (sG m).ks) : unrank m ((sgBd m).nb r k) = segT (unrank m r) (sgAt m k) := by
  show unrank m (rankL (segT (unrank m r) (sgAt m k))) = _
  exact unrank_rank h1 (by omega) ((unrank_st h1 (by omega) h).seg (sgAt_B h1 (by omega) hk))

open Go.Proofs.Ytmlikchhkblohaa (keyAt)
/-- places in the order of their codes -/
structure Ord (cs : List Int) (ord : List Nat) : Prop where
  len : ord.length = cs.length
  lt : ∀ j ∈ ord, j < cs.length
  mono : ∀ i j, i < j → j < ord.length → keyAt ord cs i < keyAt ord cs j
theorem keyAt_get {cs : List Int} {ord : List Nat} {j : Nat} (hj : j < ord.length) (h : ord[j] < cs.length) : keyAt ord cs j = cs[ord[j]] := by
  unfold keyAt
  rw [List.getD_eq_getElem?_getD, List.getD_eq_getElem?_getD, List.getElem?_eq_getElem hj, Option.getD_some, List.getElem?_eq_getElem h]
  rfl
theorem Ord.nodup {cs : List Int} {ord : List Nat} (h : Ord cs ord) : ord.Nodup := by
  refine List.pairwise_iff_getElem.2 fun i j hi hj hij e => ?_
  have h1 := h.mono i j hij hj
  rw [keyAt_get hi (h.lt _ (List.getElem_mem hi)), keyAt_get hj (h.lt _ (List.getElem_mem hj))] at h1
  simp only [e] at h1
  omega
theorem Ord.one (c : Int) : Ord [c] [0] := ⟨rfl, by simp, fun i j h1 h2 => by simp at h2; omega⟩
/-- a code is found if it is there -/
theorem Ord.found {cs : List Int} {ord : List Nat} (h : Ord cs ord) {code : Int} {lo : Nat} (_hlo : lo ≤ ord.length) (hA : ∀ j, j < lo → keyAt ord cs j < code) (hB : ∀ j, lo ≤ j → j < ord.length → code ≤ keyAt ord cs j)
    (hm : code ∈ cs) : lo < ord.length ∧ keyAt ord cs lo = code := by
  obtain ⟨i, hi, e⟩ := List.getElem_of_mem hm
  -- each place is in the order
  have hin : i ∈ ord := by
    apply Classical.byContradiction
    intro hni
    have hnd : ((i :: ord).map fun (x : Nat) => (x : Int)).Nodup := List.pairwise_map.2 ((List.nodup_cons.2 ⟨hni, h.nodup⟩).imp (fun hne e => hne (by omega)))
    have hsub := length_le_of_nodup_subset _ ((List.range cs.length).map fun (x : Nat) => (x : Int)) hnd (fun x hx => by
      obtain ⟨y, hy, rfl⟩ := List.mem_map.1 hx
      refine List.mem_map.2 ⟨y, List.mem_range.2 ?_, rfl⟩
      rcases List.mem_cons.1 hy with e | hy
      · omega
      · exact h.lt y hy)
    simp only [List.length_map, List.length_cons, List.length_range] at hsub
    have := h.len
    omega
  obtain ⟨j, hj, ej⟩ := List.getElem_of_mem hin
  have hk : keyAt ord cs j = code := by rw [keyAt_get hj (by rw [ej]; exact hi)]; simp only [ej]; exact e
  have h1 : lo ≤ j := by
    apply Nat.le_of_not_lt
    intro hlt
    have := hA j hlt
    omega
  have h2 : lo < ord.length := by omega
  have h3 := hB lo (Nat.le_refl _) h2
  refine ⟨h2, ?_⟩
  rcases Nat.lt_or_eq_of_le h1 with h4 | h4
  · have := h.mono lo j h4 hj; omega
  · rw [h4]; exact hk
/-- a new code put into its place -/
theorem Ord.insert {cs : List Int} {ord : List Nat} (h : Ord cs ord) {code : Int} {lo : Nat} (hlo : lo ≤ ord.length) (hA : ∀ j, j < lo → keyAt ord cs j < code) (hB : ∀ j, lo ≤ j → j < ord.length → code ≤ keyAt ord cs j)
    (hn : ¬ (lo < ord.length ∧ keyAt ord cs lo = code)) : Ord (cs ++ [code]) (ord.take lo ++ cs.length :: ord.drop lo) := by
  have hB' : ∀ j, lo ≤ j → j < ord.length → code < keyAt ord cs j := fun j h1 h2 => by
    have h3 := hB lo (Nat.le_refl _) (by omega)
    have h4 : keyAt ord cs lo ≠ code := fun e => hn ⟨by omega, e⟩
    rcases Nat.lt_or_eq_of_le h1 with h5 | h5
    · have := h.mono lo j h5 h2; omega
    · rw [← h5]; omega
  have hold : ∀ j, j < ord.length → ∀ i, (ord.take lo ++ cs.length :: ord.drop lo)[i]? = ord[j]? → keyAt (ord.take lo ++ cs.length :: ord.drop lo) (cs ++ [code]) i = keyAt ord cs j := fun j hj i e => by
    have hl := h.lt _ (List.getElem_mem hj)
    unfold keyAt
    rw [List.getD_eq_getElem?_getD (l := ord.take lo ++ _), List.getD_eq_getElem?_getD (l := ord), e, List.getElem?_eq_getElem hj, Option.getD_some, List.getD_eq_getElem?_getD, List.getD_eq_getElem?_getD, List.getElem?_append_left hl]
  have htl : (ord.take lo).length = lo := by rw [List.length_take]; omega
  have hlow : ∀ i, i < lo → keyAt (ord.take lo ++ cs.length :: ord.drop lo) (cs ++ [code]) i = keyAt ord cs i := fun i hi =>
    hold i (by omega) i (by rw [List.getElem?_append_left (by omega), List.getElem?_take_of_lt hi])
  have hmid : keyAt (ord.take lo ++ cs.length :: ord.drop lo) (cs ++ [code]) lo = code := by
    unfold keyAt
    rw [List.getD_eq_getElem?_getD (l := ord.take lo ++ _), List.getElem?_append_right (by omega), htl, Nat.sub_self]
    simp
  have hhigh : ∀ i, lo < i → i < ord.length + 1 → keyAt (ord.take lo ++ cs.length :: ord.drop lo) (cs ++ [code]) i = keyAt ord cs (i - 1) := fun i h1 h2 =>
    hold (i - 1) (by omega) i (by
      obtain ⟨k, rfl⟩ : ∃ k, i = lo + 1 + k := ⟨i - (lo + 1), by omega⟩
      rw [List.getElem?_append_right (by omega), htl, show lo + 1 + k - lo = k + 1 by omega, List.getElem?_cons_succ, List.getElem?_drop]
      congr 1
      omega)
  refine ⟨by simp [h.len]; have := h.len; omega, fun j hj => ?_, fun i j hij hj => ?_⟩
  · rw [List.length_append, List.length_singleton]
    rcases List.mem_append.1 hj with h1 | h1
    · have := h.lt j (List.mem_of_mem_take h1); omega
    · rcases List.mem_cons.1 h1 with h2 | h2
      · omega
      · have := h.lt j (List.mem_of_mem_drop h2); omega
  · have hjl : j < ord.length + 1 := by
      have : (ord.take lo ++ cs.length :: ord.drop lo).length = ord.length + 1 := by simp; omega
      omega
    rcases Nat.lt_trichotomy i lo with hi | hi | hi
    · rw [hlow i hi]
      rcases Nat.lt_trichotomy j lo with hj' | hj' | hj'
      · rw [hlow j hj']; exact h.mono i j hij (by omega)
      · rw [hj', hmid]; exact hA i hi
      · rw [hhigh j hj' hjl]
        have h1 := hA i hi
        have h2 := hB' (j - 1) (by omega) (by omega)
        omega
    · rw [hi, hmid, hhigh j (by omega) hjl]
      exact hB' (j - 1) (by omega) (by omega)
    · rw [hhigh i hi (by omega), hhigh j (by omega) hjl]
      exact h.mono (i - 1) (j - 1) (by omega) (by omega)

end Go.Pan

namespace Go.Proofs.Ytmlikchhkblohaa
open Go Go.RowKit Go.Pan

abbrev sl (p : Nat × Nat) (n : Nat) : Value := .slice (some ⟨p.1, 0, none⟩) n p.2
theorem ownsRow_heap {w w' : World} {B s n : Nat} {e : TypeId} {p : Nat × Nat} {xs : List Value} (h : w.ownsRow B e s (sl p n) n xs) (hk : w'.heap[p.1]? = w.heap[p.1]?) : w'.ownsRow B e s (sl p n) n xs := by
  refine ⟨h.1, ?_⟩
  rcases h.2 with hn | ⟨g, cap, cur, he, hb, hgg, rest⟩
  · exact .inl hn
  · refine .inr ⟨g, cap, cur, he, hb, ?_, rest⟩
    simp only [Value.slice.injEq, Option.some.injEq, Addr.mk.injEq, and_true, true_and] at he
    rw [← he.1, hk, he.1]; exact hgg

/-- all that the search among segments has laid: the struct, its three slices, the rows of the third, and the order -/
structure FS (B : Nat) (w : World) (bl : Nat) (a f t o : Nat × Nat) (C F : List Int) (S : List Value) (X : List (List Int)) (O : List Int) : Prop where
  l : Blk w bl 123 [sl a C.length, sl f F.length, sl t S.length]
  all : w.ownsRow B 3 1 (sl a C.length) C.length (C.map iv)
  far : w.ownsRow B 3 1 (sl f F.length) F.length (F.map iv)
  st : w.ownsRow B 22 1 (sl t S.length) S.length S
  ord : w.ownsRow B 3 1 (sl o O.length) O.length (O.map iv)
  bb : B ≤ bl
  lX : S.length = X.length
  row : ∀ (i : Nat) (u : Value) (xs : List Int), S[i]? = some u → X[i]? = some xs → OwnI w u xs ∧ ∀ g, u.ownBlock = some g → B ≤ g ∧ g ≠ bl ∧ g ≠ a.1 ∧ g ≠ f.1 ∧ g ≠ t.1 ∧ g ≠ o.1
  ne : bl ≠ a.1 ∧ bl ≠ f.1 ∧ bl ≠ t.1 ∧ bl ≠ o.1 ∧ a.1 ≠ f.1 ∧ a.1 ≠ t.1 ∧ a.1 ≠ o.1 ∧ f.1 ≠ t.1 ∧ f.1 ≠ o.1 ∧ t.1 ≠ o.1
section
variable {B : Nat} {w w' : World} {bl : Nat} {a f t o : Nat × Nat} {C F : List Int} {S : List Value} {X : List (List Int)} {O : List Int}
theorem FS.lts (h : FS B w bl a f t o C F S X O) : bl < w.heap.size ∧ (B ≤ a.1 ∧ a.1 < w.heap.size) ∧ (B ≤ f.1 ∧ f.1 < w.heap.size) ∧ (B ≤ t.1 ∧ t.1 < w.heap.size) ∧ (B ≤ o.1 ∧ o.1 < w.heap.size) :=
  ⟨h.l.lt, h.all.lt _ rfl, h.far.lt _ rfl, h.st.lt _ rfl, h.ord.lt _ rfl⟩
theorem FS.keep (h : FS B w bl a f t o C F S X O) (hk : ∀ g, B ≤ g → g < w.heap.size → w'.heap[g]? = w.heap[g]?) : FS B w' bl a f t o C F S X O := by
  obtain ⟨h1, h2, h3, h4, h5⟩ := h.lts
  refine ⟨?_, ownsRow_heap h.all (hk _ h2.1 h2.2), ownsRow_heap h.far (hk _ h3.1 h3.2), ownsRow_heap h.st (hk _ h4.1 h4.2), ownsRow_heap h.ord (hk _ h5.1 h5.2), h.bb, h.lX, fun i u xs hu hx => ?_, h.ne⟩
  · unfold Blk; rw [hk _ h.bb h1]; exact h.l
  · obtain ⟨e1, e2⟩ := h.row i u xs hu hx
    exact ⟨e1.kept fun g hg => hk g (e2 g hg).1 (e1.lt g hg), e2⟩
theorem FS.below (h : FS B w bl a f t o C F S X O) {N : Nat} (hb : Below N w w') (hN : w.heap.size ≤ N) : FS B w' bl a f t o C F S X O := h.keep fun g _ hg => hb.block g (Nat.lt_of_lt_of_le hg hN)
theorem FS.same (h : FS B w bl a f t o C F S X O) (hb : Below w.heap.size w w') : FS B w' bl a f t o C F S X O := h.below hb (Nat.le_refl _)
theorem FS.alloc (h : FS B w bl a f t o C F S X O) (ob : Obj) : FS B (w.alloc ob) bl a f t o C F S X O := h.keep fun g _ hg => Below.heap_alloc w ob g hg
theorem FS.drewN (h : FS B w bl a f t o C F S X O) (k : Nat) : FS B (w.drewN k) bl a f t o C F S X O := h.keep fun _ _ _ => rfl
theorem FS.drew (h : FS B w bl a f t o C F S X O) : FS B w.drew bl a f t o C F S X O := h.keep fun _ _ _ => rfl
theorem FS.owns (h : FS B w bl a f t o C F S X O) (hC : C.length ≤ 1048576) (hF : F.length ≤ 1048576) (hO : O.length ≤ 1048576) : OwnI w (sl a C.length) C ∧ OwnI w (sl f F.length) F ∧ OwnI w (sl o O.length) O :=
  ⟨(Go.Pan.Own.of_row h.all).1, (Go.Pan.Own.of_row h.far).1, (Go.Pan.Own.of_row h.ord).1⟩
theorem FS.fields (h : FS B w bl a f t o C F S X O) : w.cell? ⟨bl, 0, none⟩ = some (sl a C.length) ∧ w.cell? ⟨bl, 1, none⟩ = some (sl f F.length) ∧ w.cell? ⟨bl, 2, none⟩ = some (sl t S.length) :=
  ⟨by rw [h.l.cell 0]; rfl, by rw [h.l.cell 1]; rfl, by rw [h.l.cell 2]; rfl⟩
theorem FS.appA (h : FS B w bl a f t o C F S X O) {w1 : World} {g cap H : Nat} {x : Int} (hown : w1.ownsRow B 3 1 (.slice (some ⟨g, 0, none⟩) (C.length + 1) cap) (C.length + 1) (C.map iv ++ [iv x]))
    (hgr : w.grownBy w1 (sl a C.length).ownBlock) (hat : (sl a C.length).ownBlock = some g ∨ g = H) (hH : w.heap.size ≤ H) :
    FS B (w1.setCell ⟨bl, 0, none⟩ (sl (g, cap) (C.length + 1))) bl (g, cap) f t o (C ++ [x]) F S X O := by
  obtain ⟨h1, h2, h3, h4, h5⟩ := h.lts
  have hn := h.ne
  have hat' : a.1 = g ∨ g = H := by simpa [Value.ownBlock] using hat
  have hk : ∀ y, y < w.heap.size → y ≠ a.1 → y ≠ bl → (w1.setCell ⟨bl, 0, none⟩ (sl (g, cap) (C.length + 1))).heap[y]? = w.heap[y]? := fun y y1 y2 y3 =>
    (heap_setCell_other w1 ⟨bl, 0, none⟩ y _ y3).trans (hgr.block y y1 (by simpa [Value.ownBlock] using y2))
  have hg : ∀ y, y < w.heap.size → y ≠ a.1 → y ≠ g := fun y y1 y2 e => by subst e; omega
  have hlb : Blk w1 bl 123 [sl a C.length, sl f F.length, sl t S.length] := by
    unfold Blk; rw [hgr.block bl h1 (by simpa [Value.ownBlock] using hn.1)]; exact h.l
  have hblg := hg bl h1 hn.1
  have hl : (C ++ [x]).length = C.length + 1 := by simp
  refine ⟨by rw [hl]; exact hlb.set 0 (sl (g, cap) (C.length + 1)), ?_, ownsRow_heap h.far (hk _ h3.2 (by omega) (by omega)), ownsRow_heap h.st (hk _ h4.2 (by omega) (by omega)), ownsRow_heap h.ord (hk _ h5.2 (by omega) (by omega)), h.bb, h.lX, fun i u xs hu hx => ?_, ?_⟩
  · rw [hl, List.map_append]
    exact ownsRow_heap (p := (g, cap)) hown (heap_setCell_other w1 ⟨bl, 0, none⟩ g _ (fun e => hblg e.symm))
  · obtain ⟨e1, e2⟩ := h.row i u xs hu hx
    exact ⟨e1.kept fun y hy => hk y (e1.lt y hy) (e2 y hy).2.2.1 (e2 y hy).2.1, fun y hy => ⟨(e2 y hy).1, (e2 y hy).2.1, hg y (e1.lt y hy) (e2 y hy).2.2.1, (e2 y hy).2.2.2⟩⟩
  · have e3 := hg f.1 h3.2 (by omega)
    have e4 := hg t.1 h4.2 (by omega)
    have e5 := hg o.1 h5.2 (by omega)
    exact ⟨hblg, hn.2.1, hn.2.2.1, hn.2.2.2.1, fun e => e3 e.symm, fun e => e4 e.symm, fun e => e5 e.symm, hn.2.2.2.2.2.2.2⟩
theorem FS.appF (h : FS B w bl a f t o C F S X O) {w1 : World} {g cap H : Nat} {x : Int} (hown : w1.ownsRow B 3 1 (.slice (some ⟨g, 0, none⟩) (F.length + 1) cap) (F.length + 1) (F.map iv ++ [iv x]))
    (hgr : w.grownBy w1 (sl f F.length).ownBlock) (hat : (sl f F.length).ownBlock = some g ∨ g = H) (hH : w.heap.size ≤ H) :
    FS B (w1.setCell ⟨bl, 1, none⟩ (sl (g, cap) (F.length + 1))) bl a (g, cap) t o C (F ++ [x]) S X O := by
  obtain ⟨h1, h2, h3, h4, h5⟩ := h.lts
  have hn := h.ne
  have hat' : f.1 = g ∨ g = H := by simpa [Value.ownBlock] using hat
  have hk : ∀ y, y < w.heap.size → y ≠ f.1 → y ≠ bl → (w1.setCell ⟨bl, 1, none⟩ (sl (g, cap) (F.length + 1))).heap[y]? = w.heap[y]? := fun y y1 y2 y3 =>
    (heap_setCell_other w1 ⟨bl, 1, none⟩ y _ y3).trans (hgr.block y y1 (by simpa [Value.ownBlock] using y2))
  have hg : ∀ y, y < w.heap.size → y ≠ f.1 → y ≠ g := fun y y1 y2 e => by subst e; omega
  have hlb : Blk w1 bl 123 [sl a C.length, sl f F.length, sl t S.length] := by
    unfold Blk; rw [hgr.block bl h1 (by simpa [Value.ownBlock] using hn.2.1)]; exact h.l
  have hblg := hg bl h1 hn.2.1
  have hl : (F ++ [x]).length = F.length + 1 := by simp
  refine ⟨by rw [hl]; exact hlb.set 1 (sl (g, cap) (F.length + 1)), ownsRow_heap h.all (hk _ h2.2 (by omega) (by omega)), ?_, ownsRow_heap h.st (hk _ h4.2 (by omega) (by omega)), ownsRow_heap h.ord (hk _ h5.2 (by omega) (by omega)), h.bb, h.lX, fun i u xs hu hx => ?_, ?_⟩
  · rw [hl, List.map_append]
    exact ownsRow_heap (p := (g, cap)) hown (heap_setCell_other w1 ⟨bl, 1, none⟩ g _ (fun e => hblg e.symm))
  · obtain ⟨e1, e2⟩ := h.row i u xs hu hx
    exact ⟨e1.kept fun y hy => hk y (e1.lt y hy) (e2 y hy).2.2.2.1 (e2 y hy).2.1, fun y hy => ⟨(e2 y hy).1, (e2 y hy).2.1, (e2 y hy).2.2.1, hg y (e1.lt y hy) (e2 y hy).2.2.2.1, (e2 y hy).2.2.2.2⟩⟩
  · have e3 := hg a.1 h2.2 (by omega)
    have e4 := hg t.1 h4.2 (by omega)
    have e5 := hg o.1 h5.2 (by omega)
    exact ⟨hn.1, hblg, hn.2.2.1, hn.2.2.2.1, e3, hn.2.2.2.2.2.1, hn.2.2.2.2.2.2.1, fun e => e4 e.symm, fun e => e5 e.symm, hn.2.2.2.2.2.2.2.2.2⟩
theorem FS.appT (h : FS B w bl a f t o C F S X O) {w1 : World} {g cap H : Nat} {u : Value} {x : List Int} (hown : w1.ownsRow B 22 1 (.slice (some ⟨g, 0, none⟩) (S.length + 1) cap) (S.length + 1) (S ++ [u]))
    (hgr : w.grownBy w1 (sl t S.length).ownBlock) (hat : (sl t S.length).ownBlock = some g ∨ g = H) (hH : w.heap.size ≤ H)
    (hu : OwnI w u x) (hub : ∀ y, u.ownBlock = some y → B ≤ y ∧ y ≠ bl ∧ y ≠ a.1 ∧ y ≠ f.1 ∧ y ≠ t.1 ∧ y ≠ o.1) :
    FS B (w1.setCell ⟨bl, 2, none⟩ (sl (g, cap) (S.length + 1))) bl a f (g, cap) o C F (S ++ [u]) (X ++ [x]) O := by
  obtain ⟨h1, h2, h3, h4, h5⟩ := h.lts
  have hn := h.ne
  have hat' : t.1 = g ∨ g = H := by simpa [Value.ownBlock] using hat
  have hk : ∀ y, y < w.heap.size → y ≠ t.1 → y ≠ bl → (w1.setCell ⟨bl, 2, none⟩ (sl (g, cap) (S.length + 1))).heap[y]? = w.heap[y]? := fun y y1 y2 y3 =>
    (heap_setCell_other w1 ⟨bl, 2, none⟩ y _ y3).trans (hgr.block y y1 (by simpa [Value.ownBlock] using y2))
  have hg : ∀ y, y < w.heap.size → y ≠ t.1 → y ≠ g := fun y y1 y2 e => by subst e; omega
  have hlb : Blk w1 bl 123 [sl a C.length, sl f F.length, sl t S.length] := by
    unfold Blk; rw [hgr.block bl h1 (by simpa [Value.ownBlock] using hn.2.2.1)]; exact h.l
  have hblg := hg bl h1 hn.2.2.1
  have hl : (S ++ [u]).length = S.length + 1 := by simp
  have hX := h.lX
  have key : ∀ (v : Value) (xs : List Int), OwnI w v xs → (∀ y, v.ownBlock = some y → B ≤ y ∧ y ≠ bl ∧ y ≠ a.1 ∧ y ≠ f.1 ∧ y ≠ t.1 ∧ y ≠ o.1) →
      OwnI (w1.setCell ⟨bl, 2, none⟩ (sl (g, cap) (S.length + 1))) v xs ∧ ∀ y, v.ownBlock = some y → B ≤ y ∧ y ≠ bl ∧ y ≠ a.1 ∧ y ≠ f.1 ∧ y ≠ g ∧ y ≠ o.1 := fun v xs e1 e2 =>
    ⟨e1.kept fun y hy => hk y (e1.lt y hy) (e2 y hy).2.2.2.2.1 (e2 y hy).2.1, fun y hy => ⟨(e2 y hy).1, (e2 y hy).2.1, (e2 y hy).2.2.1, (e2 y hy).2.2.2.1, hg y (e1.lt y hy) (e2 y hy).2.2.2.2.1, (e2 y hy).2.2.2.2.2⟩⟩
  refine ⟨by rw [hl]; exact hlb.set 2 (sl (g, cap) (S.length + 1)), ownsRow_heap h.all (hk _ h2.2 (by omega) (by omega)), ownsRow_heap h.far (hk _ h3.2 (by omega) (by omega)), ?_, ownsRow_heap h.ord (hk _ h5.2 (by omega) (by omega)), h.bb, by simp [hX], fun i v xs hv hx => ?_, ?_⟩
  · rw [hl]
    exact ownsRow_heap (p := (g, cap)) hown (heap_setCell_other w1 ⟨bl, 2, none⟩ g _ (fun e => hblg e.symm))
  · by_cases hi : i < S.length
    · rw [List.getElem?_append_left hi] at hv
      rw [List.getElem?_append_left (by omega)] at hx
      obtain ⟨e1, e2⟩ := h.row i v xs hv hx
      exact key v xs e1 e2
    · rw [List.getElem?_append_right (by omega)] at hv
      rw [List.getElem?_append_right (by omega)] at hx
      have h0 : i - S.length < 1 := (List.getElem?_eq_some_iff.1 hv).1
      have h1 : i - S.length = 0 := by omega
      rw [h1] at hv
      rw [← hX, h1] at hx
      simp at hv hx
      subst hv
      subst hx
      exact key _ _ hu hub
  · have e3 := hg a.1 h2.2 (by omega)
    have e4 := hg f.1 h3.2 (by omega)
    have e5 := hg o.1 h5.2 (by omega)
    exact ⟨hn.1, hn.2.1, hblg, hn.2.2.2.1, hn.2.2.2.2.1, e3, hn.2.2.2.2.2.2.1, e4, hn.2.2.2.2.2.2.2.2.1, fun e => e5 e.symm⟩
theorem FS.appO (h : FS B w bl a f t o C F S X O) {w1 : World} {g cap H : Nat} {x : Int} (hown : w1.ownsRow B 3 1 (.slice (some ⟨g, 0, none⟩) (O.length + 1) cap) (O.length + 1) (O.map iv ++ [iv x]))
    (hgr : w.grownBy w1 (sl o O.length).ownBlock) (hat : (sl o O.length).ownBlock = some g ∨ g = H) (hH : w.heap.size ≤ H) :
    FS B w1 bl a f t (g, cap) C F S X (O ++ [x]) := by
  obtain ⟨h1, h2, h3, h4, h5⟩ := h.lts
  have hn := h.ne
  have hat' : o.1 = g ∨ g = H := by simpa [Value.ownBlock] using hat
  have hk : ∀ y, y < w.heap.size → y ≠ o.1 → w1.heap[y]? = w.heap[y]? := fun y y1 y2 => hgr.block y y1 (by simpa [Value.ownBlock] using y2)
  have hg : ∀ y, y < w.heap.size → y ≠ o.1 → y ≠ g := fun y y1 y2 e => by subst e; omega
  have hl : (O ++ [x]).length = O.length + 1 := by simp
  refine ⟨?_, ownsRow_heap h.all (hk _ h2.2 (by omega)), ownsRow_heap h.far (hk _ h3.2 (by omega)), ownsRow_heap h.st (hk _ h4.2 (by omega)), ?_, h.bb, h.lX, fun i u xs hu hx => ?_, ?_⟩
  · unfold Blk; rw [hk bl h1 (by omega)]; exact h.l
  · rw [hl, List.map_append]
    exact hown
  · obtain ⟨e1, e2⟩ := h.row i u xs hu hx
    exact ⟨e1.kept fun y hy => hk y (e1.lt y hy) (e2 y hy).2.2.2.2.2, fun y hy => ⟨(e2 y hy).1, (e2 y hy).2.1, (e2 y hy).2.2.1, (e2 y hy).2.2.2.1, (e2 y hy).2.2.2.2.1, hg y (e1.lt y hy) (e2 y hy).2.2.2.2.2⟩⟩
  · have e2 := hg bl h1 (by omega)
    have e3 := hg a.1 h2.2 (by omega)
    have e4 := hg f.1 h3.2 (by omega)
    have e5 := hg t.1 h4.2 (by omega)
    exact ⟨hn.1, hn.2.1, hn.2.2.1, e2, hn.2.2.2.2.1, hn.2.2.2.2.2.1, e3, hn.2.2.2.2.2.2.2.1, e4, e5⟩
/-- the order written anew -/
theorem FS.setO (h : FS B w bl a f t o C F S X O) {w1 : World} {O' : List Int} (hgr : w.grownBy w1 (some o.1)) (hl : O'.length = O.length) (hown : w1.ownsRow B 3 1 (sl o O'.length) O'.length (O'.map iv)) : FS B w1 bl a f t o C F S X O' := by
  obtain ⟨h1, h2, h3, h4, h5⟩ := h.lts
  have hn := h.ne
  have hk : ∀ y, y < w.heap.size → y ≠ o.1 → w1.heap[y]? = w.heap[y]? := fun y y1 y2 => hgr.block y y1 (by simpa using y2)
  refine ⟨?_, ownsRow_heap h.all (hk _ h2.2 (by omega)), ownsRow_heap h.far (hk _ h3.2 (by omega)), ownsRow_heap h.st (hk _ h4.2 (by omega)), hown, h.bb, h.lX, fun i u xs hu hx => ?_, h.ne⟩
  · unfold Blk; rw [hk bl h1 (by omega)]; exact h.l
  · obtain ⟨e1, e2⟩ := h.row i u xs hu hx
    exact ⟨e1.kept fun y hy => hk y (e1.lt y hy) (e2 y hy).2.2.2.2.2, e2⟩
/-- a new slice lies elsewhere -/
theorem FS.new (h : FS B w bl a f t o C F S X O) {v : Value} {N : Nat} (hf : From N v) (hN : w.heap.size ≤ N) (hB : B ≤ w.heap.size) : ∀ y, v.ownBlock = some y → B ≤ y ∧ y ≠ bl ∧ y ≠ a.1 ∧ y ≠ f.1 ∧ y ≠ t.1 ∧ y ≠ o.1 := fun y hy => by
  have h0 := hf y hy
  obtain ⟨h1, h2, h3, h4, h5⟩ := h.lts
  exact ⟨by omega, by omega, by omega, by omega, by omega, by omega⟩
end
/-- the order's block, its cells and what lies behind them -/
theorem row_blk {w : World} {B n : Nat} {e : TypeId} {p : Nat × Nat} {xs : List Value} (h : w.ownsRow B e 1 (sl p n) n xs) : ∃ tl, Blk w p.1 e (xs ++ tl) ∧ (xs ++ tl).length = p.2 ∧ n ≤ p.2 ∧ p.2 ≤ maxLen ∧ B ≤ p.1 := by
  rcases h.2 with ⟨hn, _⟩ | ⟨g, cap, cur, he, hb, hgg, h1, h2, h3, h4⟩
  · simp at hn
  · simp only [Value.slice.injEq, Option.some.injEq, Addr.mk.injEq, and_true, true_and] at he
    obtain ⟨e1, e2⟩ := he
    subst e1; subst e2
    rw [Nat.mul_one] at h3 h4
    refine ⟨cur.toList.drop n, ?_, ?_, h1, h2, hb⟩
    · rw [← h4, List.take_append_drop]; exact hgg
    · rw [← h4, List.take_append_drop]; simpa using h3
theorem blk_row {w : World} {B n : Nat} {e : TypeId} {p : Nat × Nat} {xs tl : List Value} (h : Blk w p.1 e (xs ++ tl)) (hl : (xs ++ tl).length = p.2) (hn : xs.length = n) (hm : p.2 ≤ maxLen) (hB : B ≤ p.1) : w.ownsRow B e 1 (sl p n) n xs := by
  refine ⟨by omega, .inr ⟨p.1, p.2, (xs ++ tl).toArray, rfl, hB, h, ?_, hm, by simpa using hl, ?_⟩⟩
  · rw [List.length_append] at hl; omega
  · rw [Nat.mul_one]; simp [← hn]

end Go.Proofs.Ytmlikchhkblohaa

namespace Go.Pan
open Go Go.RowKit
theorem wpList_copy_rowX {P : Program} {w : World} {ops : Array Oper} {rest : List Oper} {o : Oper} {a : Act} {Q : Exit → Act → World → Prop} (hgd : o.guard = none) (d s : Operand) (dT sT : TypeId)
    (ho : o.op = .call { callee := .builtin .copy, args := #[d, s], argTypes := #[dT, sT] }) (elem : TypeId) (hu : P.underlying dT = some (.slice elem)) (hsz : (P.info? elem).map (·.size) = some 1)
    (dp sp : Option Addr) (dLen dCap sLen sCap : Nat) (hd : a.eval d = .slice dp dLen dCap) (hs : a.eval s = .slice sp sLen sCap)
    (g off : Nat) (cur : List Value) (t : TypeId) (hg : Blk w g t cur) (cs : List Value) (hn : cs.length = Nat.min sLen dLen)
    (hpos : 0 < cs.length → dp = some ⟨g, off, none⟩ ∧ ∃ ad, sp = some ad ∧ ∀ j v, cs[j]? = some v → w.cell? (ad.add j) = some v)
    (hfit : off + cs.length ≤ cur.length) (h1 : ∀ v ∈ cs, v.oneCell' = true)
    (h : ∀ w', Blk w' g t (splice cur off cs) → w.grownBy w' (some g) → wpList P ops Q rest (a.put o.dst (goInt cs.length)) w') :
    wpList P ops Q (o :: rest) a w := by
  by_cases h0 : cs.length = 0
  · obtain rfl : cs = [] := List.eq_nil_of_length_eq_zero h0
    refine wpList_copy_nothing hgd d s dT sT ho elem hu hsz dp sp dLen dCap sLen sCap hd hs (by simpa using hn.symm) ?_
    exact h w (by simpa [splice] using hg) (World.grownBy.refl _ _)
  · obtain ⟨rfl, ad, rfl, hsrc⟩ := hpos (by omega)
    refine wpList_copy_own hgd d s dT sT ho elem hu hsz g off dLen dCap ad sLen sCap hd hs cur.toArray t hg cs hn hsrc (by simpa using hfit) h1 ?_
    refine h _ ?_ ⟨rfl, rfl, rfl, by simp [World.setRow], fun k _ hk => setRow_other w g k _ (fun e => hk (by rw [e]))⟩
    have := hg.setRow (splice cur off cs)
    simpa [splice] using this

end Go.Pan

namespace Go.Proofs.Ytmlikchhkblohaa
open Go Go.RowKit Go.Pan

/-- 's[k:]' of a slice that lies at the beginning of a block -/
theorem run_fromX (o n cap k : Nat) (hkn : k ≤ n) (hnc : n ≤ cap) (W : World) :
    (Instr.sliceAt 22 (.slice (some ⟨o, 0, none⟩) n cap) (some (.int .i64 (k : Int))) none none).run Try.prog W = .ok (.slice (some ⟨o, if cap = k then 0 else k, none⟩) (n - k) (cap - k)) W := by
  obtain ⟨i, hi, hz, hs1, hb8⟩ := info_parts Try.info3
  have he : Try.prog.elem 22 = 3 := by simp [Program.elem, Try.underlying22]
  rw [run_sliceAt_slice W 22 _ _ _ _ (by rw [he]; exact Try.underlying22), run_slice_l W 22 (some ⟨o, 0, none⟩) n cap (by rw [he]; exact Try.underlying22) .i64 k (by omega) (by omega)]
  simp [sizeOf, typeInfo, he, hi, hs1, sliced, Result.andThen]
  split <;> simp [Addr.add] <;> omega

theorem sgBd_le {m : Nat} (h1 : 1 ≤ m) (h6 : m ≤ 6) {r : Nat} (h : r < fact m) : (sgBd m).d r ≤ 720 := by
  have := (gfar_spec (sG_ok h1 h6) (show (sG m).St (ramp 1 m) from St.ramp m h1 (by omega)) (show (sG m).St _ from unrank_st h1 (by omega) h)).2.1
  have e : (sG m).dm = m - 1 := rfl
  show gfar (sG m) (ramp 1 m) (unrank m r) ≤ 720
  omega
def Cd (m : Nat) (Q : List Nat) : List Int := Q.map fun r => codeL (unrank m r)
def Fd (m : Nat) (Q : List Nat) : List Int := Q.map fun r => ((sgBd m).d r : Int)
def Xd (m : Nat) (Q : List Nat) : List (List Int) := Q.map (unrank m)
def Od (ord : List Nat) : List Int := ord.map fun (j : Nat) => (j : Int)
theorem Cd_length (m : Nat) (Q : List Nat) : (Cd m Q).length = Q.length := by simp [Cd]
theorem Fd_length (m : Nat) (Q : List Nat) : (Fd m Q).length = Q.length := by simp [Fd]
theorem Xd_length (m : Nat) (Q : List Nat) : (Xd m Q).length = Q.length := by simp [Xd]
theorem Od_length (ord : List Nat) : (Od ord).length = ord.length := by simp [Od]

theorem ints_oneX (l : List Int) : ∀ u ∈ l.map iv, u.oneCell' = true := fun u hu => by
  obtain ⟨x, _, rfl⟩ := List.mem_map.1 hu
  rfl
theorem splice_ord (O : List Int) (tl : List Value) (x : Int) (lo : Nat) (h : lo ≤ O.length) : splice ((O ++ [x]).map iv ++ tl) (lo + 1) ((O.drop lo).map iv) = ((O ++ [x]).take (lo + 1) ++ O.drop lo).map iv ++ tl := by
  have hl : ((O.drop lo).map iv).length = O.length - lo := by rw [List.length_map, List.length_drop]
  obtain ⟨L, hL⟩ : ∃ L, O ++ [x] = L := ⟨_, rfl⟩
  have hLl : L.length = O.length + 1 := by rw [← hL]; simp
  rw [hL]
  unfold splice
  rw [hl, List.take_append_of_le_length (by rw [List.length_map]; omega), ← List.map_take, List.drop_left' (by rw [List.length_map]; omega), List.map_append, List.append_assoc]
theorem set_ord (O : List Int) (x c : Int) (lo : Nat) (h : lo ≤ O.length) : ((O ++ [x]).take (lo + 1) ++ O.drop lo).set lo c = O.take lo ++ c :: O.drop lo := by
  have h1 : lo < (O ++ [x]).length := by simp; omega
  rw [List.take_succ_eq_append_getElem h1, List.append_assoc, List.set_append_right _ _ (by rw [List.length_take]; omega), List.length_take, Nat.min_eq_left (by omega), Nat.sub_self, List.take_append_of_le_length h]
  rfl
theorem Cd_snoc (m : Nat) (Q : List Nat) (x : Nat) : Cd m (Q ++ [x]) = Cd m Q ++ [codeL (unrank m x)] := by simp [Cd]
theorem Fd_snoc (m : Nat) (Q : List Nat) (x : Nat) : Fd m (Q ++ [x]) = Fd m Q ++ [((sgBd m).d x : Int)] := by simp [Fd]
theorem Xd_snoc (m : Nat) (Q : List Nat) (x : Nat) : Xd m (Q ++ [x]) = Xd m Q ++ [unrank m x] := by simp [Xd]
theorem Od_insert (ord : List Nat) (lo c : Nat) : Od (ord.take lo ++ c :: ord.drop lo) = (Od ord).take lo ++ (c : Int) :: (Od ord).drop lo := by simp [Od]
/-- the first state of the search -/
theorem FS.start {w : World} {B : Nat} {u : Value} {x : List Int} (c : Int) (hu : OwnI w u x) (hf : From B u) (hB : B ≤ w.heap.size) :
    FS B (((((w.alloc (.cells #[.int .i64 c] 3)).alloc (.cells #[.int .i64 0] 3)).alloc (.cells #[u] 22)).alloc (.cells #[sl (w.heap.size, 1) 1, sl (w.heap.size + 1, 1) 1, sl (w.heap.size + 1 + 1, 1) 1] 123)).alloc (.cells #[.int .i64 0] 3))
      (w.heap.size + 1 + 1 + 1) (w.heap.size, 1) (w.heap.size + 1, 1) (w.heap.size + 1 + 1, 1) (w.heap.size + 1 + 1 + 1 + 1, 1) [c] [0] [u] [x] [0] := by
  have b0 : Blk (w.alloc (.cells #[.int .i64 c] 3)) w.heap.size 3 [.int .i64 c] := Blk.new w _ _ _ rfl
  have b1 : Blk ((w.alloc (.cells #[.int .i64 c] 3)).alloc (.cells #[.int .i64 0] 3)) (w.heap.size + 1) 3 [.int .i64 0] := Blk.new _ _ _ _ (by simp)
  have b2 : Blk (((w.alloc (.cells #[.int .i64 c] 3)).alloc (.cells #[.int .i64 0] 3)).alloc (.cells #[u] 22)) (w.heap.size + 1 + 1) 22 [u] := Blk.new _ _ _ _ (by simp)
  have b3 : Blk ((((w.alloc (.cells #[.int .i64 c] 3)).alloc (.cells #[.int .i64 0] 3)).alloc (.cells #[u] 22)).alloc (.cells #[sl (w.heap.size, 1) 1, sl (w.heap.size + 1, 1) 1, sl (w.heap.size + 1 + 1, 1) 1] 123)) (w.heap.size + 1 + 1 + 1) 123 [sl (w.heap.size, 1) 1, sl (w.heap.size + 1, 1) 1, sl (w.heap.size + 1 + 1, 1) 1] := Blk.new _ _ _ _ (by simp)
  have b4 : Blk (((((w.alloc (.cells #[.int .i64 c] 3)).alloc (.cells #[.int .i64 0] 3)).alloc (.cells #[u] 22)).alloc (.cells #[sl (w.heap.size, 1) 1, sl (w.heap.size + 1, 1) 1, sl (w.heap.size + 1 + 1, 1) 1] 123)).alloc (.cells #[.int .i64 0] 3)) (w.heap.size + 1 + 1 + 1 + 1) 3 [.int .i64 0] := Blk.new _ _ _ _ (by simp)
  refine ⟨b3.alloc _, ?_, ?_, ?_, ?_, by omega, rfl, fun i v xs hv hx => ?_, by simp; omega⟩
  · exact blk_row (tl := []) (((b0.alloc _).alloc _).alloc _ |>.alloc _) rfl rfl (by simp [maxLen]) hB
  · exact blk_row (tl := []) (((b1.alloc _).alloc _).alloc _) rfl rfl (by simp [maxLen]) (by simp; omega)
  · exact blk_row (tl := []) ((b2.alloc _).alloc _) rfl rfl (by simp [maxLen]) (by simp; omega)
  · exact blk_row (tl := []) b4 rfl rfl (by simp [maxLen]) (by simp; omega)
  · have h0 : i < 1 := (List.getElem?_eq_some_iff.1 hv).1
    obtain rfl : i = 0 := by omega
    simp at hv hx
    subst hv
    subst hx
    refine ⟨((((hu.alloc _).alloc _).alloc _).alloc _).alloc _, fun g hg => ?_⟩
    have h1 := hu.lt g hg
    have h2 := hf g hg
    simp
    omega
/-- the state amid a new stack's entry: what is laid, the segments, the new row -/
structure FM (m B : Nat) (w : World) (bl : Nat) (a f t o : Nat × Nat) (C F : List Int) (S : List Value) (X : List (List Int)) (O : List Int) (tv rv : Value) (R : List Int) : Prop where
  fs : FS B w bl a f t o C F S X O
  ts : OwnC c2 w tv (segsAll m)
  ap : ∀ g, tv.ownBlock = some g → g ≠ bl ∧ g ≠ a.1 ∧ g ≠ f.1 ∧ g ≠ t.1 ∧ g ≠ o.1
  row : OwnI w rv R
  rp : ∀ g, rv.ownBlock = some g → B ≤ g ∧ g ≠ bl ∧ g ≠ a.1 ∧ g ≠ f.1 ∧ g ≠ t.1 ∧ g ≠ o.1
section
variable {m B : Nat} {w w' : World} {bl : Nat} {a f t o : Nat × Nat} {C F : List Int} {S : List Value} {X : List (List Int)} {O : List Int} {tv rv : Value} {R : List Int}
theorem FM.keep (h : FM m B w bl a f t o C F S X O tv rv R) (hk : ∀ g, g < w.heap.size → w'.heap[g]? = w.heap[g]?) : FM m B w' bl a f t o C F S X O tv rv R :=
  ⟨h.fs.keep fun g _ hg => hk g hg, Go.Pan.Own.kept h.ts fun g hg => hk g (Go.Pan.Own.lt h.ts g hg), h.ap, Go.Pan.Own.kept h.row fun g hg => hk g (Go.Pan.Own.lt h.row g hg), h.rp⟩
theorem FM.same (h : FM m B w bl a f t o C F S X O tv rv R) (hb : Below w.heap.size w w') : FM m B w' bl a f t o C F S X O tv rv R := h.keep fun g hg => hb.block g hg
theorem FM.drew (h : FM m B w bl a f t o C F S X O tv rv R) : FM m B w.drew bl a f t o C F S X O tv rv R := h.keep fun _ _ => rfl
theorem FM.alloc (h : FM m B w bl a f t o C F S X O tv rv R) (ob : Obj) : FM m B (w.alloc ob) bl a f t o C F S X O tv rv R := h.keep fun g hg => Below.heap_alloc w ob g hg
theorem FM.appA (h : FM m B w bl a f t o C F S X O tv rv R) {w1 : World} {g cap H : Nat} {x : Int} (hown : w1.ownsRow B 3 1 (.slice (some ⟨g, 0, none⟩) (C.length + 1) cap) (C.length + 1) (C.map iv ++ [iv x]))
    (hgr : w.grownBy w1 (sl a C.length).ownBlock) (hat : (sl a C.length).ownBlock = some g ∨ g = H) (hH : w.heap.size ≤ H) : FM m B (w1.setCell ⟨bl, 0, none⟩ (sl (g, cap) (C.length + 1))) bl (g, cap) f t o (C ++ [x]) F S X O tv rv R := by
  have hat' : a.1 = g ∨ g = H := by simpa [Value.ownBlock] using hat
  have hk : ∀ y, y < w.heap.size → y ≠ a.1 → y ≠ bl → (w1.setCell ⟨bl, 0, none⟩ (sl (g, cap) (C.length + 1))).heap[y]? = w.heap[y]? := fun y y1 y2 y3 =>
    (heap_setCell_other w1 ⟨bl, 0, none⟩ y _ y3).trans (hgr.block y y1 (by simpa [Value.ownBlock] using y2))
  have hg : ∀ y, y < w.heap.size → y ≠ a.1 → y ≠ g := fun y y1 y2 e => by subst e; omega
  refine ⟨h.fs.appA hown hgr hat hH, Go.Pan.Own.kept h.ts fun y hy => ?_, fun y hy => ?_, Go.Pan.Own.kept h.row fun y hy => ?_, fun y hy => ?_⟩
  · have q := h.ap y hy
    exact hk y (Go.Pan.Own.lt h.ts y hy) (by omega) q.1
  · have q := h.ap y hy
    have q2 := hg y (Go.Pan.Own.lt h.ts y hy) (by omega)
    exact ⟨q.1, q2, q.2.2.1, q.2.2.2.1, q.2.2.2.2⟩
  · have q := h.rp y hy
    exact hk y (Go.Pan.Own.lt h.row y hy) (by omega) q.2.1
  · have q := h.rp y hy
    have q2 := hg y (Go.Pan.Own.lt h.row y hy) (by omega)
    exact ⟨q.1, q.2.1, q2, q.2.2.2.1, q.2.2.2.2.1, q.2.2.2.2.2⟩
theorem FM.appF (h : FM m B w bl a f t o C F S X O tv rv R) {w1 : World} {g cap H : Nat} {x : Int} (hown : w1.ownsRow B 3 1 (.slice (some ⟨g, 0, none⟩) (F.length + 1) cap) (F.length + 1) (F.map iv ++ [iv x]))
    (hgr : w.grownBy w1 (sl f F.length).ownBlock) (hat : (sl f F.length).ownBlock = some g ∨ g = H) (hH : w.heap.size ≤ H) : FM m B (w1.setCell ⟨bl, 1, none⟩ (sl (g, cap) (F.length + 1))) bl a (g, cap) t o C (F ++ [x]) S X O tv rv R := by
  have hat' : f.1 = g ∨ g = H := by simpa [Value.ownBlock] using hat
  have hk : ∀ y, y < w.heap.size → y ≠ f.1 → y ≠ bl → (w1.setCell ⟨bl, 1, none⟩ (sl (g, cap) (F.length + 1))).heap[y]? = w.heap[y]? := fun y y1 y2 y3 =>
    (heap_setCell_other w1 ⟨bl, 1, none⟩ y _ y3).trans (hgr.block y y1 (by simpa [Value.ownBlock] using y2))
  have hg : ∀ y, y < w.heap.size → y ≠ f.1 → y ≠ g := fun y y1 y2 e => by subst e; omega
  refine ⟨h.fs.appF hown hgr hat hH, Go.Pan.Own.kept h.ts fun y hy => ?_, fun y hy => ?_, Go.Pan.Own.kept h.row fun y hy => ?_, fun y hy => ?_⟩
  · have q := h.ap y hy
    exact hk y (Go.Pan.Own.lt h.ts y hy) (by omega) q.1
  · have q := h.ap y hy
    have q2 := hg y (Go.Pan.Own.lt h.ts y hy) (by omega)
    exact ⟨q.1, q.2.1, q2, q.2.2.2.1, q.2.2.2.2⟩
  · have q := h.rp y hy
    exact hk y (Go.Pan.Own.lt h.row y hy) (by omega) q.2.1
  · have q := h.rp y hy
    have q2 := hg y (Go.Pan.Own.lt h.row y hy) (by omega)
    exact ⟨q.1, q.2.1, q.2.2.1, q2, q.2.2.2.2.1, q.2.2.2.2.2⟩
theorem FM.appT (h : FM m B w bl a f t o C F S X O tv rv R) {w1 : World} {g cap H : Nat} (hown : w1.ownsRow B 22 1 (.slice (some ⟨g, 0, none⟩) (S.length + 1) cap) (S.length + 1) (S ++ [rv]))
    (hgr : w.grownBy w1 (sl t S.length).ownBlock) (hat : (sl t S.length).ownBlock = some g ∨ g = H) (hH : w.heap.size ≤ H) : FM m B (w1.setCell ⟨bl, 2, none⟩ (sl (g, cap) (S.length + 1))) bl a f (g, cap) o C F (S ++ [rv]) (X ++ [R]) O tv rv R := by
  have hat' : t.1 = g ∨ g = H := by simpa [Value.ownBlock] using hat
  have hk : ∀ y, y < w.heap.size → y ≠ t.1 → y ≠ bl → (w1.setCell ⟨bl, 2, none⟩ (sl (g, cap) (S.length + 1))).heap[y]? = w.heap[y]? := fun y y1 y2 y3 =>
    (heap_setCell_other w1 ⟨bl, 2, none⟩ y _ y3).trans (hgr.block y y1 (by simpa [Value.ownBlock] using y2))
  have hg : ∀ y, y < w.heap.size → y ≠ t.1 → y ≠ g := fun y y1 y2 e => by subst e; omega
  refine ⟨h.fs.appT hown hgr hat hH h.row h.rp, Go.Pan.Own.kept h.ts fun y hy => ?_, fun y hy => ?_, Go.Pan.Own.kept h.row fun y hy => ?_, fun y hy => ?_⟩
  · have q := h.ap y hy
    exact hk y (Go.Pan.Own.lt h.ts y hy) (by omega) q.1
  · have q := h.ap y hy
    have q2 := hg y (Go.Pan.Own.lt h.ts y hy) (by omega)
    exact ⟨q.1, q.2.1, q.2.2.1, q2, q.2.2.2.2⟩
  · have q := h.rp y hy
    exact hk y (Go.Pan.Own.lt h.row y hy) (by omega) q.2.1
  · have q := h.rp y hy
    have q2 := hg y (Go.Pan.Own.lt h.row y hy) (by omega)
    exact ⟨q.1, q.2.1, q.2.2.1, q.2.2.2.1, q2, q.2.2.2.2.2⟩
theorem FM.appO (h : FM m B w bl a f t o C F S X O tv rv R) {w1 : World} {g cap H : Nat} {x : Int} (hown : w1.ownsRow B 3 1 (.slice (some ⟨g, 0, none⟩) (O.length + 1) cap) (O.length + 1) (O.map iv ++ [iv x]))
    (hgr : w.grownBy w1 (sl o O.length).ownBlock) (hat : (sl o O.length).ownBlock = some g ∨ g = H) (hH : w.heap.size ≤ H) : FM m B w1 bl a f t (g, cap) C F S X (O ++ [x]) tv rv R := by
  have hat' : o.1 = g ∨ g = H := by simpa [Value.ownBlock] using hat
  have hk : ∀ y, y < w.heap.size → y ≠ o.1 → y ≠ bl → w1.heap[y]? = w.heap[y]? := fun y y1 y2 _ => hgr.block y y1 (by simpa [Value.ownBlock] using y2)
  have hg : ∀ y, y < w.heap.size → y ≠ o.1 → y ≠ g := fun y y1 y2 e => by subst e; omega
  refine ⟨h.fs.appO hown hgr hat hH, Go.Pan.Own.kept h.ts fun y hy => ?_, fun y hy => ?_, Go.Pan.Own.kept h.row fun y hy => ?_, fun y hy => ?_⟩
  · have q := h.ap y hy
    exact hk y (Go.Pan.Own.lt h.ts y hy) (by omega) q.1
  · have q := h.ap y hy
    have q2 := hg y (Go.Pan.Own.lt h.ts y hy) (by omega)
    exact ⟨q.1, q.2.1, q.2.2.1, q.2.2.2.1, q2⟩
  · have q := h.rp y hy
    exact hk y (Go.Pan.Own.lt h.row y hy) (by omega) q.2.1
  · have q := h.rp y hy
    have q2 := hg y (Go.Pan.Own.lt h.row y hy) (by omega)
    exact ⟨q.1, q.2.1, q.2.2.1, q.2.2.2.1, q.2.2.2.2.1, q2⟩
theorem FM.setO (h : FM m B w bl a f t o C F S X O tv rv R) {w1 : World} {O' : List Int} (hgr : w.grownBy w1 (some o.1)) (hl : O'.length = O.length) (hown : w1.ownsRow B 3 1 (sl o O'.length) O'.length (O'.map iv)) : FM m B w1 bl a f t o C F S X O' tv rv R := by
  have hk : ∀ y, y < w.heap.size → y ≠ o.1 → w1.heap[y]? = w.heap[y]? := fun y y1 y2 => hgr.block y y1 (by simpa using y2)
  exact ⟨h.fs.setO hgr hl hown, Go.Pan.Own.kept h.ts fun y hy => hk y (Go.Pan.Own.lt h.ts y hy) (h.ap y hy).2.2.2.2, h.ap, Go.Pan.Own.kept h.row fun y hy => hk y (Go.Pan.Own.lt h.row y hy) (h.rp y hy).2.2.2.2.2, h.rp⟩
end

end Go.Proofs.Ytmlikchhkblohaa

namespace Go.Proofs.Ytmlikchhkblohaa
open Go Go.RowKit Go.Pan

/-- the state of the search, its lists told by the places found -/
structure FQ (m B : Nat) (w : World) (bl : Nat) (a f t o : Nat × Nat) (Q : List Nat) (S : List Value) (ord : List Nat) (tv : Value) : Prop where
  fs : FS B w bl a f t o (Cd m Q) (Fd m Q) S (Xd m Q) (Od ord)
  or : Ord (Cd m Q) ord
  ts : OwnC c2 w tv (segsAll m)
  ap : ∀ g, tv.ownBlock = some g → g ≠ bl ∧ g ≠ a.1 ∧ g ≠ f.1 ∧ g ≠ t.1 ∧ g ≠ o.1
theorem FQ.keep {m B : Nat} {w w' : World} {bl : Nat} {a f t o : Nat × Nat} {Q : List Nat} {S : List Value} {ord : List Nat} {tv : Value} (h : FQ m B w bl a f t o Q S ord tv) (hk : ∀ g, g < w.heap.size → w'.heap[g]? = w.heap[g]?) : FQ m B w' bl a f t o Q S ord tv :=
  ⟨h.fs.keep fun g _ hg => hk g hg, h.or, Go.Pan.Own.kept h.ts fun g hg => hk g (Go.Pan.Own.lt h.ts g hg), h.ap⟩
theorem FQ.same {m B : Nat} {w w' : World} {bl : Nat} {a f t o : Nat × Nat} {Q : List Nat} {S : List Value} {ord : List Nat} {tv : Value} (h : FQ m B w bl a f t o Q S ord tv) (hb : Below w.heap.size w w') : FQ m B w' bl a f t o Q S ord tv := h.keep fun g hg => hb.block g hg
theorem FQ.drew {m B : Nat} {w : World} {bl : Nat} {a f t o : Nat × Nat} {Q : List Nat} {S : List Value} {ord : List Nat} {tv : Value} (h : FQ m B w bl a f t o Q S ord tv) : FQ m B w.drew bl a f t o Q S ord tv := h.keep fun _ _ => rfl
theorem FQ.alloc {m B : Nat} {w : World} {bl : Nat} {a f t o : Nat × Nat} {Q : List Nat} {S : List Value} {ord : List Nat} {tv : Value} (h : FQ m B w bl a f t o Q S ord tv) (ob : Obj) : FQ m B (w.alloc ob) bl a f t o Q S ord tv := h.keep fun g hg => Below.heap_alloc w ob g hg
theorem FQ.lens {m B : Nat} {w : World} {bl : Nat} {a f t o : Nat × Nat} {Q : List Nat} {S : List Value} {ord : List Nat} {tv : Value} (h : FQ m B w bl a f t o Q S ord tv) : S.length = Q.length ∧ ord.length = Q.length := by
  have h1 := h.fs.lX
  have h2 := h.or.len
  rw [Xd_length] at h1
  rw [Cd_length] at h2
  exact ⟨h1, h2⟩
/-- the row at a place -/
theorem FQ.rowAt {m B : Nat} {w : World} {bl : Nat} {a f t o : Nat × Nat} {Q : List Nat} {S : List Value} {ord : List Nat} {tv : Value} (h : FQ m B w bl a f t o Q S ord tv) {p r : Nat} (hp : Q[p]? = some r) :
    ∃ u, w.cell? ⟨t.1, p, none⟩ = some u ∧ OwnI w u (unrank m r) := by
  have hl := h.lens.1
  have hpl : p < Q.length := (List.getElem?_eq_some_iff.1 hp).1
  have hu : S[p]? = some (S[p]'(by omega)) := List.getElem?_eq_getElem _
  refine ⟨_, ?_, (h.fs.row p _ (unrank m r) hu (by unfold Xd; rw [List.getElem?_map, hp]; rfl)).1⟩
  have := h.fs.st.cellAt p (by omega)
  rw [this, hu]
theorem FQ.farAt {m B : Nat} {w : World} {bl : Nat} {a f t o : Nat × Nat} {Q : List Nat} {S : List Value} {ord : List Nat} {tv : Value} (h : FQ m B w bl a f t o Q S ord tv) {p r : Nat} (hp : Q[p]? = some r) :
    w.cell? ⟨f.1, p, none⟩ = some (.int .i64 ((sgBd m).d r : Int)) := by
  have hpl : p < Q.length := (List.getElem?_eq_some_iff.1 hp).1
  have := h.fs.far.cellAt p (by rw [Fd_length]; omega)
  rw [this]
  unfold Fd
  rw [List.getElem?_map, List.getElem?_map, hp]
  rfl
theorem code_mem {m : Nat} (h1 : 1 ≤ m) (h6 : m ≤ 6) {Q : List Nat} (hQ : ∀ r ∈ Q, r < fact m) {x : Nat} (hx : x < fact m) : codeL (unrank m x) ∈ Cd m Q ↔ x ∈ Q := by
  constructor
  · intro h
    obtain ⟨r, hr, e⟩ := List.mem_map.1 h
    have s1 := unrank_st h1 (by omega) (hQ r hr)
    have s2 := unrank_st h1 (by omega) hx
    have hb : ∀ q, St m q → ∀ y ∈ q, 1 ≤ y ∧ y ≤ 6 := fun q hq y hy => by have := hq.1.2.2.1 y hy; have := hq.2; omega
    have := codeL_inj (by rw [s1.2, s2.2]) (hb _ s1) (hb _ s2) e
    have e2 : rankL (unrank m r) = rankL (unrank m x) := by rw [this]
    rw [rank_unrank (hQ r hr), rank_unrank hx] at e2
    rw [← e2]; exact hr
  · intro h; exact List.mem_map.2 ⟨x, h, rfl⟩

set_option maxHeartbeats 8000000 in
set_option maxRecDepth 100000 in
theorem sgFind_any (m : Nat) (w : World) (h1 : 1 ≤ m) (h6 : m ≤ 6) :
    Calls Try.prog 127 #[.int .i64 m] w fun e w' => ∃ bl a f t o Q S ord tv, e = .returned (.tuple #[.pointer (some ⟨bl, 0, none⟩), sl o (Od ord).length]) ∧ FQ m w.heap.size w' bl a f t o Q S ord tv ∧ SQ (sgBd m) Q Q.length ∧ Below w.heap.size w w' := by
  have HG := Lib.hid (sgBd_ok h1 h6)
  obtain ⟨iI, hI, hI0, hI1, hI2⟩ := info_parts Try.info3
  obtain ⟨iS, hS, hS0, hS1, hS2⟩ := info_parts Try.info22
  have HI := Lib.hid hI
  have HI0 := Lib.hid hI0
  have HI1 := Lib.hid hI1
  have HI2 := Lib.hid hI2
  have HS := Lib.hid hS
  have HS0 := Lib.hid hS0
  have HS1 := Lib.hid hS1
  have HS2 := Lib.hid hS2
  have hst := St.ramp m h1 (by omega)
  have hbd : ∀ x ∈ ramp 1 m, 1 ≤ x ∧ x ≤ 6 := fun x hx => by have := mem_ramp.1 hx; omega
  have HBD := Lib.hid hbd
  have hl6 : (ramp 1 m).length ≤ 6 := by rw [ramp_length]; exact h6
  have hun0 : unrank m 0 = ramp 1 m := by
    have := unrank_rank h1 (by omega) hst
    rwa [rankL_ramp] at this
  have HU := Lib.hid hun0
  clear hI hI0 hI1 hI2 hS hS0 hS1 hS2 hbd hst hun0
  go_enter Try.func127, Try.ntmps127
  go_wp2_with fail
  refine (stFirst_any m _ (by omega)).mono ?_
  rintro e w1 ⟨u, rfl, hu, hfu, hb1⟩
  obtain ⟨au, cu, rfl, _, _, _⟩ := hu.shape
  go_wp2_with fail
  refine (sgCode_any _ _ _ hu HBD hl6).mono ?_
  rintro e w2 ⟨rfl, hb2⟩
  have hu2 := hu.same hb2
  have hB2 := hb1.trans (hb2.mono hb1.size)
  have hs2 := hB2.size
  have hfs := FS.start (codeL (ramp 1 m)) hu2 hfu hs2
  clear hu hb1 hb2 hfu
  go_wp2_with fail
  refine (sgAll_any m _ h1 (by omega)).mono ?_
  rintro e w3 ⟨tv, rfl, hts, hft, hb3⟩
  obtain ⟨ta, tc, rfl, htc, _, _⟩ := hts.shape
  have hfs3 := hfs.same hb3
  have hB3 : Below w.heap.size w w3 := (((((hB2.alloc hs2 (.cells #[.int .i64 (codeL (ramp 1 m))] 3)).alloc (by simp; omega) (.cells #[.int .i64 0] 3)).alloc (by simp; omega) (.cells #[.slice au (ramp 1 m).length cu] 22)).alloc (by simp; omega) (.cells #[sl (w2.heap.size, 1) 1, sl (w2.heap.size + 1, 1) 1, sl (w2.heap.size + 1 + 1, 1) 1] 123)).alloc (by simp; omega) (.cells #[.int .i64 0] 3)).trans (hb3.mono (by simp; omega))
  have hQ0 : FQ m w.heap.size w3 (w2.heap.size + 1 + 1 + 1) (w2.heap.size, 1) (w2.heap.size + 1, 1) (w2.heap.size + 1 + 1, 1) (w2.heap.size + 1 + 1 + 1 + 1, 1) [0] [.slice au (ramp 1 m).length cu] [0] (.slice ta (segsAll m).length tc) := by
    have e1 : Cd m [0] = [codeL (ramp 1 m)] := by unfold Cd; rw [List.map_singleton, HU.out]
    have e2 : Fd m [0] = [0] := by unfold Fd; rw [List.map_singleton, HG.out.d0]; rfl
    have e3 : Xd m [0] = [ramp 1 m] := by unfold Xd; rw [List.map_singleton, HU.out]
    refine ⟨by rw [e1, e2, e3]; exact hfs3, by rw [e1]; exact Ord.one _, hts, fun g hg => ?_⟩
    have := hft g hg
    simp at this
    simp
    omega
  have hSQ0 := Lib.hid (SQ.start HG.out)
  obtain ⟨bl, hbl⟩ : ∃ x, w2.heap.size + 1 + 1 + 1 = x := ⟨_, rfl⟩
  rw [hbl] at hQ0 ⊢
  have HNN := Lib.hid (show (sgBd m).N = fact m from rfl)
  have hfm := fact_le (n := m) (by omega)
  have hsn := sgN_le h6
  have hsn2 : (segsAll m).length ≤ 15 := hsn
  clear hfs hfs3 hts hft hb3 hu2 hB2 hbl
  go_wp2
  go_loopw [6, 8, 10, 11, 12, 13, 36, 37, 38] (fun v6 v8 _ _ _ _ _ _ _ wr => ∃ (p : Nat) (Q : List Nat) (a f t o : Nat × Nat) (S : List Value) (ord : List Nat), v8 = .int .i64 p ∧ v6 = sl o (Od ord).length ∧ Hid (SQ (sgBd m) Q p) ∧ FQ m w.heap.size wr bl a f t o Q S ord (.slice ta (segsAll m).length tc) ∧ Below w.heap.size w wr) (fun _ v8 _ _ _ _ _ _ _ _ => fact m - (intOf v8).toNat)
  case atStart => exact ⟨0, [0], _, _, _, _, _, _, rfl, rfl, hSQ0, hQ0, hB3⟩
  case round =>
    obtain ⟨p, Q, a, f, t, o, S, ord, rfl, rfl, hSQ, hQ, hbr⟩ := hrel
    clear hQ0 hSQ0 hB3
    have hQN : Q.length ≤ fact m := by have := hSQ.out.length_le; rwa [HNN.out] at this
    obtain ⟨c0, c1, c2⟩ := hQ.fs.fields
    by_cases hlt : p < Q.length
    · have hlt' : (p : Int) < ((Cd m Q).length : Int) := by rw [Cd_length]; omega
      obtain ⟨x, hx⟩ : ∃ x, Q[p]? = some x := ⟨_, List.getElem?_eq_getElem hlt⟩
      have hSI0 := Lib.hid (hSQ.out.inner hx)
      have HX := Lib.hid hx
      have hpf : p < fact m := by omega
      clear hx hSQ
      go_wp2
      obtain ⟨wo, hwo⟩ : ∃ x, wr = x := ⟨_, rfl⟩
      rw [hwo] at hQ hbr c0 c1 c2 ⊢
      clear hwo
      go_loopw [6, 10, 11, 12, 13, 38] (fun v6 _ _ _ _ v38 wr => ∃ (j : Nat) (Q : List Nat) (a f t o : Nat × Nat) (S : List Value) (ord : List Nat), v38 = .int .i64 j ∧ j ≤ (segsAll m).length ∧ v6 = sl o (Od ord).length ∧ Hid (SI (sgBd m) Q p x (j + 1)) ∧ FQ m w.heap.size wr bl a f t o Q S ord (.slice ta (segsAll m).length tc) ∧ Below w.heap.size w wr) (fun _ _ _ _ _ v38 _ => (segsAll m).length - (intOf v38).toNat)
      case atStart => exact ⟨0, Q, a, f, t, o, S, ord, rfl, Nat.zero_le _, rfl, hSI0, hQ, hbr⟩
      case round =>
        obtain ⟨j, Q', a', f', t', o', S', ord', rfl, hj, rfl, hSI, hQ', hbr'⟩ := hrel
        clear hQ hbr hSI0 c0 c1 c2 hlt hlt'
        by_cases hjl : j < (segsAll m).length
        · have hsi := hSI.out
          have hQlen := hsi.toSQ.length_le
          rw [HNN.out] at hQlen
          obtain ⟨tb, toff, hta, htl, hra⟩ := OwnC.rowAt hQ'.ts hjl
          subst hta
          obtain ⟨q2, hq2⟩ : ∃ q, (segsAll m)[j] = q := ⟨_, rfl⟩
          have HB2 := Lib.hid (show segB m q2 = true by rw [← hq2]; exact (segsAll_B h1 (by omega)).1 (List.getElem_mem hjl))
          have hat : sgAt m (j + 1) = q2 := by
            unfold sgAt
            rw [Nat.add_sub_cancel, List.getD_eq_getElem?_getD, List.getElem?_eq_getElem hjl]
            exact hq2
          rw [hq2] at hra
          have hra' : wr.rangeAt tb (toff + j * 2) [.int .i64 q2.1, .int .i64 q2.2] := hra
          have hszs : (Try.prog.info? 62).map (·.size) = some ([.int .i64 q2.1, .int .i64 q2.2] : List Value).length := infoSegment
          have hut := Try.underlying62
          have hxf : x < fact m := by have := hsi.lt x (List.mem_of_getElem? hsi.cur); rwa [HNN.out] at this
          have hstx := unrank_st h1 (by omega) hxf
          have hks : j + 1 ∈ (sG m).ks := mem_sks.2 ⟨by omega, hjl⟩
          have hhi : j + 1 < (sgBd m).hi := by rw [sgBd_hi]; exact Nat.succ_lt_succ hjl
          have hnl : (sgBd m).nb x (j + 1) < fact m := by
            have := HG.out.lt x (j + 1) (by rw [HNN.out]; exact hxf) (by rw [sgBd_lo]; omega) hhi
            rwa [HNN.out] at this
          have hnb : unrank m ((sgBd m).nb x (j + 1)) = segT (unrank m x) q2 := by rw [sgBd_nb h1 h6 hxf hks, hat]
          have HHI := Lib.hid hhi
          have HLO := Lib.hid (show (sgBd m).lo ≤ j + 1 by rw [sgBd_lo]; omega)
          obtain ⟨nb, hnbe⟩ : ∃ y, (sgBd m).nb x (j + 1) = y := ⟨_, rfl⟩
          have HNB := Lib.hid hnbe
          rw [hnbe] at hnb hnl
          obtain ⟨R, hR⟩ : ∃ R, segT (unrank m x) q2 = R := ⟨_, rfl⟩
          have HR := Lib.hid hR
          rw [hR] at hnb
          have HUR := Lib.hid hnb
          have hsR : St m R := by rw [← hnb]; exact unrank_st h1 (by omega) hnl
          have hR6 : R.length ≤ 6 := by rw [hsR.2]; exact h6
          have HBR := Lib.hid (show ∀ y ∈ R, 1 ≤ y ∧ y ≤ 6 from fun y hy => by have := hsR.1.2.2.1 y hy; omega)
          have HXL := Lib.hid (show ((unrank m x).length : Int) = (m : Int) by rw [hstx.2])
          have hxl : (unrank m x).length ≤ 1048576 := by rw [hstx.2]; omega
          obtain ⟨cc, hcc⟩ : ∃ c, codeL R = c := ⟨_, rfl⟩
          have HCC := Lib.hid hcc
          have hQA := hQ'.alloc (.cells #[.int .i64 q2.1, .int .i64 q2.2] 62)
          have hzA : Blk (wr.alloc (.cells #[.int .i64 q2.1, .int .i64 q2.2] 62)) wr.heap.size 62 [.int .i64 q2.1, .int .i64 q2.2] := Blk.new wr _ _ _ rfl
          have hBA := hbr'.alloc hbr'.size (.cells #[.int .i64 q2.1, .int .i64 q2.2] 62)
          have hAs : (wr.alloc (.cells #[.int .i64 q2.1, .int .i64 q2.2] 62)).heap.size = wr.heap.size + 1 := by simp
          obtain ⟨WA, hWA⟩ : ∃ x, wr.alloc (.cells #[.int .i64 q2.1, .int .i64 q2.2] 62) = x := ⟨_, rfl⟩
          have HWA := Lib.hid hWA
          rw [hWA] at hQA hzA hBA hAs
          have hws : w.heap.size ≤ wr.heap.size := hbr'.size
          obtain ⟨u, hcu, hou⟩ := hQA.rowAt hsi.cur
          obtain ⟨c0, c1, c2⟩ := hQA.fs.fields
          obtain ⟨l0, l1, l2, l3, l4⟩ := hQA.fs.lts
          have hQl := hQA.lens
          have hpS : (p : Int) < (S'.length : Int) := by have := (List.getElem?_eq_some_iff.1 hsi.cur).1; omega
          have hji : (j : Int) < ((segsAll m).length : Int) := by omega
          have HSI := hSI
          have HKS := Lib.hid hks
          have HQL := Lib.hid hQl
          clear hWA hsi hSI hq2 hat hra hstx hks hhi hnl hnb hnbe hR hsR hcc hQ' hbr' hQl
          go_wp2_with (first | (refine wpList_load_mid rfl 62 _ rfl tb (toff + j * 2) rfl [.int .i64 q2.1, .int .i64 q2.2] _ hra' Try.underlying62 rfl hszs ?_))
          rw [HWA.out]
          refine wp_region_held_drew (S := (fun w' => w'.cell? ⟨bl, 2, none⟩ = some (sl t' S'.length) ∧ w'.cell? ⟨t'.1, p, none⟩ = some u ∧ w'.rangeAt wr.heap.size 0 [.int .i64 q2.1, .int .i64 q2.2] ∧ Below WA.heap.size WA w')) (by kernel_rfl) (⟨c2, hcu, hzA.range, (Below.refl _ _).drew⟩) (fun hHeld => ?_)
          refine wpAnyH_take (i := 0) (v := ?_) rfl (by kernel_rfl) (by kernel_rfl) (by kernel_rfl) (fun _ _ _ h => h) (Or.inl ⟨by rfl, ?_⟩) (by assumption) ?_
          rotate_left
          · intro w _; go_simp; with_reducible rfl
          try simp only [List.getElem_toArray, List.getElem_cons_zero, Act.put, List.setIfInBounds_toArray, List.set_cons_zero, List.set_cons_succ]
          refine wpAnyH_take (i := 1) (v := ?_) rfl (by kernel_rfl) (by kernel_rfl) (by kernel_rfl) (fun _ _ _ h => h) (Or.inl ⟨by rfl, ?_⟩) (by assumption) ?_
          rotate_left
          · intro w _; go_simp; with_reducible rfl
          try simp only [List.getElem_toArray, List.getElem_cons_zero, List.getElem_cons_succ, Act.put, List.setIfInBounds_toArray, List.set_cons_zero, List.set_cons_succ]
          refine wpAnyH_take (i := 2) (v := ?_) rfl (by kernel_rfl) (by kernel_rfl) (by kernel_rfl) (fun _ _ _ h => h) (Or.inl ⟨by rfl, ?_⟩) (by assumption) ?_
          rotate_left
          · intro w _; go_simp; with_reducible rfl
          try simp only [List.getElem_toArray, List.getElem_cons_zero, List.getElem_cons_succ, Act.put, List.setIfInBounds_toArray, List.set_cons_zero, List.set_cons_succ]
          refine wpAnyH_take (i := 3) (v := ?_) rfl (by kernel_rfl) (by kernel_rfl) (by kernel_rfl) (fun _ _ _ h => h) (Or.inl ⟨by rfl, ?_⟩) (by assumption) ?_
          rotate_left
          · intro w hSw; obtain ⟨y2, y3, _⟩ := hSw; (go_simp <;> with_reducible rfl)
          try simp only [List.getElem_toArray, List.getElem_cons_zero, List.getElem_cons_succ, Act.put, List.setIfInBounds_toArray, List.set_cons_zero, List.set_cons_succ]
          refine wpAnyH_take (i := 4) (v := ?_) rfl (by kernel_rfl) (by kernel_rfl) (by kernel_rfl) (fun _ _ _ h => h) (Or.inl ⟨by rfl, ?_⟩) (by assumption) ?_
          rotate_left
          · intro w _; go_simp; with_reducible rfl
          try simp only [List.getElem_toArray, List.getElem_cons_zero, List.getElem_cons_succ, Act.put, List.setIfInBounds_toArray, List.set_cons_zero, List.set_cons_succ]
          refine wpAnyH_take (i := 5) (v := ?_) rfl (by kernel_rfl) (by kernel_rfl) (by kernel_rfl) (fun _ _ _ h => h) (Or.inl ⟨by rfl, ?_⟩) (by assumption) ?_
          rotate_left
          · intro w _; go_simp; with_reducible rfl
          try simp only [List.getElem_toArray, List.getElem_cons_zero, List.getElem_cons_succ, Act.put, List.setIfInBounds_toArray, List.set_cons_zero, List.set_cons_succ]
          refine wpAnyH_take (i := 6) (v := ?_) rfl (by kernel_rfl) (by kernel_rfl) (by kernel_rfl) (fun _ _ _ h => h) (Or.inl ⟨by rfl, ?_⟩) (by assumption) ?_
          rotate_left
          · intro w hSw; obtain ⟨y2, y3, _⟩ := hSw; (go_simp <;> with_reducible rfl)
          try simp only [List.getElem_toArray, List.getElem_cons_zero, List.getElem_cons_succ, Act.put, List.setIfInBounds_toArray, List.set_cons_zero, List.set_cons_succ]
          refine wpAnyH_take (i := 7) rfl (by kernel_rfl) (by kernel_rfl) (by kernel_rfl) (fun _ _ _ h => h) (yieldsIf_load_mid (by rfl) _ _ rfl _ _ rfl _ _ (fun w hw => hw.2.2.1) hut rfl hszs) (by assumption) ?_
          try simp only [List.getElem_toArray, List.getElem_cons_zero, List.getElem_cons_succ, Act.put, List.setIfInBounds_toArray, List.set_cons_zero, List.set_cons_succ]
          refine wpAnyH_ready (rs := [8]) (by kernel_rfl) (by simp) ?_
          refine AllReadyH.cons rfl (fun K hK => ?_) AllReadyH.nil
          go_simp
          refine (sgTurn_any u (unrank m x) m q2 _ (hou.below hHeld.2.2.2 (Nat.le_refl _)) hxl HB2 HXL).mono ?_
          rintro e w5 ⟨r5, rfl, ho5, hf5, hb5⟩
          go_wp2_with fail
          refine hK.out _ _ (⟨(hb5.cell (p := ⟨bl, 2, none⟩) l0).trans hHeld.1, (hb5.cell (p := ⟨t'.1, p, none⟩) l3.2).trans hHeld.2.1, range_below hHeld.2.2.1 hb5 (by show wr.heap.size < WA.heap.size; omega), hHeld.2.2.2.trans (hb5.mono hHeld.2.2.2.size)⟩) (fun hHeld => ?_)
          clear hK K
          try simp only [List.getElem_toArray, List.getElem_cons_zero, List.getElem_cons_succ, Act.put, List.setIfInBounds_toArray, List.set_cons_zero, List.set_cons_succ]
          refine wpAnyH_take (i := 9) (v := ?_) rfl (by kernel_rfl) (by kernel_rfl) (by kernel_rfl) (fun _ _ _ h => h) (Or.inl ⟨by rfl, ?_⟩) (by assumption) ?_
          rotate_left
          · intro w _; go_simp; with_reducible rfl
          try simp only [List.getElem_toArray, List.getElem_cons_zero, List.getElem_cons_succ, Act.put, List.setIfInBounds_toArray, List.set_cons_zero, List.set_cons_succ]
          refine wpAnyH_done (by kernel_rfl) ?_ _
          rw [HR.out] at ho5
          have hb5' : Below WA.heap.size WA w5 := hHeld.2.2.2
          have hQ5 := hQA.same hb5'
          have hB5 := hBA.trans (hb5'.mono hBA.size)
          have hf5' : From WA.heap.size r5 := hf5
          have HRP := Lib.hid (hQA.fs.new hf5' (Nat.le_refl _) hBA.size)
          obtain ⟨a5, k5, rfl, _, _, _⟩ := ho5.shape
          have hs5 := hb5'.size
          clear hHeld hb5 hf5 hcu hou hQA hzA c0 c1 c2 hra' htl
          obtain ⟨c0, c1, c2⟩ := hQ5.fs.fields
          obtain ⟨l0, l1, l2, l3, l4⟩ := hQ5.fs.lts
          have hcl : (Cd m Q').length ≤ 1048576 := by rw [Cd_length]; omega
          have hol : ord'.length ≤ 1048576 := by rw [HQL.out.2]; omega
          have HLT := Lib.hid hQ5.or.lt
          have HMO := Lib.hid hQ5.or.mono
          go_wp2_with fail
          refine wp_region_held_drew (S := (fun w' => w'.cell? ⟨bl, 0, none⟩ = some (sl a' (Cd m Q').length) ∧ Below w5.heap.size w5 w')) (by kernel_rfl) (⟨c0, (Below.refl _ _).drew⟩) (fun hHeld => ?_)
          refine wpAnyH_take (i := 0) (v := ?_) rfl (by kernel_rfl) (by kernel_rfl) (by kernel_rfl) (fun _ _ _ h => h) (Or.inl ⟨by rfl, ?_⟩) (by assumption) ?_
          rotate_left
          · intro w _; go_simp; with_reducible rfl
          try simp only [List.getElem_toArray, List.getElem_cons_zero, Act.put, List.setIfInBounds_toArray, List.set_cons_zero, List.set_cons_succ]
          refine wpAnyH_take (i := 1) (v := ?_) rfl (by kernel_rfl) (by kernel_rfl) (by kernel_rfl) (fun _ _ _ h => h) (Or.inl ⟨by rfl, ?_⟩) (by assumption) ?_
          rotate_left
          · intro w _; go_simp; with_reducible rfl
          try simp only [List.getElem_toArray, List.getElem_cons_zero, List.getElem_cons_succ, Act.put, List.setIfInBounds_toArray, List.set_cons_zero, List.set_cons_succ]
          refine wpAnyH_take (i := 2) (v := ?_) rfl (by kernel_rfl) (by kernel_rfl) (by kernel_rfl) (fun _ _ _ h => h) (Or.inl ⟨by rfl, ?_⟩) (by assumption) ?_
          rotate_left
          · intro w _; go_simp; with_reducible rfl
          try simp only [List.getElem_toArray, List.getElem_cons_zero, List.getElem_cons_succ, Act.put, List.setIfInBounds_toArray, List.set_cons_zero, List.set_cons_succ]
          refine wpAnyH_take (i := 3) (v := ?_) rfl (by kernel_rfl) (by kernel_rfl) (by kernel_rfl) (fun _ _ _ h => h) (Or.inl ⟨by rfl, ?_⟩) (by assumption) ?_
          rotate_left
          · intro w _; go_simp; with_reducible rfl
          try simp only [List.getElem_toArray, List.getElem_cons_zero, List.getElem_cons_succ, Act.put, List.setIfInBounds_toArray, List.set_cons_zero, List.set_cons_succ]
          refine wpAnyH_take (i := 4) (v := ?_) rfl (by kernel_rfl) (by kernel_rfl) (by kernel_rfl) (fun _ _ _ h => h) (Or.inl ⟨by rfl, ?_⟩) (by assumption) ?_
          rotate_left
          · intro w hSw; obtain ⟨y2, _⟩ := hSw; (go_simp <;> with_reducible rfl)
          try simp only [List.getElem_toArray, List.getElem_cons_zero, List.getElem_cons_succ, Act.put, List.setIfInBounds_toArray, List.set_cons_zero, List.set_cons_succ]
          refine wpAnyH_take (i := 5) (v := ?_) rfl (by kernel_rfl) (by kernel_rfl) (by kernel_rfl) (fun _ _ _ h => h) (Or.inl ⟨by rfl, ?_⟩) (by assumption) ?_
          rotate_left
          · intro w _; go_simp; with_reducible rfl
          try simp only [List.getElem_toArray, List.getElem_cons_zero, List.getElem_cons_succ, Act.put, List.setIfInBounds_toArray, List.set_cons_zero, List.set_cons_succ]
          refine wpAnyH_ready (rs := [6]) (by kernel_rfl) (by simp) ?_
          refine AllReadyH.cons rfl (fun K hK => ?_) AllReadyH.nil
          go_simp
          refine (sgCode_any _ R _ (ho5.below hHeld.2 (Nat.le_refl _)) HBR hR6).mono ?_
          rintro e w6 ⟨rfl, hb6⟩
          go_wp2_with fail
          refine hK.out _ _ (⟨(hb6.cell (p := ⟨bl, 0, none⟩) l0).trans hHeld.1, hHeld.2.trans (hb6.mono hHeld.2.size)⟩) (fun hHeld => ?_)
          clear hK K
          try simp only [List.getElem_toArray, List.getElem_cons_zero, List.getElem_cons_succ, Act.put, List.setIfInBounds_toArray, List.set_cons_zero, List.set_cons_succ]
          rw [HCC.out]
          have hQ6 := hQ5.same hHeld.2
          have hls6 : bl < w6.heap.size := Nat.lt_of_lt_of_le l0 hHeld.2.size
          refine wpAnyH_ready (rs := [7]) (by kernel_rfl) (by simp) ?_
          refine AllReadyH.cons rfl (fun K hK => ?_) AllReadyH.nil
          go_simp
          refine (sgPlace_any (sl o' (Od ord').length) (sl a' (Cd m Q').length) ord' (Cd m Q') cc _ (Go.Pan.Own.of_row hQ6.fs.ord).1 (Go.Pan.Own.of_row hQ6.fs.all).1 hol hcl HLT HMO).mono ?_
          rintro e w7 ⟨lo, hlo, hA, hB, rfl, hb7⟩
          go_wp2_with fail
          refine hK.out _ _ (⟨(hb7.cell (p := ⟨bl, 0, none⟩) hls6).trans hHeld.1, hHeld.2.trans (hb7.mono hHeld.2.size)⟩) (fun hHeld => ?_)
          clear hK K
          try simp only [List.getElem_toArray, List.getElem_cons_zero, List.getElem_cons_succ, Act.put, List.setIfInBounds_toArray, List.set_cons_zero, List.set_cons_succ]
          refine wpAnyH_take (i := 8) (v := ?_) rfl (by kernel_rfl) (by kernel_rfl) (by kernel_rfl) (fun _ _ _ h => h) (Or.inl ⟨by rfl, ?_⟩) (by assumption) ?_
          rotate_left
          · intro w _; go_simp; with_reducible rfl
          try simp only [List.getElem_toArray, List.getElem_cons_zero, List.getElem_cons_succ, Act.put, List.setIfInBounds_toArray, List.set_cons_zero, List.set_cons_succ]
          refine wpAnyH_take (i := 9) (v := ?_) rfl (by kernel_rfl) (by kernel_rfl) (by kernel_rfl) (fun _ _ _ h => h) (Or.inl ⟨by rfl, ?_⟩) (by assumption) ?_
          rotate_left
          · intro w _; go_simp; with_reducible rfl
          try simp only [List.getElem_toArray, List.getElem_cons_zero, List.getElem_cons_succ, Act.put, List.setIfInBounds_toArray, List.set_cons_zero, List.set_cons_succ]
          refine wpAnyH_take (i := 10) (v := ?_) rfl (by kernel_rfl) (by kernel_rfl) (by kernel_rfl) (fun _ _ _ h => h) (Or.inl ⟨by rfl, ?_⟩) (by assumption) ?_
          rotate_left
          · intro w _; go_simp; with_reducible rfl
          try simp only [List.getElem_toArray, List.getElem_cons_zero, List.getElem_cons_succ, Act.put, List.setIfInBounds_toArray, List.set_cons_zero, List.set_cons_succ]
          refine wpAnyH_take (i := 11) (v := ?_) rfl (by kernel_rfl) (by kernel_rfl) (by kernel_rfl) (fun _ _ _ h => h) (Or.inl ⟨by rfl, ?_⟩) (by assumption) ?_
          rotate_left
          · intro w _; go_simp; with_reducible rfl
          try simp only [List.getElem_toArray, List.getElem_cons_zero, List.getElem_cons_succ, Act.put, List.setIfInBounds_toArray, List.set_cons_zero, List.set_cons_succ]
          refine wpAnyH_take (i := 12) (v := ?_) rfl (by kernel_rfl) (by kernel_rfl) (by kernel_rfl) (fun _ _ _ h => h) (Or.inl ⟨by rfl, ?_⟩) (by assumption) ?_
          rotate_left
          · intro w _; go_simp; with_reducible rfl
          try simp only [List.getElem_toArray, List.getElem_cons_zero, List.getElem_cons_succ, Act.put, List.setIfInBounds_toArray, List.set_cons_zero, List.set_cons_succ]
          refine wpAnyH_done (by kernel_rfl) ?_ _
          have hQ7 := hQ6.same hb7
          have hb57 := hHeld.2
          have hB7 := hB5.trans (hb57.mono hB5.size)
          have ho7 := ho5.same hb57
          have hs7 := hb57.size
          have HA := Lib.hid hA
          have HBB := Lib.hid hB
          clear hHeld hb6 hb7 hQ5 hQ6 ho5 c0 c1 c2 hA hB hB5 hBA
          by_cases hfd : lo < ord'.length ∧ keyAt ord' (Cd m Q') lo = cc
          · have hd : (decide (lo < ord'.length) && decide (keyAt ord' (Cd m Q') lo = cc)) = true := by rw [decide_eq_true hfd.1, decide_eq_true hfd.2]; rfl
            rw [hd]
            have hin : nb ∈ Q' := by
              have hlo2 := hfd.1
              have h3 := keyAt_get (cs := Cd m Q') hlo2 (HLT.out _ (List.getElem_mem hlo2))
              rw [hfd.2] at h3
              have h4 : cc ∈ Cd m Q' := by rw [h3]; exact List.getElem_mem _
              rw [← HCC.out, ← HUR.out] at h4
              refine (code_mem h1 h6 (fun r hr => by have := HSI.out.lt r hr; rwa [HNN.out] at this) ?_).1 h4
              have := HG.out.lt x (j + 1) (by rw [HNN.out]; exact hxf) HLO.out HHI.out
              rw [HNN.out, HNB.out] at this
              exact this
            have HSI2 := Lib.hid (HSI.out.next_old (by rw [HNB.out]; exact hin))
            clear hfd hd hin
            go_wp2
            go_roundw
            case rel => exact ⟨j + 1, Q', a', f', t', o', S', ord', by go_num, by omega, rfl, HSI2, hQ7, hB7⟩
            case measure => simp [intOf] <;> omega
          · have hd : (decide (lo < ord'.length) && decide (keyAt ord' (Cd m Q') lo = cc)) = false := by
              cases h : (decide (lo < ord'.length) && decide (keyAt ord' (Cd m Q') lo = cc)) with
              | false => rfl
              | true => rw [Bool.and_eq_true, decide_eq_true_eq, decide_eq_true_eq] at h; exact absurd h hfd
            rw [hd]
            have hnin : nb ∉ Q' := fun hin => hfd (hQ7.or.found hlo HA.out HBB.out (by
              rw [← HCC.out, ← HUR.out]
              exact List.mem_map.2 ⟨nb, hin, rfl⟩))
            have HORD := Lib.hid (hQ7.or.insert hlo HA.out HBB.out hfd)
            have HFN := Lib.hid (HSI.out.far_new HG.out HLO.out HHI.out (by rw [HNB.out]; exact hnin))
            have HSI2 := Lib.hid (HSI.out.next_new HG.out HLO.out HHI.out (by rw [HNB.out]; exact hnin))
            rw [HNB.out] at HFN HSI2
            clear hfd hd hnin
            have hM7 : FM m w.heap.size w7 bl a' f' t' o' (Cd m Q') (Fd m Q') S' (Xd m Q') (Od ord') (.slice (some ⟨tb, toff, none⟩) (segsAll m).length tc) (.slice a5 R.length k5) R := ⟨hQ7.fs, hQ7.ts, hQ7.ap, ho7, HRP.out⟩
            have hCl := Cd_length m Q'
            have hFl := Fd_length m Q'
            have hOl := Od_length ord'
            have hfar := hQ7.farAt HSI.out.cur
            have hCg : (Cd m Q').getD p 0 = (Cd m Q').getD p 0 := rfl
            have HFA := Lib.hid (show ∀ wx : World, wx.ownsRow w.heap.size 3 1 (sl f' (Fd m Q').length) (Fd m Q').length ((Fd m Q').map iv) → wx.cell? ⟨f'.1, p, none⟩ = some (.int .i64 ((sgBd m).d x : Int)) from fun wx h => by
              have hpl := (List.getElem?_eq_some_iff.1 HSI.out.cur).1
              rw [h.cellAt p (by rw [Fd_length]; omega)]
              unfold Fd
              rw [List.getElem?_map, List.getElem?_map, HSI.out.cur]
              rfl)
            have HDL := Lib.hid (show (sgBd m).d x ≤ 720 from sgBd_le h1 h6 hxf)
            obtain ⟨dx, hdx⟩ : ∃ d, (sgBd m).d x = d := ⟨_, rfl⟩
            rw [hdx] at HFA HDL
            have HDX := Lib.hid hdx
            have hdb := HDL.out
            have hpF : (p : Int) < ((Fd m Q').length : Int) := by have := (List.getElem?_eq_some_iff.1 HSI.out.cur).1; rw [hFl]; omega
            have hF1 : (Fd m Q').length ≤ 1048576 := by rw [hFl]; omega
            have hS1' : S'.length ≤ 1048576 := by rw [HQL.out.1]; omega
            have hO1 : (Od ord').length ≤ 1048576 := by rw [hOl]; exact hol
            have HLL := Lib.hid (show (Od ord').length = (Cd m Q').length by rw [hOl, hCl]; exact HQL.out.2)
            obtain ⟨C, hC⟩ : ∃ C, Cd m Q' = C := ⟨_, rfl⟩
            obtain ⟨F, hF⟩ : ∃ F, Fd m Q' = F := ⟨_, rfl⟩
            obtain ⟨O, hO⟩ : ∃ O, Od ord' = O := ⟨_, rfl⟩
            have HC := Lib.hid hC
            have HF := Lib.hid hF
            have HOO := Lib.hid hO
            rw [hC, hF, hO] at hM7
            rw [hF] at HFA hpF hF1
            rw [hO] at hO1 HLL ⊢
            rw [hC] at hcl HORD HLL
            clear hC hF hO hCl hFl hOl hfar hCg hQ7 ho7 hdx HA HBB HLT HMO HRP hol
            go_wp2_with fail
            go_cut [12] (fun v12 wx => v12 = .int .i64 lo ∧ ∃ g cap, FM m w.heap.size wx bl (g, cap) f' t' o' (C ++ [cc]) F S' (Xd m Q') O (.slice (some ⟨tb, toff, none⟩) (segsAll m).length tc) (.slice a5 R.length k5) R ∧ Below w.heap.size w wx)
            case first =>
              obtain ⟨c0, _, _⟩ := hM7.fs.fields
              have hMD := hM7.drew
              have hBD := hB7.drew
              refine wp_region_held_drew (S := (fun _ => True)) (by kernel_rfl) (trivial) (fun hHeld => ?_)
              refine wpAnyH_take (i := 0) (v := ?_) rfl (by kernel_rfl) (by kernel_rfl) (by kernel_rfl) (fun _ _ _ h => h) (Or.inl ⟨by rfl, ?_⟩) (by assumption) ?_
              rotate_left
              · intro w _; go_simp; with_reducible rfl
              try simp only [List.getElem_toArray, List.getElem_cons_zero, Act.put, List.setIfInBounds_toArray, List.set_cons_zero, List.set_cons_succ]
              refine wpAnyH_take (i := 1) (v := ?_) rfl (by kernel_rfl) (by kernel_rfl) (by kernel_rfl) (fun _ _ _ h => h) (Or.inl ⟨by rfl, ?_⟩) (by assumption) ?_
              rotate_left
              · intro w _; go_simp; with_reducible rfl
              try simp only [List.getElem_toArray, List.getElem_cons_zero, List.getElem_cons_succ, Act.put, List.setIfInBounds_toArray, List.set_cons_zero, List.set_cons_succ]
              refine wpAnyH_take (i := 2) (v := ?_) rfl (by kernel_rfl) (by kernel_rfl) (by kernel_rfl) (fun _ _ _ h => h) (Or.inl ⟨by rfl, ?_⟩) (by assumption) ?_
              rotate_left
              · intro w _; go_simp; with_reducible rfl
              try simp only [List.getElem_toArray, List.getElem_cons_zero, List.getElem_cons_succ, Act.put, List.setIfInBounds_toArray, List.set_cons_zero, List.set_cons_succ]
              refine wpAnyH_take (i := 3) (v := ?_) rfl (by kernel_rfl) (by kernel_rfl) (by kernel_rfl) (fun _ _ _ h => h) (Or.inl ⟨by rfl, ?_⟩) (by assumption) ?_
              rotate_left
              · intro w _; go_simp; with_reducible rfl
              try simp only [List.getElem_toArray, List.getElem_cons_zero, List.getElem_cons_succ, Act.put, List.setIfInBounds_toArray, List.set_cons_zero, List.set_cons_succ]
              refine wpAnyH_take (i := 5) (v := ?_) rfl (by kernel_rfl) (by kernel_rfl) (by kernel_rfl) (fun _ _ _ h => h) (Or.inl ⟨by rfl, ?_⟩) (by assumption) ?_
              rotate_left
              · intro w _; go_simp; with_reducible rfl
              try simp only [List.getElem_toArray, List.getElem_cons_zero, List.getElem_cons_succ, Act.put, List.setIfInBounds_toArray, List.set_cons_zero, List.set_cons_succ]
              refine wpAnyH_ready (rs := [4, 6]) (by kernel_rfl) (by simp) ?_
              refine AllReadyH.cons rfl (fun K hK => ?_) (AllReadyH.cons rfl (fun K hK => ?_) AllReadyH.nil)
              · go_simp
                refine hK.out _ _ trivial (fun _ => ?_)
                clear hK K
                try simp only [List.getElem_toArray, List.getElem_cons_zero, List.getElem_cons_succ, Act.put, List.setIfInBounds_toArray, List.set_cons_zero, List.set_cons_succ]
                refine wpAnyH_ready (rs := [6]) (by kernel_rfl) (by simp) ?_
                refine AllReadyH.cons rfl (fun K hK => ?_) AllReadyH.nil
                go_simp
                refine (sgCode_any _ R _ hMD.row HBR hR6).mono ?_
                rintro e w8 ⟨rfl, hb8⟩
                go_wp2_with fail
                refine hK.out _ _ (trivial) (fun hHeld => ?_)
                clear hK K
                try simp only [List.getElem_toArray, List.getElem_cons_zero, List.getElem_cons_succ, Act.put, List.setIfInBounds_toArray, List.set_cons_zero, List.set_cons_succ]
                rw [HCC.out]
                have hM8 := hMD.same hb8
                have hB8 := hBD.trans (hb8.mono hBD.size)
                clear hHeld
                have hs8 := hB8.size
                have hM8a := hM8.alloc (.cells #[.int .i64 cc] 3)
                have hB8a := hB8.alloc hs8 (.cells #[.int .i64 cc] 3)
                refine wpAnyH_ready (rs := [7]) (by kernel_rfl) (by simp) ?_
                refine AllReadyH.cons rfl (fun K hK => ?_) AllReadyH.nil
                go_simp
                refine hK.out _ _ trivial (fun _ => ?_)
                clear hK K
                try simp only [List.getElem_toArray, List.getElem_cons_zero, List.getElem_cons_succ, Act.put, List.setIfInBounds_toArray, List.set_cons_zero, List.set_cons_succ]
                refine wpAnyH_ready (rs := [8]) (by kernel_rfl) (by simp) ?_
                refine AllReadyH.cons rfl (fun K hK => ?_) AllReadyH.nil
                refine step_append_lies _ rfl _ _ 22 rfl w.heap.size 3 iI _ 1 8 Try.underlying22 HI.out HI0.out HI1.out HI2.out rfl (by omega) (sl a' C.length) C.length (C.map iv) rfl hM8a.fs.all ⟨w8.heap.size, 0, none⟩ 1 1 [iv cc] rfl (by simp) (World.news_of_block (heap_alloc_new w8 _)) (by simp [Value.oneCell']) (by omega) (by unfold maxLen; omega) (by omega) (by simp; omega) (w8.heap.size + 1) (by simp) ?_
                intro g9 cap9 w9 hown9 hgr9 hat9 hlt9
                have hM9 := hM8a.appA hown9 hgr9 hat9 (by simp)
                have hne9 := hM8a.fs.ne
                have hl9 : Blk w9 bl 123 [sl a' C.length, sl f' F.length, sl t' S'.length] := hM8a.fs.l.grown hgr9 (by simp [Value.ownBlock]; omega)
                have d0 : w9.cell? ⟨bl, 0, none⟩ = some (sl a' C.length) := hl9.cell 0
                have d1 := hl9.frozen 0
                have hB9 := (hB8a.grown hgr9 hB8a.size (fun k hk => by simp [Value.ownBlock] at hk; subst hk; exact (hM8a.fs.lts).2.1.1)).setCell (p := ⟨bl, 0, none⟩) hM8a.fs.bb (sl (g9, cap9) (C.length + 1))
                refine hK.out _ _ trivial (fun _ => ?_)
                clear hK K
                try simp only [List.getElem_toArray, List.getElem_cons_zero, List.getElem_cons_succ, Act.put, List.setIfInBounds_toArray, List.set_cons_zero, List.set_cons_succ]
                refine wpAnyH_take (i := 9) (v := ?_) rfl (by kernel_rfl) (by kernel_rfl) (by kernel_rfl) (fun _ _ _ h => h) (Or.inl ⟨by rfl, ?_⟩) (by assumption) ?_
                rotate_left
                · intro w _; go_simp; with_reducible rfl
                try simp only [List.getElem_toArray, List.getElem_cons_zero, List.getElem_cons_succ, Act.put, List.setIfInBounds_toArray, List.set_cons_zero, List.set_cons_succ]
                refine wpAnyH_take (i := 10) (v := ?_) rfl (by kernel_rfl) (by kernel_rfl) (by kernel_rfl) (fun _ _ _ h => h) (Or.inl ⟨by rfl, ?_⟩) (by assumption) ?_
                rotate_left
                · intro w _; go_simp; with_reducible rfl
                try simp only [List.getElem_toArray, List.getElem_cons_zero, List.getElem_cons_succ, Act.put, List.setIfInBounds_toArray, List.set_cons_zero, List.set_cons_succ]
                refine wpAnyH_ready (rs := [11]) (by kernel_rfl) (by simp) ?_
                refine AllReadyH.cons rfl (fun K hK => ?_) AllReadyH.nil
                go_simp
                refine hK.out _ _ trivial (fun _ => ?_)
                clear hK K
                try simp only [List.getElem_toArray, List.getElem_cons_zero, List.getElem_cons_succ, Act.put, List.setIfInBounds_toArray, List.set_cons_zero, List.set_cons_succ]
                refine wpAnyH_done (by kernel_rfl) ?_ _
                clear d0 d1 hl9 hM8 hM8a hB8 hB8a hown9 hgr9 hat9
                go_wp2_with fail
                go_meet
                exact ⟨rfl, g9, cap9, hM9, hB9⟩
              · go_simp
                refine (sgCode_any _ R _ hMD.row HBR hR6).mono ?_
                rintro e w8 ⟨rfl, hb8⟩
                go_wp2_with fail
                have hM8 := hMD.same hb8
                have hB8 := hBD.trans (hb8.mono hBD.size)
                obtain ⟨c0', _, _⟩ := hM8.fs.fields
                refine hK.out _ _ trivial (fun _ => ?_)
                clear hK K
                try simp only [List.getElem_toArray, List.getElem_cons_zero, List.getElem_cons_succ, Act.put, List.setIfInBounds_toArray, List.set_cons_zero, List.set_cons_succ]
                rw [HCC.out]
                refine wpAnyH_ready (rs := [4, 7]) (by kernel_rfl) (by simp) ?_
                refine AllReadyH.cons rfl (fun K hK => ?_) (AllReadyH.cons rfl (fun K hK => ?_) AllReadyH.nil)
                · go_simp
                  refine hK.out _ _ trivial (fun _ => ?_)
                  clear hK K
                  try simp only [List.getElem_toArray, List.getElem_cons_zero, List.getElem_cons_succ, Act.put, List.setIfInBounds_toArray, List.set_cons_zero, List.set_cons_succ]
                  have hs8 := hB8.size
                  have hM8a := hM8.alloc (.cells #[.int .i64 cc] 3)
                  have hB8a := hB8.alloc hs8 (.cells #[.int .i64 cc] 3)
                  refine wpAnyH_ready (rs := [7]) (by kernel_rfl) (by simp) ?_
                  refine AllReadyH.cons rfl (fun K hK => ?_) AllReadyH.nil
                  go_simp
                  refine hK.out _ _ trivial (fun _ => ?_)
                  clear hK K
                  try simp only [List.getElem_toArray, List.getElem_cons_zero, List.getElem_cons_succ, Act.put, List.setIfInBounds_toArray, List.set_cons_zero, List.set_cons_succ]
                  refine wpAnyH_ready (rs := [8]) (by kernel_rfl) (by simp) ?_
                  refine AllReadyH.cons rfl (fun K hK => ?_) AllReadyH.nil
                  refine step_append_lies _ rfl _ _ 22 rfl w.heap.size 3 iI _ 1 8 Try.underlying22 HI.out HI0.out HI1.out HI2.out rfl (by omega) (sl a' C.length) C.length (C.map iv) rfl hM8a.fs.all ⟨w8.heap.size, 0, none⟩ 1 1 [iv cc] rfl (by simp) (World.news_of_block (heap_alloc_new w8 _)) (by simp [Value.oneCell']) (by omega) (by unfold maxLen; omega) (by omega) (by simp; omega) (w8.heap.size + 1) (by simp) ?_
                  intro g9 cap9 w9 hown9 hgr9 hat9 hlt9
                  have hM9 := hM8a.appA hown9 hgr9 hat9 (by simp)
                  have hne9 := hM8a.fs.ne
                  have hl9 : Blk w9 bl 123 [sl a' C.length, sl f' F.length, sl t' S'.length] := hM8a.fs.l.grown hgr9 (by simp [Value.ownBlock]; omega)
                  have d0 : w9.cell? ⟨bl, 0, none⟩ = some (sl a' C.length) := hl9.cell 0
                  have d1 := hl9.frozen 0
                  have hB9 := (hB8a.grown hgr9 hB8a.size (fun k hk => by simp [Value.ownBlock] at hk; subst hk; exact (hM8a.fs.lts).2.1.1)).setCell (p := ⟨bl, 0, none⟩) hM8a.fs.bb (sl (g9, cap9) (C.length + 1))
                  refine hK.out _ _ trivial (fun _ => ?_)
                  clear hK K
                  try simp only [List.getElem_toArray, List.getElem_cons_zero, List.getElem_cons_succ, Act.put, List.setIfInBounds_toArray, List.set_cons_zero, List.set_cons_succ]
                  refine wpAnyH_take (i := 9) (v := ?_) rfl (by kernel_rfl) (by kernel_rfl) (by kernel_rfl) (fun _ _ _ h => h) (Or.inl ⟨by rfl, ?_⟩) (by assumption) ?_
                  rotate_left
                  · intro w _; go_simp; with_reducible rfl
                  try simp only [List.getElem_toArray, List.getElem_cons_zero, List.getElem_cons_succ, Act.put, List.setIfInBounds_toArray, List.set_cons_zero, List.set_cons_succ]
                  refine wpAnyH_take (i := 10) (v := ?_) rfl (by kernel_rfl) (by kernel_rfl) (by kernel_rfl) (fun _ _ _ h => h) (Or.inl ⟨by rfl, ?_⟩) (by assumption) ?_
                  rotate_left
                  · intro w _; go_simp; with_reducible rfl
                  try simp only [List.getElem_toArray, List.getElem_cons_zero, List.getElem_cons_succ, Act.put, List.setIfInBounds_toArray, List.set_cons_zero, List.set_cons_succ]
                  refine wpAnyH_ready (rs := [11]) (by kernel_rfl) (by simp) ?_
                  refine AllReadyH.cons rfl (fun K hK => ?_) AllReadyH.nil
                  go_simp
                  refine hK.out _ _ trivial (fun _ => ?_)
                  clear hK K
                  try simp only [List.getElem_toArray, List.getElem_cons_zero, List.getElem_cons_succ, Act.put, List.setIfInBounds_toArray, List.set_cons_zero, List.set_cons_succ]
                  refine wpAnyH_done (by kernel_rfl) ?_ _
                  clear d0 d1 hl9 hM8 hM8a hB8 hB8a hown9 hgr9 hat9
                  go_wp2_with fail
                  go_meet
                  exact ⟨rfl, g9, cap9, hM9, hB9⟩
                · go_simp
                  refine hK.out _ _ trivial (fun _ => ?_)
                  clear hK K
                  try simp only [List.getElem_toArray, List.getElem_cons_zero, List.getElem_cons_succ, Act.put, List.setIfInBounds_toArray, List.set_cons_zero, List.set_cons_succ]
                  obtain ⟨c0'', _, _⟩ := (hM8.alloc (.cells #[.int .i64 cc] 3)).fs.fields
                  refine wpAnyH_ready (rs := [4]) (by kernel_rfl) (by simp) ?_
                  refine AllReadyH.cons rfl (fun K hK => ?_) AllReadyH.nil
                  go_simp
                  refine hK.out _ _ trivial (fun _ => ?_)
                  clear hK K
                  try simp only [List.getElem_toArray, List.getElem_cons_zero, List.getElem_cons_succ, Act.put, List.setIfInBounds_toArray, List.set_cons_zero, List.set_cons_succ]
                  have hs8 := hB8.size
                  have hM8a := hM8.alloc (.cells #[.int .i64 cc] 3)
                  have hB8a := hB8.alloc hs8 (.cells #[.int .i64 cc] 3)
                  refine wpAnyH_ready (rs := [8]) (by kernel_rfl) (by simp) ?_
                  refine AllReadyH.cons rfl (fun K hK => ?_) AllReadyH.nil
                  refine step_append_lies _ rfl _ _ 22 rfl w.heap.size 3 iI _ 1 8 Try.underlying22 HI.out HI0.out HI1.out HI2.out rfl (by omega) (sl a' C.length) C.length (C.map iv) rfl hM8a.fs.all ⟨w8.heap.size, 0, none⟩ 1 1 [iv cc] rfl (by simp) (World.news_of_block (heap_alloc_new w8 _)) (by simp [Value.oneCell']) (by omega) (by unfold maxLen; omega) (by omega) (by simp; omega) (w8.heap.size + 1) (by simp) ?_
                  intro g9 cap9 w9 hown9 hgr9 hat9 hlt9
                  have hM9 := hM8a.appA hown9 hgr9 hat9 (by simp)
                  have hne9 := hM8a.fs.ne
                  have hl9 : Blk w9 bl 123 [sl a' C.length, sl f' F.length, sl t' S'.length] := hM8a.fs.l.grown hgr9 (by simp [Value.ownBlock]; omega)
                  have d0 : w9.cell? ⟨bl, 0, none⟩ = some (sl a' C.length) := hl9.cell 0
                  have d1 := hl9.frozen 0
                  have hB9 := (hB8a.grown hgr9 hB8a.size (fun k hk => by simp [Value.ownBlock] at hk; subst hk; exact (hM8a.fs.lts).2.1.1)).setCell (p := ⟨bl, 0, none⟩) hM8a.fs.bb (sl (g9, cap9) (C.length + 1))
                  refine hK.out _ _ trivial (fun _ => ?_)
                  clear hK K
                  try simp only [List.getElem_toArray, List.getElem_cons_zero, List.getElem_cons_succ, Act.put, List.setIfInBounds_toArray, List.set_cons_zero, List.set_cons_succ]
                  refine wpAnyH_take (i := 9) (v := ?_) rfl (by kernel_rfl) (by kernel_rfl) (by kernel_rfl) (fun _ _ _ h => h) (Or.inl ⟨by rfl, ?_⟩) (by assumption) ?_
                  rotate_left
                  · intro w _; go_simp; with_reducible rfl
                  try simp only [List.getElem_toArray, List.getElem_cons_zero, List.getElem_cons_succ, Act.put, List.setIfInBounds_toArray, List.set_cons_zero, List.set_cons_succ]
                  refine wpAnyH_take (i := 10) (v := ?_) rfl (by kernel_rfl) (by kernel_rfl) (by kernel_rfl) (fun _ _ _ h => h) (Or.inl ⟨by rfl, ?_⟩) (by assumption) ?_
                  rotate_left
                  · intro w _; go_simp; with_reducible rfl
                  try simp only [List.getElem_toArray, List.getElem_cons_zero, List.getElem_cons_succ, Act.put, List.setIfInBounds_toArray, List.set_cons_zero, List.set_cons_succ]
                  refine wpAnyH_ready (rs := [11]) (by kernel_rfl) (by simp) ?_
                  refine AllReadyH.cons rfl (fun K hK => ?_) AllReadyH.nil
                  go_simp
                  refine hK.out _ _ trivial (fun _ => ?_)
                  clear hK K
                  try simp only [List.getElem_toArray, List.getElem_cons_zero, List.getElem_cons_succ, Act.put, List.setIfInBounds_toArray, List.set_cons_zero, List.set_cons_succ]
                  refine wpAnyH_done (by kernel_rfl) ?_ _
                  clear d0 d1 hl9 hM8 hM8a hB8 hB8a hown9 hgr9 hat9
                  go_wp2_with fail
                  go_meet
                  exact ⟨rfl, g9, cap9, hM9, hB9⟩
            case rest =>
              obtain ⟨rfl, g8, cap8, hM8, hB8⟩ := hcut
              obtain ⟨w8, hw8⟩ : ∃ x, wc = x := ⟨_, rfl⟩
              rw [hw8] at hM8 hB8 ⊢
              clear hM7 hB7 hw8
              have hcf := HFA.out w8 hM8.fs.far
              have hw1 : IntKind.i64.wrap ((dx : Int) + 1) = (dx : Int) + 1 := IntWalk.i64_in _ (by omega)
              go_wp2_with fail
              go_cut [12] (fun v12 wx => v12 = .int .i64 lo ∧ ∃ g cap, FM m w.heap.size wx bl (g8, cap8) (g, cap) t' o' (C ++ [cc]) (F ++ [(dx : Int) + 1]) S' (Xd m Q') O (.slice (some ⟨tb, toff, none⟩) (segsAll m).length tc) (.slice a5 R.length k5) R ∧ Below w.heap.size w wx)
              case first =>
                obtain ⟨_, c1, _⟩ := hM8.fs.fields
                have hMD := hM8.drew
                have hBD := hB8.drew
                have hsD := hBD.size
                have hMa := hMD.alloc (.cells #[.int .i64 ((dx : Int) + 1)] 3)
                have hBa := hBD.alloc hsD (.cells #[.int .i64 ((dx : Int) + 1)] 3)
                obtain ⟨_, c1a, _⟩ := hMa.fs.fields
                obtain ⟨_, c1b, _⟩ := (hM8.alloc (.cells #[.int .i64 ((dx : Int) + 1)] 3)).fs.fields
                have hs8 : w.heap.size ≤ w8.heap.size := hB8.size
                have hne9 := hMa.fs.ne
                refine wp_region_held_drew (S := (fun _ => True)) (by kernel_rfl) (trivial) (fun hHeld => ?_)
                refine wpAnyH_take (i := 0) (v := ?_) rfl (by kernel_rfl) (by kernel_rfl) (by kernel_rfl) (fun _ _ _ h => h) (Or.inl ⟨by rfl, ?_⟩) (by assumption) ?_
                rotate_left
                · intro w _; go_simp; with_reducible rfl
                try simp only [List.getElem_toArray, List.getElem_cons_zero, Act.put, List.setIfInBounds_toArray, List.set_cons_zero, List.set_cons_succ]
                refine wpAnyH_take (i := 1) (v := ?_) rfl (by kernel_rfl) (by kernel_rfl) (by kernel_rfl) (fun _ _ _ h => h) (Or.inl ⟨by rfl, ?_⟩) (by assumption) ?_
                rotate_left
                · intro w _; go_simp; with_reducible rfl
                try simp only [List.getElem_toArray, List.getElem_cons_zero, List.getElem_cons_succ, Act.put, List.setIfInBounds_toArray, List.set_cons_zero, List.set_cons_succ]
                refine wpAnyH_take (i := 2) (v := ?_) rfl (by kernel_rfl) (by kernel_rfl) (by kernel_rfl) (fun _ _ _ h => h) (Or.inl ⟨by rfl, ?_⟩) (by assumption) ?_
                rotate_left
                · intro w _; go_simp; with_reducible rfl
                try simp only [List.getElem_toArray, List.getElem_cons_zero, List.getElem_cons_succ, Act.put, List.setIfInBounds_toArray, List.set_cons_zero, List.set_cons_succ]
                refine wpAnyH_take (i := 3) (v := ?_) rfl (by kernel_rfl) (by kernel_rfl) (by kernel_rfl) (fun _ _ _ h => h) (Or.inl ⟨by rfl, ?_⟩) (by assumption) ?_
                rotate_left
                · intro w _; go_simp; with_reducible rfl
                try simp only [List.getElem_toArray, List.getElem_cons_zero, List.getElem_cons_succ, Act.put, List.setIfInBounds_toArray, List.set_cons_zero, List.set_cons_succ]
                refine wpAnyH_take (i := 5) (v := ?_) rfl (by kernel_rfl) (by kernel_rfl) (by kernel_rfl) (fun _ _ _ h => h) (Or.inl ⟨by rfl, ?_⟩) (by assumption) ?_
                rotate_left
                · intro w _; go_simp; with_reducible rfl
                try simp only [List.getElem_toArray, List.getElem_cons_zero, List.getElem_cons_succ, Act.put, List.setIfInBounds_toArray, List.set_cons_zero, List.set_cons_succ]
                refine wpAnyH_take (i := 6) (v := ?_) rfl (by kernel_rfl) (by kernel_rfl) (by kernel_rfl) (fun _ _ _ h => h) (Or.inl ⟨by rfl, ?_⟩) (by assumption) ?_
                rotate_left
                · intro w _; go_simp; with_reducible rfl
                try simp only [List.getElem_toArray, List.getElem_cons_zero, List.getElem_cons_succ, Act.put, List.setIfInBounds_toArray, List.set_cons_zero, List.set_cons_succ]
                refine wpAnyH_take (i := 7) (v := ?_) rfl (by kernel_rfl) (by kernel_rfl) (by kernel_rfl) (fun _ _ _ h => h) (Or.inl ⟨by rfl, ?_⟩) (by assumption) ?_
                rotate_left
                · intro w _; go_simp; with_reducible rfl
                try simp only [List.getElem_toArray, List.getElem_cons_zero, List.getElem_cons_succ, Act.put, List.setIfInBounds_toArray, List.set_cons_zero, List.set_cons_succ]
                refine wpAnyH_take (i := 9) (v := ?_) rfl (by kernel_rfl) (by kernel_rfl) (by kernel_rfl) (fun _ _ _ h => h) (Or.inl ⟨by rfl, ?_⟩) (by assumption) ?_
                rotate_left
                · intro w _; go_simp; with_reducible rfl
                try simp only [List.getElem_toArray, List.getElem_cons_zero, List.getElem_cons_succ, Act.put, List.setIfInBounds_toArray, List.set_cons_zero, List.set_cons_succ]
                refine wpAnyH_ready (rs := [4, 8]) (by kernel_rfl) (by simp) ?_
                refine AllReadyH.cons rfl (fun K hK => ?_) (AllReadyH.cons rfl (fun K hK => ?_) AllReadyH.nil)
                ·
                  go_simp
                  refine hK.out _ _ trivial (fun _ => ?_)
                  clear hK K
                  try simp only [List.getElem_toArray, List.getElem_cons_zero, List.getElem_cons_succ, Act.put, List.setIfInBounds_toArray, List.set_cons_zero, List.set_cons_succ]
                  refine wpAnyH_ready (rs := [8]) (by kernel_rfl) (by simp) ?_
                  refine AllReadyH.cons rfl (fun K hK => ?_) AllReadyH.nil
                  go_simp
                  refine hK.out _ _ trivial (fun _ => ?_)
                  clear hK K
                  try simp only [List.getElem_toArray, List.getElem_cons_zero, List.getElem_cons_succ, Act.put, List.setIfInBounds_toArray, List.set_cons_zero, List.set_cons_succ]
                  refine wpAnyH_take (i := 10) (v := ?_) rfl (by kernel_rfl) (by kernel_rfl) (by kernel_rfl) (fun _ _ _ h => h) (Or.inl ⟨by rfl, ?_⟩) (by assumption) ?_
                  rotate_left
                  · intro w _; go_simp; with_reducible rfl
                  try simp only [List.getElem_toArray, List.getElem_cons_zero, List.getElem_cons_succ, Act.put, List.setIfInBounds_toArray, List.set_cons_zero, List.set_cons_succ]
                  refine wpAnyH_ready (rs := [11]) (by kernel_rfl) (by simp) ?_
                  refine AllReadyH.cons rfl (fun K hK => ?_) AllReadyH.nil
                  go_simp
                  refine hK.out _ _ trivial (fun _ => ?_)
                  clear hK K
                  try simp only [List.getElem_toArray, List.getElem_cons_zero, List.getElem_cons_succ, Act.put, List.setIfInBounds_toArray, List.set_cons_zero, List.set_cons_succ]
                  refine wpAnyH_take (i := 12) (v := ?_) rfl (by kernel_rfl) (by kernel_rfl) (by kernel_rfl) (fun _ _ _ h => h) (Or.inl ⟨by rfl, ?_⟩) (by assumption) ?_
                  rotate_left
                  · intro w _; go_simp; with_reducible rfl
                  try simp only [List.getElem_toArray, List.getElem_cons_zero, List.getElem_cons_succ, Act.put, List.setIfInBounds_toArray, List.set_cons_zero, List.set_cons_succ]
                  refine wpAnyH_ready (rs := [13]) (by kernel_rfl) (by simp) ?_
                  refine AllReadyH.cons rfl (fun K hK => ?_) AllReadyH.nil
                  go_simp
                  refine hK.out _ _ trivial (fun _ => ?_)
                  clear hK K
                  try simp only [List.getElem_toArray, List.getElem_cons_zero, List.getElem_cons_succ, Act.put, List.setIfInBounds_toArray, List.set_cons_zero, List.set_cons_succ]
                  refine wpAnyH_ready (rs := [14]) (by kernel_rfl) (by simp) ?_
                  refine AllReadyH.cons rfl (fun K hK => ?_) AllReadyH.nil
                  refine step_append_lies _ rfl _ _ 22 rfl w.heap.size 3 iI _ 1 8 Try.underlying22 HI.out HI0.out HI1.out HI2.out rfl (by omega) (sl f' F.length) F.length (F.map iv) rfl hMa.fs.far ⟨w8.heap.size, 0, none⟩ 1 1 [iv ((dx : Int) + 1)] rfl (by simp) (World.news_of_block (heap_alloc_new w8.drew _)) (by simp [Value.oneCell']) (by omega) (by unfold maxLen; omega) (by omega) (by simp; omega) (w8.heap.size + 1) (by simp) ?_
                  intro g9 cap9 w9 hown9 hgr9 hat9 hlt9
                  have hM9 := hMa.appF hown9 hgr9 hat9 (by simp)
                  have hl9 : Blk w9 bl 123 [sl (g8, cap8) (C ++ [cc]).length, sl f' F.length, sl t' S'.length] := hMa.fs.l.grown hgr9 (by simp [Value.ownBlock]; omega)
                  have d1 : w9.cell? ⟨bl, 1, none⟩ = some (sl f' F.length) := hl9.cell 1
                  have e1 := hl9.frozen 1
                  have hB9 := (hBa.grown hgr9 hBa.size (fun k hk => by simp [Value.ownBlock] at hk; subst hk; exact (hMa.fs.lts).2.2.1.1)).setCell (p := ⟨bl, 1, none⟩) hMa.fs.bb (sl (g9, cap9) (F.length + 1))
                  refine hK.out _ _ trivial (fun _ => ?_)
                  clear hK K
                  try simp only [List.getElem_toArray, List.getElem_cons_zero, List.getElem_cons_succ, Act.put, List.setIfInBounds_toArray, List.set_cons_zero, List.set_cons_succ]
                  refine wpAnyH_take (i := 15) (v := ?_) rfl (by kernel_rfl) (by kernel_rfl) (by kernel_rfl) (fun _ _ _ h => h) (Or.inl ⟨by rfl, ?_⟩) (by assumption) ?_
                  rotate_left
                  · intro w _; go_simp; with_reducible rfl
                  try simp only [List.getElem_toArray, List.getElem_cons_zero, List.getElem_cons_succ, Act.put, List.setIfInBounds_toArray, List.set_cons_zero, List.set_cons_succ]
                  refine wpAnyH_take (i := 16) (v := ?_) rfl (by kernel_rfl) (by kernel_rfl) (by kernel_rfl) (fun _ _ _ h => h) (Or.inl ⟨by rfl, ?_⟩) (by assumption) ?_
                  rotate_left
                  · intro w _; go_simp; with_reducible rfl
                  try simp only [List.getElem_toArray, List.getElem_cons_zero, List.getElem_cons_succ, Act.put, List.setIfInBounds_toArray, List.set_cons_zero, List.set_cons_succ]
                  refine wpAnyH_ready (rs := [17]) (by kernel_rfl) (by simp) ?_
                  refine AllReadyH.cons rfl (fun K hK => ?_) AllReadyH.nil
                  go_simp
                  refine hK.out _ _ trivial (fun _ => ?_)
                  clear hK K
                  try simp only [List.getElem_toArray, List.getElem_cons_zero, List.getElem_cons_succ, Act.put, List.setIfInBounds_toArray, List.set_cons_zero, List.set_cons_succ]
                  refine wpAnyH_done (by kernel_rfl) ?_ _
                  clear d1 e1 hl9 hMa hBa hown9 hgr9 hat9 hMD hBD
                  go_wp2_with fail
                  go_meet
                  exact ⟨rfl, g9, cap9, hM9, hB9⟩
                ·
                  go_simp
                  refine hK.out _ _ trivial (fun _ => ?_)
                  clear hK K
                  try simp only [List.getElem_toArray, List.getElem_cons_zero, List.getElem_cons_succ, Act.put, List.setIfInBounds_toArray, List.set_cons_zero, List.set_cons_succ]
                  refine wpAnyH_take (i := 10) (v := ?_) rfl (by kernel_rfl) (by kernel_rfl) (by kernel_rfl) (fun _ _ _ h => h) (Or.inl ⟨by rfl, ?_⟩) (by assumption) ?_
                  rotate_left
                  · intro w _; go_simp; with_reducible rfl
                  try simp only [List.getElem_toArray, List.getElem_cons_zero, List.getElem_cons_succ, Act.put, List.setIfInBounds_toArray, List.set_cons_zero, List.set_cons_succ]
                  refine wpAnyH_ready (rs := [4, 11]) (by kernel_rfl) (by simp) ?_
                  refine AllReadyH.cons rfl (fun K hK => ?_) (AllReadyH.cons rfl (fun K hK => ?_) AllReadyH.nil)
                  ·
                    go_simp
                    refine hK.out _ _ trivial (fun _ => ?_)
                    clear hK K
                    try simp only [List.getElem_toArray, List.getElem_cons_zero, List.getElem_cons_succ, Act.put, List.setIfInBounds_toArray, List.set_cons_zero, List.set_cons_succ]
                    refine wpAnyH_ready (rs := [11]) (by kernel_rfl) (by simp) ?_
                    refine AllReadyH.cons rfl (fun K hK => ?_) AllReadyH.nil
                    go_simp
                    refine hK.out _ _ trivial (fun _ => ?_)
                    clear hK K
                    try simp only [List.getElem_toArray, List.getElem_cons_zero, List.getElem_cons_succ, Act.put, List.setIfInBounds_toArray, List.set_cons_zero, List.set_cons_succ]
                    refine wpAnyH_take (i := 12) (v := ?_) rfl (by kernel_rfl) (by kernel_rfl) (by kernel_rfl) (fun _ _ _ h => h) (Or.inl ⟨by rfl, ?_⟩) (by assumption) ?_
                    rotate_left
                    · intro w _; go_simp; with_reducible rfl
                    try simp only [List.getElem_toArray, List.getElem_cons_zero, List.getElem_cons_succ, Act.put, List.setIfInBounds_toArray, List.set_cons_zero, List.set_cons_succ]
                    refine wpAnyH_ready (rs := [13]) (by kernel_rfl) (by simp) ?_
                    refine AllReadyH.cons rfl (fun K hK => ?_) AllReadyH.nil
                    go_simp
                    refine hK.out _ _ trivial (fun _ => ?_)
                    clear hK K
                    try simp only [List.getElem_toArray, List.getElem_cons_zero, List.getElem_cons_succ, Act.put, List.setIfInBounds_toArray, List.set_cons_zero, List.set_cons_succ]
                    refine wpAnyH_ready (rs := [14]) (by kernel_rfl) (by simp) ?_
                    refine AllReadyH.cons rfl (fun K hK => ?_) AllReadyH.nil
                    refine step_append_lies _ rfl _ _ 22 rfl w.heap.size 3 iI _ 1 8 Try.underlying22 HI.out HI0.out HI1.out HI2.out rfl (by omega) (sl f' F.length) F.length (F.map iv) rfl hMa.fs.far ⟨w8.heap.size, 0, none⟩ 1 1 [iv ((dx : Int) + 1)] rfl (by simp) (World.news_of_block (heap_alloc_new w8.drew _)) (by simp [Value.oneCell']) (by omega) (by unfold maxLen; omega) (by omega) (by simp; omega) (w8.heap.size + 1) (by simp) ?_
                    intro g9 cap9 w9 hown9 hgr9 hat9 hlt9
                    have hM9 := hMa.appF hown9 hgr9 hat9 (by simp)
                    have hl9 : Blk w9 bl 123 [sl (g8, cap8) (C ++ [cc]).length, sl f' F.length, sl t' S'.length] := hMa.fs.l.grown hgr9 (by simp [Value.ownBlock]; omega)
                    have d1 : w9.cell? ⟨bl, 1, none⟩ = some (sl f' F.length) := hl9.cell 1
                    have e1 := hl9.frozen 1
                    have hB9 := (hBa.grown hgr9 hBa.size (fun k hk => by simp [Value.ownBlock] at hk; subst hk; exact (hMa.fs.lts).2.2.1.1)).setCell (p := ⟨bl, 1, none⟩) hMa.fs.bb (sl (g9, cap9) (F.length + 1))
                    refine hK.out _ _ trivial (fun _ => ?_)
                    clear hK K
                    try simp only [List.getElem_toArray, List.getElem_cons_zero, List.getElem_cons_succ, Act.put, List.setIfInBounds_toArray, List.set_cons_zero, List.set_cons_succ]
                    refine wpAnyH_take (i := 15) (v := ?_) rfl (by kernel_rfl) (by kernel_rfl) (by kernel_rfl) (fun _ _ _ h => h) (Or.inl ⟨by rfl, ?_⟩) (by assumption) ?_
                    rotate_left
                    · intro w _; go_simp; with_reducible rfl
                    try simp only [List.getElem_toArray, List.getElem_cons_zero, List.getElem_cons_succ, Act.put, List.setIfInBounds_toArray, List.set_cons_zero, List.set_cons_succ]
                    refine wpAnyH_take (i := 16) (v := ?_) rfl (by kernel_rfl) (by kernel_rfl) (by kernel_rfl) (fun _ _ _ h => h) (Or.inl ⟨by rfl, ?_⟩) (by assumption) ?_
                    rotate_left
                    · intro w _; go_simp; with_reducible rfl
                    try simp only [List.getElem_toArray, List.getElem_cons_zero, List.getElem_cons_succ, Act.put, List.setIfInBounds_toArray, List.set_cons_zero, List.set_cons_succ]
                    refine wpAnyH_ready (rs := [17]) (by kernel_rfl) (by simp) ?_
                    refine AllReadyH.cons rfl (fun K hK => ?_) AllReadyH.nil
                    go_simp
                    refine hK.out _ _ trivial (fun _ => ?_)
                    clear hK K
                    try simp only [List.getElem_toArray, List.getElem_cons_zero, List.getElem_cons_succ, Act.put, List.setIfInBounds_toArray, List.set_cons_zero, List.set_cons_succ]
                    refine wpAnyH_done (by kernel_rfl) ?_ _
                    clear d1 e1 hl9 hMa hBa hown9 hgr9 hat9 hMD hBD
                    go_wp2_with fail
                    go_meet
                    exact ⟨rfl, g9, cap9, hM9, hB9⟩
                  ·
                    go_simp
                    refine hK.out _ _ trivial (fun _ => ?_)
                    clear hK K
                    try simp only [List.getElem_toArray, List.getElem_cons_zero, List.getElem_cons_succ, Act.put, List.setIfInBounds_toArray, List.set_cons_zero, List.set_cons_succ]
                    refine wpAnyH_take (i := 12) (v := ?_) rfl (by kernel_rfl) (by kernel_rfl) (by kernel_rfl) (fun _ _ _ h => h) (Or.inl ⟨by rfl, ?_⟩) (by assumption) ?_
                    rotate_left
                    · intro w _; go_simp; with_reducible rfl
                    try simp only [List.getElem_toArray, List.getElem_cons_zero, List.getElem_cons_succ, Act.put, List.setIfInBounds_toArray, List.set_cons_zero, List.set_cons_succ]
                    refine wpAnyH_ready (rs := [4, 13]) (by kernel_rfl) (by simp) ?_
                    refine AllReadyH.cons rfl (fun K hK => ?_) (AllReadyH.cons rfl (fun K hK => ?_) AllReadyH.nil)
                    ·
                      go_simp
                      refine hK.out _ _ trivial (fun _ => ?_)
                      clear hK K
                      try simp only [List.getElem_toArray, List.getElem_cons_zero, List.getElem_cons_succ, Act.put, List.setIfInBounds_toArray, List.set_cons_zero, List.set_cons_succ]
                      refine wpAnyH_ready (rs := [13]) (by kernel_rfl) (by simp) ?_
                      refine AllReadyH.cons rfl (fun K hK => ?_) AllReadyH.nil
                      go_simp
                      refine hK.out _ _ trivial (fun _ => ?_)
                      clear hK K
                      try simp only [List.getElem_toArray, List.getElem_cons_zero, List.getElem_cons_succ, Act.put, List.setIfInBounds_toArray, List.set_cons_zero, List.set_cons_succ]
                      refine wpAnyH_ready (rs := [14]) (by kernel_rfl) (by simp) ?_
                      refine AllReadyH.cons rfl (fun K hK => ?_) AllReadyH.nil
                      refine step_append_lies _ rfl _ _ 22 rfl w.heap.size 3 iI _ 1 8 Try.underlying22 HI.out HI0.out HI1.out HI2.out rfl (by omega) (sl f' F.length) F.length (F.map iv) rfl hMa.fs.far ⟨w8.heap.size, 0, none⟩ 1 1 [iv ((dx : Int) + 1)] rfl (by simp) (World.news_of_block (heap_alloc_new w8.drew _)) (by simp [Value.oneCell']) (by omega) (by unfold maxLen; omega) (by omega) (by simp; omega) (w8.heap.size + 1) (by simp) ?_
                      intro g9 cap9 w9 hown9 hgr9 hat9 hlt9
                      have hM9 := hMa.appF hown9 hgr9 hat9 (by simp)
                      have hl9 : Blk w9 bl 123 [sl (g8, cap8) (C ++ [cc]).length, sl f' F.length, sl t' S'.length] := hMa.fs.l.grown hgr9 (by simp [Value.ownBlock]; omega)
                      have d1 : w9.cell? ⟨bl, 1, none⟩ = some (sl f' F.length) := hl9.cell 1
                      have e1 := hl9.frozen 1
                      have hB9 := (hBa.grown hgr9 hBa.size (fun k hk => by simp [Value.ownBlock] at hk; subst hk; exact (hMa.fs.lts).2.2.1.1)).setCell (p := ⟨bl, 1, none⟩) hMa.fs.bb (sl (g9, cap9) (F.length + 1))
                      refine hK.out _ _ trivial (fun _ => ?_)
                      clear hK K
                      try simp only [List.getElem_toArray, List.getElem_cons_zero, List.getElem_cons_succ, Act.put, List.setIfInBounds_toArray, List.set_cons_zero, List.set_cons_succ]
                      refine wpAnyH_take (i := 15) (v := ?_) rfl (by kernel_rfl) (by kernel_rfl) (by kernel_rfl) (fun _ _ _ h => h) (Or.inl ⟨by rfl, ?_⟩) (by assumption) ?_
                      rotate_left
                      · intro w _; go_simp; with_reducible rfl
                      try simp only [List.getElem_toArray, List.getElem_cons_zero, List.getElem_cons_succ, Act.put, List.setIfInBounds_toArray, List.set_cons_zero, List.set_cons_succ]
                      refine wpAnyH_take (i := 16) (v := ?_) rfl (by kernel_rfl) (by kernel_rfl) (by kernel_rfl) (fun _ _ _ h => h) (Or.inl ⟨by rfl, ?_⟩) (by assumption) ?_
                      rotate_left
                      · intro w _; go_simp; with_reducible rfl
                      try simp only [List.getElem_toArray, List.getElem_cons_zero, List.getElem_cons_succ, Act.put, List.setIfInBounds_toArray, List.set_cons_zero, List.set_cons_succ]
                      refine wpAnyH_ready (rs := [17]) (by kernel_rfl) (by simp) ?_
                      refine AllReadyH.cons rfl (fun K hK => ?_) AllReadyH.nil
                      go_simp
                      refine hK.out _ _ trivial (fun _ => ?_)
                      clear hK K
                      try simp only [List.getElem_toArray, List.getElem_cons_zero, List.getElem_cons_succ, Act.put, List.setIfInBounds_toArray, List.set_cons_zero, List.set_cons_succ]
                      refine wpAnyH_done (by kernel_rfl) ?_ _
                      clear d1 e1 hl9 hMa hBa hown9 hgr9 hat9 hMD hBD
                      go_wp2_with fail
                      go_meet
                      exact ⟨rfl, g9, cap9, hM9, hB9⟩
                    ·
                      go_simp
                      refine hK.out _ _ trivial (fun _ => ?_)
                      clear hK K
                      try simp only [List.getElem_toArray, List.getElem_cons_zero, List.getElem_cons_succ, Act.put, List.setIfInBounds_toArray, List.set_cons_zero, List.set_cons_succ]
                      refine wpAnyH_ready (rs := [4]) (by kernel_rfl) (by simp) ?_
                      refine AllReadyH.cons rfl (fun K hK => ?_) AllReadyH.nil
                      go_simp
                      refine hK.out _ _ trivial (fun _ => ?_)
                      clear hK K
                      try simp only [List.getElem_toArray, List.getElem_cons_zero, List.getElem_cons_succ, Act.put, List.setIfInBounds_toArray, List.set_cons_zero, List.set_cons_succ]
                      refine wpAnyH_ready (rs := [14]) (by kernel_rfl) (by simp) ?_
                      refine AllReadyH.cons rfl (fun K hK => ?_) AllReadyH.nil
                      refine step_append_lies _ rfl _ _ 22 rfl w.heap.size 3 iI _ 1 8 Try.underlying22 HI.out HI0.out HI1.out HI2.out rfl (by omega) (sl f' F.length) F.length (F.map iv) rfl hMa.fs.far ⟨w8.heap.size, 0, none⟩ 1 1 [iv ((dx : Int) + 1)] rfl (by simp) (World.news_of_block (heap_alloc_new w8.drew _)) (by simp [Value.oneCell']) (by omega) (by unfold maxLen; omega) (by omega) (by simp; omega) (w8.heap.size + 1) (by simp) ?_
                      intro g9 cap9 w9 hown9 hgr9 hat9 hlt9
                      have hM9 := hMa.appF hown9 hgr9 hat9 (by simp)
                      have hl9 : Blk w9 bl 123 [sl (g8, cap8) (C ++ [cc]).length, sl f' F.length, sl t' S'.length] := hMa.fs.l.grown hgr9 (by simp [Value.ownBlock]; omega)
                      have d1 : w9.cell? ⟨bl, 1, none⟩ = some (sl f' F.length) := hl9.cell 1
                      have e1 := hl9.frozen 1
                      have hB9 := (hBa.grown hgr9 hBa.size (fun k hk => by simp [Value.ownBlock] at hk; subst hk; exact (hMa.fs.lts).2.2.1.1)).setCell (p := ⟨bl, 1, none⟩) hMa.fs.bb (sl (g9, cap9) (F.length + 1))
                      refine hK.out _ _ trivial (fun _ => ?_)
                      clear hK K
                      try simp only [List.getElem_toArray, List.getElem_cons_zero, List.getElem_cons_succ, Act.put, List.setIfInBounds_toArray, List.set_cons_zero, List.set_cons_succ]
                      refine wpAnyH_take (i := 15) (v := ?_) rfl (by kernel_rfl) (by kernel_rfl) (by kernel_rfl) (fun _ _ _ h => h) (Or.inl ⟨by rfl, ?_⟩) (by assumption) ?_
                      rotate_left
                      · intro w _; go_simp; with_reducible rfl
                      try simp only [List.getElem_toArray, List.getElem_cons_zero, List.getElem_cons_succ, Act.put, List.setIfInBounds_toArray, List.set_cons_zero, List.set_cons_succ]
                      refine wpAnyH_take (i := 16) (v := ?_) rfl (by kernel_rfl) (by kernel_rfl) (by kernel_rfl) (fun _ _ _ h => h) (Or.inl ⟨by rfl, ?_⟩) (by assumption) ?_
                      rotate_left
                      · intro w _; go_simp; with_reducible rfl
                      try simp only [List.getElem_toArray, List.getElem_cons_zero, List.getElem_cons_succ, Act.put, List.setIfInBounds_toArray, List.set_cons_zero, List.set_cons_succ]
                      refine wpAnyH_ready (rs := [17]) (by kernel_rfl) (by simp) ?_
                      refine AllReadyH.cons rfl (fun K hK => ?_) AllReadyH.nil
                      go_simp
                      refine hK.out _ _ trivial (fun _ => ?_)
                      clear hK K
                      try simp only [List.getElem_toArray, List.getElem_cons_zero, List.getElem_cons_succ, Act.put, List.setIfInBounds_toArray, List.set_cons_zero, List.set_cons_succ]
                      refine wpAnyH_done (by kernel_rfl) ?_ _
                      clear d1 e1 hl9 hMa hBa hown9 hgr9 hat9 hMD hBD
                      go_wp2_with fail
                      go_meet
                      exact ⟨rfl, g9, cap9, hM9, hB9⟩
              case rest =>
                obtain ⟨rfl, g9, cap9, hM9, hB9⟩ := hcut
                obtain ⟨w9, hw9⟩ : ∃ x, wc = x := ⟨_, rfl⟩
                rw [hw9] at hM9 hB9 ⊢
                clear hM8 hB8 hcf hw1 hw9
                obtain ⟨_, _, c2⟩ := hM9.fs.fields
                have hs9 := hB9.size
                have hM9a := hM9.alloc (.cells #[.slice a5 R.length k5] 22)
                have hB9a := hB9.alloc hs9 (.cells #[.slice a5 R.length k5] 22)
                have hne := hM9a.fs.ne
                have hla := hM9a.fs.l
                have hOO1 : O.length ≤ 1048576 := hO1
                go_wp2_with (first
                  | (at_builtin
                     refine wpList_append_lies _ rfl _ _ 34 rfl w.heap.size 22 iS _ 1 24 Try.underlying34 HS.out HS0.out HS1.out HS2.out rfl (by omega) (sl t' S'.length) S'.length S' rfl hM9a.fs.st ⟨w9.heap.size, 0, none⟩ 1 1 [.slice a5 R.length k5] rfl (by simp) (World.news_of_block (heap_alloc_new w9 _)) (by simp [Value.oneCell']) (by omega) (by unfold maxLen; omega) (by omega) (by simp; omega) (w9.heap.size + 1) (by simp) ?_
                     intro g10 cap10 w10 hown10 hgr10 hat10 hlt10
                     have hl10 := hla.grown hgr10 (show (sl t' S'.length).ownBlock ≠ some bl from by simp [Value.ownBlock]; omega)
                     have d2 : w10.cell? ⟨bl, 2, none⟩ = some (.slice (some ⟨t'.1, 0, none⟩) S'.length t'.2) := hl10.cell 2
                     have e2 : w10.frozen? ⟨bl, 2, none⟩ = false := hl10.frozen 2
                     have hM10 := hM9a.appT hown10 hgr10 hat10 (by simp)
                     have hB10 := (hB9a.grown hgr10 hB9a.size (fun k hk => by simp [Value.ownBlock] at hk; subst hk; exact (hM9a.fs.lts).2.2.2.1.1)).setCell (p := ⟨bl, 2, none⟩) hM9a.fs.bb (sl (g10, cap10) (S'.length + 1))
                     have hM10a := hM10.alloc (.cells #[.int .i64 0] 3)
                     have hs10 := hB10.size
                     have hB10a := hB10.alloc hs10 (.cells #[.int .i64 0] 3)
                     have hz10 : (w10.setCell ⟨bl, 2, none⟩ (sl (g10, cap10) (S'.length + 1))).heap.size = w10.heap.size := by simp [World.setCell]
                     have hnw := heap_alloc_new (w10.setCell ⟨bl, 2, none⟩ (sl (g10, cap10) (S'.length + 1))) (.cells #[.int .i64 0] 3)
                     rw [hz10] at hnw)
                  | (at_builtin
                     refine wpList_append_lies _ rfl _ _ 22 rfl w.heap.size 3 iI _ 1 8 Try.underlying22 HI.out HI0.out HI1.out HI2.out rfl (by omega) (sl o' O.length) O.length (O.map iv) rfl hM10a.fs.ord ⟨w10.heap.size, 0, none⟩ 1 1 [iv 0] rfl (by simp) (World.news_of_block hnw) (by simp [Value.oneCell']) (by omega) (by unfold maxLen; omega) (by omega) hB10a.size (w10.heap.size + 1) (by simp [World.setCell]) ?_
                     intro g11 cap11 w11 hown11 hgr11 hat11 hlt11
                     have hM11 := hM10a.appO hown11 hgr11 hat11 (by simp [World.setCell])
                     have hB11 := hB10a.grown hgr11 hB10a.size (fun k hk => by simp [Value.ownBlock] at hk; subst hk; exact (hM10a.fs.lts).2.2.2.2.1)))
                clear d2 e2 hl10 hla hne hM9 hM9a hM10 hM10a hB9 hB9a hB10 hB10a hown10 hgr10 hat10 hown11 hgr11 hat11 hz10 hnw c2
                have hO11 := hM11.fs.ord
                have hl1 : (O ++ [(0 : Int)]).length = O.length + 1 := by simp
                rw [hl1] at hO11
                clear hl1
                obtain ⟨tl, hbk, hbl2, hnc, hmx, hBg⟩ := row_blk hO11
                have hloO : lo ≤ O.length := by rw [← HOO.out, Od_length]; exact hlo
                have hcapn : O.length + 1 ≤ cap11 := hnc
                have H3 := Lib.hid (show ∀ W : World, (Instr.sliceAt 22 (.slice (some ⟨g11, 0, none⟩) (O.length + 1) cap11) (some (.int .i64 ((lo : Int) + 1))) none none).run Try.prog W = .ok (.slice (some ⟨g11, if cap11 = lo + 1 then 0 else lo + 1, none⟩) (O.length - lo) (cap11 - (lo + 1))) W from fun W => by
                  have h := run_fromX g11 (O.length + 1) cap11 (lo + 1) (by omega) hcapn W
                  rw [show ((lo + 1 : Nat) : Int) = (lo : Int) + 1 by omega, show O.length + 1 - (lo + 1) = O.length - lo by omega] at h
                  exact h)
                have H6 := Lib.hid (fun W => run_fromX g11 (O.length + 1) cap11 lo (by omega) hcapn W)
                have hspl := splice_ord O tl 0 lo hloO
                have HSPL := Lib.hid hspl
                have hbkD := hbk.drew
                have hMD := hM11.drew
                have hBD := hB11.drew
                have hcl0 : ((O.drop lo).map iv).length = O.length - lo := by rw [List.length_map, List.length_drop]
                have hw1 : IntKind.i64.wrap ((lo : Int) + 1) = (lo : Int) + 1 := IntWalk.i64_in _ (by omega)
                have HW1 := Lib.hid hw1
                clear hbk hO11 hspl hw1
                refine wp_region_held_drew (S := (fun _ => True)) (by kernel_rfl) (trivial) (fun hHeld => ?_)
                refine wpAnyH_take (i := 0) (v := ?_) rfl (by kernel_rfl) (by kernel_rfl) (by kernel_rfl) (fun _ _ _ h => h) (Or.inl ⟨by rfl, ?_⟩) (by assumption) ?_
                rotate_left
                · intro w _; go_simp; with_reducible rfl
                try simp only [List.getElem_toArray, List.getElem_cons_zero, Act.put, List.setIfInBounds_toArray, List.set_cons_zero, List.set_cons_succ]
                refine wpAnyH_take (i := 1) (v := ?_) rfl (by kernel_rfl) (by kernel_rfl) (by kernel_rfl) (fun _ _ _ h => h) (Or.inl ⟨by rfl, ?_⟩) (by assumption) ?_
                rotate_left
                · intro w _; go_simp; with_reducible rfl
                try simp only [List.getElem_toArray, List.getElem_cons_zero, List.getElem_cons_succ, Act.put, List.setIfInBounds_toArray, List.set_cons_zero, List.set_cons_succ]
                refine wpAnyH_take (i := 2) (v := ?_) rfl (by kernel_rfl) (by kernel_rfl) (by kernel_rfl) (fun _ _ _ h => h) (Or.inl ⟨by rfl, ?_⟩) (by assumption) ?_
                rotate_left
                · intro w _; go_simp; with_reducible rfl
                try simp only [List.getElem_toArray, List.getElem_cons_zero, List.getElem_cons_succ, Act.put, List.setIfInBounds_toArray, List.set_cons_zero, List.set_cons_succ]
                rw [HW1.out]
                refine wpAnyH_take (i := 3) (v := .slice (some ⟨g11, if cap11 = lo + 1 then 0 else lo + 1, none⟩) (O.length - lo) (cap11 - (lo + 1))) rfl (by kernel_rfl) (by kernel_rfl) (by kernel_rfl) (fun _ _ _ h => h) (Or.inl ⟨by rfl, ?_⟩) (by assumption) ?_
                · intro w_ _
                  have h_ := H3.out w_
                  simp [execOp, Act.eval, h_]
                try simp only [List.getElem_toArray, List.getElem_cons_zero, List.getElem_cons_succ, Act.put, List.setIfInBounds_toArray, List.set_cons_zero, List.set_cons_succ]
                refine wpAnyH_take (i := 4) (v := ?_) rfl (by kernel_rfl) (by kernel_rfl) (by kernel_rfl) (fun _ _ _ h => h) (Or.inl ⟨by rfl, ?_⟩) (by assumption) ?_
                rotate_left
                · intro w _; go_simp; with_reducible rfl
                try simp only [List.getElem_toArray, List.getElem_cons_zero, List.getElem_cons_succ, Act.put, List.setIfInBounds_toArray, List.set_cons_zero, List.set_cons_succ]
                refine wpAnyH_take (i := 5) (v := ?_) rfl (by kernel_rfl) (by kernel_rfl) (by kernel_rfl) (fun _ _ _ h => h) (Or.inl ⟨by rfl, ?_⟩) (by assumption) ?_
                rotate_left
                · intro w _; go_simp; with_reducible rfl
                try simp only [List.getElem_toArray, List.getElem_cons_zero, List.getElem_cons_succ, Act.put, List.setIfInBounds_toArray, List.set_cons_zero, List.set_cons_succ]
                refine wpAnyH_take (i := 6) (v := .slice (some ⟨g11, if cap11 = lo then 0 else lo, none⟩) (O.length + 1 - lo) (cap11 - lo)) rfl (by kernel_rfl) (by kernel_rfl) (by kernel_rfl) (fun _ _ _ h => h) (Or.inl ⟨by rfl, ?_⟩) (by assumption) ?_
                · intro w_ _
                  have h_ := H6.out w_
                  simp [execOp, Act.eval, h_]
                try simp only [List.getElem_toArray, List.getElem_cons_zero, List.getElem_cons_succ, Act.put, List.setIfInBounds_toArray, List.set_cons_zero, List.set_cons_succ]
                refine wpAnyH_ready (rs := [7]) (by kernel_rfl) (by simp) ?_
                refine AllReadyH.cons rfl (fun K hK => ?_) AllReadyH.nil
                refine step_of_list rfl fun Q' hQ' => ?_
                refine wpList_copy_rowX rfl _ _ _ _ rfl 3 Try.underlying22 Try.infoI (some ⟨g11, if cap11 = lo + 1 then 0 else lo + 1, none⟩) (some ⟨g11, if cap11 = lo then 0 else lo, none⟩) (O.length - lo) (cap11 - (lo + 1)) (O.length + 1 - lo) (cap11 - lo) rfl rfl g11 (lo + 1) ((O ++ [0]).map iv ++ tl) 3 hbkD ((O.drop lo).map iv) ?e1 ?e2 ?e3 (ints_oneX _) ?_
                case e1 => rw [hcl0]; show _ = min _ _; omega
                case e2 =>
                  intro hp
                  rw [hcl0] at hp
                  refine ⟨by rw [if_neg (by omega)], _, rfl, fun q v hq => ?_⟩
                  rw [if_neg (by omega), Addr.add_lit, hbkD.cell]
                  rw [List.getElem?_map, List.getElem?_drop] at hq
                  have hql : lo + q < O.length := by
                    apply Classical.byContradiction
                    intro h
                    rw [List.getElem?_eq_none (by omega)] at hq
                    cases hq
                  rw [List.getElem?_append_left (by simp; omega), List.getElem?_map, List.getElem?_append_left hql]
                  exact hq
                case e3 => rw [hcl0]; simp; omega
                intro w12 hb12 hg12
                rw [HSPL.out] at hb12
                refine hQ' _ _ ?_
                refine hK.out _ _ trivial (fun _ => ?_)
                clear hK K hQ' Q'
                try simp only [List.getElem_toArray, List.getElem_cons_zero, List.getElem_cons_succ, Act.put, List.setIfInBounds_toArray, List.set_cons_zero, List.set_cons_succ]
                refine wpAnyH_done (by kernel_rfl) ?_ _
                obtain ⟨O1, hO1e⟩ : ∃ O1, (O ++ [0]).take (lo + 1) ++ O.drop lo = O1 := ⟨_, rfl⟩
                have hO1l : O1.length = O.length + 1 := by rw [← hO1e, List.length_append, List.length_take, List.length_drop]; simp; omega
                have hset := set_ord O 0 (C.length : Int) lo hloO
                rw [hO1e] at hset hb12
                have HSET := Lib.hid hset
                have hrow12 : w12.ownsRow w.heap.size 3 1 (sl (g11, cap11) O1.length) O1.length (O1.map iv) := blk_row hb12 (by rw [← hbl2, List.length_append, List.length_append, List.length_map, List.length_map, hO1l]; simp) (by simp) hmx hBg
                have hM12 := hMD.setO hg12 (by rw [hO1l]; simp) hrow12
                have hB12 := hBD.grown hg12 hBD.size (fun k hk => by cases hk; exact hBg)
                have hk12 : w12.cell? ⟨g11, lo, none⟩ = O1[lo]?.map iv := by rw [hrow12.cellAt lo (by omega), List.getElem?_map]
                rw [List.getElem?_eq_getElem (show lo < O1.length by omega)] at hk12
                obtain ⟨ov, hov⟩ : ∃ v, O1[lo]'(by omega) = v := ⟨_, rfl⟩
                have hk12' : w12.cell? ⟨g11, lo, none⟩ = some (.int .i64 ov) := by rw [hk12, hov]; rfl
                have hf12 := hrow12.frozenAt lo
                obtain ⟨c0, _, _⟩ := hM12.fs.fields
                have hC1 : (C ++ [cc]).length = C.length + 1 := by simp
                have HC1 := Lib.hid hC1
                rw [hC1] at c0
                obtain ⟨hst1, hst2⟩ := hrow12.stored lo (iv (C.length : Int))
                have hstr : (w12.setCell ⟨g11, lo, none⟩ (iv (C.length : Int))).ownsRow w.heap.size 3 1 (sl (g11, cap11) (O.take lo ++ (C.length : Int) :: O.drop lo).length) (O.take lo ++ (C.length : Int) :: O.drop lo).length ((O.take lo ++ (C.length : Int) :: O.drop lo).map iv) := by
                  rw [← HSET.out, List.length_set, List.map_set]; exact hst1
                have hM13 := hM12.setO hst2 (by rw [← HSET.out, List.length_set]) hstr
                have hB13 := hB12.setCell (p := ⟨g11, lo, none⟩) hBg (iv (C.length : Int))
                have hlo2 : (lo : Int) < (O.length : Int) + 1 := by omega
                have hww : IntKind.i64.wrap (C.length : Int) = (C.length : Int) := IntWalk.i64_in _ (by omega)
                have hfs : FS w.heap.size (w12.setCell ⟨g11, lo, none⟩ (iv (C.length : Int))) bl (g8, cap8) (g9, cap9) (g10, cap10) (g11, cap11) (Cd m (Q' ++ [nb])) (Fd m (Q' ++ [nb])) (S' ++ [.slice a5 R.length k5]) (Xd m (Q' ++ [nb])) (Od (ord'.take lo ++ C.length :: ord'.drop lo)) := by
                  rw [Cd_snoc, Fd_snoc, Xd_snoc, Od_insert, HUR.out, HCC.out, HC.out, HF.out, HOO.out, HFN.out, HDX.out]
                  exact hM13.fs
                have HFQ : FQ m w.heap.size (w12.setCell ⟨g11, lo, none⟩ (iv (C.length : Int))) bl (g8, cap8) (g9, cap9) (g10, cap10) (g11, cap11) (Q' ++ [nb]) (S' ++ [.slice a5 R.length k5]) (ord'.take lo ++ C.length :: ord'.drop lo) (.slice (some ⟨tb, toff, none⟩) (segsAll m).length tc) := ⟨hfs, by rw [Cd_snoc, HUR.out, HCC.out, HC.out]; exact HORD.out, hM13.ts, hM13.ap⟩
                have HOL := Lib.hid (show (Od (ord'.take lo ++ C.length :: ord'.drop lo)).length = O.length + 1 by rw [Od_insert, HOO.out, ← HSET.out, List.length_set, hO1l])
                clear hfs hM13 hM12 hst1 hst2 hstr hset hb12 hM11 hB11 hMD hBD hbkD hov hk12 hO1e hC1 hg12 hB12 hcl0
                go_wp2
                go_roundw
                case rel => exact ⟨j + 1, Q' ++ [nb], (g8, cap8), (g9, cap9), (g10, cap10), (g11, cap11), _, _, by go_num, by omega, by rw [HOL.out], HSI2, HFQ, hB13⟩
                case measure => simp [intOf] <;> omega
        · obtain rfl : j = (segsAll m).length := by omega
          have HSQ := Lib.hid (hSI.out.next (Nat.le_refl _))
          go_wp2
          go_roundw
          case rel => exact ⟨p + 1, Q', a', f', t', o', S', ord', by go_num, rfl, HSQ, hQ', hbr'⟩
          case measure => simp [intOf] <;> omega
    · have hQp : Q.length = p := by have := hSQ.out.hp; omega
      have hge : ((Cd m Q).length : Int) ≤ (p : Int) := by rw [Cd_length]; omega
      have HSQ := Lib.hid (show SQ (sgBd m) Q Q.length by rw [hQp]; exact hSQ.out)
      clear hSQ hQp
      go_wp2
      go_ret2
      exact ⟨bl, a, f, t, o, Q, S, ord, _, rfl, hQ, HSQ.out, hbr⟩

end Go.Proofs.Ytmlikchhkblohaa

namespace Go.Pan
open Go Go.RowKit
-- the counts by distance
/-- among the first k of the places found, those far e, for e below m -/
def dcnt (m : Nat) (Q : List Nat) (k : Nat) : List Int := (List.range m).map fun e => (((Q.take k).countP fun r => decide ((sgBd m).d r = e) : Nat) : Int)
theorem dcnt_length (m : Nat) (Q : List Nat) (k : Nat) : (dcnt m Q k).length = m := by simp [dcnt]
theorem dcnt_zero (m : Nat) (Q : List Nat) : dcnt m Q 0 = List.replicate m 0 := by
  simp only [dcnt, List.take_zero, List.countP_nil]
  rw [List.map_const', List.length_range]
  rfl
theorem dcnt_get {m : Nat} {Q : List Nat} {k e : Nat} (h : e < m) : (dcnt m Q k)[e]? = some ((((Q.take k).countP fun r => decide ((sgBd m).d r = e) : Nat) : Int)) := by
  simp [dcnt, h]
theorem dcnt_set {m : Nat} {Q : List Nat} {k x : Nat} (hx : Q[k]? = some x) : (dcnt m Q k).set ((sgBd m).d x) ((((Q.take k).countP fun r => decide ((sgBd m).d r = (sgBd m).d x) : Nat) : Int) + 1) = dcnt m Q (k + 1) := by
  obtain ⟨hk, e0⟩ := List.getElem?_eq_some_iff.1 hx
  apply List.ext_getElem (by simp [dcnt])
  intro i h1 h2
  simp only [dcnt, List.getElem_set, List.getElem_map, List.getElem_range]
  rw [List.take_succ_eq_append_getElem hk, List.countP_append, e0]
  by_cases e : (sgBd m).d x = i
  · subst e
    simp
  · rw [if_neg e]
    simp [e]
theorem allS_un' (m : Nat) : allS m = (List.range (fact m)).map (unrank m) := by
  apply List.ext_getElem (by simp [allS_length])
  intro i h1 h2
  have hi : i < fact m := by simpa using h2
  have h := unrank_get hi
  rw [List.getElem?_eq_getElem h1] at h
  simpa using Option.some.inj h
theorem sby_gby {m : Nat} (h1 : 1 ≤ m) (h6 : m ≤ 6) : sbyL m = gbyL (sG m) (ramp 1 m) := by
  unfold sbyL gbyL
  rw [gecc_seg h1 h6, show m - 1 + 1 = m by omega]
theorem dcnt_all {m : Nat} (h1 : 1 ≤ m) (h6 : m ≤ 6) {Q : List Nat} (h : SQ (sgBd m) Q Q.length) : dcnt m Q Q.length = sbyL m := by
  unfold dcnt sbyL
  refine List.map_congr_left fun e _ => ?_
  have hp : Q.Perm (List.range (fact m)) := (List.perm_ext_iff_of_nodup h.nodup List.nodup_range).2 fun r =>
    ⟨fun hr => List.mem_range.2 (h.lt r hr), fun hr => h.all (sgBd_ok h1 h6) _ r (List.mem_range.1 hr) rfl⟩
  rw [List.take_length, hp.countP_eq]
  unfold gbyN
  show _ = ((((allS m).countP fun q => decide (0 < gnearC (sG m) (ramp 1 m) e q) : Nat)) : Int)
  rw [allS_un', List.countP_map]
  refine congrArg _ (List.countP_congr fun r hr => ?_)
  have hst := unrank_st h1 (by omega) (List.mem_range.1 hr)
  have := gnearC_pos (sG_ok h1 h6) (show (sG m).St (ramp 1 m) from St.ramp m h1 (by omega)) (i := e) (show (sG m).St (unrank m r) from hst)
  simp only [decide_eq_true_eq, Function.comp_apply]
  rw [this]
  exact Iff.rfl
theorem sgBd_lt {m : Nat} (h1 : 1 ≤ m) (h6 : m ≤ 6) {r : Nat} (h : r < fact m) : (sgBd m).d r < m := by
  have := (gfar_spec (sG_ok h1 h6) (show (sG m).St (ramp 1 m) from St.ramp m h1 (by omega)) (show (sG m).St _ from unrank_st h1 (by omega) h)).2.1
  have e : (sG m).dm = m - 1 := rfl
  show gfar (sG m) (ramp 1 m) (unrank m r) < m
  omega
/-- the place at which a stack is found -/
theorem found_far {m : Nat} (h1 : 1 ≤ m) (h6 : m ≤ 6) {Q : List Nat} (h : SQ (sgBd m) Q Q.length) {ord : List Nat} (ho : Ord (Go.Proofs.Ytmlikchhkblohaa.Cd m Q) ord) {xs : List Int} (hst : St m xs) {lo : Nat} (hlo : lo ≤ ord.length)
    (hA : ∀ j, j < lo → Go.Proofs.Ytmlikchhkblohaa.keyAt ord (Go.Proofs.Ytmlikchhkblohaa.Cd m Q) j < codeL xs) (hB : ∀ j, lo ≤ j → j < ord.length → codeL xs ≤ Go.Proofs.Ytmlikchhkblohaa.keyAt ord (Go.Proofs.Ytmlikchhkblohaa.Cd m Q) j) :
    ∃ hl : lo < ord.length, Q[ord[lo]]? = some (rankL xs) ∧ (sgBd m).d (rankL xs) = gfar (sG m) xs (ramp 1 m) := by
  have hr : rankL xs < fact m := by have := rankL_lt xs; rwa [hst.2] at this
  have hun := unrank_rank h1 (by omega) hst
  have hQ := h.all (sgBd_ok h1 h6) _ (rankL xs) hr rfl
  have hm : codeL xs ∈ Go.Proofs.Ytmlikchhkblohaa.Cd m Q := List.mem_map.2 ⟨rankL xs, hQ, by rw [hun]⟩
  obtain ⟨hl, hk⟩ := ho.found hlo hA hB hm
  have hc := ho.lt _ (List.getElem_mem hl)
  rw [keyAt_get hl hc] at hk
  have hq : ord[lo] < Q.length := by rwa [Go.Proofs.Ytmlikchhkblohaa.Cd_length] at hc
  refine ⟨hl, ?_, sgBd_d h1 h6 hst⟩
  have hk2 : codeL (unrank m (Q[ord[lo]])) = codeL xs := by
    rw [← hk]; simp [Go.Proofs.Ytmlikchhkblohaa.Cd]
  have hlt := h.lt _ (List.getElem_mem hq)
  have s1 := unrank_st h1 (by omega) hlt
  have hb : ∀ q, St m q → ∀ y ∈ q, 1 ≤ y ∧ y ≤ 6 := fun q hq y hy => by have := hq.1.2.2.1 y hy; have := hq.2; omega
  have e := codeL_inj (by rw [s1.2, hst.2]) (hb _ s1) (hb _ hst) hk2
  have e2 : rankL (unrank m (Q[ord[lo]])) = rankL xs := by rw [e]
  rw [rank_unrank hlt] at e2
  rw [List.getElem?_eq_getElem hq, e2]

end Go.Pan

namespace Go.Proofs.Ytmlikchhkblohaa
open Go Go.RowKit Go.Pan

end Go.Proofs.Ytmlikchhkblohaa

namespace Go.Pan
open Go Go.RowKit
theorem codeF_low : ∀ (xs : List Int) (n : Int), (∀ x ∈ xs, 1 ≤ x ∧ x ≤ 6) → 7 ^ xs.length * n ≤ xs.foldl (fun n x => 7 * n + x) n
  | [], n, _ => by simp
  | x :: xs, n, hx => by
    have h0 := hx x (List.mem_cons_self ..)
    have h1 := codeF_low xs (7 * n + x) (fun y hy => hx y (List.mem_cons_of_mem _ hy))
    rw [List.foldl_cons, List.length_cons, Int.pow_succ, Int.mul_assoc]
    have h2 : (7 : Int) ^ xs.length * (7 * n) ≤ 7 ^ xs.length * (7 * n + x) := Int.mul_le_mul_of_nonneg_left (by omega) (Int.pow_nonneg (by omega))
    omega
theorem codeF_lt : ∀ (xs ys : List Int) (n : Int), 0 ≤ n → xs.length = ys.length → (∀ x ∈ xs, 1 ≤ x ∧ x ≤ 6) → (∀ x ∈ ys, 1 ≤ x ∧ x ≤ 6) → ltL xs ys = true → xs.foldl (fun n x => 7 * n + x) n < ys.foldl (fun n x => 7 * n + x) n
  | [], [], _, _, _, _, _, h => by simp [ltL, cmpL] at h
  | [], _ :: _, _, _, hl, _, _, _ => by simp at hl
  | _ :: _, [], _, _, hl, _, _, _ => by simp at hl
  | x :: xs, y :: ys, n, hn, hl, hx, hy, h => by
    have h0 := hx x (List.mem_cons_self ..)
    have h1 := hy y (List.mem_cons_self ..)
    have hl2 : xs.length = ys.length := by simpa using hl
    have hx2 : ∀ z ∈ xs, 1 ≤ z ∧ z ≤ 6 := fun z hz => hx z (List.mem_cons_of_mem _ hz)
    have hy2 : ∀ z ∈ ys, 1 ≤ z ∧ z ≤ 6 := fun z hz => hy z (List.mem_cons_of_mem _ hz)
    rw [ltL_cons] at h
    rw [List.foldl_cons, List.foldl_cons]
    by_cases hlt : x < y
    · have h2 := (codeF_bd xs (7 * n + x) (by omega) hx2).2
      have h3 := codeF_low ys (7 * n + y) hy2
      have h4 : (7 : Int) ^ xs.length * (7 * n + x + 1) ≤ 7 ^ xs.length * (7 * n + y) := Int.mul_le_mul_of_nonneg_left (by omega) (Int.pow_nonneg (by omega))
      rw [← hl2] at h3
      omega
    · simp only [decide_eq_false hlt, Bool.false_or, Bool.and_eq_true, decide_eq_true_iff] at h
      obtain ⟨rfl, h⟩ := h
      exact codeF_lt xs ys _ (by omega) hl2 hx2 hy2 h
theorem codeL_ltL {xs ys : List Int} (hl : xs.length = ys.length) (hx : ∀ x ∈ xs, 1 ≤ x ∧ x ≤ 6) (hy : ∀ x ∈ ys, 1 ≤ x ∧ x ≤ 6) (h : codeL xs < codeL ys) : ltL xs ys = true := by
  cases h1 : ltL xs ys with
  | true => rfl
  | false =>
    cases h2 : ltL ys xs with
    | true =>
      have h3 : codeL ys < codeL xs := codeF_lt ys xs 0 (Int.le_refl _) hl.symm hy hx h2
      omega
    | false =>
      rw [ltL_total xs ys hl h1 h2] at h
      omega
theorem gmaxN_ext {l l' : List Nat} (h : ∀ x, x ∈ l ↔ x ∈ l') : gmaxN l = gmaxN l' := by
  by_cases e : l = []
  · subst e
    have : l' = [] := List.eq_nil_iff_forall_not_mem.2 fun x hx => by have := (h x).2 hx; cases this
    rw [this]
  · have e' : l' ≠ [] := by
      rintro rfl
      exact e (List.eq_nil_iff_forall_not_mem.2 fun x hx => by have := (h x).1 hx; cases this)
    exact Nat.le_antisymm (le_gmaxN ((h _).1 (gmaxN_mem e))) (le_gmaxN ((h _).2 (gmaxN_mem e')))
/-- the stacks that are farthest, in order -/
def worstG (m : Nat) : List (List Int) := (allS m).filter fun q => decide (gfar (sG m) (ramp 1 m) q = gecc (sG m) (ramp 1 m))
def mFarthestStacks (n : Int) : List (List Int) := if inB n 1 6 = true then worstG n.toNat else []
theorem worstG_sorted (m : Nat) : (worstG m).Pairwise fun x y => ltL x y = true := (allS_sorted m).filter _
theorem mem_worstG {m : Nat} (h1 : 1 ≤ m) (h6 : m ≤ 6) {q : List Int} : q ∈ worstG m ↔ (sG m).St q ∧ 0 < gnearC (sG m) (ramp 1 m) (gecc (sG m) (ramp 1 m)) q := by
  have hO := sG_ok h1 h6
  have hH : (sG m).St (ramp 1 m) := St.ramp m h1 (by omega)
  unfold worstG
  rw [List.mem_filter, mem_allS h1 (by omega)]
  constructor
  · rintro ⟨h1, h2⟩
    exact ⟨h1, (gnearC_pos hO hH h1).2 (of_decide_eq_true h2)⟩
  · rintro ⟨h1, h2⟩
    exact ⟨h1, decide_eq_true ((gnearC_pos hO hH h1).1 h2)⟩
theorem mem_worstG2 {m : Nat} (h1 : 1 ≤ m) (h6 : m ≤ 6) {q : List Int} : q ∈ worstG m ↔ St m q ∧ gfar (sG m) (ramp 1 m) q = gecc (sG m) (ramp 1 m) := by
  unfold worstG
  rw [List.mem_filter, mem_allS h1 (by omega), decide_eq_true_iff]
theorem worstG_len {m : Nat} (h6 : m ≤ 6) : (worstG m).length ≤ 720 := by
  have h1 : (worstG m).length ≤ (allS m).length := List.length_filter_le _ _
  rw [allS_length] at h1
  have h2 := fact_mono h6
  have h3 : fact 6 = 720 := rfl
  omega
theorem worstG_rows {m : Nat} (h1 : 1 ≤ m) (h6 : m ≤ 6) : ∀ xs ∈ worstG m, xs.length ≤ 9 := fun xs hx => by
  have h := (mem_worstG2 h1 h6).1 hx
  have := h.1.2
  omega
theorem inB_six {n : Int} (h : inB n 1 6 = true) : ∃ m : Nat, n = (m : Int) ∧ 1 ≤ m ∧ m ≤ 6 := by
  have := inB_iff.1 h
  exact ⟨n.toNat, by omega, by omega, by omega⟩
theorem len_mFarthestStacks (n : Int) : (mFarthestStacks n).length ≤ 1048576 := by
  unfold mFarthestStacks
  split
  · rename_i h
    obtain ⟨m, rfl, h1, h6⟩ := inB_six h
    have := worstG_len h6
    rw [Int.toNat_natCast]; omega
  · simp
theorem rows_mFarthestStacks (n : Int) : ∀ xs ∈ mFarthestStacks n, xs.length ≤ 1048576 := by
  unfold mFarthestStacks
  split
  · rename_i h
    obtain ⟨m, rfl, h1, h6⟩ := inB_six h
    intro xs hx
    rw [Int.toNat_natCast] at hx
    have := worstG_rows h1 h6 xs hx
    omega
  · intro xs hx; cases hx
theorem tot_mFarthestStacks (n : Int) : pre (mFarthestStacks n) (mFarthestStacks n).length ≤ 1048576 := by
  unfold mFarthestStacks
  split
  · rename_i h
    obtain ⟨m, rfl, h1, h6⟩ := inB_six h
    rw [Int.toNat_natCast]
    have := pre_le (worstG_len h6) (worstG_rows h1 h6)
    omega
  · simp [pre]
/-- the distance of the i-th stack found, and of the i-th in order; the i-th in order -/
def dQ (m : Nat) (Q : List Nat) (i : Nat) : Nat := (sgBd m).d (Q.getD i 0)
def dO (m : Nat) (Q ord : List Nat) (i : Nat) : Nat := dQ m Q (ord.getD i 0)
def uO (m : Nat) (Q ord : List Nat) (i : Nat) : List Int := unrank m (Q.getD (ord.getD i 0) 0)
theorem getD_of {l : List Nat} {i x : Nat} (h : l[i]? = some x) : l.getD i 0 = x := by rw [List.getD_eq_getElem?_getD, h]; rfl
theorem qmax_all {m : Nat} (h1 : 1 ≤ m) (h6 : m ≤ 6) {Q : List Nat} (h : SQ (sgBd m) Q Q.length) : maxTo (dQ m Q) Q.length = gecc (sG m) (ramp 1 m) := by
  unfold maxTo gecc
  show _ = gmaxN ((allS m).map (gfar (sG m) (ramp 1 m)))
  rw [allS_un', List.map_map]
  refine gmaxN_ext fun x => ?_
  simp only [List.mem_map, List.mem_range]
  constructor
  · rintro ⟨i, hi, rfl⟩
    have hx : Q[i]? = some Q[i] := List.getElem?_eq_getElem hi
    refine ⟨Q[i], h.lt _ (List.getElem_mem hi), ?_⟩
    unfold dQ
    rw [getD_of hx]
    rfl
  · rintro ⟨r, hr, rfl⟩
    have hm := h.all (sgBd_ok h1 h6) _ r hr rfl
    obtain ⟨i, hi, e⟩ := List.getElem_of_mem hm
    refine ⟨i, hi, ?_⟩
    unfold dQ
    rw [getD_of (show Q[i]? = some r by rw [List.getElem?_eq_getElem hi, e])]
    rfl
theorem ord_all {n : Nat} {ord : List Nat} (hn : ord.Nodup) (hl : ord.length = n) (hlt : ∀ j ∈ ord, j < n) {p : Nat} (hp : p < n) : p ∈ ord := by
  have h := subset_of_le (l := ord.map fun (j : Nat) => (j : Int)) (m := (List.range n).map fun (j : Nat) => (j : Int))
    (by
      rw [List.Nodup, List.pairwise_map]
      exact hn.imp fun h e => h (by omega))
    (by
      intro x hx
      obtain ⟨j, hj, rfl⟩ := List.mem_map.1 hx
      exact List.mem_map.2 ⟨j, List.mem_range.2 (hlt j hj), rfl⟩)
    (by simp [hl]) (p : Int) (List.mem_map.2 ⟨p, List.mem_range.2 hp, rfl⟩)
  obtain ⟨j, hj, e⟩ := List.mem_map.1 h
  have : j = p := by omega
  rw [← this]; exact hj
theorem opick_all {m : Nat} (h1 : 1 ≤ m) (h6 : m ≤ 6) {Q : List Nat} (h : SQ (sgBd m) Q Q.length) {ord : List Nat} (ho : Ord (Go.Proofs.Ytmlikchhkblohaa.Cd m Q) ord) : pickTo (dO m Q ord) (uO m Q ord) (gecc (sG m) (ramp 1 m)) ord.length = worstG m := by
  have hol : ord.length = Q.length := by have := ho.len; rwa [Go.Proofs.Ytmlikchhkblohaa.Cd_length] at this
  have hoq : ∀ i, i < ord.length → ∃ p r, ord[i]? = some p ∧ Q[p]? = some r ∧ r < fact m := fun i hi => by
    have hp := ho.lt _ (List.getElem_mem hi)
    rw [Go.Proofs.Ytmlikchhkblohaa.Cd_length] at hp
    exact ⟨ord[i], Q[ord[i]], List.getElem?_eq_getElem hi, List.getElem?_eq_getElem hp, h.lt _ (List.getElem_mem hp)⟩
  have hb : ∀ q, St m q → ∀ y ∈ q, 1 ≤ y ∧ y ≤ 6 := fun q hq y hy => by have := hq.1.2.2.1 y hy; have := hq.2; omega
  have hk : ∀ i, i < ord.length → Go.Proofs.Ytmlikchhkblohaa.keyAt ord (Go.Proofs.Ytmlikchhkblohaa.Cd m Q) i = codeL (uO m Q ord i) := fun i hi => by
    obtain ⟨p, r, e1, e2, _⟩ := hoq i hi
    unfold Go.Proofs.Ytmlikchhkblohaa.keyAt uO Go.Proofs.Ytmlikchhkblohaa.Cd
    rw [getD_of e1, getD_of e2, List.getD_eq_getElem?_getD, List.getElem?_map, e2]
    rfl
  refine sorted_eq ?_ (worstG_sorted m) fun q => ?_
  · unfold pickTo
    rw [List.pairwise_map]
    refine List.Pairwise.imp_of_mem ?_ (List.pairwise_lt_range.filter _)
    intro i j hi hj hij
    have hi' := List.mem_range.1 (List.mem_filter.1 hi).1
    have hj' := List.mem_range.1 (List.mem_filter.1 hj).1
    have hm := ho.mono i j hij hj'
    rw [hk i hi', hk j hj'] at hm
    obtain ⟨p, r, e1, e2, e3⟩ := hoq i hi'
    obtain ⟨p', r', e1', e2', e3'⟩ := hoq j hj'
    have s1 : St m (uO m Q ord i) := by unfold uO; rw [getD_of e1, getD_of e2]; exact unrank_st h1 (by omega) e3
    have s2 : St m (uO m Q ord j) := by unfold uO; rw [getD_of e1', getD_of e2']; exact unrank_st h1 (by omega) e3'
    exact codeL_ltL (by rw [s1.2, s2.2]) (hb _ s1) (hb _ s2) hm
  · rw [mem_worstG2 h1 h6]
    unfold pickTo
    simp only [List.mem_map, List.mem_filter, List.mem_range, decide_eq_true_iff]
    constructor
    · rintro ⟨i, ⟨hi, hd⟩, rfl⟩
      obtain ⟨p, r, e1, e2, e3⟩ := hoq i hi
      unfold uO
      unfold dO dQ at hd
      rw [getD_of e1, getD_of e2] at hd ⊢
      exact ⟨unrank_st h1 (by omega) e3, hd⟩
    · rintro ⟨hq, hd⟩
      have hr : rankL q < fact m := rank_lt hq
      have hm := h.all (sgBd_ok h1 h6) _ (rankL q) hr rfl
      obtain ⟨p, hp, e⟩ := List.getElem_of_mem hm
      have hpo := ord_all ho.nodup hol (fun j hj => by have := ho.lt j hj; rwa [Go.Proofs.Ytmlikchhkblohaa.Cd_length] at this) hp
      obtain ⟨i, hi, e'⟩ := List.getElem_of_mem hpo
      have e1 : ord[i]? = some p := by rw [List.getElem?_eq_getElem hi, e']
      have e2 : Q[p]? = some (rankL q) := by rw [List.getElem?_eq_getElem hp, e]
      refine ⟨i, ⟨hi, ?_⟩, ?_⟩
      · unfold dO dQ
        rw [getD_of e1, getD_of e2]
        show gfar (sG m) (ramp 1 m) (unrank m (rankL q)) = _
        rw [unrank_rank h1 (by omega) hq]
        exact hd
      · unfold uO
        rw [getD_of e1, getD_of e2]
        exact unrank_rank h1 (by omega) hq

end Go.Pan

namespace Go.Proofs.Ytmlikchhkblohaa
open Go Go.RowKit Go.Pan

theorem grown_of_belowF {w w' : World} (h : Below w.heap.size w w') (row : Option Nat) : w.grownBy w' row := ⟨h.os, h.tape, h.output, h.size, fun k hk _ => h.block k hk⟩

set_option maxHeartbeats 4000000 in
set_option maxRecDepth 100000 in
theorem sFarthestStacks_any (n : Int) (w : World) :
    Calls Try.prog 75 #[.int .i64 n] w fun e w' => ∃ r hs, e = .returned (.tuple #[r, .bool (inB n 1 6)]) ∧ SS w' w.heap.size w'.heap.size r hs (mFarthestStacks n) ∧ Below w.heap.size w w' := by
  have cl := l1In_any n 1 6 w
  cases hg : inB n 1 6 with
  | true =>
    have HM := Lib.hid (show mFarthestStacks n = worstG n.toNat from if_pos hg)
    obtain ⟨m, rfl, h1, h6⟩ := inB_six hg
    rw [Int.toNat_natCast] at HM
    rw [hg] at cl
    have hfm := fact_le (n := m) (by omega)
    obtain ⟨i0, hi, hz0, hz1, hz2⟩ := info_parts Try.info22
    have HI := Lib.hid hi
    have HZ0 := Lib.hid hz0
    have HZ1 := Lib.hid hz1
    have HZ2 := Lib.hid hz2
    clear hg hi hz0 hz1 hz2
    go_enter Try.func75, Try.ntmps75
    go_wp2_with fail
    refine cl.mono ?_
    rintro e w1 ⟨rfl, rfl⟩
    clear cl
    go_wp2_with fail
    refine (sgFind_any m _ h1 h6).mono ?_
    rintro e w2 ⟨bl, a, f, t, o, Q, S, ord, tv, rfl, hQ, hSQ, hb2⟩
    have hQN : Q.length ≤ fact m := hSQ.length_le
    have hol : ord.length = Q.length := hQ.lens.2
    have HSL := Lib.hid hQ.lens.1
    have HE := Lib.hid (qmax_all h1 h6 hSQ)
    have HP := Lib.hid (opick_all h1 h6 hSQ hQ.or)
    have HLT := Lib.hid (fun (k x : Nat) (hx : Q[k]? = some x) => hSQ.lt x (List.mem_of_getElem? hx))
    have HOL := Lib.hid (fun j (hj : j ∈ ord) => (show j < Q.length by have := hQ.or.lt j hj; rwa [Cd_length] at this))
    have HQ := Lib.hid hQ
    obtain ⟨N, hN⟩ : ∃ N, Q.length = N := ⟨_, rfl⟩
    have HN := Lib.hid hN
    have hs2 := hb2.size
    obtain ⟨c0, c1, c2⟩ := hQ.fs.fields
    rw [Fd_length, hN] at c1
    rw [Od_length, hol, hN]
    rw [hN] at HE hQN
    rw [hol, hN] at HP
    have HOLN := Lib.hid hol
    have HM0 := Lib.hid (maxTo_zero (dQ m Q))
    have HDB := Lib.hid (show ∀ r, r < N → dQ m Q r ≤ 720 from fun r hr => by
      have hx : Q[r]? = some (Q[r]'(by rw [HN.out]; exact hr)) := List.getElem?_eq_getElem _
      have h := sgBd_le h1 h6 (HLT.out r _ hx)
      unfold dQ
      rw [getD_of hx]
      exact h)
    clear hSQ hQ c0 c2 hN hol
    go_wp2
    go_loop [6, 8, 25] (fun ms _ i => ∃ k : Nat, k ≤ N ∧ i = .int .i64 k ∧ ms = .int .i64 (maxTo (dQ m Q) k : Nat)) (fun _ _ i => N - (intOf i).toNat)
    case atStart => exact ⟨0, Nat.zero_le _, rfl, by rw [HM0.out]; rfl⟩
    case round =>
      obtain ⟨k, hk, rfl, rfl⟩ := hrel
      by_cases hlt : k < N
      · have hlt' : (k : Int) < N := by omega
        obtain ⟨x, hx⟩ : ∃ x, Q[k]? = some x := ⟨_, List.getElem?_eq_getElem (by rw [HN.out]; exact hlt)⟩
        have h1c := HQ.out.farAt hx
        have HDX := Lib.hid (show (sgBd m).d x = dQ m Q k by unfold dQ; rw [getD_of hx])
        rw [HDX.out] at h1c
        have HS := Lib.hid (show ((maxTo (dQ m Q) (k + 1) : Nat) : Int) = if ((dQ m Q k : Nat) : Int) < (maxTo (dQ m Q) k : Nat) then ((maxTo (dQ m Q) k : Nat) : Int) else ((dQ m Q k : Nat) : Int) by
          rw [maxTo_succ]
          split <;> omega)
        clear hx
        go_wp2_with fail
        refine (l1Most_any _ _ _).mono ?_
        rintro e w5 ⟨rfl, rfl⟩
        rw [← HS.out]
        go_wp2
        go_round
        case rel => exact ⟨k + 1, by omega, by go_num, rfl⟩
        case measure => simp [intOf] <;> omega
      · obtain rfl : k = N := by omega
        have hge : (k : Int) ≤ k := Int.le_refl _
        have hEb : maxTo (dQ m Q) k ≤ 720 := maxTo_le HDB.out
        rw [HE.out] at hEb ⊢
        obtain ⟨E, hE⟩ : ∃ E, gecc (sG m) (ramp 1 m) = E := ⟨_, rfl⟩
        rw [hE] at HP hEb ⊢
        have HH0 := Lib.hid (SS.nil w2 w2.heap.size w2.heap.size)
        have hown0 : w2.ownsRow w2.heap.size 22 1 (.slice none 0 0) 0 [] := World.ownsRow_nil _ _ _ _
        clear hE HM0 c1
        go_wp2
        go_loopw [9, 11, 35] (fun ov _ i wr => ∃ (j : Nat) (hs : List Value), j ≤ k ∧ i = .int .i64 j ∧ Hid (SS wr w2.heap.size wr.heap.size ov hs (pickTo (dO m Q ord) (uO m Q ord) E j)) ∧ Hid (wr.ownsRow w2.heap.size 22 1 ov hs.length hs) ∧ Below w2.heap.size w2 wr) (fun _ _ i _ => k - (intOf i).toNat)
        case atStart => exact ⟨0, [], Nat.zero_le _, rfl, HH0, Lib.hid hown0, Below.refl _ _⟩
        case round =>
          obtain ⟨j, hs, hj, rfl, hS, hown, hbr⟩ := hrel
          clear HH0 hown0
          by_cases hjl : j < k
          · have hjl' : (j : Int) < k := by omega
            obtain ⟨p, hp⟩ : ∃ p, ord[j]? = some p := ⟨_, List.getElem?_eq_getElem (by rw [HOLN.out, HN.out]; exact hjl)⟩
            have hpQ : p < Q.length := HOL.out p (List.mem_of_getElem? hp)
            obtain ⟨x, hx⟩ : ∃ x, Q[p]? = some x := ⟨_, List.getElem?_eq_getElem hpQ⟩
            have hpk : p < k := by rw [HN.out] at hpQ; exact hpQ
            have hxf := HLT.out p x hx
            have hQr := HQ.out.same hbr
            obtain ⟨c0, c1, c2⟩ := hQr.fs.fields
            rw [Fd_length, HN.out] at c1
            rw [HSL.out, HN.out] at c2
            have ho1 : wr.cell? ⟨o.1, j, none⟩ = some (.int .i64 ((p : Nat) : Int)) := by
              rw [hQr.fs.ord.cellAt j (by rw [Od_length, HOLN.out, HN.out]; omega)]
              unfold Od
              rw [List.getElem?_map, List.getElem?_map, hp]
              rfl
            have h1r := hQr.farAt hx
            have hdo : dO m Q ord j = (sgBd m).d x := by unfold dO dQ; rw [getD_of hp, getD_of hx]
            have huo : uO m Q ord j = unrank m x := by unfold uO; rw [getD_of hp, getD_of hx]
            have hpk' : (p : Int) < (k : Int) := by omega
            have hlen : hs.length ≤ j := by rw [hS.out.len]; exact pickTo_length _ _ E j
            by_cases hd : (sgBd m).d x = E
            · have HN1 := Lib.hid (pickTo_yes (u := uO m Q ord) (hdo.trans hd))
              rw [huo] at HN1
              rw [hd] at h1r
              have he : ((E : Int) == (E : Int)) = true := by simp
              obtain ⟨uv, hcs, hou⟩ := hQr.rowAt hx
              obtain ⟨va, vc, rfl, _, _, _⟩ := hou.shape
              have hul : (unrank m x).length = m := (unrank_st h1 (by omega) hxf).2
              have HUL := Lib.hid hul
              have hul2 : (unrank m x).length ≤ 1048576 := by omega
              clear hd hul hp hx hQr c0 hdo huo
              go_wp2_with fail
              refine (l1Own_any _ (unrank m x) wr hou hul2).mono ?_
              rintro e w5 ⟨r5, rfl, ho5, hf5, hb5⟩
              obtain ⟨a5, c5, rfl, _, _, _⟩ := ho5.shape
              have hz5 := hb5.size
              have hzr := hbr.size
              have hown5 := hown.out.kept (grown_of_belowF hb5 none) (by cases h : Value.ownBlock u9 with | none => exact .inl rfl | some g => exact .inr (by simp))
              have hbr5 := hbr.trans (hb5.mono hzr)
              have HI5 := Lib.hid (show In wr.heap.size (w5.heap.size + 1) (.slice a5 (unrank m x).length c5) from fun g hg => ⟨hf5 g hg, Nat.lt_succ_of_lt (ho5.lt g hg)⟩)
              have HS5 := Lib.hid ((hS.out.below hb5 (Nat.le_refl _)).below (below_new w5 (.cells #[.slice a5 (unrank m x).length c5] 22)) (by omega))
              have HO5 := Lib.hid (ho5.alloc (.cells #[.slice a5 (unrank m x).length c5] 22))
              have hs5 := hbr5.size
              clear hb5 ho5 hf5 hou hS hown c1 c2 h1r ho1 hcs
              go_wp2_with (at_builtin; refine wpList_append_lies _ rfl _ _ 34 rfl w2.heap.size 22 i0 _ 1 24 Try.underlying34 HI.out HZ0.out HZ1.out HZ2.out rfl (by omega) _ hs.length hs rfl (hown5.alloc _) _ 1 1 [.slice a5 (unrank m x).length c5] rfl (by simp) (World.news_of_block (heap_alloc_new _ _)) (by simp [Value.oneCell']) (by omega) (by unfold maxLen; omega) (by omega) (by simp; omega) (w5.heap.size + 1) (by simp) ?_)
              intro g8 cap8 w8 hown8 hgr8 hat8 hlt8
              have hS8 := SS.app (cap := cap8) HS5.out (by simp; omega) HO5.out (by simpa using HI5.out) hown8 hgr8 (by simpa using hat8) hlt8 (by omega)
              rw [← HN1.out] at hS8
              have hbr8 := (hbr5.alloc hs5 (.cells #[.slice a5 (unrank m x).length c5] 22)).grown hgr8 (by simp; omega) (fun b hb => (HS5.out.inn b hb).1)
              have HS8 := Lib.hid hS8
              have HW8 := Lib.hid (show w8.ownsRow w2.heap.size 22 1 (.slice (some ⟨g8, 0, none⟩) (hs.length + 1) cap8) (hs ++ [Value.slice a5 (unrank m x).length c5]).length (hs ++ [Value.slice a5 (unrank m x).length c5]) by rw [List.length_append]; exact hown8)
              clear hS8 hgr8 hat8 hbr5 hown5 hown8
              go_wp2
              go_roundw
              case rel => exact ⟨j + 1, _, by omega, by go_num, HS8, HW8, hbr8⟩
              case measure => simp [intOf] <;> omega
            · have HN1 := Lib.hid (pickTo_no (u := uO m Q ord) (fun e => hd (hdo.symm.trans e)))
              have he : ((((sgBd m).d x : Nat) : Int) == (E : Int)) = false := by simp; omega
              clear hd hdo huo hp hx hQr c0 c2
              go_wp2
              go_roundw
              case rel => exact ⟨j + 1, hs, by omega, by go_num, Lib.hid (by rw [HN1.out]; exact hS.out), hown, hbr⟩
              case measure => simp [intOf] <;> omega
          · obtain rfl : j = k := by omega
            have hge2 : (j : Int) ≤ j := Int.le_refl _
            have HF := Lib.hid (show SS wr w.heap.size wr.heap.size u9 hs (mFarthestStacks (m : Int)) by rw [HM.out, ← HP.out]; exact hS.out.mono hs2 (Nat.le_refl _))
            have hB9 := hb2.trans (hbr.mono hs2)
            clear hS hown
            go_wp2
            go_ret2
            exact ⟨_, _, rfl, HF.out, hB9⟩
  | false =>
    have HM := Lib.hid (show mFarthestStacks n = [] from if_neg (by rw [hg]; exact Bool.false_ne_true))
    rw [hg] at cl
    clear hg
    go_enter Try.func75, Try.ntmps75
    go_wp2_with fail
    refine cl.mono ?_
    rintro e w1 ⟨rfl, rfl⟩
    go_wp2
    go_ret2
    exact ⟨_, [], rfl, by rw [HM.out]; exact SS.nil _ _ _, Below.refl _ _⟩

end Go.Proofs.Ytmlikchhkblohaa

/-! Communications in one goroutine, as steps of the walk ('Code.wp' is told by the machine of one, so a communication that one goroutine makes alone has a law there). -/
namespace Go.Pan
open Go Go.RowKit Go.Conc

/-- the operations with these numbers are walked from here -/
def OpsAt (P : Program) (ops : Array Oper) (Q : Exit → Act → World → Prop) (l : List Nat) (a : Act) (w : World) : Prop :=
  ∀ (b : Frame) (k : List Item) (cs : List Frame), ∃ e a' w', Q e a' w' ∧ Arrives P (lone (b.at a (.inRegion ops l :: k)) cs w) b k cs e a' w'
section
variable {P : Program} {ops : Array Oper} {Q : Exit → Act → World → Prop} {a : Act} {w : World} {i : Nat} {rest : List Nat} {o : Oper}
theorem wp_at {id : Nat} (h : OpsAt P ops Q (List.range ops.size) a w) : (Code.region id ops false).wp P Q a w :=
  fun b k cs => let ⟨e, a', w', q, r⟩ := h b k cs; ⟨e, a', w', q, .of_steps (.one step_region) r⟩
theorem OpsAt.ofOps {l : List Nat} (h : wpOps P ops Q l a w) : OpsAt P ops Q l a w := wp_ops l a w h
/-- the rest of a region, by the walk's own words -/
theorem OpsAt.list {l : List Oper} {k : Nat} (hl : ∀ j, l[j]? = ops[k + j]?) (h : wpList P ops Q l a w) : OpsAt P ops Q (List.range' k l.length) a w :=
  .ofOps (by rw [wpOps_eq_wpList l k hl]; exact h)
theorem OpsAt.value {v : Value} {w' : World} (ho : ops[i]? = some o) (hw : Region.wanted o (yielded ops a.tmps) = true) (hr : (execOp a.eval o).run P w = .ok (.value v) w')
    (h : OpsAt P ops Q rest (a.put o.dst v) w') : OpsAt P ops Q (i :: rest) a w := by
  intro b k cs
  obtain ⟨e, a', w'', hq, harr⟩ := h b k cs
  refine ⟨e, a', w'', hq, .of_steps (.one (step_lone_go ?_)) harr⟩
  have hfin : (b.at a (.inRegion ops (i :: rest) :: k)).finish v = b.at (a.put o.dst v) (.inRegion ops rest :: k) := by rw [Frame.finish_at, ho]; rfl
  rw [stepG_op ho hw, ← hfin]
  simp [stepG.apply, hr]
/-- a communication is handed up to the machine -/
theorem stepG_commE {cases : Array CommCase} {blocking : Bool} {shape : CommShape} {w' : World} (ho : ops[i]? = some o) (hw : Region.wanted o (yielded ops a.tmps) = true)
    (hr : (execOp a.eval o).run P w = .ok (.comm cases blocking shape) w') (b : Frame) (k : List Item) (cs : List Frame) :
    ∃ es, stepG P true (G (b.at a (.inRegion ops (i :: rest) :: k)) cs) w = .comm (G (b.at a (.inRegion ops (i :: rest) :: k)) cs) cases blocking shape w' es := by
  rw [stepG_oper ho hw]
  simp only [stepG.apply, if_true, Sem.runT_eq, hr, GStep.after, G, Frame.at]
  exact ⟨_, rfl⟩
theorem OpsAt.comm {v : Value} {w' w₁ : World} {cases : Array CommCase} {blocking : Bool} {shape : CommShape} (ho : ops[i]? = some o) (hw : Region.wanted o (yielded ops a.tmps) = true)
    (hr : (execOp a.eval o).run P w = .ok (.comm cases blocking shape) w₁)
    (hs : ∀ (fr : Frame) (cs : List Frame) (es : Array Event), stepG P true (G fr cs) w = .comm (G fr cs) cases blocking shape w₁ es → step P (Go.Conc.solo (G fr cs) w) = .next (Go.Conc.solo (G (fr.finish v) cs) w'))
    (h : OpsAt P ops Q rest (a.put o.dst v) w') : OpsAt P ops Q (i :: rest) a w := by
  intro b k cs
  obtain ⟨e, a', w'', hq, harr⟩ := h b k cs
  refine ⟨e, a', w'', hq, .of_steps (.one ?_) harr⟩
  obtain ⟨es, he⟩ := stepG_commE (rest := rest) ho hw hr b k cs
  have h1 := hs _ _ _ he
  have hfin : (b.at a (.inRegion ops (i :: rest) :: k)).finish v = b.at (a.put o.dst v) (.inRegion ops rest :: k) := by rw [Frame.finish_at, ho]; rfl
  rw [hfin] at h1
  exact h1
/-- an operation that yields nothing -/
theorem OpsAt.skip {w' : World} (ho : ops[i]? = some o) (hw : Region.wanted o (yielded ops a.tmps) = true) (hr : (execOp a.eval o).run P w = .ok .skip w')
    (h : OpsAt P ops Q rest (a.put o.dst undef) w') : OpsAt P ops Q (i :: rest) a w := by
  intro b k cs
  obtain ⟨e, a', w'', hq, harr⟩ := h b k cs
  refine ⟨e, a', w'', hq, .of_steps (.one (step_lone_go ?_)) harr⟩
  have hfin : (b.at a (.inRegion ops (i :: rest) :: k)).finish undef = b.at (a.put o.dst undef) (.inRegion ops rest :: k) := by rw [Frame.finish_at, ho]; rfl
  rw [stepG_op ho hw, ← hfin]
  simp [stepG.apply, hr]
/-- a call that returns -/
theorem OpsAt.call {w' : World} {f : FuncId} {args : Array Value} (ho : ops[i]? = some o) (hw : Region.wanted o (yielded ops a.tmps) = true) (hr : (execOp a.eval o).run P w = .ok (.enter f args) w')
    (h : Calls P f args w' fun e w₂ => ∃ v, e = .returned v ∧ OpsAt P ops Q rest (a.put o.dst v) w₂) : OpsAt P ops Q (i :: rest) a w := by
  intro b k cs
  have hfin : ∀ v, (b.at a (.inRegion ops (i :: rest) :: k)).finish v = b.at (a.put o.dst v) (.inRegion ops rest :: k) := fun v => by rw [Frame.finish_at, ho]; rfl
  obtain ⟨_, _, _, ⟨v, rfl, hv⟩, hst, _, hlv⟩ := h (b.at a (.inRegion ops (i :: rest) :: k) :: cs)
  obtain ⟨e, a', w₃, hq, harr⟩ := hv b k cs
  have hen : step P (lone (b.at a (.inRegion ops (i :: rest) :: k)) cs w) = .next (lone (Frame.enter P f args .normal) (b.at a (.inRegion ops (i :: rest) :: k) :: cs) w') := step_lone_go (by rw [stepG_op ho hw]; simp [stepG.apply, hr, Frame.at])
  refine ⟨e, a', w₃, hq, .of_steps (.head hen (hst.trans (.one ?_))) harr⟩
  rw [← hfin]
  exact step_leave_returned hlv
/-- the end of a region -/
theorem OpsAt.nil (h : Q .normal a w) : OpsAt P ops Q [] a w := fun _ _ _ => ⟨.normal, a, w, h, .one step_region_end⟩
variable {c cap s r : Nat} {buf : Array Value} {z v : Value} {tm closed : Bool}
/-- 'c <- v', there being room -/
theorem OpsAt.send (ho : ops[i]? = some o) (hw : Region.wanted o (yielded ops a.tmps) = true) (hr : (execOp a.eval o).run P w = .ok (.comm #[scase c v z] true .send) w)
    (hc : w.heap[c]? = some (.chan cap buf false s r tm)) (hroom : buf.size < cap)
    (h : OpsAt P ops Q rest (a.put o.dst undef) (w.setChan c cap (buf.push v) false (s + 1) r tm)) : OpsAt P ops Q (i :: rest) a w :=
  .comm ho hw hr (fun _ _ _ hs => step_lone_send_room hs hc hroom) h
/-- a select of one receive with a default: something lies there -/
theorem OpsAt.selRecv (ho : ops[i]? = some o) (hw : Region.wanted o (yielded ops a.tmps) = true) (hr : (execOp a.eval o).run P w = .ok (.comm #[rcase c z] false .select) w)
    (hc : w.heap[c]? = some (.chan cap buf closed s r tm)) (hsome : 0 < buf.size)
    (h : OpsAt P ops Q rest (a.put o.dst (.tuple #[goInt 0, .bool true, buf.getD 0 undef])) (w.setChan c cap (buf.extract 1 buf.size) closed s (r + 1) tm)) : OpsAt P ops Q (i :: rest) a w :=
  .comm ho hw hr (fun _ _ _ hs => step_lone_select_recv_buf hs hc hsome) h
/-- .. nothing does -/
theorem OpsAt.selDefault (ho : ops[i]? = some o) (hw : Region.wanted o (yielded ops a.tmps) = true) (hr : (execOp a.eval o).run P w = .ok (.comm #[rcase c z] false .select) w)
    (hc : w.heap[c]? = some (.chan cap #[] false s r tm))
    (h : OpsAt P ops Q rest (a.put o.dst (.tuple #[goInt (-1), .bool false, z])) w) : OpsAt P ops Q (i :: rest) a w :=
  .comm ho hw hr (fun _ _ _ hs => step_lone_select_default hs hc) h
end

end Go.Pan

namespace Go.Proofs.Ytmlikchhkblohaa
open Go Go.RowKit Go.Pan

set_option maxRecDepth 100000 in
theorem segTurns_any (ad : Option Addr) (m cap : Nat) (w : World) (hm : m ≤ 1000) :
    Calls Try.prog 244 #[.slice ad m cap] w fun e w' => ∃ r, e = .returned r ∧ OwnI w' r (ramp 1 m) ∧ From w.heap.size r ∧ Below w.heap.size w w' := by
  have c := turnsFrom_any 1 m w (by omega) (by omega) (by omega)
  rw [Nat.add_sub_cancel] at c
  have HC := Lib.hid c
  clear c
  go_enter Try.func244, Try.ntmps244
  go_wp2_with fail
  refine HC.out.mono ?_
  rintro e w1 ⟨r, rfl, ho, hf, hb⟩
  go_wp2
  go_ret
  exact ⟨_, rfl, ho, hf, hb⟩

set_option maxRecDepth 100000 in
set_option maxHeartbeats 800000 in
theorem segTurned_any (ad : Option Addr) (cap m : Nat) (xs : List Int) (k : Nat) (w : World) (h1 : 1 ≤ m) (h9 : m ≤ 9) (hx : xs.length = m) (hk : k ∈ (sG m).ks) (hv : OwnC c2 w (.slice ad (sgN m) cap) (segsAll m)) :
    Calls Try.prog 243 #[.slice ad (sgN m) cap, tw xs, .int .i64 k] w fun e w' => e = .returned (tw (segT xs (sgAt m k))) ∧ Below w.heap.size w w' := by
  have hkk := mem_sks.1 hk
  have hB := Lib.hid (sgAt_B h1 h9 hk)
  have hlt : k - 1 < (segsAll m).length := by show k - 1 < sgN m; omega
  have hva := hv.alloc (.cells (twl xs).toArray 86)
  obtain ⟨j, rfl⟩ : ∃ j, k = j + 1 := ⟨k - 1, by omega⟩
  obtain ⟨b, off, rfl, hbl, hra⟩ := OwnC.rowAt hva (show j < (segsAll m).length from hlt)
  have hp : sgAt m (j + 1) = (segsAll m)[j]'(show j < (segsAll m).length from hlt) := by
    unfold sgAt
    rw [Nat.add_sub_cancel, List.getD_eq_getElem?_getD, List.getElem?_eq_getElem (show j < (segsAll m).length from hlt)]
    rfl
  rw [← hp] at hra
  obtain ⟨p, hpp⟩ : ∃ p, sgAt m (j + 1) = p := ⟨_, rfl⟩
  rw [hpp] at hra hB ⊢
  have h15 : sgN m ≤ 81 := segsAll_le h9
  obtain ⟨L, hL⟩ : ∃ L, sgN m = L := ⟨_, rfl⟩
  rw [hL] at hkk h15 ⊢
  have hjl : (j : Int) < L := by omega
  have hX9 : xs.length ≤ 9 := by omega
  have hra' : (w.alloc (.cells (twl xs).toArray 86)).rangeAt b (off + j * 2) [.int .i64 p.1, .int .i64 p.2] := hra
  have hs1 : IntKind.i64.wrap (j : Int) = (j : Int) := IntWalk.i64_in _ (by omega)
  have HS1 := Lib.hid hs1
  obtain ⟨W, hW⟩ : ∃ W, W = (w.alloc (.cells (twl xs).toArray 86)).alloc (.cells (twl []).toArray 86) := ⟨_, rfl⟩
  have hbx : Blk W w.heap.size 86 (twl xs) := by rw [hW]; exact (Blk.new w _ (twl xs) _ rfl).alloc _
  have hz : Blk W (w.heap.size + 1) 86 (twl []) := by rw [hW]; exact Blk.new _ _ (twl []) _ (by simp)
  have hb0 : Below w.heap.size w W := by rw [hW]; exact ((Below.refl _ _).alloc (Nat.le_refl _) _).alloc (by simp) _
  have hrb : W.rangeAt b (off + j * 2) [.int .i64 p.1, .int .i64 p.2] := by
    rw [hW]
    exact range_below hra' (below_new _ _) hbl
  have hut := Try.underlying86
  have hut2 := Try.underlying62
  have hsz : (Try.prog.info? 86).map (·.size) = some (twl xs).length := by rw [Try.infoT, twl_length _ hX9]
  have hsz2 : (Try.prog.info? 62).map (·.size) = some ([.int .i64 p.1, .int .i64 p.2] : List Value).length := infoSegment
  have h9t : (segT xs p).length ≤ 9 := by rw [segT_length hB.out]; exact hX9
  have HT9 := Lib.hid (twl_length (segT xs p) h9t)
  have HXM := Lib.hid (show (xs.length : Int) = (m : Int) by rw [hx])
  have hWs : w.heap.size + 1 < W.heap.size := hz.lt
  have HBL := Lib.hid (show b < w.heap.size + 1 by rw [World.size_alloc] at hbl; exact hbl)
  have hbW : b < W.heap.size := by rw [hW, World.size_alloc]; omega
  have HW := Lib.hid (show W = (w.alloc (.cells (twl xs).toArray 86)).alloc (.cells #[.int .i64 0, .int .i64 0, .int .i64 0, .int .i64 0, .int .i64 0, .int .i64 0, .int .i64 0, .int .i64 0, .int .i64 0] 86) by rw [hW]; rfl)
  rw [show (((j + 1 : Nat)) : Int) = (j : Int) + 1 by omega]
  clear hva hv hk hlt hp hpp hL hra hra' hs1 hW
  go_enter Try.func243, Try.ntmps243
  go_wp2_with fail
  rw [← HW.out]
  refine wp_region_held_drew (S := (fun w' => w'.rangeAt w.heap.size 0 (twl xs) ∧ w'.rangeAt b (off + j * 2) [.int .i64 p.1, .int .i64 p.2] ∧ (∃ ys : List Int, ys.length ≤ 9 ∧ Blk w' (w.heap.size + 1) 86 (twl ys)) ∧ Below w.heap.size w w' ∧ W.heap.size ≤ w'.heap.size)) (by kernel_rfl) (⟨hbx.range, hrb, ⟨[], by simp, hz.drew⟩, hb0.drew, Nat.le_refl _⟩) (fun hHeld => ?_)
  refine wpAnyH_take (i := 0) rfl (by kernel_rfl) (by kernel_rfl) (by kernel_rfl) (fun _ _ _ h => h) (yieldsIf_load_mid (by rfl) _ _ rfl _ _ rfl _ _ (fun w hw => hw.1) hut rfl hsz) (by assumption) ?_
  try simp only [List.getElem_toArray, List.getElem_cons_zero, Act.put, List.setIfInBounds_toArray, List.set_cons_zero, List.set_cons_succ]
  refine wpAnyH_take (i := 1) (v := ?_) rfl (by kernel_rfl) (by kernel_rfl) (by kernel_rfl) (fun _ _ _ h => h) (Or.inl ⟨by rfl, ?_⟩) (by assumption) ?_
  rotate_left
  · intro w _; go_simp; with_reducible rfl
  try simp only [List.getElem_toArray, List.getElem_cons_zero, List.getElem_cons_succ, Act.put, List.setIfInBounds_toArray, List.set_cons_zero, List.set_cons_succ]
  refine wpAnyH_take (i := 2) (v := ?_) rfl (by kernel_rfl) (by kernel_rfl) (by kernel_rfl) (fun _ _ _ h => h) (Or.inl ⟨by rfl, ?_⟩) (by assumption) ?_
  rotate_left
  · intro w _; go_simp; with_reducible rfl
  try simp only [List.getElem_toArray, List.getElem_cons_zero, List.getElem_cons_succ, Act.put, List.setIfInBounds_toArray, List.set_cons_zero, List.set_cons_succ]
  refine wpAnyH_take (i := 3) (v := ?_) rfl (by kernel_rfl) (by kernel_rfl) (by kernel_rfl) (fun _ _ _ h => h) (Or.inl ⟨by rfl, ?_⟩) (by assumption) ?_
  rotate_left
  · intro w _; go_simp; with_reducible rfl
  try simp only [List.getElem_toArray, List.getElem_cons_zero, List.getElem_cons_succ, Act.put, List.setIfInBounds_toArray, List.set_cons_zero, List.set_cons_succ]
  rw [HS1.out]
  refine wpAnyH_take (i := 4) (v := ?_) rfl (by kernel_rfl) (by kernel_rfl) (by kernel_rfl) (fun _ _ _ h => h) (Or.inl ⟨by rfl, ?_⟩) (by assumption) ?_
  rotate_left
  · intro w _; go_simp; with_reducible rfl
  try simp only [List.getElem_toArray, List.getElem_cons_zero, List.getElem_cons_succ, Act.put, List.setIfInBounds_toArray, List.set_cons_zero, List.set_cons_succ]
  refine wpAnyH_take (i := 5) rfl (by kernel_rfl) (by kernel_rfl) (by kernel_rfl) (fun _ _ _ h => h) (yieldsIf_load_mid (by rfl) _ _ rfl _ _ rfl _ _ (fun w hw => hw.2.1) hut2 rfl hsz2) (by assumption) ?_
  try simp only [List.getElem_toArray, List.getElem_cons_zero, List.getElem_cons_succ, Act.put, List.setIfInBounds_toArray, List.set_cons_zero, List.set_cons_succ]
  refine wpAnyH_ready (rs := [6]) (by kernel_rfl) (by simp) ?_
  refine AllReadyH.cons rfl (fun K hK => ?_) AllReadyH.nil
  go_simp
  refine (segmentTurned_any xs m p _ hX9 hB HXM).mono ?_
  rintro e w5 ⟨rfl, hb5⟩
  go_wp2_with fail
  refine hK.out _ _ (⟨range_below hHeld.1 hb5 (by have := hHeld.2.2.2.2; omega), range_below hHeld.2.1 hb5 (by have := hHeld.2.2.2.2; omega), hHeld.2.2.1.imp (fun ys h => ⟨h.1, h.2.below hb5 h.2.lt⟩), hHeld.2.2.2.1.trans (hb5.mono hHeld.2.2.2.1.size), Nat.le_trans hHeld.2.2.2.2 hb5.size⟩) (fun hHeld => ?_)
  clear hK K
  try simp only [List.getElem_toArray, List.getElem_cons_zero, List.getElem_cons_succ, Act.put, List.setIfInBounds_toArray, List.set_cons_zero, List.set_cons_succ]
  refine wpAnyH_ready (rs := [7]) (by kernel_rfl) (by simp) ?_
  refine AllReadyH.cons rfl (fun K hK => ?_) AllReadyH.nil
  refine step_of_list rfl fun Q' hQ' => ?_
  obtain ⟨ys, hys, hby⟩ := hHeld.2.2.1
  refine wpList_store_tower rfl _ _ rfl (w.heap.size + 1) ys (segT xs p) hys h9t rfl rfl hby ?_
  intro w6 hbl6 hgr6
  refine hQ' _ _ ?_
  have hB6 := hHeld.2.2.2.1.grown hgr6 hHeld.2.2.2.1.size (by intro k hk; cases hk; omega)
  refine hK.out _ _ ⟨range_grownX hHeld.1 hgr6 (by have := hHeld.2.2.2.2; omega) (by simp), range_grownX hHeld.2.1 hgr6 (by have := hHeld.2.2.2.2; omega) (by have := HBL.out; simp; omega), ⟨_, h9t, hbl6⟩, hB6, Nat.le_trans hHeld.2.2.2.2 hgr6.size⟩ (fun hHeld => ?_)
  clear hK K hQ' Q'
  try simp only [List.getElem_toArray, List.getElem_cons_zero, List.getElem_cons_succ, Act.put, List.setIfInBounds_toArray, List.set_cons_zero, List.set_cons_succ]
  refine wpAnyH_done (by kernel_rfl) ?_ _
  go_wp2
  exact bodyPost_ret (results_tower rfl _ _ (w.heap.size + 1) (segT xs p) h9t rfl hbl6) rfl ⟨rfl, hB6⟩

theorem seg_mT (ad : Option Addr) (n cap : Nat) (u : World) : Sem.run Try.prog (method 314 143 (.slice ad n cap) "loop.example/g01221/impl.turns") u = .ok (244, .slice ad n cap) u := by kernel_rfl
theorem seg_mD (ad : Option Addr) (n cap : Nat) (u : World) : Sem.run Try.prog (method 314 143 (.slice ad n cap) "loop.example/g01221/impl.turned") u = .ok (243, .slice ad n cap) u := by kernel_rfl

theorem seg_GP {m : Nat} (h1 : 1 ≤ m) (h6 : m ≤ 6) (ad : Option Addr) (cap : Nat) : GPR (sG m) 143 (.slice ad (sgN m) cap) 244 243 (fun u => OwnC c2 u (.slice ad (sgN m) cap) (segsAll m)) where
  rb := fun u u' h hb => Go.Pan.Own.same h hb
  mT := seg_mT ad _ cap
  mD := seg_mD ad _ cap
  cT := fun args u => by go_simp
  cD := fun args u => by go_simp
  turns := fun u _ => by
    rw [sks_ramp]
    exact segTurns_any ad (sgN m) cap u (by have := sgN_le h6; omega)
  turned := fun q k u hR hq hk => segTurned_any ad cap m q k u h1 (by omega) hq.2 hk hR

end Go.Proofs.Ytmlikchhkblohaa

namespace Go.Proofs.Ytmlikchhkblohaa
open Go Go.RowKit Go.Pan

theorem infoCh : (Try.prog.info? 126).map (fun i => (i.zero, i.size, i.bytes)) = some (some (.map none), 1, 8) := by kernel_rfl
theorem run_chan1 (w : World) : (Instr.makeChan 171 (.int .i64 1)).run Try.prog w = .ok (.chan (some w.heap.size)) (w.alloc (.chan 1 #[] false 0 0 false)) := by
  obtain ⟨i, hi, h0, h1, h2⟩ := info_parts infoCh
  exact Go.Conc.run_makeChan (w := w) Try.underlying171 hi .i64 1 (by omega) (by rw [h2]; omega)

theorem setChan_grown (w : World) (c cap : Nat) (buf : Array Value) (cl : Bool) (s r : Nat) (tm : Bool) : w.grownBy (w.setChan c cap buf cl s r tm) (some c) :=
  ⟨rfl, rfl, rfl, by simp [World.setChan], fun k _ hk => by
    have hne : c ≠ k := fun e => hk (by rw [e])
    simp [World.setChan, Array.getElem?_setIfInBounds, hne]⟩
theorem setChan_at (w : World) (c cap : Nat) (buf : Array Value) (cl : Bool) (s r : Nat) (tm : Bool) (h : c < w.heap.size) : (w.setChan c cap buf cl s r tm).heap[c]? = some (.chan cap buf cl s r tm) := by
  simp [World.setChan, Array.getElem?_setIfInBounds, h]

def nearN (n : Gm) (s : List Int) (a : Nat) : List LC := (List.range a).map fun i => gnearC n s i
theorem nearN_succ (n : Gm) (s : List Int) (a : Nat) : nearN n s (a + 1) = nearN n s a ++ [gnearC n s a] := by simp [nearN, List.range_succ]
theorem nearN_length (n : Gm) (s : List Int) (a : Nat) : (nearN n s a).length = a := by simp [nearN]

theorem Wv.wlen {n : Gm} {w : World} {B : Nat} {v : Value} {ms : List Nat} {cs : List LC} (h : Wv n w B v ms cs) : wlen v = ms.length := by
  rcases h.own.2 with ⟨hv, hm⟩ | ⟨g, cap, cur, rfl, _⟩
  · simp at hm; subst hm; rw [hv]; rfl
  · rfl

set_option maxRecDepth 100000 in
set_option maxHeartbeats 4000000 in
theorem segmentWave_any (m d : Nat) (t : List Int) (hasF : Nat → Bool) (w : World) (h1 : 1 ≤ m) (h6 : m ≤ 6) (ht : t.length ≤ 9)
    (hH : Hid (∀ a b u, Ly (sG m) u b (gnearC (sG m) (ramp 1 m) a) → Calls Try.prog 193 #[.map (some b), tw t] u fun e u' => e = .returned (.bool (hasF a)) ∧ Below u.heap.size u u'))
    (hd : Hid ((∀ a, a < d → hasF a = false) ∧ d ≤ gecc (sG m) (ramp 1 m) ∧ (hasF d = true ∨ d = gecc (sG m) (ramp 1 m)))) :
    Calls Try.prog 174 #[.int .i64 m, tw t] w fun e w' => ∃ g cap ms, e = .returned (.slice (some ⟨g, 0, none⟩) (d + 1) cap) ∧ Wv (sG m) w' w.heap.size (.slice (some ⟨g, 0, none⟩) (d + 1) cap) ms (gnearL (sG m) (ramp 1 m) d) ∧ Below w.heap.size w w' := by
  have hrc := run_chan1
  have hmm := @run_makeMap Try.prog
  have hn := Lib.hid (sG_ok h1 h6)
  have hs : (sG m).St (ramp 1 m) := St.ramp m h1 (by omega)
  have hkey := key_tw hn.out hs
  have HS := Lib.hid hs
  have hbx : Blk (w.alloc (.cells (twl t).toArray 86)) w.heap.size 86 (twl t) := Blk.new w _ (twl t) _ rfl
  have hb0 := below_new w (.cells (twl t).toArray 86)
  have HT := Lib.hid (twl_length t ht)
  go_enter Try.func174, Try.ntmps174
  go_wp2_with fail
  refine (segmentsFor_any m _ h1 (by omega)).mono ?_
  rintro e w1 ⟨r1, rfl, ho1, hf1, hb1⟩
  obtain ⟨a1, c1, rfl, _, _, _⟩ := ho1.shape
  rw [show (segsAll m).length = sgN m from rfl] at ho1 ⊢
  have hbx1 := hbx.below hb1 hbx.lt
  have hB1 := hb0.trans (hb1.mono hb0.size)
  have hlx := hbx1.lt
  clear hbx hb0 hb1 hf1
  go_upto_region 4 with fail
  obtain ⟨c, hc⟩ : ∃ c, w1.heap.size = c := ⟨_, rfl⟩
  have hch : ((w1.alloc (.chan 1 #[] false 0 0 false)).alloc (.map #[] 0)).heap[c]? = some (.chan 1 #[] false 0 0 false) := by
    rw [← hc]; exact (Below.heap_alloc _ _ _ (by simp)).trans (heap_alloc_new _ _)
  have hmk : ((w1.alloc (.chan 1 #[] false 0 0 false)).alloc (.map #[] 0)).ownsMap Try.prog 86 (plainElem (H := Unit) Try.prog 3) (c + 1) 0 (.map []) := by
    have := World.ownsMap_made (w1.alloc (.chan 1 #[] false 0 0 false)) Try.prog 86 (plainElem (H := Unit) Try.prog 3)
    rw [← hc]; simpa using this
  have hBc : Below c w1 ((w1.alloc (.chan 1 #[] false 0 0 false)).alloc (.map #[] 0)) := ((Below.refl c w1).alloc (by omega) _).alloc (by simp; omega) _
  have HL := Lib.hid (show Lay (sG m) ((DataW.map [] : DD).put (kl (ramp 1 m)) (.lit (.int .i64 1))) (gnearC (sG m) (ramp 1 m) 0) from by
    have h1 := (Lay.empty (sG m)).put hn.out Maps.isMap_empty hs 1 (by omega)
    exact (h1.congr (fun q _ => by unfold oneC; rfl)).congr (gnearC_zero hn.out hs))
  refine wp_at ?_
  show OpsAt _ _ _ [0, 1, 2, 3, 4, 5, 6] _ _
  rw [hc]
  refine OpsAt.value (v := .chan (some c)) rfl rfl (by go_simp; rfl) ?_
  try simp only [List.getElem_toArray, List.getElem_cons_zero, List.getElem_cons_succ, Act.put, List.setIfInBounds_toArray, List.set_cons_zero, List.set_cons_succ]
  refine OpsAt.value (v := .map (some (c + 1))) (w' := (w1.alloc (.chan 1 #[] false 0 0 false)).alloc (.map #[] 0)) rfl rfl (by go_simp) ?_
  try simp only [List.getElem_toArray, List.getElem_cons_zero, List.getElem_cons_succ, Act.put, List.setIfInBounds_toArray, List.set_cons_zero, List.set_cons_succ]
  refine OpsAt.value (v := .int .i64 m) rfl rfl (by go_simp; rfl) ?_
  try simp only [List.getElem_toArray, List.getElem_cons_zero, List.getElem_cons_succ, Act.put, List.setIfInBounds_toArray, List.set_cons_zero, List.set_cons_succ]
  refine OpsAt.call (f := 114) (args := #[.int .i64 m]) rfl rfl (by go_simp; rfl) ?_
  refine (sortedTower_any m _ (by omega)).mono ?_
  rintro e w2 ⟨rfl, hb2⟩
  refine ⟨_, rfl, ?_⟩
  try simp only [List.getElem_toArray, List.getElem_cons_zero, List.getElem_cons_succ, Act.put, List.setIfInBounds_toArray, List.set_cons_zero, List.set_cons_succ]
  have hmk2 := hmk.kept (grown_of_below hb2 none) (by simp)
  have hch2 : w2.heap[c]? = some (.chan 1 #[] false 0 0 false) := (hb2.block c (by simp; omega)).trans hch
  have hBc2 := hBc.trans (hb2.mono (by simp; omega))
  obtain ⟨w3, hrun, hown3, hgr3⟩ := hmk2.update keyd Try.underlying126 (by unfold maxLen; omega) hkey (plainElem_int (H := Unit) Try.underlying3 (show (Lit.int .i64 1).wf = true from rfl))
  clear hmk hch hBc hb2
  refine OpsAt.skip (w' := w3) rfl rfl (by simp [execOp, Act.eval, hrun, Result.andThen, Sem.run]) ?_
  try simp only [List.getElem_toArray, List.getElem_cons_zero, List.getElem_cons_succ, Act.put, List.setIfInBounds_toArray, List.set_cons_zero, List.set_cons_succ]
  have hlc2 : c < w2.heap.size := (Array.getElem?_eq_some_iff.1 hch2).1
  have hch3 : w3.heap[c]? = some (.chan 1 #[] false 0 0 false) := (hgr3.block c (Array.getElem?_eq_some_iff.1 hch2).1 (by simp)).trans hch2
  have hly3 := Ly.of hn.out hown3 HL.out
  have hBc3 := hBc2.grown hgr3 (by omega) (by intro k hk; cases hk; omega)
  have hlc3 : c < w3.heap.size := (Array.getElem?_eq_some_iff.1 hch3).1
  refine OpsAt.value (v := mv (c + 1)) rfl rfl (by go_simp; rfl) ?_
  try simp only [List.getElem_toArray, List.getElem_cons_zero, List.getElem_cons_succ, Act.put, List.setIfInBounds_toArray, List.set_cons_zero, List.set_cons_succ]
  refine OpsAt.send (c := c) (cap := 1) (s := 0) (r := 0) (buf := #[]) (z := .tuple #[]) (v := mv (c + 1)) rfl rfl (by go_simp; rfl) hch3 (by simp) ?_
  try simp only [List.getElem_toArray, List.getElem_cons_zero, List.getElem_cons_succ, Act.put, List.setIfInBounds_toArray, List.set_cons_zero, List.set_cons_succ]
  refine OpsAt.nil ?_
  try simp only [List.getElem_toArray, List.getElem_cons_zero, List.getElem_cons_succ, Act.put, List.setIfInBounds_toArray, List.set_cons_zero, List.set_cons_succ]
  have hgr4 := setChan_grown w3 c 1 (#[].push (mv (c + 1))) false (0 + 1) 0 false
  have hch4 := setChan_at w3 c 1 (#[].push (mv (c + 1))) false (0 + 1) 0 false hlc3
  obtain ⟨w4, hw4⟩ : ∃ x, w3.setChan c 1 (#[].push (mv (c + 1))) false (0 + 1) 0 false = x := ⟨_, rfl⟩
  rw [hw4] at hgr4 hch4 ⊢
  have hly4 := hly3.grown hgr4 (by simp)
  have hBc4 := hBc3.grown hgr4 (by omega) (by intro k hk; cases hk; omega)
  clear hly3 hBc3 hch3 hgr4 hw4 hlc3 hrun hown3 hgr3 hBc2 hch2 hmk2
  have HR1 := Lib.hid ho1
  have HBX := Lib.hid hbx1
  have HB1 := Lib.hid hB1
  have hw0 : Wv (sG m) w4 (c + 1) (.slice none 0 0) [] (nearN (sG m) (ramp 1 m) 0) := ⟨rfl, ⟨rfl, .inl ⟨rfl, rfl⟩⟩, fun i b c hb _ => by simp at hb, List.nodup_nil⟩
  obtain ⟨iL, hI, hI0, hI1, hI2⟩ := info_parts Try.infoLy
  have HI := Lib.hid hI
  have HI0 := Lib.hid hI0
  have HI1 := Lib.hid hI1
  have HI2 := Lib.hid hI2
  clear hI hI0 hI1 hI2 ho1 hbx1 hB1 hkey hs HL
  go_wp2
  go_loopw [6, 8, 9] (fun v _ _ wr => ∃ (a : Nat) (ms : List Nat), Wv (sG m) wr (c + 1) v ms (nearN (sG m) (ramp 1 m) a) ∧ Below c w1 wr ∧ c < wr.heap.size ∧ ((a ≤ d ∧ ∃ b sn rn, wr.heap[c]? = some (.chan 1 #[mv b] false sn rn false) ∧ Ly (sG m) wr b (gnearC (sG m) (ramp 1 m) a) ∧ c + 1 ≤ b ∧ b ∉ ms ∧ v.ownBlock ≠ some b) ∨ (a = d + 1 ∧ ∃ sn rn, wr.heap[c]? = some (.chan 1 #[] false sn rn false)))) (fun v _ _ _ => d + 3 - wlen v)
  case atStart => exact ⟨0, [], hw0, hBc4, (Array.getElem?_eq_some_iff.1 hch4).1, .inl ⟨Nat.zero_le _, c + 1, 1, 0, hch4, hly4, Nat.le_refl _, by simp, by simp [Value.ownBlock]⟩⟩
  case round =>
    obtain ⟨a, ms, hW, hBr, hlc, hcase⟩ := hrel
    clear hw0 hBc4 hch4 hly4
    rcases hcase with ⟨had, b, sn, rn, hch, hly, hcb, hbm, hvb⟩ | ⟨rfl, sn, rn, hch⟩
    · go_upto_region 6 with fail
      refine wp_at ?_
      show OpsAt _ _ _ [0, 1, 2] _ _
      refine OpsAt.selRecv (c := c) (z := .map none) rfl rfl (by go_simp; rfl) hch (by simp) ?_
      try simp only [List.getElem_toArray, List.getElem_cons_zero, List.getElem_cons_succ, Act.put, List.setIfInBounds_toArray, List.set_cons_zero, List.set_cons_succ]
      refine OpsAt.value (v := .int .i64 0) rfl rfl (by go_simp; rfl) ?_
      try simp only [List.getElem_toArray, List.getElem_cons_zero, List.getElem_cons_succ, Act.put, List.setIfInBounds_toArray, List.set_cons_zero, List.set_cons_succ]
      refine OpsAt.value (v := .bool true) rfl rfl (by go_simp; rfl) ?_
      try simp only [List.getElem_toArray, List.getElem_cons_zero, List.getElem_cons_succ, Act.put, List.setIfInBounds_toArray, List.set_cons_zero, List.set_cons_succ]
      refine OpsAt.nil ?_
      have HWL := Lib.hid hW.wlen
      have hgr5 := setChan_grown wr c 1 #[] false sn (rn + 1) false
      have hch5 := setChan_at wr c 1 #[] false sn (rn + 1) false hlc
      obtain ⟨w5, hw5⟩ : ∃ x, wr.setChan c 1 #[] false sn (rn + 1) false = x := ⟨_, rfl⟩
      rw [hw5] at hgr5 hch5 ⊢
      have hW5 := hW.grown hgr5 (fun g hg => by
        cases hg
        exact ⟨fun e => by have := (hW.low (.inl e)).2; omega, fun e => by have := (hW.low (.inr e)).2; omega⟩)
      have hly5 := hly.grown hgr5 (by simp; omega)
      have hB5 := hBr.grown hgr5 (by omega) (by intro k hk; cases hk; omega)
      have hlc5 : c < w5.heap.size := (Array.getElem?_eq_some_iff.1 hch5).1
      have hml : ms.length = a := by rw [hW.len, nearN_length]
      have hbl5 := hly5.lt
      obtain ⟨len, hlen⟩ : ∃ l, ms.length = l := ⟨_, rfl⟩
      have hla : len ≤ a := by omega
      have hE30 := gecc_le hn.out HS.out
      have hdm : (sG m).dm ≤ 1000 := hn.out.dm30
      have had9 : a ≤ 1000 := by have := hd.out.2.1; omega
      have hown5 := hW5.own
      rw [hlen] at hown5
      have HLEN := Lib.hid hlen
      clear hgr5 hw5 hW hly hBr hlc hch hlen
      go_wp2_with (at_builtin; refine wpList_append_lies _ rfl _ _ 110 rfl (c + 1) 126 iL _ 1 8 Try.underlying110 HI.out HI0.out HI1.out HI2.out rfl (by omega) u6 len (ms.map mv) rfl (hown5.alloc _) _ 1 1 [mv b] rfl (by simp) (World.news_of_block (heap_alloc_new _ _)) (by simp [Value.oneCell']) (by omega) (by unfold maxLen; omega) (by omega) (by simp; omega) (w5.heap.size + 1) (by simp) ?_)
      intro g9 cap9 w9 hown9 hgr9 hat9 hlt9
      have hwa := hW5.alloc (.cells #[mv b] 126)
      have hsz5 : w5.heap.size + 1 ≤ w9.heap.size := by have := hgr9.size; simpa using this
      have hW9 : Wv (sG m) w9 (c + 1) (.slice (some ⟨g9, 0, none⟩) (len + 1) cap9) (ms ++ [b]) (nearN (sG m) (ramp 1 m) (a + 1)) := by
        have h := Wv.app (cap := cap9) (g := g9) (w' := w9) hwa (hly5.below (below_new w5 _) (Nat.le_refl _)) hcb hbm hvb (by rw [HLEN.out]; exact hown9) hgr9 (by
          rcases hat9 with h1 | h1
          · exact .inl h1
          · right; simp; omega)
        rw [HLEN.out] at h
        rw [nearN_succ]; exact h
      have hly9 : Ly (sG m) w9 b (gnearC (sG m) (ramp 1 m) a) := (hly5.below (below_new w5 _) (Nat.le_refl _)).grown hgr9 hvb
      have hB9 := (hB5.alloc (by omega) (.cells #[mv b] 126)).grown hgr9 (by simp; omega) (by intro k hk; have := (hW5.low (.inl hk)).2; omega)
      have hch9 : w9.heap[c]? = some (.chan 1 #[] false sn (rn + 1) false) := (hgr9.block c (by simp; omega) (fun e => by have := (hW5.low (.inl e.symm)).2; omega)).trans ((Below.heap_alloc w5 _ c hlc5).trans hch5)
      have hbx9 : Blk w9 w.heap.size 86 (twl t) := HBX.out.below hB9 (by omega)
      have hlt9 : c < w9.heap.size := (Array.getElem?_eq_some_iff.1 hch9).1
      obtain rfl : len = a := by have := HLEN.out; omega
      clear hwa hown5 hW5 hly5 hB5 hch5 hgr9 hat9 hown9
      go_wp2_with (first | (refine wpList_load_tower rfl _ rfl w.heap.size t ht rfl hbx9 ?_))
      refine (hH.out len b w9 hly9).mono ?_
      rintro e w10 ⟨rfl, hb10⟩
      have hW10 := hW9.below hb10 (Nat.le_refl _)
      have hch10 : w10.heap[c]? = some (.chan 1 #[] false sn (rn + 1) false) := (hb10.block c hlt9).trans hch9
      have hB10 := hB9.trans (hb10.mono (by omega))
      have hlt10 : c < w10.heap.size := (Array.getElem?_eq_some_iff.1 hch10).1
      obtain ⟨F, hF⟩ : ∃ F, hasF len = F := ⟨_, rfl⟩
      rw [hF]
      clear hW9 hly9 hB9 hch9 hbx9 hb10
      cases F with
      | true =>
        have hae : len = d := by
          rcases Nat.lt_or_ge len d with h | h
          · rw [hd.out.1 len h] at hF; cases hF
          · omega
        subst hae
        have HW := Lib.hid (show Wv (sG m) w10 w.heap.size (.slice (some ⟨g9, 0, none⟩) (len + 1) cap9) (ms ++ [b]) (gnearL (sG m) (ramp 1 m) len) from hW10.mono (by omega))
        have hBf := HB1.out.trans (hB10.mono (by omega))
        clear hW10 hla
        go_wp2
        go_ret
        exact ⟨g9, cap9, ms ++ [b], rfl, HW.out, hBf⟩
      | false =>
        have hW10' : Wv (sG m) w10 (c + 1) (.slice (some ⟨g9, 0, none⟩) (len + 1) cap9) (ms ++ [b]) (gnearL (sG m) (ramp 1 m) len) := hW10
        have HGP : Hid (GPR (sG m) 143 (.slice a1 (sgN m) c1) 244 243 (fun u => OwnC c2 u (.slice a1 (sgN m) c1) (segsAll m))) := Lib.hid (seg_GP h1 h6 a1 c1)
        have hRR : OwnC c2 w10 (.slice a1 (sgN m) c1) (segsAll m) := HR1.out.below hB10 (by omega)
        have HRR : Hid ((fun u => OwnC c2 u (.slice a1 (sgN m) c1) (segsAll m)) w10) := Lib.hid hRR
        have hks : (sG m).ks.length ≤ 1000 := by rw [sks_length]; have := sgN_le h6; omega
        have hadm : len ≤ (sG m).dm := by have := hd.out.2.1; omega
        have cn := wnextR_any (sG m) 143 (.slice a1 (sgN m) c1) 244 243 (fun u => OwnC c2 u (.slice a1 (sgN m) c1) (segsAll m)) (c + 1) (.slice (some ⟨g9, 0, none⟩) (len + 1) cap9) (ms ++ [b]) (ramp 1 m) len w10 hn HGP HRR hks HS hW10' hadm hlt10
        clear hRR HRR HGP hks
        go_wp2_with fail
        refine cn.mono ?_
        rintro e w11 ⟨b', rfl, hly11, hb', hb11⟩
        have hW11 := hW10.below hb11 (Nat.le_refl _)
        have hch11 : w11.heap[c]? = some (.chan 1 #[] false sn (rn + 1) false) := (hb11.block c hlt10).trans hch10
        have hB11 := hB10.trans (hb11.mono (by omega))
        have hlt11 : c < w11.heap.size := (Array.getElem?_eq_some_iff.1 hch11).1
        have hbn : b' ∉ ms ++ [b] := fun h => by have := (hW10.low (.inr h)).1; omega
        have hvn : (Value.slice (some ⟨g9, 0, none⟩) (len + 1) cap9).ownBlock ≠ some b' := fun h => by have := (hW10.low (.inl h)).1; omega
        have hcb' : c + 1 ≤ b' := by omega
        have HLY := Lib.hid hly11
        obtain ⟨D, hown, hL⟩ := hly11
        have hsz := hL.size hn.out (hown.canon keyd)
        have hzp := gbyN_pos hn.out HS.out (len + 1)
        have HSZ := Lib.hid (show Maps.size D = gbyN (sG m) (ramp 1 m) (len + 1) from hsz)
        have hzb := gbyN_le (sG m) (ramp 1 m) (len + 1)
        have hfl := hn.out.total
        obtain ⟨z, hz⟩ : ∃ z, gbyN (sG m) (ramp 1 m) (len + 1) = z := ⟨_, rfl⟩
        rw [hz] at hzp HSZ hzb
        clear hz hsz hL cn hW10 hW10' hB10 hch10 hb11 hadm
        by_cases hlt : len < d
        · have hz0 : (0 : Int) < (z : Int) := by have := hzp.2 (by have := hd.out.2.1; omega); omega
          have HZ := Lib.hid hzp
          clear hzp
          go_upto_region 14 with (at_len; refine wpList_len_own _ rfl _ 126 rfl 86 3 Try.underlying126 _ b' (sG m).all.length D rfl hown ?_; rw [HSZ.out])
          refine wp_at ?_
          show OpsAt _ _ _ [0, 1, 2] _ _
          refine OpsAt.value (v := .chan (some c)) rfl rfl (by go_simp; rfl) ?_
          try simp only [List.getElem_toArray, List.getElem_cons_zero, List.getElem_cons_succ, Act.put, List.setIfInBounds_toArray, List.set_cons_zero, List.set_cons_succ]
          refine OpsAt.value (v := mv b') rfl rfl (by go_simp; rfl) ?_
          try simp only [List.getElem_toArray, List.getElem_cons_zero, List.getElem_cons_succ, Act.put, List.setIfInBounds_toArray, List.set_cons_zero, List.set_cons_succ]
          refine OpsAt.send (c := c) (cap := 1) (s := sn) (r := rn + 1) (buf := #[]) (z := .tuple #[]) (v := mv b') rfl rfl (by go_simp; rfl) hch11 (by simp) ?_
          try simp only [List.getElem_toArray, List.getElem_cons_zero, List.getElem_cons_succ, Act.put, List.setIfInBounds_toArray, List.set_cons_zero, List.set_cons_succ]
          refine OpsAt.nil ?_
          have hgr12 := setChan_grown w11 c 1 (#[].push (mv b')) false (sn + 1) (rn + 1) false
          have hch12 := setChan_at w11 c 1 (#[].push (mv b')) false (sn + 1) (rn + 1) false hlt11
          obtain ⟨w12, hw12⟩ : ∃ x, w11.setChan c 1 (#[].push (mv b')) false (sn + 1) (rn + 1) false = x := ⟨_, rfl⟩
          rw [hw12] at hgr12 hch12
          have hW12 := hW11.grown hgr12 (fun g hg => by
            cases hg
            exact ⟨fun e => by have := (hW11.low (.inl e)).2; omega, fun e => by have := (hW11.low (.inr e)).2; omega⟩)
          have hly12 := HLY.out.grown hgr12 (by simp; omega)
          have hB12 := hB11.grown hgr12 (by omega) (by intro k hk; cases hk; omega)
          have hlt12 : c < w12.heap.size := (Array.getElem?_eq_some_iff.1 hch12).1
          rw [hw12]
          clear hgr12 hw12 hW11 hB11 hch11
          go_wp2
          go_roundw
          case rel => exact ⟨len + 1, ms ++ [b], hW12, hB12, hlt12, .inl ⟨by omega, b', sn + 1, rn + 1, hch12, hly12, hcb', hbn, hvn⟩⟩
          case measure =>
            have e : wlen u6 = len := by rw [HWL.out, HLEN.out]
            show d + 3 - (len + 1) < d + 3 - wlen u6
            rw [e]; omega
        · have hz0 : (z : Int) ≤ 0 := by
            have hE : d = gecc (sG m) (ramp 1 m) := by
              rcases hd.out.2.2 with h | h
              · have e : len = d := by omega
                rw [← e, hF] at h; cases h
              · exact h
            have h1 : ¬ 0 < z := fun h => by have := hzp.1 h; omega
            omega
          have HZ := Lib.hid hzp
          have hld : len = d := by omega
          have HLD := Lib.hid hld
          clear hzp hld
          go_wp2_with (at_len; refine wpList_len_own _ rfl _ 126 rfl 86 3 Try.underlying126 _ b' (sG m).all.length D rfl hown ?_; rw [HSZ.out])
          go_roundw
          case rel => exact ⟨len + 1, ms ++ [b], hW11, hB11, hlt11, .inr ⟨by rw [HLD.out], sn, rn + 1, hch11⟩⟩
          case measure =>
            have e : wlen u6 = len := by rw [HWL.out, HLEN.out]
            show d + 3 - (len + 1) < d + 3 - wlen u6
            rw [e]; omega
    · go_upto_region 6 with fail
      refine wp_at ?_
      show OpsAt _ _ _ [0, 1, 2] _ _
      refine OpsAt.selDefault (c := c) (z := .map none) rfl rfl (by go_simp; rfl) hch ?_
      try simp only [List.getElem_toArray, List.getElem_cons_zero, List.getElem_cons_succ, Act.put, List.setIfInBounds_toArray, List.set_cons_zero, List.set_cons_succ]
      refine OpsAt.value (v := .int .i64 (-1)) rfl rfl (by go_simp; rfl) ?_
      try simp only [List.getElem_toArray, List.getElem_cons_zero, List.getElem_cons_succ, Act.put, List.setIfInBounds_toArray, List.set_cons_zero, List.set_cons_succ]
      refine OpsAt.value (v := .bool false) rfl rfl (by go_simp; rfl) ?_
      try simp only [List.getElem_toArray, List.getElem_cons_zero, List.getElem_cons_succ, Act.put, List.setIfInBounds_toArray, List.set_cons_zero, List.set_cons_succ]
      refine OpsAt.nil ?_
      have hml : ms.length = d + 1 := by rw [hW.len, nearN_length]
      obtain ⟨g, cap, rfl, hcg, hgl, hcap, _⟩ := hW.shape (by rintro rfl; simp at hml)
      rw [hml] at hW ⊢
      have HW := Lib.hid hW
      have hgc := HBX.out.lt
      clear hml hcap
      go_wp2
      go_ret
      exact ⟨g, cap, ms, rfl, (HW.out.congr (by simp [nearN, gnearL]) (fun i c c' h1 h2 => by
        have e : nearN (sG m) (ramp 1 m) (d + 1) = gnearL (sG m) (ramp 1 m) d := rfl
        rw [e] at h1; rw [h1] at h2; cases h2; exact fun q hq => rfl)).mono (by omega), HB1.out.trans (hBr.mono (by omega))⟩

end Go.Proofs.Ytmlikchhkblohaa

namespace Go.Proofs.Ytmlikchhkblohaa
open Go Go.RowKit Go.Pan

theorem isFar_any (n : Int) (w : World) :
    Calls Try.prog 129 #[.int .i64 n] w fun e w' => e = .returned (.bool (inB n 1 6)) ∧ w = w' := by
  go_enter Try.func129, Try.ntmps129
  by_cases h : 1 ≤ n
  · go_wp2
    go_ret
    exact ⟨by simp [inB, h], rfl⟩
  · have h' : n < 1 := by omega
    go_wp2
    go_ret
    exact ⟨by simp only [inB, decide_eq_false (show ¬ 1 ≤ n from by omega)]; rfl, rfl⟩

theorem has_st {m : Nat} (h1 : 1 ≤ m) (h6 : m ≤ 6) (xs : List Int) (hx : (sG m).St xs) (a b : Nat) (u : World) (hl : Ly (sG m) u b (gnearC (sG m) (ramp 1 m) a)) :
    Calls Try.prog 193 #[.map (some b), tw xs] u fun e u' => e = .returned (.bool (decide (gfar (sG m) (ramp 1 m) xs = a))) ∧ Below u.heap.size u u' := by
  have h := lhas_any (sG m) b _ xs u (Lib.hid (sG_ok h1 h6)) hl hx
  have e : decide (0 < gnearC (sG m) (ramp 1 m) a xs) = decide (gfar (sG m) (ramp 1 m) xs = a) := by
    rw [decide_eq_decide]
    exact gnearC_pos (sG_ok h1 h6) (St.ramp m h1 (by omega)) hx
  rw [e] at h
  exact h

end Go.Proofs.Ytmlikchhkblohaa

namespace Go.Proofs.Ytmlikchhkblohaa
open Go Go.RowKit Go.Pan

theorem key_nil : keyOf Try.prog 86 (tw []) = some (kl []) := by
  refine key9 ([] ++ List.replicate (9 - ([] : List Int).length) 0) (by simp) fun x hx => ?_
  have hx : x = 0 := by simpa using hx
  rw [hx]
  exact small_wf (by omega) (by omega)
theorem no_nil {m : Nat} (h1 : 1 ≤ m) (h6 : m ≤ 6) {D : DD} {c : LC} (hL : Lay (sG m) D c) : Maps.has D (kl []) = false := by
  cases h : Maps.has D (kl []) with
  | false => rfl
  | true =>
    exfalso
    obtain ⟨q, hq, e⟩ := hL.keys _ h
    have hq' : St m q := hq
    have e2 : tw [] = tw q := klaw.inj key_nil (by rw [e]; exact key_tw (sG_ok h1 h6) hq)
    simp only [tw, twl, Value.agg.injEq, Array.mk.injEq] at e2
    have hl := hq'.2
    cases q with
    | nil => simp at hl; omega
    | cons x q =>
      have hx := hq'.1.2.2.1 x (List.mem_cons_self ..)
      simp only [List.nil_append, List.length_nil, Nat.sub_zero, List.cons_append, List.map_cons, List.replicate_succ, List.cons.injEq] at e2
      have h0 := e2.1
      simp [iv] at h0
      omega

set_option maxHeartbeats 1600000 in
set_option maxRecDepth 100000 in
theorem has_nil {m : Nat} (h1 : 1 ≤ m) (h6 : m ≤ 6) (b : Nat) (c : LC) (w : World) (hl : Ly (sG m) w b c) :
    Calls Try.prog 193 #[.map (some b), tw []] w fun e w' => e = .returned (.bool false) ∧ Below w.heap.size w w' := by
  obtain ⟨D, hown, hL⟩ := hl
  have hkey := key_nil
  have h9 : ([] : List Int).length ≤ 9 := by simp
  have HH := Lib.hid (no_nil h1 h6 hL)
  have hbx : Blk (w.alloc (.cells (twl []).toArray 86)) w.heap.size 86 (twl []) := Blk.new w _ (twl []) _ rfl
  have hB0 : Below w.heap.size w (w.alloc (.cells (twl []).toArray 86)) := below_new w _
  have ho : (w.alloc (.cells (twl []).toArray 86)).ownsMap Try.prog 86 (plainElem Try.prog 3) b (sG m).all.length D := hown.alloc _
  clear hL hown
  go_enter Try.func193, Try.ntmps193
  go_wp2_with (first | (refine wpList_load_tower rfl _ rfl w.heap.size [] h9 rfl hbx ?_) | (at_lookup; refine wpList_lookup_own_ok_int _ rfl _ _ 126 rfl 86 3 .i64 keyd Try.underlying126 Try.underlying3 (zeroI _) b (sG m).all.length D rfl ho _ (kl []) rfl hkey ?_; intro c0 _ _))
  go_ret
  exact ⟨by rw [HH.out]; rfl, hB0⟩

set_option maxRecDepth 100000 in
theorem wholeSegmentWave_any (m : Nat) (w : World) (h1 : 1 ≤ m) (h6 : m ≤ 6) :
    Calls Try.prog 130 #[.int .i64 m] w fun e w' => ∃ g cap ms, e = .returned (.slice (some ⟨g, 0, none⟩) (gecc (sG m) (ramp 1 m) + 1) cap) ∧ Wv (sG m) w' w.heap.size (.slice (some ⟨g, 0, none⟩) (gecc (sG m) (ramp 1 m) + 1) cap) ms (gnearL (sG m) (ramp 1 m) (gecc (sG m) (ramp 1 m))) ∧ Below w.heap.size w w' := by
  have cw := fun u => segmentWave_any m (gecc (sG m) (ramp 1 m)) [] (fun _ => false) u h1 h6 (by simp) (Lib.hid (fun a b u hl => has_nil h1 h6 b _ u hl)) (Lib.hid ⟨fun _ _ => rfl, Nat.le_refl _, .inr rfl⟩)
  obtain ⟨E, hE⟩ : ∃ E, gecc (sG m) (ramp 1 m) = E := ⟨_, rfl⟩
  rw [hE] at cw ⊢
  clear hE
  go_enter Try.func130, Try.ntmps130
  go_wp2_with fail
  refine (cw _).mono ?_
  rintro e w1 ⟨g, cap, ms, rfl, hW, hb⟩
  have HW := Lib.hid (hW.mono (B' := w.heap.size) (by simp))
  have hB := (below_new w (.cells (twl []).toArray 86)).trans (hb.mono (by simp))
  clear hW cw
  go_wp2
  go_ret
  exact ⟨g, cap, ms, rfl, HW.out, hB⟩

set_option maxHeartbeats 4000000 in
set_option maxRecDepth 100000 in
theorem countsX_any (n : Gm) (g cap L : Nat) (ms : List Nat) (s : List Int) (w1 : World) (hn : Hid (GOk n)) (hs : Hid (n.St s)) (hL : Hid (gecc n s + 1 = L)) (hLb : L ≤ 1001)
    (hgl : g < w1.heap.size) (hcl : ∀ i b, ms[i]? = some b → w1.cell? ⟨g, i, none⟩ = some (mv b)) (hml : L ≤ ms.length) (hLy : Hid (∀ i b, i < L → ms[i]? = some b → Ly n w1 b (gnearC n s i))) :
    Calls Try.prog 126 #[.slice (some ⟨g, 0, none⟩) L cap] w1 fun e w' => ∃ r, e = .returned r ∧ OwnI w' r (gbyL n s) ∧ From w1.heap.size r ∧ Below w1.heap.size w1 w' := by
  obtain ⟨i0, hi, hz0, hz1, hz2⟩ := info_parts Try.info3
  have HI0 := Lib.hid hi
  have HZ0 := Lib.hid hz0
  have HZ1 := Lib.hid hz1
  have HZ2 := Lib.hid hz2
  have hfl := hn.out.total
  have HML := Lib.hid hml
  have HCL := Lib.hid hcl
  clear hml hcl hi hz0 hz1 hz2
  go_enter Try.func126, Try.ntmps126
  go_wp2_with (at_make; refine wpList_make_full _ rfl _ _ 22 rfl w1.heap.size 3 i0 (.int .i64 0) 1 Try.underlying22 HI0.out HZ0.out HZ1.out _ _ _ _ L rfl rfl rfl rfl ?b1 ?b2 ?b3 ?_)
  case b1 => rw [HZ2.out]; omega
  case b2 => unfold maxLen; omega
  case b3 => exact Nat.le_refl _
  intro w2 hown hgrow
  have ho0 : Hid (OwnI w2 (.slice (some ⟨w1.heap.size, 0, none⟩) L L) (gbyTo n s 0)) := Lib.hid (by
    rw [gbyTo_zero, hL.out]
    exact OwnI.of_made hown)
  have hb12 : Below w1.heap.size w1 w2 := (Below.refl _ _).grown hgrow (Nat.le_refl _) (by intro k hk; cases hk)
  clear hown hgrow
  go_wp2
  go_loopw [4, 5, 11] (fun _ _ iv' wr => ∃ i : Nat, i ≤ L ∧ iv' = .int .i64 i ∧ Hid (OwnI wr (.slice (some ⟨w1.heap.size, 0, none⟩) L L) (gbyTo n s i)) ∧ Below w1.heap.size w1 wr) (fun _ _ i _ => L - (intOf i).toNat)
  case atStart => exact ⟨0, Nat.zero_le _, rfl, ho0, hb12⟩
  case round =>
    obtain ⟨i, hi, rfl, ho, hbr⟩ := hrel
    clear ho0 hb12
    by_cases hlt : i < L
    · have hlt' : (i : Int) < L := by omega
      obtain ⟨bi, hbi⟩ : ∃ x, ms[i]? = some x := ⟨_, List.getElem?_eq_getElem (by have := HML.out; omega)⟩
      have hly := hLy.out i bi hlt hbi
      have hcell : wr.cell? ⟨g, i, none⟩ = some (mv bi) := (hbr.cell (p := ⟨g, i, none⟩) hgl).trans (HCL.out i bi hbi)
      obtain ⟨D, hown, hL'⟩ := hly.below hbr (Nat.le_refl _)
      have HSZ := Lib.hid (show Maps.size D = gbyN n s i from hL'.size hn.out (hown.canon keyd))
      obtain ⟨hd, hfd, hst⟩ := OwnI.cellAt ho.out i (by rw [gbyTo_length, hL.out]; exact hlt)
      have hst := hst (gbyN n s i : Int)
      rw [gbyTo_set (by have := hL.out; omega)] at hst
      have HST := Lib.hid hst
      have hb2 := hbr.setCell (p := ⟨w1.heap.size, i, none⟩) (Nat.le_refl _) (iv (gbyN n s i : Int))
      have hil : i < L := hlt
      clear hbi hly hL' ho hbr hst
      go_wp2_with (at_len; refine wpList_len_own _ rfl _ 126 rfl 86 3 Try.underlying126 _ bi n.all.length D rfl hown ?_; rw [HSZ.out])
      go_roundw
      case rel => exact ⟨i + 1, by omega, by go_num, HST, hb2⟩
      case measure => simp [intOf] <;> omega
    · obtain rfl : i = L := by omega
      have HE := Lib.hid (show gbyTo n s i = gbyL n s by rw [← hL.out]; exact gbyTo_all n s)
      have hge : (i : Int) ≤ i := Int.le_refl _
      go_wp2
      go_ret
      exact ⟨_, rfl, by rw [← HE.out]; exact ho.out, From.at _ _ _ _ _ (Nat.le_refl _), hbr⟩

end Go.Proofs.Ytmlikchhkblohaa

namespace Go.Proofs.Ytmlikchhkblohaa
open Go Go.RowKit Go.Pan

set_option maxHeartbeats 800000 in
set_option maxRecDepth 100000 in
theorem FarthestStacks_any (n : Int) (w : World) :
    Calls Try.prog 76 #[.int .i64 n] w fun e w' => ∃ r hs, e = .returned (.tuple #[r, .bool (inB n 1 6)]) ∧ SS w' w.heap.size w'.heap.size r hs (mFarthestStacks n) ∧ Below w.heap.size w w' := by
  have c := isFar_any n w
  cases hg : inB n 1 6 with
  | true =>
    have HM := Lib.hid (show mFarthestStacks n = worstG n.toNat from if_pos hg)
    obtain ⟨m, rfl, h1, h6⟩ := inB_six hg
    rw [Int.toNat_natCast] at HM
    rw [hg] at c
    have HC := Lib.hid (sG_ok h1 h6)
    have HH := Lib.hid (show (sG m).St (ramp 1 m) from St.ramp m h1 (by omega))
    have HMW := Lib.hid (fun q => mem_worstG h1 h6 (q := q))
    have HLM := Lib.hid (show (sG m).len = m from rfl)
    have hle := gecc_le HC.out HH.out
    have hdm : (sG m).dm = m - 1 := rfl
    have c1 := wholeSegmentWave_any m w h1 h6
    have HNE := Lib.hid (show ∃ q, (sG m).St q ∧ 0 < gnearC (sG m) (ramp 1 m) (gecc (sG m) (ramp 1 m)) q by
      obtain ⟨q, h1, h2⟩ := gecc_at HC.out HH.out
      exact ⟨q, h1, (gnearC_pos HC.out HH.out h1).2 h2⟩)
    obtain ⟨E, hE⟩ : ∃ E, gecc (sG m) (ramp 1 m) = E := ⟨_, rfl⟩
    rw [hE] at hle c1 HMW HNE
    have hEb : E ≤ 1048576 := by omega
    clear hg hE hdm
    go_enter Try.func76, Try.ntmps76
    go_wp2_with fail
    refine c.mono ?_
    rintro e w0 ⟨rfl, rfl⟩
    clear c
    go_wp2_with fail
    refine c1.mono ?_
    rintro e w1 ⟨g, cap, ms, rfl, hW, hb1⟩
    clear c1
    have hml : ms.length = E + 1 := by rw [hW.len, gnearL_length]
    have hne : ms ≠ [] := by rintro rfl; simp at hml
    obtain ⟨gg, cc, hsh, _, hgl, hcap, hcl⟩ := hW.shape hne
    simp only [Value.slice.injEq, Option.some.injEq, Addr.mk.injEq, and_true] at hsh
    obtain ⟨rfl, hxx, rfl⟩ := hsh
    clear hxx
    obtain ⟨b, hb⟩ : ∃ b, ms[E]? = some b := ⟨_, List.getElem?_eq_getElem (by omega)⟩
    have hcb := hcl E b hb
    have hly := (hW.lay E b _ hb (gnearL_get (sG m) (ramp 1 m) E E (by omega))).1
    have c2 := wlastAt_any g E cap b w1 hEb hcb
    clear hml hne hcl hb hW hcap hcb
    go_wp2_with fail
    refine c2.mono ?_
    rintro e w2 ⟨rfl, rfl⟩
    clear c2
    have c3 := stacks_any (sG m) b _ m w1 HC hly HNE.out HLM (by omega)
    go_wp2_with fail
    refine c3.mono ?_
    rintro e w3 ⟨r, hs, L, rfl, hS, hP, hmem, hb3⟩
    clear c3
    have HL := Lib.hid (show L = worstG m from sorted_eq hP (worstG_sorted m) (fun q => by rw [hmem q, HMW.out q]))
    have HS := Lib.hid (show SS w3 w.heap.size w3.heap.size r hs (mFarthestStacks (m : Int)) by rw [HM.out, ← HL.out]; exact hS.mono hb1.size (Nat.le_refl _))
    have hB := hb1.trans (hb3.mono hb1.size)
    clear hP hmem hS
    go_wp2
    go_ret2
    exact ⟨_, _, rfl, HS.out, hB⟩
  | false =>
    have HM := Lib.hid (show mFarthestStacks n = [] from if_neg (by rw [hg]; exact Bool.false_ne_true))
    rw [hg] at c
    clear hg
    go_enter Try.func76, Try.ntmps76
    go_wp2_with fail
    refine c.mono ?_
    rintro e w0 ⟨rfl, rfl⟩
    clear c
    go_wp2
    go_ret2
    exact ⟨_, [], rfl, by rw [HM.out]; exact SS.nil _ _ _, Below.refl _ _⟩

end Go.Proofs.Ytmlikchhkblohaa
