import Derived.Test.YtmlikchhkblohaaV6
import Derived.Test.YtmlikchhkblohaaQ3
namespace Go.Proofs.Ytmlikchhkblohaa
open Go Go.RowKit Go.Pan

theorem ClipS_any (v : Value) (l : List (Int × Int)) (w : World) (hv : OwnC c2 w v l) :
    Calls Try.prog 116 #[v] w fun e w' => ∃ r, e = .returned r ∧ OwnC c2 w r l ∧ r.ownBlock = v.ownBlock ∧ w = w' := by
  obtain ⟨ad, cap, rfl, hc, hm, hnil⟩ := hv.shape
  go_enter Try.func116, Try.ntmps116
  go_wp2
  go_ret
  exact ⟨.slice ad l.length l.length, rfl, Own.clipN hv, by cases ad <;> rfl, rfl⟩

end Go.Proofs.Ytmlikchhkblohaa

