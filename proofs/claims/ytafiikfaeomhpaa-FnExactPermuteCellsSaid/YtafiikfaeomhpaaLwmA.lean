/- What the walks of the laws over models share (no claim of its own). Conditions: as each theorem states. -/
import Derived.Test.YtafiikfaeomhpaaMdlE
import Derived.Test.YtafiikfaeomhpaaIntA
namespace Go.Proofs.Ytafiikfaeomhpaa
open Go.ChangeShapes Go.WideShapes Go.ChangeAt Go.RowKit

theorem fit_all {n : Nat} {q : Nat → Rul} {m : Nat} (h : totR q n ≤ m) : ∀ i, i < n → (q i).fit m := fun i hi => Rul.fit_of (by have := totR_at q hi; omega)
end Go.Proofs.Ytafiikfaeomhpaa
