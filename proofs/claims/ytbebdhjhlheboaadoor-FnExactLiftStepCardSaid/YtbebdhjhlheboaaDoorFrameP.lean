/- How slices of constraints among the arguments of the exact laws are opened (no claim of its own). Conditions: as each theorem states. -/
import Derived.Test.YtbebdhjhlheboaaDoorProA
import Derived.Test.YtbebdhjhlheboaaDoorFrameA
namespace Go.Proofs.YtbebdhjhlheboaaDoor
open Go.ChangeShapes Go.WideShapes Go.ChangeAt Go.RowKit
open Go.Joins Go.Deep

section
variable {H : Type} {enc : TypeId × Value → H} {W : World} {spare : Nat → Bool} {held : Bool}

theorem con_of {fuel : Nat} {V0 V1 : Value} {x0 x1 : DataW H × List MemPlace} (h0 : DataW.trod enc Tryd.prog W 0 spare held fuel 22 [V0] = some x0) (h1 : DataW.trod enc Tryd.prog W 0 spare held fuel 3 [V1] = some x1) (hs : ∀ b, spare b = true) :
    ∃ (q : Con) (A : Option Addr) (cap : Nat), V0 = .slice A q.n cap ∧ V1 = .int .i64 q.bd ∧ q.n ≤ maxLen ∧ Rd W W.heap.size A q.n q.c q.l := by
  obtain ⟨A, n, cap, c, l, e, hn, hr⟩ := open_termS h0 hs
  obtain ⟨y, e1, _, _⟩ := DataW.trod_int Tryd.underlying3 h1
  simp at e1
  exact ⟨⟨n, y, c, l⟩, A, cap, e, e1, hn, hr⟩

end
end Go.Proofs.YtbebdhjhlheboaaDoor
