/- What a marking leaves of Booleans that lie elsewhere (no claim of its own). Conditions: as each theorem states. -/
import Derived.Test.YtbebdhjhlheboaaBolF
import Derived.Test.YtbebdhjhlheboaaMrkP
namespace Go.Proofs.Ytbebdhjhlheboaa
open Go.ChangeShapes Go.WideShapes Go.ChangeAt Go.RowKit

section
variable {w w' : World} {lo hi lo' hi' n G : Nat} {T : TypeId} {A : Option Addr} {v : Nat → Bool} {ns : Nat → Nat}
theorem FB2.onlyR (h : FB2 w lo hi T A n v) (ho : OnlyR lo' hi' w w') (hd : hi ≤ lo' ∨ hi' ≤ lo) : FB2 w' lo hi T A n v := by
  rcases h with h | ⟨G, e, hG, hG', h⟩
  · exact .inl h
  · exact .inr ⟨G, e, hG, hG', h.at_ (ho.block G h.lt (by omega))⟩
theorem onlyR_bools (h : FB2 w lo hi T A n v) (ho : Only w w' A n) : OnlyR lo hi w w' :=
  ⟨ho.os, ho.tape, ho.output, ho.size, fun k hk hr => ho.block k hk (by
    rcases h with e | ⟨G, e, h1, h2, _⟩
    · exact .inl e
    · exact .inr fun a ha hh => by
        rw [e] at ha
        cases ha
        have : k = G := hh
        omega)⟩
theorem HdP.below (h : HdP w lo hi G n ns) (hb : Below w.heap.size w w') : HdP w' lo hi G n ns := h.keep (hb.block G h.room.lt) (bl_shp hb)
end
end Go.Proofs.Ytbebdhjhlheboaa
