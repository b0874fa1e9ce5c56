/- What the walks of the laws over models with a slice and a Boolean as answer share (no claim of its own). Conditions: as each theorem states. -/
import Derived.Test.YtafiikfaeomhpaaLwmA
import Derived.Test.YtafiikfaeomhpaaMrkM
import Derived.Test.YtafiikfaeomhpaaBolF
namespace Go.Proofs.Ytafiikfaeomhpaa
open Go.ChangeShapes Go.WideShapes Go.ChangeAt Go.RowKit

/-- What a function that answers a slice of ints, or of Booleans, and a Boolean leaves: the slice lies in new memory. -/
def SResI (w : World) (n : Nat) (v : Nat → Int) (ok : Bool) (e : Ending) (w' : World) : Prop := ∃ A cap, e = .returned (.tuple #[.slice A n cap, .bool ok]) ∧ FrI w' w.heap.size 3 A n v ∧ Below w.heap.size w w'
def SResB (w : World) (n : Nat) (v : Nat → Bool) (ok : Bool) (e : Ending) (w' : World) : Prop := ∃ A cap, e = .returned (.tuple #[.slice A n cap, .bool ok]) ∧ FrB w' w.heap.size 4 A n v ∧ Below w.heap.size w w'
theorem bl_ints {w w' : World} (hb : Below w.heap.size w w') : IntOnly w w' := fun j ds T fr hj _ => hb.block j (by
  rcases Nat.lt_or_ge j w.heap.size with hlt | hge
  · exact hlt
  · rw [Array.getElem?_eq_none hge] at hj; cases hj)
theorem HdR.below {w w' : World} {lo hi G n : Nat} {q : Nat → Rul} (h : HdR w lo hi G n q) (hb : Below w.heap.size w w') : HdR w' lo hi G n q := h.ints (bl_ints hb) (bl_shp hb)
theorem FB2.onlyR {w w' : World} {lo hi lo' hi' n : Nat} {T : TypeId} {A : Option Addr} {v : Nat → Bool} (h : FB2 w lo hi T A n v) (ho : OnlyR lo' hi' w w') (hd : hi ≤ lo' ∨ hi' ≤ lo) : FB2 w' lo hi T A n v := by
  rcases h with h | ⟨G, e, hG, hG', h⟩
  · exact .inl h
  · exact .inr ⟨G, e, hG, hG', h.at_ (ho.block G h.lt (by omega))⟩
end Go.Proofs.Ytafiikfaeomhpaa
