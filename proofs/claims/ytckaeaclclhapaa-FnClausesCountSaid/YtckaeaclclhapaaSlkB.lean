/- Contracts of the program's SlackOf (no claim of its own). Conditions: as each theorem states. -/
import Derived.Test.YtckaeaclclhapaaNotF
import Derived.Test.YtckaeaclclhapaaSumQ
import Derived.Deep.RegionHeld3
import Derived.Laws.Cover3
import Derived.Deep.MidRow
namespace Go.Proofs.Ytckaeaclclhapaa
open Go.ChangeShapes Go.WideShapes Go.ChangeAt Go.RowKit Go.Shelf

/-- Twelve values, as a list of cells. -/
def cl12 (v : Nat → Int) : List Value := [.int .i64 (v 0), .int .i64 (v 1), .int .i64 (v 2), .int .i64 (v 3), .int .i64 (v 4), .int .i64 (v 5), .int .i64 (v 6), .int .i64 (v 7), .int .i64 (v 8), .int .i64 (v 9), .int .i64 (v 10), .int .i64 (v 11)]
theorem cl12_at (v : Nat → Int) (j : Nat) (x : Value) (h : (cl12 v)[j]? = some x) : j < 12 ∧ x = .int .i64 (v j) := by
  have hj : j < 12 := (List.getElem?_eq_some_iff.1 h).1
  refine ⟨hj, ?_⟩
  have h2 := cells12_at v hj
  rw [show (cells12 v)[j]? = (cl12 v)[j]? from by rw [show cells12 v = (cl12 v).toArray from rfl, List.getElem?_toArray], h] at h2
  exact Option.some.inj h2
theorem range12 {w : World} {b off : Nat} {v : Nat → Int} (h : ∀ i, i < 12 → w.cell? ⟨b, off + i, none⟩ = some (.int .i64 (v i))) : w.rangeAt b off (cl12 v) := fun j x hx => by
  obtain ⟨hj, rfl⟩ := cl12_at v j x hx
  exact h j hj
theorem range_kc {W w1 : World} (hb : Below W.heap.size W w1) {b o : Nat} {cs : List Value} (h : W.rangeAt b o cs) : w1.rangeAt b o cs := fun j v hv => kc hb (h j v hv)

end Go.Proofs.Ytckaeaclclhapaa
