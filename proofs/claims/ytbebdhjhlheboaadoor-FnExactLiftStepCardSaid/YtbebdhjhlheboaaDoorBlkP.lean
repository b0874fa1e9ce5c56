/- Contracts of the program's rows of literals (no claim of its own). Conditions: as each theorem states. -/
import Derived.Test.YtbebdhjhlheboaaDoorBlkM
import Derived.Test.YtbebdhjhlheboaaDoorBoolA
namespace Go.Proofs.YtbebdhjhlheboaaDoor
open Go.ChangeShapes Go.WideShapes Go.ChangeAt Go.RowKit

theorem Tryd.infoLitB : (Tryd.prog.info? 74).map (fun i => (i.zero, i.size, i.bytes)) = some (some (.int .i64 0), 1, 8) := by kernel_rfl

/-- A row of ints of the call's own, read. -/
theorem rdI_row {w : World} {B n : Nat} {T : TypeId} {u : Value} {f : Nat → Int} (h : w.ownsRow B T 1 u n ((vlst f n).map (Value.int .i64))) : ∃ A cap, u = .slice A n cap ∧ RdI w w.heap.size A n f := by
  have hlt := h.lt
  rcases h.2 with ⟨rfl, hz⟩ | ⟨g, cap, cur, rfl, hg, hh, hnc, _, hsz, htk⟩
  · have : n = 0 := hz
    exact ⟨none, 0, by rw [this], fun h => absurd h (by omega)⟩
  · refine ⟨_, cap, rfl, fun _ => ⟨g, 0, rfl, (hlt g rfl).2, fun i hi => ?_⟩⟩
    have hx : ((vlst f n).map (Value.int .i64))[i]? = some (.int .i64 (f i)) := by
      rw [List.getElem?_map, vlst_get f hi]
      rfl
    rw [← htk, List.getElem?_take_of_lt (by omega)] at hx
    rw [Nat.zero_add]
    exact (cell_of_row w g _ cur _ _ hh).trans (by simpa using hx)

end Go.Proofs.YtbebdhjhlheboaaDoor
