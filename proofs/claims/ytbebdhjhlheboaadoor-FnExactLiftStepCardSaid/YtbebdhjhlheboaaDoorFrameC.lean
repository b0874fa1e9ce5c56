/- How slices of ints among the arguments of the exact laws are opened (no claim of its own). Conditions: as each theorem states. -/
import Derived.Test.YtbebdhjhlheboaaDoorIntA
import Derived.Deep.Slices
import Derived.Carry
import Derived.ProofKit
namespace Go.Proofs.YtbebdhjhlheboaaDoor
open Go.ChangeShapes Go.WideShapes Go.ChangeAt Go.RowKit
open Go.Deep

section
variable {H : Type} {enc : TypeId × Value → H} {W : World} {spare : Nat → Bool} {held : Bool}
theorem open_intS {fuel : Nat} {u : Value} {x : DataW H × List MemPlace} (h : DataW.trod enc Tryd.prog W 0 spare held fuel 27 [u] = some x) (hs : ∀ b, spare b = true) :
    ∃ (A : Option Addr) (n cap : Nat) (v : Nat → Int), u = .slice A n cap ∧ n ≤ maxLen ∧ RdI W W.heap.size A n v := by
  rcases open_slice1 Tryd.underlying27 (by kernel_rfl) h with ⟨hcs, _⟩ | ⟨a, len, cap, m, fu, V, D, Pl, hcs, _, hl, hm, hmm, _, hi⟩
  · simp at hcs
    exact ⟨none, 0, 0, fun _ => 0, hcs, by unfold maxLen; omega, fun h => absurd h (by omega)⟩
  · simp at hcs
    rw [hs, if_pos rfl] at hmm
    refine ⟨some a, len, cap, fun i => intOf (V i), hcs, Nat.le_trans hl hm, fun hp => ?_⟩
    obtain ⟨b, off, spot⟩ := a
    have h0 := hi 0 (by omega)
    have hspot : spot = none := by simpa [Addr.add] using World.cell?_spot h0.1
    subst hspot
    refine ⟨b, off, rfl, ?_, fun i hin => ?_⟩
    · exact World.block_lt_of_cell? W _ (by simpa [Addr.add] using h0.1)
    · obtain ⟨g0, t0⟩ := hi i (by omega)
      obtain ⟨x0, e0, _, _⟩ := DataW.trod_int Tryd.underlying3 t0
      simp at e0
      rw [Go.WideShapes.add_plain] at g0
      refine g0.trans ?_
      show some (V i) = some (.int .i64 (intOf (V i)))
      rw [e0]
      rfl
end
end Go.Proofs.YtbebdhjhlheboaaDoor
