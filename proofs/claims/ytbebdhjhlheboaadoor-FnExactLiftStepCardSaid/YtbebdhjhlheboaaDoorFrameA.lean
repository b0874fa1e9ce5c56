/- How the arguments of the exact laws of constraints are opened (no claim of its own). Conditions: as each theorem states. -/
import Derived.Test.YtbebdhjhlheboaaDoorBaseB
import Derived.Deep.SlicePairs
import Derived.Lib.SmallJoins
import Derived.Carry
namespace Go.Proofs.YtbebdhjhlheboaaDoor
open Go.ChangeShapes Go.WideShapes Go.ChangeAt Go.RowKit
open Go.Joins Go.Deep

theorem frame_own : ownKnob Tryd.prog.godebug = none := by kernel_rfl
theorem frame_laidOut : laidOutB Tryd.prog = true := by kernel_rfl

section
variable {H : Type} {enc : TypeId × Value → H} {W : World} {spare : Nat → Bool} {held : Bool}

theorem open_termS {fuel : Nat} {v : Value} {x : DataW H × List MemPlace} (h : DataW.trod enc Tryd.prog W 0 spare held fuel 22 [v] = some x) (hs : ∀ b, spare b = true) :
    ∃ (A : Option Addr) (n cap : Nat) (c l : Nat → Int), v = .slice A n cap ∧ n ≤ maxLen ∧ Rd W W.heap.size A n c l := by
  rcases open_slice_pairs Tryd.underlying22 Tryd.underlying104 (by kernel_rfl) (by kernel_rfl) (by kernel_rfl) (by kernel_rfl) (by kernel_rfl) h with ⟨hcs, _⟩ | ⟨a, len, cap, m, fu, V0, V1, D0, D1, P0, P1, hcs, _, hl, hm, hmm, _, hi⟩
  · simp at hcs
    exact ⟨none, 0, 0, fun _ => 0, fun _ => 0, hcs, by unfold maxLen; omega, fun h => absurd h (by omega)⟩
  · simp at hcs
    rw [hs, if_pos rfl] at hmm
    refine ⟨some a, len, cap, fun i => intOf (V0 i), fun i => intOf (V1 i), hcs, Nat.le_trans hl hm, fun hp => ?_⟩
    obtain ⟨b, off, spot⟩ := a
    have h0 := hi 0 (by omega)
    have hspot : spot = none := by simpa [Addr.add] using World.cell?_spot h0.1
    subst hspot
    refine ⟨b, off, rfl, ?_, fun i hin => ?_⟩
    · exact World.block_lt_of_cell? W _ (by simpa [Addr.add] using h0.1)
    · obtain ⟨g0, g1, t0, t1⟩ := hi i (by omega)
      obtain ⟨x0, e0, _, _⟩ := DataW.trod_int Tryd.underlying3 t0
      obtain ⟨x1, e1, _, _⟩ := DataW.trod_int Tryd.underlying3 t1
      simp at e0 e1
      rw [Go.WideShapes.add_plain] at g0 g1
      refine ⟨g0.trans ?_, g1.trans ?_⟩
      · show some (V0 i) = some (.int .i64 (intOf (V0 i)))
        rw [e0]
        rfl
      · show some (V1 i) = some (.int .i64 (intOf (V1 i)))
        rw [e1]
        rfl

set_option maxRecDepth 100000 in
theorem open_constraint {r : Reach} {b0 : Nat} {v : Value} {d : DataW H} {p : List MemPlace} (hv : Value.okWide Tryd.prog W r b0 24 v)
    (h : DataW.Trod enc Tryd.prog W 0 spare held 24 v d p) (hs : ∀ b, spare b = true) :
    ∃ (A : Option Addr) (n cap : Nat) (bd : Int) (c l : Nat → Int), v = .agg #[.slice A n cap, .int .i64 bd] ∧ n ≤ maxLen ∧ Rd W W.heap.size A n c l := by
  obtain ⟨v0, v1, y0, y1, m, rfl, _, _, t0, t1⟩ := open_agg2 Tryd.underlying24 (by kernel_rfl) (by kernel_rfl) hv h
  obtain ⟨A, n, cap, c, l, rfl, hn, hr⟩ := open_termS t0 hs
  obtain ⟨x1, e1, _, _⟩ := DataW.trod_int Tryd.underlying3 t1
  simp at e1
  subst e1
  exact ⟨A, n, cap, x1, c, l, rfl, hn, hr⟩
end
end Go.Proofs.YtbebdhjhlheboaaDoor
