/- How slices of steps among the arguments of the exact laws are opened (no claim of its own). Conditions: as each theorem states. -/
import Derived.Test.YtbebdhjhlheboaaDoorFrameP
import Derived.Test.YtbebdhjhlheboaaDoorStpA
import Derived.Deep.Slices
import Derived.ChangeSame
namespace Go.Proofs.YtbebdhjhlheboaaDoor
open Go.ChangeShapes Go.WideShapes Go.ChangeAt Go.RowKit
open Go.Joins Go.Deep

section
variable {H : Type} {enc : TypeId × Value → H} {W : World} {spare : Nat → Bool} {held : Bool}

/-- What the five cells of a step say. -/
def StAt (W : World) (V : Nat → Value) (q : Stp) : Prop :=
  ∃ A ci, V 0 = .int .i64 q.k ∧ V 1 = .int .i64 q.a ∧ V 2 = .int .i64 q.b ∧ V 3 = .slice A q.c.n ci ∧ V 4 = .int .i64 q.c.bd ∧ Rd W W.heap.size A q.c.n q.c.c q.c.l

set_option maxRecDepth 100000 in
theorem st_of {fuel : Nat} {cs : List Value} {x : DataW H × List MemPlace} (hlen : cs.length = 5) (h : DataW.trod enc Tryd.prog W 0 spare held fuel 26 cs = some x) (hs : ∀ b, spare b = true) :
    ∃ q : Stp, q.c.n ≤ maxLen ∧ StAt W (fun j => cs.getD j (.int .i64 0)) q := by
  obtain ⟨xs, k, hk, hxy, _, hxl, hf⟩ := DataW.trod_struct Tryd.underlying26 h
  have k1 : Tryd.prog.cellsOf 3 = 1 := by kernel_rfl
  have k2 : Tryd.prog.cellsOf 24 = 2 := by kernel_rfl
  have k3 : Tryd.prog.cellsOf 22 = 1 := by kernel_rfl
  match xs, hxl, cs, hlen with
  | [y0, y1, y2, y3], _, [v0, v1, v2, v3, v4], _ =>
    have g0 := hf 0 _ rfl
    have g1 := hf 1 _ rfl
    have g2 := hf 2 _ rfl
    have g3 := hf 3 _ rfl
    simp [k1, k2] at g0 g1 g2 g3
    obtain ⟨x0, e0, _, _⟩ := DataW.trod_int Tryd.underlying3 g0
    obtain ⟨x1, e1, _, _⟩ := DataW.trod_int Tryd.underlying3 g1
    obtain ⟨x2, e2, _, _⟩ := DataW.trod_int Tryd.underlying3 g2
    obtain ⟨z0, z1, m, _, _, f0, f1⟩ := trod_struct2 Tryd.underlying24 g3
    simp [k1, k3] at f0 f1
    obtain ⟨c, A, ci, e3, e4, hn, hr⟩ := con_of f0 f1 hs
    simp at e0 e1 e2
    exact ⟨⟨x0, x1, x2, c⟩, hn, A, ci, e0, e1, e2, e3, e4, hr⟩

end
end Go.Proofs.YtbebdhjhlheboaaDoor
