/- How a step among the arguments of the exact laws is opened (no claim of its own). Conditions: as each theorem states. -/
import Derived.Test.YtbebdhjhlheboaaDoorFrameT
import Derived.Test.YtbebdhjhlheboaaDoorFrameC
namespace Go.Proofs.YtbebdhjhlheboaaDoor
open Go.ChangeShapes Go.WideShapes Go.ChangeAt Go.RowKit
open Go.Joins Go.Deep

section
variable {H : Type} {enc : TypeId × Value → H} {W : World} {spare : Nat → Bool} {held : Bool}

set_option maxRecDepth 100000 in
theorem open_step {r : Reach} {b0 : Nat} {v : Value} {d : DataW H} {p : List MemPlace} (hv : Value.okWide Tryd.prog W r b0 26 v)
    (h : DataW.Trod enc Tryd.prog W 0 spare held 26 v d p) (hs : ∀ b, spare b = true) :
    ∃ (A : Option Addr) (n cap : Nat) (k a b bd : Int) (c l : Nat → Int), v = .agg #[.int .i64 k, .int .i64 a, .int .i64 b, .slice A n cap, .int .i64 bd] ∧ n ≤ maxLen ∧ Rd W W.heap.size A n c l := by
  obtain ⟨cs, rfl, hsz⟩ := okWide_struct Tryd.underlying26 hv
  have hC : cs.size = 5 := hsz.trans (by kernel_rfl)
  obtain ⟨fuel, hf⟩ := h
  have hf' : DataW.trod enc Tryd.prog W 0 spare held fuel 26 cs.toList = some (d, p) := hf
  obtain ⟨q, hn, A, ci, e0, e1, e2, e3, e4, hr⟩ := st_of (by simpa using hC) hf' hs
  obtain ⟨L⟩ := cs
  match L, hC, e0, e1, e2, e3, e4 with
  | [v0, v1, v2, v3, v4], _, e0, e1, e2, e3, e4 =>
    simp at e0 e1 e2 e3 e4
    subst e0 e1 e2 e3 e4
    exact ⟨A, q.c.n, ci, q.k, q.a, q.b, q.c.bd, q.c.c, q.c.l, rfl, hn, hr⟩
end
end Go.Proofs.YtbebdhjhlheboaaDoor
