/- Contracts of both LiteralAxiom functions (no claim of its own). Conditions: as each theorem states. -/
import Derived.Test.YtjfcgehmeecnfaaInfA
import Derived.Shelf.Abstract
namespace Go.Proofs.Ytjfcgehmeecnfaa
open Go.ChangeShapes Go.WideShapes Go.ChangeAt Go.RowKit Go.Shelf

def one1 (_ : Nat) : Int := 1
theorem own_one {w : World} {G : Nat} {n : Int} (h : w.heap[G]? = some (.cells #[.int .i64 1, .int .i64 n] 91 (0, 0))) : OwnU w G 1 1 one1 (fun _ => n) :=
  ⟨_, h, by simp, fun i hi => by
    obtain rfl : i = 0 := by omega
    exact ⟨rfl, rfl⟩⟩
theorem alloc_two (w : World) (o o' : Obj) : ((w.alloc o).alloc o').heap[w.heap.size + 1]? = some o' := by
  have h := heap_alloc_new (w.alloc o) o'
  rwa [show (w.alloc o).heap.size = w.heap.size + 1 from by simp] at h
def litN (n : Int) : Nat := if litB n then 1 else 0

end Go.Proofs.Ytjfcgehmeecnfaa
