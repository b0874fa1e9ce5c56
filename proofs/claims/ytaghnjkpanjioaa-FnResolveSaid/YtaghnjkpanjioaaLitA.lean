/- Contracts of both LiteralAxiom functions (no claim of its own). Conditions: as each theorem states. -/
import Derived.Test.YtaghnjkpanjioaaInfA
import Derived.Shelf.Abstract
namespace Go.Proofs.Ytaghnjkpanjioaa
open Go.ChangeShapes Go.WideShapes Go.ChangeAt Go.RowKit Go.Shelf

def one1 (_ : Nat) : Int := 1
theorem own_one {w : World} {G : Nat} {n : Int} (h : w.heap[G]? = some (.cells #[.int .i64 1, .int .i64 n] 38 (0, 0))) : OwnU w G 1 1 one1 (fun _ => n) :=
  ⟨_, h, by simp, fun i hi => by
    obtain rfl : i = 0 := by omega
    exact ⟨rfl, rfl⟩⟩
theorem alloc_two (w : World) (o o' : Obj) : ((w.alloc o).alloc o').heap[w.heap.size + 1]? = some o' := by
  have h := heap_alloc_new (w.alloc o) o'
  rwa [show (w.alloc o).heap.size = w.heap.size + 1 from by simp] at h
def litN (n : Int) : Nat := if litB n then 1 else 0

set_option maxRecDepth 100000 in
set_option maxHeartbeats 800000 in
theorem specLit_any (n : Int) (w : World) :
    Calls Try.prog 98 #[.int .i64 n] w (CRes w (litN n) one1 (fun _ => n) 0 (litB n)) := by
  cases hl : litB n with
  | false =>
    have hN : litN n = 0 := by unfold litN; rw [hl]; rfl
    rw [hN]
    have Hl := Lib.hid hl
    clear hl hN
    go_enter Try.func98, Try.ntmps98
    go_wp2_with (go_at_call 53; refine (l1Lit_any _ _).mono ?_; rintro e w' ⟨rfl, rfl⟩; rw [Hl.out])
    refine bodyPost_ret (v := .tuple #[.agg #[.slice none 0 0, .int .i64 0], .bool false]) (by simp [results, Try.results98, go_sem]) rfl ?_
    exact ⟨none, 0, rfl, .inl rfl, by repeat (first | exact Below.refl _ _ | refine bl_alloc ?_ _ | refine Below.drew ?_ | refine Below.setCell ?_ (by simp) _)⟩
  | true =>
    have hN : litN n = 1 := by unfold litN; rw [hl]; rfl
    rw [hN]
    have Hl := Lib.hid hl
    clear hl hN
    go_enter Try.func98, Try.ntmps98
    go_wp2_with (go_at_call 53; refine (l1Lit_any _ _).mono ?_; rintro e w' ⟨rfl, rfl⟩; rw [Hl.out])
    refine bodyPost_ret (v := .tuple #[.agg #[.slice (some ⟨w.heap.size + 1, 0, none⟩) 1 1, .int .i64 0], .bool true]) (by simp [results, Try.results98, go_sem]) rfl ?_
    exact ⟨_, 1, rfl, .inr ⟨w.heap.size + 1, rfl, by omega, own_one (alloc_two _ _ _)⟩, by repeat (first | exact Below.refl _ _ | refine bl_alloc ?_ _ | refine Below.drew ?_ | refine Below.setCell ?_ (by simp) _)⟩

end Go.Proofs.Ytaghnjkpanjioaa
