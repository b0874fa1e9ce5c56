/- The draws of the arguments (no claim of its own). Conditions: as each theorem states. -/
import Derived.Test.YtbebdhjhlheboaaDrwJ
namespace Go.Proofs.Ytbebdhjhlheboaa
open Go.ChangeShapes Go.WideShapes Go.ChangeAt Go.RowKit

theorem fri_set {w : World} {lo n : Nat} {T : TypeId} {A : Option Addr} {v : Nat → Int} (h : FrI w lo T A n v) {p : Addr} (hp : p.block < lo) (u : Value) : FrI (w.setCell p u) lo T A n v := by
  rcases h with h | ⟨G, e, hG, h⟩
  · exact .inl h
  · exact .inr ⟨G, e, hG, h.at_ (Below.heap_setCell w p u G (by omega))⟩
theorem gr_bel {w w1 w5 : World} {R : Nat} (hb : Below w.heap.size w w1) (hg : Gr R w1 w5) (hR : w.heap.size ≤ R) : Below w.heap.size w w5 :=
  ⟨hg.os.trans hb.os, hg.tape.trans hb.tape, hg.output.trans hb.output, Nat.le_trans hb.size hg.size, fun k hk => (hg.block k (Nat.lt_of_lt_of_le hk hb.size) (by intro e; cases e; omega)).trans (hb.block k hk)⟩
/-- What the draw of a constraint and a partial assignment leaves. -/
def DSl (w : World) (e : Ending) (w' : World) : Prop := ∃ Ac k capc bd c l Av kv capv v, e = .returned (.tuple #[.agg #[.slice Ac k capc, .int .i64 bd], .slice Av kv capv]) ∧ k ≤ 13 ∧ kv ≤ 12 ∧ Rd w' w'.heap.size Ac k c l ∧ RdI w' w'.heap.size Av kv v ∧ Below w.heap.size w w'
/-- What the draw of a constraint and values leaves. -/
def DEv (w : World) (e : Ending) (w' : World) : Prop := ∃ Ac k capc bd c l Av kv capv v, e = .returned (.tuple #[.agg #[.slice Ac k capc, .int .i64 bd], .slice Av kv capv]) ∧ k ≤ 13 ∧ kv ≤ 12 ∧ Rd w' w'.heap.size Ac k c l ∧ RdB w' w'.heap.size Av kv v ∧ Below w.heap.size w w'

end Go.Proofs.Ytbebdhjhlheboaa
