/- All blocks but those of a set lie as they did (no claim of its own). Conditions: as each theorem states. -/
import Derived.Test.YtbebdhjhlheboaaMrkR
namespace Go.Proofs.Ytbebdhjhlheboaa
open Go.ChangeShapes Go.WideShapes Go.ChangeAt Go.RowKit

/-- All blocks but those of a set lie as they did. -/
structure OnlyS (S : Nat → Prop) (w w' : World) : Prop where
  os : w'.os = w.os
  tape : w'.tape = w.tape
  output : w'.output = w.output
  size : w.heap.size ≤ w'.heap.size
  block : ∀ k, k < w.heap.size → ¬ S k → w'.heap[k]? = w.heap[k]?
section
variable {S S' : Nat → Prop} {w w' w1 : World} {A : Option Addr} {n lo hi : Nat}
theorem OnlyS.refl (S : Nat → Prop) (w : World) : OnlyS S w w := ⟨rfl, rfl, rfl, Nat.le_refl _, fun _ _ _ => rfl⟩
theorem OnlyS.trans (h : OnlyS S w w1) (h' : OnlyS S w1 w') : OnlyS S w w' :=
  ⟨h'.os.trans h.os, h'.tape.trans h.tape, h'.output.trans h.output, Nat.le_trans h.size h'.size, fun k hk hs => (h'.block k (Nat.lt_of_lt_of_le hk h.size) hs).trans (h.block k hk hs)⟩
theorem OnlyS.mono (h : OnlyS S w w') (hs : ∀ k, S k → S' k) : OnlyS S' w w' := ⟨h.os, h.tape, h.output, h.size, fun k hk hn => h.block k hk fun e => hn (hs k e)⟩
theorem OnlyS.range (h : OnlyS S w w') (hs : ∀ k, S k → lo ≤ k ∧ k < hi) : OnlyR lo hi w w' :=
  ⟨h.os, h.tape, h.output, h.size, fun k hk hr => h.block k hk fun e => by have := hs k e; omega⟩
theorem Only.toS (h : Only w w' A n) (hs : n ≠ 0 → ∀ a, A = some a → S a.block) : OnlyS S w w' :=
  ⟨h.os, h.tape, h.output, h.size, fun k hk hn => h.block k hk (by
    by_cases e : n = 0
    · exact .inl e
    · exact .inr fun a ha hh => hn (by rw [hh]; exact hs e a ha))⟩
end

end Go.Proofs.Ytbebdhjhlheboaa
