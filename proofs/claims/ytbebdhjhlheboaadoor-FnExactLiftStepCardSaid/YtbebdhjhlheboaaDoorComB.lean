/- What the exact laws of functions that answer a constraint and a Boolean carry from call to call (no claim of its own). Conditions: as each theorem states. -/
import Derived.Test.YtbebdhjhlheboaaDoorMarkB
namespace Go.Proofs.YtbebdhjhlheboaaDoor
open Go.ChangeShapes Go.WideShapes Go.ChangeAt Go.RowKit

/-- What a function that answers a constraint and a Boolean leaves: the constraint lies in new memory. -/
def CRes (w : World) (n : Nat) (c l : Nat → Int) (bd : Int) (ok : Bool) (e : Ending) (w' : World) : Prop :=
  ∃ A cap, e = .returned (.tuple #[.agg #[.slice A n cap, .int .i64 bd], .bool ok]) ∧ Frs w' w.heap.size A n c l ∧ Below w.heap.size w w'

theorem kf {W w1 : World} (hb : Below W.heap.size W w1) {p : Addr} (hlt : p.block < W.heap.size) (h : W.frozen? p = false) : w1.frozen? p = false := (hb.frozen hlt).trans h

theorem OwnT.alloc_ {w : World} {G n k : Nat} {c l : Nat → Int} (h : OwnT w G n k c l) (o : Obj) : OwnT (w.alloc o) G n k c l := h.below (bl_alloc (Below.refl _ _) o) h.lt

/-- A slice that a call has made in a block from lo on and below hi; or nothing. -/
def Fr2 (w : World) (lo hi : Nat) (A : Option Addr) (n : Nat) (c l : Nat → Int) : Prop := n = 0 ∨ ∃ G, A = some ⟨G, 0, none⟩ ∧ lo ≤ G ∧ G < hi ∧ OwnU w G n n c l
section
variable {w w' : World} {lo hi : Nat} {A A' : Option Addr} {n n' : Nat} {c l : Nat → Int}
theorem Frs.two (h : Frs w lo A n c l) : Fr2 w lo w.heap.size A n c l := by
  rcases h with h | ⟨G, e, hG, h⟩
  · exact .inl h
  · exact .inr ⟨G, e, hG, h.lt, h⟩
theorem Fr2.one (h : Fr2 w lo hi A n c l) : Frs w lo A n c l := by
  rcases h with h | ⟨G, e, hG, _, h⟩
  · exact .inl h
  · exact .inr ⟨G, e, hG, h⟩
theorem Fr2.rdAt (h : Fr2 w lo hi A n c l) : Rd w w.heap.size A n c l := h.one.rdAt
theorem Fr2.below (h : Fr2 w lo hi A n c l) (hb : Below w.heap.size w w') : Fr2 w' lo hi A n c l := by
  rcases h with h | ⟨G, e, hG, hG', h⟩
  · exact .inl h
  · exact .inr ⟨G, e, hG, hG', h.below hb⟩
/-- What lies apart from the one slice that is written stays. -/
theorem Fr2.only (h : Fr2 w lo hi A n c l) (ho : Only w w' A' n') (hd : n' = 0 ∨ ∀ a, A' = some a → a.block < lo ∨ hi ≤ a.block) : Fr2 w' lo hi A n c l := by
  rcases h with h | ⟨G, e, hG, hG', h⟩
  · exact .inl h
  · refine .inr ⟨G, e, hG, hG', h.at_ (ho.block G h.lt ?_)⟩
    rcases hd with h0 | hd
    · exact .inl h0
    · exact .inr fun a ha hh => by have := hd a ha; omega
/-- Where the slice lies that is written. -/
theorem Fr2.apart (h : Fr2 w lo hi A n c l) {lo' hi' : Nat} (hh : hi ≤ lo' ∨ hi' ≤ lo) : n = 0 ∨ ∀ a, A = some a → a.block < lo' ∨ hi' ≤ a.block := by
  rcases h with h | ⟨G, e, hG, hG', _⟩
  · exact .inl h
  · refine .inr fun a ha => ?_
    rw [e] at ha
    cases ha
    show G < lo' ∨ hi' ≤ G
    omega
theorem Fr2.cell (h : Fr2 w lo hi A n c l) (ho : Only w w' A n) {p : Addr} {v : Value} (hp : p.block < lo ∨ hi ≤ p.block) (hc : w.cell? p = some v) : w'.cell? p = some v := by
  refine (World.cell?_of_block (w := w) (ho.block p.block (World.block_lt_of_cell? w p hc) ?_)).trans hc
  rcases h with h | ⟨G, e, hG, hG', _⟩
  · exact .inl h
  · refine .inr fun a ha hh => ?_
    rw [e] at ha
    cases ha
    have : p.block = G := hh
    omega
theorem Only.bel (ho : Only w w' A n) (h : Fr2 w lo hi A n c l) {W : World} (hb : Below W.heap.size W w) (hlo : W.heap.size ≤ lo) : Below W.heap.size W w' :=
  hb.trans ((ho.below (B := W.heap.size) (h.one.more hlo) hb.size))
end
end Go.Proofs.YtbebdhjhlheboaaDoor
