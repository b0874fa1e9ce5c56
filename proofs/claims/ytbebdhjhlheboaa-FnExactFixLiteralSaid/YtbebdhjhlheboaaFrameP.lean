/- How slices of constraints among the arguments of the exact laws are opened (no claim of its own). Conditions: as each theorem states. -/
import Derived.Test.YtbebdhjhlheboaaProA
import Derived.Test.YtbebdhjhlheboaaFrameA
namespace Go.Proofs.Ytbebdhjhlheboaa
open Go.ChangeShapes Go.WideShapes Go.ChangeAt Go.RowKit
open Go.Joins Go.Deep

section
variable {H : Type} {enc : TypeId × Value → H} {W : World} {spare : Nat → Bool} {held : Bool}

theorem con_of {fuel : Nat} {V0 V1 : Value} {x0 x1 : DataW H × List MemPlace} (h0 : DataW.trod enc Try.prog W 0 spare held fuel 48 [V0] = some x0) (h1 : DataW.trod enc Try.prog W 0 spare held fuel 3 [V1] = some x1) (hs : ∀ b, spare b = true) :
    ∃ (q : Con) (A : Option Addr) (cap : Nat), V0 = .slice A q.n cap ∧ V1 = .int .i64 q.bd ∧ q.n ≤ maxLen ∧ Rd W W.heap.size A q.n q.c q.l := by
  obtain ⟨A, n, cap, c, l, e, hn, hr⟩ := open_termS h0 hs
  obtain ⟨y, e1, _, _⟩ := DataW.trod_int Try.underlying3 h1
  simp at e1
  exact ⟨⟨n, y, c, l⟩, A, cap, e, e1, hn, hr⟩

theorem open_constraintS {fuel : Nat} {u : Value} {x : DataW H × List MemPlace} (h : DataW.trod enc Try.prog W 0 spare held fuel 22 [u] = some x) (hs : ∀ b, spare b = true) :
    ∃ (A : Option Addr) (n cap : Nat) (p : Nat → Con), u = .slice A n cap ∧ n ≤ maxLen ∧ (∀ i, i < n → (p i).n ≤ maxLen) ∧ RdP W W.heap.size A n p := by
  rcases open_slice_pairs Try.underlying22 Try.underlying50 (by kernel_rfl) (by kernel_rfl) (by kernel_rfl) (by kernel_rfl) (by kernel_rfl) h with ⟨hcs, _⟩ | ⟨a, len, cap, m, fu, V0, V1, D0, D1, P0, P1, hcs, _, hl, hm, hmm, _, hi⟩
  · simp at hcs
    exact ⟨none, 0, 0, fun _ => ⟨0, 0, fun _ => 0, fun _ => 0⟩, hcs, by unfold maxLen; omega, fun i hi => absurd hi (by omega), fun h => absurd h (by omega)⟩
  · simp at hcs
    rw [hs, if_pos rfl] at hmm
    have hall : ∀ i, ∃ q : Con, i < len → q.n ≤ maxLen ∧ ∃ A ci, V0 i = .slice A q.n ci ∧ V1 i = .int .i64 q.bd ∧ Rd W W.heap.size A q.n q.c q.l := fun i => by
      by_cases hlt : i < len
      · obtain ⟨_, _, t0, t1⟩ := hi i (by omega)
        obtain ⟨q, A, ci, e0, e1, hn, hr⟩ := con_of t0 t1 hs
        exact ⟨q, fun _ => ⟨hn, A, ci, e0, e1, hr⟩⟩
      · exact ⟨⟨0, 0, fun _ => 0, fun _ => 0⟩, fun h => absurd h hlt⟩
    obtain ⟨p, hp⟩ : ∃ p : Nat → Con, ∀ i, i < len → (p i).n ≤ maxLen ∧ ∃ A ci, V0 i = .slice A (p i).n ci ∧ V1 i = .int .i64 (p i).bd ∧ Rd W W.heap.size A (p i).n (p i).c (p i).l := ⟨fun i => (hall i).choose, fun i => (hall i).choose_spec⟩
    refine ⟨some a, len, cap, p, hcs, Nat.le_trans hl hm, fun i hin => (hp i hin).1, fun hpos => ?_⟩
    obtain ⟨b, off, spot⟩ := a
    have h0 := hi 0 (by omega)
    have hspot : spot = none := by simpa [Addr.add] using World.cell?_spot h0.1
    subst hspot
    refine ⟨b, off, rfl, ?_, fun i hin => ?_⟩
    · exact World.block_lt_of_cell? W _ (by simpa [Addr.add] using h0.1)
    · obtain ⟨g0, g1, _, _⟩ := hi i (by omega)
      obtain ⟨_, A, ci, e0, e1, hr⟩ := hp i hin
      rw [Go.WideShapes.add_plain] at g0 g1
      exact ⟨A, ci, g0.trans (by rw [e0]), g1.trans (by rw [e1]), hr⟩
end
end Go.Proofs.Ytbebdhjhlheboaa
