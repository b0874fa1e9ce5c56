/- How lists of lists of Booleans among the arguments of the exact laws are opened (no claim of its own). Conditions: as each theorem states. -/
import Derived.Test.YtgjjcikdbpjajaaMdlF
import Derived.Test.YtgjjcikdbpjajaaFrameB
import Derived.Deep.Slices
import Derived.Test.YtgjjcikdbpjajaaFrameA
namespace Go.Proofs.Ytgjjcikdbpjajaa
open Go.ChangeShapes Go.WideShapes Go.ChangeAt Go.RowKit
open Go.Joins Go.Deep

section
variable {H : Type} {enc : TypeId × Value → H} {W : World} {spare : Nat → Bool} {held : Bool}

theorem lsb_of {fuel : Nat} {V : Value} {x : DataW H × List MemPlace} (h : DataW.trod enc Try.prog W 0 spare held fuel 63 [V] = some x) (hs : ∀ b, spare b = true) :
    ∃ (l : LsB) (A : Option Addr) (cap : Nat), V = .slice A l.n cap ∧ l.n ≤ maxLen ∧ RdB W W.heap.size A l.n l.x := by
  obtain ⟨A, n, cap, v, e, hn, hr⟩ := open_boolS h hs
  exact ⟨⟨n, v⟩, A, cap, e, hn, hr⟩

theorem open_boolSS {fuel : Nat} {u : Value} {x : DataW H × List MemPlace} (h : DataW.trod enc Try.prog W 0 spare held fuel 26 [u] = some x) (hs : ∀ b, spare b = true) :
    ∃ (A : Option Addr) (n cap : Nat) (r : Nat → LsB), u = .slice A n cap ∧ n ≤ maxLen ∧ (∀ i, i < n → (r i).n ≤ maxLen) ∧ RdLB W W.heap.size A n r := by
  rcases open_slice1 Try.underlying26 (by kernel_rfl) h with ⟨hcs, _⟩ | ⟨a, len, cap, m, fu, V, D, Pl, hcs, _, hl, hm, hmm, _, hi⟩
  · simp at hcs
    exact ⟨none, 0, 0, fun _ => ⟨0, fun _ => false⟩, hcs, by unfold maxLen; omega, fun i hi => absurd hi (by omega), fun h => absurd h (by omega)⟩
  · simp at hcs
    rw [hs, if_pos rfl] at hmm
    have hall : ∀ i, ∃ q : LsB, i < len → q.n ≤ maxLen ∧ ∃ A ci, V i = .slice A q.n ci ∧ RdB W W.heap.size A q.n q.x := fun i => by
      by_cases hlt : i < len
      · obtain ⟨_, t0⟩ := hi i (by omega)
        obtain ⟨q, A, ci, e0, hn, hr⟩ := lsb_of t0 hs
        exact ⟨q, fun _ => ⟨hn, A, ci, e0, hr⟩⟩
      · exact ⟨⟨0, fun _ => false⟩, fun h => absurd h hlt⟩
    obtain ⟨p, hp⟩ : ∃ p : Nat → LsB, ∀ i, i < len → (p i).n ≤ maxLen ∧ ∃ A ci, V i = .slice A (p i).n ci ∧ RdB W W.heap.size A (p i).n (p i).x := ⟨fun i => (hall i).choose, fun i => (hall i).choose_spec⟩
    refine ⟨some a, len, cap, p, hcs, Nat.le_trans hl hm, fun i hin => (hp i hin).1, fun hpos => ?_⟩
    obtain ⟨b, off, spot⟩ := a
    have h0 := hi 0 (by omega)
    have hspot : spot = none := by simpa [Addr.add] using World.cell?_spot h0.1
    subst hspot
    refine ⟨b, off, rfl, ?_, fun i hin => ?_⟩
    · exact World.block_lt_of_cell? W _ (by simpa [Addr.add] using h0.1)
    · obtain ⟨g0, _⟩ := hi i (by omega)
      obtain ⟨_, A, ci, e0, hr⟩ := hp i hin
      rw [Go.WideShapes.add_plain] at g0
      exact ⟨A, ci, g0.trans (by rw [e0]), hr⟩

end
end Go.Proofs.Ytgjjcikdbpjajaa
