/- How slices of steps among the arguments of the exact laws are opened (no claim of its own). Conditions: as each theorem states. -/
import Derived.Test.YtafiikfaeomhpaaFrameP
import Derived.Test.YtafiikfaeomhpaaStpA
import Derived.Deep.Slices
import Derived.ChangeSame
namespace Go.Proofs.Ytafiikfaeomhpaa
open Go.ChangeShapes Go.WideShapes Go.ChangeAt Go.RowKit
open Go.Joins Go.Deep

section
variable {H : Type} {enc : TypeId × Value → H} {W : World} {spare : Nat → Bool} {held : Bool}

/-- What the five cells of a step say. -/
def StAt (W : World) (V : Nat → Value) (q : Stp) : Prop :=
  ∃ A ci, V 0 = .int .i64 q.k ∧ V 1 = .int .i64 q.a ∧ V 2 = .int .i64 q.b ∧ V 3 = .slice A q.c.n ci ∧ V 4 = .int .i64 q.c.bd ∧ Rd W W.heap.size A q.c.n q.c.c q.c.l

set_option maxRecDepth 100000 in
theorem st_of {fuel : Nat} {cs : List Value} {x : DataW H × List MemPlace} (hlen : cs.length = 5) (h : DataW.trod enc Try.prog W 0 spare held fuel 98 cs = some x) (hs : ∀ b, spare b = true) :
    ∃ q : Stp, q.c.n ≤ maxLen ∧ StAt W (fun j => cs.getD j (.int .i64 0)) q := by
  obtain ⟨xs, k, hk, hxy, _, hxl, hf⟩ := DataW.trod_struct Try.underlying98 h
  have k1 : Try.prog.cellsOf 3 = 1 := by kernel_rfl
  have k2 : Try.prog.cellsOf 96 = 2 := by kernel_rfl
  have k3 : Try.prog.cellsOf 94 = 1 := by kernel_rfl
  match xs, hxl, cs, hlen with
  | [y0, y1, y2, y3], _, [v0, v1, v2, v3, v4], _ =>
    have g0 := hf 0 _ rfl
    have g1 := hf 1 _ rfl
    have g2 := hf 2 _ rfl
    have g3 := hf 3 _ rfl
    simp [k1, k2] at g0 g1 g2 g3
    obtain ⟨x0, e0, _, _⟩ := DataW.trod_int Try.underlying3 g0
    obtain ⟨x1, e1, _, _⟩ := DataW.trod_int Try.underlying3 g1
    obtain ⟨x2, e2, _, _⟩ := DataW.trod_int Try.underlying3 g2
    obtain ⟨z0, z1, m, _, _, f0, f1⟩ := trod_struct2 Try.underlying96 g3
    simp [k1, k3] at f0 f1
    obtain ⟨c, A, ci, e3, e4, hn, hr⟩ := con_of f0 f1 hs
    simp at e0 e1 e2
    exact ⟨⟨x0, x1, x2, c⟩, hn, A, ci, e0, e1, e2, e3, e4, hr⟩

set_option maxRecDepth 100000 in
theorem open_stepS {fuel : Nat} {u : Value} {x : DataW H × List MemPlace} (h : DataW.trod enc Try.prog W 0 spare held fuel 54 [u] = some x) (hs : ∀ b, spare b = true) :
    ∃ (A : Option Addr) (n cap : Nat) (q : Nat → Stp), u = .slice A n cap ∧ n ≤ maxLen ∧ (∀ i, i < n → (q i).c.n ≤ maxLen) ∧ RdT W W.heap.size A n q := by
  have ce : Try.prog.cellsOf 98 = 5 := by kernel_rfl
  rcases open_slice Try.underlying54 h with ⟨hcs, _⟩ | ⟨a, len, cap, m, fu, D, Pl, hcs, _, hl, hm, hmm, _, hi⟩
  · simp at hcs
    exact ⟨none, 0, 0, fun _ => ⟨0, 0, 0, ⟨0, 0, fun _ => 0, fun _ => 0⟩⟩, hcs, by unfold maxLen; omega, fun i hi => absurd hi (by omega), fun h => absurd h (by omega)⟩
  · simp at hcs
    rw [hs, if_pos rfl] at hmm
    rw [ce] at hi
    have hall : ∀ i, ∃ q : Stp, i < len → q.c.n ≤ maxLen ∧ ∃ V : Nat → Value, StAt W V q ∧ ∀ j, j < 5 → W.cell? (a.add (i * 5 + j)) = some (V j) := fun i => by
      by_cases hlt : i < len
      · obtain ⟨cs', c1, t0⟩ := hi i (by omega)
        obtain ⟨_, hlen, hcell⟩ := World.cells?_some c1
        obtain ⟨q, hq, hv⟩ := st_of hlen t0 hs
        refine ⟨q, fun _ => ⟨hq, _, hv, fun j hj => ?_⟩⟩
        have e := hcell j (by omega)
        rw [add_add] at e
        rw [e]
        simp [List.getElem?_eq_getElem (show j < cs'.length by omega)]
      · exact ⟨⟨0, 0, 0, ⟨0, 0, fun _ => 0, fun _ => 0⟩⟩, fun h => absurd h hlt⟩
    obtain ⟨p, hp⟩ : ∃ p : Nat → Stp, ∀ i, i < len → (p i).c.n ≤ maxLen ∧ ∃ V : Nat → Value, StAt W V (p i) ∧ ∀ j, j < 5 → W.cell? (a.add (i * 5 + j)) = some (V j) := ⟨fun i => (hall i).choose, fun i => (hall i).choose_spec⟩
    refine ⟨some a, len, cap, p, hcs, Nat.le_trans hl hm, fun i hin => (hp i hin).1, fun hpos => ?_⟩
    obtain ⟨b, off, spot⟩ := a
    obtain ⟨_, V0, _, h0⟩ := hp 0 (by omega)
    have h00 := h0 0 (by omega)
    have hspot : spot = none := by simpa [Addr.add] using World.cell?_spot h00
    subst hspot
    refine ⟨b, off, rfl, ?_, fun i hin => ?_⟩
    · exact World.block_lt_of_cell? W _ (by simpa [Addr.add] using h00)
    · obtain ⟨_, V, ⟨A, ci, e0, e1, e2, e3, e4, r⟩, hc⟩ := hp i hin
      have g0 := hc 0 (by omega)
      have g1 := hc 1 (by omega)
      have g2 := hc 2 (by omega)
      have g3 := hc 3 (by omega)
      have g4 := hc 4 (by omega)
      rw [Go.WideShapes.add_plain] at g0 g1 g2 g3 g4
      rw [e0] at g0
      rw [e1] at g1
      rw [e2] at g2
      rw [e3] at g3
      rw [e4] at g4
      exact ⟨A, ci, g0, g1, g2, g3, g4, r⟩
end
end Go.Proofs.Ytafiikfaeomhpaa
