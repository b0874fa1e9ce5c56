/- How models among the arguments of the exact laws are opened (no claim of its own). Conditions: as each theorem states. -/
import Derived.Test.YtafiikfaeomhpaaMdlE
import Derived.Test.YtafiikfaeomhpaaFrameC
import Derived.Deep.Slices
import Derived.Test.YtafiikfaeomhpaaFrameA
namespace Go.Proofs.Ytafiikfaeomhpaa
open Go.ChangeShapes Go.WideShapes Go.ChangeAt Go.RowKit
open Go.Joins Go.Deep

section
variable {H : Type} {enc : TypeId × Value → H} {W : World} {spare : Nat → Bool} {held : Bool}

theorem lst_of {fuel : Nat} {V : Value} {x : DataW H × List MemPlace} (h : DataW.trod enc Try.prog W 0 spare held fuel 22 [V] = some x) (hs : ∀ b, spare b = true) :
    ∃ (l : Lst) (A : Option Addr) (cap : Nat), V = .slice A l.n cap ∧ l.n ≤ maxLen ∧ RdI W W.heap.size A l.n l.x := by
  obtain ⟨A, n, cap, v, e, hn, hr⟩ := open_intS h hs
  exact ⟨⟨n, v⟩, A, cap, e, hn, hr⟩

theorem open_intSS {fuel : Nat} {u : Value} {x : DataW H × List MemPlace} (h : DataW.trod enc Try.prog W 0 spare held fuel 88 [u] = some x) (hs : ∀ b, spare b = true) :
    ∃ (A : Option Addr) (n cap : Nat) (r : Nat → Lst), u = .slice A n cap ∧ n ≤ maxLen ∧ (∀ i, i < n → (r i).n ≤ maxLen) ∧ RdL W W.heap.size A n r := by
  rcases open_slice1 Try.underlying88 (by kernel_rfl) h with ⟨hcs, _⟩ | ⟨a, len, cap, m, fu, V, D, Pl, hcs, _, hl, hm, hmm, _, hi⟩
  · simp at hcs
    exact ⟨none, 0, 0, fun _ => ⟨0, fun _ => 0⟩, hcs, by unfold maxLen; omega, fun i hi => absurd hi (by omega), fun h => absurd h (by omega)⟩
  · simp at hcs
    rw [hs, if_pos rfl] at hmm
    have hall : ∀ i, ∃ q : Lst, i < len → q.n ≤ maxLen ∧ ∃ A ci, V i = .slice A q.n ci ∧ RdI W W.heap.size A q.n q.x := fun i => by
      by_cases hlt : i < len
      · obtain ⟨_, t0⟩ := hi i (by omega)
        obtain ⟨q, A, ci, e0, hn, hr⟩ := lst_of t0 hs
        exact ⟨q, fun _ => ⟨hn, A, ci, e0, hr⟩⟩
      · exact ⟨⟨0, fun _ => 0⟩, fun h => absurd h hlt⟩
    obtain ⟨p, hp⟩ : ∃ p : Nat → Lst, ∀ i, i < len → (p i).n ≤ maxLen ∧ ∃ A ci, V i = .slice A (p i).n ci ∧ RdI W W.heap.size A (p i).n (p i).x := ⟨fun i => (hall i).choose, fun i => (hall i).choose_spec⟩
    refine ⟨some a, len, cap, p, hcs, Nat.le_trans hl hm, fun i hin => (hp i hin).1, fun hpos => ?_⟩
    obtain ⟨b, off, spot⟩ := a
    have h0 := hi 0 (by omega)
    have hspot : spot = none := by simpa [Addr.add] using World.cell?_spot h0.1
    subst hspot
    refine ⟨b, off, rfl, ?_, fun i hin => ?_⟩
    · exact World.block_lt_of_cell? W _ (by simpa [Addr.add] using h0.1)
    · obtain ⟨g0, _⟩ := hi i (by omega)
      obtain ⟨_, A, ci, e0, hr⟩ := hp i hin
      rw [Go.WideShapes.add_plain] at g0
      exact ⟨A, ci, g0.trans (by rw [e0]), hr⟩

/-- What the five cells of a rule say. -/
def RuAt (W : World) (V : Nat → Value) (q : Rul) : Prop :=
  ∃ Av cv Ac cc Ar cr, V 0 = .int .i64 q.k ∧ V 1 = .slice Av q.v.n cv ∧ V 2 = .slice Ac q.c.n cc ∧ V 3 = .int .i64 q.bd ∧ V 4 = .slice Ar q.n cr ∧ RdI W W.heap.size Av q.v.n q.v.x ∧ RdI W W.heap.size Ac q.c.n q.c.x ∧ RdL W W.heap.size Ar q.n q.r

set_option maxRecDepth 100000 in
theorem ru_of {fuel : Nat} {cs : List Value} {x : DataW H × List MemPlace} (hlen : cs.length = 5) (h : DataW.trod enc Try.prog W 0 spare held fuel 109 cs = some x) (hs : ∀ b, spare b = true) :
    ∃ q : Rul, q.fit maxLen ∧ RuAt W (fun j => cs.getD j (.int .i64 0)) q := by
  obtain ⟨xs, k, hk, hxy, _, hxl, hf⟩ := DataW.trod_struct Try.underlying109 h
  have k1 : Try.prog.cellsOf 3 = 1 := by kernel_rfl
  have k2 : Try.prog.cellsOf 22 = 1 := by kernel_rfl
  have k3 : Try.prog.cellsOf 88 = 1 := by kernel_rfl
  match xs, hxl, cs, hlen with
  | [y0, y1, y2, y3, y4], _, [v0, v1, v2, v3, v4], _ =>
    have g0 := hf 0 _ rfl
    have g1 := hf 1 _ rfl
    have g2 := hf 2 _ rfl
    have g3 := hf 3 _ rfl
    have g4 := hf 4 _ rfl
    simp [k1, k2, k3] at g0 g1 g2 g3 g4
    obtain ⟨x0, e0, _, _⟩ := DataW.trod_int Try.underlying3 g0
    obtain ⟨x3, e3, _, _⟩ := DataW.trod_int Try.underlying3 g3
    obtain ⟨l1, A1, c1, e1, n1, r1⟩ := lst_of g1 hs
    obtain ⟨l2, A2, c2, e2, n2, r2⟩ := lst_of g2 hs
    obtain ⟨A4, n, c4, r, e4, n4, n4', r4⟩ := open_intSS g4 hs
    simp at e0 e3
    exact ⟨⟨x0, l1, l2, x3, n, r⟩, ⟨n1, n2, n4, n4'⟩, A1, c1, A2, c2, A4, c4, e0, e1, e2, e3, e4, r1, r2, r4⟩

set_option maxRecDepth 100000 in
theorem open_ruleS {fuel : Nat} {u : Value} {x : DataW H × List MemPlace} (h : DataW.trod enc Try.prog W 0 spare held fuel 23 [u] = some x) (hs : ∀ b, spare b = true) :
    ∃ (A : Option Addr) (n cap : Nat) (q : Nat → Rul), u = .slice A n cap ∧ n ≤ maxLen ∧ (∀ i, i < n → (q i).fit maxLen) ∧ RdRs W W.heap.size A n q := by
  have ce : Try.prog.cellsOf 109 = 5 := by kernel_rfl
  rcases open_slice Try.underlying23 h with ⟨hcs, _⟩ | ⟨a, len, cap, m, fu, D, Pl, hcs, _, hl, hm, hmm, _, hi⟩
  · simp at hcs
    exact ⟨none, 0, 0, fun _ => ⟨0, ⟨0, fun _ => 0⟩, ⟨0, fun _ => 0⟩, 0, 0, fun _ => ⟨0, fun _ => 0⟩⟩, hcs, by unfold maxLen; omega, fun i hi => absurd hi (by omega), fun h => absurd h (by omega)⟩
  · simp at hcs
    rw [hs, if_pos rfl] at hmm
    rw [ce] at hi
    have hall : ∀ i, ∃ q : Rul, i < len → q.fit maxLen ∧ ∃ V : Nat → Value, RuAt W V q ∧ ∀ j, j < 5 → W.cell? (a.add (i * 5 + j)) = some (V j) := fun i => by
      by_cases hlt : i < len
      · obtain ⟨cs', c1, t0⟩ := hi i (by omega)
        obtain ⟨_, hlen, hcell⟩ := World.cells?_some c1
        obtain ⟨q, hq, hv⟩ := ru_of hlen t0 hs
        refine ⟨q, fun _ => ⟨hq, _, hv, fun j hj => ?_⟩⟩
        have e := hcell j (by omega)
        rw [add_add] at e
        rw [e]
        simp [List.getElem?_eq_getElem (show j < cs'.length by omega)]
      · exact ⟨⟨0, ⟨0, fun _ => 0⟩, ⟨0, fun _ => 0⟩, 0, 0, fun _ => ⟨0, fun _ => 0⟩⟩, fun h => absurd h hlt⟩
    obtain ⟨p, hp⟩ : ∃ p : Nat → Rul, ∀ i, i < len → (p i).fit maxLen ∧ ∃ V : Nat → Value, RuAt W V (p i) ∧ ∀ j, j < 5 → W.cell? (a.add (i * 5 + j)) = some (V j) := ⟨fun i => (hall i).choose, fun i => (hall i).choose_spec⟩
    refine ⟨some a, len, cap, p, hcs, Nat.le_trans hl hm, fun i hin => (hp i hin).1, fun hpos => ?_⟩
    obtain ⟨b, off, spot⟩ := a
    obtain ⟨_, V0, _, h0⟩ := hp 0 (by omega)
    have h00 := h0 0 (by omega)
    have hspot : spot = none := by simpa [Addr.add] using World.cell?_spot h00
    subst hspot
    refine ⟨b, off, rfl, ?_, fun i hin => ?_⟩
    · exact World.block_lt_of_cell? W _ (by simpa [Addr.add] using h00)
    · obtain ⟨_, V, ⟨Av, cv, Ac, cc, Ar, cr, e0, e1, e2, e3, e4, r1, r2, r4⟩, hc⟩ := hp i hin
      have g0 := hc 0 (by omega)
      have g1 := hc 1 (by omega)
      have g2 := hc 2 (by omega)
      have g3 := hc 3 (by omega)
      have g4 := hc 4 (by omega)
      rw [Go.WideShapes.add_plain] at g0 g1 g2 g3 g4
      rw [e0] at g0
      rw [e1] at g1
      rw [e2] at g2
      rw [e3] at g3
      rw [e4] at g4
      exact ⟨Av, cv, Ac, cc, Ar, cr, g0, g1, g2, g3, g4, r1, r2, r4⟩

set_option maxRecDepth 100000 in
theorem open_model {r : Reach} {b0 : Nat} {v : Value} {d : DataW H} {p : List MemPlace} (hv : Value.okWide Try.prog W r b0 25 v)
    (h : DataW.Trod enc Try.prog W 0 spare held 25 v d p) (hs : ∀ b, spare b = true) :
    ∃ (As Ar : Option Addr) (sn cs n cr : Nat) (s : Nat → Int) (q : Nat → Rul), v = .agg #[.slice As sn cs, .slice Ar n cr] ∧ sn ≤ maxLen ∧ n ≤ maxLen ∧ (∀ i, i < n → (q i).fit maxLen) ∧ RdI W W.heap.size As sn s ∧ RdRs W W.heap.size Ar n q := by
  obtain ⟨v0, v1, y0, y1, m, rfl, _, _, t0, t1⟩ := open_agg2 Try.underlying25 (by kernel_rfl) (by kernel_rfl) hv h
  obtain ⟨As, sn, cs, s, rfl, hn, hr⟩ := open_intS t0 hs
  obtain ⟨Ar, n, cr, q, rfl, hn2, hf, hr2⟩ := open_ruleS t1 hs
  exact ⟨As, Ar, sn, cs, n, cr, s, q, rfl, hn, hn2, hf, hr, hr2⟩
end
end Go.Proofs.Ytafiikfaeomhpaa
