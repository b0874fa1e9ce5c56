/- What the program's table of the steps' layouts holds where the door laid it (no claim of its own). Conditions: as each theorem states. -/
import Derived.Test.YtbebdhjhlheboaaDoorTie
import Derived.Test.YtbebdhjhlheboaaDoorCards
import Derived.ProofKit
import Derived.LaidMore
import Derived.OpenShut
import Derived.OpenVars
import Derived.Stop.Joined
namespace Go.Proofs.YtbebdhjhlheboaaDoor
open Go.ChangeShapes Go.WideShapes Go.ChangeAt Go.RowKit

theorem ly_glob : Tryd.prog.globalNamed "loop.example/cuttingplanes/impl.layouts" = some 0 := by kernel_rfl
theorem ly_type : (Tryd.prog.globals[0]?).map (·.type) = some 90 := by kernel_rfl
theorem ly_cellsA : Tryd.prog.cellsOf 90 = 36 := by kernel_rfl
theorem ly_cellsL : Tryd.prog.cellsOf 89 = 4 := by kernel_rfl
theorem ly_cellsS : Tryd.prog.cellsOf 9 = 1 := by kernel_rfl
theorem ly_cellsC : Tryd.prog.cellsOf 87 = 1 := by kernel_rfl
theorem ly_cellsB : Tryd.prog.cellsOf 4 = 1 := by kernel_rfl

/-- The rows of the table: what the fields A and B hold, and whether a constraint is given. -/
def lyRows : List (Int × Int × Bool) := [(0, 0, false), (1, 1, false), (1, 2, false), (1, 2, false), (1, 0, false), (1, 2, false), (3, 0, false), (0, 0, true), (1, 0, false)]
/-- The table lies as it was laid. -/
def LyAt (W : World) : Prop := ∀ i a b g, lyRows[i]? = some (a, b, g) → (∃ s, W.cell? ⟨0, i * 4, none⟩ = some (.string s)) ∧ W.cell? ⟨0, i * 4 + 1, none⟩ = some (.int .i64 a) ∧ W.cell? ⟨0, i * 4 + 2, none⟩ = some (.int .i64 b) ∧ W.cell? ⟨0, i * 4 + 3, none⟩ = some (.bool g)
theorem LyAt.pos {W : World} (h : LyAt W) : 0 < W.heap.size := World.block_lt_of_cell? W _ (h 0 _ _ _ rfl).2.1
theorem LyAt.later {W W' : World} (h : LyAt W) (hb : Below W.heap.size W W') : LyAt W' := fun i a b g e => by
  obtain ⟨⟨s, h0⟩, h1, h2, h3⟩ := h i a b g e
  exact ⟨⟨s, (hb.cell (p := ⟨0, _, none⟩) h.pos).trans h0⟩, (hb.cell (p := ⟨0, _, none⟩) h.pos).trans h1, (hb.cell (p := ⟨0, _, none⟩) h.pos).trans h2, (hb.cell (p := ⟨0, _, none⟩) h.pos).trans h3⟩

theorem four_of {α : Type} : ∀ {l : List α}, l.length = 4 → ∃ a b c d, l = [a, b, c, d]
  | [a, b, c, d], _ => ⟨a, b, c, d, rfl⟩
section
variable {H : Type} {enc : TypeId × Value → H} {W : World} {spare : Nat → Bool} {held : Bool}
/-- One row, out of its reading. -/
theorem ly_row {m : Nat} {cs : List Value} {w0 : List UInt8} {a b : Int} {g : Bool} {p : List MemPlace}
    (h : DataW.trod enc Tryd.prog W 0 spare held m 89 cs = some (.agg [.lit (.string w0), .lit (.int .i64 a), .lit (.int .i64 b), .lit (.bool g)], p)) :
    ∃ s, cs = [.string s, .int .i64 a, .int .i64 b, .bool g] := by
  obtain ⟨ys, n, rfl, hy, hl, hn, hf⟩ := DataW.trod_struct Tryd.underlying89 h
  rw [ly_cellsL] at hl
  obtain ⟨c0, c1, c2, c3, rfl⟩ := four_of hl
  have hn4 : ys.length = 4 := hn.trans (by kernel_rfl)
  obtain ⟨y0, y1, y2, y3, rfl⟩ := four_of hn4
  have f0 := hf 0 _ rfl
  have f1 := hf 1 _ rfl
  have f2 := hf 2 _ rfl
  have f3 := hf 3 _ rfl
  simp [ly_cellsS, ly_cellsC, ly_cellsB] at f0 f1 f2 f3
  obtain ⟨s, e0, z0, _⟩ := DataW.trod_string Tryd.underlying9 f0
  obtain ⟨x1, e1, z1, _⟩ := DataW.trod_int Tryd.underlying87 f1
  obtain ⟨x2, e2, z2, _⟩ := DataW.trod_int Tryd.underlying87 f2
  obtain ⟨x3, e3, z3⟩ := DataW.trod_bool Tryd.underlying4 f3
  subst z0 z1 z2 z3
  simp at e0 e1 e2 e3 hy
  subst e0 e1 e2 e3
  obtain ⟨⟨_, rfl, rfl, rfl⟩, _⟩ := hy
  exact ⟨s, rfl⟩
end

theorem ly_of_laid {W : World} (h : laidMetH Tryd.prog [("loop.example/cuttingplanes/impl.layouts", Rows.laid_loop_example_cuttingplanes_impl_layouts)] W) : LyAt W := by
  rw [MakeChecks.laidMetH_plain _ _ _ (by kernel_rfl)] at h
  obtain ⟨ps, ⟨g, t, cs, fuel, p, q, hg, ht, hvar, hd, _, _⟩, _⟩ := h
  obtain rfl := Option.some.inj (ly_glob.symm.trans hg)
  obtain rfl := Option.some.inj (ly_type.symm.trans ht)
  obtain ⟨xs, m, rfl, hx, hl, hn, hi⟩ := DataW.trod_array Tryd.underlying90 hd
  rw [ly_cellsL] at hi
  have hX : xs.map (·.1) = _ := (DataW.agg.inj (congrArg Prod.fst hx)).symm
  have key : ∀ i, i < 9 → ∀ w0 a b g, (xs.map (·.1))[i]? = some (.agg [.lit (.string w0), .lit (.int .i64 a), .lit (.int .i64 b), .lit (.bool g)]) → (∃ s, W.cell? ⟨0, i * 4, none⟩ = some (.string s)) ∧ W.cell? ⟨0, i * 4 + 1, none⟩ = some (.int .i64 a) ∧ W.cell? ⟨0, i * 4 + 2, none⟩ = some (.int .i64 b) ∧ W.cell? ⟨0, i * 4 + 3, none⟩ = some (.bool g) := by
    intro i hi9 w0 a b g e
    rw [List.getElem?_map, Option.map_eq_some_iff] at e
    obtain ⟨⟨y, pl⟩, hy, e⟩ := e
    have h1 := hi i hi9
    rw [hy] at h1
    simp only at e
    subst e
    obtain ⟨s, hs⟩ := ly_row h1
    have hc : ∀ j, j < 4 → W.cell? ⟨0, i * 4 + j, none⟩ = [Value.string s, .int .i64 a, .int .i64 b, .bool g][j]? := fun j hj => by
      rw [World.var?_cell hg hvar (i * 4 + j), ← hs, List.getElem?_take_of_lt hj, List.getElem?_drop, Array.getElem?_toList]
    exact ⟨⟨s, hc 0 (by omega)⟩, hc 1 (by omega), hc 2 (by omega), hc 3 (by omega)⟩
  rw [hX] at key
  intro i a b g e
  have h9 : i < 9 := (List.getElem?_eq_some_iff.1 e).1
  rcases (show i = 0 ∨ i = 1 ∨ i = 2 ∨ i = 3 ∨ i = 4 ∨ i = 5 ∨ i = 6 ∨ i = 7 ∨ i = 8 by omega) with rfl | rfl | rfl | rfl | rfl | rfl | rfl | rfl | rfl <;> cases e <;> exact key _ h9 _ _ _ _ rfl

/-- The door's own heap meets the condition. -/
theorem ly_door (os : Os) (args : Array Value) : laidMetH Tryd.prog [("loop.example/cuttingplanes/impl.layouts", Rows.laid_loop_example_cuttingplanes_impl_layouts)] ((World.doorLaid Tryd.prog 22 os).forCall (fun _ _ => 0) ⟨#[], args, []⟩).memory :=
  laidMetH_of_parts3 (fuel := 8) (laidMet_of_run' 8 (by kernel_rfl) (by kernel_rfl)) (by kernel_rfl) (by kernel_rfl)
end Go.Proofs.YtbebdhjhlheboaaDoor
