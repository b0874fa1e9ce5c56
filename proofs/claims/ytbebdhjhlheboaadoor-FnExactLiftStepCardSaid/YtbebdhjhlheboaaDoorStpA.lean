/- Contracts of the helpers over steps of the exact laws (no claim of its own). Conditions: as each theorem states. -/
import Derived.Test.YtbebdhjhlheboaaDoorProA
import Derived.StillTailTactics
namespace Go.Proofs.YtbebdhjhlheboaaDoor
open Go.ChangeShapes Go.WideShapes Go.ChangeAt Go.RowKit

/-- What a step says. -/
structure Stp where
  k : Int
  a : Int
  b : Int
  c : Con

/-- A slice of steps: element i says what p i says. -/
def RdT (w : World) (B : Nat) (A : Option Addr) (n : Nat) (p : Nat → Stp) : Prop :=
  0 < n → ∃ b off, A = some ⟨b, off, none⟩ ∧ b < B ∧ ∀ i, i < n → ∃ Ai ci, w.cell? ⟨b, off + i * 5, none⟩ = some (.int .i64 (p i).k) ∧ w.cell? ⟨b, off + i * 5 + 1, none⟩ = some (.int .i64 (p i).a) ∧ w.cell? ⟨b, off + i * 5 + 2, none⟩ = some (.int .i64 (p i).b) ∧ w.cell? ⟨b, off + i * 5 + 3, none⟩ = some (.slice Ai (p i).c.n ci) ∧ w.cell? ⟨b, off + i * 5 + 4, none⟩ = some (.int .i64 (p i).c.bd) ∧ Rd w B Ai (p i).c.n (p i).c.c (p i).c.l
theorem RdT.below {w w' : World} {B : Nat} {A : Option Addr} {n : Nat} {p : Nat → Stp} (h : RdT w B A n p) (hb : Below B w w') : RdT w' B A n p := fun hn => by
  obtain ⟨b, off, e, hlt, hc⟩ := h hn
  refine ⟨b, off, e, hlt, fun i hi => ?_⟩
  obtain ⟨Ai, ci, h0, h1, h2, h3, h4, h5⟩ := hc i hi
  exact ⟨Ai, ci, (hb.cell (p := ⟨b, _, none⟩) hlt).trans h0, (hb.cell (p := ⟨b, _, none⟩) hlt).trans h1, (hb.cell (p := ⟨b, _, none⟩) hlt).trans h2, (hb.cell (p := ⟨b, _, none⟩) hlt).trans h3, (hb.cell (p := ⟨b, _, none⟩) hlt).trans h4, h5.below hb⟩
theorem RdT.more {w : World} {B B' : Nat} {A : Option Addr} {n : Nat} {p : Nat → Stp} (h : RdT w B A n p) (hB : B ≤ B') : RdT w B' A n p := fun hn => by
  obtain ⟨b, off, e, hlt, hc⟩ := h hn
  refine ⟨b, off, e, by omega, fun i hi => ?_⟩
  obtain ⟨Ai, ci, h0, h1, h2, h3, h4, h5⟩ := hc i hi
  exact ⟨Ai, ci, h0, h1, h2, h3, h4, h5.more hB⟩
theorem RdT.later {w w' : World} {A : Option Addr} {n : Nat} {p : Nat → Stp} (h : RdT w w.heap.size A n p) (hb : Below w.heap.size w w') : RdT w' w'.heap.size A n p := (h.below hb).more hb.size
theorem stle {x : Nat} (j : Nat) : x ≤ x + j := Nat.le_add_right x j
theorem frozen_st {w : World} {G : Nat} {cs : Array Value} {T : TypeId} (h : w.heap[G]? = some (.cells cs T (0, 0))) (j : Nat) : w.frozen? ⟨G, j, none⟩ = false := by simp [World.frozen?, h]
/-- The constraints of steps. -/
def cons (p : Nat → Stp) (i : Nat) : Con := (p i).c

set_option linter.unusedVariables false in
set_option linter.unusedSimpArgs false in
set_option maxRecDepth 100000 in
set_option maxHeartbeats 1600000 in
theorem szStep_ok (A : Option Addr) (n c : Nat) (k a b bd left : Int) (w : World) (h0 : 0 ≤ left) (h1 : left ≤ 1048576) (hn : (n : Int) ≤ left) :
    Calls Tryd.prog 5 #[.agg #[.int .i64 k, .int .i64 a, .int .i64 b, .slice A n c, .int .i64 bd], .int .i64 left] w fun e w' => e = .returned (.int .i64 (left - n)) ∧ Below w.heap.size w w' := by
  have HB := Lib.hid (bl_alloc (Below.refl w.heap.size w) (.cells #[.int .i64 k, .int .i64 a, .int .i64 b, .slice A n c, .int .i64 bd] 26))
  have hge : ¬ (left - n < 0) := by omega
  go_enter Tryd.func5, Tryd.ntmps5
  go_wp2_with (go_at_call 20; refine (szConstraint_ok _ _ _ _ _ _ h0 h1 hn).mono ?_; rintro e w' ⟨rfl, hb⟩; have HB2 := Lib.hid (bl_trans HB.out hb); clear hb)
  go_ret
  exact ⟨rfl, HB2.out⟩

set_option linter.unusedVariables false in
set_option linter.unusedSimpArgs false in
set_option maxRecDepth 100000 in
set_option maxHeartbeats 1600000 in
theorem szStep_no (A : Option Addr) (n c : Nat) (k a b bd left : Int) (w : World) (h0 : 0 ≤ left) (h1 : left ≤ 1048576) (hn : left < (n : Int)) (hm : n ≤ maxLen) :
    Calls Tryd.prog 5 #[.agg #[.int .i64 k, .int .i64 a, .int .i64 b, .slice A n c, .int .i64 bd], .int .i64 left] w fun e w' => e = .returned (.int .i64 (-1)) ∧ Below w.heap.size w w' := by
  have HB := Lib.hid (bl_alloc (Below.refl w.heap.size w) (.cells #[.int .i64 k, .int .i64 a, .int .i64 b, .slice A n c, .int .i64 bd] 26))
  go_enter Tryd.func5, Tryd.ntmps5
  go_wp2_with (go_at_call 20; refine (szConstraint_no _ _ _ _ _ _ h0 h1 hn hm).mono ?_; rintro e w' ⟨rfl, hb⟩; have HB2 := Lib.hid (bl_trans HB.out hb); clear hb)
  go_ret
  exact ⟨rfl, HB2.out⟩

theorem Tryd.infoStp : (Tryd.prog.info? 33).map (fun i => (i.zero, i.size, i.bytes)) = some (some (.agg #[.int .i64 0, .int .i64 0, .int .i64 0, .slice none 0 0, .int .i64 0]), 5, 56) := by kernel_rfl

/-- A block of the call's own that holds steps, each with terms of its own: the first k of them are known. -/
def OwnS (w : World) (G : Nat) (n k : Nat) (p : Nat → Stp) : Prop :=
  ∃ cs : Array Value, w.heap[G]? = some (.cells cs 33 (0, 0)) ∧ cs.size = n * 5 ∧
    ∀ i, i < k → ∃ g, G < g ∧ cs[i * 5]? = some (.int .i64 (p i).k) ∧ cs[i * 5 + 1]? = some (.int .i64 (p i).a) ∧ cs[i * 5 + 2]? = some (.int .i64 (p i).b) ∧ cs[i * 5 + 3]? = some (.slice (some ⟨g, 0, none⟩) (p i).c.n (p i).c.n) ∧ cs[i * 5 + 4]? = some (.int .i64 (p i).c.bd) ∧ OwnT w g (p i).c.n (p i).c.n (p i).c.c (p i).c.l
section
variable {w w' : World} {G n k : Nat} {p : Nat → Stp}
theorem OwnS.lt (h : OwnS w G n k p) : G < w.heap.size := by
  obtain ⟨cs, hh, h1, h2⟩ := h
  rcases Nat.lt_or_ge G w.heap.size with hlt | hge
  · exact hlt
  · rw [Array.getElem?_eq_none hge] at hh; cases hh
theorem OwnS.below (h : OwnS w G n k p) (hb : Below w.heap.size w w') : OwnS w' G n k p := by
  have hlt := h.lt
  obtain ⟨cs, hh, h1, h2⟩ := h
  refine ⟨cs, (hb.block G hlt).trans hh, h1, fun i hi => ?_⟩
  obtain ⟨g, hg, a0, a1, a2, a3, a4, c⟩ := h2 i hi
  exact ⟨g, hg, a0, a1, a2, a3, a4, c.below hb c.lt⟩
theorem OwnS.rdAt (h : OwnS w G n n p) : RdT w w.heap.size (some ⟨G, 0, none⟩) n p := fun _ => by
  have hlt := h.lt
  obtain ⟨cs, hh, h1, h2⟩ := h
  refine ⟨G, 0, rfl, hlt, fun i hi => ?_⟩
  obtain ⟨g, hg, a0, a1, a2, a3, a4, c⟩ := h2 i hi
  rw [Nat.zero_add]
  exact ⟨_, _, (cell_of_row w G _ cs _ _ hh).trans a0, (cell_of_row w G _ cs _ _ hh).trans a1, (cell_of_row w G _ cs _ _ hh).trans a2, (cell_of_row w G _ cs _ _ hh).trans a3, (cell_of_row w G _ cs _ _ hh).trans a4, c.rdAt⟩
theorem OwnS.cell (h : OwnS w G n k p) {j : Nat} (hj : j < n * 5) : ∃ u, w.cell? ⟨G, j, none⟩ = some u := by
  obtain ⟨cs, hh, h1, h2⟩ := h
  exact ⟨cs[j]'(by omega), (cell_of_row w G _ cs _ _ hh).trans (Array.getElem?_eq_getElem (by omega))⟩
theorem OwnS.frozen (h : OwnS w G n k p) (j : Nat) : w.frozen? ⟨G, j, none⟩ = false := by
  obtain ⟨cs, hh, h1, h2⟩ := h
  simp [World.frozen?, hh]
theorem OwnS.put {g : Nat} (h : OwnS w G n k p) (hk : k < n) (hg : G < g) (ho : OwnT w g (p k).c.n (p k).c.n (p k).c.c (p k).c.l) :
    OwnS (((((w.setCell ⟨G, k * 5, none⟩ (.int .i64 (p k).k)).setCell ⟨G, k * 5 + 1, none⟩ (.int .i64 (p k).a)).setCell ⟨G, k * 5 + 2, none⟩ (.int .i64 (p k).b)).setCell ⟨G, k * 5 + 3, none⟩ (.slice (some ⟨g, 0, none⟩) (p k).c.n (p k).c.n)).setCell ⟨G, k * 5 + 4, none⟩ (.int .i64 (p k).c.bd)) G n (k + 1) p := by
  obtain ⟨cs, hh, h1, h2⟩ := h
  refine ⟨(((((cs.setIfInBounds (k * 5) (.int .i64 (p k).k)).setIfInBounds (k * 5 + 1) (.int .i64 (p k).a)).setIfInBounds (k * 5 + 2) (.int .i64 (p k).b)).setIfInBounds (k * 5 + 3) (.slice (some ⟨g, 0, none⟩) (p k).c.n (p k).c.n)).setIfInBounds (k * 5 + 4) (.int .i64 (p k).c.bd)), ?_, by simp [h1], fun i hi => ?_⟩
  · simp [World.setCell, Array.getElem?_modify, hh]
  · simp only [Array.getElem?_setIfInBounds, Array.size_setIfInBounds]
    by_cases e : i = k
    · subst e
      refine ⟨g, hg, ?_, ?_, ?_, ?_, ?_, (((((ho).far (by show _; simp only; omega) _).far (by show _; simp only; omega) _).far (by show _; simp only; omega) _).far (by show _; simp only; omega) _).far (by show _; simp only; omega) _⟩
      · rw [if_neg (by omega), if_neg (by omega), if_neg (by omega), if_neg (by omega), if_pos rfl, if_pos (by omega)]
      · rw [if_neg (by omega), if_neg (by omega), if_neg (by omega), if_pos rfl, if_pos (by omega)]
      · rw [if_neg (by omega), if_neg (by omega), if_pos rfl, if_pos (by omega)]
      · rw [if_neg (by omega), if_pos rfl, if_pos (by omega)]
      · rw [if_pos rfl, if_pos (by omega)]
    · obtain ⟨g', hg', a0, a1, a2, a3, a4, c⟩ := h2 i (by omega)
      refine ⟨g', hg', ?_, ?_, ?_, ?_, ?_, (((((c).far (by show _; simp only; omega) _).far (by show _; simp only; omega) _).far (by show _; simp only; omega) _).far (by show _; simp only; omega) _).far (by show _; simp only; omega) _⟩
      · rw [if_neg (by omega), if_neg (by omega), if_neg (by omega), if_neg (by omega), if_neg (by omega)]; exact a0
      · rw [if_neg (by omega), if_neg (by omega), if_neg (by omega), if_neg (by omega), if_neg (by omega)]; exact a1
      · rw [if_neg (by omega), if_neg (by omega), if_neg (by omega), if_neg (by omega), if_neg (by omega)]; exact a2
      · rw [if_neg (by omega), if_neg (by omega), if_neg (by omega), if_neg (by omega), if_neg (by omega)]; exact a3
      · rw [if_neg (by omega), if_neg (by omega), if_neg (by omega), if_neg (by omega), if_neg (by omega)]; exact a4
end

set_option linter.unusedVariables false in
set_option linter.unusedSimpArgs false in
set_option maxRecDepth 100000 in
set_option maxHeartbeats 1600000 in
theorem toStep_any (A : Option Addr) (n cap : Nat) (k a b bd : Int) (c l : Nat → Int) (w : World) (hn : n ≤ 1048576) (hr : Rd w w.heap.size A n c l) :
    Calls Tryd.prog 7 #[.agg #[.int .i64 k, .int .i64 a, .int .i64 b, .slice A n cap, .int .i64 bd]] w fun e w' => ∃ G, e = .returned (.agg #[.int .i64 k, .int .i64 a, .int .i64 b, .slice (some ⟨G, 0, none⟩) n n, .int .i64 bd]) ∧ w.heap.size ≤ G ∧ OwnT w' G n n c l ∧ Below w.heap.size w w' := by
  have a0 : (w.alloc (.cells #[.int .i64 k, .int .i64 a, .int .i64 b, .slice A n cap, .int .i64 bd] 26)).cell? ⟨w.heap.size, 0, none⟩ = some (.int .i64 k) := by go_simp
  have a1 : (w.alloc (.cells #[.int .i64 k, .int .i64 a, .int .i64 b, .slice A n cap, .int .i64 bd] 26)).cell? ⟨w.heap.size, 1, none⟩ = some (.int .i64 a) := by go_simp
  have a2 : (w.alloc (.cells #[.int .i64 k, .int .i64 a, .int .i64 b, .slice A n cap, .int .i64 bd] 26)).cell? ⟨w.heap.size, 2, none⟩ = some (.int .i64 b) := by go_simp
  have a3 : (w.alloc (.cells #[.int .i64 k, .int .i64 a, .int .i64 b, .slice A n cap, .int .i64 bd] 26)).cell? ⟨w.heap.size, 3, none⟩ = some (.slice A n cap) := by go_simp
  have a4 : (w.alloc (.cells #[.int .i64 k, .int .i64 a, .int .i64 b, .slice A n cap, .int .i64 bd] 26)).cell? ⟨w.heap.size, 4, none⟩ = some (.int .i64 bd) := by go_simp
  obtain ⟨WA, hWA⟩ : ∃ W, w.alloc (.cells #[.int .i64 k, .int .i64 a, .int .i64 b, .slice A n cap, .int .i64 bd] 26) = W := ⟨_, rfl⟩
  rw [hWA] at a0 a1 a2 a3 a4
  obtain ⟨WB, hWB⟩ : ∃ W, WA.alloc (.cells #[.int .i64 0, .int .i64 0, .int .i64 0, .slice none 0 0, .int .i64 0] 33) = W := ⟨_, rfl⟩
  obtain ⟨WC, hWC⟩ : ∃ W, WB.alloc (.cells #[.int .i64 k, .int .i64 a, .int .i64 b, .slice none 0 0, .int .i64 0] 33) = W := ⟨_, rfl⟩
  have sA : WA.heap.size = w.heap.size + 1 := by rw [← hWA]; simp
  have sB : WB.heap.size = w.heap.size + 2 := by rw [← hWB]; simp [sA]
  have sC : WC.heap.size = w.heap.size + 3 := by rw [← hWC]; simp [sB]
  have bA : Below w.heap.size w WA := by rw [← hWA]; exact bl_alloc (Below.refl _ _) _
  have bB : Below WA.heap.size WA WB := by rw [← hWB]; exact bl_alloc (Below.refl _ _) _
  have bC : Below WB.heap.size WB WC := by rw [← hWC]; exact bl_alloc (Below.refl _ _) _
  have r1 : WB.heap[w.heap.size + 1]? = some (.cells #[.int .i64 0, .int .i64 0, .int .i64 0, .slice none 0 0, .int .i64 0] 33 (0, 0)) := by rw [← hWB, ← sA]; exact heap_alloc_new _ _
  have r2 : WC.heap[w.heap.size + 2]? = some (.cells #[.int .i64 k, .int .i64 a, .int .i64 b, .slice none 0 0, .int .i64 0] 33 (0, 0)) := by rw [← hWC, ← sB]; exact heap_alloc_new _ _
  replace r1 := (bC.block _ (by omega)).trans r1
  replace a0 := kc bC (kc bB a0)
  replace a1 := kc bC (kc bB a1)
  replace a2 := kc bC (kc bB a2)
  replace a3 := kc bC (kc bB a3)
  replace a4 := kc bC (kc bB a4)
  have HB := Lib.hid (bl_trans (bl_trans bA bB) bC)
  have HR := Lib.hid (hr.later HB.out)
  have R1 := Lib.hid r1
  have R2 := Lib.hid r2
  have SC := Lib.hid sC
  clear bA bB bC r1 r2 hr
  have HWA := Lib.hid hWA
  have HWB := Lib.hid hWB
  have HWC := Lib.hid hWC
  clear hWA hWB hWC sA sB sC a0 a1 a2 a3 a4
  go_enter Tryd.func7, Tryd.ntmps7
  go_wp2_with fail
  rw [HWA.out, HWB.out, HWC.out]
  refine (toConstraint_any A n cap bd c l _ hn HR.out).mono ?_
  rintro e w5 ⟨G, rfl, hG, ho, hb⟩
  have hGl : w.heap.size + 3 ≤ G := by have := SC.out; omega
  have h1 := (hb.block (w.heap.size + 1) (by have := SC.out; omega)).trans R1.out
  have h2 := (hb.block (w.heap.size + 2) (by have := SC.out; omega)).trans R2.out
  have HB5 := Lib.hid (bl_trans HB.out hb)
  have HO := Lib.hid ho
  have o0 : w5.cell? ⟨w.heap.size + 2, 0, none⟩ = some (.int .i64 k) := (cell_of_row _ _ 0 _ _ _ h2).trans rfl
  have fo0 : w5.frozen? ⟨w.heap.size + 2, 0, none⟩ = false := frozen_st h2 0
  have o1 : w5.cell? ⟨w.heap.size + 2, 1, none⟩ = some (.int .i64 a) := (cell_of_row _ _ 1 _ _ _ h2).trans rfl
  have fo1 : w5.frozen? ⟨w.heap.size + 2, 1, none⟩ = false := frozen_st h2 1
  have o2 : w5.cell? ⟨w.heap.size + 2, 2, none⟩ = some (.int .i64 b) := (cell_of_row _ _ 2 _ _ _ h2).trans rfl
  have fo2 : w5.frozen? ⟨w.heap.size + 2, 2, none⟩ = false := frozen_st h2 2
  have o3 : w5.cell? ⟨w.heap.size + 2, 3, none⟩ = some (.slice none 0 0) := (cell_of_row _ _ 3 _ _ _ h2).trans rfl
  have fo3 : w5.frozen? ⟨w.heap.size + 2, 3, none⟩ = false := frozen_st h2 3
  have o4 : w5.cell? ⟨w.heap.size + 2, 4, none⟩ = some (.int .i64 0) := (cell_of_row _ _ 4 _ _ _ h2).trans rfl
  have fo4 : w5.frozen? ⟨w.heap.size + 2, 4, none⟩ = false := frozen_st h2 4
  have z0 : w5.cell? ⟨w.heap.size + 1, 0, none⟩ = some (.int .i64 0) := (cell_of_row _ _ 0 _ _ _ h1).trans rfl
  have fz0 : w5.frozen? ⟨w.heap.size + 1, 0, none⟩ = false := frozen_st h1 0
  have z1 : w5.cell? ⟨w.heap.size + 1, 1, none⟩ = some (.int .i64 0) := (cell_of_row _ _ 1 _ _ _ h1).trans rfl
  have fz1 : w5.frozen? ⟨w.heap.size + 1, 1, none⟩ = false := frozen_st h1 1
  have z2 : w5.cell? ⟨w.heap.size + 1, 2, none⟩ = some (.int .i64 0) := (cell_of_row _ _ 2 _ _ _ h1).trans rfl
  have fz2 : w5.frozen? ⟨w.heap.size + 1, 2, none⟩ = false := frozen_st h1 2
  have z3 : w5.cell? ⟨w.heap.size + 1, 3, none⟩ = some (.slice none 0 0) := (cell_of_row _ _ 3 _ _ _ h1).trans rfl
  have fz3 : w5.frozen? ⟨w.heap.size + 1, 3, none⟩ = false := frozen_st h1 3
  have z4 : w5.cell? ⟨w.heap.size + 1, 4, none⟩ = some (.int .i64 0) := (cell_of_row _ _ 4 _ _ _ h1).trans rfl
  have fz4 : w5.frozen? ⟨w.heap.size + 1, 4, none⟩ = false := frozen_st h1 4
  clear hb ho h1 h2 HB HR R1 R2 SC
  go_wp2
  refine bodyPost_ret (v := .agg #[.int .i64 k, .int .i64 a, .int .i64 b, .slice (some ⟨G, 0, none⟩) n n, .int .i64 bd]) (by simp [results, Tryd.results7, go_sem, z0, z1, z2, z3, z4]) rfl ⟨G, rfl, by omega, ?_, ?_⟩
  · exact ((((((HO.out.far (by show _; simp only; omega) _).far (by show _; simp only; omega) _).far (by show _; simp only; omega) _).far (by show _; simp only; omega) _).far (by show _; simp only; omega) _).far (by show _; simp only; omega) _).far (by show _; simp only; omega) _
  · exact ((((((HB5.out.setCell (stle 2) _).setCell (stle 2) _).setCell (stle 1) _).setCell (stle 1) _).setCell (stle 1) _).setCell (stle 1) _).setCell (stle 1) _

set_option linter.unusedVariables false in
set_option linter.unusedSimpArgs false in
set_option maxRecDepth 100000 in
set_option maxHeartbeats 1600000 in
theorem eqStep_refl (A A' : Option Addr) (cap cap' : Nat) (q : Stp) (w : World) (hn : q.c.n ≤ 1048576) (hr : Rd w w.heap.size A q.c.n q.c.c q.c.l) (hr' : Rd w w.heap.size A' q.c.n q.c.c q.c.l) :
    Calls Tryd.prog 10 #[.agg #[.int .i64 q.k, .int .i64 q.a, .int .i64 q.b, .slice A q.c.n cap, .int .i64 q.c.bd], .agg #[.int .i64 q.k, .int .i64 q.a, .int .i64 q.b, .slice A' q.c.n cap', .int .i64 q.c.bd]] w fun e w' => e = .returned (.bool true) ∧ Below w.heap.size w w' := by
  obtain ⟨k, a, b, ⟨n, bd, c, l⟩⟩ := q
  simp only at hn hr hr' ⊢
  have HB := Lib.hid (bl_alloc (bl_alloc (Below.refl w.heap.size w) (.cells #[.int .i64 k, .int .i64 a, .int .i64 b, .slice A n cap, .int .i64 bd] 33)) (.cells #[.int .i64 k, .int .i64 a, .int .i64 b, .slice A' n cap', .int .i64 bd] 33))
  have HR := Lib.hid (hr.later HB.out)
  have HR' := Lib.hid (hr'.later HB.out)
  clear hr hr'
  go_enter Tryd.func10, Tryd.ntmps10
  go_wp2_with fail
  refine (eqConstraint_same A A' n cap cap' bd bd c l c l _ hn HR.out HR'.out).mono ?_
  rintro e w' ⟨rfl, hb⟩
  rw [ceq_refl]
  have HB2 := Lib.hid (bl_trans HB.out hb)
  clear hb
  go_wp2
  go_ret
  exact ⟨rfl, HB2.out⟩

end Go.Proofs.YtbebdhjhlheboaaDoor
