/- Contracts of the helpers over steps of the exact laws (no claim of its own). Conditions: as each theorem states. -/
import Derived.Test.YtafiikfaeomhpaaProA
import Derived.StillTailTactics
namespace Go.Proofs.Ytafiikfaeomhpaa
open Go.ChangeShapes Go.WideShapes Go.ChangeAt Go.RowKit

/-- What a step says. -/
structure Stp where
  k : Int
  a : Int
  b : Int
  c : Con

/-- A slice of steps: element i says what p i says. -/
def RdT (w : World) (B : Nat) (A : Option Addr) (n : Nat) (p : Nat → Stp) : Prop :=
  0 < n → ∃ b off, A = some ⟨b, off, none⟩ ∧ b < B ∧ ∀ i, i < n → ∃ Ai ci, w.cell? ⟨b, off + i * 5, none⟩ = some (.int .i64 (p i).k) ∧ w.cell? ⟨b, off + i * 5 + 1, none⟩ = some (.int .i64 (p i).a) ∧ w.cell? ⟨b, off + i * 5 + 2, none⟩ = some (.int .i64 (p i).b) ∧ w.cell? ⟨b, off + i * 5 + 3, none⟩ = some (.slice Ai (p i).c.n ci) ∧ w.cell? ⟨b, off + i * 5 + 4, none⟩ = some (.int .i64 (p i).c.bd) ∧ Rd w B Ai (p i).c.n (p i).c.c (p i).c.l
theorem RdT.below {w w' : World} {B : Nat} {A : Option Addr} {n : Nat} {p : Nat → Stp} (h : RdT w B A n p) (hb : Below B w w') : RdT w' B A n p := fun hn => by
  obtain ⟨b, off, e, hlt, hc⟩ := h hn
  refine ⟨b, off, e, hlt, fun i hi => ?_⟩
  obtain ⟨Ai, ci, h0, h1, h2, h3, h4, h5⟩ := hc i hi
  exact ⟨Ai, ci, (hb.cell (p := ⟨b, _, none⟩) hlt).trans h0, (hb.cell (p := ⟨b, _, none⟩) hlt).trans h1, (hb.cell (p := ⟨b, _, none⟩) hlt).trans h2, (hb.cell (p := ⟨b, _, none⟩) hlt).trans h3, (hb.cell (p := ⟨b, _, none⟩) hlt).trans h4, h5.below hb⟩
theorem RdT.more {w : World} {B B' : Nat} {A : Option Addr} {n : Nat} {p : Nat → Stp} (h : RdT w B A n p) (hB : B ≤ B') : RdT w B' A n p := fun hn => by
  obtain ⟨b, off, e, hlt, hc⟩ := h hn
  refine ⟨b, off, e, by omega, fun i hi => ?_⟩
  obtain ⟨Ai, ci, h0, h1, h2, h3, h4, h5⟩ := hc i hi
  exact ⟨Ai, ci, h0, h1, h2, h3, h4, h5.more hB⟩
theorem RdT.later {w w' : World} {A : Option Addr} {n : Nat} {p : Nat → Stp} (h : RdT w w.heap.size A n p) (hb : Below w.heap.size w w') : RdT w' w'.heap.size A n p := (h.below hb).more hb.size
theorem stle {x : Nat} (j : Nat) : x ≤ x + j := Nat.le_add_right x j
theorem frozen_st {w : World} {G : Nat} {cs : Array Value} {T : TypeId} (h : w.heap[G]? = some (.cells cs T (0, 0))) (j : Nat) : w.frozen? ⟨G, j, none⟩ = false := by simp [World.frozen?, h]
/-- The constraints of steps. -/
def cons (p : Nat → Stp) (i : Nat) : Con := (p i).c

set_option linter.unusedVariables false in
set_option linter.unusedSimpArgs false in
set_option maxRecDepth 100000 in
set_option maxHeartbeats 1600000 in
theorem szStep_ok (A : Option Addr) (n c : Nat) (k a b bd left : Int) (w : World) (h0 : 0 ≤ left) (h1 : left ≤ 1048576) (hn : (n : Int) ≤ left) :
    Calls Try.prog 69 #[.agg #[.int .i64 k, .int .i64 a, .int .i64 b, .slice A n c, .int .i64 bd], .int .i64 left] w fun e w' => e = .returned (.int .i64 (left - n)) ∧ Below w.heap.size w w' := by
  have HB := Lib.hid (bl_alloc (Below.refl w.heap.size w) (.cells #[.int .i64 k, .int .i64 a, .int .i64 b, .slice A n c, .int .i64 bd] 98))
  have hge : ¬ (left - n < 0) := by omega
  go_enter Try.func69, Try.ntmps69
  go_wp2_with (go_at_call 96; refine (szConstraint_ok _ _ _ _ _ _ h0 h1 hn).mono ?_; rintro e w' ⟨rfl, hb⟩; have HB2 := Lib.hid (bl_trans HB.out hb); clear hb)
  go_ret
  exact ⟨rfl, HB2.out⟩

set_option linter.unusedVariables false in
set_option linter.unusedSimpArgs false in
set_option maxRecDepth 100000 in
set_option maxHeartbeats 1600000 in
theorem szStep_no (A : Option Addr) (n c : Nat) (k a b bd left : Int) (w : World) (h0 : 0 ≤ left) (h1 : left ≤ 1048576) (hn : left < (n : Int)) (hm : n ≤ maxLen) :
    Calls Try.prog 69 #[.agg #[.int .i64 k, .int .i64 a, .int .i64 b, .slice A n c, .int .i64 bd], .int .i64 left] w fun e w' => e = .returned (.int .i64 (-1)) ∧ Below w.heap.size w w' := by
  have HB := Lib.hid (bl_alloc (Below.refl w.heap.size w) (.cells #[.int .i64 k, .int .i64 a, .int .i64 b, .slice A n c, .int .i64 bd] 98))
  go_enter Try.func69, Try.ntmps69
  go_wp2_with (go_at_call 96; refine (szConstraint_no _ _ _ _ _ _ h0 h1 hn hm).mono ?_; rintro e w' ⟨rfl, hb⟩; have HB2 := Lib.hid (bl_trans HB.out hb); clear hb)
  go_ret
  exact ⟨rfl, HB2.out⟩

set_option linter.unusedVariables false in
set_option linter.unusedSimpArgs false in
set_option maxRecDepth 100000 in
set_option maxHeartbeats 1600000 in
theorem szStepS_ok (A : Option Addr) (n cap : Nat) (p : Nat → Stp) (left : Int) (w : World) (h0 : 0 ≤ left) (h1 : left ≤ 1048576) (hn : (n : Int) + tot (cons p) n ≤ left) (hr : RdT w w.heap.size A n p) :
    Calls Try.prog 32 #[.slice A n cap, .int .i64 left] w fun e w' => e = .returned (.int .i64 (left - n - tot (cons p) n)) ∧ Below w.heap.size w w' := by
  have hge : ¬ (left - n < 0) := by omega
  go_enter Try.func32, Try.ntmps32
  go_wp2
  go_loopw [1, 5] (fun t i wr => ∃ k : Nat, k ≤ n ∧ i = .int .i64 k ∧ t = .int .i64 (left - n - tot (cons p) k) ∧ Below w.heap.size w wr) (fun _ i _ => n - (intOf i).toNat)
  case atStart => exact ⟨0, Nat.zero_le _, rfl, by show _ = Value.int .i64 (left - n - (0 : Nat)); simp, Below.refl _ _⟩
  case round =>
    obtain ⟨k, hk, rfl, rfl, hb⟩ := hrel
    by_cases hlt : k < n
    · have ht := tot_at (cons p) hlt
      obtain ⟨b, off, rfl, hbl, hc⟩ := (hr.below hb) (by omega)
      obtain ⟨Ai, ci, hc0, hc1, hc2, hc3, hc4, _⟩ := hc k hlt
      have hcn : (cons p k).n = (p k).c.n := rfl
      have hge2 : ¬ (left - n - tot (cons p) k - (p k).c.n < 0) := by omega
      have hnx : (left - n - tot (cons p) k - (p k).c.n : Int) = left - n - tot (cons p) (k + 1) := by show _ = left - n - ((tot (cons p) k + (cons p k).n : Nat) : Int); omega
      have Hnx := Lib.hid hnx
      have hb5 : 0 ≤ left - n - tot (cons p) k := by omega
      have hb6 : left - n - tot (cons p) k ≤ 1048576 := by omega
      have hb7 : ((p k).c.n : Int) ≤ left - n - tot (cons p) k := by omega
      have HSz := Lib.hid (fun W => szStep_ok Ai (p k).c.n ci (p k).k (p k).a (p k).b (p k).c.bd _ W hb5 hb6 hb7)
      clear hc hr hnx hcn hb7
      go_wp2_with (go_at_call 69; refine (HSz.out _).mono ?_; rintro e w' ⟨rfl, hb1⟩)
      go_roundw
      case rel => exact ⟨k + 1, by omega, by go_num, by rw [Hnx.out], hb.trans (hb1.mono hb.size)⟩
      case measure => simp [intOf]; omega
    · have e : k = n := by omega
      subst e
      go_wp2
      go_ret
      exact ⟨rfl, hb⟩

set_option linter.unusedVariables false in
set_option linter.unusedSimpArgs false in
set_option maxRecDepth 100000 in
set_option maxHeartbeats 1600000 in
theorem szStepS_no (A : Option Addr) (n cap : Nat) (p : Nat → Stp) (left : Int) (w : World) (h0 : 0 ≤ left) (h1 : left ≤ 1048576) (hn : left < (n : Int) + tot (cons p) n) (hm : n ≤ maxLen) (hm' : ∀ i, i < n → (p i).c.n ≤ maxLen) (hr : RdT w w.heap.size A n p) :
    Calls Try.prog 32 #[.slice A n cap, .int .i64 left] w fun e w' => e = .returned (.int .i64 (-1)) ∧ Below w.heap.size w w' := by
  unfold maxLen at hm
  by_cases hge : left - n < 0
  · go_enter Try.func32, Try.ntmps32
    go_wp2
    go_ret
    exact ⟨rfl, Below.refl _ _⟩
  · go_enter Try.func32, Try.ntmps32
    go_wp2
    go_loopw [1, 5] (fun t i wr => ∃ k : Nat, k ≤ n ∧ i = .int .i64 k ∧ t = .int .i64 (left - n - tot (cons p) k) ∧ (n : Int) + tot (cons p) k ≤ left ∧ Below w.heap.size w wr) (fun _ i _ => n - (intOf i).toNat)
    case atStart => exact ⟨0, Nat.zero_le _, rfl, by show _ = Value.int .i64 (left - n - (0 : Nat)); simp, by show (n : Int) + (0 : Nat) ≤ left; omega, Below.refl _ _⟩
    case round =>
      obtain ⟨k, hk, rfl, rfl, hle, hb⟩ := hrel
      by_cases hlt : k < n
      · have hmk := hm' k hlt
        obtain ⟨b, off, rfl, hbl, hc⟩ := (hr.below hb) (by omega)
        obtain ⟨Ai, ci, hc0, hc1, hc2, hc3, hc4, _⟩ := hc k hlt
        have hcn : (cons p k).n = (p k).c.n := rfl
        have hb5 : 0 ≤ left - n - tot (cons p) k := by omega
        have hb6 : left - n - tot (cons p) k ≤ 1048576 := by omega
        clear hc hr hm'
        by_cases hs : left - n - tot (cons p) k < (p k).c.n
        · have HSz := Lib.hid (fun W => szStep_no Ai (p k).c.n ci (p k).k (p k).a (p k).b (p k).c.bd _ W hb5 hb6 hs hmk)
          clear hcn
          go_wp2_with (go_at_call 69; refine (HSz.out _).mono ?_; rintro e w' ⟨rfl, hb1⟩)
          go_ret
          exact ⟨rfl, hb.trans (hb1.mono hb.size)⟩
        · have hge2 : ¬ (left - n - tot (cons p) k - (p k).c.n < 0) := by omega
          have hnx : (left - n - tot (cons p) k - (p k).c.n : Int) = left - n - tot (cons p) (k + 1) := by show _ = left - n - ((tot (cons p) k + (cons p k).n : Nat) : Int); omega
          have hle2 : (n : Int) + tot (cons p) (k + 1) ≤ left := by show (n : Int) + ((tot (cons p) k + (cons p k).n : Nat) : Int) ≤ left; omega
          have Hnx := Lib.hid hnx
          have Hle := Lib.hid hle2
          have HSz := Lib.hid (fun W => szStep_ok Ai (p k).c.n ci (p k).k (p k).a (p k).b (p k).c.bd _ W hb5 hb6 (by omega))
          clear hnx hle2 hcn
          go_wp2_with (go_at_call 69; refine (HSz.out _).mono ?_; rintro e w' ⟨rfl, hb1⟩)
          go_roundw
          case rel => exact ⟨k + 1, by omega, by go_num, by rw [Hnx.out], Hle.out, hb.trans (hb1.mono hb.size)⟩
          case measure => simp [intOf]; omega
      · exfalso
        have e : k = n := by omega
        subst e
        omega

theorem Try.infoStp : (Try.prog.info? 103).map (fun i => (i.zero, i.size, i.bytes)) = some (some (.agg #[.int .i64 0, .int .i64 0, .int .i64 0, .slice none 0 0, .int .i64 0]), 5, 56) := by kernel_rfl

/-- A block of the call's own that holds steps, each with terms of its own: the first k of them are known. -/
def OwnS (w : World) (G : Nat) (n k : Nat) (p : Nat → Stp) : Prop :=
  ∃ cs : Array Value, w.heap[G]? = some (.cells cs 103 (0, 0)) ∧ cs.size = n * 5 ∧
    ∀ i, i < k → ∃ g, G < g ∧ cs[i * 5]? = some (.int .i64 (p i).k) ∧ cs[i * 5 + 1]? = some (.int .i64 (p i).a) ∧ cs[i * 5 + 2]? = some (.int .i64 (p i).b) ∧ cs[i * 5 + 3]? = some (.slice (some ⟨g, 0, none⟩) (p i).c.n (p i).c.n) ∧ cs[i * 5 + 4]? = some (.int .i64 (p i).c.bd) ∧ OwnT w g (p i).c.n (p i).c.n (p i).c.c (p i).c.l
section
variable {w w' : World} {G n k : Nat} {p : Nat → Stp}
theorem OwnS.lt (h : OwnS w G n k p) : G < w.heap.size := by
  obtain ⟨cs, hh, h1, h2⟩ := h
  rcases Nat.lt_or_ge G w.heap.size with hlt | hge
  · exact hlt
  · rw [Array.getElem?_eq_none hge] at hh; cases hh
theorem OwnS.below (h : OwnS w G n k p) (hb : Below w.heap.size w w') : OwnS w' G n k p := by
  have hlt := h.lt
  obtain ⟨cs, hh, h1, h2⟩ := h
  refine ⟨cs, (hb.block G hlt).trans hh, h1, fun i hi => ?_⟩
  obtain ⟨g, hg, a0, a1, a2, a3, a4, c⟩ := h2 i hi
  exact ⟨g, hg, a0, a1, a2, a3, a4, c.below hb c.lt⟩
theorem OwnS.rdAt (h : OwnS w G n n p) : RdT w w.heap.size (some ⟨G, 0, none⟩) n p := fun _ => by
  have hlt := h.lt
  obtain ⟨cs, hh, h1, h2⟩ := h
  refine ⟨G, 0, rfl, hlt, fun i hi => ?_⟩
  obtain ⟨g, hg, a0, a1, a2, a3, a4, c⟩ := h2 i hi
  rw [Nat.zero_add]
  exact ⟨_, _, (cell_of_row w G _ cs _ _ hh).trans a0, (cell_of_row w G _ cs _ _ hh).trans a1, (cell_of_row w G _ cs _ _ hh).trans a2, (cell_of_row w G _ cs _ _ hh).trans a3, (cell_of_row w G _ cs _ _ hh).trans a4, c.rdAt⟩
theorem OwnS.cell (h : OwnS w G n k p) {j : Nat} (hj : j < n * 5) : ∃ u, w.cell? ⟨G, j, none⟩ = some u := by
  obtain ⟨cs, hh, h1, h2⟩ := h
  exact ⟨cs[j]'(by omega), (cell_of_row w G _ cs _ _ hh).trans (Array.getElem?_eq_getElem (by omega))⟩
theorem OwnS.frozen (h : OwnS w G n k p) (j : Nat) : w.frozen? ⟨G, j, none⟩ = false := by
  obtain ⟨cs, hh, h1, h2⟩ := h
  simp [World.frozen?, hh]
theorem OwnS.put {g : Nat} (h : OwnS w G n k p) (hk : k < n) (hg : G < g) (ho : OwnT w g (p k).c.n (p k).c.n (p k).c.c (p k).c.l) :
    OwnS (((((w.setCell ⟨G, k * 5, none⟩ (.int .i64 (p k).k)).setCell ⟨G, k * 5 + 1, none⟩ (.int .i64 (p k).a)).setCell ⟨G, k * 5 + 2, none⟩ (.int .i64 (p k).b)).setCell ⟨G, k * 5 + 3, none⟩ (.slice (some ⟨g, 0, none⟩) (p k).c.n (p k).c.n)).setCell ⟨G, k * 5 + 4, none⟩ (.int .i64 (p k).c.bd)) G n (k + 1) p := by
  obtain ⟨cs, hh, h1, h2⟩ := h
  refine ⟨(((((cs.setIfInBounds (k * 5) (.int .i64 (p k).k)).setIfInBounds (k * 5 + 1) (.int .i64 (p k).a)).setIfInBounds (k * 5 + 2) (.int .i64 (p k).b)).setIfInBounds (k * 5 + 3) (.slice (some ⟨g, 0, none⟩) (p k).c.n (p k).c.n)).setIfInBounds (k * 5 + 4) (.int .i64 (p k).c.bd)), ?_, by simp [h1], fun i hi => ?_⟩
  · simp [World.setCell, Array.getElem?_modify, hh]
  · simp only [Array.getElem?_setIfInBounds, Array.size_setIfInBounds]
    by_cases e : i = k
    · subst e
      refine ⟨g, hg, ?_, ?_, ?_, ?_, ?_, (((((ho).far (by show _; simp only; omega) _).far (by show _; simp only; omega) _).far (by show _; simp only; omega) _).far (by show _; simp only; omega) _).far (by show _; simp only; omega) _⟩
      · rw [if_neg (by omega), if_neg (by omega), if_neg (by omega), if_neg (by omega), if_pos rfl, if_pos (by omega)]
      · rw [if_neg (by omega), if_neg (by omega), if_neg (by omega), if_pos rfl, if_pos (by omega)]
      · rw [if_neg (by omega), if_neg (by omega), if_pos rfl, if_pos (by omega)]
      · rw [if_neg (by omega), if_pos rfl, if_pos (by omega)]
      · rw [if_pos rfl, if_pos (by omega)]
    · obtain ⟨g', hg', a0, a1, a2, a3, a4, c⟩ := h2 i (by omega)
      refine ⟨g', hg', ?_, ?_, ?_, ?_, ?_, (((((c).far (by show _; simp only; omega) _).far (by show _; simp only; omega) _).far (by show _; simp only; omega) _).far (by show _; simp only; omega) _).far (by show _; simp only; omega) _⟩
      · rw [if_neg (by omega), if_neg (by omega), if_neg (by omega), if_neg (by omega), if_neg (by omega)]; exact a0
      · rw [if_neg (by omega), if_neg (by omega), if_neg (by omega), if_neg (by omega), if_neg (by omega)]; exact a1
      · rw [if_neg (by omega), if_neg (by omega), if_neg (by omega), if_neg (by omega), if_neg (by omega)]; exact a2
      · rw [if_neg (by omega), if_neg (by omega), if_neg (by omega), if_neg (by omega), if_neg (by omega)]; exact a3
      · rw [if_neg (by omega), if_neg (by omega), if_neg (by omega), if_neg (by omega), if_neg (by omega)]; exact a4
end

set_option linter.unusedVariables false in
set_option linter.unusedSimpArgs false in
set_option maxRecDepth 100000 in
set_option maxHeartbeats 1600000 in
theorem toStep_any (A : Option Addr) (n cap : Nat) (k a b bd : Int) (c l : Nat → Int) (w : World) (hn : n ≤ 1048576) (hr : Rd w w.heap.size A n c l) :
    Calls Try.prog 71 #[.agg #[.int .i64 k, .int .i64 a, .int .i64 b, .slice A n cap, .int .i64 bd]] w fun e w' => ∃ G, e = .returned (.agg #[.int .i64 k, .int .i64 a, .int .i64 b, .slice (some ⟨G, 0, none⟩) n n, .int .i64 bd]) ∧ w.heap.size ≤ G ∧ OwnT w' G n n c l ∧ Below w.heap.size w w' := by
  have a0 : (w.alloc (.cells #[.int .i64 k, .int .i64 a, .int .i64 b, .slice A n cap, .int .i64 bd] 98)).cell? ⟨w.heap.size, 0, none⟩ = some (.int .i64 k) := by go_simp
  have a1 : (w.alloc (.cells #[.int .i64 k, .int .i64 a, .int .i64 b, .slice A n cap, .int .i64 bd] 98)).cell? ⟨w.heap.size, 1, none⟩ = some (.int .i64 a) := by go_simp
  have a2 : (w.alloc (.cells #[.int .i64 k, .int .i64 a, .int .i64 b, .slice A n cap, .int .i64 bd] 98)).cell? ⟨w.heap.size, 2, none⟩ = some (.int .i64 b) := by go_simp
  have a3 : (w.alloc (.cells #[.int .i64 k, .int .i64 a, .int .i64 b, .slice A n cap, .int .i64 bd] 98)).cell? ⟨w.heap.size, 3, none⟩ = some (.slice A n cap) := by go_simp
  have a4 : (w.alloc (.cells #[.int .i64 k, .int .i64 a, .int .i64 b, .slice A n cap, .int .i64 bd] 98)).cell? ⟨w.heap.size, 4, none⟩ = some (.int .i64 bd) := by go_simp
  obtain ⟨WA, hWA⟩ : ∃ W, w.alloc (.cells #[.int .i64 k, .int .i64 a, .int .i64 b, .slice A n cap, .int .i64 bd] 98) = W := ⟨_, rfl⟩
  rw [hWA] at a0 a1 a2 a3 a4
  obtain ⟨WB, hWB⟩ : ∃ W, WA.alloc (.cells #[.int .i64 0, .int .i64 0, .int .i64 0, .slice none 0 0, .int .i64 0] 103) = W := ⟨_, rfl⟩
  obtain ⟨WC, hWC⟩ : ∃ W, WB.alloc (.cells #[.int .i64 k, .int .i64 a, .int .i64 b, .slice none 0 0, .int .i64 0] 103) = W := ⟨_, rfl⟩
  have sA : WA.heap.size = w.heap.size + 1 := by rw [← hWA]; simp
  have sB : WB.heap.size = w.heap.size + 2 := by rw [← hWB]; simp [sA]
  have sC : WC.heap.size = w.heap.size + 3 := by rw [← hWC]; simp [sB]
  have bA : Below w.heap.size w WA := by rw [← hWA]; exact bl_alloc (Below.refl _ _) _
  have bB : Below WA.heap.size WA WB := by rw [← hWB]; exact bl_alloc (Below.refl _ _) _
  have bC : Below WB.heap.size WB WC := by rw [← hWC]; exact bl_alloc (Below.refl _ _) _
  have r1 : WB.heap[w.heap.size + 1]? = some (.cells #[.int .i64 0, .int .i64 0, .int .i64 0, .slice none 0 0, .int .i64 0] 103 (0, 0)) := by rw [← hWB, ← sA]; exact heap_alloc_new _ _
  have r2 : WC.heap[w.heap.size + 2]? = some (.cells #[.int .i64 k, .int .i64 a, .int .i64 b, .slice none 0 0, .int .i64 0] 103 (0, 0)) := by rw [← hWC, ← sB]; exact heap_alloc_new _ _
  replace r1 := (bC.block _ (by omega)).trans r1
  replace a0 := kc bC (kc bB a0)
  replace a1 := kc bC (kc bB a1)
  replace a2 := kc bC (kc bB a2)
  replace a3 := kc bC (kc bB a3)
  replace a4 := kc bC (kc bB a4)
  have HB := Lib.hid (bl_trans (bl_trans bA bB) bC)
  have HR := Lib.hid (hr.later HB.out)
  have R1 := Lib.hid r1
  have R2 := Lib.hid r2
  have SC := Lib.hid sC
  clear bA bB bC r1 r2 hr
  have HWA := Lib.hid hWA
  have HWB := Lib.hid hWB
  have HWC := Lib.hid hWC
  clear hWA hWB hWC sA sB sC a0 a1 a2 a3 a4
  go_enter Try.func71, Try.ntmps71
  go_wp2_with fail
  rw [HWA.out, HWB.out, HWC.out]
  refine (toConstraint_any A n cap bd c l _ hn HR.out).mono ?_
  rintro e w5 ⟨G, rfl, hG, ho, hb⟩
  have hGl : w.heap.size + 3 ≤ G := by have := SC.out; omega
  have h1 := (hb.block (w.heap.size + 1) (by have := SC.out; omega)).trans R1.out
  have h2 := (hb.block (w.heap.size + 2) (by have := SC.out; omega)).trans R2.out
  have HB5 := Lib.hid (bl_trans HB.out hb)
  have HO := Lib.hid ho
  have o0 : w5.cell? ⟨w.heap.size + 2, 0, none⟩ = some (.int .i64 k) := (cell_of_row _ _ 0 _ _ _ h2).trans rfl
  have fo0 : w5.frozen? ⟨w.heap.size + 2, 0, none⟩ = false := frozen_st h2 0
  have o1 : w5.cell? ⟨w.heap.size + 2, 1, none⟩ = some (.int .i64 a) := (cell_of_row _ _ 1 _ _ _ h2).trans rfl
  have fo1 : w5.frozen? ⟨w.heap.size + 2, 1, none⟩ = false := frozen_st h2 1
  have o2 : w5.cell? ⟨w.heap.size + 2, 2, none⟩ = some (.int .i64 b) := (cell_of_row _ _ 2 _ _ _ h2).trans rfl
  have fo2 : w5.frozen? ⟨w.heap.size + 2, 2, none⟩ = false := frozen_st h2 2
  have o3 : w5.cell? ⟨w.heap.size + 2, 3, none⟩ = some (.slice none 0 0) := (cell_of_row _ _ 3 _ _ _ h2).trans rfl
  have fo3 : w5.frozen? ⟨w.heap.size + 2, 3, none⟩ = false := frozen_st h2 3
  have o4 : w5.cell? ⟨w.heap.size + 2, 4, none⟩ = some (.int .i64 0) := (cell_of_row _ _ 4 _ _ _ h2).trans rfl
  have fo4 : w5.frozen? ⟨w.heap.size + 2, 4, none⟩ = false := frozen_st h2 4
  have z0 : w5.cell? ⟨w.heap.size + 1, 0, none⟩ = some (.int .i64 0) := (cell_of_row _ _ 0 _ _ _ h1).trans rfl
  have fz0 : w5.frozen? ⟨w.heap.size + 1, 0, none⟩ = false := frozen_st h1 0
  have z1 : w5.cell? ⟨w.heap.size + 1, 1, none⟩ = some (.int .i64 0) := (cell_of_row _ _ 1 _ _ _ h1).trans rfl
  have fz1 : w5.frozen? ⟨w.heap.size + 1, 1, none⟩ = false := frozen_st h1 1
  have z2 : w5.cell? ⟨w.heap.size + 1, 2, none⟩ = some (.int .i64 0) := (cell_of_row _ _ 2 _ _ _ h1).trans rfl
  have fz2 : w5.frozen? ⟨w.heap.size + 1, 2, none⟩ = false := frozen_st h1 2
  have z3 : w5.cell? ⟨w.heap.size + 1, 3, none⟩ = some (.slice none 0 0) := (cell_of_row _ _ 3 _ _ _ h1).trans rfl
  have fz3 : w5.frozen? ⟨w.heap.size + 1, 3, none⟩ = false := frozen_st h1 3
  have z4 : w5.cell? ⟨w.heap.size + 1, 4, none⟩ = some (.int .i64 0) := (cell_of_row _ _ 4 _ _ _ h1).trans rfl
  have fz4 : w5.frozen? ⟨w.heap.size + 1, 4, none⟩ = false := frozen_st h1 4
  clear hb ho h1 h2 HB HR R1 R2 SC
  go_wp2
  refine bodyPost_ret (v := .agg #[.int .i64 k, .int .i64 a, .int .i64 b, .slice (some ⟨G, 0, none⟩) n n, .int .i64 bd]) (by simp [results, Try.results71, go_sem, z0, z1, z2, z3, z4]) rfl ⟨G, rfl, by omega, ?_, ?_⟩
  · exact ((((((HO.out.far (by show _; simp only; omega) _).far (by show _; simp only; omega) _).far (by show _; simp only; omega) _).far (by show _; simp only; omega) _).far (by show _; simp only; omega) _).far (by show _; simp only; omega) _).far (by show _; simp only; omega) _
  · exact ((((((HB5.out.setCell (stle 2) _).setCell (stle 2) _).setCell (stle 1) _).setCell (stle 1) _).setCell (stle 1) _).setCell (stle 1) _).setCell (stle 1) _

set_option linter.unusedVariables false in
set_option linter.unusedSimpArgs false in
set_option maxRecDepth 100000 in
set_option maxHeartbeats 1600000 in
theorem toStepS_any (A : Option Addr) (n cap : Nat) (p : Nat → Stp) (w : World) (hn : n ≤ 1048576) (hn' : ∀ i, i < n → (p i).c.n ≤ 1048576) (hr : RdT w w.heap.size A n p) :
    Calls Try.prog 34 #[.slice A n cap] w fun e w' => ∃ G, e = .returned (.slice (some ⟨G, 0, none⟩) n n) ∧ w.heap.size ≤ G ∧ OwnS w' G n n p ∧ Below w.heap.size w w' := by
  obtain ⟨i0, hi, hz0, hz1, hz2⟩ := info_parts Try.infoStp
  have hmk := fun W => run_make (P := Try.prog) W 57 103 i0 _ Try.underlying57 hi hz0 .i64 .i64 (n : Int) n (by omega) (by omega) (by rw [hz2]; omega) (by omega)
  rw [hz1] at hmk
  clear hi hz0 hz1 hz2
  go_enter Try.func34, Try.ntmps34
  go_wp2
  go_loopw [4] (fun i wr => ∃ k : Nat, k ≤ n ∧ i = .int .i64 k ∧ OwnS wr w.heap.size n k p ∧ Below w.heap.size w wr) (fun i _ => n - (intOf i).toNat)
  case atStart => exact ⟨0, Nat.zero_le _, rfl, ⟨_, heap_alloc_new _ _, by simp [size_madeCells], fun i hi => absurd hi (by omega)⟩, bl_alloc (Below.refl _ _) _⟩
  case round =>
    obtain ⟨k, hk, rfl, hown, hb⟩ := hrel
    by_cases hlt : k < n
    · have hnk := hn' k hlt
      obtain ⟨b, off, rfl, hbl, hc⟩ := (hr.below hb) (by omega)
      obtain ⟨Ai, ci, hc0, hc1, hc2, hc3, hc4, hrk⟩ := hc k hlt
      have hrk' := Lib.hid (hrk.more hb.size)
      have hzz := hown.lt
      have HOw := Lib.hid hown
      have HBk := Lib.hid hb
      clear hc hmk hr hn' hrk hown hb
      go_wp2_with fail
      refine (toStep_any Ai (p k).c.n ci (p k).k (p k).a (p k).b (p k).c.bd (p k).c.c (p k).c.l _ hnk hrk'.out).mono ?_
      rintro e w5 ⟨g, rfl, hg, hot, hb1⟩
      have hown1 := HOw.out.below hb1
      obtain ⟨y0, hy0⟩ := hown1.cell (j := k * 5) (by omega)
      have hf0 := hown1.frozen (k * 5)
      obtain ⟨y1, hy1⟩ := hown1.cell (j := k * 5 + 1) (by omega)
      have hf1 := hown1.frozen (k * 5 + 1)
      obtain ⟨y2, hy2⟩ := hown1.cell (j := k * 5 + 2) (by omega)
      have hf2 := hown1.frozen (k * 5 + 2)
      obtain ⟨y3, hy3⟩ := hown1.cell (j := k * 5 + 3) (by omega)
      have hf3 := hown1.frozen (k * 5 + 3)
      obtain ⟨y4, hy4⟩ := hown1.cell (j := k * 5 + 4) (by omega)
      have hf4 := hown1.frozen (k * 5 + 4)
      have HP := Lib.hid (hown1.put hlt (by omega) hot)
      have HB6 := Lib.hid (HBk.out.trans (hb1.mono HBk.out.size))
      clear hown1 hot hb1 HOw hrk' hc0 hc1 hc2 hc3 hc4
      go_wp2
      go_roundw
      case rel => exact ⟨k + 1, by omega, by go_num, HP.out, ((((HB6.out.setCell (Nat.le_refl _) _).setCell (Nat.le_refl _) _).setCell (Nat.le_refl _) _).setCell (Nat.le_refl _) _).setCell (Nat.le_refl _) _⟩
      case measure => simp [intOf]; omega
    · have e : k = n := by omega
      subst e
      go_wp2
      go_ret
      exact ⟨_, rfl, Nat.le_refl _, hown, hb⟩

set_option linter.unusedVariables false in
set_option linter.unusedSimpArgs false in
set_option maxRecDepth 100000 in
set_option maxHeartbeats 1600000 in
theorem eqStep_refl (A A' : Option Addr) (cap cap' : Nat) (q : Stp) (w : World) (hn : q.c.n ≤ 1048576) (hr : Rd w w.heap.size A q.c.n q.c.c q.c.l) (hr' : Rd w w.heap.size A' q.c.n q.c.c q.c.l) :
    Calls Try.prog 74 #[.agg #[.int .i64 q.k, .int .i64 q.a, .int .i64 q.b, .slice A q.c.n cap, .int .i64 q.c.bd], .agg #[.int .i64 q.k, .int .i64 q.a, .int .i64 q.b, .slice A' q.c.n cap', .int .i64 q.c.bd]] w fun e w' => e = .returned (.bool true) ∧ Below w.heap.size w w' := by
  obtain ⟨k, a, b, ⟨n, bd, c, l⟩⟩ := q
  simp only at hn hr hr' ⊢
  have HB := Lib.hid (bl_alloc (bl_alloc (Below.refl w.heap.size w) (.cells #[.int .i64 k, .int .i64 a, .int .i64 b, .slice A n cap, .int .i64 bd] 103)) (.cells #[.int .i64 k, .int .i64 a, .int .i64 b, .slice A' n cap', .int .i64 bd] 103))
  have HR := Lib.hid (hr.later HB.out)
  have HR' := Lib.hid (hr'.later HB.out)
  clear hr hr'
  go_enter Try.func74, Try.ntmps74
  go_wp2_with fail
  refine (eqConstraint_same A A' n cap cap' bd bd c l c l _ hn HR.out HR'.out).mono ?_
  rintro e w' ⟨rfl, hb⟩
  rw [ceq_refl]
  have HB2 := Lib.hid (bl_trans HB.out hb)
  clear hb
  go_wp2
  go_ret
  exact ⟨rfl, HB2.out⟩

set_option linter.unusedVariables false in
set_option linter.unusedSimpArgs false in
set_option maxRecDepth 100000 in
set_option maxHeartbeats 1600000 in
/-- Two slices with the same steps are equal. -/
theorem eqStepS_refl (A A' : Option Addr) (n cap cap' : Nat) (p : Nat → Stp) (w : World) (hn : n ≤ 1048576) (hn' : ∀ i, i < n → (p i).c.n ≤ 1048576) (hr : RdT w w.heap.size A n p) (hr' : RdT w w.heap.size A' n p) :
    Calls Try.prog 36 #[.slice A n cap, .slice A' n cap'] w fun e w' => e = .returned (.bool true) ∧ Below w.heap.size w w' := by
  go_enter Try.func36, Try.ntmps36
  go_wp2
  go_loopw [5] (fun i wr => ∃ k : Nat, k ≤ n ∧ i = .int .i64 k ∧ Below w.heap.size w wr) (fun i _ => n - (intOf i).toNat)
  case atStart => exact ⟨0, Nat.zero_le _, rfl, Below.refl _ _⟩
  case round =>
    obtain ⟨k, hk, rfl, hb⟩ := hrel
    by_cases hlt : k < n
    · have hnk := hn' k hlt
      obtain ⟨b, off, rfl, hbl, hc⟩ := (hr.below hb) (by omega)
      obtain ⟨b', off', rfl, hbl', hc'⟩ := (hr'.below hb) (by omega)
      obtain ⟨Ai, ci, c0, c1, c2, c3, c4, hrk⟩ := hc k hlt
      obtain ⟨Ai', ci', d0, d1, d2, d3, d4, hrk'⟩ := hc' k hlt
      have hr1 := Lib.hid ((hrk.more hb.size).later ((Below.refl _ _).drew))
      have hr2 := Lib.hid ((hrk'.more hb.size).later ((Below.refl _ _).drew))
      clear hc hc' hr hr' hn' hrk hrk'
      have hlt' : (k : Int) < (n : Int) := by omega
      have hk0 : (0 : Int) ≤ (k : Int) := by omega
      go_wp2_with fail
      go_still_tail 8, (by kernel_rfl)
      change wpList _ _ _ _ _ wr.drew
      go_wp2_with (go_at_call 74; refine (eqStep_refl _ _ _ _ (p k) _ hnk hr1.out hr2.out).mono ?_; rintro e w' ⟨rfl, hb1⟩)
      go_roundw
      case rel => exact ⟨k + 1, by omega, by go_num, hb.drew.trans (hb1.mono hb.size)⟩
      case measure => simp [intOf]; omega
    · have e : k = n := by omega
      subst e
      go_wp2
      go_ret
      exact ⟨rfl, hb⟩
end Go.Proofs.Ytafiikfaeomhpaa
