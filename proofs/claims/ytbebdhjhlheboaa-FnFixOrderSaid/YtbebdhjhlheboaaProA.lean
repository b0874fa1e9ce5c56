/- Contracts of the helpers over slices of constraints of the exact laws (no claim of its own). Conditions: as each theorem states. -/
import Derived.Test.YtbebdhjhlheboaaComA
namespace Go.Proofs.Ytbebdhjhlheboaa
open Go.ChangeShapes Go.WideShapes Go.ChangeAt Go.RowKit

/-- What a constraint says. -/
structure Con where
  n : Nat
  bd : Int
  c : Nat → Int
  l : Nat → Int

/-- A slice of constraints: element i says what p i says. -/
def RdP (w : World) (B : Nat) (A : Option Addr) (n : Nat) (p : Nat → Con) : Prop :=
  0 < n → ∃ b off, A = some ⟨b, off, none⟩ ∧ b < B ∧ ∀ i, i < n → ∃ Ai ci, w.cell? ⟨b, off + i * 2, none⟩ = some (.slice Ai (p i).n ci) ∧ w.cell? ⟨b, off + i * 2 + 1, none⟩ = some (.int .i64 (p i).bd) ∧ Rd w B Ai (p i).n (p i).c (p i).l
theorem RdP.below {w w' : World} {B : Nat} {A : Option Addr} {n : Nat} {p : Nat → Con} (h : RdP w B A n p) (hb : Below B w w') : RdP w' B A n p := fun hn => by
  obtain ⟨b, off, e, hlt, hc⟩ := h hn
  refine ⟨b, off, e, hlt, fun i hi => ?_⟩
  obtain ⟨Ai, ci, h1, h2, h3⟩ := hc i hi
  exact ⟨Ai, ci, (hb.cell (p := ⟨b, _, none⟩) hlt).trans h1, (hb.cell (p := ⟨b, _, none⟩) hlt).trans h2, h3.below hb⟩
theorem RdP.more {w : World} {B B' : Nat} {A : Option Addr} {n : Nat} {p : Nat → Con} (h : RdP w B A n p) (hB : B ≤ B') : RdP w B' A n p := fun hn => by
  obtain ⟨b, off, e, hlt, hc⟩ := h hn
  refine ⟨b, off, e, by omega, fun i hi => ?_⟩
  obtain ⟨Ai, ci, h1, h2, h3⟩ := hc i hi
  exact ⟨Ai, ci, h1, h2, h3.more hB⟩
theorem RdP.later {w w' : World} {A : Option Addr} {n : Nat} {p : Nat → Con} (h : RdP w w.heap.size A n p) (hb : Below w.heap.size w w') : RdP w' w'.heap.size A n p := (h.below hb).more hb.size

/-- How many terms the first k constraints have. -/
def tot (p : Nat → Con) : Nat → Nat
  | 0 => 0
  | k + 1 => tot p k + (p k).n
theorem tot_le (p : Nat → Con) {k n : Nat} (h : k ≤ n) : tot p k ≤ tot p n := by
  induction n with
  | zero =>
    obtain rfl : k = 0 := by omega
    exact Nat.le_refl _
  | succ n ih =>
    by_cases e : k = n + 1
    · subst e; exact Nat.le_refl _
    · have := ih (by omega)
      show tot p k ≤ tot p n + (p n).n
      omega
theorem tot_at (p : Nat → Con) {k n : Nat} (h : k < n) : tot p k + (p k).n ≤ tot p n := tot_le p (show k + 1 ≤ n from h)

set_option maxHeartbeats 800000 in
theorem szConstraintS_ok (A : Option Addr) (n cap : Nat) (p : Nat → Con) (left : Int) (w : World) (h0 : 0 ≤ left) (h1 : left ≤ 1048576) (hn : (n : Int) + tot p n ≤ left) (hr : RdP w w.heap.size A n p) :
    Calls Try.prog 11 #[.slice A n cap, .int .i64 left] w fun e w' => e = .returned (.int .i64 (left - n - tot p n)) ∧ Below w.heap.size w w' := by
  have hge : ¬ (left - n < 0) := by omega
  go_enter Try.func11, Try.ntmps11
  go_wp2
  go_loopw [1, 5] (fun t i wr => ∃ k : Nat, k ≤ n ∧ i = .int .i64 k ∧ t = .int .i64 (left - n - tot p k) ∧ Below w.heap.size w wr) (fun _ i _ => n - (intOf i).toNat)
  case atStart => exact ⟨0, Nat.zero_le _, rfl, by show _ = Value.int .i64 (left - n - (0 : Nat)); simp, Below.refl _ _⟩
  case round =>
    obtain ⟨k, hk, rfl, rfl, hb⟩ := hrel
    by_cases hlt : k < n
    · have ht := tot_at p hlt
      obtain ⟨b, off, rfl, hbl, hc⟩ := (hr.below hb) (by omega)
      obtain ⟨Ai, ci, hc1, hc2, _⟩ := hc k hlt
      have hge2 : ¬ (left - n - tot p k - (p k).n < 0) := by omega
      have hnx : (left - n - tot p k - (p k).n : Int) = left - n - tot p (k + 1) := by show _ = left - n - ((tot p k + (p k).n : Nat) : Int); omega
      have Hnx := Lib.hid hnx
      clear hc hr hnx
      go_wp2_with (go_at_call 29; refine (szConstraint_ok _ _ _ _ _ _ (by omega) (by omega) (by omega)).mono ?_; rintro e w' ⟨rfl, hb1⟩)
      go_roundw
      case rel => exact ⟨k + 1, by omega, by go_num, by rw [Hnx.out], hb.trans (hb1.mono hb.size)⟩
      case measure => simp [intOf]; omega
    · have e : k = n := by omega
      subst e
      go_wp2
      go_ret
      exact ⟨rfl, hb⟩

set_option maxHeartbeats 800000 in
theorem szConstraintS_no (A : Option Addr) (n cap : Nat) (p : Nat → Con) (left : Int) (w : World) (h0 : 0 ≤ left) (h1 : left ≤ 1048576) (hn : left < (n : Int) + tot p n) (hm : n ≤ maxLen) (hm' : ∀ i, i < n → (p i).n ≤ maxLen) (hr : RdP w w.heap.size A n p) :
    Calls Try.prog 11 #[.slice A n cap, .int .i64 left] w fun e w' => e = .returned (.int .i64 (-1)) ∧ Below w.heap.size w w' := by
  unfold maxLen at hm
  by_cases hge : left - n < 0
  · go_enter Try.func11, Try.ntmps11
    go_wp2
    go_ret
    exact ⟨rfl, Below.refl _ _⟩
  · go_enter Try.func11, Try.ntmps11
    go_wp2
    go_loopw [1, 5] (fun t i wr => ∃ k : Nat, k ≤ n ∧ i = .int .i64 k ∧ t = .int .i64 (left - n - tot p k) ∧ (n : Int) + tot p k ≤ left ∧ Below w.heap.size w wr) (fun _ i _ => n - (intOf i).toNat)
    case atStart => exact ⟨0, Nat.zero_le _, rfl, by show _ = Value.int .i64 (left - n - (0 : Nat)); simp, by show (n : Int) + (0 : Nat) ≤ left; omega, Below.refl _ _⟩
    case round =>
      obtain ⟨k, hk, rfl, rfl, hle, hb⟩ := hrel
      by_cases hlt : k < n
      · have hmk := hm' k hlt
        obtain ⟨b, off, rfl, hbl, hc⟩ := (hr.below hb) (by omega)
        obtain ⟨Ai, ci, hc1, hc2, _⟩ := hc k hlt
        clear hc hr hm'
        by_cases hs : left - n - tot p k < (p k).n
        · go_wp2_with (go_at_call 29; refine (szConstraint_no _ _ _ _ _ _ (by omega) (by omega) (by omega) hmk).mono ?_; rintro e w' ⟨rfl, hb1⟩)
          go_ret
          exact ⟨rfl, hb.trans (hb1.mono hb.size)⟩
        · have hge2 : ¬ (left - n - tot p k - (p k).n < 0) := by omega
          have hnx : (left - n - tot p k - (p k).n : Int) = left - n - tot p (k + 1) := by show _ = left - n - ((tot p k + (p k).n : Nat) : Int); omega
          have hle2 : (n : Int) + tot p (k + 1) ≤ left := by show (n : Int) + ((tot p k + (p k).n : Nat) : Int) ≤ left; omega
          have Hnx := Lib.hid hnx
          have Hle := Lib.hid hle2
          clear hnx hle2
          go_wp2_with (go_at_call 29; refine (szConstraint_ok _ _ _ _ _ _ (by omega) (by omega) (by omega)).mono ?_; rintro e w' ⟨rfl, hb1⟩)
          go_roundw
          case rel => exact ⟨k + 1, by omega, by go_num, by rw [Hnx.out], Hle.out, hb.trans (hb1.mono hb.size)⟩
          case measure => simp [intOf]; omega
      · exfalso
        have e : k = n := by omega
        subst e
        omega

theorem Try.infoCon : (Try.prog.info? 55).map (fun i => (i.zero, i.size, i.bytes)) = some (some (.agg #[.slice none 0 0, .int .i64 0]), 2, 32) := by kernel_rfl

/-- A block of the call's own that holds constraints, each with terms of its own: the first k of them are known. -/
def OwnP (w : World) (G : Nat) (n k : Nat) (p : Nat → Con) : Prop :=
  ∃ cs : Array Value, w.heap[G]? = some (.cells cs 55 (0, 0)) ∧ cs.size = n * 2 ∧
    ∀ i, i < k → ∃ g, G < g ∧ cs[i * 2]? = some (.slice (some ⟨g, 0, none⟩) (p i).n (p i).n) ∧ cs[i * 2 + 1]? = some (.int .i64 (p i).bd) ∧ OwnT w g (p i).n (p i).n (p i).c (p i).l
section
variable {w w' : World} {G n k : Nat} {p : Nat → Con}
theorem OwnP.lt (h : OwnP w G n k p) : G < w.heap.size := by
  obtain ⟨cs, hh, h1, h2⟩ := h
  rcases Nat.lt_or_ge G w.heap.size with hlt | hge
  · exact hlt
  · rw [Array.getElem?_eq_none hge] at hh; cases hh
theorem OwnP.below (h : OwnP w G n k p) (hb : Below w.heap.size w w') : OwnP w' G n k p := by
  have hlt := h.lt
  obtain ⟨cs, hh, h1, h2⟩ := h
  refine ⟨cs, (hb.block G hlt).trans hh, h1, fun i hi => ?_⟩
  obtain ⟨g, hg, a, b, c⟩ := h2 i hi
  exact ⟨g, hg, a, b, c.below hb c.lt⟩
theorem OwnP.rdAt (h : OwnP w G n n p) : RdP w w.heap.size (some ⟨G, 0, none⟩) n p := fun _ => by
  have hlt := h.lt
  obtain ⟨cs, hh, h1, h2⟩ := h
  refine ⟨G, 0, rfl, hlt, fun i hi => ?_⟩
  obtain ⟨g, hg, a, b, c⟩ := h2 i hi
  rw [Nat.zero_add]
  exact ⟨_, _, (cell_of_row w G _ cs _ _ hh).trans a, (cell_of_row w G _ cs _ _ hh).trans b, c.rdAt⟩
theorem OwnP.cell (h : OwnP w G n k p) {j : Nat} (hj : j < n * 2) : ∃ u, w.cell? ⟨G, j, none⟩ = some u := by
  obtain ⟨cs, hh, h1, h2⟩ := h
  exact ⟨cs[j]'(by omega), (cell_of_row w G _ cs _ _ hh).trans (Array.getElem?_eq_getElem (by omega))⟩
theorem OwnP.frozen (h : OwnP w G n k p) (j : Nat) : w.frozen? ⟨G, j, none⟩ = false := by
  obtain ⟨cs, hh, h1, h2⟩ := h
  simp [World.frozen?, hh]
theorem OwnP.put {g : Nat} (h : OwnP w G n k p) (hk : k < n) (hg : G < g) (ho : OwnT w g (p k).n (p k).n (p k).c (p k).l) :
    OwnP ((w.setCell ⟨G, k * 2, none⟩ (.slice (some ⟨g, 0, none⟩) (p k).n (p k).n)).setCell ⟨G, k * 2 + 1, none⟩ (.int .i64 (p k).bd)) G n (k + 1) p := by
  obtain ⟨cs, hh, h1, h2⟩ := h
  refine ⟨(cs.setIfInBounds (k * 2) (.slice (some ⟨g, 0, none⟩) (p k).n (p k).n)).setIfInBounds (k * 2 + 1) (.int .i64 (p k).bd), ?_, by simp [h1], fun i hi => ?_⟩
  · simp [World.setCell, Array.getElem?_modify, hh]
  · simp only [Array.getElem?_setIfInBounds]
    by_cases e : i = k
    · subst e
      refine ⟨g, hg, ?_, ?_, (ho.far (by show g ≠ G; omega) _).far (by show g ≠ G; omega) _⟩
      · rw [if_neg (by omega), if_pos rfl, if_pos (by omega)]
      · rw [if_pos rfl, if_pos (by simp; omega)]
    · obtain ⟨g', hg', a, b, c⟩ := h2 i (by omega)
      refine ⟨g', hg', ?_, ?_, (c.far (by show g' ≠ G; omega) _).far (by show g' ≠ G; omega) _⟩
      · rw [if_neg (by omega), if_neg (by omega)]; exact a
      · rw [if_neg (by omega), if_neg (by omega)]; exact b
end

set_option maxHeartbeats 800000 in
theorem toConstraintS_any (A : Option Addr) (n cap : Nat) (p : Nat → Con) (w : World) (hn : n ≤ 1048576) (hn' : ∀ i, i < n → (p i).n ≤ 1048576) (hr : RdP w w.heap.size A n p) :
    Calls Try.prog 13 #[.slice A n cap] w fun e w' => ∃ G, e = .returned (.slice (some ⟨G, 0, none⟩) n n) ∧ w.heap.size ≤ G ∧ OwnP w' G n n p ∧ Below w.heap.size w w' := by
  obtain ⟨i0, hi, hz0, hz1, hz2⟩ := info_parts Try.infoCon
  have hmk := fun W => run_make (P := Try.prog) W 25 55 i0 _ Try.underlying25 hi hz0 .i64 .i64 (n : Int) n (by omega) (by omega) (by rw [hz2]; omega) (by omega)
  rw [hz1] at hmk
  clear hi hz0 hz1 hz2
  go_enter Try.func13, Try.ntmps13
  go_wp2
  go_loopw [4] (fun i wr => ∃ k : Nat, k ≤ n ∧ i = .int .i64 k ∧ OwnP wr w.heap.size n k p ∧ Below w.heap.size w wr) (fun i _ => n - (intOf i).toNat)
  case atStart => exact ⟨0, Nat.zero_le _, rfl, ⟨_, heap_alloc_new _ _, by simp [size_madeCells], fun i hi => absurd hi (by omega)⟩, bl_alloc (Below.refl _ _) _⟩
  case round =>
    obtain ⟨k, hk, rfl, hown, hb⟩ := hrel
    by_cases hlt : k < n
    · have hnk := hn' k hlt
      obtain ⟨b, off, rfl, hbl, hc⟩ := (hr.below hb) (by omega)
      obtain ⟨Ai, ci, hc1, hc2, hrk⟩ := hc k hlt
      have hrk' := hrk.more hb.size
      have hzz := hown.lt
      clear hc hmk hr hn' hrk
      go_wp2_with (go_at_call 31; refine (toConstraint_any _ _ _ _ (p k).c (p k).l _ hnk hrk').mono ?_; rintro e w' ⟨g, rfl, hg, hot, hb1⟩; have hown1 := hown.below hb1; clear hown; obtain ⟨y1, hy1⟩ := hown1.cell (j := k * 2) (by omega); obtain ⟨y2, hy2⟩ := hown1.cell (j := k * 2 + 1) (by omega); have hf1 := hown1.frozen (k * 2); have hf2 := hown1.frozen (k * 2 + 1))
      go_roundw
      case rel => exact ⟨k + 1, by omega, by go_num, hown1.put hlt (by omega) hot, ((hb.trans (hb1.mono hb.size)).setCell (Nat.le_refl _) _).setCell (Nat.le_refl _) _⟩
      case measure => simp [intOf]; omega
    · have e : k = n := by omega
      subst e
      go_wp2
      go_ret
      exact ⟨_, rfl, Nat.le_refl _, hown, hb⟩

set_option maxRecDepth 100000 in
set_option maxHeartbeats 800000 in
/-- Two slices with the same constraints are equal. -/
theorem eqConstraintS_refl (A A' : Option Addr) (n cap cap' : Nat) (p : Nat → Con) (w : World) (hn : n ≤ 1048576) (hn' : ∀ i, i < n → (p i).n ≤ 1048576) (hr : RdP w w.heap.size A n p) (hr' : RdP w w.heap.size A' n p) :
    Calls Try.prog 16 #[.slice A n cap, .slice A' n cap'] w fun e w' => e = .returned (.bool true) ∧ Below w.heap.size w w' := by
  go_enter Try.func16, Try.ntmps16
  go_wp2
  go_loopw [5] (fun i wr => ∃ k : Nat, k ≤ n ∧ i = .int .i64 k ∧ Below w.heap.size w wr) (fun i _ => n - (intOf i).toNat)
  case atStart => exact ⟨0, Nat.zero_le _, rfl, Below.refl _ _⟩
  case round =>
    obtain ⟨k, hk, rfl, hb⟩ := hrel
    by_cases hlt : k < n
    · have hnk := hn' k hlt
      obtain ⟨b, off, rfl, hbl, hc⟩ := (hr.below hb) (by omega)
      obtain ⟨b', off', rfl, hbl', hc'⟩ := (hr'.below hb) (by omega)
      obtain ⟨Ai, ci, hc1, hc2, hrk⟩ := hc k hlt
      obtain ⟨Ai', ci', hc3, hc4, hrk'⟩ := hc' k hlt
      have hr1 := Lib.hid ((hrk.more hb.size).later ((Below.refl _ _).drew))
      have hr2 := Lib.hid ((hrk'.more hb.size).later ((Below.refl _ _).drew))
      clear hc hc' hr hr' hn' hrk hrk'
      have hlt' : (k : Int) < (n : Int) := by omega
      have hk0 : (0 : Int) ≤ (k : Int) := by omega
      go_wp2_with fail
      go_still_tail 8, (by kernel_rfl)
      change wpList _ _ _ _ _ wr.drew
      go_wp2_with (go_at_call 33; refine (eqConstraint_same _ _ _ _ _ _ _ (p k).c (p k).l (p k).c (p k).l _ hnk hr1.out hr2.out).mono ?_; rintro e w' ⟨rfl, hb1⟩; rw [ceq_refl])
      go_roundw
      case rel => exact ⟨k + 1, by omega, by go_num, hb.drew.trans (hb1.mono hb.size)⟩
      case measure => simp [intOf]; omega
    · have e : k = n := by omega
      subst e
      go_wp2
      go_ret
      exact ⟨rfl, hb⟩

/-- The first k constraints are valid. -/
def allV (p : Nat → Con) : Nat → Bool
  | 0 => true
  | k + 1 => allV p k && validB (p k).n (p k).c (p k).l (p k).bd
/-- Whether a list of constraints is a problem. -/
def probB (n : Nat) (p : Nat → Con) : Bool := allV p n && decide (n ≤ 400)
theorem allV_at {p : Nat → Con} {n k : Nat} (h : allV p n = true) (hk : k < n) : validB (p k).n (p k).c (p k).l (p k).bd = true := by
  induction n with
  | zero => omega
  | succ n ih =>
    unfold allV at h
    rw [Bool.and_eq_true] at h
    by_cases e : k = n
    · subst e; exact h.2
    · exact ih h.1 (by omega)
theorem allV_no {p : Nat → Con} {n k : Nat} (h : validB (p k).n (p k).c (p k).l (p k).bd = false) (hk : k < n) : allV p n = false := by
  cases hv : allV p n with
  | false => rfl
  | true => rw [allV_at hv hk] at h; cases h
theorem allV_yes {p : Nat → Con} {k : Nat} (h : allV p k = true) (h1 : validB (p k).n (p k).c (p k).l (p k).bd = true) : allV p (k + 1) = true := by
  unfold allV
  rw [h, h1]
  rfl
end Go.Proofs.Ytbebdhjhlheboaa
