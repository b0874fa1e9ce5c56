/- Contracts of the marking and the asking helpers of the exact laws (no claim of its own). Conditions: as each theorem states. -/
import Derived.Test.YtbebdhjhlheboaaDoorComA
namespace Go.Proofs.YtbebdhjhlheboaaDoor
open Go.ChangeShapes Go.WideShapes Go.ChangeAt Go.RowKit

/-- A block that holds at least n terms: the first k of them are known. -/
def OwnU (w : World) (G : Nat) (n k : Nat) (c l : Nat → Int) : Prop :=
  ∃ cs : Array Value, w.heap[G]? = some (.cells cs 60 (0, 0)) ∧ n * 2 ≤ cs.size ∧
    ∀ i, i < k → cs[i * 2]? = some (.int .i64 (c i)) ∧ cs[i * 2 + 1]? = some (.int .i64 (l i))

theorem OwnT.u {w : World} {G n k : Nat} {c l : Nat → Int} (h : OwnT w G n k c l) : OwnU w G n k c l := by
  obtain ⟨cs, hh, h1, h2⟩ := h
  exact ⟨cs, hh, by omega, h2⟩
theorem OwnU.zero {w : World} {G n k : Nat} {c l c' l' : Nat → Int} (h : OwnU w G n k c l) : OwnU w G n 0 c' l' := by
  obtain ⟨cs, hh, h1, _⟩ := h
  exact ⟨cs, hh, h1, fun i hi => absurd hi (by omega)⟩
theorem OwnU.at_ {w w' : World} {G n k : Nat} {c l : Nat → Int} (h : OwnU w G n k c l) (hg : w'.heap[G]? = w.heap[G]?) : OwnU w' G n k c l := by
  obtain ⟨cs, hh, h1, h2⟩ := h
  exact ⟨cs, hg.trans hh, h1, h2⟩
theorem OwnU.lt {w : World} {G n k : Nat} {c l : Nat → Int} (h : OwnU w G n k c l) : G < w.heap.size := by
  obtain ⟨cs, hh, _, _⟩ := h
  rcases Nat.lt_or_ge G w.heap.size with hlt | hge
  · exact hlt
  · rw [Array.getElem?_eq_none hge] at hh; cases hh
theorem OwnU.below {w w' : World} {G n k : Nat} {c l : Nat → Int} (h : OwnU w G n k c l) (hb : Below w.heap.size w w') : OwnU w' G n k c l := h.at_ (hb.block G h.lt)
theorem OwnU.rdAt {w : World} {G n : Nat} {c l : Nat → Int} (h : OwnU w G n n c l) : Rd w w.heap.size (some ⟨G, 0, none⟩) n c l := fun _ => by
  have hlt := h.lt
  obtain ⟨cs, hh, h1, h2⟩ := h
  refine ⟨G, 0, rfl, hlt, fun i hi => ?_⟩
  obtain ⟨a, b⟩ := h2 i hi
  rw [Nat.zero_add]
  exact ⟨(cell_of_row w G _ cs _ _ hh).trans a, (cell_of_row w G _ cs _ _ hh).trans b⟩
theorem OwnU.cell {w : World} {G n k : Nat} {c l : Nat → Int} (h : OwnU w G n k c l) {j : Nat} (hj : j < n * 2) : ∃ u, w.cell? ⟨G, j, none⟩ = some u := by
  obtain ⟨cs, hh, h1, h2⟩ := h
  exact ⟨cs[j]'(by omega), (cell_of_row w G _ cs _ _ hh).trans (Array.getElem?_eq_getElem (by omega))⟩
theorem OwnU.frozen {w : World} {G n k : Nat} {c l : Nat → Int} (h : OwnU w G n k c l) (j : Nat) : w.frozen? ⟨G, j, none⟩ = false := by
  obtain ⟨cs, hh, h1, h2⟩ := h
  simp [World.frozen?, hh]
theorem OwnU.put {w : World} {G n k : Nat} {c l : Nat → Int} (h : OwnU w G n k c l) (hk : k < n) :
    OwnU ((w.setCell ⟨G, k * 2, none⟩ (.int .i64 (c k))).setCell ⟨G, k * 2 + 1, none⟩ (.int .i64 (l k))) G n (k + 1) c l := by
  obtain ⟨cs, hh, h1, h2⟩ := h
  refine ⟨(cs.setIfInBounds (k * 2) (.int .i64 (c k))).setIfInBounds (k * 2 + 1) (.int .i64 (l k)), ?_, by simp [h1], fun i hi => ?_⟩
  · simp [World.setCell, Array.getElem?_modify, hh]
  · simp only [Array.getElem?_setIfInBounds]
    by_cases e : i = k
    · subst e
      constructor
      · rw [if_neg (by omega), if_pos rfl, if_pos (by omega)]
      · rw [if_pos rfl, if_pos (by simp; omega)]
    · obtain ⟨a, b⟩ := h2 i (by omega)
      constructor
      · rw [if_neg (by omega), if_neg (by omega)]; exact a
      · rw [if_neg (by omega), if_neg (by omega)]; exact b

/-- A slice that a call has made: nothing, or the head of a block of its own from B on. -/
def Frs (w : World) (B : Nat) (A : Option Addr) (n : Nat) (c l : Nat → Int) : Prop := n = 0 ∨ ∃ G, A = some ⟨G, 0, none⟩ ∧ B ≤ G ∧ OwnU w G n n c l
theorem Frs.rdAt {w : World} {B : Nat} {A : Option Addr} {n : Nat} {c l : Nat → Int} (h : Frs w B A n c l) : Rd w w.heap.size A n c l := by
  rcases h with h | ⟨G, rfl, _, h⟩
  · exact fun hn => absurd hn (by omega)
  · exact h.rdAt
theorem Frs.below {w w' : World} {B : Nat} {A : Option Addr} {n : Nat} {c l : Nat → Int} (h : Frs w B A n c l) (hb : Below w.heap.size w w') : Frs w' B A n c l := by
  rcases h with h | ⟨G, e, hG, h⟩
  · exact .inl h
  · exact .inr ⟨G, e, hG, h.below hb⟩
theorem Frs.more {w : World} {B B' : Nat} {A : Option Addr} {n : Nat} {c l : Nat → Int} (h : Frs w B A n c l) (hB : B' ≤ B) : Frs w B' A n c l := by
  rcases h with h | ⟨G, e, hG, h⟩
  · exact .inl h
  · exact .inr ⟨G, e, by omega, h⟩

/-- Only what A leads to may have turned, of what lay; the streams are as they were. -/
structure Only (w w' : World) (A : Option Addr) (n : Nat) : Prop where
  os : w'.os = w.os
  tape : w'.tape = w.tape
  output : w'.output = w.output
  size : w.heap.size ≤ w'.heap.size
  block : ∀ k, k < w.heap.size → (n = 0 ∨ ∀ a, A = some a → k ≠ a.block) → w'.heap[k]? = w.heap[k]?

theorem Only.refl (w : World) (A : Option Addr) (n : Nat) : Only w w A n := ⟨rfl, rfl, rfl, Nat.le_refl _, fun _ _ _ => rfl⟩
theorem Only.below {w w' : World} {B : Nat} {A : Option Addr} {n : Nat} {c l : Nat → Int} (h : Only w w' A n) (hf : Frs w B A n c l) (hB : B ≤ w.heap.size) : Below B w w' :=
  ⟨h.os, h.tape, h.output, h.size, fun k hk => h.block k (by omega) (by
    rcases hf with h0 | ⟨G, rfl, hG, _⟩
    · exact .inl h0
    · right
      intro a ha
      cases ha
      show k ≠ G
      omega)⟩
theorem Only.pre {w w1 w' : World} {A : Option Addr} {n : Nat} (hb : Below w.heap.size w w1) (h : Only w1 w' A n) : Only w w' A n :=
  ⟨h.os.trans hb.os, h.tape.trans hb.tape, h.output.trans hb.output, Nat.le_trans hb.size h.size, fun k hk hn => (h.block k (Nat.lt_of_lt_of_le hk hb.size) hn).trans (hb.block k hk)⟩

theorem Only.set_ {w wr : World} {G n : Nat} (h : Only w wr (some ⟨G, 0, none⟩) n) (hn : 0 < n) (o : Nat) (u : Value) : Only w (wr.setCell ⟨G, o, none⟩ u) (some ⟨G, 0, none⟩) n :=
  ⟨h.os, h.tape, h.output, by simpa [World.setCell] using h.size, fun k hk hne => by
    rcases hne with h0 | hne
    · omega
    · have hkG : k ≠ G := hne _ rfl
      exact (Below.heap_setCell wr ⟨G, o, none⟩ u k hkG).trans (h.block k hk (.inr hne))⟩
theorem add2 (k : Int) (j : Nat) : Value.int .i64 (k + 2 * (j : Int) + 1 + 1) = .int .i64 (k + 2 * ((j + 1 : Nat) : Int)) := by
  congr 1
  omega

/-- The numbers that the marking lays. -/
def mkC (k : Int) (i : Nat) : Int := k + 2 * i
def mkL (k : Int) (i : Nat) : Int := k + 2 * i + 1

set_option maxRecDepth 100000 in
set_option maxHeartbeats 800000 in
theorem markTermS_own (G n cap : Nat) (c l : Nat → Int) (k : Int) (w : World) (hn : n ≤ 1048576) (hk0 : 0 ≤ k) (hk1 : k ≤ 1048576) (ho : OwnU w G n n c l) :
    Calls Tryd.prog 62 #[.slice (some ⟨G, 0, none⟩) n cap, .int .i64 k] w fun e w' => e = .returned (.int .i64 (k + 2 * n)) ∧ OwnU w' G n n (mkC k) (mkL k) ∧ Only w w' (some ⟨G, 0, none⟩) n := by
  have hz := Lib.hid (ho.zero (c' := mkC k) (l' := mkL k))
  clear ho
  go_enter Tryd.func62, Tryd.ntmps62
  go_wp2
  go_loopw [1, 5] (fun t i wr => ∃ j : Nat, j ≤ n ∧ i = .int .i64 j ∧ t = .int .i64 (k + 2 * j) ∧ OwnU wr G n j (mkC k) (mkL k) ∧ Only w wr (some ⟨G, 0, none⟩) n) (fun _ i _ => n - (intOf i).toNat)
  case atStart => exact ⟨0, Nat.zero_le _, rfl, by simp, hz.out, Only.refl _ _ _⟩
  case round =>
    obtain ⟨j, hj, rfl, rfl, hown, hon⟩ := hrel
    by_cases hlt : j < n
    · obtain ⟨y1, hy1⟩ := hown.cell (j := j * 2) (by omega)
      obtain ⟨y2, hy2⟩ := hown.cell (j := j * 2 + 1) (by omega)
      have hf1 := hown.frozen (j * 2)
      have hf2 := hown.frozen (j * 2 + 1)
      go_wp2
      go_roundw
      case rel => exact ⟨j + 1, by omega, by go_num, add2 k j, hown.put hlt, (hon.set_ (by omega) _ _).set_ (by omega) _ _⟩
      case measure => simp [intOf]; omega
    · have e : j = n := by omega
      subst e
      go_wp2
      go_ret
      exact ⟨rfl, hown, hon⟩

set_option maxHeartbeats 800000 in
theorem markTermS_any (A : Option Addr) (n cap B : Nat) (c l : Nat → Int) (k : Int) (w : World) (hn : n ≤ 1048576) (hk0 : 0 ≤ k) (hk1 : k ≤ 1048576) (hf : Frs w B A n c l) :
    Calls Tryd.prog 62 #[.slice A n cap, .int .i64 k] w fun e w' => e = .returned (.int .i64 (k + 2 * n)) ∧ Frs w' B A n (mkC k) (mkL k) ∧ Only w w' A n := by
  rcases hf with rfl | ⟨G, rfl, hG, ho⟩
  · go_enter Tryd.func62, Tryd.ntmps62
    go_wp2
    go_loop [1, 5] (fun t i => i = .int .i64 0 ∧ t = .int .i64 k) (fun _ _ => 0)
    case atStart => exact ⟨rfl, rfl⟩
    case round =>
      obtain ⟨rfl, rfl⟩ := hrel
      go_wp2
      go_ret
      exact ⟨ret_int (by simp), .inl rfl, Only.refl _ _ _⟩
  · exact (markTermS_own G n cap c l k w hn hk0 hk1 ho).mono fun e w' ⟨he, h1, h2⟩ => ⟨he, .inr ⟨G, rfl, hG, h1⟩, h2⟩

set_option maxRecDepth 100000 in
set_option maxHeartbeats 800000 in
theorem heldTermS_any (A : Option Addr) (n cap B : Nat) (k : Int) (w : World) (hn : n ≤ 1048576) (hk0 : 0 ≤ k) (hk1 : k ≤ 1048576) (hf : Frs w B A n (mkC k) (mkL k)) :
    Calls Tryd.prog 63 #[.slice A n cap, .int .i64 k] w fun e w' => e = .returned (.int .i64 (k + 2 * n)) ∧ w = w' := by
  have hr := hf.rdAt
  clear hf
  go_enter Tryd.func63, Tryd.ntmps63
  go_wp2
  go_loop [1, 5] (fun t i => ∃ j : Nat, j ≤ n ∧ i = .int .i64 j ∧ t = .int .i64 (k + 2 * j)) (fun _ i => n - (intOf i).toNat)
  case atStart => exact ⟨0, Nat.zero_le _, rfl, by simp⟩
  case round =>
    obtain ⟨j, hj, rfl, rfl⟩ := hrel
    by_cases hlt : j < n
    · obtain ⟨b, off, rfl, hbl, hc⟩ := hr (by omega)
      obtain ⟨hc1, hc2⟩ := hc j hlt
      unfold mkC at hc1
      unfold mkL at hc2
      clear hc hr
      go_wp2
      go_round
      case rel => exact ⟨j + 1, by omega, by go_num, add2 k j⟩
      case measure => simp [intOf]; omega
    · have e : j = n := by omega
      subst e
      clear hr
      go_wp2
      go_ret
      exact ⟨rfl, rfl⟩

theorem only_trans {w w1 w' : World} {A : Option Addr} {n : Nat} (h : Only w w1 A n) (hb : Below w1.heap.size w1 w') : Only w w' A n :=
  ⟨hb.os.trans h.os, hb.tape.trans h.tape, hb.output.trans h.output, Nat.le_trans h.size hb.size, fun k hk hn => (hb.block k (Nat.lt_of_lt_of_le hk h.size)).trans (h.block k hk hn)⟩

set_option maxHeartbeats 800000 in
theorem markConstraint_any (A : Option Addr) (n cap B : Nat) (bd : Int) (c l : Nat → Int) (k : Int) (w : World) (hn : n ≤ 1048576) (hk0 : 0 ≤ k) (hk1 : k ≤ 1048576) (hf : Frs w B A n c l) :
    Calls Tryd.prog 30 #[.agg #[.slice A n cap, .int .i64 bd], .int .i64 k] w fun e w' => e = .returned (.int .i64 (k + 2 * n)) ∧ Frs w' B A n (mkC k) (mkL k) ∧ Only w w' A n := by
  have HF := Lib.hid (hf.below (bl_alloc (Below.refl w.heap.size w) (.cells #[.slice A n cap, .int .i64 bd] 31)))
  clear hf
  go_enter Tryd.func30, Tryd.ntmps30
  go_wp2_with fail
  refine (markTermS_any _ _ _ B c l _ _ hn hk0 hk1 HF.out).mono ?_
  rintro e w1 ⟨rfl, h1, h2⟩
  have H1 := Lib.hid h1
  have H2 := Lib.hid (Only.pre (bl_alloc (Below.refl w.heap.size w) _) h2)
  clear h1 h2
  go_wp2
  go_ret
  exact ⟨rfl, H1.out, H2.out⟩

set_option maxHeartbeats 800000 in
theorem heldConstraint_any (A : Option Addr) (n cap B : Nat) (bd : Int) (k : Int) (w : World) (hn : n ≤ 1048576) (hk0 : 0 ≤ k) (hk1 : k ≤ 1048576) (hf : Frs w B A n (mkC k) (mkL k)) :
    Calls Tryd.prog 31 #[.agg #[.slice A n cap, .int .i64 bd], .int .i64 k] w fun e w' => e = .returned (.int .i64 (k + 2 * n)) ∧ Below w.heap.size w w' := by
  have HF := Lib.hid (hf.below (bl_alloc (Below.refl w.heap.size w) (.cells #[.slice A n cap, .int .i64 bd] 31)))
  clear hf
  go_enter Tryd.func31, Tryd.ntmps31
  go_wp2_with fail
  refine (heldTermS_any _ _ _ B _ _ hn hk0 hk1 HF.out).mono ?_
  rintro e w1 ⟨rfl, rfl⟩
  go_wp2
  go_ret
  exact ⟨rfl, bl_alloc (Below.refl _ _) _⟩
end Go.Proofs.YtbebdhjhlheboaaDoor
