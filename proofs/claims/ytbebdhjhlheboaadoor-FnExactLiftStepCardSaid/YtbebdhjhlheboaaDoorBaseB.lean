/- Contracts of the copying and comparing helpers of the exact laws (no claim of its own). Conditions: as each theorem states. -/
import Derived.Test.YtbebdhjhlheboaaDoorBaseA
import Derived.Outline
import Derived.Laws.MakeOwn
import Derived.Laws.Rows
namespace Go.Proofs.YtbebdhjhlheboaaDoor
open Go.ChangeShapes Go.WideShapes Go.ChangeAt Go.RowKit

theorem bl_alloc {a w : World} (h : Below a.heap.size a w) (o : Obj) : Below a.heap.size a (w.alloc o) := h.alloc h.size o
theorem bl_drewN {B : Nat} {a w : World} (h : Below B a w) (n : Nat) : Below B a (w.drewN n) := ⟨h.os, h.tape, h.output, h.size, h.block⟩
theorem bl_trans {a w w' : World} (h : Below a.heap.size a w) (k : Below w.heap.size w w') : Below a.heap.size a w' := h.trans (k.mono h.size)

/-- A slice of terms: element i has the coefficient c i and the literal l i. -/
def Rd (w : World) (B : Nat) (A : Option Addr) (n : Nat) (c l : Nat → Int) : Prop :=
  0 < n → ∃ b off, A = some ⟨b, off, none⟩ ∧ b < B ∧ ∀ i, i < n → w.cell? ⟨b, off + i * 2, none⟩ = some (.int .i64 (c i)) ∧ w.cell? ⟨b, off + i * 2 + 1, none⟩ = some (.int .i64 (l i))

theorem Rd.below {w w' : World} {B : Nat} {A : Option Addr} {n : Nat} {c l : Nat → Int} (h : Rd w B A n c l) (hb : Below B w w') : Rd w' B A n c l := fun hn => by
  obtain ⟨b, off, e, hlt, hc⟩ := h hn
  exact ⟨b, off, e, hlt, fun i hi => ⟨(hb.cell (p := ⟨b, _, none⟩) hlt).trans (hc i hi).1, (hb.cell (p := ⟨b, _, none⟩) hlt).trans (hc i hi).2⟩⟩
theorem Rd.more {w : World} {B B' : Nat} {A : Option Addr} {n : Nat} {c l : Nat → Int} (h : Rd w B A n c l) (hB : B ≤ B') : Rd w B' A n c l := fun hn => by
  obtain ⟨b, off, e, hlt, hc⟩ := h hn
  exact ⟨b, off, e, by omega, hc⟩

set_option maxHeartbeats 400000 in
theorem toTerm_any (c l : Int) (w : World) :
    Calls Tryd.prog 71 #[.agg #[.int .i64 c, .int .i64 l]] w fun e w' => e = .returned (.agg #[.int .i64 c, .int .i64 l]) ∧ Below w.heap.size w w' := by
  go_enter Tryd.func71, Tryd.ntmps71
  go_wp2
  refine bodyPost_ret (v := .agg #[.int .i64 c, .int .i64 l]) (by simp [results, Tryd.results71, go_sem]) rfl ⟨rfl, ?_⟩
  exact bl_alloc (bl_alloc (bl_alloc (Below.refl _ _) _) _) _

/-- Two terms are equal. -/
def teq (c l c' l' : Int) : Bool := c == c' && l == l'

set_option maxHeartbeats 400000 in
theorem eqTerm_any (c l c' l' : Int) (w : World) :
    Calls Tryd.prog 74 #[.agg #[.int .i64 c, .int .i64 l], .agg #[.int .i64 c', .int .i64 l']] w fun e w' => e = .returned (.bool (teq c l c' l')) ∧ Below w.heap.size w w' := by
  go_enter Tryd.func74, Tryd.ntmps74
  go_wp2
  all_goals go_ret
  · exact ⟨by simp_all [teq], bl_alloc (bl_alloc (Below.refl _ _) _) _⟩
  · exact ⟨by simp_all [teq], bl_alloc (bl_alloc (Below.refl _ _) _) _⟩
  · exact ⟨by simp_all [teq], bl_alloc (bl_alloc (Below.refl _ _) _) _⟩

theorem Tryd.infoTerm : (Tryd.prog.info? 60).map (fun i => (i.zero, i.size, i.bytes)) = some (some (.agg #[.int .i64 0, .int .i64 0]), 2, 16) := by kernel_rfl

/-- A block of the call's own that holds terms: the first k of them are known. -/
def OwnT (w : World) (G : Nat) (n k : Nat) (c l : Nat → Int) : Prop :=
  ∃ cs : Array Value, w.heap[G]? = some (.cells cs 60 (0, 0)) ∧ cs.size = n * 2 ∧
    ∀ i, i < k → cs[i * 2]? = some (.int .i64 (c i)) ∧ cs[i * 2 + 1]? = some (.int .i64 (l i))

theorem OwnT.below {w w' : World} {G n k : Nat} {c l : Nat → Int} {B : Nat} (h : OwnT w G n k c l) (hb : Below B w w') (hG : G < B) : OwnT w' G n k c l := by
  obtain ⟨cs, hh, h1, h2⟩ := h
  exact ⟨cs, (hb.block G hG).trans hh, h1, h2⟩

theorem OwnT.lt {w : World} {G n k : Nat} {c l : Nat → Int} (h : OwnT w G n k c l) : G < w.heap.size := by
  obtain ⟨cs, hh, h1, h2⟩ := h
  rcases Nat.lt_or_ge G w.heap.size with hlt | hge
  · exact hlt
  · rw [Array.getElem?_eq_none hge] at hh; cases hh

theorem OwnT.rd {w : World} {G n : Nat} {c l : Nat → Int} (h : OwnT w G n n c l) : Rd w (G + 1) (some ⟨G, 0, none⟩) n c l := fun _ => by
  obtain ⟨cs, hh, h1, h2⟩ := h
  refine ⟨G, 0, rfl, by omega, fun i hi => ?_⟩
  obtain ⟨a, b⟩ := h2 i hi
  rw [Nat.zero_add]
  exact ⟨(cell_of_row w G _ cs _ _ hh).trans a, (cell_of_row w G _ cs _ _ hh).trans b⟩

theorem OwnT.cell {w : World} {G n k : Nat} {c l : Nat → Int} (h : OwnT w G n k c l) {j : Nat} (hj : j < n * 2) : ∃ u, w.cell? ⟨G, j, none⟩ = some u := by
  obtain ⟨cs, hh, h1, h2⟩ := h
  exact ⟨cs[j]'(by omega), (cell_of_row w G _ cs _ _ hh).trans (Array.getElem?_eq_getElem (by omega))⟩

theorem OwnT.frozen {w : World} {G n k : Nat} {c l : Nat → Int} (h : OwnT w G n k c l) (j : Nat) : w.frozen? ⟨G, j, none⟩ = false := by
  obtain ⟨cs, hh, h1, h2⟩ := h
  simp [World.frozen?, hh]

theorem OwnT.put {w : World} {G n k : Nat} {c l : Nat → Int} (h : OwnT w G n k c l) (hk : k < n) :
    OwnT ((w.setCell ⟨G, k * 2, none⟩ (.int .i64 (c k))).setCell ⟨G, k * 2 + 1, none⟩ (.int .i64 (l k))) G n (k + 1) c l := by
  obtain ⟨cs, hh, h1, h2⟩ := h
  refine ⟨(cs.setIfInBounds (k * 2) (.int .i64 (c k))).setIfInBounds (k * 2 + 1) (.int .i64 (l k)), ?_, by simp [h1], fun i hi => ?_⟩
  · simp [World.setCell, Array.getElem?_modify, hh]
  · simp only [Array.getElem?_setIfInBounds]
    by_cases e : i = k
    · subst e
      constructor
      · rw [if_neg (by omega), if_pos rfl, if_pos (by omega)]
      · rw [if_pos rfl, if_pos (by simp; omega)]
    · obtain ⟨a, b⟩ := h2 i (by omega)
      constructor
      · rw [if_neg (by omega), if_neg (by omega)]; exact a
      · rw [if_neg (by omega), if_neg (by omega)]; exact b

set_option maxHeartbeats 400000 in
theorem toTermS_any (A : Option Addr) (n cap : Nat) (c l : Nat → Int) (w : World) (hn : n ≤ 1048576) (hr : Rd w w.heap.size A n c l) :
    Calls Tryd.prog 54 #[.slice A n cap] w fun e w' => ∃ G, e = .returned (.slice (some ⟨G, 0, none⟩) n n) ∧ w.heap.size ≤ G ∧ OwnT w' G n n c l ∧ Below w.heap.size w w' := by
  obtain ⟨i0, hi, hz0, hz1, hz2⟩ := info_parts Tryd.infoTerm
  have hmk := fun W => run_make (P := Tryd.prog) W 29 60 i0 _ Tryd.underlying29 hi hz0 .i64 .i64 (n : Int) n (by omega) (by omega) (by rw [hz2]; omega) (by omega)
  rw [hz1] at hmk
  clear hi hz0 hz1 hz2
  go_enter Tryd.func54, Tryd.ntmps54
  go_wp2
  go_loopw [4] (fun i wr => ∃ k : Nat, k ≤ n ∧ i = .int .i64 k ∧ OwnT wr w.heap.size n k c l ∧ Below w.heap.size w wr) (fun i _ => n - (intOf i).toNat)
  case atStart => exact ⟨0, Nat.zero_le _, rfl, ⟨_, heap_alloc_new _ _, by simp [size_madeCells], fun i hi => absurd hi (by omega)⟩, bl_alloc (Below.refl _ _) _⟩
  case round =>
    obtain ⟨k, hk, rfl, hown, hb⟩ := hrel
    by_cases hlt : k < n
    · obtain ⟨b, off, rfl, hbl, hc⟩ := (hr.below hb) (by omega)
      obtain ⟨hc1, hc2⟩ := hc k hlt
      clear hc hmk hr
      go_wp2_with (go_at_call 71; refine (toTerm_any _ _ _).mono ?_; rintro e w' ⟨rfl, hb1⟩; have hown1 := hown.below hb1 hown.lt; clear hown; obtain ⟨y1, hy1⟩ := hown1.cell (j := k * 2) (by omega); obtain ⟨y2, hy2⟩ := hown1.cell (j := k * 2 + 1) (by omega); have hf1 := hown1.frozen (k * 2); have hf2 := hown1.frozen (k * 2 + 1))
      go_roundw
      case rel => exact ⟨k + 1, by omega, by go_num, hown1.put hlt, ((hb.trans (hb1.mono hb.size)).setCell (Nat.le_refl _) _).setCell (Nat.le_refl _) _⟩
      case measure => simp [intOf]; omega
    · have e : k = n := by omega
      subst e
      go_wp2
      go_ret
      exact ⟨_, rfl, Nat.le_refl _, hown, hb⟩
end Go.Proofs.YtbebdhjhlheboaaDoor
