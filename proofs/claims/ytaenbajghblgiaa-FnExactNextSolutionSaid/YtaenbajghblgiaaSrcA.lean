/- The small methods of a search (no claim of its own). Conditions: as each theorem states. -/
import Derived.Test.YtaenbajghblgiaaSolN
import Derived.Test.YtaenbajghblgiaaBoolA
import Derived.Deep.RegionHeld3
import Derived.Deep.Cut
namespace Go.Proofs.Ytaenbajghblgiaa
open Go.ChangeShapes Go.WideShapes Go.ChangeAt Go.RowKit

set_option maxHeartbeats 400000 in
theorem visit_nil (w : World) :
    Calls Try.prog 78 #[.pointer none] w fun e w' => e = .returned (.bool true) ∧ w' = w := by
  go_enter Try.func78, Try.ntmps78
  go_wp2
  go_ret
  exact ⟨rfl, rfl⟩
set_option maxHeartbeats 400000 in
theorem fail_nil (dv : Value) (w : World) :
    Calls Try.prog 83 #[.pointer none, dv] w fun e w' => e = .returned (.bool true) ∧ w' = w := by
  go_enter Try.func83, Try.ntmps83
  go_wp2
  go_ret
  exact ⟨rfl, rfl⟩

/-- Where the first zero stands among n ints. -/
def zeroAt (V : Nat → Int) (n : Nat) (m : Int) : Prop := (m = -1 ∧ ∀ i, i < n → V i ≠ 0) ∨ ∃ j : Nat, m = (j : Int) ∧ j < n ∧ V j = 0 ∧ ∀ i, i < j → V i ≠ 0
set_option maxRecDepth 100000 in
set_option maxHeartbeats 1600000 in
theorem indexZ_any (V : Nat → Int) (n : Nat) (A : Option Addr) (cap : Nat) (w : World) (hn : n ≤ 1048576) (hr : RdI w w.heap.size A n V) :
    Calls Try.prog 80 #[.slice A n cap, .int .i64 0] w fun e w' => ∃ m : Int, e = .returned (.int .i64 m) ∧ zeroAt V n m ∧ Below w.heap.size w w' := by
  go_enter Try.func80, Try.ntmps80
  go_wp2
  go_loopw [8] (fun i wr => ∃ k : Nat, k ≤ n ∧ i = .int .i64 k ∧ (∀ j, j < k → V j ≠ 0) ∧ Below w.heap.size w wr) (fun i _ => n - (intOf i).toNat)
  case atStart => exact ⟨0, Nat.zero_le _, rfl, fun j hj => absurd hj (by omega), Below.refl _ _⟩
  case round =>
    obtain ⟨k, hk, rfl, hp, hb⟩ := hrel
    have Hp := Lib.hid hp
    clear hp
    by_cases hlt : k < n
    · obtain ⟨b, off, rfl, hbl, hc⟩ := (hr.below hb) (by omega)
      have hc1 := hc k hlt
      clear hc hr
      have hlt' : (k : Int) < (n : Int) := by omega
      have hk0 : (0 : Int) ≤ (k : Int) := by omega
      obtain ⟨x, hx⟩ : ∃ x, V k = x := ⟨_, rfl⟩
      have HX := Lib.hid hx
      rw [hx] at hc1
      clear hx
      by_cases he : x = 0
      · subst he
        have HZ := Lib.hid (show zeroAt V n (k : Int) from .inr ⟨k, rfl, hlt, HX.out, Hp.out⟩)
        go_wp2_with fail
        try go_quiet (fail)
        try go_wp2
        go_ret
        exact ⟨_, rfl, HZ.out, by first | exact hb | exact bl_drewN hb _⟩
      · have Hy := Lib.hid (show ∀ j, j < k + 1 → V j ≠ 0 from fun j hj => by
          by_cases e : j = k
          · subst e; rw [HX.out]; exact he
          · exact Hp.out j (by omega))
        have he2 : ¬ (0 : Int) = x := fun h => he h.symm
        go_wp2_with fail
        try go_quiet (fail)
        try go_wp2
        go_roundw
        case rel => exact ⟨k + 1, by omega, by go_num, Hy.out, by first | exact hb | exact bl_drewN hb _⟩
        case measure => simp [intOf]; omega
    · have e : k = n := by omega
      subst e
      go_wp2
      go_ret
      exact ⟨-1, rfl, .inl ⟨rfl, Hp.out⟩, hb⟩

theorem cells12_get {w : World} {G : Nat} {T : TypeId} {v : Nat → Int} (h : w.heap[G]? = some (.cells (cells12 v) T (0, 0))) {i : Nat} (hi : i < 12) : w.cell? ⟨G, i, none⟩ = some (.int .i64 (v i)) := (cell_of_row w G _ _ _ _ h).trans (cells12_at v hi)

set_option maxRecDepth 100000 in
set_option maxHeartbeats 1600000 in
theorem values_of (V : Nat → Int) (w : World) :
    Calls Try.prog 82 #[arrV V] w fun e w' => ∃ G, e = .returned (.slice (some ⟨G, 0, none⟩) 12 12) ∧ w.heap.size ≤ G ∧ OwnB w' G 12 12 (fun i => decide (0 < V i)) ∧ Below w.heap.size w w' := by
  obtain ⟨i0, hi, hz0, hz1, hz2⟩ := info_parts Try.infoBool
  have hmk := fun W => run_make (P := Try.prog) W 29 4 i0 _ Try.underlying29 hi hz0 .i64 .i64 (12 : Int) 12 (by omega) (by omega) (by rw [hz2]; omega) (by omega)
  rw [hz1] at hmk
  clear hi hz0 hz1 hz2
  have hz : w.heap.size < (w.alloc (.cells (cells12 V) 121)).heap.size := by simp
  have hbx := heap_alloc_new w (.cells (cells12 V) 121)
  have HBx := Lib.hid hbx
  have HB0 := Lib.hid (bl_alloc (Below.refl w.heap.size w) (.cells (cells12 V) 121))
  clear hbx
  unfold arrV
  unfold cells12 at hz HBx HB0 ⊢
  go_enter Try.func82, Try.ntmps82
  go_upto_region 1 with fail
  generalize w.alloc (.cells _ _) = W0 at *
  go_wp2
  go_loopw [8] (fun i wr => ∃ k : Nat, k ≤ 12 ∧ i = .int .i64 k ∧ OwnB wr W0.heap.size 12 k (fun i => decide (0 < V i)) ∧ Below W0.heap.size W0 wr) (fun i _ => 12 - (intOf i).toNat)
  case atStart => exact ⟨0, Nat.zero_le _, rfl, ⟨_, heap_alloc_new _ _, by simp [size_madeCells], fun i hi => absurd hi (by omega)⟩, bl_alloc (Below.refl _ _) _⟩
  case round =>
    obtain ⟨k, hk, rfl, hown, hb⟩ := hrel
    by_cases hlt : k < 12
    · have hc1 := (hb.cell (p := ⟨w.heap.size, k, none⟩) (by show w.heap.size < W0.heap.size; omega)).trans (cells12_get (v := V) HBx.out hlt)
      clear hmk
      obtain ⟨y1, hy1⟩ := hown.cell hlt
      have hf1 := hown.frozen k
      have hlt' : (k : Int) < 12 := by omega
      have hk0 : (0 : Int) ≤ (k : Int) := by omega
      go_wp2
      go_roundw
      case rel => exact ⟨k + 1, by omega, by go_num, hown.put hlt, hb.setCell (Nat.le_refl _) _⟩
      case measure => simp [intOf]; omega
    · have e : k = 12 := by omega
      subst e
      have HOw := Lib.hid hown
      have HBe := Lib.hid hb
      clear hown hb
      go_wp2
      go_ret
      exact ⟨_, rfl, by omega, HOw.out, HB0.out.trans (HBe.out.mono (by omega))⟩
end Go.Proofs.Ytaenbajghblgiaa
