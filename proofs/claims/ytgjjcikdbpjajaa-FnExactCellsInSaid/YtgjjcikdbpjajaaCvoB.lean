/- The values of some cells out of the array (no claim of its own). Conditions: as each theorem states. -/
import Derived.Test.YtgjjcikdbpjajaaCvoA
namespace Go.Proofs.Ytgjjcikdbpjajaa
open Go.ChangeShapes Go.WideShapes Go.ChangeAt Go.RowKit

theorem at_cell {W : World} {H j : Nat} {u : Nat → Int} (h0 : W.cell? ⟨H, 0, none⟩ = some (.int .i64 (u 0))) (h1 : W.cell? ⟨H, 1, none⟩ = some (.int .i64 (u 1))) (h2 : W.cell? ⟨H, 2, none⟩ = some (.int .i64 (u 2))) (h3 : W.cell? ⟨H, 3, none⟩ = some (.int .i64 (u 3))) (h4 : W.cell? ⟨H, 4, none⟩ = some (.int .i64 (u 4))) (hj : j < 5) : W.cell? ⟨H, j, none⟩ = some (.int .i64 (u j)) := by
  have : j = 0 ∨ j = 1 ∨ j = 2 ∨ j = 3 ∨ j = 4 := by omega
  rcases this with rfl | rfl | rfl | rfl | rfl
  · exact h0
  · exact h1
  · exact h2
  · exact h3
  · exact h4

set_option maxRecDepth 100000 in
set_option maxHeartbeats 1600000 in
theorem at_any (v : Lst) (cap : Nat) (A : Option Addr) (u : Nat → Int) (w : World) (hn : v.n ≤ 1048576) (hx : ∀ i, i < v.n → 0 ≤ v.x i ∧ v.x i < 5) (hr : RdI w w.heap.size A v.n v.x) :
    Calls Try.prog 184 #[arr5 u, .slice A v.n cap] w fun e w' => ∃ G, e = .returned (.slice (some ⟨G, 0, none⟩) v.n v.n) ∧ w.heap.size ≤ G ∧ OwnI w' G v.n v.n (pk v u) ∧ Below w.heap.size w w' := by
  obtain ⟨n, x⟩ := v
  simp only at hn hx hr ⊢
  obtain ⟨i0, hi, hz0, hz1, hz2⟩ := info_parts Try.infoInt
  have hmk := fun W => run_make (P := Try.prog) W 22 3 i0 _ Try.underlying22 hi hz0 .i64 .i64 (n : Int) n (by omega) (by omega) (by rw [hz2]; omega) (by omega)
  rw [hz1] at hmk
  have HXx := Lib.hid hx
  have hb1 := bl_alloc (Below.refl w.heap.size w) (.cells #[.int .i64 (u 0), .int .i64 (u 1), .int .i64 (u 2), .int .i64 (u 3), .int .i64 (u 4)] 90)
  have HB := Lib.hid hb1
  have HR := Lib.hid (hr.later hb1)
  have a0 : (w.alloc (.cells #[.int .i64 (u 0), .int .i64 (u 1), .int .i64 (u 2), .int .i64 (u 3), .int .i64 (u 4)] 90)).cell? ⟨w.heap.size, 0, none⟩ = some (.int .i64 (u 0)) := by go_simp
  have a1 : (w.alloc (.cells #[.int .i64 (u 0), .int .i64 (u 1), .int .i64 (u 2), .int .i64 (u 3), .int .i64 (u 4)] 90)).cell? ⟨w.heap.size, 1, none⟩ = some (.int .i64 (u 1)) := by go_simp
  have a2 : (w.alloc (.cells #[.int .i64 (u 0), .int .i64 (u 1), .int .i64 (u 2), .int .i64 (u 3), .int .i64 (u 4)] 90)).cell? ⟨w.heap.size, 2, none⟩ = some (.int .i64 (u 2)) := by go_simp
  have a3 : (w.alloc (.cells #[.int .i64 (u 0), .int .i64 (u 1), .int .i64 (u 2), .int .i64 (u 3), .int .i64 (u 4)] 90)).cell? ⟨w.heap.size, 3, none⟩ = some (.int .i64 (u 3)) := by go_simp
  have a4 : (w.alloc (.cells #[.int .i64 (u 0), .int .i64 (u 1), .int .i64 (u 2), .int .i64 (u 3), .int .i64 (u 4)] 90)).cell? ⟨w.heap.size, 4, none⟩ = some (.int .i64 (u 4)) := by go_simp
  have hsz : (w.alloc (.cells #[.int .i64 (u 0), .int .i64 (u 1), .int .i64 (u 2), .int .i64 (u 3), .int .i64 (u 4)] 90)).heap.size = w.heap.size + 1 := by simp
  have HSz := Lib.hid hsz
  have HA := Lib.hid (fun j (hj : j < 5) => at_cell (j := j) a0 a1 a2 a3 a4 hj)
  clear hi hz0 hz1 hz2 hx hr hb1 a0 a1 a2 a3 a4 hsz
  unfold arr5
  go_enter Try.func184, Try.ntmps184
  go_wp2_with fail
  generalize (w.alloc (.cells #[.int .i64 (u 0), .int .i64 (u 1), .int .i64 (u 2), .int .i64 (u 3), .int .i64 (u 4)] 90)) = W1 at *
  rw [← HSz.out]
  go_loopw [13] (fun i wr => ∃ k : Nat, k ≤ n ∧ i = .int .i64 k ∧ OwnI wr W1.heap.size n k (pk ⟨n, x⟩ u) ∧ Below W1.heap.size W1 wr) (fun i _ => n - (intOf i).toNat)
  case atStart => exact ⟨0, Nat.zero_le _, rfl, ⟨_, heap_alloc_new _ _, by simp [size_madeCells], fun i hi => absurd hi (by omega)⟩, bl_alloc (Below.refl _ _) _⟩
  case round =>
    obtain ⟨k, hk, rfl, hown, hb⟩ := hrel
    by_cases hlt : k < n
    · obtain ⟨b, off, rfl, hbl, hc⟩ := (HR.out.below hb) (by omega)
      have hc1 := hc k hlt
      obtain ⟨hx0, hx5⟩ := HXx.out k hlt
      obtain ⟨j, hj⟩ : ∃ j : Nat, x k = (j : Int) := ⟨(x k).toNat, by omega⟩
      have hj5 : j < 5 := by omega
      have hc2 := kc hb (HA.out j hj5)
      have Hpk := Lib.hid (show pk ⟨n, x⟩ u k = u j from by unfold pk; simp only; rw [hj]; rfl)
      rw [hj] at hc1
      obtain ⟨y1, hy1⟩ := hown.cell hlt
      have hf1 := hown.frozen k
      have hj0 : (0 : Int) ≤ (j : Int) := by omega
      have hj5' : (j : Int) < 5 := by omega
      have Hput := Lib.hid (hown.put hlt)
      rw [Hpk.out] at Hput
      have HBk := Lib.hid hb
      have hltI : (k : Int) < (n : Int) := by omega
      have hk0 : (0 : Int) ≤ (k : Int) := by omega
      clear hc hmk hj hx0 hx5 hown hb
      go_wp2
      go_roundw
      case rel => exact ⟨k + 1, by omega, by go_num, Hput.out, HBk.out.setCell (Nat.le_refl _) _⟩
      case measure => simp [intOf]; omega
    · have e : k = n := by omega
      subst e
      go_wp2
      go_ret
      exact ⟨_, rfl, by rw [HSz.out]; omega, hown, HB.out.trans (hb.mono (by rw [HSz.out]; omega))⟩
end Go.Proofs.Ytgjjcikdbpjajaa
