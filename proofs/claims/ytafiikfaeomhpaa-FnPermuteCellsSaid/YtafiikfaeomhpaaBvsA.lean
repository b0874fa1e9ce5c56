/- BoolVar, FreeVars: what they say; the reference's side (no claim of its own). Conditions: as each theorem states. -/
import Derived.Test.YtafiikfaeomhpaaCvsA
import Derived.Test.YtafiikfaeomhpaaCviA
namespace Go.Proofs.Ytafiikfaeomhpaa
open Go.ChangeShapes Go.WideShapes Go.ChangeAt Go.RowKit

theorem prE_le {e : Nat → Bool} {n k : Nat} (h : prE e n = true) (hk : k ≤ n) : prE e k = true := prE_iff.2 fun i hi => prE_at h (by omega)
/-- A valid model's cells, and their sizes. -/
theorem mod_parts {s : Lst} {n : Nat} {q : Nat → Rul} (h : modB s n q = true) : 1 ≤ s.n ∧ s.n ≤ 5 ∧ prE (fun i => betB 0 3 (s.x i)) s.n = true ∧ tS s.x s.n ≤ 12 ∧ n ≤ 8 ∧ ∀ i, i < n → ruleB s.n (q i) = true := by
  unfold modB at h
  simp only [Bool.and_eq_true, decide_eq_true_eq] at h
  exact ⟨h.1.1, h.1.2, h.2.1, h.2.2.1, h.2.2.2.1, fun i hi => prE_at h.2.2.2.2 hi⟩
theorem size_at {s : Lst} {k : Nat} (h : prE (fun i => betB 0 3 (s.x i)) s.n = true) (hk : k < s.n) : 0 ≤ s.x k ∧ s.x k ≤ 3 := by
  have := prE_at h hk
  simpa [betB] using this

set_option maxRecDepth 100000 in
set_option maxHeartbeats 1600000 in
theorem l7Var_any (s : Lst) (n : Nat) (As Ar : Option Addr) (cs cr k : Nat) (val : Int) (w : World) (p1 : s.n ≤ 5) (hk : k ≤ s.n) (hv : 0 ≤ val ∧ val ≤ 3) (hok : prE (fun i => betB 0 3 (s.x i)) s.n = true) (hs : RdI w w.heap.size As s.n s.x) :
    Calls Try.prog 64 #[.agg #[.slice As s.n cs, .slice Ar n cr], .int .i64 k, .int .i64 val] w fun e w' => e = .returned (.int .i64 (1 + val + tS s.x k)) ∧ Below w.heap.size w w' := by
  obtain ⟨sn, x⟩ := s
  simp only at p1 hk hok hs ⊢
  have HA := Lib.hid (bl_alloc (Below.refl w.heap.size w))
  have hr1 := hs.later (HA.out (.cells #[.slice As sn cs, .slice Ar n cr] 30))
  have HOk := Lib.hid hok
  clear hs hok
  obtain ⟨hv0, hv3⟩ := hv
  go_enter Try.func64, Try.ntmps64
  go_wp2
  have a0 : (w.alloc (.cells #[.slice As sn cs, .slice Ar n cr] 30)).cell? ⟨w.heap.size, 0, none⟩ = some (.slice As sn cs) := by go_simp
  have HB := Lib.hid (HA.out (.cells #[.slice As sn cs, .slice Ar n cr] 30))
  clear HA
  generalize (w.alloc (.cells #[.slice As sn cs, .slice Ar n cr] 30)) = w1 at *
  go_loopw [7, 8] (fun t i wr => ∃ j : Nat, j ≤ k ∧ i = .int .i64 j ∧ t = .int .i64 (1 + val + tS x j) ∧ Below w1.heap.size w1 wr) (fun _ i _ => k - (intOf i).toNat)
  case atStart => exact ⟨0, Nat.zero_le _, rfl, by show _ = Value.int .i64 (1 + val + 0); simp, Below.refl _ _⟩
  case round =>
    obtain ⟨j, hj, rfl, rfl, hb⟩ := hrel
    replace a0 := kc hb a0
    have hok := prE_le HOk.out (show j ≤ sn by omega)
    obtain ⟨tb0, tb1⟩ := tS_bd hok
    clear hok
    by_cases hlt : j < k
    · have hx := size_at (s := ⟨sn, x⟩) HOk.out (show j < sn by omega)
      simp only at hx
      obtain ⟨hx0, hx3⟩ := hx
      obtain ⟨b, off, rfl, hbl, hc⟩ := (hr1.below hb) (by omega)
      have hc1 := hc j (by omega)
      clear hc hr1
      have hlt' : (j : Int) < (k : Int) := by omega
      have hjs : (j : Int) < (sn : Int) := by omega
      have hj0 : (0 : Int) ≤ (j : Int) := by omega
      have Hs := Lib.hid (show (1 + val + tS x j) + x j + 1 = 1 + val + tS x (j + 1) from by show _ = 1 + val + (tS x j + x j + 1); omega)
      obtain ⟨z, hz⟩ : ∃ z, 1 + val + tS x j = z := ⟨_, rfl⟩
      rw [hz] at Hs ⊢
      have hz0 : 0 ≤ z ∧ z ≤ 100 := by omega
      clear hz tb0 tb1
      obtain ⟨hz0, hz1⟩ := hz0
      go_wp2
      go_roundw
      case rel => exact ⟨j + 1, by omega, by go_num, by first | rw [Hs.out] | (rw [← Hs.out]; try simp), hb⟩
      case measure => simp [intOf]; omega
    · have e : j = k := by omega
      subst e
      go_wp2
      go_ret
      exact ⟨rfl, bl_trans HB.out hb⟩

/-- What BoolVar answers. -/
def bvI (s : Lst) (n : Nat) (q : Nat → Rul) (cell val : Int) : Int := if modB s n q && hvB s cell val then 1 + val + tS s.x cell.toNat else 0
/-- What FreeVars answers. -/
def fvI (s : Lst) (n : Nat) (q : Nat → Rul) : Int := if modB s n q then 12 - tS s.x s.n else 0
theorem ite_no {b : Bool} {x y : Int} (h : b = false) : (if b then x else y) = y := by rw [h]; rfl
theorem ite_yes {b : Bool} {x y : Int} (h : b = true) : (if b then x else y) = x := by rw [h]; rfl
theorem bv_no {s : Lst} {n : Nat} {q : Nat → Rul} {cell val : Int} (h : hvB s cell val = false) : bvI s n q cell val = 0 := by unfold bvI; rw [h]; simp
theorem bv_bad {s : Lst} {n : Nat} {q : Nat → Rul} {cell val : Int} (h : modB s n q = false) : bvI s n q cell val = 0 := by unfold bvI; rw [h]; simp
theorem bv_yes {s : Lst} {n : Nat} {q : Nat → Rul} {cell val : Int} (h : modB s n q = true) (h2 : hvB s cell val = true) : bvI s n q cell val = 1 + val + tS s.x cell.toNat := by unfold bvI; rw [h, h2]; simp

end Go.Proofs.Ytafiikfaeomhpaa
