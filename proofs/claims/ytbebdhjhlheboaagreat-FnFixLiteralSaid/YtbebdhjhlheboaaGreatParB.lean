/- Contracts of the model's and the program's PartialValid (no claim of its own). Conditions: as each theorem states. -/
import Derived.Test.YtbebdhjhlheboaaGreatParA
namespace Go.Proofs.YtbebdhjhlheboaaGreat
open Go.ChangeShapes Go.WideShapes Go.ChangeAt Go.RowKit Go.Shelf

theorem ret_bool' {a b : Bool} (h : a = b) : Ending.returned (.bool a) = .returned (.bool b) := by rw [h]

set_option maxRecDepth 100000 in
set_option maxHeartbeats 800000 in
theorem specPartial_any (A : Option Addr) (n cap : Nat) (v : Nat → Int) (w : World) (hn : n ≤ 1048576) (hr : RdI w w.heap.size A n v) :
    Calls Tryz.prog 42 #[.slice A n cap] w fun e w' => e = .returned (.bool (pvB n v)) ∧ w' = w := by
  go_enter Tryz.func42, Tryz.ntmps42
  go_wp2
  go_loop [3] (fun i => ∃ k : Nat, k ≤ n ∧ i = .int .i64 k ∧ pvT v k = true) (fun i => n - (intOf i).toNat)
  case atStart => exact ⟨0, Nat.zero_le _, rfl, rfl⟩
  case round =>
    obtain ⟨k, hk, rfl, hp⟩ := hrel
    have Hp := Lib.hid hp
    clear hp
    by_cases hlt : k < n
    · obtain ⟨b, off, rfl, hbl, hc⟩ := hr (by omega)
      have hc1 := hc k hlt
      clear hc hr
      by_cases h1 : v k < -1
      · have No := Lib.hid (pvB_no hlt (.inl h1))
        go_wp2
        go_ret
        exact ⟨ret_bool No.out.symm, rfl⟩
      · by_cases h2 : 1 < v k
        · have No := Lib.hid (pvB_no hlt (.inr h2))
          go_wp2
          go_ret
          exact ⟨ret_bool No.out.symm, rfl⟩
        · have Hgo := Lib.hid (show pvT v (k + 1) = true from by unfold pvT; rw [Hp.out]; simp; omega)
          go_wp2
          go_round
          case rel => exact ⟨k + 1, by omega, by go_num, Hgo.out⟩
          case measure => simp [intOf]; omega
    · have e : k = n := by omega
      subst e
      clear hr
      have Hfin := Lib.hid (show pvB k v = ((k : Int) == 12) from by unfold pvB; rw [Hp.out, Bool.true_and, Bool.eq_iff_iff]; simp; omega)
      go_wp2
      go_ret
      exact ⟨ret_bool Hfin.out.symm, rfl⟩

/-- The least of the first k values; the greatest. -/
def MinP (v : Nat → Int) (k : Nat) (m : Int) : Prop := (∀ i, i < k → m ≤ v i) ∧ ∃ i, i < k ∧ m = v i
def MaxP (v : Nat → Int) (k : Nat) (m : Int) : Prop := (∀ i, i < k → v i ≤ m) ∧ ∃ i, i < k ∧ m = v i
theorem MinP.one (v : Nat → Int) : MinP v 1 (v 0) := by
  refine ⟨fun i hi => ?_, 0, by omega, rfl⟩
  obtain rfl : i = 0 := by omega
  exact Int.le_refl _
theorem MaxP.one (v : Nat → Int) : MaxP v 1 (v 0) := by
  refine ⟨fun i hi => ?_, 0, by omega, rfl⟩
  obtain rfl : i = 0 := by omega
  exact Int.le_refl _
theorem MinP.new {v : Nat → Int} {k : Nat} {m : Int} (h : MinP v k m) (hlt : v k < m) : MinP v (k + 1) (v k) := ⟨fun i hi => by
  by_cases e : i = k
  · subst e; exact Int.le_refl _
  · have := h.1 i (by omega); omega, k, by omega, rfl⟩
theorem MinP.old {v : Nat → Int} {k : Nat} {m : Int} (h : MinP v k m) (hge : m ≤ v k) : MinP v (k + 1) m := ⟨fun i hi => by
  by_cases e : i = k
  · subst e; exact hge
  · exact h.1 i (by omega), by obtain ⟨i, hi, e⟩ := h.2; exact ⟨i, by omega, e⟩⟩
theorem MaxP.new {v : Nat → Int} {k : Nat} {m : Int} (h : MaxP v k m) (hlt : m < v k) : MaxP v (k + 1) (v k) := ⟨fun i hi => by
  by_cases e : i = k
  · subst e; exact Int.le_refl _
  · have := h.1 i (by omega); omega, k, by omega, rfl⟩
theorem MaxP.old {v : Nat → Int} {k : Nat} {m : Int} (h : MaxP v k m) (hge : v k ≤ m) : MaxP v (k + 1) m := ⟨fun i hi => by
  by_cases e : i = k
  · subst e; exact hge
  · exact h.1 i (by omega), by obtain ⟨i, hi, e⟩ := h.2; exact ⟨i, by omega, e⟩⟩

set_option maxRecDepth 100000 in
set_option maxHeartbeats 800000 in
theorem min_any (A : Option Addr) (n cap : Nat) (v : Nat → Int) (w : World) (h0 : 0 < n) (hn : n ≤ 1048576) (hr : RdI w w.heap.size A n v) :
    Calls Tryz.prog 55 #[.slice A n cap] w fun e w' => ∃ m, e = .returned (.int .i64 m) ∧ MinP v n m ∧ w' = w := by
  obtain ⟨b, off, rfl, hbl, hc⟩ := hr h0
  have hc0 := hc 0 h0
  simp only [Nat.add_zero] at hc0
  have h0i : ¬ ((n : Int) < 1) := by omega
  have Hc := Lib.hid hc
  clear hc hr
  go_enter Tryz.func55, Tryz.ntmps55
  go_wp2
  go_loop [3, 4] (fun t i => ∃ (k : Nat) (m : Int), k ≤ n ∧ i = .int .i64 k ∧ t = .int .i64 m ∧ MinP v k m) (fun _ i => n - (intOf i).toNat)
  case atStart => exact ⟨1, v 0, by omega, rfl, rfl, MinP.one v⟩
  case round =>
    obtain ⟨k, m, hk, rfl, rfl, hm⟩ := hrel
    have Hm := Lib.hid hm
    clear hm hc0
    by_cases hlt : k < n
    · have hc1 := Hc.out k hlt
      by_cases h1 : v k < m
      · go_wp2
        go_round
        case rel => exact ⟨k + 1, v k, by omega, by go_num, by first | rfl | (congr 1; omega) | (congr 1; split <;> omega), Hm.out.new h1⟩
        case measure => simp [intOf]; omega
      · go_wp2
        go_round
        case rel => exact ⟨k + 1, m, by omega, by go_num, by first | rfl | (congr 1; omega) | (congr 1; split <;> omega), Hm.out.old (by omega)⟩
        case measure => simp [intOf]; omega
    · have e : k = n := by omega
      subst e
      go_wp2
      go_ret
      exact ⟨m, rfl, Hm.out, rfl⟩

set_option maxRecDepth 100000 in
set_option maxHeartbeats 800000 in
theorem max_any (A : Option Addr) (n cap : Nat) (v : Nat → Int) (w : World) (h0 : 0 < n) (hn : n ≤ 1048576) (hr : RdI w w.heap.size A n v) :
    Calls Tryz.prog 56 #[.slice A n cap] w fun e w' => ∃ m, e = .returned (.int .i64 m) ∧ MaxP v n m ∧ w' = w := by
  obtain ⟨b, off, rfl, hbl, hc⟩ := hr h0
  have hc0 := hc 0 h0
  simp only [Nat.add_zero] at hc0
  have h0i : ¬ ((n : Int) < 1) := by omega
  have Hc := Lib.hid hc
  clear hc hr
  go_enter Tryz.func56, Tryz.ntmps56
  go_wp2
  go_loop [3, 4] (fun t i => ∃ (k : Nat) (m : Int), k ≤ n ∧ i = .int .i64 k ∧ t = .int .i64 m ∧ MaxP v k m) (fun _ i => n - (intOf i).toNat)
  case atStart => exact ⟨1, v 0, by omega, rfl, rfl, MaxP.one v⟩
  case round =>
    obtain ⟨k, m, hk, rfl, rfl, hm⟩ := hrel
    have Hm := Lib.hid hm
    clear hm hc0
    by_cases hlt : k < n
    · have hc1 := Hc.out k hlt
      by_cases h1 : m < v k
      · go_wp2
        go_round
        case rel => exact ⟨k + 1, v k, by omega, by go_num, by first | rfl | (congr 1; omega) | (congr 1; split <;> omega), Hm.out.new h1⟩
        case measure => simp [intOf]; omega
      · go_wp2
        go_round
        case rel => exact ⟨k + 1, m, by omega, by go_num, by first | rfl | (congr 1; omega) | (congr 1; split <;> omega), Hm.out.old (by omega)⟩
        case measure => simp [intOf]; omega
    · have e : k = n := by omega
      subst e
      go_wp2
      go_ret
      exact ⟨m, rfl, Hm.out, rfl⟩

set_option maxRecDepth 100000 in
set_option maxHeartbeats 800000 in
theorem implPartial_any (A : Option Addr) (n cap : Nat) (v : Nat → Int) (w : World) (hn : n ≤ 1048576) (hr : RdI w w.heap.size A n v) :
    Calls Tryz.prog 39 #[.slice A n cap] w fun e w' => e = .returned (.bool (pvB n v)) ∧ w' = w := by
  by_cases h12 : n = 12
  · subst h12
    have hr' := Lib.hid hr
    clear hr
    go_enter Tryz.func39, Tryz.ntmps39
    go_wp2_with fail
    refine (min_any _ _ _ v _ (by omega) (by omega) hr'.out).mono ?_
    rintro e w' ⟨m, rfl, hm, hw⟩
    replace hw := hw.symm
    subst hw
    have Hm := Lib.hid hm
    clear hm
    by_cases h1 : -1 ≤ m
    · go_wp2_with fail
      refine (max_any _ _ _ v _ (by omega) (by omega) hr'.out).mono ?_
      rintro e w' ⟨m', rfl, hm', hw⟩
      replace hw := hw.symm
      subst hw
      have Hfin := Lib.hid (show pvB 12 v = decide (m' ≤ 1) from by
        rw [Bool.eq_iff_iff, pvB_iff]
        simp only [decide_eq_true_eq]
        constructor
        · rintro ⟨_, h⟩
          obtain ⟨i, hi, e⟩ := hm'.2
          have := h i hi
          omega
        · intro h
          refine ⟨by simp, fun i hi => ?_⟩
          have := Hm.out.1 i hi
          have := hm'.1 i hi
          omega)
      clear hm'
      go_wp2
      go_ret
      exact ⟨ret_bool Hfin.out.symm, rfl⟩
    · have Hfin := Lib.hid (show pvB 12 v = false from by
        obtain ⟨i, hi, e⟩ := Hm.out.2
        exact pvB_no hi (.inl (by omega)))
      go_wp2
      go_ret
      exact ⟨ret_bool Hfin.out.symm, rfl⟩
  · have hd : ((n : Int) == 12) = false := by rw [beq_eq_false_iff_ne]; omega
    have Hfin := Lib.hid (show pvB n v = false from by unfold pvB; simp [h12])
    clear hr h12
    go_enter Tryz.func39, Tryz.ntmps39
    go_wp2
    go_ret
    exact ⟨ret_bool Hfin.out.symm, rfl⟩
end Go.Proofs.YtbebdhjhlheboaaGreat
