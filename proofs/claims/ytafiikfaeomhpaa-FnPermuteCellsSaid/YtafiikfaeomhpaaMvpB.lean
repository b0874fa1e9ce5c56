/- ModelValid: the program's side, the kinds of rules but tables (no claim of its own). Conditions: as each theorem states. -/
import Derived.Test.YtafiikfaeomhpaaMvpA
namespace Go.Proofs.Ytafiikfaeomhpaa
open Go.ChangeShapes Go.WideShapes Go.ChangeAt Go.RowKit

set_option maxRecDepth 100000 in
set_option maxHeartbeats 1600000 in
theorem indexOf_any (l : Lst) (A : Option Addr) (cap : Nat) (z : Int) (w : World) (hn : l.n ≤ 1048576) (hr : RdI w w.heap.size A l.n l.x) :
    Calls Try.prog 170 #[.slice A l.n cap, .int .i64 z] w fun e w' => ∃ m : Int, e = .returned (.int .i64 m) ∧ decide (0 ≤ m) = (!prE (fun i => l.x i != z) l.n) ∧ Below w.heap.size w w' := by
  obtain ⟨n, x⟩ := l
  simp only at hn hr ⊢
  go_enter Try.func170, Try.ntmps170
  go_wp2
  go_loopw [8] (fun i wr => ∃ k : Nat, k ≤ n ∧ i = .int .i64 k ∧ prE (fun i => x i != z) k = true ∧ Below w.heap.size w wr) (fun i _ => n - (intOf i).toNat)
  case atStart => exact ⟨0, Nat.zero_le _, rfl, rfl, Below.refl _ _⟩
  case round =>
    obtain ⟨k, hk, rfl, hp, hb⟩ := hrel
    have Hp := Lib.hid hp
    clear hp
    by_cases hlt : k < n
    · obtain ⟨b, off, rfl, hbl, hc⟩ := (hr.below hb) (by omega)
      have hc1 := hc k hlt
      clear hc hr
      have hlt' : (k : Int) < (n : Int) := by omega
      have hk0 : (0 : Int) ≤ (k : Int) := by omega
      by_cases he : z = x k
      · have Hno := Lib.hid (prE_no (e := fun i => x i != z) hlt (by simp [he]))
        go_wp2_with fail
        try go_quiet (fail)
        try go_wp2
        go_ret
        exact ⟨_, rfl, by rw [Hno.out]; simp, by first | exact hb | exact bl_drewN hb _⟩
      · have Hy := Lib.hid (prE_yes (e := fun i => x i != z) Hp.out (by simpa using fun h => he h.symm))
        have he2 : ¬ x k = z := fun h => he h.symm
        go_wp2_with fail
        try go_quiet (fail)
        try go_wp2
        go_roundw
        case rel => exact ⟨k + 1, by omega, by go_num, Hy.out, by first | exact hb | exact bl_drewN hb _⟩
        case measure => simp [intOf]; omega
    · have e : k = n := by omega
      subst e
      go_wp2
      go_ret
      exact ⟨-1, rfl, by rw [Hp.out]; rfl, hb⟩

set_option maxRecDepth 100000 in
set_option maxHeartbeats 1600000 in
theorem containsI_any (l : Lst) (A : Option Addr) (cap : Nat) (z : Int) (w : World) (hn : l.n ≤ 1048576) (hr : RdI w w.heap.size A l.n l.x) :
    Calls Try.prog 169 #[.slice A l.n cap, .int .i64 z] w fun e w' => e = .returned (.bool (!prE (fun i => l.x i != z) l.n)) ∧ Below w.heap.size w w' := by
  have Hc := Lib.hid (indexOf_any l A cap z w hn hr)
  clear hr
  go_enter Try.func169, Try.ntmps169
  go_wp2_with fail
  refine Hc.out.mono ?_
  rintro e w1 ⟨m, rfl, hm, hb⟩
  have Hm := Lib.hid hm
  clear hm
  go_wp2
  go_ret
  exact ⟨ret_bool Hm.out, hb⟩

def difB (c : Lst) (bd : Int) (n : Nat) : Bool := c.n == 0 && (bd == 0 && n == 0)

set_option maxRecDepth 100000 in
set_option maxHeartbeats 1600000 in
theorem difWell_any (k bd : Int) (v c : Lst) (n : Nat) (Av Ac Ar : Option Addr) (cv cc cr : Nat) (w : World) :
    Calls Try.prog 172 #[.agg #[.int .i64 k, .slice Av v.n cv, .slice Ac c.n cc, .int .i64 bd, .slice Ar n cr]] w fun e w' => e = .returned (.bool (difB c bd n)) ∧ Below w.heap.size w w' := by
  obtain ⟨cn, x⟩ := c
  have HB := Lib.hid (bl_alloc (Below.refl w.heap.size w))
  by_cases c0 : cn = 0
  · subst c0
    by_cases b0 : bd = 0
    · subst b0
      by_cases n0 : n = 0
      · subst n0
        go_enter Try.func172, Try.ntmps172
        go_wp2
        go_ret
        exact ⟨ret_bool rfl, HB.out _⟩
      · have n1 : ((n : Int) == 0) = false := by rw [beq_eq_false_iff_ne]; omega
        have Hd := Lib.hid (show difB ⟨0, x⟩ 0 n = false from by simp [difB, n0])
        go_enter Try.func172, Try.ntmps172
        go_wp2
        go_ret
        exact ⟨ret_bool Hd.out.symm, HB.out _⟩
    · have b1 : (bd == 0) = false := by simpa using b0
      have Hd := Lib.hid (show difB ⟨0, x⟩ bd n = false from by simp [difB, b0])
      go_enter Try.func172, Try.ntmps172
      go_wp2
      go_ret
      exact ⟨ret_bool Hd.out.symm, HB.out _⟩
  · have c1 : ((cn : Int) == 0) = false := by rw [beq_eq_false_iff_ne]; omega
    have Hd := Lib.hid (show difB ⟨cn, x⟩ bd n = false from by simp [difB, c0])
    go_enter Try.func172, Try.ntmps172
    go_wp2
    go_ret
    exact ⟨ret_bool Hd.out.symm, HB.out _⟩
end Go.Proofs.Ytafiikfaeomhpaa
