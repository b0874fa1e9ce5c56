/- ModelValid: the program's side, linear and less rules (no claim of its own). Conditions: as each theorem states. -/
import Derived.Test.YtafiikfaeomhpaaMvpB
namespace Go.Proofs.Ytafiikfaeomhpaa
open Go.ChangeShapes Go.WideShapes Go.ChangeAt Go.RowKit

theorem prE_and {e f g : Nat → Bool} (h : ∀ i, e i = (f i && g i)) (n : Nat) : prE e n = (prE f n && prE g n) := by
  induction n with
  | zero => rfl
  | succ n ih => unfold prE; rw [ih, h]; cases prE f n <;> cases prE g n <;> cases f n <;> cases g n <;> rfl
theorem linB_eq (v c : Lst) (bd : Int) : linB v c bd = ((prE (fun i => betB (-9) 9 (c.x i)) c.n && prE (fun i => c.x i != 0) c.n) && (c.n == v.n && (decide (-1000 ≤ bd) && decide (bd ≤ 1000)))) := by
  unfold linB
  rw [prE_and (e := fun i => wtB (c.x i)) (f := fun i => betB (-9) 9 (c.x i)) (g := fun i => c.x i != 0) (fun i => by simp [wtB, betB, Bool.and_assoc]) c.n]

set_option maxRecDepth 100000 in
set_option maxHeartbeats 1600000 in
theorem linWell_any (k bd : Int) (v c : Lst) (n : Nat) (Av Ac Ar : Option Addr) (cv cc cr : Nat) (w : World) (hn : c.n ≤ 1048576) (hr : RdI w w.heap.size Ac c.n c.x) :
    Calls Try.prog 168 #[.agg #[.int .i64 k, .slice Av v.n cv, .slice Ac c.n cc, .int .i64 bd, .slice Ar n cr]] w fun e w' => e = .returned (.bool (linB v c bd && n == 0)) ∧ Below w.heap.size w w' := by
  have HR := Lib.hid hr
  clear hr
  have Hl := Lib.hid (linB_eq v c bd)
  have HA := Lib.hid (bl_alloc (Below.refl w.heap.size w))
  by_cases d1 : (c.n : Int) ≠ (v.n : Int)
  · have d2 : ((c.n : Int) == (v.n : Int)) = false := by simpa using d1
    have Hd := Lib.hid (show (linB v c bd && n == 0) = false from by rw [Hl.out]; simp [show ¬ c.n = v.n by omega])
    clear Hl
    go_enter Try.func168, Try.ntmps168
    go_wp2
    go_ret
    exact ⟨ret_bool Hd.out.symm, HA.out _⟩
  have d2 : (c.n : Int) = (v.n : Int) := by omega
  have d2b : ((c.n : Int) == (v.n : Int)) = true := by simpa using d2
  have Hcv := Lib.hid (show c.n = v.n by omega)
  clear d1 d2
  go_enter Try.func168, Try.ntmps168
  go_wp2_with fail
  have a2 : (w.alloc (.cells #[.int .i64 k, .slice Av v.n cv, .slice Ac c.n cc, .int .i64 bd, .slice Ar n cr] 154)).cell? ⟨w.heap.size, 2, none⟩ = some (.slice Ac c.n cc) := by go_simp
  have a3 : (w.alloc (.cells #[.int .i64 k, .slice Av v.n cv, .slice Ac c.n cc, .int .i64 bd, .slice Ar n cr] 154)).cell? ⟨w.heap.size, 3, none⟩ = some (.int .i64 bd) := by go_simp
  have a4 : (w.alloc (.cells #[.int .i64 k, .slice Av v.n cv, .slice Ac c.n cc, .int .i64 bd, .slice Ar n cr] 154)).cell? ⟨w.heap.size, 4, none⟩ = some (.slice Ar n cr) := by go_simp
  have HB := Lib.hid (HA.out (.cells #[.int .i64 k, .slice Av v.n cv, .slice Ac c.n cc, .int .i64 bd, .slice Ar n cr] 154))
  clear HA
  generalize (w.alloc (.cells #[.int .i64 k, .slice Av v.n cv, .slice Ac c.n cc, .int .i64 bd, .slice Ar n cr] 154)) = w1 at *
  refine (allBetween_any c _ _ _ _ _ hn (HR.out.later HB.out)).mono ?_
  rintro e w2 ⟨rfl, hb⟩
  have HBn := Lib.hid (bl_trans HB.out hb)
  replace a2 := kc hb a2
  replace a3 := kc hb a3
  replace a4 := kc hb a4
  clear HB hb
  have HB := HBn
  clear HBn
  cases e1 : prE (fun i => betB (-9) 9 (c.x i)) c.n with
  | false =>
    have Hd := Lib.hid (show (linB v c bd && n == 0) = false from by rw [Hl.out, e1]; simp)
    clear Hl
    go_wp2
    go_ret
    exact ⟨ret_bool Hd.out.symm, HB.out⟩
  | true =>
  have E1 := Lib.hid e1
  clear e1
  go_wp2_with fail
  refine (containsI_any c _ _ _ _ hn (HR.out.later HB.out)).mono ?_
  rintro e w3 ⟨rfl, hb⟩
  have HBn := Lib.hid (bl_trans HB.out hb)
  replace a2 := kc hb a2
  replace a3 := kc hb a3
  replace a4 := kc hb a4
  clear HB hb
  have HB := HBn
  clear HBn
  cases e2 : prE (fun i => c.x i != 0) c.n with
  | false =>
    have Hd := Lib.hid (show (linB v c bd && n == 0) = false from by rw [Hl.out, e2]; simp)
    clear Hl
    go_wp2
    go_ret
    exact ⟨ret_bool Hd.out.symm, HB.out⟩
  | true =>
  have E2 := Lib.hid e2
  clear e2
  by_cases q1 : -1000 ≤ bd
  · by_cases q2 : bd ≤ 1000
    · by_cases q3 : n = 0
      · subst q3
        have Hd := Lib.hid (show (linB v c bd && (0 : Nat) == 0) = true from by rw [Hl.out, E1.out, E2.out]; simp [Hcv.out, q1, q2])
        clear Hl
        go_wp2
        go_ret
        exact ⟨ret_bool Hd.out.symm, HB.out⟩
      · have n1 : ((n : Int) == 0) = false := by rw [beq_eq_false_iff_ne]; omega
        have Hd := Lib.hid (show (linB v c bd && n == 0) = false from by simp [q3])
        clear Hl
        go_wp2
        go_ret
        exact ⟨ret_bool Hd.out.symm, HB.out⟩
    · have Hd := Lib.hid (show (linB v c bd && n == 0) = false from by rw [Hl.out]; simp [q2])
      clear Hl
      go_wp2
      go_ret
      exact ⟨ret_bool Hd.out.symm, HB.out⟩
  · have Hd := Lib.hid (show (linB v c bd && n == 0) = false from by rw [Hl.out]; simp [q1])
    clear Hl
    go_wp2
    go_ret
    exact ⟨ret_bool Hd.out.symm, HB.out⟩

set_option maxRecDepth 100000 in
set_option maxHeartbeats 1600000 in
theorem lesWell_any (k bd : Int) (v c : Lst) (n : Nat) (Av Ac Ar : Option Addr) (cv cc cr : Nat) (w : World) :
    Calls Try.prog 179 #[.agg #[.int .i64 k, .slice Av v.n cv, .slice Ac c.n cc, .int .i64 bd, .slice Ar n cr]] w fun e w' => e = .returned (.bool (v.n == 2 && difB c bd n)) ∧ Below w.heap.size w w' := by
  have HA := Lib.hid (bl_alloc (Below.refl w.heap.size w))
  by_cases d1 : (v.n : Int) ≠ 2
  · have d2 : ((v.n : Int) == 2) = false := by simpa using d1
    have Hd := Lib.hid (show (v.n == 2 && difB c bd n) = false from by simp [show ¬ v.n = 2 by omega])
    go_enter Try.func179, Try.ntmps179
    go_wp2
    go_ret
    exact ⟨ret_bool Hd.out.symm, HA.out _⟩
  have d2 : v.n = 2 := by omega
  have d2b : ((v.n : Int) == 2) = true := by rw [beq_iff_eq]; omega
  have Hd := Lib.hid (show (v.n == 2 && difB c bd n) = difB c bd n from by simp [d2])
  clear d1 d2
  go_enter Try.func179, Try.ntmps179
  go_wp2_with (go_at_call 172; refine (difWell_any k bd v c n _ _ _ _ _ _ _).mono ?_; rintro e w2 ⟨rfl, hb⟩)
  go_ret
  exact ⟨ret_bool Hd.out.symm, bl_trans (HA.out _) hb⟩
end Go.Proofs.Ytafiikfaeomhpaa
