/- Contracts of the model's and the program's EvalConstraint, whole (no claim of its own). Conditions: as each theorem states. -/
import Derived.Test.YtnfkhakgikbbeaaEvaA
namespace Go.Proofs.Ytnfkhakgikbbeaa
open Go.ChangeShapes Go.WideShapes Go.ChangeAt Go.RowKit Go.Shelf

/-- What EvalConstraint answers. -/
def evalV (n : Nat) (c l : Nat → Int) (bd : Int) (nv : Nat) (v : Nat → Bool) : Bool := validB n c l bd && (nv == 12 && decide (bd ≤ evW c l v n))
theorem evalV_inv {n : Nat} {c l : Nat → Int} {bd : Int} {nv : Nat} {v : Nat → Bool} (h : validB n c l bd = false) : evalV n c l bd nv v = false := by simp [evalV, h]
theorem evalV_len {n : Nat} {c l : Nat → Int} {bd : Int} {nv : Nat} {v : Nat → Bool} (h : nv ≠ 12) : evalV n c l bd nv v = false := by simp [evalV, h]
theorem evalV_yes {n : Nat} {c l : Nat → Int} {bd : Int} {v : Nat → Bool} (h : validB n c l bd = true) : evalV n c l bd 12 v = decide (bd ≤ evW c l v n) := by simp [evalV, h]

set_option maxRecDepth 100000 in
set_option maxHeartbeats 1000000 in
theorem l1Eval_any (A Av : Option Addr) (n cap capv : Nat) (bd : Int) (c l : Nat → Int) (v : Nat → Bool) (w : World) (hn : n ≤ 1048576) (hr : Rd w w.heap.size A n c l) (hrv : RdB w w.heap.size Av 12 v) (hval : validB n c l bd = true) :
    Calls Try.prog 49 #[.agg #[.slice A n cap, .int .i64 bd], .slice Av 12 capv] w fun e w' => e = .returned (.bool (evalV n c l bd 12 v)) ∧ Below w.heap.size w w' := by
  have Hfin := Lib.hid (evalV_yes (v := v) hval)
  have Hval := Lib.hid hval
  clear hval
  go_enter Try.func49, Try.ntmps49
  go_wp2
  go_loopw [5, 6] (fun t i wr => ∃ k : Nat, k ≤ n ∧ i = .int .i64 k ∧ t = .int .i64 (evW c l v k) ∧ wr.cell? ⟨w.heap.size, 0, none⟩ = some (.slice A n cap) ∧ wr.cell? ⟨w.heap.size, 1, none⟩ = some (.int .i64 bd) ∧ Below w.heap.size w wr) (fun _ i _ => n - (intOf i).toNat)
  case atStart => exact ⟨0, Nat.zero_le _, rfl, rfl, by go_simp, by go_simp, bl_alloc (Below.refl _ _) _⟩
  case round =>
    obtain ⟨k, hk, rfl, rfl, hx0, hx1, hb⟩ := hrel
    by_cases hlt : k < n
    · have hL := Lib.hid (litAt Hval.out hlt)
      have hrv' := Lib.hid (hrv.later hb)
      obtain ⟨b, off, rfl, hbl, hc⟩ := (hr.below hb) (by omega)
      obtain ⟨hc1, hc2⟩ := hc k hlt
      clear hc hr hrv
      cases hp : trueP v (l k) with
      | true =>
        have hs : evW c l v (k + 1) = wrap64 (evW c l v k + c k) := by
          unfold evW
          rw [sel_yes hp, sumW_snoc]
        have Hs := Lib.hid hs
        have Hp := Lib.hid hp
        clear hs hp
        go_wp2_with fail
        refine (l1True_any _ _ v _ _ hL.out hrv'.out).mono ?_
        rintro e w' ⟨rfl, rfl⟩
        rw [Hp.out]
        go_wp2
        go_roundw
        case rel => exact ⟨k + 1, by omega, by go_num, by rw [Hs.out], hx0, hx1, hb⟩
        case measure => simp [intOf]; omega
      | false =>
        have hs : evW c l v (k + 1) = evW c l v k := by
          unfold evW
          rw [sel_no hp]
        have Hs := Lib.hid hs
        have Hp := Lib.hid hp
        clear hs hp
        go_wp2_with fail
        refine (l1True_any _ _ v _ _ hL.out hrv'.out).mono ?_
        rintro e w' ⟨rfl, rfl⟩
        rw [Hp.out]
        go_wp2
        go_roundw
        case rel => exact ⟨k + 1, by omega, by go_num, by rw [Hs.out], hx0, hx1, hb⟩
        case measure => simp [intOf]; omega
    · have e : k = n := by omega
      subst e
      clear hr hrv
      go_wp2
      go_ret
      exact ⟨ret_bool Hfin.out.symm, hb⟩

end Go.Proofs.Ytnfkhakgikbbeaa
