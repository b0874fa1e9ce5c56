/- Contracts of the model's and the program's SatisfiesAll (no claim of its own). Conditions: as each theorem states. -/
import Derived.Test.YtnfkhakgikbbeaaProB
import Derived.Test.YtnfkhakgikbbeaaEvaB
namespace Go.Proofs.Ytnfkhakgikbbeaa
open Go.ChangeShapes Go.WideShapes Go.ChangeAt Go.RowKit

/-- The first k constraints hold. -/
def allE (p : Nat → Con) (v : Nat → Bool) : Nat → Bool
  | 0 => true
  | k + 1 => allE p v k && evalV (p k).n (p k).c (p k).l (p k).bd 12 v
/-- What SatisfiesAll answers. -/
def satB (n : Nat) (p : Nat → Con) (nv : Nat) (v : Nat → Bool) : Bool := probB n p && (nv == 12 && allE p v n)
theorem allE_no {p : Nat → Con} {v : Nat → Bool} {n k : Nat} (hk : k < n) (h : evalV (p k).n (p k).c (p k).l (p k).bd 12 v = false) : allE p v n = false := by
  induction n with
  | zero => omega
  | succ n ih =>
    unfold allE
    by_cases e : k = n
    · subst e; rw [h, Bool.and_false]
    · rw [ih (by omega), Bool.false_and]
theorem allE_yes {p : Nat → Con} {v : Nat → Bool} {k : Nat} (h : allE p v k = true) (h1 : evalV (p k).n (p k).c (p k).l (p k).bd 12 v = true) : allE p v (k + 1) = true := by
  unfold allE
  rw [h, h1]
  rfl
theorem allE_not (p : Nat → Con) (v : Nat → Bool) (n : Nat) : (!anyQ (fun k => !evalV (p k).n (p k).c (p k).l (p k).bd 12 v) n) = allE p v n := by
  induction n with
  | zero => rfl
  | succ n ih =>
    unfold anyQ allE
    rw [← ih, Bool.not_or, Bool.not_not]
theorem satB_inv {n : Nat} {p : Nat → Con} {nv : Nat} {v : Nat → Bool} (h : probB n p = false) : satB n p nv v = false := by simp [satB, h]
theorem satB_len {n : Nat} {p : Nat → Con} {nv : Nat} {v : Nat → Bool} (h : nv ≠ 12) : satB n p nv v = false := by simp [satB, h]
theorem satB_yes {n : Nat} {p : Nat → Con} {v : Nat → Bool} (h : probB n p = true) : satB n p 12 v = allE p v n := by simp [satB, h]
theorem prob_all {n : Nat} {p : Nat → Con} (h : probB n p = true) : allV p n = true := by
  unfold probB at h
  rw [Bool.and_eq_true] at h
  exact h.1

set_option maxRecDepth 100000 in
set_option maxHeartbeats 1600000 in
theorem l3All_any (A Av : Option Addr) (n cap capv : Nat) (p : Nat → Con) (v : Nat → Bool) (w : World) (hn : n ≤ 1048576) (hn' : ∀ i, i < n → (p i).n ≤ 1048576) (hr : RdP w w.heap.size A n p) (hrv : RdB w w.heap.size Av 12 v) (hval : allV p n = true) :
    Calls Try.prog 33 #[.slice A n cap, .slice Av 12 capv] w fun e w' => e = .returned (.bool (allE p v n)) ∧ Below w.heap.size w w' := by
  have Hval := Lib.hid hval
  clear hval
  go_enter Try.func33, Try.ntmps33
  go_wp2
  go_loopw [5] (fun i wr => ∃ k : Nat, k ≤ n ∧ i = .int .i64 k ∧ allE p v k = true ∧ Below w.heap.size w wr) (fun i _ => n - (intOf i).toNat)
  case atStart => exact ⟨0, Nat.zero_le _, rfl, rfl, Below.refl _ _⟩
  case round =>
    obtain ⟨k, hk, rfl, hp, hb⟩ := hrel
    have Hp := Lib.hid hp
    clear hp
    by_cases hlt : k < n
    · have hnk := hn' k hlt
      obtain ⟨b, off, rfl, hbl, hc⟩ := (hr.below hb) (by omega)
      obtain ⟨Ai, ci, hc1, hc2, hrk⟩ := hc k hlt
      have Hcall := Lib.hid (l1Eval_any Ai Av (p k).n ci capv (p k).bd (p k).c (p k).l v wr hnk (hrk.more hb.size) (hrv.later hb) (allV_at Hval.out hlt))
      clear hc hr hn' hrk hrv
      cases hv : evalV (p k).n (p k).c (p k).l (p k).bd 12 v with
      | true =>
        have Hgo := Lib.hid (allE_yes Hp.out hv)
        rw [hv] at Hcall
        clear hv
        go_wp2_with fail
        refine Hcall.out.mono ?_
        rintro e w1 ⟨rfl, hb1⟩
        go_wp2
        go_roundw
        case rel => exact ⟨k + 1, by omega, by go_num, Hgo.out, hb.trans (hb1.mono hb.size)⟩
        case measure => simp [intOf]; omega
      | false =>
        have Hno := Lib.hid (allE_no hlt hv)
        rw [hv] at Hcall
        clear hv
        go_wp2_with fail
        refine Hcall.out.mono ?_
        rintro e w1 ⟨rfl, hb1⟩
        go_wp2
        go_ret
        exact ⟨ret_bool Hno.out.symm, hb.trans (hb1.mono hb.size)⟩
    · have e : k = n := by omega
      subst e
      clear hr hrv
      go_wp2
      go_ret
      exact ⟨ret_bool Hp.out.symm, hb⟩

end Go.Proofs.Ytnfkhakgikbbeaa
