/- Contracts of the reference's and the program's ViolationCount (no claim of its own). Conditions: as each theorem states. -/
import Derived.Test.YtnglpbfoeiahlaaProB
import Derived.Test.YtnglpbfoeiahlaaEvaB
namespace Go.Proofs.Ytnglpbfoeiahlaa
open Go.ChangeShapes Go.WideShapes Go.ChangeAt Go.RowKit

/-- How many of the first k constraints do not hold. -/
def badN (p : Nat → Con) (v : Nat → Bool) : Nat → Nat
  | 0 => 0
  | k + 1 => badN p v k + (if evalV (p k).n (p k).c (p k).l (p k).bd 12 v then 0 else 1)
theorem badN_le (p : Nat → Con) (v : Nat → Bool) (k : Nat) : badN p v k ≤ k := by
  induction k with
  | zero => exact Nat.le_refl _
  | succ k ih =>
    unfold badN
    split <;> omega
theorem badN_yes {p : Nat → Con} {v : Nat → Bool} {k : Nat} (h : evalV (p k).n (p k).c (p k).l (p k).bd 12 v = true) : badN p v (k + 1) = badN p v k := by
  show badN p v k + _ = _
  rw [if_pos h]
  rfl
theorem badN_no {p : Nat → Con} {v : Nat → Bool} {k : Nat} (h : evalV (p k).n (p k).c (p k).l (p k).bd 12 v = false) : badN p v (k + 1) = badN p v k + 1 := by
  show badN p v k + _ = _
  rw [if_neg (by rw [h]; exact Bool.false_ne_true)]
/-- Whether ViolationCount answers, and what. -/
def vioOk (n : Nat) (p : Nat → Con) (nv : Nat) : Bool := probB n p && nv == 12
def vioN (n : Nat) (p : Nat → Con) (nv : Nat) (v : Nat → Bool) : Nat := if vioOk n p nv = true then badN p v n else 0
theorem vio_inv {n : Nat} {p : Nat → Con} {nv : Nat} {v : Nat → Bool} (h : probB n p = false) : vioOk n p nv = false ∧ vioN n p nv v = 0 := by simp [vioN, vioOk, h]
theorem vio_len {n : Nat} {p : Nat → Con} {nv : Nat} {v : Nat → Bool} (h : nv ≠ 12) : vioOk n p nv = false ∧ vioN n p nv v = 0 := by simp [vioN, vioOk, h]
theorem vio_yes {n : Nat} {p : Nat → Con} {v : Nat → Bool} (h : probB n p = true) : vioOk n p 12 = true ∧ vioN n p 12 v = badN p v n := by simp [vioN, vioOk, h]
theorem prob_allV {n : Nat} {p : Nat → Con} (h : probB n p = true) : allV p n = true := by
  unfold probB at h
  rw [Bool.and_eq_true] at h
  exact h.1
theorem ret_vio {n m : Nat} {a b : Bool} (h : b = a ∧ m = n) : Ending.returned (.tuple #[.int .i64 (n : Int), .bool a]) = .returned (.tuple #[.int .i64 (m : Int), .bool b]) := by rw [h.1, h.2]
theorem ret_vio0 {m : Nat} {b : Bool} (h : b = false ∧ m = 0) : Ending.returned (.tuple #[.int .i64 0, .bool false]) = .returned (.tuple #[.int .i64 (m : Int), .bool b]) := by rw [h.1, h.2]; rfl

set_option maxRecDepth 100000 in
set_option maxHeartbeats 1600000 in
theorem l11Bad_any (A Av : Option Addr) (n cap capv : Nat) (p : Nat → Con) (v : Nat → Bool) (w : World) (hn : n ≤ 1048576) (hn' : ∀ i, i < n → (p i).n ≤ 1048576) (hr : RdP w w.heap.size A n p) (hrv : RdB w w.heap.size Av 12 v) (hval : allV p n = true) :
    Calls Try.prog 40 #[.slice A n cap, .slice Av 12 capv] w fun e w' => e = .returned (.int .i64 (badN p v n : Int)) ∧ Below w.heap.size w w' := by
  have Hval := Lib.hid hval
  clear hval
  go_enter Try.func40, Try.ntmps40
  go_wp2
  go_loopw [5, 6] (fun t i wr => ∃ k : Nat, k ≤ n ∧ i = .int .i64 k ∧ t = .int .i64 (badN p v k : Int) ∧ Below w.heap.size w wr) (fun _ i _ => n - (intOf i).toNat)
  case atStart => exact ⟨0, Nat.zero_le _, rfl, rfl, Below.refl _ _⟩
  case round =>
    obtain ⟨k, hk, rfl, rfl, hb⟩ := hrel
    have hble := badN_le p v k
    by_cases hlt : k < n
    · have hnk := hn' k hlt
      obtain ⟨b, off, rfl, hbl, hc⟩ := (hr.below hb) (by omega)
      obtain ⟨Ai, ci, hc1, hc2, hrk⟩ := hc k hlt
      have Hcall := Lib.hid (l1Eval_any Ai Av (p k).n ci capv (p k).bd (p k).c (p k).l v wr hnk (hrk.more hb.size) (hrv.later hb) (allV_at Hval.out hlt))
      clear hc hr hn' hrk hrv
      cases hv : evalV (p k).n (p k).c (p k).l (p k).bd 12 v with
      | true =>
        have Hgo := Lib.hid (badN_yes hv)
        rw [hv] at Hcall
        clear hv
        go_wp2_with fail
        refine Hcall.out.mono ?_
        rintro e w1 ⟨rfl, hb1⟩
        go_wp2
        go_roundw
        case rel => exact ⟨k + 1, by omega, by go_num, by rw [Hgo.out], hb.trans (hb1.mono hb.size)⟩
        case measure => simp [intOf]; omega
      | false =>
        have Hgo := Lib.hid (badN_no hv)
        rw [hv] at Hcall
        clear hv
        go_wp2_with fail
        refine Hcall.out.mono ?_
        rintro e w1 ⟨rfl, hb1⟩
        go_wp2
        go_roundw
        case rel => exact ⟨k + 1, by omega, by go_num, by rw [Hgo.out]; rfl, hb.trans (hb1.mono hb.size)⟩
        case measure => simp [intOf]; omega
    · have e : k = n := by omega
      subst e
      clear hr hrv
      go_wp2
      go_ret
      exact ⟨rfl, hb⟩

set_option maxRecDepth 100000 in
set_option maxHeartbeats 1600000 in
theorem specVio_any (A Av : Option Addr) (n cap nv capv : Nat) (p : Nat → Con) (v : Nat → Bool) (w : World) (hn : n ≤ 1048576) (hn' : ∀ i, i < n → (p i).n ≤ 1048576) (hnv : nv ≤ 1048576) (hr : RdP w w.heap.size A n p) (hrv : RdB w w.heap.size Av nv v) :
    Calls Try.prog 10 #[.slice A n cap, .slice Av nv capv] w fun e w' => e = .returned (.tuple #[.int .i64 (vioN n p nv v : Int), .bool (vioOk n p nv)]) ∧ Below w.heap.size w w' := by
  have Hpr := Lib.hid (specProblem_any A n cap p w hn hn' hr)
  cases hv : probB n p with
  | false =>
    have Hfin := Lib.hid (vio_inv (nv := nv) (v := v) hv)
    rw [hv] at Hpr
    clear hv hr hn'
    go_enter Try.func10, Try.ntmps10
    go_wp2_with fail
    refine Hpr.out.mono ?_
    rintro e w1 ⟨rfl, hb⟩
    have HB1 := Lib.hid hb
    clear hb
    go_wp2
    go_ret2
    exact ⟨ret_vio0 Hfin.out, HB1.out⟩
  | true =>
    rw [hv] at Hpr
    by_cases h12 : nv = 12
    · subst h12
      have Hfin := Lib.hid (vio_yes (v := v) hv)
      have Hval := Lib.hid (prob_allV hv)
      have HN := Lib.hid hn'
      clear hv hn'
      go_enter Try.func10, Try.ntmps10
      go_wp2_with fail
      refine Hpr.out.mono ?_
      rintro e w1 ⟨rfl, hb⟩
      have HB1 := Lib.hid hb
      clear hb
      go_wp2_with fail
      refine (l11Bad_any _ _ _ _ _ p v _ hn HN.out (hr.later HB1.out) (hrv.later HB1.out) Hval.out).mono ?_
      rintro e w2 ⟨rfl, hb⟩
      have HB2 := Lib.hid (bl_trans HB1.out hb)
      clear hb
      go_wp2
      go_ret2
      exact ⟨ret_vio Hfin.out, HB2.out⟩
    · have Hfin := Lib.hid (vio_len (n := n) (p := p) (v := v) h12)
      have hd : ((nv : Int) == 12) = false := by rw [beq_eq_false_iff_ne]; omega
      have hd2 : ((nv : Int) != 12) = true := by rw [bne_iff_ne]; omega
      clear hv hn' h12
      go_enter Try.func10, Try.ntmps10
      go_wp2_with fail
      refine Hpr.out.mono ?_
      rintro e w1 ⟨rfl, hb⟩
      have HB1 := Lib.hid hb
      clear hb
      go_wp2
      go_ret2
      exact ⟨ret_vio0 Hfin.out, HB1.out⟩

set_option maxRecDepth 100000 in
set_option maxHeartbeats 1600000 in
theorem violations_any (A Av : Option Addr) (n cap capv : Nat) (p : Nat → Con) (v : Nat → Bool) (w : World) (hn : n ≤ 1048576) (hn' : ∀ i, i < n → (p i).n ≤ 1048576) (hr : RdP w w.heap.size A n p) (hrv : RdB w w.heap.size Av 12 v) :
    Calls Try.prog 43 #[.slice A n cap, .slice Av 12 capv] w fun e w' => e = .returned (.int .i64 (badN p v n : Int)) ∧ Below w.heap.size w w' := by
  go_enter Try.func43, Try.ntmps43
  go_wp2
  go_loopw [5, 10] (fun t i wr => ∃ k : Nat, k ≤ n ∧ i = .int .i64 k ∧ t = .int .i64 (badN p v k : Int) ∧ Below w.heap.size w wr) (fun _ i _ => n - (intOf i).toNat)
  case atStart => exact ⟨0, Nat.zero_le _, rfl, rfl, Below.refl _ _⟩
  case round =>
    obtain ⟨k, hk, rfl, rfl, hb⟩ := hrel
    have hble := badN_le p v k
    by_cases hlt : k < n
    · have hnk := hn' k hlt
      obtain ⟨b, off, rfl, hbl, hc⟩ := (hr.below hb) (by omega)
      obtain ⟨Ai, ci, hc1, hc2, hrk⟩ := hc k hlt
      have HR := Lib.hid (hrk.more hb.size)
      have HV := Lib.hid (hrv.later hb)
      clear hc hr hn' hrk hrv
      cases hv : evalV (p k).n (p k).c (p k).l (p k).bd 12 v with
      | true =>
        have Hgo := Lib.hid (badN_yes hv)
        have Hv := Lib.hid hv
        clear hv
        go_wp2_with fail
        refine (implEval_any Ai Av (p k).n ci 12 capv (p k).bd (p k).c (p k).l v _ hnk (HR.out.later (bl_alloc (Below.refl _ _) _)) (HV.out.later (bl_alloc (Below.refl _ _) _))).mono ?_
        rintro e w1 ⟨rfl, hb1⟩
        rw [Hv.out]
        have HB := Lib.hid (bl_trans hb (bl_trans (bl_alloc (Below.refl wr.heap.size wr) _) hb1))
        clear hb1
        go_wp2
        go_roundw
        case rel => exact ⟨k + 1, by omega, by go_num, by rw [Hgo.out], HB.out⟩
        case measure => simp [intOf]; omega
      | false =>
        have Hgo := Lib.hid (badN_no hv)
        have Hv := Lib.hid hv
        clear hv
        go_wp2_with fail
        refine (implEval_any Ai Av (p k).n ci 12 capv (p k).bd (p k).c (p k).l v _ hnk (HR.out.later (bl_alloc (Below.refl _ _) _)) (HV.out.later (bl_alloc (Below.refl _ _) _))).mono ?_
        rintro e w1 ⟨rfl, hb1⟩
        rw [Hv.out]
        have HB := Lib.hid (bl_trans hb (bl_trans (bl_alloc (Below.refl wr.heap.size wr) _) hb1))
        clear hb1
        go_wp2
        go_roundw
        case rel => exact ⟨k + 1, by omega, by go_num, by rw [Hgo.out]; rfl, HB.out⟩
        case measure => simp [intOf]; omega
    · have e : k = n := by omega
      subst e
      clear hr hrv
      go_wp2
      go_ret
      exact ⟨rfl, hb⟩

set_option maxRecDepth 100000 in
set_option maxHeartbeats 1600000 in
theorem implVio_any (A Av : Option Addr) (n cap nv capv : Nat) (p : Nat → Con) (v : Nat → Bool) (w : World) (hn : n ≤ 1048576) (hn' : ∀ i, i < n → (p i).n ≤ 1048576) (hnv : nv ≤ 1048576) (hr : RdP w w.heap.size A n p) (hrv : RdB w w.heap.size Av nv v) :
    Calls Try.prog 13 #[.slice A n cap, .slice Av nv capv] w fun e w' => e = .returned (.tuple #[.int .i64 (vioN n p nv v : Int), .bool (vioOk n p nv)]) ∧ Below w.heap.size w w' := by
  have Hpr := Lib.hid (implProblem_any A n cap p w hn hn' hr)
  cases hv : probB n p with
  | false =>
    have Hfin := Lib.hid (vio_inv (nv := nv) (v := v) hv)
    rw [hv] at Hpr
    clear hv hr hn'
    go_enter Try.func13, Try.ntmps13
    go_wp2_with fail
    refine Hpr.out.mono ?_
    rintro e w1 ⟨rfl, hb⟩
    have HB1 := Lib.hid hb
    clear hb
    go_wp2
    go_ret2
    exact ⟨ret_vio0 Hfin.out, HB1.out⟩
  | true =>
    rw [hv] at Hpr
    by_cases h12 : nv = 12
    · subst h12
      have Hfin := Lib.hid (vio_yes (v := v) hv)
      have HN := Lib.hid hn'
      clear hv hn'
      go_enter Try.func13, Try.ntmps13
      go_wp2_with fail
      refine Hpr.out.mono ?_
      rintro e w1 ⟨rfl, hb⟩
      have HB1 := Lib.hid hb
      clear hb
      go_wp2_with fail
      refine (violations_any _ _ _ _ _ p v _ hn HN.out (hr.later HB1.out) (hrv.later HB1.out)).mono ?_
      rintro e w2 ⟨rfl, hb⟩
      have HB2 := Lib.hid (bl_trans HB1.out hb)
      clear hb
      go_wp2
      go_ret2
      exact ⟨ret_vio Hfin.out, HB2.out⟩
    · have Hfin := Lib.hid (vio_len (n := n) (p := p) (v := v) h12)
      have hd : ((nv : Int) == 12) = false := by rw [beq_eq_false_iff_ne]; omega
      have hd2 : ((nv : Int) != 12) = true := by rw [bne_iff_ne]; omega
      clear hv hn' h12
      go_enter Try.func13, Try.ntmps13
      go_wp2_with fail
      refine Hpr.out.mono ?_
      rintro e w1 ⟨rfl, hb⟩
      have HB1 := Lib.hid hb
      clear hb
      go_wp2
      go_ret2
      exact ⟨ret_vio0 Hfin.out, HB1.out⟩
end Go.Proofs.Ytnglpbfoeiahlaa
