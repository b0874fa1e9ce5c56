/- Cubes: whether all literals of one are true, on both sides (no claim of its own). Conditions: as each theorem states. -/
import Derived.Test.YtjfcgehmeecnfaaCubA
import Derived.Test.YtjfcgehmeecnfaaEvaA
namespace Go.Proofs.Ytjfcgehmeecnfaa
open Go.ChangeShapes Go.WideShapes Go.ChangeAt Go.RowKit Go.Shelf

/-- The first k literals are true. -/
def holdR (c : Nat → Int) (v : Nat → Bool) : Nat → Bool
  | 0 => true
  | k + 1 => holdR c v k && trueP v (c k)
/-- What CubeHolds answers. -/
def holdsB (n : Nat) (c : Nat → Int) (nv : Nat) (v : Nat → Bool) : Bool := cubeB n c && ((nv == 12) && holdR c v n)
section
variable {c : Nat → Int} {v : Nat → Bool} {n nv k : Nat}
theorem holdR_no (h : trueP v (c k) = false) (hk : k < n) : holdR c v n = false := by
  induction n with
  | zero => omega
  | succ n ih =>
    unfold holdR
    by_cases e : k = n
    · subst e; rw [h, Bool.and_false]
    · rw [ih (by omega), Bool.false_and]
theorem holdR_yes (h : holdR c v k = true) (h1 : trueP v (c k) = true) : holdR c v (k + 1) = true := by unfold holdR; rw [h, h1]; rfl
theorem holds_inv (h : cubeB n c = false) : holdsB n c nv v = false := by unfold holdsB; rw [h]; rfl
theorem holds_len (h : nv ≠ 12) : holdsB n c nv v = false := by unfold holdsB; rw [show (nv == 12) = false by rw [beq_eq_false_iff_ne]; exact h]; simp
theorem holds_eq (h : cubeB n c = true) : holdsB n c 12 v = holdR c v n := by unfold holdsB; rw [h]; rfl
theorem holdR_any : ∀ n, holdR c v n = !anyQ (fun i => !trueP v (c i)) n
  | 0 => rfl
  | n + 1 => by
    show (holdR c v n && trueP v (c n)) = !(anyQ (fun i => !trueP v (c i)) n || !trueP v (c n))
    rw [holdR_any n]
    cases anyQ (fun i => !trueP v (c i)) n <;> cases trueP v (c n) <;> rfl
end

set_option maxRecDepth 100000 in
set_option maxHeartbeats 1600000 in
theorem specHolds_any (A Av : Option Addr) (n cap nv capv : Nat) (c : Nat → Int) (v : Nat → Bool) (w : World) (hn : n ≤ 1048576) (hnv : nv ≤ 1048576) (hr : RdI w w.heap.size A n c) (hrv : RdB w w.heap.size Av nv v) :
    Calls Try.prog 10 #[.slice A n cap, .slice Av nv capv] w fun e w' => e = .returned (.bool (holdsB n c nv v)) ∧ Below w.heap.size w w' := by
  cases hp : cubeB n c with
  | false =>
    have Hfin := Lib.hid (holds_inv (nv := nv) (v := v) hp)
    have Hp := Lib.hid hp
    clear hp
    go_enter Try.func10, Try.ntmps10
    go_wp2_with fail
    refine (l12Cube_any _ _ _ c _ hn hr).mono ?_
    rintro e w1 ⟨rfl, hb⟩
    rw [Hp.out]
    go_wp2
    go_ret
    exact ⟨ret_bool Hfin.out.symm, hb⟩
  | true =>
    by_cases h12 : nv = 12
    · subst h12
      have Hfin := Lib.hid (holds_eq (v := v) hp)
      have HL := Lib.hid (cube_parts hp).1
      have Hp := Lib.hid hp
      clear hp
      go_enter Try.func10, Try.ntmps10
      go_wp2_with fail
      refine (l12Cube_any _ _ _ c _ hn hr).mono ?_
      rintro e w1 ⟨rfl, hb⟩
      rw [Hp.out]
      have HB1 := Lib.hid hb
      clear hb
      go_wp2
      go_loopw [5] (fun i wr => ∃ k : Nat, k ≤ n ∧ i = .int .i64 k ∧ holdR c v k = true ∧ Below w.heap.size w wr) (fun i _ => n - (intOf i).toNat)
      case atStart => exact ⟨0, Nat.zero_le _, rfl, rfl, HB1.out⟩
      case round =>
        obtain ⟨k, hk, rfl, hh, hb⟩ := hrel
        have Hh := Lib.hid hh
        clear hh HB1
        by_cases hlt : k < n
        · obtain ⟨b, off, rfl, hbl, hc⟩ := (hr.below hb) (by omega)
          have hc1 := hc k hlt
          have Hl := Lib.hid (litR_at HL.out hlt)
          have HV := Lib.hid (hrv.later hb)
          clear hc hr hrv
          cases hq : trueP v (c k) with
          | false =>
            have No := Lib.hid (holdR_no hq hlt)
            go_wp2_with fail
            refine (l1True_any _ _ v _ _ Hl.out HV.out).mono ?_
            rintro e w' ⟨rfl, rfl⟩
            rw [hq]
            go_wp2
            go_ret
            exact ⟨ret_bool (by rw [Hfin.out, No.out]), hb⟩
          | true =>
            have Yes := Lib.hid (holdR_yes Hh.out hq)
            go_wp2_with fail
            refine (l1True_any _ _ v _ _ Hl.out HV.out).mono ?_
            rintro e w' ⟨rfl, rfl⟩
            rw [hq]
            clear hq
            go_wp2
            go_roundw
            case rel => exact ⟨k + 1, by omega, by go_num, Yes.out, hb⟩
            case measure => simp [intOf]; omega
        · have e : k = n := by omega
          subst e
          clear hr hrv
          go_wp2
          go_ret
          exact ⟨ret_bool (by rw [Hfin.out, Hh.out]), hb⟩
    · have Hfin := Lib.hid (holds_len (n := n) (c := c) (v := v) h12)
      have Hp := Lib.hid hp
      have h12' : ((nv : Int) == 12) = false := by rw [beq_eq_false_iff_ne]; omega
      clear hp
      go_enter Try.func10, Try.ntmps10
      go_wp2_with fail
      refine (l12Cube_any _ _ _ c _ hn hr).mono ?_
      rintro e w1 ⟨rfl, hb⟩
      rw [Hp.out]
      go_wp2
      go_ret
      exact ⟨ret_bool Hfin.out.symm, hb⟩

set_option maxRecDepth 100000 in
set_option maxHeartbeats 1600000 in
theorem indexJ_any (f : Nat) (lb : Array Value) (A : Option Addr) (n cap : Nat) (x : Nat → Int) (b : Nat → Bool) (w : World) (hn : n ≤ 1048576) (hr : RdI w w.heap.size A n x)
    (ef : ∀ args w, (callFunc f args).run Try.prog w = .ok (.enter f args) w)
    (hf : ∀ (k : Nat) (X : World), k < n → Below w.heap.size w X → Calls Try.prog f (#[.int .i64 (x k)] ++ lb) X fun e X' => e = .returned (.bool (b k)) ∧ Below X.heap.size X X') :
    Calls Try.prog 78 #[.slice A n cap, .func (.func f) #[] lb] w fun e w' => ∃ m : Int, e = .returned (.int .i64 m) ∧ decide (0 ≤ m) = anyQ b n ∧ Below w.heap.size w w' := by
  go_enter Try.func78, Try.ntmps78
  go_wp2
  go_loopw [8] (fun i wr => ∃ k : Nat, k ≤ n ∧ i = .int .i64 k ∧ anyQ b k = false ∧ Below w.heap.size w wr) (fun i _ => n - (intOf i).toNat)
  case atStart => exact ⟨0, Nat.zero_le _, rfl, rfl, Below.refl _ _⟩
  case round =>
    obtain ⟨k, hk, rfl, hp, hb⟩ := hrel
    have Hp := Lib.hid hp
    clear hp
    by_cases hlt : k < n
    · obtain ⟨bb, off, rfl, hbl, hc⟩ := (hr.below hb) (by omega)
      have hc1 := hc k hlt
      have Hcall := Lib.hid (hf k wr hlt hb)
      clear hc hr hf
      cases hq : b k with
      | true =>
        have Hfin := Lib.hid (show decide (0 ≤ (k : Int)) = anyQ b n from by rw [anyQ_of hlt hq]; simp)
        rw [hq] at Hcall
        clear hq
        go_wp2_with fail
        refine Hcall.out.mono ?_
        rintro e w1 ⟨rfl, hb1⟩
        go_wp2
        go_ret
        exact ⟨_, rfl, Hfin.out, hb.trans (hb1.mono hb.size)⟩
      | false =>
        have Hno := Lib.hid (anyQ_step Hp.out hq)
        rw [hq] at Hcall
        clear hq
        go_wp2_with fail
        refine Hcall.out.mono ?_
        rintro e w1 ⟨rfl, hb1⟩
        go_wp2
        go_roundw
        case rel => exact ⟨k + 1, by omega, by go_num, Hno.out, hb.trans (hb1.mono hb.size)⟩
        case measure => simp [intOf]; omega
    · have e : k = n := by omega
      subst e
      go_wp2
      go_ret
      exact ⟨-1, rfl, by rw [Hp.out]; rfl, hb⟩

set_option maxRecDepth 100000 in
set_option maxHeartbeats 800000 in
theorem containsJ_any (f : Nat) (lb : Array Value) (A : Option Addr) (n cap : Nat) (x : Nat → Int) (b : Nat → Bool) (w : World) (hn : n ≤ 1048576) (hr : RdI w w.heap.size A n x)
    (ef : ∀ args w, (callFunc f args).run Try.prog w = .ok (.enter f args) w)
    (hf : ∀ (k : Nat) (X : World), k < n → Below w.heap.size w X → Calls Try.prog f (#[.int .i64 (x k)] ++ lb) X fun e X' => e = .returned (.bool (b k)) ∧ Below X.heap.size X X') :
    Calls Try.prog 42 #[.slice A n cap, .func (.func f) #[] lb] w fun e w' => e = .returned (.bool (anyQ b n)) ∧ Below w.heap.size w w' := by
  have Hc := Lib.hid (indexJ_any f lb A n cap x b w hn hr ef hf)
  clear hf ef hr
  go_enter Try.func42, Try.ntmps42
  go_wp2_with fail
  refine Hc.out.mono ?_
  rintro e w1 ⟨m, rfl, hm, hb⟩
  have Hm := Lib.hid hm
  clear hm
  go_wp2
  go_ret
  exact ⟨ret_bool Hm.out, hb⟩
end Go.Proofs.Ytjfcgehmeecnfaa
