/- The model's ExtendsPartial (no claim of its own). Conditions: as each theorem states. -/
import Derived.Test.YtipblbcedkhmbaaNotF
import Derived.Test.YtipblbcedkhmbaaProB
namespace Go.Proofs.Ytipblbcedkhmbaa
open Go.ChangeShapes Go.WideShapes Go.ChangeAt Go.RowKit Go.Shelf

/-- A value agrees with what a variable is given. -/
def agP (x : Int) (b : Bool) : Bool := !((x == 1 && !b) || (x == -1 && b))
/-- The first k values agree. -/
def agT (v : Nat → Int) (u : Nat → Bool) : Nat → Bool
  | 0 => true
  | k + 1 => agT v u k && agP (v k) (u k)
/-- What ExtendsPartial answers. -/
def extB (n : Nat) (v : Nat → Int) (nv : Nat) (u : Nat → Bool) : Bool := pvB n v && (nv == 12 && agT v u 12)
section
variable {v : Nat → Int} {u : Nat → Bool} {n nv k : Nat}
theorem agT_no (hk : k < n) (h : agP (v k) (u k) = false) : agT v u n = false := by
  induction n with
  | zero => omega
  | succ n ih =>
    unfold agT
    by_cases e : k = n
    · subst e; rw [h, Bool.and_false]
    · rw [ih (by omega), Bool.false_and]
theorem agT_yes (h : agT v u k = true) (h1 : agP (v k) (u k) = true) : agT v u (k + 1) = true := by
  unfold agT
  rw [h, h1]
  rfl
theorem ext_inv (h : pvB n v = false) : extB n v nv u = false := by simp [extB, h]
theorem ext_len (h : nv ≠ 12) : extB n v nv u = false := by simp [extB, h]
theorem ext_yes (h : pvB n v = true) : extB n v 12 u = agT v u 12 := by simp [extB, h]
end

set_option maxRecDepth 100000 in
set_option maxHeartbeats 3200000 in
theorem specExt_any (A Av : Option Addr) (n cap nv capv : Nat) (v : Nat → Int) (u : Nat → Bool) (w : World) (hn : n ≤ 1048576) (hnv : nv ≤ 1048576) (hr : RdI w w.heap.size A n v) (hru : RdB w w.heap.size Av nv u) :
    Calls Try.prog 27 #[.slice A n cap, .slice Av nv capv] w fun e w' => e = .returned (.bool (extB n v nv u)) ∧ Below w.heap.size w w' := by
  cases hp : pvB n v with
  | false =>
    have Hfin := Lib.hid (ext_inv (nv := nv) (u := u) hp)
    have Hp := Lib.hid hp
    clear hp
    go_enter Try.func27, Try.ntmps27
    go_wp2_with fail
    refine (specPartial_any _ _ _ v _ hn hr).mono ?_
    rintro e w' ⟨rfl, hw⟩
    replace hw := hw.symm
    subst hw
    rw [Hp.out]
    go_wp2
    go_ret
    exact ⟨ret_bool Hfin.out.symm, Below.refl _ _⟩
  | true =>
    by_cases h12 : nv = 12
    · subst h12
      obtain ⟨hn12, hvv⟩ := pvB_iff.1 hp
      subst hn12
      have Hfin := Lib.hid (ext_yes (u := u) hp)
      have HV := Lib.hid hvv
      have Hp := Lib.hid hp
      obtain ⟨b, off, rfl, hbl, hc⟩ := hr (by omega)
      obtain ⟨b', off', rfl, hbl', hc'⟩ := hru (by omega)
      have Hc := Lib.hid hc
      have Hc' := Lib.hid hc'
      have Hr := Lib.hid hr
      clear hp hvv hc hc' hr hru
      go_enter Try.func27, Try.ntmps27
      go_wp2_with fail
      refine (specPartial_any _ _ _ v _ (by omega) Hr.out).mono ?_
      rintro e w' ⟨rfl, hw⟩
      replace hw := hw.symm
      subst hw
      rw [Hp.out]
      go_wp2
      go_loop [5] (fun i => ∃ k : Nat, k ≤ 12 ∧ i = .int .i64 k ∧ agT v u k = true) (fun i => 12 - (intOf i).toNat)
      case atStart => exact ⟨0, Nat.zero_le _, rfl, rfl⟩
      case round =>
        obtain ⟨k, hk, rfl, ha⟩ := hrel
        have Ha := Lib.hid ha
        clear ha
        by_cases hlt : k < 12
        · obtain ⟨hv0, hv1⟩ := HV.out k hlt
          have hc1 := Hc.out k hlt
          have hc2 := Hc'.out k hlt
          cases hq : agP (v k) (u k) with
          | true =>
            have Hgo := Lib.hid (agT_yes Ha.out hq)
            have hcase : (v k = -1 ∧ u k = false) ∨ v k = 0 ∨ (v k = 1 ∧ u k = true) := by
              have h3 : v k = -1 ∨ v k = 0 ∨ v k = 1 := by omega
              clear hc1 hc2
              rcases h3 with e | e | e <;> cases hu : u k <;> rw [e, hu] at hq <;> simp [agP] at hq <;> simp [e]
            clear hq hv0 hv1
            rcases hcase with ⟨e1, e2⟩ | e1 | ⟨e1, e2⟩
            · rw [e1] at hc1
              rw [e2] at hc2
              clear e1 e2
              go_wp2
              go_round
              case rel => exact ⟨k + 1, by omega, by go_num, Hgo.out⟩
              case measure => simp [intOf]; omega
            · rw [e1] at hc1
              clear e1
              go_wp2
              go_round
              case rel => exact ⟨k + 1, by omega, by go_num, Hgo.out⟩
              case measure => simp [intOf]; omega
            · rw [e1] at hc1
              rw [e2] at hc2
              clear e1 e2
              go_wp2
              go_round
              case rel => exact ⟨k + 1, by omega, by go_num, Hgo.out⟩
              case measure => simp [intOf]; omega
          | false =>
            have Hno := Lib.hid (agT_no hlt hq)
            have hcase : (v k = -1 ∧ u k = true) ∨ (v k = 1 ∧ u k = false) := by
              have h3 : v k = -1 ∨ v k = 0 ∨ v k = 1 := by omega
              clear hc1 hc2
              rcases h3 with e | e | e <;> cases hu : u k <;> rw [e, hu] at hq <;> simp [agP] at hq <;> simp [e]
            clear hq hv0 hv1
            rcases hcase with ⟨e1, e2⟩ | ⟨e1, e2⟩
            all_goals
              rw [e1] at hc1
              rw [e2] at hc2
              clear e1 e2
              go_wp2
              go_ret
              exact ⟨ret_bool (by rw [Hfin.out, Hno.out]), Below.refl _ _⟩
        · have e : k = 12 := by omega
          subst e
          go_wp2
          go_ret
          exact ⟨ret_bool (by rw [Hfin.out, Ha.out]), Below.refl _ _⟩
    · have Hfin := Lib.hid (ext_len (n := n) (v := v) (u := u) h12)
      have hd : ((nv : Int) != 12) = true := by rw [bne_iff_ne]; omega
      have Hp := Lib.hid hp
      clear hp h12
      go_enter Try.func27, Try.ntmps27
      go_wp2_with fail
      refine (specPartial_any _ _ _ v _ hn hr).mono ?_
      rintro e w' ⟨rfl, hw⟩
      replace hw := hw.symm
      subst hw
      rw [Hp.out]
      go_wp2
      go_ret
      exact ⟨ret_bool Hfin.out.symm, Below.refl _ _⟩
end Go.Proofs.Ytipblbcedkhmbaa
