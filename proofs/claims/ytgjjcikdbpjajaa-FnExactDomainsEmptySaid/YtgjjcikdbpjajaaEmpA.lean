/- Whether a domain is empty: the program's side (no claim of its own). Conditions: as each theorem states. -/
import Derived.Test.YtgjjcikdbpjajaaDofA
namespace Go.Proofs.Ytgjjcikdbpjajaa
open Go.ChangeShapes Go.WideShapes Go.ChangeAt Go.RowKit

set_option maxRecDepth 100000 in
set_option maxHeartbeats 1600000 in
theorem idxE_any (G m cp : Nat) (v : Nat → Int) (w : World) (p1 : m ≤ 5) (hd : OwnS8 w G m v) :
    Calls Try.prog 139 #[.slice (some ⟨G, 0, none⟩) m cp, .int .u64 0] w fun e w' => ∃ r : Int, e = .returned (.int .i64 r) ∧ decide (0 ≤ r) = anyQ (fun i => v i == 0) m ∧ Below w.heap.size w w' := by
  go_enter Try.func139, Try.ntmps139
  go_wp2
  go_loopw [8] (fun i wr => ∃ k : Nat, k ≤ m ∧ i = .int .i64 k ∧ anyQ (fun i => v i == 0) k = false ∧ Below w.heap.size w wr) (fun i _ => m - (intOf i).toNat)
  case atStart => exact ⟨0, Nat.zero_le _, rfl, rfl, Below.refl _ _⟩
  case round =>
    obtain ⟨k, hk, rfl, hp, hb⟩ := hrel
    have Hp := Lib.hid hp
    clear hp
    by_cases hlt : k < m
    · have hc := (hd.below hb hd.lt).cell hlt
      have hlt' : (k : Int) < (m : Int) := by omega
      have hk0 : (0 : Int) ≤ (k : Int) := by omega
      by_cases hv : v k = 0
      · have Hfin := Lib.hid (show decide (0 ≤ (k : Int)) = anyQ (fun i => v i == 0) m from by rw [anyQ_of (q := fun i => v i == 0) hlt (beq_iff_eq.2 hv)]; simp)
        rw [hv] at hc
        clear hv hd
        go_wp2
        go_ret
        exact ⟨_, rfl, Hfin.out, hb⟩
      · have Hno := Lib.hid (anyQ_step (q := fun i => v i == 0) Hp.out (beq_eq_false_iff_ne.2 hv))
        have hv' : ¬ (0 = v k) := fun e => hv e.symm
        clear hd
        go_wp2
        go_roundw
        case rel => exact ⟨k + 1, by omega, by go_num, Hno.out, hb⟩
        case measure => simp [intOf]; omega
    · have e : k = m := by omega
      subst e
      go_wp2
      go_ret
      exact ⟨-1, rfl, by rw [Hp.out]; rfl, hb⟩

set_option maxRecDepth 100000 in
set_option maxHeartbeats 800000 in
theorem ctnE_any (G m cp : Nat) (v : Nat → Int) (w : World) (p1 : m ≤ 5) (hd : OwnS8 w G m v) :
    Calls Try.prog 117 #[.slice (some ⟨G, 0, none⟩) m cp, .int .u64 0] w fun e w' => e = .returned (.bool (anyQ (fun i => v i == 0) m)) ∧ Below w.heap.size w w' := by
  have Hc := Lib.hid (idxE_any G m cp v w p1 hd)
  clear hd
  go_enter Try.func117, Try.ntmps117
  go_wp2_with fail
  refine Hc.out.mono ?_
  rintro e w1 ⟨r, rfl, hm, hb⟩
  have Hm := Lib.hid hm
  clear hm
  go_wp2
  go_ret
  exact ⟨ret_bool Hm.out, hb⟩

set_option maxRecDepth 100000 in
set_option maxHeartbeats 800000 in
theorem someE_any (G m cp : Nat) (v : Nat → Int) (w : World) (p1 : m ≤ 5) (hd : OwnS8 w G m v) :
    Calls Try.prog 75 #[.slice (some ⟨G, 0, none⟩) m cp] w fun e w' => e = .returned (.bool (anyQ (fun i => v i == 0) m)) ∧ Below w.heap.size w w' := by
  have Hc := Lib.hid (ctnE_any G m cp v w p1 hd)
  clear hd
  go_enter Try.func75, Try.ntmps75
  go_wp2_with fail
  refine Hc.out.mono ?_
  rintro e w1 ⟨rfl, hb⟩
  go_wp2
  go_ret
  exact ⟨rfl, hb⟩

theorem anyQ_no {b : Nat → Bool} {n i : Nat} (h : anyQ b n = false) (hi : i < n) : b i = false := by
  cases hb : b i with
  | false => rfl
  | true => rw [anyQ_of hi hb] at h; cases h
theorem anyQ_all {b : Nat → Bool} {n : Nat} (h : ∀ i, i < n → b i = false) : anyQ b n = false := by
  induction n with
  | zero => rfl
  | succ n ih => exact anyQ_step (ih fun i hi => h i (by omega)) (h n (by omega))
theorem anyQ_cg {b c : Nat → Bool} {n : Nat} (h : ∀ i, i < n → b i = c i) : anyQ b n = anyQ c n := by
  cases hb : anyQ c n with
  | false => exact anyQ_all fun i hi => (h i hi).trans (anyQ_no hb hi)
  | true =>
    cases hc : anyQ b n with
    | true => rfl
    | false =>
      have : anyQ c n = false := anyQ_all fun i hi => (h i hi).symm.trans (anyQ_no hc hi)
      rw [this] at hb; cases hb

/-- Some domain is empty. -/
def emQ (m : Nat) (d : Nat → LsB) : Bool := anyQ (fun i => !anyQ (d i).x (d i).n) m
theorem emQ_msk (m : Nat) (d : Nat → LsB) : anyQ (fun i => msk (d i).x (d i).n == 0) m = emQ m d := anyQ_cg fun i hi => by
  cases h : anyQ (d i).x (d i).n with
  | false => exact beq_iff_eq.2 (msk_zero.2 fun j hj => anyQ_no h hj)
  | true =>
    refine beq_eq_false_iff_ne.2 fun e => ?_
    rw [anyQ_all (msk_zero.1 e)] at h
    cases h

set_option maxRecDepth 100000 in
set_option maxHeartbeats 1600000 in
theorem l8Empty_any (m : Nat) (d : Nat → LsB) (Ad : Option Addr) (cd : Nat) (w : World) (p1 : m ≤ 5) (p2 : ∀ i, i < m → (d i).n ≤ 4) (hd : RdLB w w.heap.size Ad m d) :
    Calls Try.prog 73 #[.slice Ad m cd] w fun e w' => e = .returned (.bool (emQ m d)) ∧ Below w.heap.size w w' := by
  have He := Lib.hid (show ∀ z, emQ m d = z ↔ anyQ (fun i => !anyQ (d i).x (d i).n) m = z from fun z => Iff.rfl)
  have HP2 := Lib.hid p2
  have HD := Lib.hid hd
  clear p2 hd
  go_enter Try.func73, Try.ntmps73
  go_wp2
  go_loopw [3] (fun i wr => ∃ k : Nat, k ≤ m ∧ i = .int .i64 k ∧ anyQ (fun i => !anyQ (d i).x (d i).n) k = false ∧ Below w.heap.size w wr) (fun i _ => m - (intOf i).toNat)
  case atStart => exact ⟨0, Nat.zero_le _, rfl, rfl, Below.refl _ _⟩
  case round =>
    obtain ⟨k, hk, rfl, hp, hb⟩ := hrel
    have Hp := Lib.hid hp
    clear hp
    by_cases hlt : k < m
    · obtain ⟨b, off, rfl, hbl, hc⟩ := HD.out (by omega)
      obtain ⟨Ai, ci, hc0, hrk⟩ := hc k hlt
      have h4 := HP2.out k hlt
      have HBk := Lib.hid hb
      have hrk' := Lib.hid hrk
      have HC0 := Lib.hid (fun (X : World) (hX : Below w.heap.size w X) => (hX.cell (p := ⟨b, _, none⟩) hbl).trans hc0)
      clear hc hb hrk hc0
      have hlt' : (k : Int) < (m : Int) := by omega
      have hk0 : (0 : Int) ≤ (k : Int) := by omega
      go_wp2
      go_loopw [4, 5] (fun f i wr => ∃ j : Nat, j ≤ (d k).n ∧ i = .int .i64 j ∧ f = .bool (anyQ (d k).x j) ∧ Below w.heap.size w wr) (fun _ i _ => (d k).n - (intOf i).toNat)
      case atStart => exact ⟨0, Nat.zero_le _, rfl, rfl, HBk.out⟩
      case round =>
        obtain ⟨j, hj, rfl, rfl, hb⟩ := hrel
        have hc1 := HC0.out _ hb
        by_cases hjt : j < (d k).n
        · obtain ⟨b2, off2, rfl, hbl2, hc2⟩ := (hrk'.out.below hb) (by omega)
          have hc3 := hc2 j hjt
          clear hc2
          have hj0 : (0 : Int) ≤ (j : Int) := by omega
          have hjt' : (j : Int) < ((d k).n : Int) := by omega
          cases hf : anyQ (d k).x j with
          | true =>
            have Hn := Lib.hid (show anyQ (d k).x (j + 1) = true from by show (anyQ (d k).x j || (d k).x j) = true; rw [hf]; rfl)
            clear hf
            go_wp2
            go_roundw
            case rel => exact ⟨j + 1, by omega, by go_num, by rw [Hn.out], hb⟩
            case measure => simp [intOf]; omega
          | false =>
            have Hn := Lib.hid (show anyQ (d k).x (j + 1) = (d k).x j from by show (anyQ (d k).x j || (d k).x j) = _; rw [hf]; rfl)
            clear hf
            go_wp2
            go_roundw
            case rel => exact ⟨j + 1, by omega, by go_num, by rw [Hn.out], hb⟩
            case measure => simp [intOf]; omega
        · have e : j = (d k).n := by omega
          subst e
          cases hf : anyQ (d k).x (d k).n with
          | true =>
            have Hno := Lib.hid (anyQ_step (q := fun i => !anyQ (d i).x (d i).n) Hp.out (by simp only [hf]; rfl))
            clear hf
            go_wp2
            go_roundw
            case rel => exact ⟨k + 1, by omega, by go_num, Hno.out, hb⟩
            case measure => simp [intOf]; omega
          | false =>
            have Hfin := Lib.hid ((He.out true).2 (anyQ_of (q := fun i => !anyQ (d i).x (d i).n) hlt (by simp only [hf]; rfl)))
            clear hf
            go_wp2
            go_ret
            exact ⟨ret_bool Hfin.out.symm, hb⟩
    · have e : k = m := by omega
      subst e
      have Hfin := Lib.hid ((He.out false).2 Hp.out)
      go_wp2
      go_ret
      exact ⟨ret_bool Hfin.out.symm, hb⟩
end Go.Proofs.Ytgjjcikdbpjajaa
