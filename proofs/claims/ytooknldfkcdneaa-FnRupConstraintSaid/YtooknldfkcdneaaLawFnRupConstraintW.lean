/- The walk of the law FnRupConstraint (no claim of its own). Conditions: as each theorem states. -/
import Derived.Test.YtooknldfkcdneaaRulZ
namespace Go.Proofs.Ytooknldfkcdneaa
open Go.ChangeShapes Go.WideShapes Go.ChangeAt Go.RowKit

set_option linter.unusedSimpArgs false in
set_option linter.unusedVariables false in
set_option maxRecDepth 100000 in
set_option maxHeartbeats 6400000 in
theorem lawFnRupConstraint_ok (A0 : Option Addr) (n0 cap0 : Nat) (y0 : Nat → Int) (w : World) (h0 : n0 ≤ 1048576) (hc0 : n0 ≤ cap0) (hr0 : RdY w w.heap.size A0 n0 y0) :
    Calls Try.prog 6 #[.slice A0 n0 cap0] w fun e w' => e = .returned (.bool true) ∧ Below w.heap.size w w' := by
  have hm0 : n0 ≤ maxLen := by unfold maxLen; omega
  have hi0 : ¬ (1048576 : Int) < (n0 : Int) := by omega
  go_enter Try.func6, Try.ntmps6
  go_wp2_with fail
  refine (drawRup_any _ _ _ y0 _ hm0 hc0 hr0).mono ?_
  rintro e w1 ⟨Aa, ka, capa, xsa, loa, ela, Ac, kc', capc, bd, c, l, rfl, hka, hkc, hp, hrc, hb⟩
  obtain ⟨p, hna, hpa⟩ := hp.pxp
  have HNa := Lib.hid (fun i hi => Nat.le_trans (hna i hi) (show 15 ≤ 1048576 by omega))
  have HNil := Lib.hid hp.nils
  have HB1 := Lib.hid hb
  have PA1 := Lib.hid hp
  have QA1 := Lib.hid hpa
  have RC1 := Lib.hid hrc
  clear hb hp hpa hrc hna
  have hkaB : ka ≤ 1048576 := by omega
  have hkcB : kc' ≤ 1048576 := by omega
  go_wp2_with fail
  have hb2 := bl_alloc (Below.refl w1.heap.size w1) (.cells #[.slice Ac kc' capc, .int .i64 bd] 42)
  have b0 : (w1.alloc (.cells #[.slice Ac kc' capc, .int .i64 bd] 42)).cell? ⟨w1.heap.size, 0, none⟩ = some (.slice Ac kc' capc) := by go_simp
  have b1 : (w1.alloc (.cells #[.slice Ac kc' capc, .int .i64 bd] 42)).cell? ⟨w1.heap.size, 1, none⟩ = some (.int .i64 bd) := by go_simp
  have HB2 := Lib.hid (bl_trans HB1.out hb2)
  have PA2 := Lib.hid (PA1.out.bel hb2)
  have QA2 := Lib.hid (QA1.out.later hb2)
  have RC2 := Lib.hid (RC1.out.later hb2)
  clear hb2 HB1 PA1 QA1 RC1
  generalize (w1.alloc (.cells #[.slice Ac kc' capc, .int .i64 bd] 42)) = w2 at *
  obtain ⟨X, hX⟩ : ∃ X, w1.heap.size = X := ⟨_, rfl⟩
  rw [hX] at b0 b1 ⊢
  clear hX
  refine (implRup_any _ _ _ p _ _ _ bd c l _ hkaB (rdp_own PA2.out.own QA2.out) HNa.out hkcB RC2.out).mono ?_
  rintro e w3 ⟨b, rfl, q0, q1, hb⟩
  have HB3 := Lib.hid (bl_trans HB2.out hb)
  have PA3 := Lib.hid (PA2.out.bel hb)
  have QA3 := Lib.hid (QA2.out.later hb)
  have RC3 := Lib.hid (RC2.out.later hb)
  replace b0 := kc hb b0
  replace b1 := kc hb b1
  clear hb HB2 PA2 QA2 RC2
  have Q0 := Lib.hid q0
  have Q1 := Lib.hid q1
  clear q0 q1
  have HEq := Lib.hid (fun (x : Bool) (h0 : (probB ka p && validB kc' c l bd) = false → x = false) (h1 : (probB ka p && validB kc' c l bd) = true → RupOf p ka kc' bd c l x) => show x = b from by
    cases hok : (probB ka p && validB kc' c l bd) with
    | false => rw [h0 hok, Q0.out hok]
    | true => exact (h1 hok).one (Q1.out hok))
  go_wp2_with fail
  refine (specRup_any _ _ _ p _ _ _ bd c l _ hkaB HNil.out.1 (rdp_own PA3.out.own QA3.out) HNa.out hkcB RC3.out).mono ?_
  rintro e w4 ⟨x, rfl, q0, q1, hb⟩
  obtain rfl : x = b := HEq.out x q0 q1
  clear q0 q1
  have HB4 := Lib.hid (bl_trans HB3.out hb)
  have PA4 := Lib.hid (PA3.out.bel hb)
  have QA4 := Lib.hid (QA3.out.later hb)
  have RC4 := Lib.hid (RC3.out.later hb)
  replace b0 := kc hb b0
  replace b1 := kc hb b1
  clear hb HB3 PA3 QA3 RC3
  cases x with
  | false =>
    go_wp2_with fail
    refine (specRup_any _ _ _ p _ _ _ bd c l _ hkaB HNil.out.1 (rdp_own PA4.out.own QA4.out) HNa.out hkcB RC4.out).mono ?_
    rintro e w5 ⟨x, rfl, q0, q1, hb⟩
    have ex := HEq.out x q0 q1
    subst ex
    clear q0 q1
    have HB5 := Lib.hid (bl_trans HB4.out hb)
    have PA5 := Lib.hid (PA4.out.bel hb)
    have QA5 := Lib.hid (QA4.out.later hb)
    have RC5 := Lib.hid (RC4.out.later hb)
    replace b0 := kc hb b0
    replace b1 := kc hb b1
    clear hb HB4 PA4 QA4 RC4
    go_wp2
    go_ret
    exact ⟨rfl, HB5.out⟩
  | true =>
    have hok : (probB ka p && validB kc' c l bd) = true := by
      cases h : (probB ka p && validB kc' c l bd) with
      | true => rfl
      | false => have := Q0.out h; cases this
    have HRup := Lib.hid (Q1.out hok)
    obtain ⟨hpb, hv⟩ : probB ka p = true ∧ validB kc' c l bd = true := by simpa using hok
    have HSo := Lib.hid (fun (u : Nat → Bool) (h : satB ka p 12 u = true) => rup_sound HNa.out (prob_ok hpb).2 hv HRup.out h)
    clear hok hpb hv HRup Q0 Q1 HEq
    go_wp2
    go_loopw [6] (fun i wr => ∃ j : Nat, i = .int .i64 j ∧ j ≤ 4096 ∧ Below w4.heap.size w4 wr) (fun i _ => 4096 - (intOf i).toNat)
    case atStart => exact ⟨0, rfl, by omega, Below.refl _ _⟩
    case round =>
      obtain ⟨j, rfl, hj, hb⟩ := hrel
      have HBr := Lib.hid hb
      have b0r := kc hb b0
      have b1r := kc hb b1
      clear hb
      by_cases hlt : j < 4096
      · have hjI : (j : Int) < 4096 := by omega
        have PAr := Lib.hid (PA4.out.bel HBr.out)
        have QAr := Lib.hid (QA4.out.later HBr.out)
        have RCr := Lib.hid (RC4.out.later HBr.out)
        clear b0 b1
        go_wp2_with fail
        refine (cpValues_any j _ (by omega)).mono ?_
        rintro e w5 ⟨Au, capu, u, rfl, hu, hb⟩
        have B5 := Lib.hid (bl_trans HBr.out hb)
        have U5 := Lib.hid hu
        have PAa := Lib.hid (PAr.out.bel hb)
        have QAa := Lib.hid (QAr.out.later hb)
        have RCa := Lib.hid (RCr.out.later hb)
        replace b0r := kc hb b0r
        replace b1r := kc hb b1r
        clear hb hu PAr QAr RCr HBr
        go_wp2_with fail
        refine (implSat_any _ _ _ _ _ _ p u _ hkaB HNa.out (by omega) (rdp_own PAa.out.own QAa.out) U5.out).mono ?_
        rintro e w6 ⟨rfl, hb⟩
        have B6 := Lib.hid (bl_trans B5.out hb)
        have U6 := Lib.hid (U5.out.later hb)
        have RCb := Lib.hid (RCa.out.later hb)
        replace b0r := kc hb b0r
        replace b1r := kc hb b1r
        clear hb U5 B5 PAa QAa RCa
        cases hS : satB ka p 12 u with
        | false =>
          clear hS
          go_wp2
          go_roundw
          case rel => exact ⟨j + 1, by go_num, by omega, B6.out⟩
          case measure => simp [intOf]; omega
        | true =>
          have HX := Lib.hid (HSo.out u hS)
          clear hS
          go_wp2_with fail
          refine (implEval_any _ _ _ _ _ _ bd c l u _ hkcB RCb.out U6.out).mono ?_
          rintro e w8 ⟨rfl, hb⟩
          have B8 := Lib.hid (bl_trans B6.out hb)
          clear hb
          rw [HX.out]
          go_wp2
          go_roundw
          case rel => exact ⟨j + 1, by go_num, by omega, B8.out⟩
          case measure => simp [intOf]; omega
      · have e : j = 4096 := by omega
        subst e
        go_wp2
        go_ret
        exact ⟨rfl, bl_trans HB4.out HBr.out⟩

set_option linter.unusedVariables false in
set_option maxRecDepth 100000 in
set_option maxHeartbeats 1600000 in
theorem lawFnRupConstraint_walk (A0 : Option Addr) (n0 cap0 : Nat) (y0 : Nat → Int) (w : World) (hm0 : n0 ≤ maxLen) (hc0 : n0 ≤ cap0) (hr0 : RdY w w.heap.size A0 n0 y0) :
    Calls Try.prog 6 #[.slice A0 n0 cap0] w fun e w' => e = .returned (.bool true) ∧ Below w.heap.size w w' := by
  by_cases h0 : n0 ≤ 1048576
  · exact lawFnRupConstraint_ok A0 n0 cap0 y0 w h0 hc0 hr0
  · unfold maxLen at hm0
    have hi0 : (1048576 : Int) < (n0 : Int) := by omega
    go_enter Try.func6, Try.ntmps6
    go_wp2
    go_ret
    exact ⟨rfl, Below.refl _ _⟩
end Go.Proofs.Ytooknldfkcdneaa
