/- The walk of the law FnRupMember (no claim of its own). Conditions: as each theorem states. -/
import Derived.Test.YtooknldfkcdneaaRulZ
namespace Go.Proofs.Ytooknldfkcdneaa
open Go.ChangeShapes Go.WideShapes Go.ChangeAt Go.RowKit

set_option linter.unusedSimpArgs false in
set_option linter.unusedVariables false in
set_option maxRecDepth 100000 in
set_option maxHeartbeats 6400000 in
theorem lawFnRupMember_ok (A0 : Option Addr) (n0 cap0 : Nat) (y0 : Nat → Int) (A1 : Option Addr) (n1 cap1 : Nat) (y1 : Nat → Int) (w : World) (h0 : n0 ≤ 1048576) (hc0 : n0 ≤ cap0) (hr0 : RdY w w.heap.size A0 n0 y0) (h1 : n1 ≤ 1048576) (hc1 : n1 ≤ cap1) (hr1 : RdY w w.heap.size A1 n1 y1) :
    Calls Try.prog 10 #[.slice A0 n0 cap0, .slice A1 n1 cap1] w fun e w' => e = .returned (.bool true) ∧ Below w.heap.size w w' := by
  have hm0 : n0 ≤ maxLen := by unfold maxLen; omega
  have hi0 : ¬ (1048576 : Int) < (n0 : Int) := by omega
  have hm1 : n1 ≤ maxLen := by unfold maxLen; omega
  have hi1 : ¬ (1048576 : Int) < (n1 : Int) := by omega
  go_enter Try.func10, Try.ntmps10
  go_wp2_with fail
  refine (drawRup_any _ _ _ y0 _ hm0 hc0 hr0).mono ?_
  rintro e w1 ⟨Aa, ka, capa, xsa, loa, ela, Ac, kc', capc, bd, c, l, rfl, hka, hkc, hp, hrc, hb⟩
  obtain ⟨p, hna, hpa⟩ := hp.pxp
  have HNa := Lib.hid (fun i hi => Nat.le_trans (hna i hi) (show 15 ≤ 1048576 by omega))
  have HNil := Lib.hid hp.nils
  have HB1 := Lib.hid hb
  have PA1 := Lib.hid hp
  have QA1 := Lib.hid hpa
  have RC1 := Lib.hid hrc
  clear hb hp hpa hrc hna
  have hkaB : ka ≤ 1048576 := by omega
  have hkcB : kc' ≤ 1048576 := by omega
  go_wp2_with fail
  have hb2 := bl_alloc (Below.refl w1.heap.size w1) (.cells #[.slice Ac kc' capc, .int .i64 bd] 42)
  have b0 : (w1.alloc (.cells #[.slice Ac kc' capc, .int .i64 bd] 42)).cell? ⟨w1.heap.size, 0, none⟩ = some (.slice Ac kc' capc) := by go_simp
  have b1 : (w1.alloc (.cells #[.slice Ac kc' capc, .int .i64 bd] 42)).cell? ⟨w1.heap.size, 1, none⟩ = some (.int .i64 bd) := by go_simp
  have HB2 := Lib.hid (bl_trans HB1.out hb2)
  have PA2 := Lib.hid (PA1.out.bel hb2)
  have QA2 := Lib.hid (QA1.out.later hb2)
  have RC2 := Lib.hid (RC1.out.later hb2)
  clear hb2 HB1 PA1 QA1 RC1
  generalize (w1.alloc (.cells #[.slice Ac kc' capc, .int .i64 bd] 42)) = w2 at *
  obtain ⟨X, hX⟩ : ∃ X, w1.heap.size = X := ⟨_, rfl⟩
  rw [hX] at b0 b1 ⊢
  clear hX
  refine (implRup_any _ _ _ p _ _ _ bd c l _ hkaB (rdp_own PA2.out.own QA2.out) HNa.out hkcB RC2.out).mono ?_
  rintro e w3 ⟨b, rfl, q0, q1, hb⟩
  have HB3 := Lib.hid (bl_trans HB2.out hb)
  have PA3 := Lib.hid (PA2.out.bel hb)
  have QA3 := Lib.hid (QA2.out.later hb)
  have RC3 := Lib.hid (RC2.out.later hb)
  replace b0 := kc hb b0
  replace b1 := kc hb b1
  clear hb HB2 PA2 QA2 RC2
  have Q0 := Lib.hid q0
  have Q1 := Lib.hid q1
  clear q0 q1
  have HEq := Lib.hid (fun (x : Bool) (h0 : (probB ka p && validB kc' c l bd) = false → x = false) (h1 : (probB ka p && validB kc' c l bd) = true → RupOf p ka kc' bd c l x) => show x = b from by
    cases hok : (probB ka p && validB kc' c l bd) with
    | false => rw [h0 hok, Q0.out hok]
    | true => exact (h1 hok).one (Q1.out hok))
  go_wp2_with fail
  refine (specRup_any _ _ _ p _ _ _ bd c l _ hkaB HNil.out.1 (rdp_own PA3.out.own QA3.out) HNa.out hkcB RC3.out).mono ?_
  rintro e w4 ⟨x, rfl, q0, q1, hb⟩
  obtain rfl : x = b := HEq.out x q0 q1
  clear q0 q1
  have HB4 := Lib.hid (bl_trans HB3.out hb)
  have PA4 := Lib.hid (PA3.out.bel hb)
  have QA4 := Lib.hid (QA3.out.later hb)
  have RC4 := Lib.hid (RC3.out.later hb)
  replace b0 := kc hb b0
  replace b1 := kc hb b1
  clear hb HB3 PA3 QA3 RC3
  go_wp2_with fail
  refine (implProblem_any _ _ _ p _ hkaB HNa.out (rdp_own PA4.out.own QA4.out)).mono ?_
  rintro e w5 ⟨rfl, hb⟩
  have HB5 := Lib.hid (bl_trans HB4.out hb)
  have PA5 := Lib.hid (PA4.out.bel hb)
  have QA5 := Lib.hid (QA4.out.later hb)
  have RC5 := Lib.hid (RC4.out.later hb)
  replace b0 := kc hb b0
  replace b1 := kc hb b1
  clear hb HB4 PA4 QA4 RC4
  cases hp : probB ka p with
  | false =>
    go_wp2_with fail
    refine (specRup_any _ _ _ p _ _ _ bd c l _ hkaB HNil.out.1 (rdp_own PA5.out.own QA5.out) HNa.out hkcB RC5.out).mono ?_
    rintro e w6 ⟨x2, rfl, q0, q1, hb⟩
    obtain rfl : x2 = x := HEq.out x2 q0 q1
    clear q0 q1
    have HB6 := Lib.hid (bl_trans HB5.out hb)
    have PA6 := Lib.hid (PA5.out.bel hb)
    have QA6 := Lib.hid (QA5.out.later hb)
    have RC6 := Lib.hid (RC5.out.later hb)
    replace b0 := kc hb b0
    replace b1 := kc hb b1
    clear hb HB5 PA5 QA5 RC5
    go_wp2
    go_ret
    exact ⟨rfl, HB6.out⟩
  | true =>
    have HP := Lib.hid hp
    clear hp
    by_cases hz : ka = 0
    · subst hz
      go_wp2_with fail
      refine (specRup_any _ _ _ p _ _ _ bd c l _ hkaB HNil.out.1 (rdp_own PA5.out.own QA5.out) HNa.out hkcB RC5.out).mono ?_
      rintro e w6 ⟨x2, rfl, q0, q1, hb⟩
      obtain rfl : x2 = x := HEq.out x2 q0 q1
      clear q0 q1
      have HB6 := Lib.hid (bl_trans HB5.out hb)
      have PA6 := Lib.hid (PA5.out.bel hb)
      have QA6 := Lib.hid (QA5.out.later hb)
      have RC6 := Lib.hid (RC5.out.later hb)
      replace b0 := kc hb b0
      replace b1 := kc hb b1
      clear hb HB5 PA5 QA5 RC5
      go_wp2
      go_ret
      exact ⟨rfl, HB6.out⟩
    · have hzI : ¬ (ka : Int) = 0 := by omega
      obtain ⟨j, hmod, hj⟩ : ∃ j : Nat, Int.tmod (n1 : Int) (ka : Int) = (j : Int) ∧ j < ka := ⟨n1 % ka, by rw [Int.tmod_eq_emod_of_nonneg (by omega)]; simp, Nat.mod_lt _ (by omega)⟩
      have hjI : (j : Int) < (ka : Int) := by omega
      obtain ⟨mb, moff, hA, hmlt, hcells⟩ := (rdp_own PA5.out.own QA5.out) (by omega)
      obtain ⟨Ai, ci, h1c, h2c, hrm⟩ := hcells j hj
      subst hA
      clear hcells
      have RM := Lib.hid hrm
      clear hrm
      have hbA := Lib.hid (bl_alloc (Below.refl w5.heap.size w5) (.cells #[.slice Ai (p j).n ci, .int .i64 (p j).bd] 42))
      by_cases hbd : 1 < (p j).bd
      · go_wp2
        go_ret
        exact ⟨rfl, bl_trans HB5.out hbA.out⟩
      · have HPx := Lib.hid (rdp_own PA5.out.own QA5.out)
        go_wp2_with fail
        refine (implRup_any _ _ _ p _ _ _ (p j).bd (p j).c (p j).l _ hkaB (HPx.out.later hbA.out) HNa.out (HNa.out j hj) (RM.out.later hbA.out)).mono ?_
        rintro e w6 ⟨y, rfl, q0, q1, hb⟩
        have hok2 := (prob_ok HP.out).2
        have hvj : validB (p j).n (p j).c (p j).l (p j).bd = true := hok2 j hj
        have ey : y = true := rup_member hok2 hj (by omega) (q1 (by rw [HP.out, hvj]; rfl))
        subst ey
        have HB7 := Lib.hid (bl_trans HB5.out (bl_trans hbA.out hb))
        clear hb q0 q1
        go_wp2
        go_ret
        exact ⟨rfl, HB7.out⟩

set_option linter.unusedVariables false in
set_option maxRecDepth 100000 in
set_option maxHeartbeats 1600000 in
theorem lawFnRupMember_walk (A0 : Option Addr) (n0 cap0 : Nat) (y0 : Nat → Int) (A1 : Option Addr) (n1 cap1 : Nat) (y1 : Nat → Int) (w : World) (hm0 : n0 ≤ maxLen) (hc0 : n0 ≤ cap0) (hr0 : RdY w w.heap.size A0 n0 y0) (hm1 : n1 ≤ maxLen) (hc1 : n1 ≤ cap1) (hr1 : RdY w w.heap.size A1 n1 y1) :
    Calls Try.prog 10 #[.slice A0 n0 cap0, .slice A1 n1 cap1] w fun e w' => e = .returned (.bool true) ∧ Below w.heap.size w w' := by
  by_cases h0 : n0 ≤ 1048576
  · by_cases h1 : n1 ≤ 1048576
    · exact lawFnRupMember_ok A0 n0 cap0 y0 A1 n1 cap1 y1 w h0 hc0 hr0 h1 hc1 hr1
    · unfold maxLen at hm1
      have hi0 : ¬ (1048576 : Int) < (n0 : Int) := by omega
      have hi1 : (1048576 : Int) < (n1 : Int) := by omega
      go_enter Try.func10, Try.ntmps10
      go_wp2
      go_ret
      exact ⟨rfl, Below.refl _ _⟩
  · unfold maxLen at hm0
    have hi0 : (1048576 : Int) < (n0 : Int) := by omega
    go_enter Try.func10, Try.ntmps10
    go_wp2
    go_ret
    exact ⟨rfl, Below.refl _ _⟩
end Go.Proofs.Ytooknldfkcdneaa
