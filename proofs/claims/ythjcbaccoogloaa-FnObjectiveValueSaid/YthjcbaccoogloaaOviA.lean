/- Objectives: what both sides answer (no claim of its own). Conditions: as each theorem states. -/
import Derived.Test.YthjcbaccoogloaaRhZ
namespace Go.Proofs.Ythjcbaccoogloaa
open Go.ChangeShapes Go.WideShapes Go.ChangeAt Go.RowKit

/-- The coefficients of an objective. -/
def coB (s co : Lst) : Bool := co.n == s.n && prE (fun i => betB (-9) 9 (co.x i)) co.n
def ovB (s : Lst) (n : Nat) (q : Nat → Rul) (c co : Lst) : Bool := cvB s n q c && coB s co
/-- What ObjectiveValue answers. -/
def ovI (s : Lst) (n : Nat) (q : Nat → Rul) (c co : Lst) : Int := if ovB s n q c co then linS co.x c.x co.n else 0
theorem co_bd {s co : Lst} (h : coB s co = true) : co.n = s.n ∧ ∀ i, i < co.n → -9 ≤ co.x i ∧ co.x i ≤ 9 := by
  unfold coB at h
  rw [Bool.and_eq_true, beq_iff_eq] at h
  refine ⟨h.1, fun i hi => ?_⟩
  have := prE_at h.2 hi
  simp [betB] at this
  exact this
theorem lin_upto {a p : Nat → Int} {k n : Nat} (hk : k ≤ n) (hn : n ≤ 5) (ha : ∀ i, i < n → -9 ≤ a i ∧ a i ≤ 9) (hp : ∀ i, i < n → 0 ≤ p i ∧ p i ≤ 3) : -200 ≤ linS a p k ∧ linS a p k ≤ 200 := by
  have := lin_bd (k := k) (fun i hi => ha i (by omega)) (fun i hi => hp i (by omega))
  omega

set_option linter.unusedVariables false in
set_option linter.unusedSimpArgs false in
set_option maxRecDepth 100000 in
set_option maxHeartbeats 1600000 in
theorem l9Coefs_any (s co : Lst) (n : Nat) (q : Nat → Rul) (As Ar Ao : Option Addr) (cs cr cp : Nat) (w : World) (p1 : s.n ≤ 1048576) (p2 : co.n ≤ 1048576) (p3 : n ≤ 1048576) (p4 : ∀ i, i < n → (q i).fit 1048576) (hs : RdI w w.heap.size As s.n s.x) (hr : RdRs w w.heap.size Ar n q) (ho : RdI w w.heap.size Ao co.n co.x) :
    Calls Try.prog 84 #[.agg #[.slice As s.n cs, .slice Ar n cr], .slice Ao co.n cp] w fun e w' => e = .returned (.bool (modB s n q && coB s co)) ∧ Below w.heap.size w w' := by
  have HS := Lib.hid hs
  have HR := Lib.hid hr
  have HO := Lib.hid ho
  have P4 := Lib.hid p4
  clear hs hr ho p4
  go_enter Try.func84, Try.ntmps84
  go_wp2_with fail
  have a0 : (w.alloc (.cells #[.slice As s.n cs, .slice Ar n cr] 26)).cell? ⟨w.heap.size, 0, none⟩ = some (.slice As s.n cs) := by go_simp
  have a1 : (w.alloc (.cells #[.slice As s.n cs, .slice Ar n cr] 26)).cell? ⟨w.heap.size, 1, none⟩ = some (.slice Ar n cr) := by go_simp
  have HB := Lib.hid (bl_alloc (Below.refl w.heap.size w) (.cells #[.slice As s.n cs, .slice Ar n cr] 26))
  generalize (w.alloc (.cells #[.slice As s.n cs, .slice Ar n cr] 26)) = w1 at *
  refine (specValidM_any s n q _ _ _ _ _ p1 p3 P4.out (HS.out.later HB.out) (HR.out.later HB.out)).mono ?_
  rintro e w2 ⟨rfl, hb⟩
  have HB2 := Lib.hid (bl_trans HB.out hb)
  replace a0 := kc hb a0
  replace a1 := kc hb a1
  clear hb HB
  cases hm : modB s n q with
  | false =>
    have Hm := Lib.hid hm
    clear hm
    go_wp2
    go_ret
    exact ⟨ret_bool (by rw [Hm.out]; rfl), HB2.out⟩
  | true =>
    have Hm := Lib.hid hm
    clear hm
    by_cases d1 : co.n ≠ s.n
    · have d2 := int_ne d1
      have He := Lib.hid (show coB s co = false from by unfold coB; simp [d1])
      clear d1
      go_wp2
      go_ret
      exact ⟨ret_bool (by rw [Hm.out, He.out]; rfl), HB2.out⟩
    have d2 : co.n = s.n := by omega
    have Hd := Lib.hid (show ∀ z, prE (fun i => betB (-9) 9 (co.x i)) co.n = z → coB s co = z from fun z hz => by unfold coB; rw [hz]; simp [d2])
    clear d1
    obtain ⟨on, y⟩ := co
    obtain ⟨sn, x⟩ := s
    simp only at d2
    subst d2
    simp only at p1 p2 HS HO Hd a0 ⊢
    have ho2 := HO.out.later HB2.out
    go_wp2
    go_loopw [5] (fun i wr => ∃ k : Nat, k ≤ on ∧ i = .int .i64 k ∧ prE (fun i => betB (-9) 9 (y i)) k = true ∧ Below w2.heap.size w2 wr) (fun i _ => on - (intOf i).toNat)
    case atStart => exact ⟨0, Nat.zero_le _, rfl, rfl, Below.refl _ _⟩
    case round =>
      obtain ⟨k, hk, rfl, hp, hb⟩ := hrel
      have Hp := Lib.hid hp
      have HBk := Lib.hid hb
      clear hp hb
      by_cases hlt : k < on
      · obtain ⟨b, off, rfl, hbl, hcs⟩ := (ho2.below HBk.out) (by omega)
        have c1 := hcs k hlt
        clear hcs ho2
        have hlt' : (k : Int) < (on : Int) := by omega
        have hk0 : (0 : Int) ≤ (k : Int) := by omega
        by_cases q1 : y k < -9
        · have He := Lib.hid (Hd.out false (prE_no (e := fun i => betB (-9) 9 (y i)) hlt (by simp [betB]; omega)))
          go_wp2_with fail
          try go_quiet (fail)
          try go_wp2
          go_ret
          exact ⟨ret_bool (by rw [Hm.out, He.out]; rfl), bl_trans HB2.out (by first | exact HBk.out | exact bl_drewN HBk.out _)⟩
        · by_cases q2 : 9 < y k
          · have He := Lib.hid (Hd.out false (prE_no (e := fun i => betB (-9) 9 (y i)) hlt (by simp [betB]; omega)))
            go_wp2_with fail
            try go_quiet (fail)
            try go_wp2
            go_ret
            exact ⟨ret_bool (by rw [Hm.out, He.out]; rfl), bl_trans HB2.out (by first | exact HBk.out | exact bl_drewN HBk.out _)⟩
          · have Hy := Lib.hid (prE_yes (e := fun i => betB (-9) 9 (y i)) Hp.out (by simp [betB]; omega))
            go_wp2_with fail
            try go_quiet (fail)
            try go_wp2
            go_roundw
            case rel => exact ⟨k + 1, by omega, by go_num, Hy.out, by first | exact HBk.out | exact bl_drewN HBk.out _⟩
            case measure => simp [intOf]; omega
      · have e : k = on := by omega
        subst e
        have He := Lib.hid (Hd.out true Hp.out)
        go_wp2
        go_ret
        exact ⟨ret_bool (by rw [Hm.out, He.out]; rfl), bl_trans HB2.out HBk.out⟩

set_option linter.unusedVariables false in
set_option linter.unusedSimpArgs false in
set_option maxRecDepth 100000 in
set_option maxHeartbeats 1600000 in
theorem l9Value_any (co c : Lst) (Ao Ac : Option Addr) (cp cc : Nat) (w : World) (h5 : co.n ≤ 5) (hn : co.n = c.n) (ha : ∀ i, i < co.n → -9 ≤ co.x i ∧ co.x i ≤ 9) (hp : ∀ i, i < co.n → 0 ≤ c.x i ∧ c.x i ≤ 3) (ho : RdI w w.heap.size Ao co.n co.x) (hc : RdI w w.heap.size Ac c.n c.x) :
    Calls Try.prog 85 #[.slice Ao co.n cp, .slice Ac c.n cc] w fun e w' => e = .returned (.int .i64 (linS co.x c.x co.n)) ∧ Below w.heap.size w w' := by
  obtain ⟨on, y⟩ := co
  obtain ⟨cn, z⟩ := c
  simp only at h5 hn ha hp ho hc ⊢
  subst hn
  have HBD := Lib.hid (fun k (hk : k ≤ on) => lin_upto (n := on) hk h5 ha hp)
  have Ha := Lib.hid ha
  have Hp := Lib.hid hp
  clear ha hp
  go_enter Try.func85, Try.ntmps85
  go_wp2
  go_loopw [5, 6] (fun t i wr => ∃ k : Nat, k ≤ on ∧ i = .int .i64 k ∧ t = .int .i64 (linS y z k) ∧ Below w.heap.size w wr) (fun _ i _ => on - (intOf i).toNat)
  case atStart => exact ⟨0, Nat.zero_le _, rfl, rfl, Below.refl _ _⟩
  case round =>
    obtain ⟨k, hk, rfl, rfl, hb⟩ := hrel
    have HBk := Lib.hid hb
    clear hb
    by_cases hlt : k < on
    · have hlt' : (k : Int) < (on : Int) := by omega
      have hk0 : (0 : Int) ≤ (k : Int) := by omega
      obtain ⟨b, off, rfl, hbl, hcs⟩ := (ho.below HBk.out) (by omega)
      obtain ⟨b2, off2, rfl, hbl2, hcc⟩ := (hc.below HBk.out) (by omega)
      have c1 := hcs k hlt
      have c2 := hcc k (by omega)
      clear hcs hcc ho hc
      have b0 := HBD.out k (by omega)
      have b1 := mul_bd (Ha.out k hlt) (Hp.out k hlt)
      have hN := Lib.hid (show linS y z (k + 1) = linS y z k + y k * z k from rfl)
      obtain ⟨S, hS⟩ : ∃ S, linS y z k = S := ⟨_, rfl⟩
      rw [hS] at b0 hN ⊢
      clear hS
      obtain ⟨A, hA⟩ : ∃ A, y k = A := ⟨_, rfl⟩
      obtain ⟨B, hB⟩ : ∃ B, z k = B := ⟨_, rfl⟩
      rw [hA] at b1 hN c1
      rw [hB] at b1 hN c2
      clear hA hB
      have hw1 : IntKind.i64.wrap (A * B) = A * B := IntWalk.i64_in _ (by omega)
      have hw2 : IntKind.i64.wrap (S + A * B) = S + A * B := IntWalk.i64_in _ (by omega)
      go_wp2_with fail
      try go_quiet (fail)
      try go_wp2
      go_roundw
      case rel => exact ⟨k + 1, by omega, by go_num, by rw [hN.out], by first | exact HBk.out | exact bl_drewN HBk.out _⟩
      case measure => simp [intOf]; omega
    · obtain rfl : k = on := by omega
      clear ho hc
      go_wp2
      go_ret
      exact ⟨rfl, HBk.out⟩

/-- What such a function hands back. -/
def ORes (w : World) (v : Int) (ok : Bool) (e : Ending) (w' : World) : Prop := e = .returned (.tuple #[.int .i64 v, .bool ok]) ∧ Below w.heap.size w w'
set_option linter.unusedVariables false in
set_option linter.unusedSimpArgs false in
set_option maxRecDepth 100000 in
set_option maxHeartbeats 1600000 in
theorem specOV_any (s c co : Lst) (n : Nat) (q : Nat → Rul) (As Ar Ac Ao : Option Addr) (cs cr cc cp : Nat) (w : World) (p1 : s.n ≤ 1048576) (p2 : co.n ≤ 1048576) (p5 : c.n ≤ 1048576) (p3 : n ≤ 1048576) (p4 : ∀ i, i < n → (q i).fit 1048576) (hs : RdI w w.heap.size As s.n s.x) (hr : RdRs w w.heap.size Ar n q) (hc : RdI w w.heap.size Ac c.n c.x) (ho : RdI w w.heap.size Ao co.n co.x) :
    Calls Try.prog 38 #[.agg #[.slice As s.n cs, .slice Ar n cr], .slice Ao co.n cp, .slice Ac c.n cc] w (ORes w (ovI s n q c co) (ovB s n q c co)) := by
  have HS := Lib.hid hs
  have HR := Lib.hid hr
  have HO := Lib.hid ho
  have HC := Lib.hid hc
  have P4 := Lib.hid p4
  clear hs hr hc ho p4
  go_enter Try.func38, Try.ntmps38
  go_wp2_with fail
  have a0 : (w.alloc (.cells #[.slice As s.n cs, .slice Ar n cr] 26)).cell? ⟨w.heap.size, 0, none⟩ = some (.slice As s.n cs) := by go_simp
  have a1 : (w.alloc (.cells #[.slice As s.n cs, .slice Ar n cr] 26)).cell? ⟨w.heap.size, 1, none⟩ = some (.slice Ar n cr) := by go_simp
  have HB := Lib.hid (bl_alloc (Below.refl w.heap.size w) (.cells #[.slice As s.n cs, .slice Ar n cr] 26))
  generalize (w.alloc (.cells #[.slice As s.n cs, .slice Ar n cr] 26)) = w1 at *
  refine (l9Coefs_any s co n q _ _ _ _ _ _ _ p1 p2 p3 P4.out (HS.out.later HB.out) (HR.out.later HB.out) (HO.out.later HB.out)).mono ?_
  rintro e w2 ⟨rfl, hb⟩
  have HB2 := Lib.hid (bl_trans HB.out hb)
  replace a0 := kc hb a0
  replace a1 := kc hb a1
  clear hb HB
  cases hm : (modB s n q && coB s co) with
  | false =>
    have H1 := Lib.hid (show ovB s n q c co = false from by unfold ovB cvB; cases h1 : modB s n q <;> cases h2 : coB s co <;> simp_all)
    have H2 := Lib.hid (show ovI s n q c co = 0 from by unfold ovI; rw [H1.out]; rfl)
    clear hm
    go_wp2
    go_ret2
    exact ⟨by rw [H1.out, H2.out]; rfl, HB2.out⟩
  | true =>
    have Hm := Lib.hid hm
    clear hm
    go_wp2_with fail
    refine (l6Cells_any s c _ _ _ _ _ _ _ _ p1 p5 (HS.out.later HB2.out) (HC.out.later HB2.out)).mono ?_
    rintro e w3 ⟨rfl, hb⟩
    have HB3 := Lib.hid (bl_trans HB2.out hb)
    clear hb a0 a1
    cases hcc : celsB s c with
    | false =>
      have H1 := Lib.hid (show ovB s n q c co = false from by unfold ovB cvB; rw [hcc]; simp)
      have H2 := Lib.hid (show ovI s n q c co = 0 from by unfold ovI; rw [H1.out]; rfl)
      clear hcc
      go_wp2
      go_ret2
      exact ⟨by rw [H1.out, H2.out]; rfl, HB3.out⟩
    | true =>
      have hmm := Hm.out
      rw [Bool.and_eq_true] at hmm
      have hcv : cvB s n q c = true := by unfold cvB; rw [hmm.1, hcc]; rfl
      have H1 := Lib.hid (show ovB s n q c co = true from by unfold ovB; rw [hcv, hmm.2]; rfl)
      have H2 := Lib.hid (show ovI s n q c co = linS co.x c.x co.n from by unfold ovI; rw [H1.out]; rfl)
      have HCO := Lib.hid (cv_ok hcv)
      have HOB := Lib.hid (co_bd hmm.2)
      clear hcc hcv hmm
      go_wp2_with fail
      refine (l9Value_any co c _ _ _ _ _ (by have := HOB.out.1; have := HCO.out.five; omega) (by have := HOB.out.1; have := HCO.out.len; omega) HOB.out.2 (fun i hi => HCO.out.cel i (by have := HOB.out.1; omega)) (HO.out.later HB3.out) (HC.out.later HB3.out)).mono ?_
      rintro e w4 ⟨rfl, hb⟩
      have HB4 := Lib.hid (bl_trans HB3.out hb)
      clear hb
      go_wp2
      go_ret2
      exact ⟨by rw [H1.out, H2.out]; rfl, HB4.out⟩

set_option linter.unusedVariables false in
set_option linter.unusedSimpArgs false in
set_option maxRecDepth 100000 in
set_option maxHeartbeats 1600000 in
theorem hasObj_any (s co : Lst) (n : Nat) (q : Nat → Rul) (As Ar Ao : Option Addr) (cs cr cp : Nat) (w : World) (p1 : s.n ≤ 1048576) (p2 : co.n ≤ 1048576) (p3 : n ≤ 1048576) (p4 : ∀ i, i < n → (q i).fit 1048576) (hs : RdI w w.heap.size As s.n s.x) (hr : RdRs w w.heap.size Ar n q) (ho : RdI w w.heap.size Ao co.n co.x) :
    Calls Try.prog 82 #[.agg #[.slice As s.n cs, .slice Ar n cr], .slice Ao co.n cp] w fun e w' => e = .returned (.bool (coB s co)) ∧ Below w.heap.size w w' := by
  have HO := Lib.hid ho
  clear hs hr ho p4
  go_enter Try.func82, Try.ntmps82
  have HB := Lib.hid (bl_alloc (Below.refl w.heap.size w) (.cells #[.slice As s.n cs, .slice Ar n cr] 26))
  by_cases d1 : co.n ≠ s.n
  · have d2 := int_ne d1
    have He := Lib.hid (show coB s co = false from by unfold coB; simp [d1])
    clear d1
    go_wp2
    go_ret
    exact ⟨ret_bool (by rw [He.out]), HB.out⟩
  have d2 : co.n = s.n := by omega
  have He := Lib.hid (show coB s co = prE (fun i => betB (-9) 9 (co.x i)) co.n from by unfold coB; simp [d2])
  clear d1
  obtain ⟨on, y⟩ := co
  obtain ⟨sn, x⟩ := s
  simp only at d2
  subst d2
  simp only at p1 p2 HO He HB ⊢
  go_wp2_with fail
  refine (allBetween_any ⟨on, y⟩ Ao cp (-9) 9 _ p2 (HO.out.later HB.out)).mono ?_
  rintro e w2 ⟨rfl, hb⟩
  have HB2 := Lib.hid (bl_trans HB.out hb)
  clear hb
  go_wp2
  go_ret
  exact ⟨by rw [He.out]; rfl, HB2.out⟩

set_option linter.unusedVariables false in
set_option linter.unusedSimpArgs false in
set_option maxRecDepth 100000 in
set_option maxHeartbeats 1600000 in
theorem product_any (u : Nat → Int) (k : Nat) (z : Int) (w : World) (hk : k < 5) (hb : -30 ≤ z * u k ∧ z * u k ≤ 30) :
    Calls Try.prog 107 #[arr5 u, .int .i64 k, .int .i64 z] w fun e w' => e = .returned (.int .i64 (z * u k)) ∧ Below w.heap.size w w' := by
  have hkI : (k : Int) < 5 := by omega
  have hk0 : (0 : Int) ≤ (k : Int) := by omega
  unfold arr5
  go_enter Try.func107, Try.ntmps107
  have h0 : (w.alloc (.cells #[.int .i64 (u 0), .int .i64 (u 1), .int .i64 (u 2), .int .i64 (u 3), .int .i64 (u 4)] 71)).cell? ⟨w.heap.size, 0, none⟩ = some (.int .i64 (u 0)) := by go_simp
  have h1 : (w.alloc (.cells #[.int .i64 (u 0), .int .i64 (u 1), .int .i64 (u 2), .int .i64 (u 3), .int .i64 (u 4)] 71)).cell? ⟨w.heap.size, 1, none⟩ = some (.int .i64 (u 1)) := by go_simp
  have h2 : (w.alloc (.cells #[.int .i64 (u 0), .int .i64 (u 1), .int .i64 (u 2), .int .i64 (u 3), .int .i64 (u 4)] 71)).cell? ⟨w.heap.size, 2, none⟩ = some (.int .i64 (u 2)) := by go_simp
  have h3 : (w.alloc (.cells #[.int .i64 (u 0), .int .i64 (u 1), .int .i64 (u 2), .int .i64 (u 3), .int .i64 (u 4)] 71)).cell? ⟨w.heap.size, 3, none⟩ = some (.int .i64 (u 3)) := by go_simp
  have h4 : (w.alloc (.cells #[.int .i64 (u 0), .int .i64 (u 1), .int .i64 (u 2), .int .i64 (u 3), .int .i64 (u 4)] 71)).cell? ⟨w.heap.size, 4, none⟩ = some (.int .i64 (u 4)) := by go_simp
  have hx := at_cell h0 h1 h2 h3 h4 hk
  have HB := Lib.hid (bl_alloc (Below.refl w.heap.size w) (.cells #[.int .i64 (u 0), .int .i64 (u 1), .int .i64 (u 2), .int .i64 (u 3), .int .i64 (u 4)] 71))
  clear h0 h1 h2 h3 h4
  have hw1 : IntKind.i64.wrap (z * u k) = z * u k := IntWalk.i64_in _ (by omega)
  have hw2 : wrap64 (z * u k) = z * u k := IntWalk.wrap64_in _ (by omega)
  go_wp2
  go_ret
  exact ⟨rfl, HB.out⟩

set_option linter.unusedVariables false in
set_option linter.unusedSimpArgs false in
set_option maxRecDepth 100000 in
set_option maxHeartbeats 1600000 in
theorem total_any (co : Lst) (u : Nat → Int) (Ao : Option Addr) (cp : Nat) (w : World) (h5 : co.n ≤ 5) (ha : ∀ i, i < co.n → -9 ≤ co.x i ∧ co.x i ≤ 9) (hp : ∀ i, i < co.n → 0 ≤ u i ∧ u i ≤ 3) (ho : RdI w w.heap.size Ao co.n co.x) :
    Calls Try.prog 106 #[.slice Ao co.n cp, .func (.func 107) #[arr5 u] #[]] w fun e w' => e = .returned (.int .i64 (linS co.x u co.n)) ∧ Below w.heap.size w w' := by
  obtain ⟨on, y⟩ := co
  simp only at h5 ha hp ho ⊢
  have HBD := Lib.hid (fun k (hk : k ≤ on) => lin_upto (n := on) hk h5 ha hp)
  have Ha := Lib.hid ha
  have Hp := Lib.hid hp
  clear ha hp
  go_enter Try.func106, Try.ntmps106
  go_wp2
  go_loopw [5, 10] (fun t i wr => ∃ k : Nat, k ≤ on ∧ i = .int .i64 k ∧ t = .int .i64 (linS y u k) ∧ Below w.heap.size w wr) (fun _ i _ => on - (intOf i).toNat)
  case atStart => exact ⟨0, Nat.zero_le _, rfl, rfl, Below.refl _ _⟩
  case round =>
    obtain ⟨k, hk, rfl, rfl, hb⟩ := hrel
    have HBk := Lib.hid hb
    clear hb
    by_cases hlt : k < on
    · have hlt' : (k : Int) < (on : Int) := by omega
      have hk0 : (0 : Int) ≤ (k : Int) := by omega
      obtain ⟨b, off, rfl, hbl, hcs⟩ := (ho.below HBk.out) (by omega)
      have c1 := hcs k hlt
      clear hcs ho
      have b0 := HBD.out k (by omega)
      have b1 := mul_bd (Ha.out k hlt) (Hp.out k hlt)
      have hN := Lib.hid (show linS y u (k + 1) = linS y u k + y k * u k from rfl)
      have HPr := Lib.hid (fun w' => product_any u k (y k) w' (by omega) (by omega))
      obtain ⟨S, hS⟩ : ∃ S, linS y u k = S := ⟨_, rfl⟩
      rw [hS] at b0 hN ⊢
      clear hS
      obtain ⟨D, hD⟩ : ∃ D, y k * u k = D := ⟨_, rfl⟩
      rw [hD] at b1 hN HPr
      clear hD
      have hw2 : IntKind.i64.wrap (S + D) = S + D := IntWalk.i64_in _ (by omega)
      have hw3 : wrap64 (S + D) = S + D := IntWalk.wrap64_in _ (by omega)
      go_wp2_with fail
      refine (HPr.out _).mono ?_
      rintro e w3 ⟨rfl, hb⟩
      have HB3 := Lib.hid (bl_trans HBk.out hb)
      clear hb
      go_wp2
      go_roundw
      case rel => exact ⟨k + 1, by omega, by go_num, by rw [hN.out], HB3.out⟩
      case measure => simp [intOf]; omega
    · obtain rfl : k = on := by omega
      go_wp2
      go_ret
      exact ⟨rfl, HBk.out⟩

set_option linter.unusedVariables false in
set_option linter.unusedSimpArgs false in
set_option maxRecDepth 100000 in
set_option maxHeartbeats 1600000 in
theorem valueOf_any (co c : Lst) (Ao Ac : Option Addr) (cp cc : Nat) (w : World) (h5 : c.n ≤ 5) (h1 : 1 ≤ c.n) (hn : co.n = c.n) (ha : ∀ i, i < co.n → -9 ≤ co.x i ∧ co.x i ≤ 9) (hp : ∀ i, i < co.n → 0 ≤ c.x i ∧ c.x i ≤ 3) (ho : RdI w w.heap.size Ao co.n co.x) (hc : RdI w w.heap.size Ac c.n c.x) :
    Calls Try.prog 83 #[.slice Ao co.n cp, .slice Ac c.n cc] w fun e w' => e = .returned (.int .i64 (linS co.x c.x co.n)) ∧ Below w.heap.size w w' := by
  have Ha := Lib.hid ha
  have Hp := Lib.hid hp
  have Hn := Lib.hid hn
  have hcg := Lib.hid (show linS co.x (cvV c.n c.x) co.n = linS co.x c.x co.n from linS_congr (fun i hi => cvV_at (by omega)))
  clear ha hp hn
  go_enter Try.func83, Try.ntmps83
  go_wp2_with fail
  refine (cvo_any c.n cc Ac c.x _ h5 h1 hc).mono ?_
  rintro e w2 ⟨rfl, hb⟩
  have HB2 := Lib.hid hb
  clear hb
  go_wp2_with fail
  refine (total_any co (cvV c.n c.x) Ao cp _ (by have := Hn.out; omega) Ha.out (fun i hi => by rw [cvV_at (by have := Hn.out; omega)]; exact Hp.out i hi) (ho.later HB2.out)).mono ?_
  rintro e w3 ⟨rfl, hb⟩
  have HB3 := Lib.hid (bl_trans HB2.out hb)
  clear hb
  go_wp2
  go_ret
  exact ⟨by rw [hcg.out]; rfl, HB3.out⟩

set_option linter.unusedVariables false in
set_option linter.unusedSimpArgs false in
set_option maxRecDepth 100000 in
set_option maxHeartbeats 1600000 in
theorem implOV_any (s c co : Lst) (n : Nat) (q : Nat → Rul) (As Ar Ac Ao : Option Addr) (cs cr cc cp : Nat) (w : World) (p1 : s.n ≤ 1048576) (p2 : co.n ≤ 1048576) (p5 : c.n ≤ 1048576) (p3 : n ≤ 1048576) (p4 : ∀ i, i < n → (q i).fit 1048576) (hs : RdI w w.heap.size As s.n s.x) (hr : RdRs w w.heap.size Ar n q) (hc : RdI w w.heap.size Ac c.n c.x) (ho : RdI w w.heap.size Ao co.n co.x) :
    Calls Try.prog 37 #[.agg #[.slice As s.n cs, .slice Ar n cr], .slice Ao co.n cp, .slice Ac c.n cc] w (ORes w (ovI s n q c co) (ovB s n q c co)) := by
  have HS := Lib.hid hs
  have HR := Lib.hid hr
  have HO := Lib.hid ho
  have HC := Lib.hid hc
  have P4 := Lib.hid p4
  clear hs hr hc ho p4
  go_enter Try.func37, Try.ntmps37
  go_wp2_with fail
  have a0 : (w.alloc (.cells #[.slice As s.n cs, .slice Ar n cr] 26)).cell? ⟨w.heap.size, 0, none⟩ = some (.slice As s.n cs) := by go_simp
  have a1 : (w.alloc (.cells #[.slice As s.n cs, .slice Ar n cr] 26)).cell? ⟨w.heap.size, 1, none⟩ = some (.slice Ar n cr) := by go_simp
  have HB := Lib.hid (bl_alloc (Below.refl w.heap.size w) (.cells #[.slice As s.n cs, .slice Ar n cr] 26))
  generalize (w.alloc (.cells #[.slice As s.n cs, .slice Ar n cr] 26)) = w1 at *
  refine (implCells_any s c n q _ _ _ _ _ _ _ p1 p5 p3 P4.out (HS.out.later HB.out) (HR.out.later HB.out) (HC.out.later HB.out)).mono ?_
  rintro e w2 ⟨rfl, hb⟩
  have HB2 := Lib.hid (bl_trans HB.out hb)
  replace a0 := kc hb a0
  replace a1 := kc hb a1
  clear hb HB
  cases hm : cvB s n q c with
  | false =>
    have H1 := Lib.hid (show ovB s n q c co = false from by unfold ovB; rw [hm]; rfl)
    have H2 := Lib.hid (show ovI s n q c co = 0 from by unfold ovI; rw [H1.out]; rfl)
    clear hm
    go_wp2
    go_ret2
    exact ⟨by rw [H1.out, H2.out]; rfl, HB2.out⟩
  | true =>
    have Hm := Lib.hid hm
    clear hm
    go_wp2_with fail
    refine (hasObj_any s co n q _ _ _ _ _ _ _ p1 p2 p3 P4.out (HS.out.later HB2.out) (HR.out.later HB2.out) (HO.out.later HB2.out)).mono ?_
    rintro e w3 ⟨rfl, hb⟩
    have HB3 := Lib.hid (bl_trans HB2.out hb)
    clear hb a0 a1
    cases hcc : coB s co with
    | false =>
      have H1 := Lib.hid (show ovB s n q c co = false from by unfold ovB; rw [hcc]; simp)
      have H2 := Lib.hid (show ovI s n q c co = 0 from by unfold ovI; rw [H1.out]; rfl)
      clear hcc
      go_wp2
      go_ret2
      exact ⟨by rw [H1.out, H2.out]; rfl, HB3.out⟩
    | true =>
      have H1 := Lib.hid (show ovB s n q c co = true from by unfold ovB; rw [Hm.out, hcc]; rfl)
      have H2 := Lib.hid (show ovI s n q c co = linS co.x c.x co.n from by unfold ovI; rw [H1.out]; rfl)
      have HCO := Lib.hid (cv_ok Hm.out)
      have HOB := Lib.hid (co_bd hcc)
      clear hcc
      go_wp2_with fail
      refine (valueOf_any co c _ _ _ _ _ (by have := HCO.out.five; have := HCO.out.len; omega) (by have := HCO.out.one; have := HCO.out.len; omega) (by have := HOB.out.1; have := HCO.out.len; omega) HOB.out.2 (fun i hi => HCO.out.cel i (by have := HOB.out.1; omega)) (HO.out.later HB3.out) (HC.out.later HB3.out)).mono ?_
      rintro e w4 ⟨rfl, hb⟩
      have HB4 := Lib.hid (bl_trans HB3.out hb)
      clear hb
      go_wp2
      go_ret2
      exact ⟨by rw [H1.out, H2.out]; rfl, HB4.out⟩
end Go.Proofs.Ythjcbaccoogloaa
