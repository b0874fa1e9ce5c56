/- DomainsValid: what it says; the reference's side (no claim of its own). Conditions: as each theorem states. · DomainsValid: the program's side (no claim of its own). Conditions: as each theorem states. · Sets of values as bits (no claim of its own). Conditions: as each theorem states. · Domains as sets of values: how they are read off the lists (no claim of its own). Conditions: as each theorem states. · Whether a domain is empty: the program's side (no claim of its own). Conditions: as each theorem states. · DomainsEmpty: what it says; both sides (no claim of its own). Conditions: as each theorem states. -/
import Derived.Test.YtgjjcikdbpjajaaMdlF
import Derived.Test.YtgjjcikdbpjajaaCvsA
import Derived.Test.YtgjjcikdbpjajaaBvsA
import Derived.Test.YtgjjcikdbpjajaaMvpG
namespace Go.Proofs.Ytgjjcikdbpjajaa
open Go.ChangeShapes Go.WideShapes Go.ChangeAt Go.RowKit

/-- Domains fit the cells of a model. -/
def fitB (s : Lst) (m : Nat) (d : Nat → LsB) : Bool := m == s.n && prE (fun i => ((d i).n : Int) == s.x i + 1) s.n
/-- Domains of a valid model. -/
def dvB (s : Lst) (n : Nat) (q : Nat → Rul) (m : Nat) (d : Nat → LsB) : Bool := modB s n q && fitB s m d

set_option maxRecDepth 100000 in
set_option maxHeartbeats 1600000 in
theorem l8Fits_any (s : Lst) (n m : Nat) (d : Nat → LsB) (As Ar Ad : Option Addr) (cs cr cd : Nat) (w : World) (p1 : s.n ≤ 5) (hok : prE (fun i => betB 0 3 (s.x i)) s.n = true) (p2 : m ≤ 1048576) (p3 : ∀ i, i < m → (d i).n ≤ 1048576) (hs : RdI w w.heap.size As s.n s.x) (hd : RdLB w w.heap.size Ad m d) :
    Calls Try.prog 60 #[.agg #[.slice As s.n cs, .slice Ar n cr], .slice Ad m cd] w fun e w' => e = .returned (.bool (fitB s m d)) ∧ Below w.heap.size w w' := by
  obtain ⟨sn, x⟩ := s
  simp only at p1 hok hs ⊢
  have Hd := Lib.hid (show ∀ z, fitB ⟨sn, x⟩ m d = z ↔ (m == sn && prE (fun i => ((d i).n : Int) == x i + 1) sn) = z from fun z => Iff.rfl)
  have HA := Lib.hid (bl_alloc (Below.refl w.heap.size w))
  by_cases d1 : m ≠ sn
  · have d2 := int_ne d1
    have He := Lib.hid ((Hd.out false).2 (by simp [d1]))
    clear Hd d1
    go_enter Try.func60, Try.ntmps60
    go_wp2
    go_ret
    exact ⟨ret_bool He.out.symm, HA.out _⟩
  obtain rfl : m = sn := by omega
  clear d1
  have HOK := Lib.hid (fun k (hk : k < m) => size_at (s := ⟨m, x⟩) hok hk)
  have P3 := Lib.hid p3
  clear hok p3
  go_enter Try.func60, Try.ntmps60
  go_wp2
  have a0 : (w.alloc (.cells #[.slice As m cs, .slice Ar n cr] 32)).cell? ⟨w.heap.size, 0, none⟩ = some (.slice As m cs) := by go_simp
  have HB := Lib.hid (HA.out (.cells #[.slice As m cs, .slice Ar n cr] 32))
  generalize (w.alloc (.cells #[.slice As m cs, .slice Ar n cr] 32)) = w1 at *
  have hs1 := hs.later HB.out
  have hd1 := hd.later HB.out
  clear hs hd
  go_loopw [5] (fun i wr => ∃ k : Nat, k ≤ m ∧ i = .int .i64 k ∧ prE (fun i => ((d i).n : Int) == x i + 1) k = true ∧ Below w1.heap.size w1 wr) (fun i _ => m - (intOf i).toNat)
  case atStart => exact ⟨0, Nat.zero_le _, rfl, rfl, Below.refl _ _⟩
  case round =>
    obtain ⟨k, hk, rfl, hp, hb⟩ := hrel
    have Hp := Lib.hid hp
    clear hp
    replace a0 := kc hb a0
    by_cases hlt : k < m
    · obtain ⟨b, off, rfl, hbl, hcs⟩ := (hs1.below hb) (by omega)
      obtain ⟨b2, off2, rfl, hbl2, hcc⟩ := (hd1.below hb) (by omega)
      have c1 := hcs k hlt
      obtain ⟨Ai, ci, c2, -⟩ := hcc k hlt
      obtain ⟨x0, x3⟩ := HOK.out k hlt
      have hdk := P3.out k hlt
      clear hcs hcc hs1 hd1
      have hlt' : (k : Int) < (m : Int) := by omega
      have hk0 : (0 : Int) ≤ (k : Int) := by omega
      by_cases q1 : ((d k).n : Int) = x k + 1
      · have Hy := Lib.hid (prE_yes (e := fun i => ((d i).n : Int) == x i + 1) Hp.out (beq_iff_eq.2 q1))
        go_wp2_with fail
        try go_quiet (fail)
        try go_wp2
        go_roundw
        case rel => exact ⟨k + 1, by omega, by go_num, Hy.out, by first | exact hb | exact bl_drewN hb _⟩
        case measure => simp [intOf]; omega
      · have Hno := Lib.hid (prE_no (e := fun i => ((d i).n : Int) == x i + 1) hlt (beq_eq_false_iff_ne.2 q1))
        have He := Lib.hid ((Hd.out false).2 (by rw [Hno.out]; simp))
        clear Hno Hd
        go_wp2_with fail
        try go_quiet (fail)
        try go_wp2
        go_ret
        exact ⟨ret_bool He.out.symm, bl_trans HB.out (by first | exact hb | exact bl_drewN hb _)⟩
    · have e : k = m := by omega
      subst e
      have He := Lib.hid ((Hd.out true).2 (by rw [Hp.out]; simp))
      clear Hd
      go_wp2
      go_ret
      exact ⟨ret_bool He.out.symm, bl_trans HB.out hb⟩
end Go.Proofs.Ytgjjcikdbpjajaa

namespace Go.Proofs.Ytgjjcikdbpjajaa
open Go.ChangeShapes Go.WideShapes Go.ChangeAt Go.RowKit

set_option maxRecDepth 100000 in
set_option maxHeartbeats 800000 in
theorem fits_any (A : Option Addr) (n cap : Nat) (z : Int) (w : World) (_hn : n ≤ 1048576) (hz : 0 ≤ z ∧ z ≤ 3) :
    Calls Try.prog 63 #[.slice A n cap, .int .i64 z] w fun e w' => e = .returned (.bool ((n : Int) == z + 1)) ∧ Below w.heap.size w w' := by
  have HA := Below.refl w.heap.size w
  obtain ⟨z0, z3⟩ := hz
  go_enter Try.func63, Try.ntmps63
  go_wp2
  go_ret
  exact ⟨rfl, HA⟩

set_option maxRecDepth 100000 in
set_option maxHeartbeats 1600000 in
theorem equalF_any (s : Lst) (m : Nat) (d : Nat → LsB) (As Ad : Option Addr) (cs cd : Nat) (w : World) (p1 : s.n ≤ 5) (hok : prE (fun i => betB 0 3 (s.x i)) s.n = true) (p2 : m ≤ 1048576) (p3 : ∀ i, i < m → (d i).n ≤ 1048576) (hs : RdI w w.heap.size As s.n s.x) (hd : RdLB w w.heap.size Ad m d) :
    Calls Try.prog 64 #[.slice Ad m cd, .slice As s.n cs, .func (.func 63) #[] #[]] w fun e w' => e = .returned (.bool (fitB s m d)) ∧ Below w.heap.size w w' := by
  obtain ⟨sn, x⟩ := s
  simp only at p1 hok hs ⊢
  have Hd := Lib.hid (show ∀ z, fitB ⟨sn, x⟩ m d = z ↔ (m == sn && prE (fun i => ((d i).n : Int) == x i + 1) sn) = z from fun z => Iff.rfl)
  by_cases d1 : m ≠ sn
  · have d2 := int_ne d1
    have He := Lib.hid ((Hd.out false).2 (by simp [d1]))
    clear Hd d1
    go_enter Try.func64, Try.ntmps64
    go_wp2
    go_ret
    exact ⟨ret_bool He.out.symm, Below.refl _ _⟩
  obtain rfl : m = sn := by omega
  clear d1
  have HOK := Lib.hid (fun k (hk : k < m) => size_at (s := ⟨m, x⟩) hok hk)
  have P3 := Lib.hid p3
  clear hok p3
  go_enter Try.func64, Try.ntmps64
  go_wp2
  go_loopw [17] (fun i wr => ∃ k : Nat, k ≤ m ∧ i = .int .i64 k ∧ prE (fun i => ((d i).n : Int) == x i + 1) k = true ∧ Below w.heap.size w wr) (fun i _ => m - (intOf i).toNat)
  case atStart => exact ⟨0, Nat.zero_le _, rfl, rfl, Below.refl _ _⟩
  case round =>
    obtain ⟨k, hk, rfl, hp, hb⟩ := hrel
    have Hp := Lib.hid hp
    clear hp
    by_cases hlt : k < m
    · obtain ⟨b, off, rfl, hbl, hcs⟩ := (hs.below hb) (by omega)
      obtain ⟨b2, off2, rfl, hbl2, hcc⟩ := (hd.below hb) (by omega)
      have c1 := hcs k hlt
      obtain ⟨Ai, ci, c2, -⟩ := hcc k hlt
      have hx03 := HOK.out k hlt
      have hdk := P3.out k hlt
      clear hcs hcc hs hd
      have hlt' : (k : Int) < (m : Int) := by omega
      have hk0 : (0 : Int) ≤ (k : Int) := by omega
      have Hf := Lib.hid (fun X => fits_any Ai (d k).n ci (x k) X hdk hx03)
      cases q1 : (((d k).n : Int) == x k + 1) with
      | true =>
        have Hy := Lib.hid (prE_yes (e := fun i => ((d i).n : Int) == x i + 1) Hp.out q1)
        rw [q1] at Hf
        clear q1 hx03 hdk
        go_wp2_with fail
        refine (Hf.out _).mono ?_
        rintro e w1 ⟨rfl, hb1⟩
        go_wp2
        go_roundw
        case rel => exact ⟨k + 1, by omega, by go_num, Hy.out, bl_trans hb hb1⟩
        case measure => simp [intOf]; omega
      | false =>
        have Hno := Lib.hid (prE_no (e := fun i => ((d i).n : Int) == x i + 1) hlt q1)
        have He := Lib.hid ((Hd.out false).2 (by rw [Hno.out]; simp))
        rw [q1] at Hf
        clear Hno Hd q1 hx03 hdk
        go_wp2_with fail
        refine (Hf.out _).mono ?_
        rintro e w1 ⟨rfl, hb1⟩
        go_wp2
        go_ret
        exact ⟨ret_bool He.out.symm, bl_trans hb hb1⟩
    · have e : k = m := by omega
      subst e
      have He := Lib.hid ((Hd.out true).2 (by rw [Hp.out]; simp))
      clear Hd
      go_wp2
      go_ret
      exact ⟨ret_bool He.out.symm, hb⟩

set_option maxRecDepth 100000 in
set_option maxHeartbeats 1600000 in
theorem implDV_any (s : Lst) (n : Nat) (q : Nat → Rul) (m : Nat) (d : Nat → LsB) (As Ar Ad : Option Addr) (cs cr cd : Nat) (w : World) (p1 : s.n ≤ 1048576) (p3 : n ≤ 1048576) (p4 : ∀ i, i < n → (q i).fit 1048576) (p5 : m ≤ 1048576) (p6 : ∀ i, i < m → (d i).n ≤ 1048576) (hs : RdI w w.heap.size As s.n s.x) (hr : RdRs w w.heap.size Ar n q) (hd : RdLB w w.heap.size Ad m d) :
    Calls Try.prog 20 #[.agg #[.slice As s.n cs, .slice Ar n cr], .slice Ad m cd] w fun e w' => e = .returned (.bool (dvB s n q m d)) ∧ Below w.heap.size w w' := by
  have Hd := Lib.hid (show ∀ z, dvB s n q m d = z ↔ (modB s n q && fitB s m d) = z from fun z => Iff.rfl)
  have HS := Lib.hid hs
  have HR := Lib.hid hr
  have HD := Lib.hid hd
  have P4 := Lib.hid p4
  have P6 := Lib.hid p6
  clear hs hr hd p4 p6
  have HA := Lib.hid (bl_alloc (Below.refl w.heap.size w))
  go_enter Try.func20, Try.ntmps20
  go_wp2_with fail
  have a0 : (w.alloc (.cells #[.slice As s.n cs, .slice Ar n cr] 32)).cell? ⟨w.heap.size, 0, none⟩ = some (.slice As s.n cs) := by go_simp
  have a1 : (w.alloc (.cells #[.slice As s.n cs, .slice Ar n cr] 32)).cell? ⟨w.heap.size, 1, none⟩ = some (.slice Ar n cr) := by go_simp
  have HB := Lib.hid (HA.out (.cells #[.slice As s.n cs, .slice Ar n cr] 32))
  clear HA
  generalize (w.alloc (.cells #[.slice As s.n cs, .slice Ar n cr] 32)) = w1 at *
  refine (implValidM_any s n q _ _ _ _ _ p1 p3 P4.out (HS.out.later HB.out) (HR.out.later HB.out)).mono ?_
  rintro e w2 ⟨rfl, hb⟩
  have HB2 := Lib.hid (bl_trans HB.out hb)
  replace a0 := kc hb a0
  replace a1 := kc hb a1
  clear hb HB
  cases hm : modB s n q with
  | false =>
    have He := Lib.hid ((Hd.out false).2 (by rw [hm]; rfl))
    clear hm Hd
    go_wp2
    go_ret
    exact ⟨ret_bool He.out.symm, HB2.out⟩
  | true =>
    have Hp := Lib.hid (mod_parts hm)
    have He := Lib.hid ((Hd.out (fitB s m d)).2 (by rw [hm]; rfl))
    clear hm Hd
    obtain ⟨H, hHe⟩ : ∃ H, w.heap.size = H := ⟨_, rfl⟩
    rw [hHe] at a0 a1 ⊢
    go_wp2_with fail
    refine (equalF_any s m d _ _ _ _ _ Hp.out.2.1 Hp.out.2.2.1 p5 P6.out (HS.out.later HB2.out) (HD.out.later HB2.out)).mono ?_
    rintro e w3 ⟨rfl, hb⟩
    have HB3 := Lib.hid (bl_trans HB2.out hb)
    clear hb HB2
    go_wp2
    go_ret
    exact ⟨ret_bool He.out.symm, by first | exact HB3.out | (rw [← hHe]; exact HB3.out)⟩

set_option maxRecDepth 100000 in
set_option maxHeartbeats 1600000 in
theorem specDV_any (s : Lst) (n : Nat) (q : Nat → Rul) (m : Nat) (d : Nat → LsB) (As Ar Ad : Option Addr) (cs cr cd : Nat) (w : World) (p1 : s.n ≤ 1048576) (p3 : n ≤ 1048576) (p4 : ∀ i, i < n → (q i).fit 1048576) (p5 : m ≤ 1048576) (p6 : ∀ i, i < m → (d i).n ≤ 1048576) (hs : RdI w w.heap.size As s.n s.x) (hr : RdRs w w.heap.size Ar n q) (hd : RdLB w w.heap.size Ad m d) :
    Calls Try.prog 17 #[.agg #[.slice As s.n cs, .slice Ar n cr], .slice Ad m cd] w fun e w' => e = .returned (.bool (dvB s n q m d)) ∧ Below w.heap.size w w' := by
  have Hd := Lib.hid (show ∀ z, dvB s n q m d = z ↔ (modB s n q && fitB s m d) = z from fun z => Iff.rfl)
  have HS := Lib.hid hs
  have HR := Lib.hid hr
  have HD := Lib.hid hd
  have P4 := Lib.hid p4
  have P6 := Lib.hid p6
  clear hs hr hd p4 p6
  have HA := Lib.hid (bl_alloc (Below.refl w.heap.size w))
  go_enter Try.func17, Try.ntmps17
  go_wp2_with fail
  have a0 : (w.alloc (.cells #[.slice As s.n cs, .slice Ar n cr] 32)).cell? ⟨w.heap.size, 0, none⟩ = some (.slice As s.n cs) := by go_simp
  have a1 : (w.alloc (.cells #[.slice As s.n cs, .slice Ar n cr] 32)).cell? ⟨w.heap.size, 1, none⟩ = some (.slice Ar n cr) := by go_simp
  have HB := Lib.hid (HA.out (.cells #[.slice As s.n cs, .slice Ar n cr] 32))
  clear HA
  generalize (w.alloc (.cells #[.slice As s.n cs, .slice Ar n cr] 32)) = w1 at *
  refine (specValidM_any s n q _ _ _ _ _ p1 p3 P4.out (HS.out.later HB.out) (HR.out.later HB.out)).mono ?_
  rintro e w2 ⟨rfl, hb⟩
  have HB2 := Lib.hid (bl_trans HB.out hb)
  replace a0 := kc hb a0
  replace a1 := kc hb a1
  clear hb HB
  cases hm : modB s n q with
  | false =>
    have He := Lib.hid ((Hd.out false).2 (by rw [hm]; rfl))
    clear hm Hd
    go_wp2
    go_ret
    exact ⟨ret_bool He.out.symm, HB2.out⟩
  | true =>
    have Hp := Lib.hid (mod_parts hm)
    have He := Lib.hid ((Hd.out (fitB s m d)).2 (by rw [hm]; rfl))
    clear hm Hd
    obtain ⟨H, hHe⟩ : ∃ H, w.heap.size = H := ⟨_, rfl⟩
    rw [hHe] at a0 a1 ⊢
    go_wp2_with fail
    refine (l8Fits_any s n m d _ _ _ _ _ _ _ Hp.out.2.1 Hp.out.2.2.1 p5 P6.out (HS.out.later HB2.out) (HD.out.later HB2.out)).mono ?_
    rintro e w3 ⟨rfl, hb⟩
    have HB3 := Lib.hid (bl_trans HB2.out hb)
    clear hb HB2
    go_wp2
    go_ret
    exact ⟨ret_bool He.out.symm, by first | exact HB3.out | (rw [← hHe]; exact HB3.out)⟩
end Go.Proofs.Ytgjjcikdbpjajaa

namespace Go.Proofs.Ytgjjcikdbpjajaa
open Go.ChangeShapes Go.WideShapes Go.ChangeAt Go.RowKit

/-- The bits of the first k Booleans. -/
def msk (x : Nat → Bool) : Nat → Int
  | 0 => 0
  | k + 1 => msk x k + if x k then ((2 ^ k : Nat) : Int) else 0
theorem msk_yes {x : Nat → Bool} {k : Nat} (h : x k = true) : msk x (k + 1) = msk x k + ((2 ^ k : Nat) : Int) := by show msk x k + _ = _; rw [if_pos h]
theorem msk_no {x : Nat → Bool} {k : Nat} (h : x k = false) : msk x (k + 1) = msk x k := by show msk x k + _ = _; rw [if_neg (by rw [h]; simp)]; omega
theorem msk_bd (x : Nat → Bool) (k : Nat) : 0 ≤ msk x k ∧ msk x k < ((2 ^ k : Nat) : Int) := by
  induction k with
  | zero => exact ⟨Int.le_refl _, by show (0:Int) < 1; omega⟩
  | succ k ih =>
    have e : ((2 ^ (k + 1) : Nat) : Int) = 2 * ((2 ^ k : Nat) : Int) := by rw [Nat.pow_succ]; omega
    cases h : x k with
    | true => rw [msk_yes h, e]; omega
    | false => rw [msk_no h, e]; omega

theorem or_fin : ∀ k : Fin 4, ∀ z : Fin 8, z.val < 2 ^ k.val → bits .or .u64 ((z.val : Nat) : Int) (IntKind.u64.wrap (2 ^ k.val)) = ((z.val : Nat) : Int) + ((2 ^ k.val : Nat) : Int) := by decide +kernel
theorem or_bit {z : Int} {k : Nat} (hz : 0 ≤ z ∧ z < ((2 ^ k : Nat) : Int)) (hk : k < 4) : bits .or .u64 z (IntKind.u64.wrap (2 ^ k)) = z + ((2 ^ k : Nat) : Int) := by
  obtain ⟨y, rfl⟩ := Int.eq_ofNat_of_zero_le hz.1
  have h2 : y < 2 ^ k := by have := hz.2; omega
  have h3 : (2 : Nat) ^ k ≤ 2 ^ 3 := Nat.pow_le_pow_right (by omega) (by omega)
  exact or_fin ⟨k, hk⟩ ⟨y, by omega⟩ h2
theorem and_fin : ∀ k : Fin 4, ∀ z : Fin 16, (bits .and .u64 (((z.val : Nat) : Int) / 2 ^ k.val) 1 == 1) = (z.val / 2 ^ k.val % 2 == 1) := by decide +kernel
/-- The bits as a natural number. -/
def mskN (x : Nat → Bool) : Nat → Nat
  | 0 => 0
  | k + 1 => mskN x k + if x k then 2 ^ k else 0
theorem msk_N (x : Nat → Bool) (k : Nat) : msk x k = (mskN x k : Int) := by
  induction k with
  | zero => rfl
  | succ k ih => show msk x k + _ = ((mskN x k + _ : Nat) : Int); rw [ih]; split <;> simp
theorem mskN_bit {x : Nat → Bool} {n k : Nat} (hn : n ≤ 4) (hk : k < n) : (mskN x n / 2 ^ k % 2 == 1) = x k := by
  have h1 : n = 1 ∨ n = 2 ∨ n = 3 ∨ n = 4 := by omega
  have h2 : k = 0 ∨ k = 1 ∨ k = 2 ∨ k = 3 := by omega
  cases h0 : x 0 <;> cases h3 : x 1 <;> cases h4 : x 2 <;> cases h5 : x 3 <;> rcases h1 with rfl | rfl | rfl | rfl <;> rcases h2 with rfl | rfl | rfl | rfl <;> first | (exfalso; omega) | (simp only [mskN, h0, h3, h4, h5]; rfl)
theorem msk_zero {x : Nat → Bool} {n : Nat} : msk x n = 0 ↔ ∀ i, i < n → x i = false := by
  induction n with
  | zero => exact ⟨fun _ i hi => absurd hi (by omega), fun _ => rfl⟩
  | succ n ih =>
    have hb := msk_bd x n
    have hp : 0 < ((2 ^ n : Nat) : Int) := by have := Nat.two_pow_pos n; omega
    cases h : x n with
    | true =>
      rw [msk_yes h]
      exact ⟨fun e => by omega, fun e => by rw [e n (by omega)] at h; cases h⟩
    | false =>
      rw [msk_no h, ih]
      refine ⟨fun e i hi => ?_, fun e i hi => e i (by omega)⟩
      by_cases hin : i = n
      · subst hin; exact h
      · exact e i (by omega)

set_option maxRecDepth 100000 in
set_option maxHeartbeats 800000 in
theorem with_any (z : Int) (k : Nat) (w : World) (hz : 0 ≤ z ∧ z < ((2 ^ k : Nat) : Int)) (hk : k < 4) :
    Calls Try.prog 116 #[.int .u64 z, .int .i64 k] w fun e w' => e = .returned (.int .u64 (z + ((2 ^ k : Nat) : Int))) ∧ w = w' := by
  go_enter Try.func116, Try.ntmps116
  go_wp2
  go_ret
  exact ⟨congrArg (fun v => Ending.returned (.int .u64 v)) (or_bit hz hk), rfl⟩

set_option maxRecDepth 100000 in
set_option maxHeartbeats 800000 in
theorem has_any (x : Nat → Bool) (n k : Nat) (w : World) (hn : n ≤ 4) (hk : k < n) :
    Calls Try.prog 118 #[.int .u64 (msk x n), .int .i64 k] w fun e w' => e = .returned (.bool (x k)) ∧ w = w' := by
  go_enter Try.func118, Try.ntmps118
  go_wp2
  go_ret
  refine ⟨congrArg (fun v => Ending.returned (.bool v)) ?_, rfl⟩
  rw [msk_N]
  have h1 := msk_bd x n
  rw [msk_N] at h1
  have h3 : (2 : Nat) ^ n ≤ 2 ^ 4 := Nat.pow_le_pow_right (by omega) hn
  exact (and_fin ⟨k, by omega⟩ ⟨mskN x n, by omega⟩).trans (mskN_bit hn hk)
end Go.Proofs.Ytgjjcikdbpjajaa

namespace Go.Proofs.Ytgjjcikdbpjajaa
open Go.ChangeShapes Go.WideShapes Go.ChangeAt Go.RowKit

/-- A block of the call's own that holds sets of values. -/
def OwnS8 (w : World) (G n : Nat) (v : Nat → Int) : Prop :=
  ∃ cs : Array Value, w.heap[G]? = some (.cells cs 132 (0, 0)) ∧ cs.size = n ∧ ∀ i, i < n → cs[i]? = some (.int .u64 (v i))
section
variable {w w' : World} {G n : Nat} {v v' : Nat → Int}
theorem OwnS8.lt (h : OwnS8 w G n v) : G < w.heap.size := by
  obtain ⟨cs, hh, h1, h2⟩ := h
  rcases Nat.lt_or_ge G w.heap.size with hlt | hge
  · exact hlt
  · rw [Array.getElem?_eq_none hge] at hh; cases hh
theorem OwnS8.below {B : Nat} (h : OwnS8 w G n v) (hb : Below B w w') (hG : G < B) : OwnS8 w' G n v := by
  obtain ⟨cs, hh, h1, h2⟩ := h
  exact ⟨cs, (hb.block G hG).trans hh, h1, h2⟩
theorem OwnS8.cell (h : OwnS8 w G n v) {j : Nat} (hj : j < n) : w.cell? ⟨G, j, none⟩ = some (.int .u64 (v j)) := by
  obtain ⟨cs, hh, h1, h2⟩ := h
  exact (cell_of_row w G _ cs _ _ hh).trans (h2 j hj)
theorem OwnS8.frozen (h : OwnS8 w G n v) (j : Nat) : w.frozen? ⟨G, j, none⟩ = false := by
  obtain ⟨cs, hh, h1, h2⟩ := h
  simp [World.frozen?, hh]
theorem OwnS8.put (h : OwnS8 w G n v) {k : Nat} (hk : k < n) {z : Int} (hz : v' k = z) (he : ∀ i, i < n → i ≠ k → v' i = v i) : OwnS8 (w.setCell ⟨G, k, none⟩ (.int .u64 z)) G n v' := by
  obtain ⟨cs, hh, h1, h2⟩ := h
  refine ⟨cs.setIfInBounds k (.int .u64 z), ?_, by simp [h1], fun i hi => ?_⟩
  · simp [World.setCell, Array.getElem?_modify, hh]
  · simp only [Array.getElem?_setIfInBounds]
    by_cases e : i = k
    · subst e
      rw [if_pos rfl, if_pos (by omega), hz]
    · rw [if_neg (by omega), he i hi e]
      exact h2 i hi
theorem OwnS8.same (h : OwnS8 w G n v) (he : ∀ i, i < n → v' i = v i) : OwnS8 w G n v' := by
  obtain ⟨cs, hh, h1, h2⟩ := h
  exact ⟨cs, hh, h1, fun i hi => by rw [he i hi]; exact h2 i hi⟩
end
theorem Try.infoVS : (Try.prog.info? 132).map (fun i => (i.zero, i.size, i.bytes)) = some (some (.int .u64 0), 1, 8) := by kernel_rfl

/-- The sets behind k whole lists and j elements of the next one. -/
def dmV (d : Nat → LsB) (k j : Nat) (i : Nat) : Int := if i < k then msk (d i).x (d i).n else if i = k then msk (d i).x j else 0

theorem dmV_00 (d : Nat → LsB) (i : Nat) : dmV d 0 0 i = 0 := by
  unfold dmV
  rw [if_neg (by omega)]
  split
  · rfl
  · rfl
theorem dmV_at (d : Nat → LsB) (k j : Nat) : dmV d k j k = msk (d k).x j := by unfold dmV; rw [if_neg (by omega), if_pos rfl]
theorem dmV_ne (d : Nat → LsB) {k j j' i : Nat} (h : i ≠ k) : dmV d k j i = dmV d k j' i := by unfold dmV; rw [if_neg h, if_neg h]
theorem dmV_no (d : Nat → LsB) {k j : Nat} (h : (d k).x j = false) (i : Nat) : dmV d k (j + 1) i = dmV d k j i := by
  by_cases e : i = k
  · subst e; rw [dmV_at, dmV_at, msk_no h]
  · exact dmV_ne d e
theorem dmV_next (d : Nat → LsB) (k i : Nat) : dmV d (k + 1) 0 i = dmV d k (d k).n i := by
  unfold dmV
  by_cases h : i < k
  · rw [if_pos h, if_pos (by omega)]
  · rw [if_neg h]
    by_cases e : i = k
    · subst e; rw [if_pos (by omega), if_pos rfl]
    · rw [if_neg (by omega), if_neg e]
      split
      · rfl
      · rfl
theorem dmV_end (d : Nat → LsB) {k i : Nat} (h : i < k) : msk (d i).x (d i).n = dmV d k 0 i := by unfold dmV; rw [if_pos h]
theorem own8_new (w : World) (m : Nat) : OwnS8 (w.alloc (.cells (madeCells #[.int .u64 0] m) 132)) w.heap.size m (fun _ => 0) := by
  have h : (madeCells #[Value.int .u64 0] m).toList = List.replicate m (.int .u64 0) := toList_madeCells_one (.int .u64 0) m
  refine ⟨_, heap_alloc_new _ _, by simp [size_madeCells], fun i hi => ?_⟩
  rw [← Array.getElem?_toList, h, List.getElem?_replicate, if_pos hi]

set_option maxRecDepth 100000 in
set_option maxHeartbeats 1600000 in
theorem domainsOf_any (m : Nat) (d : Nat → LsB) (Ad : Option Addr) (cd : Nat) (w : World) (p1 : m ≤ 5) (p2 : ∀ i, i < m → (d i).n ≤ 4) (hd : RdLB w w.heap.size Ad m d) :
    Calls Try.prog 74 #[.slice Ad m cd] w fun e w' => ∃ G, e = .returned (.slice (some ⟨G, 0, none⟩) m m) ∧ w.heap.size ≤ G ∧ OwnS8 w' G m (fun i => msk (d i).x (d i).n) ∧ Below w.heap.size w w' := by
  obtain ⟨i0, hi, hz0, hz1, hz2⟩ := info_parts Try.infoVS
  have hmk := fun W => run_make (P := Try.prog) W 84 132 i0 _ Try.underlying84 hi hz0 .i64 .i64 (m : Int) m (by omega) (by omega) (by rw [hz2]; omega) (by omega)
  rw [hz1] at hmk
  clear hi hz0 hz1 hz2
  go_enter Try.func74, Try.ntmps74
  go_wp2
  have HP2 := Lib.hid p2
  have HD := Lib.hid hd
  clear p2 hd hmk
  go_loopw [13] (fun i wr => ∃ k : Nat, k ≤ m ∧ i = .int .i64 k ∧ OwnS8 wr w.heap.size m (dmV d k 0) ∧ Below w.heap.size w wr) (fun i _ => m - (intOf i).toNat)
  case atStart => exact ⟨0, Nat.zero_le _, rfl, (own8_new w m).same (fun i hi => dmV_00 d i), bl_alloc (Below.refl _ _) _⟩
  case round =>
    obtain ⟨k, hk, rfl, hown, hb⟩ := hrel
    by_cases hlt : k < m
    · obtain ⟨b, off, rfl, hbl, hc⟩ := HD.out (by omega)
      obtain ⟨Ai, ci, hc0, hrk⟩ := hc k hlt
      have hc1 := (hb.cell (p := ⟨b, _, none⟩) hbl).trans hc0
      have h4 := HP2.out k hlt
      have HO := Lib.hid hown
      have HBk := Lib.hid hb
      have hrk' := Lib.hid hrk
      clear hc hown hb hrk hc0
      have hlt' : (k : Int) < (m : Int) := by omega
      have hk0 : (0 : Int) ≤ (k : Int) := by omega
      go_wp2
      go_loopw [20] (fun i wr => ∃ j : Nat, j ≤ (d k).n ∧ i = .int .i64 j ∧ OwnS8 wr w.heap.size m (dmV d k j) ∧ Below w.heap.size w wr) (fun i _ => (d k).n - (intOf i).toNat)
      case atStart => exact ⟨0, Nat.zero_le _, rfl, HO.out, HBk.out⟩
      case round =>
        obtain ⟨j, hj, rfl, hown, hb⟩ := hrel
        by_cases hjt : j < (d k).n
        · obtain ⟨b2, off2, rfl, hbl2, hc2⟩ := (hrk'.out.below hb) (by omega)
          have hc3 := hc2 j hjt
          clear hc2
          have hj0 : (0 : Int) ≤ (j : Int) := by omega
          have hjt' : (j : Int) < ((d k).n : Int) := by omega
          cases hx : (d k).x j with
          | true =>
            rw [hx] at hc3
            have hcell := hown.cell hlt
            rw [dmV_at] at hcell
            have hfz := hown.frozen k
            have Hput := Lib.hid (hown.put (v' := dmV d k (j + 1)) hlt (z := msk (d k).x j + ((2 ^ j : Nat) : Int)) (by rw [dmV_at, msk_yes hx]) (fun i hi hne => dmV_ne d hne))
            have Hbb := Lib.hid (hb.setCell (p := ⟨w.heap.size, k, none⟩) (Nat.le_refl _) (.int .u64 (msk (d k).x j + ((2 ^ j : Nat) : Int))))
            clear hx hown
            have hbd := msk_bd (d k).x j
            go_wp2_with (go_at_call 116; refine (with_any _ j _ hbd (by omega)).mono ?_; rintro e w' ⟨rfl, rfl⟩)
            go_roundw
            case rel => exact ⟨j + 1, by omega, by go_num, Hput.out, Hbb.out⟩
            case measure => simp [intOf]; omega
          | false =>
            rw [hx] at hc3
            have Hs := Lib.hid (hown.same (v' := dmV d k (j + 1)) (fun i hi => dmV_no d hx i))
            clear hx hown
            go_wp2
            go_roundw
            case rel => exact ⟨j + 1, by omega, by go_num, Hs.out, hb⟩
            case measure => simp [intOf]; omega
        · have e : j = (d k).n := by omega
          subst e
          have Hs := Lib.hid (hown.same (v' := dmV d (k + 1) 0) (fun i hi => dmV_next d k i))
          clear hown
          go_wp2
          go_roundw
          case rel => exact ⟨k + 1, by omega, by go_num, Hs.out, hb⟩
          case measure => simp [intOf]; omega
    · have e : k = m := by omega
      subst e
      have Hs := Lib.hid (hown.same (v' := fun i => msk (d i).x (d i).n) (fun i hi => dmV_end d hi))
      clear hown
      go_wp2
      go_ret
      exact ⟨_, rfl, Nat.le_refl _, Hs.out, hb⟩
end Go.Proofs.Ytgjjcikdbpjajaa

namespace Go.Proofs.Ytgjjcikdbpjajaa
open Go.ChangeShapes Go.WideShapes Go.ChangeAt Go.RowKit

set_option maxRecDepth 100000 in
set_option maxHeartbeats 1600000 in
theorem idxE_any (G m cp : Nat) (v : Nat → Int) (w : World) (p1 : m ≤ 5) (hd : OwnS8 w G m v) :
    Calls Try.prog 139 #[.slice (some ⟨G, 0, none⟩) m cp, .int .u64 0] w fun e w' => ∃ r : Int, e = .returned (.int .i64 r) ∧ decide (0 ≤ r) = anyQ (fun i => v i == 0) m ∧ Below w.heap.size w w' := by
  go_enter Try.func139, Try.ntmps139
  go_wp2
  go_loopw [8] (fun i wr => ∃ k : Nat, k ≤ m ∧ i = .int .i64 k ∧ anyQ (fun i => v i == 0) k = false ∧ Below w.heap.size w wr) (fun i _ => m - (intOf i).toNat)
  case atStart => exact ⟨0, Nat.zero_le _, rfl, rfl, Below.refl _ _⟩
  case round =>
    obtain ⟨k, hk, rfl, hp, hb⟩ := hrel
    have Hp := Lib.hid hp
    clear hp
    by_cases hlt : k < m
    · have hc := (hd.below hb hd.lt).cell hlt
      have hlt' : (k : Int) < (m : Int) := by omega
      have hk0 : (0 : Int) ≤ (k : Int) := by omega
      by_cases hv : v k = 0
      · have Hfin := Lib.hid (show decide (0 ≤ (k : Int)) = anyQ (fun i => v i == 0) m from by rw [anyQ_of (q := fun i => v i == 0) hlt (beq_iff_eq.2 hv)]; simp)
        rw [hv] at hc
        clear hv hd
        go_wp2
        go_ret
        exact ⟨_, rfl, Hfin.out, hb⟩
      · have Hno := Lib.hid (anyQ_step (q := fun i => v i == 0) Hp.out (beq_eq_false_iff_ne.2 hv))
        have hv' : ¬ (0 = v k) := fun e => hv e.symm
        clear hd
        go_wp2
        go_roundw
        case rel => exact ⟨k + 1, by omega, by go_num, Hno.out, hb⟩
        case measure => simp [intOf]; omega
    · have e : k = m := by omega
      subst e
      go_wp2
      go_ret
      exact ⟨-1, rfl, by rw [Hp.out]; rfl, hb⟩

set_option maxRecDepth 100000 in
set_option maxHeartbeats 800000 in
theorem ctnE_any (G m cp : Nat) (v : Nat → Int) (w : World) (p1 : m ≤ 5) (hd : OwnS8 w G m v) :
    Calls Try.prog 117 #[.slice (some ⟨G, 0, none⟩) m cp, .int .u64 0] w fun e w' => e = .returned (.bool (anyQ (fun i => v i == 0) m)) ∧ Below w.heap.size w w' := by
  have Hc := Lib.hid (idxE_any G m cp v w p1 hd)
  clear hd
  go_enter Try.func117, Try.ntmps117
  go_wp2_with fail
  refine Hc.out.mono ?_
  rintro e w1 ⟨r, rfl, hm, hb⟩
  have Hm := Lib.hid hm
  clear hm
  go_wp2
  go_ret
  exact ⟨ret_bool Hm.out, hb⟩

set_option maxRecDepth 100000 in
set_option maxHeartbeats 800000 in
theorem someE_any (G m cp : Nat) (v : Nat → Int) (w : World) (p1 : m ≤ 5) (hd : OwnS8 w G m v) :
    Calls Try.prog 75 #[.slice (some ⟨G, 0, none⟩) m cp] w fun e w' => e = .returned (.bool (anyQ (fun i => v i == 0) m)) ∧ Below w.heap.size w w' := by
  have Hc := Lib.hid (ctnE_any G m cp v w p1 hd)
  clear hd
  go_enter Try.func75, Try.ntmps75
  go_wp2_with fail
  refine Hc.out.mono ?_
  rintro e w1 ⟨rfl, hb⟩
  go_wp2
  go_ret
  exact ⟨rfl, hb⟩

theorem anyQ_no {b : Nat → Bool} {n i : Nat} (h : anyQ b n = false) (hi : i < n) : b i = false := by
  cases hb : b i with
  | false => rfl
  | true => rw [anyQ_of hi hb] at h; cases h
theorem anyQ_all {b : Nat → Bool} {n : Nat} (h : ∀ i, i < n → b i = false) : anyQ b n = false := by
  induction n with
  | zero => rfl
  | succ n ih => exact anyQ_step (ih fun i hi => h i (by omega)) (h n (by omega))
theorem anyQ_cg {b c : Nat → Bool} {n : Nat} (h : ∀ i, i < n → b i = c i) : anyQ b n = anyQ c n := by
  cases hb : anyQ c n with
  | false => exact anyQ_all fun i hi => (h i hi).trans (anyQ_no hb hi)
  | true =>
    cases hc : anyQ b n with
    | true => rfl
    | false =>
      have : anyQ c n = false := anyQ_all fun i hi => (h i hi).symm.trans (anyQ_no hc hi)
      rw [this] at hb; cases hb

/-- Some domain is empty. -/
def emQ (m : Nat) (d : Nat → LsB) : Bool := anyQ (fun i => !anyQ (d i).x (d i).n) m
theorem emQ_msk (m : Nat) (d : Nat → LsB) : anyQ (fun i => msk (d i).x (d i).n == 0) m = emQ m d := anyQ_cg fun i hi => by
  cases h : anyQ (d i).x (d i).n with
  | false => exact beq_iff_eq.2 (msk_zero.2 fun j hj => anyQ_no h hj)
  | true =>
    refine beq_eq_false_iff_ne.2 fun e => ?_
    rw [anyQ_all (msk_zero.1 e)] at h
    cases h

set_option maxRecDepth 100000 in
set_option maxHeartbeats 1600000 in
theorem l8Empty_any (m : Nat) (d : Nat → LsB) (Ad : Option Addr) (cd : Nat) (w : World) (p1 : m ≤ 5) (p2 : ∀ i, i < m → (d i).n ≤ 4) (hd : RdLB w w.heap.size Ad m d) :
    Calls Try.prog 73 #[.slice Ad m cd] w fun e w' => e = .returned (.bool (emQ m d)) ∧ Below w.heap.size w w' := by
  have He := Lib.hid (show ∀ z, emQ m d = z ↔ anyQ (fun i => !anyQ (d i).x (d i).n) m = z from fun z => Iff.rfl)
  have HP2 := Lib.hid p2
  have HD := Lib.hid hd
  clear p2 hd
  go_enter Try.func73, Try.ntmps73
  go_wp2
  go_loopw [3] (fun i wr => ∃ k : Nat, k ≤ m ∧ i = .int .i64 k ∧ anyQ (fun i => !anyQ (d i).x (d i).n) k = false ∧ Below w.heap.size w wr) (fun i _ => m - (intOf i).toNat)
  case atStart => exact ⟨0, Nat.zero_le _, rfl, rfl, Below.refl _ _⟩
  case round =>
    obtain ⟨k, hk, rfl, hp, hb⟩ := hrel
    have Hp := Lib.hid hp
    clear hp
    by_cases hlt : k < m
    · obtain ⟨b, off, rfl, hbl, hc⟩ := HD.out (by omega)
      obtain ⟨Ai, ci, hc0, hrk⟩ := hc k hlt
      have h4 := HP2.out k hlt
      have HBk := Lib.hid hb
      have hrk' := Lib.hid hrk
      have HC0 := Lib.hid (fun (X : World) (hX : Below w.heap.size w X) => (hX.cell (p := ⟨b, _, none⟩) hbl).trans hc0)
      clear hc hb hrk hc0
      have hlt' : (k : Int) < (m : Int) := by omega
      have hk0 : (0 : Int) ≤ (k : Int) := by omega
      go_wp2
      go_loopw [4, 5] (fun f i wr => ∃ j : Nat, j ≤ (d k).n ∧ i = .int .i64 j ∧ f = .bool (anyQ (d k).x j) ∧ Below w.heap.size w wr) (fun _ i _ => (d k).n - (intOf i).toNat)
      case atStart => exact ⟨0, Nat.zero_le _, rfl, rfl, HBk.out⟩
      case round =>
        obtain ⟨j, hj, rfl, rfl, hb⟩ := hrel
        have hc1 := HC0.out _ hb
        by_cases hjt : j < (d k).n
        · obtain ⟨b2, off2, rfl, hbl2, hc2⟩ := (hrk'.out.below hb) (by omega)
          have hc3 := hc2 j hjt
          clear hc2
          have hj0 : (0 : Int) ≤ (j : Int) := by omega
          have hjt' : (j : Int) < ((d k).n : Int) := by omega
          cases hf : anyQ (d k).x j with
          | true =>
            have Hn := Lib.hid (show anyQ (d k).x (j + 1) = true from by show (anyQ (d k).x j || (d k).x j) = true; rw [hf]; rfl)
            clear hf
            go_wp2
            go_roundw
            case rel => exact ⟨j + 1, by omega, by go_num, by rw [Hn.out], hb⟩
            case measure => simp [intOf]; omega
          | false =>
            have Hn := Lib.hid (show anyQ (d k).x (j + 1) = (d k).x j from by show (anyQ (d k).x j || (d k).x j) = _; rw [hf]; rfl)
            clear hf
            go_wp2
            go_roundw
            case rel => exact ⟨j + 1, by omega, by go_num, by rw [Hn.out], hb⟩
            case measure => simp [intOf]; omega
        · have e : j = (d k).n := by omega
          subst e
          cases hf : anyQ (d k).x (d k).n with
          | true =>
            have Hno := Lib.hid (anyQ_step (q := fun i => !anyQ (d i).x (d i).n) Hp.out (by simp only [hf]; rfl))
            clear hf
            go_wp2
            go_roundw
            case rel => exact ⟨k + 1, by omega, by go_num, Hno.out, hb⟩
            case measure => simp [intOf]; omega
          | false =>
            have Hfin := Lib.hid ((He.out true).2 (anyQ_of (q := fun i => !anyQ (d i).x (d i).n) hlt (by simp only [hf]; rfl)))
            clear hf
            go_wp2
            go_ret
            exact ⟨ret_bool Hfin.out.symm, hb⟩
    · have e : k = m := by omega
      subst e
      have Hfin := Lib.hid ((He.out false).2 Hp.out)
      go_wp2
      go_ret
      exact ⟨ret_bool Hfin.out.symm, hb⟩
end Go.Proofs.Ytgjjcikdbpjajaa

namespace Go.Proofs.Ytgjjcikdbpjajaa
open Go.ChangeShapes Go.WideShapes Go.ChangeAt Go.RowKit

/-- Domains of a valid model of which one is empty. -/
def deB (s : Lst) (n : Nat) (q : Nat → Rul) (m : Nat) (d : Nat → LsB) : Bool := dvB s n q m d && emQ m d
/-- What valid domains are. -/
theorem dv_parts {s : Lst} {n : Nat} {q : Nat → Rul} {m : Nat} {d : Nat → LsB} (h : dvB s n q m d = true) : m ≤ 5 ∧ ∀ i, i < m → (d i).n ≤ 4 := by
  unfold dvB fitB at h
  simp only [Bool.and_eq_true, beq_iff_eq] at h
  obtain ⟨hm, rfl, hf⟩ := h
  obtain ⟨-, h5, hok, -⟩ := mod_parts hm
  refine ⟨h5, fun i hi => ?_⟩
  have h1 := size_at hok hi
  have h2 := beq_iff_eq.1 (prE_at (e := fun i => ((d i).n : Int) == s.x i + 1) hf hi)
  omega

set_option maxRecDepth 100000 in
set_option maxHeartbeats 1600000 in
theorem specDE_any (s : Lst) (n : Nat) (q : Nat → Rul) (m : Nat) (d : Nat → LsB) (As Ar Ad : Option Addr) (cs cr cd : Nat) (w : World) (p1 : s.n ≤ 1048576) (p3 : n ≤ 1048576) (p4 : ∀ i, i < n → (q i).fit 1048576) (p5 : m ≤ 1048576) (p6 : ∀ i, i < m → (d i).n ≤ 1048576) (hs : RdI w w.heap.size As s.n s.x) (hr : RdRs w w.heap.size Ar n q) (hd : RdLB w w.heap.size Ad m d) :
    Calls Try.prog 28 #[.agg #[.slice As s.n cs, .slice Ar n cr], .slice Ad m cd] w fun e w' => e = .returned (.bool (deB s n q m d)) ∧ Below w.heap.size w w' := by
  have Hd := Lib.hid (show ∀ z, deB s n q m d = z ↔ (dvB s n q m d && emQ m d) = z from fun z => Iff.rfl)
  have HS := Lib.hid hs
  have HR := Lib.hid hr
  have HD := Lib.hid hd
  have P4 := Lib.hid p4
  have P6 := Lib.hid p6
  clear hs hr hd p4 p6
  have HA := Lib.hid (bl_alloc (Below.refl w.heap.size w))
  go_enter Try.func28, Try.ntmps28
  go_wp2_with fail
  have a0 : (w.alloc (.cells #[.slice As s.n cs, .slice Ar n cr] 32)).cell? ⟨w.heap.size, 0, none⟩ = some (.slice As s.n cs) := by go_simp
  have a1 : (w.alloc (.cells #[.slice As s.n cs, .slice Ar n cr] 32)).cell? ⟨w.heap.size, 1, none⟩ = some (.slice Ar n cr) := by go_simp
  have HB := Lib.hid (HA.out (.cells #[.slice As s.n cs, .slice Ar n cr] 32))
  clear HA
  generalize (w.alloc (.cells #[.slice As s.n cs, .slice Ar n cr] 32)) = w1 at *
  refine (specDV_any s n q m d _ _ _ _ _ _ _ p1 p3 P4.out p5 P6.out (HS.out.later HB.out) (HR.out.later HB.out) (HD.out.later HB.out)).mono ?_
  rintro e w2 ⟨rfl, hb⟩
  have HB2 := Lib.hid (bl_trans HB.out hb)
  clear hb HB
  cases hm : dvB s n q m d with
  | false =>
    have He := Lib.hid ((Hd.out false).2 (by rw [hm]; rfl))
    clear hm Hd
    go_wp2
    go_ret
    exact ⟨ret_bool He.out.symm, HB2.out⟩
  | true =>
    have Hp := Lib.hid (dv_parts hm)
    have He := Lib.hid ((Hd.out (emQ m d)).2 (by rw [hm]; rfl))
    clear hm Hd
    have hm5 := Hp.out.1
    go_wp2_with fail
    refine (l8Empty_any m d _ _ _ Hp.out.1 Hp.out.2 (HD.out.later HB2.out)).mono ?_
    rintro e w3 ⟨rfl, hb⟩
    have HB3 := Lib.hid (bl_trans HB2.out hb)
    clear hb HB2
    go_wp2
    go_ret
    exact ⟨ret_bool He.out.symm, HB3.out⟩

set_option maxRecDepth 100000 in
set_option maxHeartbeats 1600000 in
theorem implDE_any (s : Lst) (n : Nat) (q : Nat → Rul) (m : Nat) (d : Nat → LsB) (As Ar Ad : Option Addr) (cs cr cd : Nat) (w : World) (p1 : s.n ≤ 1048576) (p3 : n ≤ 1048576) (p4 : ∀ i, i < n → (q i).fit 1048576) (p5 : m ≤ 1048576) (p6 : ∀ i, i < m → (d i).n ≤ 1048576) (hs : RdI w w.heap.size As s.n s.x) (hr : RdRs w w.heap.size Ar n q) (hd : RdLB w w.heap.size Ad m d) :
    Calls Try.prog 29 #[.agg #[.slice As s.n cs, .slice Ar n cr], .slice Ad m cd] w fun e w' => e = .returned (.bool (deB s n q m d)) ∧ Below w.heap.size w w' := by
  have Hd := Lib.hid (show ∀ z, deB s n q m d = z ↔ (dvB s n q m d && emQ m d) = z from fun z => Iff.rfl)
  have HS := Lib.hid hs
  have HR := Lib.hid hr
  have HD := Lib.hid hd
  have P4 := Lib.hid p4
  have P6 := Lib.hid p6
  clear hs hr hd p4 p6
  have HA := Lib.hid (bl_alloc (Below.refl w.heap.size w))
  go_enter Try.func29, Try.ntmps29
  go_wp2_with fail
  have a0 : (w.alloc (.cells #[.slice As s.n cs, .slice Ar n cr] 32)).cell? ⟨w.heap.size, 0, none⟩ = some (.slice As s.n cs) := by go_simp
  have a1 : (w.alloc (.cells #[.slice As s.n cs, .slice Ar n cr] 32)).cell? ⟨w.heap.size, 1, none⟩ = some (.slice Ar n cr) := by go_simp
  have HB := Lib.hid (HA.out (.cells #[.slice As s.n cs, .slice Ar n cr] 32))
  clear HA
  generalize (w.alloc (.cells #[.slice As s.n cs, .slice Ar n cr] 32)) = w1 at *
  refine (implDV_any s n q m d _ _ _ _ _ _ _ p1 p3 P4.out p5 P6.out (HS.out.later HB.out) (HR.out.later HB.out) (HD.out.later HB.out)).mono ?_
  rintro e w2 ⟨rfl, hb⟩
  have HB2 := Lib.hid (bl_trans HB.out hb)
  clear hb HB
  cases hm : dvB s n q m d with
  | false =>
    have He := Lib.hid ((Hd.out false).2 (by rw [hm]; rfl))
    clear hm Hd
    go_wp2
    go_ret
    exact ⟨ret_bool He.out.symm, HB2.out⟩
  | true =>
    have Hp := Lib.hid (dv_parts hm)
    have He := Lib.hid ((Hd.out (emQ m d)).2 (by rw [hm]; rfl))
    clear hm Hd
    have hm5 := Hp.out.1
    go_wp2_with fail
    refine (domainsOf_any m d _ _ _ Hp.out.1 Hp.out.2 (HD.out.later HB2.out)).mono ?_
    rintro e w3 ⟨G, rfl, hG, hown, hb⟩
    have HB3 := Lib.hid (bl_trans HB2.out hb)
    have HO := Lib.hid hown
    clear hb HB2 hown
    go_wp2_with fail
    refine (someE_any G m m _ _ Hp.out.1 HO.out).mono ?_
    rintro e w4 ⟨rfl, hb⟩
    rw [emQ_msk]
    have HB4 := Lib.hid (bl_trans HB3.out hb)
    clear hb HB3
    go_wp2
    go_ret
    exact ⟨ret_bool He.out.symm, HB4.out⟩
end Go.Proofs.Ytgjjcikdbpjajaa

