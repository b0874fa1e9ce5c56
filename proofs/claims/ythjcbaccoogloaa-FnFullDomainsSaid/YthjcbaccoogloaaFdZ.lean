/- CellsValid: what it says; the reference's side (no claim of its own). Conditions: as each theorem states. · CellsValid: the program's side (no claim of its own). Conditions: as each theorem states. · BoolVar, FreeVars: what they say; the reference's side (no claim of its own). Conditions: as each theorem states. · BoolVar, FreeVars: the program's side (no claim of its own). Conditions: as each theorem states. · RuleHolds: what it says (no claim of its own). Conditions: as each theorem states. · The values of cells as an array (no claim of its own). Conditions: as each theorem states. · The values of some cells out of the array (no claim of its own). Conditions: as each theorem states. · DomainsValid: what it says; the reference's side (no claim of its own). Conditions: as each theorem states. · DomainsValid: the program's side (no claim of its own). Conditions: as each theorem states. · Sets of values as bits (no claim of its own). Conditions: as each theorem states. · Domains as sets of values: how they are read off the lists (no claim of its own). Conditions: as each theorem states. · Whether a domain is empty: the program's side (no claim of its own). Conditions: as each theorem states. · DomainsEmpty: what it says; both sides (no claim of its own). Conditions: as each theorem states. · CellsIn: what it says; the reference's side (no claim of its own). Conditions: as each theorem states. · CellsIn: both sides (no claim of its own). Conditions: as each theorem states. · Rows of rows of Booleans that a call makes: marked, asked (no claim of its own). Conditions: as each theorem states. · FullDomains: the reference's side (no claim of its own). Conditions: as each theorem states. · slices.Repeat of a single true (no claim of its own). Conditions: as each theorem states. · FullDomains: both sides (no claim of its own). Conditions: as each theorem states. -/
import Derived.Test.YthjcbaccoogloaaMvsC
import Derived.Test.YthjcbaccoogloaaMvpG
import Derived.Test.YthjcbaccoogloaaIntR
import Derived.Laws.CopyOwn
import Derived.Test.YthjcbaccoogloaaMdlF
import Derived.Deep.RegionHeld3
import Derived.Deep.QuietTactic
import Derived.Test.YthjcbaccoogloaaLwtA
import Derived.Deep.AppendLies
import Derived.Laws.Tables
import Derived.Deep.Cut
namespace Go.Proofs.Ythjcbaccoogloaa
open Go.ChangeShapes Go.WideShapes Go.ChangeAt Go.RowKit

/-- Cells are values of the cells of a model. -/
def celsB (s c : Lst) : Bool := c.n == s.n && prE (fun i => betB 0 (s.x i) (c.x i)) s.n
theorem int_ne {a b : Nat} (h : a ≠ b) : ¬ (a : Int) = (b : Int) := by omega

set_option maxRecDepth 100000 in
set_option maxHeartbeats 1600000 in
theorem l6Cells_any (s c : Lst) (n : Nat) (As Ar Ac : Option Addr) (cs cr cc : Nat) (w : World) (p1 : s.n ≤ 1048576) (p2 : c.n ≤ 1048576) (hs : RdI w w.heap.size As s.n s.x) (hc : RdI w w.heap.size Ac c.n c.x) :
    Calls Try.prog 50 #[.agg #[.slice As s.n cs, .slice Ar n cr], .slice Ac c.n cc] w fun e w' => e = .returned (.bool (celsB s c)) ∧ Below w.heap.size w w' := by
  obtain ⟨sn, x⟩ := s
  obtain ⟨cn, y⟩ := c
  simp only at p1 p2 hs hc ⊢
  have Hd := Lib.hid (show ∀ z, celsB ⟨sn, x⟩ ⟨cn, y⟩ = z ↔ (cn == sn && prE (fun i => betB 0 (x i) (y i)) sn) = z from fun z => Iff.rfl)
  have HA := Lib.hid (bl_alloc (Below.refl w.heap.size w))
  by_cases d1 : cn ≠ sn
  · have d2 := int_ne d1
    have He := Lib.hid ((Hd.out false).2 (by simp [d1]))
    clear Hd d1
    go_enter Try.func50, Try.ntmps50
    go_wp2
    go_ret
    exact ⟨ret_bool He.out.symm, HA.out _⟩
  obtain rfl : cn = sn := by omega
  clear d1
  go_enter Try.func50, Try.ntmps50
  go_wp2
  have a0 : (w.alloc (.cells #[.slice As cn cs, .slice Ar n cr] 26)).cell? ⟨w.heap.size, 0, none⟩ = some (.slice As cn cs) := by go_simp
  have HB := Lib.hid (HA.out (.cells #[.slice As cn cs, .slice Ar n cr] 26))
  generalize (w.alloc (.cells #[.slice As cn cs, .slice Ar n cr] 26)) = w1 at *
  have hs1 := hs.later HB.out
  have hc1 := hc.later HB.out
  clear hs hc
  go_loopw [5] (fun i wr => ∃ k : Nat, k ≤ cn ∧ i = .int .i64 k ∧ prE (fun i => betB 0 (x i) (y i)) k = true ∧ Below w1.heap.size w1 wr) (fun i _ => cn - (intOf i).toNat)
  case atStart => exact ⟨0, Nat.zero_le _, rfl, rfl, Below.refl _ _⟩
  case round =>
    obtain ⟨k, hk, rfl, hp, hb⟩ := hrel
    have Hp := Lib.hid hp
    clear hp
    replace a0 := kc hb a0
    by_cases hlt : k < cn
    · obtain ⟨b, off, rfl, hbl, hcs⟩ := (hs1.below hb) (by omega)
      obtain ⟨b2, off2, rfl, hbl2, hcc⟩ := (hc1.below hb) (by omega)
      have c1 := hcs k hlt
      have c2 := hcc k hlt
      clear hcs hcc hs1 hc1
      have hlt' : (k : Int) < (cn : Int) := by omega
      have hk0 : (0 : Int) ≤ (k : Int) := by omega
      by_cases q1 : y k < 0
      · have Hno := Lib.hid (prE_no (e := fun i => betB 0 (x i) (y i)) hlt (by simp [betB, show ¬ 0 ≤ y k by omega]))
        have He := Lib.hid ((Hd.out false).2 (by rw [Hno.out]; simp))
        clear Hno Hd
        go_wp2_with fail
        try go_quiet (fail)
        try go_wp2
        go_ret
        exact ⟨ret_bool He.out.symm, bl_trans HB.out (by first | exact hb | exact bl_drewN hb _)⟩
      · by_cases q2 : x k < y k
        · have Hno := Lib.hid (prE_no (e := fun i => betB 0 (x i) (y i)) hlt (by simp [betB, show ¬ y k ≤ x k by omega]))
          have He := Lib.hid ((Hd.out false).2 (by rw [Hno.out]; simp))
          clear Hno Hd
          go_wp2_with fail
          try go_quiet (fail)
          try go_wp2
          go_ret
          exact ⟨ret_bool He.out.symm, bl_trans HB.out (by first | exact hb | exact bl_drewN hb _)⟩
        · have Hy := Lib.hid (prE_yes (e := fun i => betB 0 (x i) (y i)) Hp.out (by simp [betB]; omega))
          go_wp2_with fail
          try go_quiet (fail)
          try go_wp2
          go_roundw
          case rel => exact ⟨k + 1, by omega, by go_num, Hy.out, by first | exact hb | exact bl_drewN hb _⟩
          case measure => simp [intOf]; omega
    · have e : k = cn := by omega
      subst e
      have He := Lib.hid ((Hd.out true).2 (by rw [Hp.out]; simp))
      clear Hd
      go_wp2
      go_ret
      exact ⟨ret_bool He.out.symm, bl_trans HB.out hb⟩

/-- What CellsValid answers. -/
def cvB (s : Lst) (n : Nat) (q : Nat → Rul) (c : Lst) : Bool := modB s n q && celsB s c

set_option maxRecDepth 100000 in
set_option maxHeartbeats 1600000 in
theorem specCells_any (s c : Lst) (n : Nat) (q : Nat → Rul) (As Ar Ac : Option Addr) (cs cr cc : Nat) (w : World) (p1 : s.n ≤ 1048576) (p2 : c.n ≤ 1048576) (p3 : n ≤ 1048576) (p4 : ∀ i, i < n → (q i).fit 1048576) (hs : RdI w w.heap.size As s.n s.x) (hr : RdRs w w.heap.size Ar n q) (hc : RdI w w.heap.size Ac c.n c.x) :
    Calls Try.prog 16 #[.agg #[.slice As s.n cs, .slice Ar n cr], .slice Ac c.n cc] w fun e w' => e = .returned (.bool (cvB s n q c)) ∧ Below w.heap.size w w' := by
  have Hd := Lib.hid (show ∀ z, cvB s n q c = z ↔ (modB s n q && celsB s c) = z from fun z => Iff.rfl)
  have HS := Lib.hid hs
  have HR := Lib.hid hr
  have HC := Lib.hid hc
  have P4 := Lib.hid p4
  clear hs hr hc p4
  have HA := Lib.hid (bl_alloc (Below.refl w.heap.size w))
  go_enter Try.func16, Try.ntmps16
  go_wp2_with fail
  have a0 : (w.alloc (.cells #[.slice As s.n cs, .slice Ar n cr] 26)).cell? ⟨w.heap.size, 0, none⟩ = some (.slice As s.n cs) := by go_simp
  have a1 : (w.alloc (.cells #[.slice As s.n cs, .slice Ar n cr] 26)).cell? ⟨w.heap.size, 1, none⟩ = some (.slice Ar n cr) := by go_simp
  have HB := Lib.hid (HA.out (.cells #[.slice As s.n cs, .slice Ar n cr] 26))
  clear HA
  generalize (w.alloc (.cells #[.slice As s.n cs, .slice Ar n cr] 26)) = w1 at *
  refine (specValidM_any s n q _ _ _ _ _ p1 p3 P4.out (HS.out.later HB.out) (HR.out.later HB.out)).mono ?_
  rintro e w2 ⟨rfl, hb⟩
  have HB2 := Lib.hid (bl_trans HB.out hb)
  replace a0 := kc hb a0
  replace a1 := kc hb a1
  clear hb HB
  cases hm : modB s n q with
  | false =>
    have He := Lib.hid ((Hd.out false).2 (by rw [hm]; rfl))
    clear hm Hd
    go_wp2
    go_ret
    exact ⟨ret_bool He.out.symm, HB2.out⟩
  | true =>
    have He := Lib.hid ((Hd.out (celsB s c)).2 (by rw [hm]; simp))
    clear hm Hd
    go_wp2_with fail
    refine (l6Cells_any s c _ _ _ _ _ _ _ _ p1 p2 (HS.out.later HB2.out) (HC.out.later HB2.out)).mono ?_
    rintro e w3 ⟨rfl, hb⟩
    have HB3 := Lib.hid (bl_trans HB2.out hb)
    clear hb
    go_wp2
    go_ret
    exact ⟨ret_bool He.out.symm, HB3.out⟩
end Go.Proofs.Ythjcbaccoogloaa

namespace Go.Proofs.Ythjcbaccoogloaa
open Go.ChangeShapes Go.WideShapes Go.ChangeAt Go.RowKit

/-- A model has a cell of this number that can have a value. -/
def hvB (s : Lst) (cell val : Int) : Bool := (decide (0 ≤ cell) && decide (cell < s.n)) && (decide (0 ≤ val) && decide (val ≤ s.x cell.toNat))

set_option maxRecDepth 100000 in
set_option maxHeartbeats 1600000 in
theorem hasValue_any (s : Lst) (n : Nat) (As Ar : Option Addr) (cs cr : Nat) (cell val : Int) (w : World) (p1 : s.n ≤ 1048576) (hs : RdI w w.heap.size As s.n s.x) :
    Calls Try.prog 48 #[.agg #[.slice As s.n cs, .slice Ar n cr], .int .i64 cell, .int .i64 val] w fun e w' => e = .returned (.bool (hvB s cell val)) ∧ Below w.heap.size w w' := by
  obtain ⟨sn, x⟩ := s
  simp only at p1 hs ⊢
  have Hd := Lib.hid (show ∀ z, hvB ⟨sn, x⟩ cell val = z ↔ ((decide (0 ≤ cell) && decide (cell < sn)) && (decide (0 ≤ val) && decide (val ≤ x cell.toNat))) = z from fun z => Iff.rfl)
  have HA := Lib.hid (bl_alloc (Below.refl w.heap.size w))
  by_cases q1 : 0 ≤ cell
  · by_cases q2 : cell < (sn : Int)
    · obtain ⟨b, off, rfl, hbl, hc⟩ := (hs.later (HA.out (.cells #[.slice As sn cs, .slice Ar n cr] 26))) (by omega)
      obtain ⟨k, rfl⟩ : ∃ k : Nat, cell = (k : Int) := ⟨cell.toNat, by omega⟩
      have hc1 := hc k (by omega)
      clear hc hs
      rw [Int.toNat_natCast] at Hd
      by_cases q3 : 0 ≤ val
      · by_cases q4 : val ≤ x k
        · have He := Lib.hid ((Hd.out true).2 (by simp [q3, q4]; omega))
          clear Hd
          go_enter Try.func48, Try.ntmps48
          go_wp2
          go_ret
          exact ⟨ret_bool He.out.symm, HA.out _⟩
        · have He := Lib.hid ((Hd.out false).2 (by simp [q4]))
          clear Hd
          go_enter Try.func48, Try.ntmps48
          go_wp2
          go_ret
          exact ⟨ret_bool He.out.symm, HA.out _⟩
      · have He := Lib.hid ((Hd.out false).2 (by simp [q3]))
        clear Hd
        go_enter Try.func48, Try.ntmps48
        go_wp2
        go_ret
        exact ⟨ret_bool He.out.symm, HA.out _⟩
    · have He := Lib.hid ((Hd.out false).2 (by simp [q2]))
      clear Hd
      go_enter Try.func48, Try.ntmps48
      go_wp2
      go_ret
      exact ⟨ret_bool He.out.symm, HA.out _⟩
  · have He := Lib.hid ((Hd.out false).2 (by simp [q1]))
    clear Hd
    go_enter Try.func48, Try.ntmps48
    go_wp2
    go_ret
    exact ⟨ret_bool He.out.symm, HA.out _⟩
theorem hvB_bet {s : Lst} {k : Nat} (hk : k < s.n) (v : Int) : hvB s (k : Int) v = betB 0 (s.x k) v := by
  unfold hvB betB
  rw [Int.toNat_natCast]
  simp [show (k : Int) < s.n by omega]

set_option maxRecDepth 100000 in
set_option maxHeartbeats 1600000 in
theorem implCells_any (s c : Lst) (n : Nat) (q : Nat → Rul) (As Ar Ac : Option Addr) (cs cr cc : Nat) (w : World) (p1 : s.n ≤ 1048576) (p2 : c.n ≤ 1048576) (p3 : n ≤ 1048576) (p4 : ∀ i, i < n → (q i).fit 1048576) (hs : RdI w w.heap.size As s.n s.x) (hr : RdRs w w.heap.size Ar n q) (hc : RdI w w.heap.size Ac c.n c.x) :
    Calls Try.prog 15 #[.agg #[.slice As s.n cs, .slice Ar n cr], .slice Ac c.n cc] w fun e w' => e = .returned (.bool (cvB s n q c)) ∧ Below w.heap.size w w' := by
  have Hd := Lib.hid (show ∀ z, cvB s n q c = z ↔ (modB s n q && (c.n == s.n && prE (fun i => betB 0 (s.x i) (c.x i)) s.n)) = z from fun z => Iff.rfl)
  have HS := Lib.hid hs
  have HR := Lib.hid hr
  have HC := Lib.hid hc
  have P4 := Lib.hid p4
  clear hs hr hc p4
  have HA := Lib.hid (bl_alloc (Below.refl w.heap.size w))
  go_enter Try.func15, Try.ntmps15
  go_wp2_with fail
  have a0 : (w.alloc (.cells #[.slice As s.n cs, .slice Ar n cr] 26)).cell? ⟨w.heap.size, 0, none⟩ = some (.slice As s.n cs) := by go_simp
  have a1 : (w.alloc (.cells #[.slice As s.n cs, .slice Ar n cr] 26)).cell? ⟨w.heap.size, 1, none⟩ = some (.slice Ar n cr) := by go_simp
  have HB := Lib.hid (HA.out (.cells #[.slice As s.n cs, .slice Ar n cr] 26))
  clear HA
  generalize (w.alloc (.cells #[.slice As s.n cs, .slice Ar n cr] 26)) = w1 at *
  refine (implValidM_any s n q _ _ _ _ _ p1 p3 P4.out (HS.out.later HB.out) (HR.out.later HB.out)).mono ?_
  rintro e w2 ⟨rfl, hb⟩
  have HB2 := Lib.hid (bl_trans HB.out hb)
  replace a0 := kc hb a0
  replace a1 := kc hb a1
  clear hb HB
  cases hm : modB s n q with
  | false =>
    have He := Lib.hid ((Hd.out false).2 (by rw [hm]; rfl))
    clear hm Hd
    go_wp2
    go_ret
    exact ⟨ret_bool He.out.symm, HB2.out⟩
  | true =>
    have Hm := Lib.hid hm
    clear hm
    by_cases d1 : c.n ≠ s.n
    · have d2 := int_ne d1
      have He := Lib.hid ((Hd.out false).2 (by simp [d1]))
      clear Hd d1
      go_wp2
      go_ret
      exact ⟨ret_bool He.out.symm, HB2.out⟩
    have d2 : c.n = s.n := by omega
    have He := Lib.hid (show ∀ z, prE (fun i => betB 0 (s.x i) (c.x i)) s.n = z → cvB s n q c = z from fun z hz => (Hd.out z).2 (by rw [Hm.out, hz]; simp [d2]))
    clear Hd Hm d1
    obtain ⟨cn, y⟩ := c
    obtain ⟨sn, x⟩ := s
    simp only at d2
    subst d2
    simp only at p1 p2 HS HC He a0 ⊢
    obtain ⟨H, hHe⟩ : ∃ H, w.heap.size = H := ⟨_, rfl⟩
    rw [hHe] at a0 a1 ⊢
    have HS2 := Lib.hid (HS.out.later HB2.out)
    have hc2 := HC.out.later HB2.out
    go_wp2
    go_loopw [20] (fun i wr => ∃ k : Nat, k ≤ cn ∧ i = .int .i64 k ∧ prE (fun i => betB 0 (x i) (y i)) k = true ∧ Below w2.heap.size w2 wr) (fun i _ => cn - (intOf i).toNat)
    case atStart => exact ⟨0, Nat.zero_le _, rfl, rfl, Below.refl _ _⟩
    case round =>
      obtain ⟨k, hk, rfl, hp, hb⟩ := hrel
      have Hp := Lib.hid hp
      clear hp
      replace a0 := kc hb a0
      replace a1 := kc hb a1
      by_cases hlt : k < cn
      · obtain ⟨b, off, rfl, hbl, hcs⟩ := (hc2.below hb) (by omega)
        have c1 := hcs k hlt
        clear hcs hc2
        have hlt' : (k : Int) < (cn : Int) := by omega
        have hk0 : (0 : Int) ≤ (k : Int) := by omega
        have Hv := Lib.hid (hvB_bet (s := ⟨cn, x⟩) hlt (y k))
        go_wp2_with fail
        refine (hasValue_any ⟨cn, x⟩ _ _ _ _ _ _ _ _ p1 (HS2.out.later hb)).mono ?_
        rintro e w3 ⟨rfl, hb3⟩
        rw [Hv.out]
        have HB3 := Lib.hid (hb.trans (hb3.mono hb.size))
        clear hb3 Hv
        cases hq : betB 0 (x k) (y k) with
        | false =>
          have Hno := Lib.hid (prE_no (e := fun i => betB 0 (x i) (y i)) hlt hq)
          clear hq
          go_wp2
          go_ret
          exact ⟨ret_bool (He.out false Hno.out).symm, by exact bl_trans HB2.out HB3.out⟩
        | true =>
          have Hy := Lib.hid (prE_yes (e := fun i => betB 0 (x i) (y i)) Hp.out hq)
          clear hq
          go_wp2
          go_roundw
          case rel => exact ⟨k + 1, by omega, by go_num, Hy.out, HB3.out⟩
          case measure => simp [intOf]; omega
      · have e : k = cn := by omega
        subst e
        go_wp2
        go_ret
        exact ⟨ret_bool (He.out true Hp.out).symm, by exact bl_trans HB2.out hb⟩
end Go.Proofs.Ythjcbaccoogloaa

namespace Go.Proofs.Ythjcbaccoogloaa
open Go.ChangeShapes Go.WideShapes Go.ChangeAt Go.RowKit

theorem prE_le {e : Nat → Bool} {n k : Nat} (h : prE e n = true) (hk : k ≤ n) : prE e k = true := prE_iff.2 fun i hi => prE_at h (by omega)
/-- A valid model's cells, and their sizes. -/
theorem mod_parts {s : Lst} {n : Nat} {q : Nat → Rul} (h : modB s n q = true) : 1 ≤ s.n ∧ s.n ≤ 5 ∧ prE (fun i => betB 0 3 (s.x i)) s.n = true ∧ tS s.x s.n ≤ 12 ∧ n ≤ 8 ∧ ∀ i, i < n → ruleB s.n (q i) = true := by
  unfold modB at h
  simp only [Bool.and_eq_true, decide_eq_true_eq] at h
  exact ⟨h.1.1, h.1.2, h.2.1, h.2.2.1, h.2.2.2.1, fun i hi => prE_at h.2.2.2.2 hi⟩
theorem size_at {s : Lst} {k : Nat} (h : prE (fun i => betB 0 3 (s.x i)) s.n = true) (hk : k < s.n) : 0 ≤ s.x k ∧ s.x k ≤ 3 := by
  have := prE_at h hk
  simpa [betB] using this

set_option maxRecDepth 100000 in
set_option maxHeartbeats 1600000 in
theorem l7Var_any (s : Lst) (n : Nat) (As Ar : Option Addr) (cs cr k : Nat) (val : Int) (w : World) (p1 : s.n ≤ 5) (hk : k ≤ s.n) (hv : 0 ≤ val ∧ val ≤ 3) (hok : prE (fun i => betB 0 3 (s.x i)) s.n = true) (hs : RdI w w.heap.size As s.n s.x) :
    Calls Try.prog 61 #[.agg #[.slice As s.n cs, .slice Ar n cr], .int .i64 k, .int .i64 val] w fun e w' => e = .returned (.int .i64 (1 + val + tS s.x k)) ∧ Below w.heap.size w w' := by
  obtain ⟨sn, x⟩ := s
  simp only at p1 hk hok hs ⊢
  have HA := Lib.hid (bl_alloc (Below.refl w.heap.size w))
  have hr1 := hs.later (HA.out (.cells #[.slice As sn cs, .slice Ar n cr] 26))
  have HOk := Lib.hid hok
  clear hs hok
  obtain ⟨hv0, hv3⟩ := hv
  go_enter Try.func61, Try.ntmps61
  go_wp2
  have a0 : (w.alloc (.cells #[.slice As sn cs, .slice Ar n cr] 26)).cell? ⟨w.heap.size, 0, none⟩ = some (.slice As sn cs) := by go_simp
  have HB := Lib.hid (HA.out (.cells #[.slice As sn cs, .slice Ar n cr] 26))
  clear HA
  generalize (w.alloc (.cells #[.slice As sn cs, .slice Ar n cr] 26)) = w1 at *
  go_loopw [7, 8] (fun t i wr => ∃ j : Nat, j ≤ k ∧ i = .int .i64 j ∧ t = .int .i64 (1 + val + tS x j) ∧ Below w1.heap.size w1 wr) (fun _ i _ => k - (intOf i).toNat)
  case atStart => exact ⟨0, Nat.zero_le _, rfl, by show _ = Value.int .i64 (1 + val + 0); simp, Below.refl _ _⟩
  case round =>
    obtain ⟨j, hj, rfl, rfl, hb⟩ := hrel
    replace a0 := kc hb a0
    have hok := prE_le HOk.out (show j ≤ sn by omega)
    obtain ⟨tb0, tb1⟩ := tS_bd hok
    clear hok
    by_cases hlt : j < k
    · have hx := size_at (s := ⟨sn, x⟩) HOk.out (show j < sn by omega)
      simp only at hx
      obtain ⟨hx0, hx3⟩ := hx
      obtain ⟨b, off, rfl, hbl, hc⟩ := (hr1.below hb) (by omega)
      have hc1 := hc j (by omega)
      clear hc hr1
      have hlt' : (j : Int) < (k : Int) := by omega
      have hjs : (j : Int) < (sn : Int) := by omega
      have hj0 : (0 : Int) ≤ (j : Int) := by omega
      have Hs := Lib.hid (show (1 + val + tS x j) + x j + 1 = 1 + val + tS x (j + 1) from by show _ = 1 + val + (tS x j + x j + 1); omega)
      obtain ⟨z, hz⟩ : ∃ z, 1 + val + tS x j = z := ⟨_, rfl⟩
      rw [hz] at Hs ⊢
      have hz0 : 0 ≤ z ∧ z ≤ 100 := by omega
      clear hz tb0 tb1
      obtain ⟨hz0, hz1⟩ := hz0
      go_wp2
      go_roundw
      case rel => exact ⟨j + 1, by omega, by go_num, by first | rw [Hs.out] | (rw [← Hs.out]; try simp), hb⟩
      case measure => simp [intOf]; omega
    · have e : j = k := by omega
      subst e
      go_wp2
      go_ret
      exact ⟨rfl, bl_trans HB.out hb⟩

/-- What BoolVar answers. -/
def bvI (s : Lst) (n : Nat) (q : Nat → Rul) (cell val : Int) : Int := if modB s n q && hvB s cell val then 1 + val + tS s.x cell.toNat else 0
/-- What FreeVars answers. -/
def fvI (s : Lst) (n : Nat) (q : Nat → Rul) : Int := if modB s n q then 12 - tS s.x s.n else 0
theorem ite_no {b : Bool} {x y : Int} (h : b = false) : (if b then x else y) = y := by rw [h]; rfl
theorem ite_yes {b : Bool} {x y : Int} (h : b = true) : (if b then x else y) = x := by rw [h]; rfl
theorem bv_no {s : Lst} {n : Nat} {q : Nat → Rul} {cell val : Int} (h : hvB s cell val = false) : bvI s n q cell val = 0 := by unfold bvI; rw [h]; simp
theorem bv_bad {s : Lst} {n : Nat} {q : Nat → Rul} {cell val : Int} (h : modB s n q = false) : bvI s n q cell val = 0 := by unfold bvI; rw [h]; simp
theorem bv_yes {s : Lst} {n : Nat} {q : Nat → Rul} {cell val : Int} (h : modB s n q = true) (h2 : hvB s cell val = true) : bvI s n q cell val = 1 + val + tS s.x cell.toNat := by unfold bvI; rw [h, h2]; simp

set_option maxRecDepth 100000 in
set_option maxHeartbeats 1600000 in
theorem specBool_any (s : Lst) (n : Nat) (q : Nat → Rul) (As Ar : Option Addr) (cs cr : Nat) (cell val : Int) (w : World) (p1 : s.n ≤ 1048576) (p3 : n ≤ 1048576) (p4 : ∀ i, i < n → (q i).fit 1048576) (hs : RdI w w.heap.size As s.n s.x) (hr : RdRs w w.heap.size Ar n q) :
    Calls Try.prog 22 #[.agg #[.slice As s.n cs, .slice Ar n cr], .int .i64 cell, .int .i64 val] w fun e w' => e = .returned (.int .i64 (bvI s n q cell val)) ∧ Below w.heap.size w w' := by
  have HS := Lib.hid hs
  have HR := Lib.hid hr
  have P4 := Lib.hid p4
  clear hs hr p4
  have HA := Lib.hid (bl_alloc (Below.refl w.heap.size w))
  go_enter Try.func22, Try.ntmps22
  go_wp2_with fail
  have a0 : (w.alloc (.cells #[.slice As s.n cs, .slice Ar n cr] 26)).cell? ⟨w.heap.size, 0, none⟩ = some (.slice As s.n cs) := by go_simp
  have a1 : (w.alloc (.cells #[.slice As s.n cs, .slice Ar n cr] 26)).cell? ⟨w.heap.size, 1, none⟩ = some (.slice Ar n cr) := by go_simp
  have HB := Lib.hid (HA.out (.cells #[.slice As s.n cs, .slice Ar n cr] 26))
  clear HA
  generalize (w.alloc (.cells #[.slice As s.n cs, .slice Ar n cr] 26)) = w1 at *
  refine (specValidM_any s n q _ _ _ _ _ p1 p3 P4.out (HS.out.later HB.out) (HR.out.later HB.out)).mono ?_
  rintro e w2 ⟨rfl, hb⟩
  have HB2 := Lib.hid (bl_trans HB.out hb)
  replace a0 := kc hb a0
  replace a1 := kc hb a1
  clear hb HB
  cases hm : modB s n q with
  | false =>
    have He := Lib.hid (bv_bad (cell := cell) (val := val) hm)
    clear hm
    go_wp2
    go_ret
    exact ⟨ret_int He.out.symm, HB2.out⟩
  | true =>
    have He := Lib.hid (bv_yes (cell := cell) (val := val) hm)
    have Hno := Lib.hid (fun h => bv_no (s := s) (n := n) (q := q) (cell := cell) (val := val) h)
    obtain ⟨m1, m2, m3, m4, -, -⟩ := mod_parts hm
    have M3 := Lib.hid m3
    clear hm
    by_cases q1 : cell < 0
    · have Hz := Lib.hid (Hno.out (by unfold hvB; simp [show ¬ 0 ≤ cell by omega]))
      go_wp2
      go_ret
      exact ⟨ret_int Hz.out.symm, HB2.out⟩
    by_cases q2 : (s.n : Int) ≤ cell
    · have Hz := Lib.hid (Hno.out (by unfold hvB; simp [show ¬ cell < s.n by omega]))
      go_wp2
      go_ret
      exact ⟨ret_int Hz.out.symm, HB2.out⟩
    obtain ⟨k, rfl⟩ : ∃ k : Nat, cell = (k : Int) := ⟨cell.toNat, by omega⟩
    have hk : k < s.n := by omega
    obtain ⟨b, off, rfl, hbl, hc⟩ := (HS.out.later HB2.out) (by omega)
    have hc1 := hc k hk
    have hx := size_at M3.out hk
    have hvk := Lib.hid (hvB_bet hk val)
    clear hc q1 q2 m3
    have hk0 : (0 : Int) ≤ (k : Int) := by omega
    have hk1 : (k : Int) < (s.n : Int) := by omega
    by_cases q3 : val < 0
    · have Hz := Lib.hid (Hno.out (by rw [hvk.out]; simp [betB, show ¬ 0 ≤ val by omega]))
      clear hx
      go_wp2
      go_ret
      exact ⟨ret_int Hz.out.symm, HB2.out⟩
    by_cases q4 : s.x k < val
    · have Hz := Lib.hid (Hno.out (by rw [hvk.out]; simp [betB, show ¬ val ≤ s.x k by omega]))
      clear hx
      go_wp2
      go_ret
      exact ⟨ret_int Hz.out.symm, HB2.out⟩
    have Hy := Lib.hid (He.out (by rw [hvk.out]; simp [betB]; omega))
    have hv3 : 0 ≤ val ∧ val ≤ 3 := by omega
    clear hx
    go_wp2_with fail
    refine (l7Var_any s n _ _ _ _ k val _ m2 (by omega) hv3 M3.out (HS.out.later HB2.out)).mono ?_
    rintro e w3 ⟨rfl, hb⟩
    have HB3 := Lib.hid (bl_trans HB2.out hb)
    clear hb
    go_wp2
    go_ret
    exact ⟨ret_int (by rw [Hy.out]; rfl), HB3.out⟩
end Go.Proofs.Ythjcbaccoogloaa

namespace Go.Proofs.Ythjcbaccoogloaa
open Go.ChangeShapes Go.WideShapes Go.ChangeAt Go.RowKit

theorem gI_vlst {v : Nat → Int} {n i : Nat} (h : i < n) : gI (vlst v n) i = v i := by
  unfold gI
  rw [List.getD_eq_getElem?_getD, vlst_get v h]
  rfl
theorem row_lit {W : World} {T : TypeId} (X : Int) : RowAt W W.heap.size T [] [X] (.slice (some ⟨W.heap.size, 0, none⟩) 1 1) (W.alloc (.cells #[.int .i64 X] T)) :=
  ⟨⟨rfl, .inr ⟨W.heap.size, 1, #[.int .i64 X], rfl, Nat.le_refl _, heap_alloc_new _ _, Nat.le_refl _, by unfold maxLen; omega, rfl, rfl⟩⟩,
    fun x hx => (by cases hx), bl_alloc (Below.refl _ _) _, Nat.le_refl _, by simp⟩
theorem FrI.far' {w : World} {B n : Nat} {T : TypeId} {A : Option Addr} {v : Nat → Int} (h : FrI w B T A n v) {p : Addr} (hp : p.block < B) (u : Value) : FrI (w.setCell p u) B T A n v := by
  rcases h with h | ⟨G, e, hG, h⟩
  · exact .inl h
  · exact .inr ⟨G, e, hG, h.at_ (Below.heap_setCell w p u G (by omega))⟩
theorem FrI.congr {w : World} {B n : Nat} {T : TypeId} {A : Option Addr} {v v' : Nat → Int} (h : FrI w B T A n v) (e : ∀ i, i < n → v i = v' i) : FrI w B T A n v' := by
  rcases h with h | ⟨G, e1, hG, cs, hh, h1, h2⟩
  · exact .inl h
  · exact .inr ⟨G, e1, hG, cs, hh, h1, fun i hi => by rw [← e i hi]; exact h2 i hi⟩

set_option maxRecDepth 100000 in
set_option maxHeartbeats 1600000 in
theorem newEnc_any (s : Lst) (n : Nat) (As Ar : Option Addr) (cs cr : Nat) (w : World) (p1 : s.n ≤ 5) (hok : prE (fun i => betB 0 3 (s.x i)) s.n = true) (hs : RdI w w.heap.size As s.n s.x) :
    Calls Try.prog 59 #[.agg #[.slice As s.n cs, .slice Ar n cr]] w fun e w' => ∃ A cap, e = .returned (.agg #[.slice As s.n cs, .slice Ar n cr, .slice A (s.n + 1) cap]) ∧ FrI w' w.heap.size 3 A (s.n + 1) (tS s.x) ∧ Below w.heap.size w w' := by
  obtain ⟨sn, x⟩ := s
  simp only at p1 hok hs ⊢
  have hb2 := bl_alloc (bl_alloc (Below.refl w.heap.size w) (.cells #[.slice As sn cs, .slice Ar n cr] 26)) (.cells #[.slice none 0 0, .slice none 0 0, .slice none 0 0] 86)
  have a0 : ((w.alloc (.cells #[.slice As sn cs, .slice Ar n cr] 26)).alloc (.cells #[.slice none 0 0, .slice none 0 0, .slice none 0 0] 86)).cell? ⟨w.heap.size, 0, none⟩ = some (.slice As sn cs) := by go_simp
  have a1 : ((w.alloc (.cells #[.slice As sn cs, .slice Ar n cr] 26)).alloc (.cells #[.slice none 0 0, .slice none 0 0, .slice none 0 0] 86)).cell? ⟨w.heap.size, 1, none⟩ = some (.slice Ar n cr) := by go_simp
  have e0 : ((w.alloc (.cells #[.slice As sn cs, .slice Ar n cr] 26)).alloc (.cells #[.slice none 0 0, .slice none 0 0, .slice none 0 0] 86)).cell? ⟨w.heap.size + 1, 0, none⟩ = some (.slice none 0 0) := by go_simp
  have e1 : ((w.alloc (.cells #[.slice As sn cs, .slice Ar n cr] 26)).alloc (.cells #[.slice none 0 0, .slice none 0 0, .slice none 0 0] 86)).cell? ⟨w.heap.size + 1, 1, none⟩ = some (.slice none 0 0) := by go_simp
  have e2 : ((w.alloc (.cells #[.slice As sn cs, .slice Ar n cr] 26)).alloc (.cells #[.slice none 0 0, .slice none 0 0, .slice none 0 0] 86)).cell? ⟨w.heap.size + 1, 2, none⟩ = some (.slice none 0 0) := by go_simp
  have g0 : ((w.alloc (.cells #[.slice As sn cs, .slice Ar n cr] 26)).alloc (.cells #[.slice none 0 0, .slice none 0 0, .slice none 0 0] 86)).frozen? ⟨w.heap.size + 1, 0, none⟩ = false := by go_simp
  have g1 : ((w.alloc (.cells #[.slice As sn cs, .slice Ar n cr] 26)).alloc (.cells #[.slice none 0 0, .slice none 0 0, .slice none 0 0] 86)).frozen? ⟨w.heap.size + 1, 1, none⟩ = false := by go_simp
  have g2 : ((w.alloc (.cells #[.slice As sn cs, .slice Ar n cr] 26)).alloc (.cells #[.slice none 0 0, .slice none 0 0, .slice none 0 0] 86)).frozen? ⟨w.heap.size + 1, 2, none⟩ = false := by go_simp
  have hsz : ((w.alloc (.cells #[.slice As sn cs, .slice Ar n cr] 26)).alloc (.cells #[.slice none 0 0, .slice none 0 0, .slice none 0 0] 86)).heap.size = w.heap.size + 1 + 1 := by simp
  have HSz := Lib.hid hsz
  have HB := Lib.hid hb2
  have HS := Lib.hid (hs.later hb2)
  have HOk := Lib.hid hok
  clear hs hok hb2 hsz
  go_enter Try.func59, Try.ntmps59
  go_wp2
  generalize ((w.alloc (.cells #[.slice As sn cs, .slice Ar n cr] 26)).alloc (.cells #[.slice none 0 0, .slice none 0 0, .slice none 0 0] 86)) = W2 at *
  rw [← HSz.out]
  have Row0 := Lib.hid (row_lit (W := W2) (T := 3) 0)
  go_loopw [3, 10] (fun o i wr => ∃ (k : Nat) (ov : Value), ov = o ∧ k ≤ sn ∧ i = .int .i64 k ∧ RowAt W2 W2.heap.size 3 [] (vlst (tS x) (k + 1)) ov wr) (fun _ i _ => sn - (intOf i).toNat)
  case atStart => exact ⟨0, _, rfl, Nat.zero_le _, rfl, Row0.out⟩
  case round =>
    obtain ⟨k, ov, rfl, hk, rfl, hrow⟩ := hrel
    have Row := Lib.hid hrow
    have hb := hrow.bel
    replace a0 := kc hb a0
    replace a1 := kc hb a1
    replace e0 := kc hb e0
    replace e1 := kc hb e1
    replace e2 := kc hb e2
    replace g0 := kf hb (by show w.heap.size + 1 < _; rw [HSz.out]; omega) g0
    replace g1 := kf hb (by show w.heap.size + 1 < _; rw [HSz.out]; omega) g1
    replace g2 := kf hb (by show w.heap.size + 1 < _; rw [HSz.out]; omega) g2
    by_cases hlt : k < sn
    · have hx := size_at (s := ⟨sn, x⟩) HOk.out hlt
      simp only at hx
      obtain ⟨hx0, hx3⟩ := hx
      obtain ⟨tb0, tb1⟩ := tS_bd (prE_le HOk.out (show k ≤ sn by omega))
      obtain ⟨b, off, rfl, hbl, hc⟩ := (HS.out.later hb) (by omega)
      have hc1 := hc k hlt
      obtain ⟨A2, cap2, hov, hF⟩ := hrow.fr
      rw [vlst_length] at hov hF
      subst hov
      obtain ⟨b2, off2, rfl, hbl2, hc2⟩ := hF.rdAt (by omega)
      have hc3 := hc2 k (by omega)
      rw [gI_vlst (by omega)] at hc3
      have hlt' : (k : Int) < (sn : Int) := by omega
      have hlt2 : (k : Int) < (k : Int) + 1 := by omega
      have hk0 : (0 : Int) ≤ (k : Int) := by omega
      have Hs := Lib.hid (show vlst (tS x) (k + 1) ++ [tS x k + x k + 1] = vlst (tS x) (k + 1 + 1) from rfl)
      have hle : (vlst (tS x) (k + 1)).length ≤ 1048576 := by rw [vlst_length]; omega
      have hlen : (vlst (tS x) (k + 1)).length = k + 1 := vlst_length _ _
      have Hlen := Lib.hid hlen
      have Hle := Lib.hid hle
      clear hc hc2 hrow hF hb hle hlen
      obtain ⟨z, hz⟩ : ∃ z, tS x k = z := ⟨_, rfl⟩
      rw [hz] at hc3 tb0 tb1 Hs
      have htb : z ≤ 100 := by omega
      clear hz tb1
      go_wp2_with (at_builtin; refine wpList_plain (by rfl) fun K' hK' => ?_; refine wp_rowI _ _ 23 (by rfl) Try.underlying23 Try.infoInt Row.out (bl_alloc (Below.refl _ _) _) (by rfl) (by rfl) (heap_alloc_new _ _) Hle.out ?_; intro gg cap1 w3 hout; refine hK' _ _ ?_; clear hK' K')
      rw [Hs.out] at hout
      go_roundw
      case rel => exact ⟨k + 1, _, rfl, by omega, by go_num, hout⟩
      case measure => simp [intOf]; omega
    · have e : k = sn := by omega
      subst e
      obtain ⟨A2, cap2, hov, hF⟩ := hrow.fr
      rw [vlst_length] at hov hF
      subst hov
      clear hrow Row0
      have HF := Lib.hid hF
      have HB2 := Lib.hid (HB.out.trans (hb.mono (by rw [HSz.out]; omega)))
      clear hF hb HB
      go_wp2
      refine bodyPost_ret (v := .agg #[.slice As k cs, .slice Ar n cr, .slice A2 (k + 1) cap2]) (by simp [results, Try.results59, go_sem, e0, e1, e2]) rfl ?_
      have hp : w.heap.size + 1 < W2.heap.size := by rw [HSz.out]; omega
      refine ⟨A2, cap2, rfl, ?_, ?_⟩
      · exact (((HF.out.congr (v' := tS x) (fun i hi => gI_vlst hi)).far' (p := ⟨w.heap.size + 1, 0, none⟩) hp _).far' (p := ⟨w.heap.size + 1, 1, none⟩) hp _).far' (p := ⟨w.heap.size + 1, 2, none⟩) hp _ |>.more (by omega)
      · exact ((HB2.out.setCell (p := ⟨w.heap.size + 1, 0, none⟩) (by show w.heap.size ≤ w.heap.size + 1; omega) _).setCell (p := ⟨w.heap.size + 1, 1, none⟩) (by show w.heap.size ≤ w.heap.size + 1; omega) _).setCell (p := ⟨w.heap.size + 1, 2, none⟩) (by show w.heap.size ≤ w.heap.size + 1; omega) _

set_option maxHeartbeats 800000 in
/-- A variable of an encoder, its starts at A. -/
theorem encVar_any (As Ar A : Option Addr) (sn cs n cr m cap : Nat) (v : Nat → Int) (k : Nat) (val : Int) (w : World) (hm : m ≤ 1048576) (hk : k < m) (hv : 0 ≤ val ∧ val ≤ 1000) (hx : 0 ≤ v k ∧ v k ≤ 1000) (hr : RdI w w.heap.size A m v) :
    Calls Try.prog 60 #[.agg #[.slice As sn cs, .slice Ar n cr, .slice A m cap], .int .i64 k, .int .i64 val] w fun e w' => e = .returned (.int .i64 (1 + val + v k)) ∧ Below w.heap.size w w' := by
  have HA := Lib.hid (bl_alloc (Below.refl w.heap.size w) (.cells #[.slice As sn cs, .slice Ar n cr, .slice A m cap] 86))
  obtain ⟨b, off, rfl, hbl, hc⟩ := (hr.later HA.out) (by omega)
  have hc1 := hc k hk
  clear hc hr
  obtain ⟨z, hz⟩ : ∃ z, v k = z := ⟨_, rfl⟩
  rw [hz] at hx hc1 ⊢
  obtain ⟨hx0, hx1⟩ := hx
  obtain ⟨hv0, hv1⟩ := hv
  have hk1 : (k : Int) < (m : Int) := by omega
  have hk0 : (0 : Int) ≤ (k : Int) := by omega
  clear hz hk
  go_enter Try.func60, Try.ntmps60
  go_wp2
  go_ret
  exact ⟨ret_int (by omega), HA.out⟩
end Go.Proofs.Ythjcbaccoogloaa

namespace Go.Proofs.Ythjcbaccoogloaa
open Go.ChangeShapes Go.WideShapes Go.ChangeAt Go.RowKit

/-- The values of the cells of a list. -/
def pk (v : Lst) (c : Nat → Int) (i : Nat) : Int := c (v.x i).toNat
def linS (a p : Nat → Int) : Nat → Int
  | 0 => 0
  | k + 1 => linS a p k + a k * p k
/-- Cells satisfy a rule. -/
def holdB (q : Rul) (c : Nat → Int) : Bool := if q.k = 1 then decide (q.bd ≤ linS q.c.x (pk q.v c) q.v.n) else if q.k = 2 then prE (newB (pk q.v c)) q.v.n else if q.k = 4 then decide (pk q.v c 0 < pk q.v c 1) else anyQ (fun j => lsE (q.r j) ⟨q.v.n, pk q.v c⟩) q.n

/-- What a valid rule is. -/
structure RuleOk (cells : Nat) (q : Rul) : Prop where
  len : 1 ≤ q.v.n
  at_ : ∀ i, i < q.v.n → 0 ≤ q.v.x i ∧ q.v.x i < cells
  kind : q.k = 1 ∨ q.k = 2 ∨ q.k = 3 ∨ q.k = 4
  lin : q.k = 1 → q.c.n = q.v.n ∧ ∀ i, i < q.c.n → -9 ≤ q.c.x i ∧ q.c.x i ≤ 9
  two : q.k = 4 → q.v.n = 2
theorem rule_ok {cells : Nat} {q : Rul} (h : ruleB cells q = true) : RuleOk cells q := by
  unfold ruleB at h
  simp only [Bool.and_eq_true] at h
  obtain ⟨hv, h1, h2, hk⟩ := h
  unfold varB at hv
  simp only [Bool.and_eq_true, decide_eq_true_eq] at hv
  unfold kindB at hk
  refine ⟨hv.2, fun i hi => ?_, ?_, fun e => ?_, fun e => ?_⟩
  · have := prE_at hv.1 hi
    simp [betB] at this
    omega
  · by_cases k1 : q.k = 1
    · exact .inl k1
    by_cases k2 : q.k = 2
    · exact .inr (.inl k2)
    by_cases k3 : q.k = 3
    · exact .inr (.inr (.inl k3))
    by_cases k4 : q.k = 4
    · exact .inr (.inr (.inr k4))
    · simp [k1, k2, k3, k4] at hk
  · rw [if_pos e] at hk
    unfold linB at hk
    simp only [Bool.and_eq_true, beq_iff_eq] at hk
    refine ⟨hk.2.1, fun i hi => ?_⟩
    have := prE_at hk.1 hi
    simp [wtB] at this
    omega
  · rw [if_neg (by omega), if_neg (by omega), if_neg (by omega), if_pos e] at hk
    simpa using hk
/-- Cells are values: each between 0 and 3. -/
def CelV (m : Nat) (c : Nat → Int) : Prop := ∀ i, i < m → 0 ≤ c i ∧ c i ≤ 3
theorem pk_bd {cells : Nat} {q : Rul} {c : Nat → Int} (h : RuleOk cells q) (hc : CelV cells c) {i : Nat} (hi : i < q.v.n) : 0 ≤ pk q.v c i ∧ pk q.v c i ≤ 3 := by
  obtain ⟨h0, h1⟩ := h.at_ i hi
  exact hc _ (by omega)
theorem lin_bd {a p : Nat → Int} {k : Nat} (ha : ∀ i, i < k → -9 ≤ a i ∧ a i ≤ 9) (hp : ∀ i, i < k → 0 ≤ p i ∧ p i ≤ 3) : -27 * (k : Int) ≤ linS a p k ∧ linS a p k ≤ 27 * k := by
  induction k with
  | zero => exact ⟨Int.le_refl _, Int.le_refl _⟩
  | succ k ih =>
    obtain ⟨h1, h2⟩ := ih (fun i hi => ha i (by omega)) (fun i hi => hp i (by omega))
    obtain ⟨a1, a2⟩ := ha k (by omega)
    obtain ⟨b1, b2⟩ := hp k (by omega)
    unfold linS
    have e : -27 ≤ a k * p k ∧ a k * p k ≤ 27 := by
      have : p k = 0 ∨ p k = 1 ∨ p k = 2 ∨ p k = 3 := by omega
      rcases this with h | h | h | h <;> rw [h] <;> omega
    omega
theorem mul_bd {x y : Int} (hx : -9 ≤ x ∧ x ≤ 9) (hy : 0 ≤ y ∧ y ≤ 3) : -27 ≤ x * y ∧ x * y ≤ 27 := by
  have : y = 0 ∨ y = 1 ∨ y = 2 ∨ y = 3 := by omega
  rcases this with h | h | h | h <;> rw [h] <;> omega
theorem cels_cel {s c : Lst} (h : celsB s c = true) (hs : prE (fun i => betB 0 3 (s.x i)) s.n = true) : c.n = s.n ∧ CelV s.n c.x := by
  unfold celsB at h
  simp only [Bool.and_eq_true, beq_iff_eq] at h
  refine ⟨h.1, fun i hi => ?_⟩
  have h1 := prE_at h.2 hi
  have h2 := size_at hs hi
  simp [betB] at h1
  omega
end Go.Proofs.Ythjcbaccoogloaa

namespace Go.Proofs.Ythjcbaccoogloaa
open Go.ChangeShapes Go.WideShapes Go.ChangeAt Go.RowKit

/-- Element i of the array of the values of n cells. -/
def cvV (n : Nat) (c : Nat → Int) (i : Nat) : Int := if i < n then c i else 0
/-- Five values as an array. -/
def arr5 (u : Nat → Int) : Value := .agg #[.int .i64 (u 0), .int .i64 (u 1), .int .i64 (u 2), .int .i64 (u 3), .int .i64 (u 4)]
theorem row5 {n i : Nat} (c : Nat → Int) (hi : i < 5) :
    ((#[Value.int .i64 0, .int .i64 0, .int .i64 0, .int .i64 0, .int .i64 0] : Array Value).toList.take 0 ++ ((vlst c n).map vI ++ (#[Value.int .i64 0, .int .i64 0, .int .i64 0, .int .i64 0, .int .i64 0] : Array Value).toList.drop (0 + ((vlst c n).map vI).length))).toArray[i]? = some (.int .i64 (cvV n c i)) := by
  have hl : ((vlst c n).map vI).length = n := by rw [List.length_map, vlst_length]
  rw [hl, List.getElem?_toArray, List.take_zero, List.nil_append, Nat.zero_add]
  unfold cvV
  by_cases h : i < n
  · rw [if_pos h, List.getElem?_append_left (by omega), List.getElem?_map, vlst_get c h]
    rfl
  · rw [if_neg h, List.getElem?_append_right (by omega), hl, List.getElem?_drop, show n + (i - n) = i by omega]
    have : i = 0 ∨ i = 1 ∨ i = 2 ∨ i = 3 ∨ i = 4 := by omega
    rcases this with rfl | rfl | rfl | rfl | rfl <;> rfl
theorem cell_set5 {w : World} {g i : Nat} {cs cs0 : Array Value} {t : TypeId} {u : Value} (h : w.heap[g]? = some (.cells cs0 t (0, 0))) (hu : cs[i]? = some u) : (w.setRow g cs).cell? ⟨g, i, none⟩ = some u := by
  have := setRow_heap w g cs0 cs t (0, 0) h
  exact (cell_of_row _ g i cs _ _ this).trans hu
theorem len_vlst (c : Nat → Int) (n : Nat) : ((vlst c n).map vI).length = n := by rw [List.length_map, vlst_length]
theorem fit5 (c : Nat → Int) {n : Nat} (hn : n ≤ 5) : 0 + ((vlst c n).map vI).length ≤ (#[Value.int .i64 0, .int .i64 0, .int .i64 0, .int .i64 0, .int .i64 0] : Array Value).size := by rw [len_vlst]; show 0 + n ≤ 5; omega
theorem one_vlst (c : Nat → Int) (n : Nat) : ∀ v ∈ (vlst c n).map vI, v.oneCell' = true := by
  intro v hv
  obtain ⟨x, _, rfl⟩ := List.mem_map.1 hv
  rfl
theorem src_vlst {w : World} {b off n : Nat} {c : Nat → Int} (h : ∀ i, i < n → w.cell? ⟨b, off + i, none⟩ = some (.int .i64 (c i))) : ∀ j v, ((vlst c n).map vI)[j]? = some v → w.cell? ((⟨b, off, none⟩ : Addr).add j) = some v := by
  intro j v hj
  rw [List.getElem?_map] at hj
  by_cases hlt : j < n
  · rw [vlst_get c hlt] at hj
    injection hj with hj
    subst hj
    have := h j hlt
    unfold Addr.add
    by_cases e : j = 0
    · subst e; rw [if_pos rfl]; rw [Nat.add_zero] at this; exact this
    · rw [if_neg e]; exact this
  · rw [List.getElem?_eq_none (by rw [vlst_length]; omega)] at hj
    cases hj

set_option maxRecDepth 100000 in
set_option maxHeartbeats 1600000 in
theorem cvo_any (n cap : Nat) (A : Option Addr) (c : Nat → Int) (w : World) (hn : n ≤ 5) (hn1 : 1 ≤ n) (hr : RdI w w.heap.size A n c) :
    Calls Try.prog 46 #[.slice A n cap] w fun e w' => e = .returned (arr5 (cvV n c)) ∧ Below w.heap.size w w' := by
  have hb1 := bl_alloc (bl_alloc (Below.refl w.heap.size w) (.cells #[.int .i64 0, .int .i64 0, .int .i64 0, .int .i64 0, .int .i64 0] 71)) (.cells #[.int .i64 0, .int .i64 0, .int .i64 0, .int .i64 0, .int .i64 0] 71)
  obtain ⟨b, off, rfl, hbl, hc⟩ := (hr.later hb1) (by omega)
  have HC := Lib.hid hc
  have HB := Lib.hid hb1
  have hh : ((w.alloc (.cells #[.int .i64 0, .int .i64 0, .int .i64 0, .int .i64 0, .int .i64 0] 71)).alloc (.cells #[.int .i64 0, .int .i64 0, .int .i64 0, .int .i64 0, .int .i64 0] 71)).heap[w.heap.size + 1]? = some (.cells #[.int .i64 0, .int .i64 0, .int .i64 0, .int .i64 0, .int .i64 0] 71 (0, 0)) := by
    have := heap_alloc_new (w.alloc (.cells #[.int .i64 0, .int .i64 0, .int .i64 0, .int .i64 0, .int .i64 0] 71)) (.cells #[.int .i64 0, .int .i64 0, .int .i64 0, .int .i64 0, .int .i64 0] 71)
    simpa using this
  have HH := Lib.hid hh
  have HS := Lib.hid (fun i (hi : i < 5) => cell_set5 hh (row5 (n := n) c hi))
  have HU := Lib.hid (fun r => below_setRow (Below.refl (w.heap.size + 1) ((w.alloc (.cells #[.int .i64 0, .int .i64 0, .int .i64 0, .int .i64 0, .int .i64 0] 71)).alloc (.cells #[.int .i64 0, .int .i64 0, .int .i64 0, .int .i64 0, .int .i64 0] 71))) (Nat.le_refl _) r)
  have z0 : ((w.alloc (.cells #[.int .i64 0, .int .i64 0, .int .i64 0, .int .i64 0, .int .i64 0] 71)).alloc (.cells #[.int .i64 0, .int .i64 0, .int .i64 0, .int .i64 0, .int .i64 0] 71)).cell? ⟨w.heap.size, 0, none⟩ = some (.int .i64 0) := by go_simp
  have z1 : ((w.alloc (.cells #[.int .i64 0, .int .i64 0, .int .i64 0, .int .i64 0, .int .i64 0] 71)).alloc (.cells #[.int .i64 0, .int .i64 0, .int .i64 0, .int .i64 0, .int .i64 0] 71)).cell? ⟨w.heap.size, 1, none⟩ = some (.int .i64 0) := by go_simp
  have z2 : ((w.alloc (.cells #[.int .i64 0, .int .i64 0, .int .i64 0, .int .i64 0, .int .i64 0] 71)).alloc (.cells #[.int .i64 0, .int .i64 0, .int .i64 0, .int .i64 0, .int .i64 0] 71)).cell? ⟨w.heap.size, 2, none⟩ = some (.int .i64 0) := by go_simp
  have z3 : ((w.alloc (.cells #[.int .i64 0, .int .i64 0, .int .i64 0, .int .i64 0, .int .i64 0] 71)).alloc (.cells #[.int .i64 0, .int .i64 0, .int .i64 0, .int .i64 0, .int .i64 0] 71)).cell? ⟨w.heap.size, 3, none⟩ = some (.int .i64 0) := by go_simp
  have z4 : ((w.alloc (.cells #[.int .i64 0, .int .i64 0, .int .i64 0, .int .i64 0, .int .i64 0] 71)).alloc (.cells #[.int .i64 0, .int .i64 0, .int .i64 0, .int .i64 0, .int .i64 0] 71)).cell? ⟨w.heap.size, 4, none⟩ = some (.int .i64 0) := by go_simp
  have f0 : ((w.alloc (.cells #[.int .i64 0, .int .i64 0, .int .i64 0, .int .i64 0, .int .i64 0] 71)).alloc (.cells #[.int .i64 0, .int .i64 0, .int .i64 0, .int .i64 0, .int .i64 0] 71)).frozen? ⟨w.heap.size, 0, none⟩ = false := by go_simp
  have f1 : ((w.alloc (.cells #[.int .i64 0, .int .i64 0, .int .i64 0, .int .i64 0, .int .i64 0] 71)).alloc (.cells #[.int .i64 0, .int .i64 0, .int .i64 0, .int .i64 0, .int .i64 0] 71)).frozen? ⟨w.heap.size, 1, none⟩ = false := by go_simp
  have f2 : ((w.alloc (.cells #[.int .i64 0, .int .i64 0, .int .i64 0, .int .i64 0, .int .i64 0] 71)).alloc (.cells #[.int .i64 0, .int .i64 0, .int .i64 0, .int .i64 0, .int .i64 0] 71)).frozen? ⟨w.heap.size, 2, none⟩ = false := by go_simp
  have f3 : ((w.alloc (.cells #[.int .i64 0, .int .i64 0, .int .i64 0, .int .i64 0, .int .i64 0] 71)).alloc (.cells #[.int .i64 0, .int .i64 0, .int .i64 0, .int .i64 0, .int .i64 0] 71)).frozen? ⟨w.heap.size, 3, none⟩ = false := by go_simp
  have f4 : ((w.alloc (.cells #[.int .i64 0, .int .i64 0, .int .i64 0, .int .i64 0, .int .i64 0] 71)).alloc (.cells #[.int .i64 0, .int .i64 0, .int .i64 0, .int .i64 0, .int .i64 0] 71)).frozen? ⟨w.heap.size, 4, none⟩ = false := by go_simp
  clear hc hb1 hr hh
  go_enter Try.func46, Try.ntmps46
  go_wp2_with (with_reducible show wpList _ _ _ _ _ _; with_reducible refine wpList_copy_own rfl (.tmp 4) (.tmp 5) 23 23 rfl 3 Try.underlying23 (by kernel_rfl) (w.heap.size + 1) 0 5 5 ⟨b, off, none⟩ n cap rfl rfl _ _ HH.out ((vlst c n).map vI) ((len_vlst c n).trans (Nat.min_eq_left hn).symm) (src_vlst HC.out) (fit5 c hn) (one_vlst c n) ?_; have s0 := HS.out 0 (by omega); have s1 := HS.out 1 (by omega); have s2 := HS.out 2 (by omega); have s3 := HS.out 3 (by omega); have s4 := HS.out 4 (by omega); have hU := HU.out ((#[Value.int .i64 0, .int .i64 0, .int .i64 0, .int .i64 0, .int .i64 0] : Array Value).toList.take 0 ++ ((vlst c n).map vI ++ (#[Value.int .i64 0, .int .i64 0, .int .i64 0, .int .i64 0, .int .i64 0] : Array Value).toList.drop (0 + ((vlst c n).map vI).length))).toArray; replace z0 := (hU.cell (p := ⟨w.heap.size, 0, none⟩) (Nat.lt_succ_self _)).trans z0; replace z1 := (hU.cell (p := ⟨w.heap.size, 1, none⟩) (Nat.lt_succ_self _)).trans z1; replace z2 := (hU.cell (p := ⟨w.heap.size, 2, none⟩) (Nat.lt_succ_self _)).trans z2; replace z3 := (hU.cell (p := ⟨w.heap.size, 3, none⟩) (Nat.lt_succ_self _)).trans z3; replace z4 := (hU.cell (p := ⟨w.heap.size, 4, none⟩) (Nat.lt_succ_self _)).trans z4; replace f0 := (hU.frozen (p := ⟨w.heap.size, 0, none⟩) (Nat.lt_succ_self _)).trans f0; replace f1 := (hU.frozen (p := ⟨w.heap.size, 1, none⟩) (Nat.lt_succ_self _)).trans f1; replace f2 := (hU.frozen (p := ⟨w.heap.size, 2, none⟩) (Nat.lt_succ_self _)).trans f2; replace f3 := (hU.frozen (p := ⟨w.heap.size, 3, none⟩) (Nat.lt_succ_self _)).trans f3; replace f4 := (hU.frozen (p := ⟨w.heap.size, 4, none⟩) (Nat.lt_succ_self _)).trans f4; have HB2 := Lib.hid (HB.out.trans (hU.mono (Nat.le_succ _))); clear hU HS HU HB HH HC; generalize ((w.alloc (.cells #[.int .i64 0, .int .i64 0, .int .i64 0, .int .i64 0, .int .i64 0] 71)).alloc (.cells #[.int .i64 0, .int .i64 0, .int .i64 0, .int .i64 0, .int .i64 0] 71)).setRow (w.heap.size + 1) ((#[Value.int .i64 0, .int .i64 0, .int .i64 0, .int .i64 0, .int .i64 0] : Array Value).toList.take 0 ++ ((vlst c n).map vI ++ (#[Value.int .i64 0, .int .i64 0, .int .i64 0, .int .i64 0, .int .i64 0] : Array Value).toList.drop (0 + ((vlst c n).map vI).length))).toArray = W5 at *)
  refine bodyPost_ret (v := arr5 (cvV n c)) (by simp [results, Try.results46, go_sem, z0, z1, z2, z3, z4, arr5]) rfl ?_
  refine ⟨rfl, ?_⟩
  exact ((((HB2.out.setCell (p := ⟨w.heap.size, 0, none⟩) (Nat.le_refl _) _).setCell (p := ⟨w.heap.size, 1, none⟩) (Nat.le_refl _) _).setCell (p := ⟨w.heap.size, 2, none⟩) (Nat.le_refl _) _).setCell (p := ⟨w.heap.size, 3, none⟩) (Nat.le_refl _) _).setCell (p := ⟨w.heap.size, 4, none⟩) (Nat.le_refl _) _
end Go.Proofs.Ythjcbaccoogloaa

namespace Go.Proofs.Ythjcbaccoogloaa
open Go.ChangeShapes Go.WideShapes Go.ChangeAt Go.RowKit

theorem at_cell {W : World} {H j : Nat} {u : Nat → Int} (h0 : W.cell? ⟨H, 0, none⟩ = some (.int .i64 (u 0))) (h1 : W.cell? ⟨H, 1, none⟩ = some (.int .i64 (u 1))) (h2 : W.cell? ⟨H, 2, none⟩ = some (.int .i64 (u 2))) (h3 : W.cell? ⟨H, 3, none⟩ = some (.int .i64 (u 3))) (h4 : W.cell? ⟨H, 4, none⟩ = some (.int .i64 (u 4))) (hj : j < 5) : W.cell? ⟨H, j, none⟩ = some (.int .i64 (u j)) := by
  have : j = 0 ∨ j = 1 ∨ j = 2 ∨ j = 3 ∨ j = 4 := by omega
  rcases this with rfl | rfl | rfl | rfl | rfl
  · exact h0
  · exact h1
  · exact h2
  · exact h3
  · exact h4

set_option maxRecDepth 100000 in
set_option maxHeartbeats 1600000 in
theorem at_any (v : Lst) (cap : Nat) (A : Option Addr) (u : Nat → Int) (w : World) (hn : v.n ≤ 1048576) (hx : ∀ i, i < v.n → 0 ≤ v.x i ∧ v.x i < 5) (hr : RdI w w.heap.size A v.n v.x) :
    Calls Try.prog 165 #[arr5 u, .slice A v.n cap] w fun e w' => ∃ G, e = .returned (.slice (some ⟨G, 0, none⟩) v.n v.n) ∧ w.heap.size ≤ G ∧ OwnI w' G v.n v.n (pk v u) ∧ Below w.heap.size w w' := by
  obtain ⟨n, x⟩ := v
  simp only at hn hx hr ⊢
  obtain ⟨i0, hi, hz0, hz1, hz2⟩ := info_parts Try.infoInt
  have hmk := fun W => run_make (P := Try.prog) W 23 3 i0 _ Try.underlying23 hi hz0 .i64 .i64 (n : Int) n (by omega) (by omega) (by rw [hz2]; omega) (by omega)
  rw [hz1] at hmk
  have HXx := Lib.hid hx
  have hb1 := bl_alloc (Below.refl w.heap.size w) (.cells #[.int .i64 (u 0), .int .i64 (u 1), .int .i64 (u 2), .int .i64 (u 3), .int .i64 (u 4)] 71)
  have HB := Lib.hid hb1
  have HR := Lib.hid (hr.later hb1)
  have a0 : (w.alloc (.cells #[.int .i64 (u 0), .int .i64 (u 1), .int .i64 (u 2), .int .i64 (u 3), .int .i64 (u 4)] 71)).cell? ⟨w.heap.size, 0, none⟩ = some (.int .i64 (u 0)) := by go_simp
  have a1 : (w.alloc (.cells #[.int .i64 (u 0), .int .i64 (u 1), .int .i64 (u 2), .int .i64 (u 3), .int .i64 (u 4)] 71)).cell? ⟨w.heap.size, 1, none⟩ = some (.int .i64 (u 1)) := by go_simp
  have a2 : (w.alloc (.cells #[.int .i64 (u 0), .int .i64 (u 1), .int .i64 (u 2), .int .i64 (u 3), .int .i64 (u 4)] 71)).cell? ⟨w.heap.size, 2, none⟩ = some (.int .i64 (u 2)) := by go_simp
  have a3 : (w.alloc (.cells #[.int .i64 (u 0), .int .i64 (u 1), .int .i64 (u 2), .int .i64 (u 3), .int .i64 (u 4)] 71)).cell? ⟨w.heap.size, 3, none⟩ = some (.int .i64 (u 3)) := by go_simp
  have a4 : (w.alloc (.cells #[.int .i64 (u 0), .int .i64 (u 1), .int .i64 (u 2), .int .i64 (u 3), .int .i64 (u 4)] 71)).cell? ⟨w.heap.size, 4, none⟩ = some (.int .i64 (u 4)) := by go_simp
  have hsz : (w.alloc (.cells #[.int .i64 (u 0), .int .i64 (u 1), .int .i64 (u 2), .int .i64 (u 3), .int .i64 (u 4)] 71)).heap.size = w.heap.size + 1 := by simp
  have HSz := Lib.hid hsz
  have HA := Lib.hid (fun j (hj : j < 5) => at_cell (j := j) a0 a1 a2 a3 a4 hj)
  clear hi hz0 hz1 hz2 hx hr hb1 a0 a1 a2 a3 a4 hsz
  unfold arr5
  go_enter Try.func165, Try.ntmps165
  go_wp2_with fail
  generalize (w.alloc (.cells #[.int .i64 (u 0), .int .i64 (u 1), .int .i64 (u 2), .int .i64 (u 3), .int .i64 (u 4)] 71)) = W1 at *
  rw [← HSz.out]
  go_loopw [13] (fun i wr => ∃ k : Nat, k ≤ n ∧ i = .int .i64 k ∧ OwnI wr W1.heap.size n k (pk ⟨n, x⟩ u) ∧ Below W1.heap.size W1 wr) (fun i _ => n - (intOf i).toNat)
  case atStart => exact ⟨0, Nat.zero_le _, rfl, ⟨_, heap_alloc_new _ _, by simp [size_madeCells], fun i hi => absurd hi (by omega)⟩, bl_alloc (Below.refl _ _) _⟩
  case round =>
    obtain ⟨k, hk, rfl, hown, hb⟩ := hrel
    by_cases hlt : k < n
    · obtain ⟨b, off, rfl, hbl, hc⟩ := (HR.out.below hb) (by omega)
      have hc1 := hc k hlt
      obtain ⟨hx0, hx5⟩ := HXx.out k hlt
      obtain ⟨j, hj⟩ : ∃ j : Nat, x k = (j : Int) := ⟨(x k).toNat, by omega⟩
      have hj5 : j < 5 := by omega
      have hc2 := kc hb (HA.out j hj5)
      have Hpk := Lib.hid (show pk ⟨n, x⟩ u k = u j from by unfold pk; simp only; rw [hj]; rfl)
      rw [hj] at hc1
      obtain ⟨y1, hy1⟩ := hown.cell hlt
      have hf1 := hown.frozen k
      have hj0 : (0 : Int) ≤ (j : Int) := by omega
      have hj5' : (j : Int) < 5 := by omega
      have Hput := Lib.hid (hown.put hlt)
      rw [Hpk.out] at Hput
      have HBk := Lib.hid hb
      have hltI : (k : Int) < (n : Int) := by omega
      have hk0 : (0 : Int) ≤ (k : Int) := by omega
      clear hc hmk hj hx0 hx5 hown hb
      go_wp2
      go_roundw
      case rel => exact ⟨k + 1, by omega, by go_num, Hput.out, HBk.out.setCell (Nat.le_refl _) _⟩
      case measure => simp [intOf]; omega
    · have e : k = n := by omega
      subst e
      go_wp2
      go_ret
      exact ⟨_, rfl, by rw [HSz.out]; omega, hown, HB.out.trans (hb.mono (by rw [HSz.out]; omega))⟩
end Go.Proofs.Ythjcbaccoogloaa

namespace Go.Proofs.Ythjcbaccoogloaa
open Go.ChangeShapes Go.WideShapes Go.ChangeAt Go.RowKit

/-- Domains fit the cells of a model. -/
def fitB (s : Lst) (m : Nat) (d : Nat → LsB) : Bool := m == s.n && prE (fun i => ((d i).n : Int) == s.x i + 1) s.n
/-- Domains of a valid model. -/
def dvB (s : Lst) (n : Nat) (q : Nat → Rul) (m : Nat) (d : Nat → LsB) : Bool := modB s n q && fitB s m d

end Go.Proofs.Ythjcbaccoogloaa

namespace Go.Proofs.Ythjcbaccoogloaa
open Go.ChangeShapes Go.WideShapes Go.ChangeAt Go.RowKit

set_option maxRecDepth 100000 in
set_option maxHeartbeats 800000 in
theorem fits_any (A : Option Addr) (n cap : Nat) (z : Int) (w : World) (_hn : n ≤ 1048576) (hz : 0 ≤ z ∧ z ≤ 3) :
    Calls Try.prog 101 #[.slice A n cap, .int .i64 z] w fun e w' => e = .returned (.bool ((n : Int) == z + 1)) ∧ Below w.heap.size w w' := by
  have HA := Below.refl w.heap.size w
  obtain ⟨z0, z3⟩ := hz
  go_enter Try.func101, Try.ntmps101
  go_wp2
  go_ret
  exact ⟨rfl, HA⟩

set_option maxRecDepth 100000 in
set_option maxHeartbeats 1600000 in
theorem equalF_any (s : Lst) (m : Nat) (d : Nat → LsB) (As Ad : Option Addr) (cs cd : Nat) (w : World) (p1 : s.n ≤ 5) (hok : prE (fun i => betB 0 3 (s.x i)) s.n = true) (p2 : m ≤ 1048576) (p3 : ∀ i, i < m → (d i).n ≤ 1048576) (hs : RdI w w.heap.size As s.n s.x) (hd : RdLB w w.heap.size Ad m d) :
    Calls Try.prog 102 #[.slice Ad m cd, .slice As s.n cs, .func (.func 101) #[] #[]] w fun e w' => e = .returned (.bool (fitB s m d)) ∧ Below w.heap.size w w' := by
  obtain ⟨sn, x⟩ := s
  simp only at p1 hok hs ⊢
  have Hd := Lib.hid (show ∀ z, fitB ⟨sn, x⟩ m d = z ↔ (m == sn && prE (fun i => ((d i).n : Int) == x i + 1) sn) = z from fun z => Iff.rfl)
  by_cases d1 : m ≠ sn
  · have d2 := int_ne d1
    have He := Lib.hid ((Hd.out false).2 (by simp [d1]))
    clear Hd d1
    go_enter Try.func102, Try.ntmps102
    go_wp2
    go_ret
    exact ⟨ret_bool He.out.symm, Below.refl _ _⟩
  obtain rfl : m = sn := by omega
  clear d1
  have HOK := Lib.hid (fun k (hk : k < m) => size_at (s := ⟨m, x⟩) hok hk)
  have P3 := Lib.hid p3
  clear hok p3
  go_enter Try.func102, Try.ntmps102
  go_wp2
  go_loopw [17] (fun i wr => ∃ k : Nat, k ≤ m ∧ i = .int .i64 k ∧ prE (fun i => ((d i).n : Int) == x i + 1) k = true ∧ Below w.heap.size w wr) (fun i _ => m - (intOf i).toNat)
  case atStart => exact ⟨0, Nat.zero_le _, rfl, rfl, Below.refl _ _⟩
  case round =>
    obtain ⟨k, hk, rfl, hp, hb⟩ := hrel
    have Hp := Lib.hid hp
    clear hp
    by_cases hlt : k < m
    · obtain ⟨b, off, rfl, hbl, hcs⟩ := (hs.below hb) (by omega)
      obtain ⟨b2, off2, rfl, hbl2, hcc⟩ := (hd.below hb) (by omega)
      have c1 := hcs k hlt
      obtain ⟨Ai, ci, c2, -⟩ := hcc k hlt
      have hx03 := HOK.out k hlt
      have hdk := P3.out k hlt
      clear hcs hcc hs hd
      have hlt' : (k : Int) < (m : Int) := by omega
      have hk0 : (0 : Int) ≤ (k : Int) := by omega
      have Hf := Lib.hid (fun X => fits_any Ai (d k).n ci (x k) X hdk hx03)
      cases q1 : (((d k).n : Int) == x k + 1) with
      | true =>
        have Hy := Lib.hid (prE_yes (e := fun i => ((d i).n : Int) == x i + 1) Hp.out q1)
        rw [q1] at Hf
        clear q1 hx03 hdk
        go_wp2_with fail
        refine (Hf.out _).mono ?_
        rintro e w1 ⟨rfl, hb1⟩
        go_wp2
        go_roundw
        case rel => exact ⟨k + 1, by omega, by go_num, Hy.out, bl_trans hb hb1⟩
        case measure => simp [intOf]; omega
      | false =>
        have Hno := Lib.hid (prE_no (e := fun i => ((d i).n : Int) == x i + 1) hlt q1)
        have He := Lib.hid ((Hd.out false).2 (by rw [Hno.out]; simp))
        rw [q1] at Hf
        clear Hno Hd q1 hx03 hdk
        go_wp2_with fail
        refine (Hf.out _).mono ?_
        rintro e w1 ⟨rfl, hb1⟩
        go_wp2
        go_ret
        exact ⟨ret_bool He.out.symm, bl_trans hb hb1⟩
    · have e : k = m := by omega
      subst e
      have He := Lib.hid ((Hd.out true).2 (by rw [Hp.out]; simp))
      clear Hd
      go_wp2
      go_ret
      exact ⟨ret_bool He.out.symm, hb⟩

set_option maxRecDepth 100000 in
set_option maxHeartbeats 1600000 in
theorem implDV_any (s : Lst) (n : Nat) (q : Nat → Rul) (m : Nat) (d : Nat → LsB) (As Ar Ad : Option Addr) (cs cr cd : Nat) (w : World) (p1 : s.n ≤ 1048576) (p3 : n ≤ 1048576) (p4 : ∀ i, i < n → (q i).fit 1048576) (p5 : m ≤ 1048576) (p6 : ∀ i, i < m → (d i).n ≤ 1048576) (hs : RdI w w.heap.size As s.n s.x) (hr : RdRs w w.heap.size Ar n q) (hd : RdLB w w.heap.size Ad m d) :
    Calls Try.prog 72 #[.agg #[.slice As s.n cs, .slice Ar n cr], .slice Ad m cd] w fun e w' => e = .returned (.bool (dvB s n q m d)) ∧ Below w.heap.size w w' := by
  have Hd := Lib.hid (show ∀ z, dvB s n q m d = z ↔ (modB s n q && fitB s m d) = z from fun z => Iff.rfl)
  have HS := Lib.hid hs
  have HR := Lib.hid hr
  have HD := Lib.hid hd
  have P4 := Lib.hid p4
  have P6 := Lib.hid p6
  clear hs hr hd p4 p6
  have HA := Lib.hid (bl_alloc (Below.refl w.heap.size w))
  go_enter Try.func72, Try.ntmps72
  go_wp2_with fail
  have a0 : (w.alloc (.cells #[.slice As s.n cs, .slice Ar n cr] 26)).cell? ⟨w.heap.size, 0, none⟩ = some (.slice As s.n cs) := by go_simp
  have a1 : (w.alloc (.cells #[.slice As s.n cs, .slice Ar n cr] 26)).cell? ⟨w.heap.size, 1, none⟩ = some (.slice Ar n cr) := by go_simp
  have HB := Lib.hid (HA.out (.cells #[.slice As s.n cs, .slice Ar n cr] 26))
  clear HA
  generalize (w.alloc (.cells #[.slice As s.n cs, .slice Ar n cr] 26)) = w1 at *
  refine (implValidM_any s n q _ _ _ _ _ p1 p3 P4.out (HS.out.later HB.out) (HR.out.later HB.out)).mono ?_
  rintro e w2 ⟨rfl, hb⟩
  have HB2 := Lib.hid (bl_trans HB.out hb)
  replace a0 := kc hb a0
  replace a1 := kc hb a1
  clear hb HB
  cases hm : modB s n q with
  | false =>
    have He := Lib.hid ((Hd.out false).2 (by rw [hm]; rfl))
    clear hm Hd
    go_wp2
    go_ret
    exact ⟨ret_bool He.out.symm, HB2.out⟩
  | true =>
    have Hp := Lib.hid (mod_parts hm)
    have He := Lib.hid ((Hd.out (fitB s m d)).2 (by rw [hm]; rfl))
    clear hm Hd
    obtain ⟨H, hHe⟩ : ∃ H, w.heap.size = H := ⟨_, rfl⟩
    rw [hHe] at a0 a1 ⊢
    go_wp2_with fail
    refine (equalF_any s m d _ _ _ _ _ Hp.out.2.1 Hp.out.2.2.1 p5 P6.out (HS.out.later HB2.out) (HD.out.later HB2.out)).mono ?_
    rintro e w3 ⟨rfl, hb⟩
    have HB3 := Lib.hid (bl_trans HB2.out hb)
    clear hb HB2
    go_wp2
    go_ret
    exact ⟨ret_bool He.out.symm, by first | exact HB3.out | (rw [← hHe]; exact HB3.out)⟩

end Go.Proofs.Ythjcbaccoogloaa

namespace Go.Proofs.Ythjcbaccoogloaa
open Go.ChangeShapes Go.WideShapes Go.ChangeAt Go.RowKit

/-- The bits of the first k Booleans. -/
def msk (x : Nat → Bool) : Nat → Int
  | 0 => 0
  | k + 1 => msk x k + if x k then ((2 ^ k : Nat) : Int) else 0
theorem msk_yes {x : Nat → Bool} {k : Nat} (h : x k = true) : msk x (k + 1) = msk x k + ((2 ^ k : Nat) : Int) := by show msk x k + _ = _; rw [if_pos h]
theorem msk_no {x : Nat → Bool} {k : Nat} (h : x k = false) : msk x (k + 1) = msk x k := by show msk x k + _ = _; rw [if_neg (by rw [h]; simp)]; omega
theorem msk_bd (x : Nat → Bool) (k : Nat) : 0 ≤ msk x k ∧ msk x k < ((2 ^ k : Nat) : Int) := by
  induction k with
  | zero => exact ⟨Int.le_refl _, by show (0:Int) < 1; omega⟩
  | succ k ih =>
    have e : ((2 ^ (k + 1) : Nat) : Int) = 2 * ((2 ^ k : Nat) : Int) := by rw [Nat.pow_succ]; omega
    cases h : x k with
    | true => rw [msk_yes h, e]; omega
    | false => rw [msk_no h, e]; omega

theorem or_fin : ∀ k : Fin 4, ∀ z : Fin 8, z.val < 2 ^ k.val → bits .or .u64 ((z.val : Nat) : Int) (IntKind.u64.wrap (2 ^ k.val)) = ((z.val : Nat) : Int) + ((2 ^ k.val : Nat) : Int) := by decide +kernel
theorem or_bit {z : Int} {k : Nat} (hz : 0 ≤ z ∧ z < ((2 ^ k : Nat) : Int)) (hk : k < 4) : bits .or .u64 z (IntKind.u64.wrap (2 ^ k)) = z + ((2 ^ k : Nat) : Int) := by
  obtain ⟨y, rfl⟩ := Int.eq_ofNat_of_zero_le hz.1
  have h2 : y < 2 ^ k := by have := hz.2; omega
  have h3 : (2 : Nat) ^ k ≤ 2 ^ 3 := Nat.pow_le_pow_right (by omega) (by omega)
  exact or_fin ⟨k, hk⟩ ⟨y, by omega⟩ h2
theorem and_fin : ∀ k : Fin 4, ∀ z : Fin 16, (bits .and .u64 (((z.val : Nat) : Int) / 2 ^ k.val) 1 == 1) = (z.val / 2 ^ k.val % 2 == 1) := by decide +kernel
/-- The bits as a natural number. -/
def mskN (x : Nat → Bool) : Nat → Nat
  | 0 => 0
  | k + 1 => mskN x k + if x k then 2 ^ k else 0
theorem msk_N (x : Nat → Bool) (k : Nat) : msk x k = (mskN x k : Int) := by
  induction k with
  | zero => rfl
  | succ k ih => show msk x k + _ = ((mskN x k + _ : Nat) : Int); rw [ih]; split <;> simp
theorem mskN_bit {x : Nat → Bool} {n k : Nat} (hn : n ≤ 4) (hk : k < n) : (mskN x n / 2 ^ k % 2 == 1) = x k := by
  have h1 : n = 1 ∨ n = 2 ∨ n = 3 ∨ n = 4 := by omega
  have h2 : k = 0 ∨ k = 1 ∨ k = 2 ∨ k = 3 := by omega
  cases h0 : x 0 <;> cases h3 : x 1 <;> cases h4 : x 2 <;> cases h5 : x 3 <;> rcases h1 with rfl | rfl | rfl | rfl <;> rcases h2 with rfl | rfl | rfl | rfl <;> first | (exfalso; omega) | (simp only [mskN, h0, h3, h4, h5]; rfl)
theorem msk_zero {x : Nat → Bool} {n : Nat} : msk x n = 0 ↔ ∀ i, i < n → x i = false := by
  induction n with
  | zero => exact ⟨fun _ i hi => absurd hi (by omega), fun _ => rfl⟩
  | succ n ih =>
    have hb := msk_bd x n
    have hp : 0 < ((2 ^ n : Nat) : Int) := by have := Nat.two_pow_pos n; omega
    cases h : x n with
    | true =>
      rw [msk_yes h]
      exact ⟨fun e => by omega, fun e => by rw [e n (by omega)] at h; cases h⟩
    | false =>
      rw [msk_no h, ih]
      refine ⟨fun e i hi => ?_, fun e i hi => e i (by omega)⟩
      by_cases hin : i = n
      · subst hin; exact h
      · exact e i (by omega)

set_option maxRecDepth 100000 in
set_option maxHeartbeats 800000 in
theorem with_any (z : Int) (k : Nat) (w : World) (hz : 0 ≤ z ∧ z < ((2 ^ k : Nat) : Int)) (hk : k < 4) :
    Calls Try.prog 103 #[.int .u64 z, .int .i64 k] w fun e w' => e = .returned (.int .u64 (z + ((2 ^ k : Nat) : Int))) ∧ w = w' := by
  go_enter Try.func103, Try.ntmps103
  go_wp2
  go_ret
  exact ⟨congrArg (fun v => Ending.returned (.int .u64 v)) (or_bit hz hk), rfl⟩

set_option maxRecDepth 100000 in
set_option maxHeartbeats 800000 in
theorem has_any (x : Nat → Bool) (n k : Nat) (w : World) (hn : n ≤ 4) (hk : k < n) :
    Calls Try.prog 104 #[.int .u64 (msk x n), .int .i64 k] w fun e w' => e = .returned (.bool (x k)) ∧ w = w' := by
  go_enter Try.func104, Try.ntmps104
  go_wp2
  go_ret
  refine ⟨congrArg (fun v => Ending.returned (.bool v)) ?_, rfl⟩
  rw [msk_N]
  have h1 := msk_bd x n
  rw [msk_N] at h1
  have h3 : (2 : Nat) ^ n ≤ 2 ^ 4 := Nat.pow_le_pow_right (by omega) hn
  exact (and_fin ⟨k, by omega⟩ ⟨mskN x n, by omega⟩).trans (mskN_bit hn hk)
end Go.Proofs.Ythjcbaccoogloaa

namespace Go.Proofs.Ythjcbaccoogloaa
open Go.ChangeShapes Go.WideShapes Go.ChangeAt Go.RowKit

/-- A block of the call's own that holds sets of values. -/
def OwnS8 (w : World) (G n : Nat) (v : Nat → Int) : Prop :=
  ∃ cs : Array Value, w.heap[G]? = some (.cells cs 130 (0, 0)) ∧ cs.size = n ∧ ∀ i, i < n → cs[i]? = some (.int .u64 (v i))
section
variable {w w' : World} {G n : Nat} {v v' : Nat → Int}
theorem OwnS8.lt (h : OwnS8 w G n v) : G < w.heap.size := by
  obtain ⟨cs, hh, h1, h2⟩ := h
  rcases Nat.lt_or_ge G w.heap.size with hlt | hge
  · exact hlt
  · rw [Array.getElem?_eq_none hge] at hh; cases hh
theorem OwnS8.below {B : Nat} (h : OwnS8 w G n v) (hb : Below B w w') (hG : G < B) : OwnS8 w' G n v := by
  obtain ⟨cs, hh, h1, h2⟩ := h
  exact ⟨cs, (hb.block G hG).trans hh, h1, h2⟩
theorem OwnS8.cell (h : OwnS8 w G n v) {j : Nat} (hj : j < n) : w.cell? ⟨G, j, none⟩ = some (.int .u64 (v j)) := by
  obtain ⟨cs, hh, h1, h2⟩ := h
  exact (cell_of_row w G _ cs _ _ hh).trans (h2 j hj)
theorem OwnS8.frozen (h : OwnS8 w G n v) (j : Nat) : w.frozen? ⟨G, j, none⟩ = false := by
  obtain ⟨cs, hh, h1, h2⟩ := h
  simp [World.frozen?, hh]
theorem OwnS8.put (h : OwnS8 w G n v) {k : Nat} (hk : k < n) {z : Int} (hz : v' k = z) (he : ∀ i, i < n → i ≠ k → v' i = v i) : OwnS8 (w.setCell ⟨G, k, none⟩ (.int .u64 z)) G n v' := by
  obtain ⟨cs, hh, h1, h2⟩ := h
  refine ⟨cs.setIfInBounds k (.int .u64 z), ?_, by simp [h1], fun i hi => ?_⟩
  · simp [World.setCell, Array.getElem?_modify, hh]
  · simp only [Array.getElem?_setIfInBounds]
    by_cases e : i = k
    · subst e
      rw [if_pos rfl, if_pos (by omega), hz]
    · rw [if_neg (by omega), he i hi e]
      exact h2 i hi
theorem OwnS8.same (h : OwnS8 w G n v) (he : ∀ i, i < n → v' i = v i) : OwnS8 w G n v' := by
  obtain ⟨cs, hh, h1, h2⟩ := h
  exact ⟨cs, hh, h1, fun i hi => by rw [he i hi]; exact h2 i hi⟩
end
theorem Try.infoVS : (Try.prog.info? 130).map (fun i => (i.zero, i.size, i.bytes)) = some (some (.int .u64 0), 1, 8) := by kernel_rfl

/-- The sets behind k whole lists and j elements of the next one. -/
def dmV (d : Nat → LsB) (k j : Nat) (i : Nat) : Int := if i < k then msk (d i).x (d i).n else if i = k then msk (d i).x j else 0

theorem dmV_00 (d : Nat → LsB) (i : Nat) : dmV d 0 0 i = 0 := by
  unfold dmV
  rw [if_neg (by omega)]
  split
  · rfl
  · rfl
theorem dmV_at (d : Nat → LsB) (k j : Nat) : dmV d k j k = msk (d k).x j := by unfold dmV; rw [if_neg (by omega), if_pos rfl]
theorem dmV_ne (d : Nat → LsB) {k j j' i : Nat} (h : i ≠ k) : dmV d k j i = dmV d k j' i := by unfold dmV; rw [if_neg h, if_neg h]
theorem dmV_no (d : Nat → LsB) {k j : Nat} (h : (d k).x j = false) (i : Nat) : dmV d k (j + 1) i = dmV d k j i := by
  by_cases e : i = k
  · subst e; rw [dmV_at, dmV_at, msk_no h]
  · exact dmV_ne d e
theorem dmV_next (d : Nat → LsB) (k i : Nat) : dmV d (k + 1) 0 i = dmV d k (d k).n i := by
  unfold dmV
  by_cases h : i < k
  · rw [if_pos h, if_pos (by omega)]
  · rw [if_neg h]
    by_cases e : i = k
    · subst e; rw [if_pos (by omega), if_pos rfl]
    · rw [if_neg (by omega), if_neg e]
      split
      · rfl
      · rfl
theorem dmV_end (d : Nat → LsB) {k i : Nat} (h : i < k) : msk (d i).x (d i).n = dmV d k 0 i := by unfold dmV; rw [if_pos h]
theorem own8_new (w : World) (m : Nat) : OwnS8 (w.alloc (.cells (madeCells #[.int .u64 0] m) 130)) w.heap.size m (fun _ => 0) := by
  have h : (madeCells #[Value.int .u64 0] m).toList = List.replicate m (.int .u64 0) := toList_madeCells_one (.int .u64 0) m
  refine ⟨_, heap_alloc_new _ _, by simp [size_madeCells], fun i hi => ?_⟩
  rw [← Array.getElem?_toList, h, List.getElem?_replicate, if_pos hi]

set_option maxRecDepth 100000 in
set_option maxHeartbeats 1600000 in
theorem domainsOf_any (m : Nat) (d : Nat → LsB) (Ad : Option Addr) (cd : Nat) (w : World) (p1 : m ≤ 5) (p2 : ∀ i, i < m → (d i).n ≤ 4) (hd : RdLB w w.heap.size Ad m d) :
    Calls Try.prog 73 #[.slice Ad m cd] w fun e w' => ∃ G, e = .returned (.slice (some ⟨G, 0, none⟩) m m) ∧ w.heap.size ≤ G ∧ OwnS8 w' G m (fun i => msk (d i).x (d i).n) ∧ Below w.heap.size w w' := by
  obtain ⟨i0, hi, hz0, hz1, hz2⟩ := info_parts Try.infoVS
  have hmk := fun W => run_make (P := Try.prog) W 100 130 i0 _ Try.underlying100 hi hz0 .i64 .i64 (m : Int) m (by omega) (by omega) (by rw [hz2]; omega) (by omega)
  rw [hz1] at hmk
  clear hi hz0 hz1 hz2
  go_enter Try.func73, Try.ntmps73
  go_wp2
  have HP2 := Lib.hid p2
  have HD := Lib.hid hd
  clear p2 hd hmk
  go_loopw [13] (fun i wr => ∃ k : Nat, k ≤ m ∧ i = .int .i64 k ∧ OwnS8 wr w.heap.size m (dmV d k 0) ∧ Below w.heap.size w wr) (fun i _ => m - (intOf i).toNat)
  case atStart => exact ⟨0, Nat.zero_le _, rfl, (own8_new w m).same (fun i hi => dmV_00 d i), bl_alloc (Below.refl _ _) _⟩
  case round =>
    obtain ⟨k, hk, rfl, hown, hb⟩ := hrel
    by_cases hlt : k < m
    · obtain ⟨b, off, rfl, hbl, hc⟩ := HD.out (by omega)
      obtain ⟨Ai, ci, hc0, hrk⟩ := hc k hlt
      have hc1 := (hb.cell (p := ⟨b, _, none⟩) hbl).trans hc0
      have h4 := HP2.out k hlt
      have HO := Lib.hid hown
      have HBk := Lib.hid hb
      have hrk' := Lib.hid hrk
      clear hc hown hb hrk hc0
      have hlt' : (k : Int) < (m : Int) := by omega
      have hk0 : (0 : Int) ≤ (k : Int) := by omega
      go_wp2
      go_loopw [20] (fun i wr => ∃ j : Nat, j ≤ (d k).n ∧ i = .int .i64 j ∧ OwnS8 wr w.heap.size m (dmV d k j) ∧ Below w.heap.size w wr) (fun i _ => (d k).n - (intOf i).toNat)
      case atStart => exact ⟨0, Nat.zero_le _, rfl, HO.out, HBk.out⟩
      case round =>
        obtain ⟨j, hj, rfl, hown, hb⟩ := hrel
        by_cases hjt : j < (d k).n
        · obtain ⟨b2, off2, rfl, hbl2, hc2⟩ := (hrk'.out.below hb) (by omega)
          have hc3 := hc2 j hjt
          clear hc2
          have hj0 : (0 : Int) ≤ (j : Int) := by omega
          have hjt' : (j : Int) < ((d k).n : Int) := by omega
          cases hx : (d k).x j with
          | true =>
            rw [hx] at hc3
            have hcell := hown.cell hlt
            rw [dmV_at] at hcell
            have hfz := hown.frozen k
            have Hput := Lib.hid (hown.put (v' := dmV d k (j + 1)) hlt (z := msk (d k).x j + ((2 ^ j : Nat) : Int)) (by rw [dmV_at, msk_yes hx]) (fun i hi hne => dmV_ne d hne))
            have Hbb := Lib.hid (hb.setCell (p := ⟨w.heap.size, k, none⟩) (Nat.le_refl _) (.int .u64 (msk (d k).x j + ((2 ^ j : Nat) : Int))))
            clear hx hown
            have hbd := msk_bd (d k).x j
            go_wp2_with (go_at_call 103; refine (with_any _ j _ hbd (by omega)).mono ?_; rintro e w' ⟨rfl, rfl⟩)
            go_roundw
            case rel => exact ⟨j + 1, by omega, by go_num, Hput.out, Hbb.out⟩
            case measure => simp [intOf]; omega
          | false =>
            rw [hx] at hc3
            have Hs := Lib.hid (hown.same (v' := dmV d k (j + 1)) (fun i hi => dmV_no d hx i))
            clear hx hown
            go_wp2
            go_roundw
            case rel => exact ⟨j + 1, by omega, by go_num, Hs.out, hb⟩
            case measure => simp [intOf]; omega
        · have e : j = (d k).n := by omega
          subst e
          have Hs := Lib.hid (hown.same (v' := dmV d (k + 1) 0) (fun i hi => dmV_next d k i))
          clear hown
          go_wp2
          go_roundw
          case rel => exact ⟨k + 1, by omega, by go_num, Hs.out, hb⟩
          case measure => simp [intOf]; omega
    · have e : k = m := by omega
      subst e
      have Hs := Lib.hid (hown.same (v' := fun i => msk (d i).x (d i).n) (fun i hi => dmV_end d hi))
      clear hown
      go_wp2
      go_ret
      exact ⟨_, rfl, Nat.le_refl _, Hs.out, hb⟩
end Go.Proofs.Ythjcbaccoogloaa

namespace Go.Proofs.Ythjcbaccoogloaa
open Go.ChangeShapes Go.WideShapes Go.ChangeAt Go.RowKit

set_option maxRecDepth 100000 in
set_option maxHeartbeats 1600000 in
theorem idxE_any (G m cp : Nat) (v : Nat → Int) (w : World) (p1 : m ≤ 5) (hd : OwnS8 w G m v) :
    Calls Try.prog 120 #[.slice (some ⟨G, 0, none⟩) m cp, .int .u64 0] w fun e w' => ∃ r : Int, e = .returned (.int .i64 r) ∧ decide (0 ≤ r) = anyQ (fun i => v i == 0) m ∧ Below w.heap.size w w' := by
  go_enter Try.func120, Try.ntmps120
  go_wp2
  go_loopw [8] (fun i wr => ∃ k : Nat, k ≤ m ∧ i = .int .i64 k ∧ anyQ (fun i => v i == 0) k = false ∧ Below w.heap.size w wr) (fun i _ => m - (intOf i).toNat)
  case atStart => exact ⟨0, Nat.zero_le _, rfl, rfl, Below.refl _ _⟩
  case round =>
    obtain ⟨k, hk, rfl, hp, hb⟩ := hrel
    have Hp := Lib.hid hp
    clear hp
    by_cases hlt : k < m
    · have hc := (hd.below hb hd.lt).cell hlt
      have hlt' : (k : Int) < (m : Int) := by omega
      have hk0 : (0 : Int) ≤ (k : Int) := by omega
      by_cases hv : v k = 0
      · have Hfin := Lib.hid (show decide (0 ≤ (k : Int)) = anyQ (fun i => v i == 0) m from by rw [anyQ_of (q := fun i => v i == 0) hlt (beq_iff_eq.2 hv)]; simp)
        rw [hv] at hc
        clear hv hd
        go_wp2
        go_ret
        exact ⟨_, rfl, Hfin.out, hb⟩
      · have Hno := Lib.hid (anyQ_step (q := fun i => v i == 0) Hp.out (beq_eq_false_iff_ne.2 hv))
        have hv' : ¬ (0 = v k) := fun e => hv e.symm
        clear hd
        go_wp2
        go_roundw
        case rel => exact ⟨k + 1, by omega, by go_num, Hno.out, hb⟩
        case measure => simp [intOf]; omega
    · have e : k = m := by omega
      subst e
      go_wp2
      go_ret
      exact ⟨-1, rfl, by rw [Hp.out]; rfl, hb⟩

set_option maxRecDepth 100000 in
set_option maxHeartbeats 800000 in
theorem ctnE_any (G m cp : Nat) (v : Nat → Int) (w : World) (p1 : m ≤ 5) (hd : OwnS8 w G m v) :
    Calls Try.prog 105 #[.slice (some ⟨G, 0, none⟩) m cp, .int .u64 0] w fun e w' => e = .returned (.bool (anyQ (fun i => v i == 0) m)) ∧ Below w.heap.size w w' := by
  have Hc := Lib.hid (idxE_any G m cp v w p1 hd)
  clear hd
  go_enter Try.func105, Try.ntmps105
  go_wp2_with fail
  refine Hc.out.mono ?_
  rintro e w1 ⟨r, rfl, hm, hb⟩
  have Hm := Lib.hid hm
  clear hm
  go_wp2
  go_ret
  exact ⟨ret_bool Hm.out, hb⟩

set_option maxRecDepth 100000 in
set_option maxHeartbeats 800000 in
theorem someE_any (G m cp : Nat) (v : Nat → Int) (w : World) (p1 : m ≤ 5) (hd : OwnS8 w G m v) :
    Calls Try.prog 75 #[.slice (some ⟨G, 0, none⟩) m cp] w fun e w' => e = .returned (.bool (anyQ (fun i => v i == 0) m)) ∧ Below w.heap.size w w' := by
  have Hc := Lib.hid (ctnE_any G m cp v w p1 hd)
  clear hd
  go_enter Try.func75, Try.ntmps75
  go_wp2_with fail
  refine Hc.out.mono ?_
  rintro e w1 ⟨rfl, hb⟩
  go_wp2
  go_ret
  exact ⟨rfl, hb⟩

theorem anyQ_no {b : Nat → Bool} {n i : Nat} (h : anyQ b n = false) (hi : i < n) : b i = false := by
  cases hb : b i with
  | false => rfl
  | true => rw [anyQ_of hi hb] at h; cases h
theorem anyQ_all {b : Nat → Bool} {n : Nat} (h : ∀ i, i < n → b i = false) : anyQ b n = false := by
  induction n with
  | zero => rfl
  | succ n ih => exact anyQ_step (ih fun i hi => h i (by omega)) (h n (by omega))
theorem anyQ_cg {b c : Nat → Bool} {n : Nat} (h : ∀ i, i < n → b i = c i) : anyQ b n = anyQ c n := by
  cases hb : anyQ c n with
  | false => exact anyQ_all fun i hi => (h i hi).trans (anyQ_no hb hi)
  | true =>
    cases hc : anyQ b n with
    | true => rfl
    | false =>
      have : anyQ c n = false := anyQ_all fun i hi => (h i hi).symm.trans (anyQ_no hc hi)
      rw [this] at hb; cases hb

/-- Some domain is empty. -/
def emQ (m : Nat) (d : Nat → LsB) : Bool := anyQ (fun i => !anyQ (d i).x (d i).n) m
theorem emQ_msk (m : Nat) (d : Nat → LsB) : anyQ (fun i => msk (d i).x (d i).n == 0) m = emQ m d := anyQ_cg fun i hi => by
  cases h : anyQ (d i).x (d i).n with
  | false => exact beq_iff_eq.2 (msk_zero.2 fun j hj => anyQ_no h hj)
  | true =>
    refine beq_eq_false_iff_ne.2 fun e => ?_
    rw [anyQ_all (msk_zero.1 e)] at h
    cases h

end Go.Proofs.Ythjcbaccoogloaa

namespace Go.Proofs.Ythjcbaccoogloaa
open Go.ChangeShapes Go.WideShapes Go.ChangeAt Go.RowKit

/-- Domains of a valid model of which one is empty. -/
def deB (s : Lst) (n : Nat) (q : Nat → Rul) (m : Nat) (d : Nat → LsB) : Bool := dvB s n q m d && emQ m d
/-- What valid domains are. -/
theorem dv_parts {s : Lst} {n : Nat} {q : Nat → Rul} {m : Nat} {d : Nat → LsB} (h : dvB s n q m d = true) : m ≤ 5 ∧ ∀ i, i < m → (d i).n ≤ 4 := by
  unfold dvB fitB at h
  simp only [Bool.and_eq_true, beq_iff_eq] at h
  obtain ⟨hm, rfl, hf⟩ := h
  obtain ⟨-, h5, hok, -⟩ := mod_parts hm
  refine ⟨h5, fun i hi => ?_⟩
  have h1 := size_at hok hi
  have h2 := beq_iff_eq.1 (prE_at (e := fun i => ((d i).n : Int) == s.x i + 1) hf hi)
  omega

set_option maxRecDepth 100000 in
set_option maxHeartbeats 1600000 in
theorem implDE_any (s : Lst) (n : Nat) (q : Nat → Rul) (m : Nat) (d : Nat → LsB) (As Ar Ad : Option Addr) (cs cr cd : Nat) (w : World) (p1 : s.n ≤ 1048576) (p3 : n ≤ 1048576) (p4 : ∀ i, i < n → (q i).fit 1048576) (p5 : m ≤ 1048576) (p6 : ∀ i, i < m → (d i).n ≤ 1048576) (hs : RdI w w.heap.size As s.n s.x) (hr : RdRs w w.heap.size Ar n q) (hd : RdLB w w.heap.size Ad m d) :
    Calls Try.prog 30 #[.agg #[.slice As s.n cs, .slice Ar n cr], .slice Ad m cd] w fun e w' => e = .returned (.bool (deB s n q m d)) ∧ Below w.heap.size w w' := by
  have Hd := Lib.hid (show ∀ z, deB s n q m d = z ↔ (dvB s n q m d && emQ m d) = z from fun z => Iff.rfl)
  have HS := Lib.hid hs
  have HR := Lib.hid hr
  have HD := Lib.hid hd
  have P4 := Lib.hid p4
  have P6 := Lib.hid p6
  clear hs hr hd p4 p6
  have HA := Lib.hid (bl_alloc (Below.refl w.heap.size w))
  go_enter Try.func30, Try.ntmps30
  go_wp2_with fail
  have a0 : (w.alloc (.cells #[.slice As s.n cs, .slice Ar n cr] 26)).cell? ⟨w.heap.size, 0, none⟩ = some (.slice As s.n cs) := by go_simp
  have a1 : (w.alloc (.cells #[.slice As s.n cs, .slice Ar n cr] 26)).cell? ⟨w.heap.size, 1, none⟩ = some (.slice Ar n cr) := by go_simp
  have HB := Lib.hid (HA.out (.cells #[.slice As s.n cs, .slice Ar n cr] 26))
  clear HA
  generalize (w.alloc (.cells #[.slice As s.n cs, .slice Ar n cr] 26)) = w1 at *
  refine (implDV_any s n q m d _ _ _ _ _ _ _ p1 p3 P4.out p5 P6.out (HS.out.later HB.out) (HR.out.later HB.out) (HD.out.later HB.out)).mono ?_
  rintro e w2 ⟨rfl, hb⟩
  have HB2 := Lib.hid (bl_trans HB.out hb)
  clear hb HB
  cases hm : dvB s n q m d with
  | false =>
    have He := Lib.hid ((Hd.out false).2 (by rw [hm]; rfl))
    clear hm Hd
    go_wp2
    go_ret
    exact ⟨ret_bool He.out.symm, HB2.out⟩
  | true =>
    have Hp := Lib.hid (dv_parts hm)
    have He := Lib.hid ((Hd.out (emQ m d)).2 (by rw [hm]; rfl))
    clear hm Hd
    have hm5 := Hp.out.1
    go_wp2_with fail
    refine (domainsOf_any m d _ _ _ Hp.out.1 Hp.out.2 (HD.out.later HB2.out)).mono ?_
    rintro e w3 ⟨G, rfl, hG, hown, hb⟩
    have HB3 := Lib.hid (bl_trans HB2.out hb)
    have HO := Lib.hid hown
    clear hb HB2 hown
    go_wp2_with fail
    refine (someE_any G m m _ _ Hp.out.1 HO.out).mono ?_
    rintro e w4 ⟨rfl, hb⟩
    rw [emQ_msk]
    have HB4 := Lib.hid (bl_trans HB3.out hb)
    clear hb HB3
    go_wp2
    go_ret
    exact ⟨ret_bool He.out.symm, HB4.out⟩
end Go.Proofs.Ythjcbaccoogloaa

namespace Go.Proofs.Ythjcbaccoogloaa
open Go.ChangeShapes Go.WideShapes Go.ChangeAt Go.RowKit

/-- Cells have values of their domains. -/
def inQ (u : Nat → Int) (d : Nat → LsB) (m : Nat) : Bool := prE (fun i => (d i).x (u i).toNat) m

set_option maxRecDepth 100000 in
set_option maxHeartbeats 1600000 in
theorem contain_any (G m cp : Nat) (d : Nat → LsB) (u : Nat → Int) (w : World) (p1 : m ≤ 5) (p2 : ∀ i, i < m → (d i).n ≤ 4) (p3 : ∀ i, i < m → 0 ≤ u i ∧ u i < (d i).n) (ho : OwnS8 w G m (fun i => msk (d i).x (d i).n)) :
    Calls Try.prog 74 #[.slice (some ⟨G, 0, none⟩) m cp, arr5 u] w fun e w' => e = .returned (.bool (inQ u d m)) ∧ Below w.heap.size w w' := by
  have He := Lib.hid (show ∀ z, inQ u d m = z ↔ prE (fun i => (d i).x (u i).toNat) m = z from fun z => Iff.rfl)
  have HA := Lib.hid (bl_alloc (Below.refl w.heap.size w) (.cells #[.int .i64 (u 0), .int .i64 (u 1), .int .i64 (u 2), .int .i64 (u 3), .int .i64 (u 4)] 71))
  have a0 : (w.alloc (.cells #[.int .i64 (u 0), .int .i64 (u 1), .int .i64 (u 2), .int .i64 (u 3), .int .i64 (u 4)] 71)).cell? ⟨w.heap.size, 0, none⟩ = some (.int .i64 (u 0)) := by go_simp
  have a1 : (w.alloc (.cells #[.int .i64 (u 0), .int .i64 (u 1), .int .i64 (u 2), .int .i64 (u 3), .int .i64 (u 4)] 71)).cell? ⟨w.heap.size, 1, none⟩ = some (.int .i64 (u 1)) := by go_simp
  have a2 : (w.alloc (.cells #[.int .i64 (u 0), .int .i64 (u 1), .int .i64 (u 2), .int .i64 (u 3), .int .i64 (u 4)] 71)).cell? ⟨w.heap.size, 2, none⟩ = some (.int .i64 (u 2)) := by go_simp
  have a3 : (w.alloc (.cells #[.int .i64 (u 0), .int .i64 (u 1), .int .i64 (u 2), .int .i64 (u 3), .int .i64 (u 4)] 71)).cell? ⟨w.heap.size, 3, none⟩ = some (.int .i64 (u 3)) := by go_simp
  have a4 : (w.alloc (.cells #[.int .i64 (u 0), .int .i64 (u 1), .int .i64 (u 2), .int .i64 (u 3), .int .i64 (u 4)] 71)).cell? ⟨w.heap.size, 4, none⟩ = some (.int .i64 (u 4)) := by go_simp
  have HC := Lib.hid (fun j (hj : j < 5) => at_cell (j := j) a0 a1 a2 a3 a4 hj)
  have P2 := Lib.hid p2
  have P3 := Lib.hid p3
  have HO := Lib.hid (ho.below HA.out ho.lt)
  clear a0 a1 a2 a3 a4 p2 p3 ho
  unfold arr5
  go_enter Try.func74, Try.ntmps74
  go_wp2
  obtain ⟨H, hH⟩ : ∃ H, w.heap.size = H := ⟨_, rfl⟩
  have hHs : (w.alloc (.cells #[.int .i64 (u 0), .int .i64 (u 1), .int .i64 (u 2), .int .i64 (u 3), .int .i64 (u 4)] 71)).heap.size = H + 1 := by rw [← hH]; simp
  generalize (w.alloc (.cells #[.int .i64 (u 0), .int .i64 (u 1), .int .i64 (u 2), .int .i64 (u 3), .int .i64 (u 4)] 71)) = w1 at *
  rw [hH] at HC HA ⊢
  have HOl := HO.out.lt
  go_loopw [9] (fun i wr => ∃ k : Nat, k ≤ m ∧ i = .int .i64 k ∧ prE (fun i => (d i).x (u i).toNat) k = true ∧ Below w1.heap.size w1 wr) (fun i _ => m - (intOf i).toNat)
  case atStart => exact ⟨0, Nat.zero_le _, rfl, rfl, Below.refl _ _⟩
  case round =>
    obtain ⟨k, hk, rfl, hp, hb⟩ := hrel
    have Hp := Lib.hid hp
    clear hp
    by_cases hlt : k < m
    · have h4 := P2.out k hlt
      obtain ⟨x0, x3⟩ := P3.out k hlt
      obtain ⟨j, hj⟩ : ∃ j : Nat, u k = (j : Int) := ⟨(u k).toNat, by omega⟩
      have hjn : j < (d k).n := by omega
      have c1 := (HO.out.below hb HOl).cell hlt
      have c2 := kc hb (HC.out k (by omega))
      rw [hj] at c2
      have hjx : (u k).toNat = j := by omega
      have hlt' : (k : Int) < (m : Int) := by omega
      have hlt5 : (k : Int) < 5 := by omega
      have hk0 : (0 : Int) ≤ (k : Int) := by omega
      have Hh := Lib.hid (fun X => has_any (d k).x (d k).n j X h4 hjn)
      cases hf : (d k).x j with
      | true =>
        have Hy := Lib.hid (prE_yes (e := fun i => (d i).x (u i).toNat) Hp.out (by simp only [hjx, hf]))
        rw [hf] at Hh
        clear hf hjx x0 x3 hj HC
        go_wp2_with (go_at_call 104; refine (Hh.out _).mono ?_; rintro e w' ⟨rfl, rfl⟩)
        go_roundw
        case rel => exact ⟨k + 1, by omega, by go_num, Hy.out, hb⟩
        case measure => simp [intOf]; omega
      | false =>
        have Hno := Lib.hid ((He.out false).2 (prE_no (e := fun i => (d i).x (u i).toNat) hlt (by simp only [hjx, hf])))
        rw [hf] at Hh
        clear hf hjx x0 x3 hj HC
        go_wp2_with (go_at_call 104; refine (Hh.out _).mono ?_; rintro e w' ⟨rfl, rfl⟩)
        go_ret
        exact ⟨ret_bool Hno.out.symm, by first | exact bl_trans HA.out hb | exact bl_trans (by rw [hH]; exact HA.out) hb⟩
    · have e : k = m := by omega
      subst e
      have Hy := Lib.hid ((He.out true).2 Hp.out)
      go_wp2
      go_ret
      exact ⟨ret_bool Hy.out.symm, by first | exact bl_trans HA.out hb | exact bl_trans (by rw [hH]; exact HA.out) hb⟩
end Go.Proofs.Ythjcbaccoogloaa

namespace Go.Proofs.Ythjcbaccoogloaa
open Go.ChangeShapes Go.WideShapes Go.ChangeAt Go.RowKit

/-- Cells of a valid model that have values of their domains. -/
def ciB (s : Lst) (n : Nat) (q : Nat → Rul) (m : Nat) (d : Nat → LsB) (c : Lst) : Bool := dvB s n q m d && (celsB s c && inQ c.x d m)
theorem dv_mod {s : Lst} {n : Nat} {q : Nat → Rul} {m : Nat} {d : Nat → LsB} (h : dvB s n q m d = true) : modB s n q = true := by
  unfold dvB at h
  exact (Bool.and_eq_true_iff.1 h).1
theorem cvV_at {n : Nat} {c : Nat → Int} {i : Nat} (h : i < n) : cvV n c i = c i := by unfold cvV; rw [if_pos h]
theorem prE_cg {e e' : Nat → Bool} {n : Nat} (h : ∀ i, i < n → e i = e' i) : prE e n = prE e' n := by
  cases h2 : prE e' n with
  | true => exact prE_iff.2 fun i hi => (h i hi).trans (prE_at h2 hi)
  | false =>
    cases h1 : prE e n with
    | false => rfl
    | true =>
      have : prE e' n = true := prE_iff.2 fun i hi => (h i hi).symm.trans (prE_at h1 hi)
      rw [this] at h2; cases h2
theorem inQ_cv {n : Nat} {c : Nat → Int} {d : Nat → LsB} : inQ (cvV n c) d n = inQ c d n := prE_cg fun i hi => by rw [cvV_at hi]
/-- Values of the cells lie within the domains. -/
theorem dv_in {s c : Lst} {n : Nat} {q : Nat → Rul} {m : Nat} {d : Nat → LsB} (h : dvB s n q m d = true) (hc : celsB s c = true) : m = c.n ∧ 1 ≤ m ∧ ∀ i, i < m → 0 ≤ c.x i ∧ c.x i < (d i).n := by
  have h1 := (mod_parts (dv_mod h)).1
  unfold dvB fitB at h
  unfold celsB at hc
  simp only [Bool.and_eq_true, beq_iff_eq] at h hc
  obtain ⟨hm, rfl, hf⟩ := h
  obtain ⟨hn, hv⟩ := hc
  refine ⟨hn.symm, h1, fun i hi => ?_⟩
  have h2 := beq_iff_eq.1 (prE_at (e := fun i => ((d i).n : Int) == s.x i + 1) hf hi)
  have h3 := prE_at (e := fun i => betB 0 (s.x i) (c.x i)) hv hi
  simp only [betB, Bool.and_eq_true, decide_eq_true_eq] at h3
  omega

set_option maxRecDepth 100000 in
set_option maxHeartbeats 1600000 in
theorem implCI_any (s : Lst) (n : Nat) (q : Nat → Rul) (m : Nat) (d : Nat → LsB) (c : Lst) (As Ar Ad Ac : Option Addr) (cs cr cd cc : Nat) (w : World) (p1 : s.n ≤ 1048576) (p3 : n ≤ 1048576) (p4 : ∀ i, i < n → (q i).fit 1048576) (p5 : m ≤ 1048576) (p6 : ∀ i, i < m → (d i).n ≤ 1048576) (p7 : c.n ≤ 1048576) (hs : RdI w w.heap.size As s.n s.x) (hr : RdRs w w.heap.size Ar n q) (hd : RdLB w w.heap.size Ad m d) (hc : RdI w w.heap.size Ac c.n c.x) :
    Calls Try.prog 29 #[.agg #[.slice As s.n cs, .slice Ar n cr], .slice Ad m cd, .slice Ac c.n cc] w fun e w' => e = .returned (.bool (ciB s n q m d c)) ∧ Below w.heap.size w w' := by
  have Hd := Lib.hid (show ∀ z, ciB s n q m d c = z ↔ (dvB s n q m d && (celsB s c && inQ c.x d m)) = z from fun z => Iff.rfl)
  have HS := Lib.hid hs
  have HR := Lib.hid hr
  have HD := Lib.hid hd
  have HC := Lib.hid hc
  have P4 := Lib.hid p4
  have P6 := Lib.hid p6
  clear hs hr hd hc p4 p6
  have HA := Lib.hid (bl_alloc (Below.refl w.heap.size w))
  go_enter Try.func29, Try.ntmps29
  go_wp2_with fail
  have a0 : (w.alloc (.cells #[.slice As s.n cs, .slice Ar n cr] 26)).cell? ⟨w.heap.size, 0, none⟩ = some (.slice As s.n cs) := by go_simp
  have a1 : (w.alloc (.cells #[.slice As s.n cs, .slice Ar n cr] 26)).cell? ⟨w.heap.size, 1, none⟩ = some (.slice Ar n cr) := by go_simp
  have HB := Lib.hid (HA.out (.cells #[.slice As s.n cs, .slice Ar n cr] 26))
  clear HA
  generalize (w.alloc (.cells #[.slice As s.n cs, .slice Ar n cr] 26)) = w1 at *
  refine (implDV_any s n q m d _ _ _ _ _ _ _ p1 p3 P4.out p5 P6.out (HS.out.later HB.out) (HR.out.later HB.out) (HD.out.later HB.out)).mono ?_
  rintro e w2 ⟨rfl, hb⟩
  have HB2 := Lib.hid (bl_trans HB.out hb)
  replace a0 := kc hb a0
  replace a1 := kc hb a1
  clear hb HB
  cases hm : dvB s n q m d with
  | false =>
    have He := Lib.hid ((Hd.out false).2 (by rw [hm]; rfl))
    clear hm Hd
    go_wp2
    go_ret
    exact ⟨ret_bool He.out.symm, HB2.out⟩
  | true =>
    have Hp := Lib.hid (dv_parts hm)
    have Hm := Lib.hid (dv_mod hm)
    have Hi := Lib.hid (fun hcel => dv_in (c := c) hm hcel)
    have Hd2 := Lib.hid (fun z => (Hd.out z).trans (by rw [hm]))
    clear hm Hd
    have hm5 := Hp.out.1
    obtain ⟨H, hHe⟩ : ∃ H, w.heap.size = H := ⟨_, rfl⟩
    rw [hHe] at a0 a1 ⊢
    go_wp2_with fail
    refine (implCells_any s c n q _ _ _ _ _ _ _ p1 p7 p3 P4.out (HS.out.later HB2.out) (HR.out.later HB2.out) (HC.out.later HB2.out)).mono ?_
    rintro e w3 ⟨rfl, hb⟩
    have HB3 := Lib.hid (bl_trans HB2.out hb)
    clear hb HB2
    rw [show cvB s n q c = celsB s c from by show (modB s n q && celsB s c) = _; rw [Hm.out]; rfl]
    cases hcel : celsB s c with
    | false =>
      have He := Lib.hid ((Hd2.out false).2 (by rw [hcel]; rfl))
      clear hcel Hd2
      go_wp2
      go_ret
      exact ⟨ret_bool He.out.symm, by first | exact HB3.out | (rw [← hHe]; exact HB3.out)⟩
    | true =>
      have Hci := Lib.hid (Hi.out hcel)
      have hcm := Hci.out.1
      have He := Lib.hid ((Hd2.out (inQ c.x d m)).2 (by rw [hcel]; rfl))
      clear hcel Hd2 Hi
      have He0 := He
      clear He
      subst hcm
      have He := He0
      go_wp2_with fail
      refine (domainsOf_any c.n d _ _ _ Hp.out.1 Hp.out.2 (HD.out.later HB3.out)).mono ?_
      rintro e w4 ⟨G, rfl, hG, hown, hb⟩
      have HB4 := Lib.hid (bl_trans HB3.out hb)
      have HO := Lib.hid hown
      clear hb HB3 hown
      go_wp2_with fail
      refine (cvo_any c.n _ _ c.x _ Hp.out.1 Hci.out.2.1 (HC.out.later HB4.out)).mono ?_
      rintro e w5 ⟨rfl, hb⟩
      have HB5 := Lib.hid (bl_trans HB4.out hb)
      have HO5 := Lib.hid (HO.out.below hb HO.out.lt)
      clear hb HB4 HO
      go_wp2_with fail
      refine (contain_any G c.n c.n d (cvV c.n c.x) _ Hp.out.1 Hp.out.2 (fun i hi => by rw [cvV_at hi]; exact Hci.out.2.2 i hi) HO5.out).mono ?_
      rintro e w6 ⟨rfl, hb⟩
      rw [inQ_cv]
      have HB6 := Lib.hid (bl_trans HB5.out hb)
      clear hb HB5 HO5
      go_wp2
      go_ret
      exact ⟨ret_bool He.out.symm, by first | exact HB6.out | (rw [← hHe]; exact HB6.out)⟩
end Go.Proofs.Ythjcbaccoogloaa

namespace Go.Proofs.Ythjcbaccoogloaa
open Go.ChangeShapes Go.WideShapes Go.ChangeAt Go.RowKit

/-- A row of rows of Booleans that a call has made: the row lies in block G, row i in block f i; all of these lie in a range and differ. -/
structure OwnLs (w : World) (lo hi G n : Nat) (r : Nat → LsB) (f : Nat → Nat) : Prop where
  g1 : lo ≤ G
  g2 : G < hi
  row : ∃ cs : Array Value, w.heap[G]? = some (.cells cs 49 (0, 0)) ∧ ∀ i, i < n → ∃ ci, cs[i]? = some (.slice (some ⟨f i, 0, none⟩) (r i).n ci)
  els : ∀ i, i < n → lo ≤ f i ∧ f i < hi ∧ f i ≠ G ∧ OwnVb w (f i) 4 (r i).n (r i).n (r i).x
  inj : ∀ i j, i < n → j < n → i ≠ j → f i ≠ f j
section
variable {w w' : World} {lo hi lo' hi' G n : Nat} {r r' : Nat → LsB} {f : Nat → Nat}
theorem OwnLs.keep (h : OwnLs w lo hi G n r f) (hk : ∀ b, lo ≤ b → b < hi → b < w.heap.size → w'.heap[b]? = w.heap[b]?) : OwnLs w' lo hi G n r f := by
  obtain ⟨g1, g2, ⟨cs, hh, hc⟩, he, hi'⟩ := h
  have hG : G < w.heap.size := by
    rcases Nat.lt_or_ge G w.heap.size with hlt | hge
    · exact hlt
    · rw [Array.getElem?_eq_none hge] at hh; cases hh
  refine ⟨g1, g2, ⟨cs, (hk G g1 g2 hG).trans hh, hc⟩, fun i hi0 => ?_, hi'⟩
  obtain ⟨a, b, c, d⟩ := he i hi0
  exact ⟨a, b, c, d.at_ (hk _ a b d.lt)⟩
theorem OwnLs.below (h : OwnLs w lo hi G n r f) (hb : Below w.heap.size w w') : OwnLs w' lo hi G n r f := h.keep fun b _ _ hl => hb.block b hl
theorem OwnLs.onlyR (h : OwnLs w lo hi G n r f) (ho : OnlyR lo' hi' w w') (hd : hi ≤ lo' ∨ hi' ≤ lo) : OwnLs w' lo hi G n r f := h.keep fun b h1 h2 hl => ho.block b hl (by omega)
theorem OwnLs.cell (h : OwnLs w lo hi G n r f) {i : Nat} (hi : i < n) : ∃ ci, w.cell? ⟨G, i, none⟩ = some (.slice (some ⟨f i, 0, none⟩) (r i).n ci) := by
  obtain ⟨cs, hh, hc⟩ := h.row
  obtain ⟨ci, e⟩ := hc i hi
  exact ⟨ci, (cell_of_row w G _ cs _ _ hh).trans e⟩
theorem OwnLs.rd (h : OwnLs w lo hi G n r f) : RdLB w w.heap.size (some ⟨G, 0, none⟩) n r := fun _ => by
  obtain ⟨cs, hh, hc⟩ := h.row
  refine ⟨G, 0, rfl, ?_, fun i hi => ?_⟩
  · rcases Nat.lt_or_ge G w.heap.size with hlt | hge
    · exact hlt
    · rw [Array.getElem?_eq_none hge] at hh; cases hh
  · obtain ⟨ci, e⟩ := h.cell hi
    rw [Nat.zero_add]
    exact ⟨_, ci, e, (h.els i hi).2.2.2.rdAt⟩
/-- One of its rows is laid anew. -/
theorem OwnLs.put (h : OwnLs w lo hi G n r f) {j : Nat} (hj : j < n) (ho : Only w w' (some ⟨f j, 0, none⟩) (r j).n) (hn : (r' j).n = (r j).n) (hv : OwnVb w' (f j) 4 (r j).n (r j).n (r' j).x) (he : ∀ i, i < n → i ≠ j → r' i = r i) : OwnLs w' lo hi G n r' f := by
  obtain ⟨g1, g2, ⟨cs, hh, hc⟩, hel, hi'⟩ := h
  have hne : ∀ k, k ≠ f j → k < w.heap.size → w'.heap[k]? = w.heap[k]? := fun k hk hl => ho.block k hl (.inr fun a ha => by cases ha; exact hk)
  have hG : G < w.heap.size := by
    rcases Nat.lt_or_ge G w.heap.size with hlt | hge
    · exact hlt
    · rw [Array.getElem?_eq_none hge] at hh; cases hh
  refine ⟨g1, g2, ⟨cs, (hne G (fun e => (hel j hj).2.2.1 e.symm) hG).trans hh, fun i hi0 => ?_⟩, fun i hi0 => ?_, hi'⟩
  · obtain ⟨ci, e⟩ := hc i hi0
    by_cases ei : i = j
    · subst ei; rw [hn]; exact ⟨ci, e⟩
    · rw [he i hi0 ei]; exact ⟨ci, e⟩
  · obtain ⟨a, b, c, d⟩ := hel i hi0
    by_cases ei : i = j
    · subst ei; rw [hn]; exact ⟨a, b, c, hv⟩
    · rw [he i hi0 ei]
      exact ⟨a, b, c, d.at_ (hne _ (hi' i j hi0 hj ei) d.lt)⟩
end

/-- The rows that the marking lays: the first j of them. -/
def mkLs (k : Int) (r : Nat → LsB) (j i : Nat) : LsB := if i < j then ⟨(r i).n, mkBl (k + totB r i)⟩ else r i
theorem mkLs_n (k : Int) (r : Nat → LsB) (j i : Nat) : (mkLs k r j i).n = (r i).n := by unfold mkLs; split <;> rfl

end Go.Proofs.Ythjcbaccoogloaa

namespace Go.Proofs.Ythjcbaccoogloaa
open Go.ChangeShapes Go.WideShapes Go.ChangeAt Go.RowKit

/-- The full domain of a cell. -/
def fulL (s : Lst) (i : Nat) : LsB := ⟨(s.x i + 1).toNat, fun _ => true⟩

/-- A row of k rows of Booleans that is being built, in blocks of the range. -/
structure BL (w : World) (lo hi : Nat) (V : Value) (k : Nat) (r : Nat → LsB) (f : Nat → Nat) : Prop where
  own : ∃ xs : List Value, w.ownsRow lo 49 1 V k xs ∧ ∀ i, i < k → ∃ ci, xs[i]? = some (.slice (some ⟨f i, 0, none⟩) (r i).n ci)
  top : ∀ j, V.ownBlock = some j → j < hi
  els : ∀ i, i < k → lo ≤ f i ∧ f i < hi ∧ OwnVb w (f i) 4 (r i).n (r i).n (r i).x
  inj : ∀ i j, i < k → j < k → i ≠ j → f i ≠ f j
section
variable {w w' W : World} {lo hi hi' k m n g : Nat} {V : Value} {r : Nat → LsB} {f : Nat → Nat} {row : Option Nat}
theorem BL.kept (h : BL w lo hi V k r f) (hg : w.grownBy w' row) (ho : ∀ j, row = some j → j < lo ∨ hi ≤ j) : BL w' lo hi V k r f := by
  obtain ⟨⟨xs, h0, h1⟩, h2, h3, h4⟩ := h
  refine ⟨⟨xs, h0.kept hg ?_, h1⟩, h2, fun i hi0 => ?_, h4⟩
  · cases e : V.ownBlock with
    | none => exact .inl rfl
    | some j =>
      right
      intro e'
      have := ho j e'.symm
      have := (h0.lt _ e).1
      have := h2 j e
      omega
  · obtain ⟨a, b, c⟩ := h3 i hi0
    exact ⟨a, b, c.at_ (hg.block _ c.lt (fun e => by have := ho _ e.symm; omega))⟩
theorem BL.more (h : BL w lo hi V k r f) (hh : hi ≤ hi') : BL w lo hi' V k r f :=
  ⟨h.own, fun j e => by have := h.top j e; omega, fun i hi0 => by obtain ⟨a, b, c⟩ := h.els i hi0; exact ⟨a, by omega, c⟩, h.inj⟩
theorem bl_gb (hb : Below w.heap.size w w') : w.grownBy w' none := ⟨hb.os, hb.tape, hb.output, hb.size, fun k hk _ => hb.block k hk⟩
theorem BL.bel (h : BL w lo hi V k r f) (hb : Below w.heap.size w w') : BL w' lo hi V k r f := h.kept (bl_gb hb) (fun j e => by cases e)
theorem BL.lt (h : BL w lo hi V k r f) : ∀ j, V.ownBlock = some j → lo ≤ j ∧ j < w.heap.size ∧ j < hi := fun j e => by
  obtain ⟨xs, h0, _⟩ := h.own
  exact ⟨(h0.lt j e).1, (h0.lt j e).2, h.top j e⟩
theorem BL.nilL : BL (w.alloc (.cells #[] 49)) w.heap.size (w.alloc (.cells #[] 49)).heap.size (.slice (some ⟨w.heap.size, 0, none⟩) 0 0) 0 r f :=
  ⟨⟨[], by simpa using World.ownsRow_lit w #[] 0 (Nat.le_refl _) (by unfold maxLen; omega) (by simp), fun i hi => by omega⟩, fun j e => by cases e; simp, fun i hi => by omega, fun i j hi => by omega⟩
theorem BL.nil0 : BL w lo hi (.slice none 0 0) 0 r f := ⟨⟨[], World.ownsRow_nil _ _ _ _, fun i hi => by omega⟩, (fun j e => by cases e), fun i hi => by omega, fun i j hi => by omega⟩
theorem BL.head (h : BL w lo hi V k r f) : ∃ A cap, V = .slice A k cap := by
  obtain ⟨xs, h0, _⟩ := h.own
  rcases h0.2 with ⟨hov, hk⟩ | ⟨g, cap, cur, hov, _⟩
  · exact ⟨none, 0, by rw [hk]; exact hov⟩
  · exact ⟨_, cap, hov⟩
theorem BL.done (h : BL w lo hi V n r f) (hn : 0 < n) : ∃ G cap, V = .slice (some ⟨G, 0, none⟩) n cap ∧ OwnLs w lo hi G n r f := by
  obtain ⟨⟨xs, h0, h1⟩, h2, h3, h4⟩ := h
  rcases id h0.2 with ⟨_, hk⟩ | ⟨G, cap, cur, rfl, hg, hh, hc, _, hs, ht⟩
  · omega
  · refine ⟨G, cap, rfl, hg, h2 G rfl, ⟨cur, hh, fun i hi0 => ?_⟩, fun i hi0 => ?_, h4⟩
    · obtain ⟨ci, e⟩ := h1 i hi0
      refine ⟨ci, ?_⟩
      rw [← ht, List.getElem?_take_of_lt (by omega)] at e
      rw [← Array.getElem?_toList]; exact e
    · obtain ⟨a, b, c⟩ := h3 i hi0
      refine ⟨a, b, fun e => ?_, c⟩
      obtain ⟨cs, hc, _⟩ := c
      rw [e, hh] at hc
      cases hc
theorem BL.fr (h : BL w lo hi V k r f) {f' : Nat → Nat} (he : ∀ i, i < k → f' i = f i) : BL w lo hi V k r f' := by
  obtain ⟨⟨xs, h0, h1⟩, h2, h3, h4⟩ := h
  exact ⟨⟨xs, h0, fun i hi0 => by rw [he i hi0]; exact h1 i hi0⟩, h2, fun i hi0 => by rw [he i hi0]; exact h3 i hi0, fun i j a b c => by rw [he i a, he j b]; exact h4 i j a b c⟩

set_option maxRecDepth 100000 in
set_option maxHeartbeats 800000 in
/-- The append of one row. -/
theorem wp_bl1 {o : Oper} {a : Act} {K : Act → World → Prop} {Q : Exit → Act → World → Prop} (s x : Operand)
    (ho : o.op = .call { callee := .builtin .append, args := #[s, x], argTypes := #[43, 43] })
    (h : BL W lo hi V k r f) (hlo : lo ≤ W.heap.size) (hs : a.eval s = V) {H : Nat} (hx : a.eval x = .slice (some ⟨H, 0, none⟩) 1 1) {ci : Nat} {T' : TypeId} (hnew : W.heap[H]? = some (.cells #[.slice (some ⟨f k, 0, none⟩) (r k).n ci] T' (0, 0)))
    (hel : OwnVb W (f k) 4 (r k).n (r k).n (r k).x) (hf1 : hi ≤ f k) (hlh : lo ≤ hi) (hk : k ≤ 1000)
    (hK : ∀ g cap' w', BL w' lo w'.heap.size (.slice (some ⟨g, 0, none⟩) (k + 1) cap') (k + 1) r f → W.grownBy w' V.ownBlock → K (a.put o.dst (.slice (some ⟨g, 0, none⟩) (k + 1) cap')) w') (hhi : hi ≤ W.heap.size) :
    o.wp Try.prog a W K Q := by
  obtain ⟨i0, hi0, hz0, hz1, hz2⟩ := info_parts Try.infoBS
  obtain ⟨⟨xs, h0, h1⟩, h2, h3, h4⟩ := h
  refine wp_append_lies _ s x 43 ho lo 49 i0 _ 1 _ Try.underlying43 hi0 hz0 hz1 hz2 rfl (by omega) V k _ hs h0 ⟨H, 0, none⟩ 1 1 [.slice (some ⟨f k, 0, none⟩) (r k).n ci] hx (by rfl)
    (World.news_of_block hnew) (by simp [Value.oneCell']) (by omega) (by unfold maxLen; omega) (by omega) hlo W.heap.size rfl ?_
  intro g cap' w' hown hg _ hgl
  have hgs := hg.size
  have hty : ∀ j, V.ownBlock = some j → ∃ cs, W.heap[j]? = some (.cells cs 49 (0, 0)) := fun j e => by
    rcases id h0.2 with ⟨rfl, _⟩ | ⟨g, cap, cur, rfl, hg, hh, _⟩
    · cases e
    · cases e; exact ⟨cur, hh⟩
  have hst : ∀ (b n' : Nat) (x' : Nat → Bool), OwnVb W b 4 n' n' x' → OwnVb w' b 4 n' n' x' := fun b n' x' hv => hv.at_ (hg.block b hv.lt (fun e => by
    obtain ⟨cs, hc⟩ := hty b e.symm
    obtain ⟨cs', hc', _⟩ := hv
    rw [hc] at hc'
    cases hc'))
  refine hK g cap' w' ⟨⟨_, hown, fun i hi1 => ?_⟩, fun j e => by cases e; exact hgl, fun i hi1 => ?_, fun i j a b c => ?_⟩ hg
  · by_cases e : i = k
    · subst e
      refine ⟨ci, ?_⟩
      rw [List.getElem?_append_right (by rw [h0.1]; omega), h0.1]
      simp
    · obtain ⟨ci', e'⟩ := h1 i (by omega)
      refine ⟨ci', ?_⟩
      rw [List.getElem?_append_left (by rw [h0.1]; omega)]
      exact e'
  · by_cases e : i = k
    · subst e
      exact ⟨by omega, by have := hel.lt; omega, hst _ _ _ hel⟩
    · obtain ⟨a', b', c'⟩ := h3 i (by omega)
      exact ⟨a', by omega, hst _ _ _ c'⟩
  · by_cases e : i = k
    · subst e
      obtain ⟨_, b', _⟩ := h3 j (by omega)
      omega
    · by_cases e2 : j = k
      · subst e2
        obtain ⟨_, b', _⟩ := h3 i (by omega)
        omega
      · exact h4 i j (by omega) (by omega) c
end

/-- A row of Booleans, all true, that is being built. -/
def TT8 (w : World) (lo : Nat) (V : Value) (k : Nat) : Prop := w.ownsRow lo 4 1 V k (List.replicate k (.bool true))
theorem TT8.own {w : World} {lo k : Nat} {V : Value} (h : TT8 w lo V k) (hk : 0 < k) : ∃ g cap, V = .slice (some ⟨g, 0, none⟩) k cap ∧ lo ≤ g ∧ OwnVb w g 4 k k (fun _ => true) := by
  rcases h.2 with ⟨_, h0⟩ | ⟨g, cap, cur, rfl, hg, hh, hc, _, hs, ht⟩
  · omega
  · refine ⟨g, cap, rfl, hg, cur, hh, by omega, fun i hi => ?_⟩
    have : (cur.toList.take (k * 1))[i]? = some (.bool true) := by rw [ht, List.getElem?_replicate, if_pos hi]
    rw [List.getElem?_take_of_lt (by omega)] at this
    rw [← Array.getElem?_toList]; exact this
theorem tt_lit (w : World) : TT8 (w.alloc (.cells #[] 4)) w.heap.size (.slice (some ⟨w.heap.size, 0, none⟩) 0 0) 0 := by unfold TT8; simpa using World.ownsRow_lit w #[] 0 (Nat.le_refl _) (by unfold maxLen; omega) (by simp)

set_option maxRecDepth 100000 in
set_option maxHeartbeats 3200000 in
theorem l8Make_any (s : Lst) (n : Nat) (As Ar : Option Addr) (cs cr : Nat) (w : World) (p0 : 1 ≤ s.n) (p1 : s.n ≤ 5) (hok : prE (fun i => betB 0 3 (s.x i)) s.n = true) (hs : RdI w w.heap.size As s.n s.x) :
    Calls Try.prog 65 #[.agg #[.slice As s.n cs, .slice Ar n cr], .bool true] w fun e w' => ∃ A cap, e = .returned (.slice A s.n cap) ∧ RdLB w' w'.heap.size A s.n (fulL s) ∧ Below w.heap.size w w' := by
  obtain ⟨sn, x⟩ := s
  simp only at p0 p1 hok hs ⊢
  have HOK := Lib.hid (fun k (hk : k < sn) => size_at (s := ⟨sn, x⟩) hok hk)
  have HS := Lib.hid hs
  clear hok hs
  obtain ⟨ib, hib, hiz0, hiz1, hiz2⟩ := info_parts Try.infoBool
  have HIB := Lib.hid hib
  have HIZ := Lib.hid (show ib.zero = some (.bool false) ∧ ib.size = 1 ∧ ib.bytes = 1 from ⟨hiz0, hiz1, hiz2⟩)
  clear hib hiz0 hiz1 hiz2
  go_enter Try.func65, Try.ntmps65
  go_wp2
  have a0 : ((w.alloc (.cells #[.slice As sn cs, .slice Ar n cr] 26)).alloc (.cells #[] 49)).cell? ⟨w.heap.size, 0, none⟩ = some (.slice As sn cs) := by go_simp
  have HB := Lib.hid (bl_alloc (bl_alloc (Below.refl w.heap.size w) (.cells #[.slice As sn cs, .slice Ar n cr] 26)) (.cells #[] 49))
  have B0 := Lib.hid (BL.nilL (w := w.alloc (.cells #[.slice As sn cs, .slice Ar n cr] 26)) (r := fulL ⟨sn, x⟩) (f := fun _ => 0))
  have hz : (w.alloc (.cells #[.slice As sn cs, .slice Ar n cr] 26)).heap.size = w.heap.size + 1 := by simp
  rw [hz] at B0
  clear hz
  have A0 := Lib.hid a0
  have hz1 : ((w.alloc (.cells #[.slice As sn cs, .slice Ar n cr] 26)).alloc (.cells #[] 49)).heap.size = w.heap.size + 1 + 1 := by simp
  clear a0
  generalize ((w.alloc (.cells #[.slice As sn cs, .slice Ar n cr] 26)).alloc (.cells #[] 49)) = w1 at *
  go_loopw [5, 6] (fun v c wr => ∃ (k : Nat) (f : Nat → Nat), k ≤ sn ∧ c = .int .i64 k ∧ BL wr (w.heap.size + 1) wr.heap.size v k (fulL ⟨sn, x⟩) f ∧ wr.cell? ⟨w.heap.size, 0, none⟩ = some (.slice As sn cs) ∧ Below w.heap.size w wr ∧ w.heap.size + 1 < wr.heap.size) (fun _ c _ => sn - (intOf c).toNat)
  case atStart => exact ⟨0, _, Nat.zero_le _, rfl, B0.out, A0.out, HB.out, by omega⟩
  case round =>
    obtain ⟨k, f, hk, rfl, hbl, a0, hb, hzr⟩ := hrel
    have BLk := Lib.hid hbl
    have HBk := Lib.hid hb
    obtain ⟨Ao, capo, rfl⟩ := hbl.head
    clear hbl B0 A0 HB
    by_cases hlt : k < sn
    · have hlt' : (k : Int) < (sn : Int) := by omega
      have hk0 : (0 : Int) ≤ (k : Int) := by omega
      obtain ⟨x0, x3⟩ := HOK.out k hlt
      obtain ⟨m, hm⟩ : ∃ m : Nat, x k + 1 = (m : Int) := ⟨(x k + 1).toNat, by omega⟩
      go_wp2
      have ts0 := Lib.hid (tt_lit wr)
      have HA0 := Lib.hid (bl_alloc (Below.refl wr.heap.size wr) (.cells #[] 4))
      have BL0 := Lib.hid (BLk.out.bel HA0.out)
      have HB0 := Lib.hid (bl_trans HBk.out HA0.out)
      have a1 := Lib.hid (kc HA0.out a0)
      have hz0 : wr.heap.size ≤ (wr.alloc (.cells #[] 4)).heap.size := HA0.out.size
      obtain ⟨L, hL⟩ : ∃ L, wr.heap.size = L := ⟨_, rfl⟩
      rw [hL] at ts0 BL0 hz0 hzr ⊢
      clear BLk HBk a0 HA0 hL
      generalize (wr.alloc (.cells #[] 4)) = w7 at *
      go_loopw [7, 8] (fun v c wq => ∃ t : Nat, t ≤ m ∧ c = .int .i64 t ∧ TT8 wq L v t ∧ BL wq (w.heap.size + 1) L (.slice Ao k capo) k (fulL ⟨sn, x⟩) f ∧ L ≤ wq.heap.size ∧ wq.cell? ⟨w.heap.size, 0, none⟩ = some (.slice As sn cs) ∧ Below w.heap.size w wq) (fun _ c _ => m - (intOf c).toNat)
      case atStart => exact ⟨0, Nat.zero_le _, rfl, ts0.out, BL0.out, hz0, a1.out, HB0.out⟩
      case round =>
        obtain ⟨t, ht, rfl, hts, hbl, hsq, a0, hb⟩ := hrel
        have TSq := Lib.hid hts
        have BLq := Lib.hid hbl
        have HBq := Lib.hid hb
        obtain ⟨bb, off, rfl, hbb, hcs⟩ := (HS.out.below hb) (by omega)
        have cx := hcs k hlt
        clear hts hbl hb ts0 BL0 HB0 a1 hcs
        by_cases htm : t < m
        · have htx : (t : Int) ≤ x k := by omega
          have HA8 := Lib.hid (bl_alloc (Below.refl wr.heap.size wr) (.cells #[.bool true] 4))
          have hlt2 := TSq.out.lt
          go_wp2_with (at_builtin; refine wpList_plain (by rfl) fun K' hK' => ?_; refine wp_append_lies _ _ _ 49 (by rfl) L 4 ib _ 1 1 Try.underlying49 HIB.out HIZ.out.1 HIZ.out.2.1 HIZ.out.2.2 rfl (by omega) _ t _ (by rfl) (row_below' TSq.out HA8.out) ⟨wr.heap.size, 0, none⟩ 1 1 [.bool true] (by rfl) (by rfl) (World.news_of_block (heap_alloc_new wr _)) (by simp [Value.oneCell']) (by omega) (by unfold maxLen; omega) (by omega) (by first | (simp; done) | (simp; omega)) _ rfl ?_; intro gg cap1 w9 hts9 hgr9 _ _; rw [← List.replicate_succ'] at hts9; refine hK' _ _ ?_; clear hK' K')
          go_roundw
          case rel => exact ⟨t + 1, by omega, by go_num, hts9, (BLq.out.bel HA8.out).kept hgr9 (fun b e => by have := hlt2 b e; omega), by have h1 := HA8.out.size; have h2 := hgr9.size; omega, (World.cell?_of_block (a := ⟨w.heap.size, 0, none⟩) (hgr9.block w.heap.size (by have := HA8.out.size; omega) (fun e => by have := hlt2 _ e.symm; omega))).trans (kc HA8.out a0), (bl_trans HBq.out HA8.out).grown hgr9 (by have := HA8.out.size; omega) (fun b e => by have := hlt2 b e; omega)⟩
          case measure => simp [intOf]; omega
        · obtain rfl : t = m := by omega
          have htx : ¬ (t : Int) ≤ x k := by omega
          obtain ⟨g, cap, e, hLg, hv⟩ := TSq.out.own (by omega)
          cases e
          have HA8 := Lib.hid (bl_alloc (Below.refl wr.heap.size wr) (.cells #[.slice (some ⟨g, 0, none⟩) t cap] 49))
          have hfk : (fun i => if i = k then g else f i) k = g := if_pos rfl
          have hrk : fulL ⟨sn, x⟩ k = ⟨t, fun _ => true⟩ := by unfold fulL; rw [show (x k + 1).toNat = t by omega]
          have BL9 := Lib.hid ((BLq.out.bel HA8.out).fr (f' := fun i => if i = k then g else f i) (fun i hi => if_neg (by omega)))
          have HV9 := Lib.hid (hv.below HA8.out)
          have hoL := (BLq.out.bel HA8.out).lt
          have hNew : (wr.alloc (.cells #[.slice (some ⟨g, 0, none⟩) t cap] 49)).heap[wr.heap.size]? = some (.cells #[.slice (some ⟨(fun i => if i = k then g else f i) k, 0, none⟩) (fulL ⟨sn, x⟩ k).n cap] 49 (0, 0)) := by
            rw [hfk, hrk]; exact heap_alloc_new wr _
          have HNew := Lib.hid hNew
          have HEl := Lib.hid (show OwnVb (wr.alloc (.cells #[.slice (some ⟨g, 0, none⟩) t cap] 49)) ((fun i => if i = k then g else f i) k) 4 (fulL ⟨sn, x⟩ k).n (fulL ⟨sn, x⟩ k).n (fulL ⟨sn, x⟩ k).x by rw [hfk, hrk]; exact HV9.out)
          have hzz : L ≤ (wr.alloc (.cells #[.slice (some ⟨g, 0, none⟩) t cap] 49)).heap.size := by have := HA8.out.size; omega
          have hfg : L ≤ (fun i => if i = k then g else f i) k := by rw [hfk]; exact hLg
          clear hv hNew
          go_wp2_with (at_builtin; refine wpList_plain (by rfl) fun K' hK' => ?_; refine wp_bl1 (ci := cap) _ _ (by rfl) BL9.out (by omega) (by rfl) (by rfl) HNew.out HEl.out hfg (by omega) (by omega) ?_ hzz; intro gg cap1 w9 hbl9 hgr9; refine hK' _ _ ?_; clear hK' K')
          go_roundw
          case rel => exact ⟨k + 1, _, by omega, by go_num, hbl9, (World.cell?_of_block (a := ⟨w.heap.size, 0, none⟩) (hgr9.block w.heap.size (by omega) (fun e => by have := hoL _ e.symm; omega))).trans (kc HA8.out a0), (bl_trans HBq.out HA8.out).grown hgr9 (by omega) (fun b e => by have := hoL b e; omega), by have := hgr9.size; omega⟩
          case measure => simp [intOf]; omega
    · have e : k = sn := by omega
      subst e
      obtain ⟨G, cap, e, hO⟩ := BLk.out.done (by omega)
      cases e
      go_wp2
      go_ret
      exact ⟨_, _, rfl, hO.rd, HBk.out⟩
end Go.Proofs.Ythjcbaccoogloaa

namespace Go.Proofs.Ythjcbaccoogloaa
open Go.ChangeShapes Go.WideShapes Go.ChangeAt Go.RowKit

set_option maxRecDepth 100000 in
set_option maxHeartbeats 800000 in
theorem mul64_any (c : Int) (w : World) (hc : c = 1 ∨ c = 2 ∨ c = 3 ∨ c = 4) :
    Calls Try.prog 116 #[.int .u64 1, .int .u64 c] w fun e w' => e = .returned (.tuple #[.int .u64 0, .int .u64 c]) ∧ w = w' := by
  rcases hc with rfl | rfl | rfl | rfl
  · go_enter Try.func116, Try.ntmps116
    go_wp2
    refine bodyPost_ret (v := .tuple #[.int .u64 0, .int .u64 1]) (by simp [results, Try.results116, go_sem]; decide +kernel) rfl ?_
    exact ⟨rfl, rfl⟩
  · go_enter Try.func116, Try.ntmps116
    go_wp2
    refine bodyPost_ret (v := .tuple #[.int .u64 0, .int .u64 2]) (by simp [results, Try.results116, go_sem]; decide +kernel) rfl ?_
    exact ⟨rfl, rfl⟩
  · go_enter Try.func116, Try.ntmps116
    go_wp2
    refine bodyPost_ret (v := .tuple #[.int .u64 0, .int .u64 3]) (by simp [results, Try.results116, go_sem]; decide +kernel) rfl ?_
    exact ⟨rfl, rfl⟩
  · go_enter Try.func116, Try.ntmps116
    go_wp2
    refine bodyPost_ret (v := .tuple #[.int .u64 0, .int .u64 4]) (by simp [results, Try.results116, go_sem]; decide +kernel) rfl ?_
    exact ⟨rfl, rfl⟩

set_option maxRecDepth 100000 in
set_option maxHeartbeats 800000 in
theorem mul_any (c : Int) (w : World) (hc : c = 1 ∨ c = 2 ∨ c = 3 ∨ c = 4) :
    Calls Try.prog 95 #[.int .u64 1, .int .u64 c] w fun e w' => e = .returned (.tuple #[.int .u64 0, .int .u64 c]) ∧ w = w' := by
  have Hm := Lib.hid (fun X => mul64_any c X hc)
  rcases hc with rfl | rfl | rfl | rfl
  · go_enter Try.func95, Try.ntmps95
    go_wp2_with (go_at_call 116; refine (Hm.out _).mono ?_; rintro e w' ⟨rfl, rfl⟩)
    refine bodyPost_ret (v := .tuple #[.int .u64 0, .int .u64 1]) (by simp [results, Try.results95, go_sem]) rfl ?_
    exact ⟨rfl, rfl⟩
  · go_enter Try.func95, Try.ntmps95
    go_wp2_with (go_at_call 116; refine (Hm.out _).mono ?_; rintro e w' ⟨rfl, rfl⟩)
    refine bodyPost_ret (v := .tuple #[.int .u64 0, .int .u64 2]) (by simp [results, Try.results95, go_sem]) rfl ?_
    exact ⟨rfl, rfl⟩
  · go_enter Try.func95, Try.ntmps95
    go_wp2_with (go_at_call 116; refine (Hm.out _).mono ?_; rintro e w' ⟨rfl, rfl⟩)
    refine bodyPost_ret (v := .tuple #[.int .u64 0, .int .u64 3]) (by simp [results, Try.results95, go_sem]) rfl ?_
    exact ⟨rfl, rfl⟩
  · go_enter Try.func95, Try.ntmps95
    go_wp2_with (go_at_call 116; refine (Hm.out _).mono ?_; rintro e w' ⟨rfl, rfl⟩)
    refine bodyPost_ret (v := .tuple #[.int .u64 0, .int .u64 4]) (by simp [results, Try.results95, go_sem]) rfl ?_
    exact ⟨rfl, rfl⟩

theorem step_of8 {ops : Array Oper} {o : Oper} {a : Act} {K : Act → World → Prop} {Q : Exit → Act → World → Prop} {E : Prop} {W : World} (hgd : o.guard = none) (h : Oper.wp Try.prog o a W K Q) :
    if Region.wanted o (yielded ops a.tmps) = true then Oper.wp Try.prog o a W K Q else E := by
  have hw : Region.wanted o (yielded ops a.tmps) = true := by simp [Region.wanted, hgd]
  rw [if_pos hw]
  exact h
set_option maxHeartbeats 800000 in
/-- A copy within rows of Booleans, at any place of a region. -/
theorem wp_cpB {o : Oper} {a : Act} {K : Act → World → Prop} {Q : Exit → Act → World → Prop} {W : World} (d s : Operand)
    (ho : o.op = .call { callee := .builtin .copy, args := #[d, s], argTypes := #[49, 49] })
    (g off dLen dCap : Nat) (ad : Addr) (sLen sCap : Nat) (hd : a.eval d = .slice (some ⟨g, off, none⟩) dLen dCap) (hs : a.eval s = .slice (some ad) sLen sCap)
    (cur : Array Value) (t : TypeId) (hg : W.heap[g]? = some (.cells cur t (0, 0))) (cs : List Value) (hn : cs.length = Nat.min sLen dLen)
    (hsrc : ∀ j v, cs[j]? = some v → W.cell? (ad.add j) = some v) (hfit : off + cs.length ≤ cur.size) (h1 : ∀ v ∈ cs, v.oneCell' = true)
    (cur' : Array Value) (hrow : (cur.toList.take off ++ cs ++ cur.toList.drop (off + cs.length)).toArray = cur') (z : Int) (hz : goInt cs.length = .int .i64 z)
    (h : K (a.put o.dst (.int .i64 z)) (W.setRow g cur')) : o.wp Try.prog a W K Q := by
  have hrun := run_copy_row (P := Try.prog) W 49 49 o.type 4 g off dLen dCap ad sLen sCap cur t cs Try.underlying49 (by kernel_rfl) hg hn hsrc hfit h1
  rw [hrow, hz] at hrun
  unfold Oper.wp
  simp [execOp, ho, resolve, invoke, builtin, hd, hs, hrun, Result.andThen]
  exact h
theorem mc_rep (n : Nat) : madeCells #[Value.bool false] n = (List.replicate n (.bool false)).toArray := by
  apply Array.ext'
  rw [toList_madeCells_one (.bool false) n]
/-- A row of c Booleans of which the first t are true. -/
def rwB (c t : Nat) : List Value := List.replicate t (.bool true) ++ List.replicate (c - t) (.bool false)
theorem rwB_len {c t : Nat} (h : t ≤ c) : (rwB c t).length = c := by unfold rwB; simp; omega
theorem rwB_next {c t m : Nat} (h : t + m ≤ c) : (rwB c t).take t ++ (List.replicate m (.bool true) ++ (rwB c t).drop (t + m)) = rwB c (t + m) := by
  unfold rwB
  have e1 : (List.replicate t (Value.bool true) ++ List.replicate (c - t) (Value.bool false)).take t = List.replicate t (Value.bool true) := by
    rw [List.take_append_of_le_length (by simp)]
    exact List.take_of_length_le (by simp)
  have e2 : (List.replicate t (Value.bool true) ++ List.replicate (c - t) (Value.bool false)).drop (t + m) = List.replicate (c - (t + m)) (Value.bool false) := by
    rw [List.drop_append, List.drop_of_length_le (by simp), List.nil_append, List.drop_replicate, List.length_replicate]
    congr 1
    omega
  rw [e1, e2, ← List.append_assoc, List.replicate_append_replicate]
theorem rwB_at {c t j : Nat} (h : j < t) : (rwB c t)[j]? = some (.bool true) := by
  unfold rwB
  rw [List.getElem?_append_left (by simpa using h), List.getElem?_replicate, if_pos h]
theorem one_rep (m : Nat) : ∀ v ∈ List.replicate m (Value.bool true), v.oneCell' = true := fun v hv => by
  rw [List.eq_of_mem_replicate hv]; rfl

set_option maxRecDepth 100000 in
set_option maxHeartbeats 6400000 in
theorem repeat1 (H cp : Nat) (w : World) (hH : w.cell? ⟨H, 0, none⟩ = some (.bool true)) :
    Calls Try.prog 63 #[.slice (some ⟨H, 0, none⟩) 1 cp, .int .i64 1] w fun e w' => ∃ g, e = .returned (.slice (some ⟨g, 0, none⟩) 1 1) ∧ w.heap.size ≤ g ∧ OwnVb w' g 4 1 1 (fun _ => true) ∧ Below w.heap.size w w' := by
  have Hm := Lib.hid (fun X => mul_any (1 : Int) X (by omega))
  obtain ⟨i0, hi, hz0, hz1, hz2⟩ := info_parts Try.infoBool
  have hmk := fun W (z : Int) (m : Nat) (hz : z = m) (hm : m ≤ 4) => run_make (P := Try.prog) W 49 4 i0 _ Try.underlying49 hi hz0 .i64 .i64 z m (by omega) (by omega) (by rw [hz2]; omega) (by omega)
  rw [hz1] at hmk
  clear hi hz0 hz1 hz2
  · have hmk1 : ∀ W : World, (Instr.makeSlice 49 (.int .i64 1) (.int .i64 1)).run Try.prog W = .ok (.slice (some ⟨W.heap.size, 0, none⟩) 1 1) (W.alloc (.cells (rwB 1 0).toArray 4)) := fun W => by
      have h0 := hmk W 1 1 rfl (by omega)
      have h1 : madeCells (Value.bool false).cells (((1 : Nat) : Int).toNat * 1) = (rwB 1 0).toArray := mc_rep 1
      rw [h1] at h0
      exact h0
    clear hmk
    have HW := Lib.hid (heap_alloc_new w (.cells (rwB 1 0).toArray 4))
    have HBW := Lib.hid (bl_alloc (Below.refl w.heap.size w) (.cells (rwB 1 0).toArray 4))
    have hH1 := kc HBW.out hH
    have HSr := Lib.hid (show ∀ j v, ([Value.bool true] : List Value)[j]? = some v → (w.alloc (.cells (rwB 1 0).toArray 4)).cell? ((⟨H, 0, none⟩ : Addr).add j) = some v from fun j v hj => by
      have hj0 : j = 0 := by
        have := (List.getElem?_eq_some_iff.1 hj).1
        simpa using this
      subst hj0
      rw [Go.WideShapes.add_plain]
      exact hH1.trans (by simpa using hj))
    have HN1 := Lib.hid (show ([Value.bool true] : List Value).length = Nat.min 1 1 from rfl)
    have HF1 := Lib.hid (show 0 + ([Value.bool true] : List Value).length ≤ (rwB 1 0).toArray.size by decide)
    have HO1 := Lib.hid (show ∀ v ∈ ([Value.bool true] : List Value), v.oneCell' = true from one_rep 1)
    have HHc := Lib.hid hH
    clear hH hH1
    go_enter Try.func63, Try.ntmps63
    go_wp2_with (first | (go_at_call 95; refine (Hm.out _).mono ?_; rintro e w' ⟨rfl, rfl⟩) | (with_reducible show wpList _ _ _ _ _ _; with_reducible refine wpList_copy_own rfl (.tmp 31) (.tmp 32) 49 49 rfl 4 Try.underlying49 (by kernel_rfl) w.heap.size 0 1 1 ⟨H, 0, none⟩ 1 cp rfl rfl _ _ HW.out [.bool true] HN1.out HSr.out HF1.out HO1.out ?_))
    have HS0 := Lib.hid (setRow_heap (w.alloc (.cells (rwB 1 0).toArray 4)) w.heap.size _ (rwB 1 1).toArray 4 (0, 0) HW.out)
    have HB0 := Lib.hid (below_setRow HBW.out (Nat.le_refl _) (rwB 1 1).toArray)
    clear HW HBW HSr HN1 HF1 HO1 Hm
    go_loopw [8] (fun i wr => ∃ t : Nat, 1 ≤ t ∧ t ≤ 1 ∧ i = .int .i64 t ∧ wr.heap[w.heap.size]? = some (.cells (rwB 1 t).toArray 4 (0, 0)) ∧ Below w.heap.size w wr) (fun i _ => 1 - (intOf i).toNat)
    case atStart => exact ⟨1, by omega, by omega, rfl, HS0.out, HB0.out⟩
    case round =>
      obtain ⟨t, ht1, htc, rfl, hh, hb⟩ := hrel
      clear HS0 HB0
      have ht : t = 1 := by omega
      subst ht
      have HV := Lib.hid (show OwnVb wr w.heap.size 4 1 1 (fun _ => true) from ⟨_, hh, by decide, fun i hi => by rw [List.getElem?_toArray]; exact rwB_at hi⟩)
      go_wp2
      go_ret
      exact ⟨_, rfl, Nat.le_refl _, HV.out, hb⟩
set_option maxRecDepth 100000 in
set_option maxHeartbeats 6400000 in
theorem repeat2 (H cp : Nat) (w : World) (hH : w.cell? ⟨H, 0, none⟩ = some (.bool true)) :
    Calls Try.prog 63 #[.slice (some ⟨H, 0, none⟩) 1 cp, .int .i64 2] w fun e w' => ∃ g, e = .returned (.slice (some ⟨g, 0, none⟩) 2 2) ∧ w.heap.size ≤ g ∧ OwnVb w' g 4 2 2 (fun _ => true) ∧ Below w.heap.size w w' := by
  have Hm := Lib.hid (fun X => mul_any (2 : Int) X (by omega))
  obtain ⟨i0, hi, hz0, hz1, hz2⟩ := info_parts Try.infoBool
  have hmk := fun W (z : Int) (m : Nat) (hz : z = m) (hm : m ≤ 4) => run_make (P := Try.prog) W 49 4 i0 _ Try.underlying49 hi hz0 .i64 .i64 z m (by omega) (by omega) (by rw [hz2]; omega) (by omega)
  rw [hz1] at hmk
  clear hi hz0 hz1 hz2
  · have hmk1 : ∀ W : World, (Instr.makeSlice 49 (.int .i64 2) (.int .i64 2)).run Try.prog W = .ok (.slice (some ⟨W.heap.size, 0, none⟩) 2 2) (W.alloc (.cells (rwB 2 0).toArray 4)) := fun W => by
      have h0 := hmk W 2 2 rfl (by omega)
      have h1 : madeCells (Value.bool false).cells (((2 : Nat) : Int).toNat * 1) = (rwB 2 0).toArray := mc_rep 2
      rw [h1] at h0
      exact h0
    clear hmk
    have HW := Lib.hid (heap_alloc_new w (.cells (rwB 2 0).toArray 4))
    have HBW := Lib.hid (bl_alloc (Below.refl w.heap.size w) (.cells (rwB 2 0).toArray 4))
    have hH1 := kc HBW.out hH
    have HSr := Lib.hid (show ∀ j v, ([Value.bool true] : List Value)[j]? = some v → (w.alloc (.cells (rwB 2 0).toArray 4)).cell? ((⟨H, 0, none⟩ : Addr).add j) = some v from fun j v hj => by
      have hj0 : j = 0 := by
        have := (List.getElem?_eq_some_iff.1 hj).1
        simpa using this
      subst hj0
      rw [Go.WideShapes.add_plain]
      exact hH1.trans (by simpa using hj))
    have HN1 := Lib.hid (show ([Value.bool true] : List Value).length = Nat.min 1 2 from rfl)
    have HF1 := Lib.hid (show 0 + ([Value.bool true] : List Value).length ≤ (rwB 2 0).toArray.size by decide)
    have HO1 := Lib.hid (show ∀ v ∈ ([Value.bool true] : List Value), v.oneCell' = true from one_rep 1)
    have HHc := Lib.hid hH
    clear hH hH1
    go_enter Try.func63, Try.ntmps63
    go_wp2_with (first | (go_at_call 95; refine (Hm.out _).mono ?_; rintro e w' ⟨rfl, rfl⟩) | (with_reducible show wpList _ _ _ _ _ _; with_reducible refine wpList_copy_own rfl (.tmp 31) (.tmp 32) 49 49 rfl 4 Try.underlying49 (by kernel_rfl) w.heap.size 0 2 2 ⟨H, 0, none⟩ 1 cp rfl rfl _ _ HW.out [.bool true] HN1.out HSr.out HF1.out HO1.out ?_))
    have HS0 := Lib.hid (setRow_heap (w.alloc (.cells (rwB 2 0).toArray 4)) w.heap.size _ (rwB 2 1).toArray 4 (0, 0) HW.out)
    have HB0 := Lib.hid (below_setRow HBW.out (Nat.le_refl _) (rwB 2 1).toArray)
    clear HW HBW HSr HN1 HF1 HO1 Hm
    go_loopw [8] (fun i wr => ∃ t : Nat, 1 ≤ t ∧ t ≤ 2 ∧ i = .int .i64 t ∧ wr.heap[w.heap.size]? = some (.cells (rwB 2 t).toArray 4 (0, 0)) ∧ Below w.heap.size w wr) (fun i _ => 2 - (intOf i).toNat)
    case atStart => exact ⟨1, by omega, by omega, rfl, HS0.out, HB0.out⟩
    case round =>
      obtain ⟨t, ht1, htc, rfl, hh, hb⟩ := hrel
      clear HS0 HB0
      have ht : t = 1 ∨ t = 2 := by omega
      rcases ht with rfl | rfl
      · have HH := Lib.hid (show wr.drew.heap[w.heap.size]? = _ from hh)
        have HSr := Lib.hid (show ∀ j v, (List.replicate 1 (Value.bool true))[j]? = some v → wr.drew.cell? ((⟨w.heap.size, 0, none⟩ : Addr).add j) = some v from fun j v hj => by
          have hj0 : j < 1 := by
            have := (List.getElem?_eq_some_iff.1 hj).1
            simpa using this
          rw [Go.WideShapes.add_plain, Nat.zero_add]
          rw [List.getElem?_replicate, if_pos hj0] at hj
          refine (cell_of_row wr.drew w.heap.size _ _ _ _ hh).trans ?_
          rw [List.getElem?_toArray, rwB_at (show j < 1 by omega)]
          exact hj)
        have HN := Lib.hid (show (List.replicate 1 (Value.bool true)).length = Nat.min 1 1 from by decide)
        have HF := Lib.hid (show 1 + (List.replicate 1 (Value.bool true)).length ≤ (rwB 2 1).toArray.size by decide)
        have HT := Lib.hid (setRow_heap wr.drew w.heap.size _ (rwB 2 2).toArray 4 (0, 0) HH.out)
        have HU := Lib.hid (below_setRow (hb.drew) (Nat.le_refl _) (rwB 2 2).toArray)
        clear hh
        have HO1 := Lib.hid (one_rep 1)
        have hx := kc hb HHc.out
        go_upto_region 9 with fail
        go_region_held3 (fun w' => w'.cell? ⟨H, 0, none⟩ = some (.bool true)) (go_keep) (first | (refine step_of8 (by rfl) (wp_cpB _ _ (by rfl) w.heap.size 1 1 1 ⟨w.heap.size, 0, none⟩ 1 2 (by rfl) (by rfl) _ _ HH.out (List.replicate 1 (Value.bool true)) HN.out HSr.out HF.out HO1.out (rwB 2 2).toArray (by rfl) 1 (by rfl) ?_); replace hx := kc HU.out HHc.out))
        simp only [show IntKind.i64.wrap 2 = 2 from by decide]
        go_roundw
        case rel => exact ⟨_, _, _, _, _, _, _, _, _, _, _, _, _, _, ⟨2, by omega, by omega, rfl, HT.out, HU.out⟩, rfl⟩
        case measure => simp [intOf]
      · have HV := Lib.hid (show OwnVb wr w.heap.size 4 2 2 (fun _ => true) from ⟨_, hh, by decide, fun i hi => by rw [List.getElem?_toArray]; exact rwB_at hi⟩)
        go_wp2
        go_ret
        exact ⟨_, rfl, Nat.le_refl _, HV.out, hb⟩
set_option maxRecDepth 100000 in
set_option maxHeartbeats 6400000 in
theorem repeat3 (H cp : Nat) (w : World) (hH : w.cell? ⟨H, 0, none⟩ = some (.bool true)) :
    Calls Try.prog 63 #[.slice (some ⟨H, 0, none⟩) 1 cp, .int .i64 3] w fun e w' => ∃ g, e = .returned (.slice (some ⟨g, 0, none⟩) 3 3) ∧ w.heap.size ≤ g ∧ OwnVb w' g 4 3 3 (fun _ => true) ∧ Below w.heap.size w w' := by
  have Hm := Lib.hid (fun X => mul_any (3 : Int) X (by omega))
  obtain ⟨i0, hi, hz0, hz1, hz2⟩ := info_parts Try.infoBool
  have hmk := fun W (z : Int) (m : Nat) (hz : z = m) (hm : m ≤ 4) => run_make (P := Try.prog) W 49 4 i0 _ Try.underlying49 hi hz0 .i64 .i64 z m (by omega) (by omega) (by rw [hz2]; omega) (by omega)
  rw [hz1] at hmk
  clear hi hz0 hz1 hz2
  · have hmk1 : ∀ W : World, (Instr.makeSlice 49 (.int .i64 3) (.int .i64 3)).run Try.prog W = .ok (.slice (some ⟨W.heap.size, 0, none⟩) 3 3) (W.alloc (.cells (rwB 3 0).toArray 4)) := fun W => by
      have h0 := hmk W 3 3 rfl (by omega)
      have h1 : madeCells (Value.bool false).cells (((3 : Nat) : Int).toNat * 1) = (rwB 3 0).toArray := mc_rep 3
      rw [h1] at h0
      exact h0
    clear hmk
    have HW := Lib.hid (heap_alloc_new w (.cells (rwB 3 0).toArray 4))
    have HBW := Lib.hid (bl_alloc (Below.refl w.heap.size w) (.cells (rwB 3 0).toArray 4))
    have hH1 := kc HBW.out hH
    have HSr := Lib.hid (show ∀ j v, ([Value.bool true] : List Value)[j]? = some v → (w.alloc (.cells (rwB 3 0).toArray 4)).cell? ((⟨H, 0, none⟩ : Addr).add j) = some v from fun j v hj => by
      have hj0 : j = 0 := by
        have := (List.getElem?_eq_some_iff.1 hj).1
        simpa using this
      subst hj0
      rw [Go.WideShapes.add_plain]
      exact hH1.trans (by simpa using hj))
    have HN1 := Lib.hid (show ([Value.bool true] : List Value).length = Nat.min 1 3 from rfl)
    have HF1 := Lib.hid (show 0 + ([Value.bool true] : List Value).length ≤ (rwB 3 0).toArray.size by decide)
    have HO1 := Lib.hid (show ∀ v ∈ ([Value.bool true] : List Value), v.oneCell' = true from one_rep 1)
    have HHc := Lib.hid hH
    clear hH hH1
    go_enter Try.func63, Try.ntmps63
    go_wp2_with (first | (go_at_call 95; refine (Hm.out _).mono ?_; rintro e w' ⟨rfl, rfl⟩) | (with_reducible show wpList _ _ _ _ _ _; with_reducible refine wpList_copy_own rfl (.tmp 31) (.tmp 32) 49 49 rfl 4 Try.underlying49 (by kernel_rfl) w.heap.size 0 3 3 ⟨H, 0, none⟩ 1 cp rfl rfl _ _ HW.out [.bool true] HN1.out HSr.out HF1.out HO1.out ?_))
    have HS0 := Lib.hid (setRow_heap (w.alloc (.cells (rwB 3 0).toArray 4)) w.heap.size _ (rwB 3 1).toArray 4 (0, 0) HW.out)
    have HB0 := Lib.hid (below_setRow HBW.out (Nat.le_refl _) (rwB 3 1).toArray)
    clear HW HBW HSr HN1 HF1 HO1 Hm
    go_loopw [8] (fun i wr => ∃ t : Nat, 1 ≤ t ∧ t ≤ 3 ∧ i = .int .i64 t ∧ wr.heap[w.heap.size]? = some (.cells (rwB 3 t).toArray 4 (0, 0)) ∧ Below w.heap.size w wr) (fun i _ => 3 - (intOf i).toNat)
    case atStart => exact ⟨1, by omega, by omega, rfl, HS0.out, HB0.out⟩
    case round =>
      obtain ⟨t, ht1, htc, rfl, hh, hb⟩ := hrel
      clear HS0 HB0
      have ht : t = 1 ∨ t = 2 ∨ t = 3 := by omega
      rcases ht with rfl | rfl | rfl
      · have HH := Lib.hid (show wr.drew.heap[w.heap.size]? = _ from hh)
        have HSr := Lib.hid (show ∀ j v, (List.replicate 1 (Value.bool true))[j]? = some v → wr.drew.cell? ((⟨w.heap.size, 0, none⟩ : Addr).add j) = some v from fun j v hj => by
          have hj0 : j < 1 := by
            have := (List.getElem?_eq_some_iff.1 hj).1
            simpa using this
          rw [Go.WideShapes.add_plain, Nat.zero_add]
          rw [List.getElem?_replicate, if_pos hj0] at hj
          refine (cell_of_row wr.drew w.heap.size _ _ _ _ hh).trans ?_
          rw [List.getElem?_toArray, rwB_at (show j < 1 by omega)]
          exact hj)
        have HN := Lib.hid (show (List.replicate 1 (Value.bool true)).length = Nat.min 1 2 from by decide)
        have HF := Lib.hid (show 1 + (List.replicate 1 (Value.bool true)).length ≤ (rwB 3 1).toArray.size by decide)
        have HT := Lib.hid (setRow_heap wr.drew w.heap.size _ (rwB 3 2).toArray 4 (0, 0) HH.out)
        have HU := Lib.hid (below_setRow (hb.drew) (Nat.le_refl _) (rwB 3 2).toArray)
        clear hh
        have HO1 := Lib.hid (one_rep 1)
        have hx := kc hb HHc.out
        go_upto_region 9 with fail
        go_region_held3 (fun w' => w'.cell? ⟨H, 0, none⟩ = some (.bool true)) (go_keep) (first | (refine step_of8 (by rfl) (wp_cpB _ _ (by rfl) w.heap.size 1 2 2 ⟨w.heap.size, 0, none⟩ 1 3 (by rfl) (by rfl) _ _ HH.out (List.replicate 1 (Value.bool true)) HN.out HSr.out HF.out HO1.out (rwB 3 2).toArray (by rfl) 1 (by rfl) ?_); replace hx := kc HU.out HHc.out))
        simp only [show IntKind.i64.wrap 2 = 2 from by decide]
        go_roundw
        case rel => exact ⟨_, _, _, _, _, _, _, _, _, _, _, _, _, _, ⟨2, by omega, by omega, rfl, HT.out, HU.out⟩, rfl⟩
        case measure => simp [intOf]
      · have HH := Lib.hid (show wr.drew.heap[w.heap.size]? = _ from hh)
        have HSr := Lib.hid (show ∀ j v, (List.replicate 1 (Value.bool true))[j]? = some v → wr.drew.cell? ((⟨w.heap.size, 0, none⟩ : Addr).add j) = some v from fun j v hj => by
          have hj0 : j < 1 := by
            have := (List.getElem?_eq_some_iff.1 hj).1
            simpa using this
          rw [Go.WideShapes.add_plain, Nat.zero_add]
          rw [List.getElem?_replicate, if_pos hj0] at hj
          refine (cell_of_row wr.drew w.heap.size _ _ _ _ hh).trans ?_
          rw [List.getElem?_toArray, rwB_at (show j < 2 by omega)]
          exact hj)
        have HN := Lib.hid (show (List.replicate 1 (Value.bool true)).length = Nat.min 2 1 from by decide)
        have HF := Lib.hid (show 2 + (List.replicate 1 (Value.bool true)).length ≤ (rwB 3 2).toArray.size by decide)
        have HT := Lib.hid (setRow_heap wr.drew w.heap.size _ (rwB 3 3).toArray 4 (0, 0) HH.out)
        have HU := Lib.hid (below_setRow (hb.drew) (Nat.le_refl _) (rwB 3 3).toArray)
        clear hh
        have HO1 := Lib.hid (one_rep 1)
        have hx := kc hb HHc.out
        go_upto_region 9 with fail
        go_region_held3 (fun w' => w'.cell? ⟨H, 0, none⟩ = some (.bool true)) (go_keep) (first | (refine step_of8 (by rfl) (wp_cpB _ _ (by rfl) w.heap.size 2 1 1 ⟨w.heap.size, 0, none⟩ 2 3 (by rfl) (by rfl) _ _ HH.out (List.replicate 1 (Value.bool true)) HN.out HSr.out HF.out HO1.out (rwB 3 3).toArray (by rfl) 1 (by rfl) ?_); replace hx := kc HU.out HHc.out))
        simp only [show IntKind.i64.wrap 3 = 3 from by decide]
        go_roundw
        case rel => exact ⟨_, _, _, _, _, _, _, _, _, _, _, _, _, _, ⟨3, by omega, by omega, rfl, HT.out, HU.out⟩, rfl⟩
        case measure => simp [intOf]
      · have HV := Lib.hid (show OwnVb wr w.heap.size 4 3 3 (fun _ => true) from ⟨_, hh, by decide, fun i hi => by rw [List.getElem?_toArray]; exact rwB_at hi⟩)
        go_wp2
        go_ret
        exact ⟨_, rfl, Nat.le_refl _, HV.out, hb⟩
set_option maxRecDepth 100000 in
set_option maxHeartbeats 6400000 in
theorem repeat4 (H cp : Nat) (w : World) (hH : w.cell? ⟨H, 0, none⟩ = some (.bool true)) :
    Calls Try.prog 63 #[.slice (some ⟨H, 0, none⟩) 1 cp, .int .i64 4] w fun e w' => ∃ g, e = .returned (.slice (some ⟨g, 0, none⟩) 4 4) ∧ w.heap.size ≤ g ∧ OwnVb w' g 4 4 4 (fun _ => true) ∧ Below w.heap.size w w' := by
  have Hm := Lib.hid (fun X => mul_any (4 : Int) X (by omega))
  obtain ⟨i0, hi, hz0, hz1, hz2⟩ := info_parts Try.infoBool
  have hmk := fun W (z : Int) (m : Nat) (hz : z = m) (hm : m ≤ 4) => run_make (P := Try.prog) W 49 4 i0 _ Try.underlying49 hi hz0 .i64 .i64 z m (by omega) (by omega) (by rw [hz2]; omega) (by omega)
  rw [hz1] at hmk
  clear hi hz0 hz1 hz2
  · have hmk1 : ∀ W : World, (Instr.makeSlice 49 (.int .i64 4) (.int .i64 4)).run Try.prog W = .ok (.slice (some ⟨W.heap.size, 0, none⟩) 4 4) (W.alloc (.cells (rwB 4 0).toArray 4)) := fun W => by
      have h0 := hmk W 4 4 rfl (by omega)
      have h1 : madeCells (Value.bool false).cells (((4 : Nat) : Int).toNat * 1) = (rwB 4 0).toArray := mc_rep 4
      rw [h1] at h0
      exact h0
    clear hmk
    have HW := Lib.hid (heap_alloc_new w (.cells (rwB 4 0).toArray 4))
    have HBW := Lib.hid (bl_alloc (Below.refl w.heap.size w) (.cells (rwB 4 0).toArray 4))
    have hH1 := kc HBW.out hH
    have HSr := Lib.hid (show ∀ j v, ([Value.bool true] : List Value)[j]? = some v → (w.alloc (.cells (rwB 4 0).toArray 4)).cell? ((⟨H, 0, none⟩ : Addr).add j) = some v from fun j v hj => by
      have hj0 : j = 0 := by
        have := (List.getElem?_eq_some_iff.1 hj).1
        simpa using this
      subst hj0
      rw [Go.WideShapes.add_plain]
      exact hH1.trans (by simpa using hj))
    have HN1 := Lib.hid (show ([Value.bool true] : List Value).length = Nat.min 1 4 from rfl)
    have HF1 := Lib.hid (show 0 + ([Value.bool true] : List Value).length ≤ (rwB 4 0).toArray.size by decide)
    have HO1 := Lib.hid (show ∀ v ∈ ([Value.bool true] : List Value), v.oneCell' = true from one_rep 1)
    have HHc := Lib.hid hH
    clear hH hH1
    go_enter Try.func63, Try.ntmps63
    go_wp2_with (first | (go_at_call 95; refine (Hm.out _).mono ?_; rintro e w' ⟨rfl, rfl⟩) | (with_reducible show wpList _ _ _ _ _ _; with_reducible refine wpList_copy_own rfl (.tmp 31) (.tmp 32) 49 49 rfl 4 Try.underlying49 (by kernel_rfl) w.heap.size 0 4 4 ⟨H, 0, none⟩ 1 cp rfl rfl _ _ HW.out [.bool true] HN1.out HSr.out HF1.out HO1.out ?_))
    have HS0 := Lib.hid (setRow_heap (w.alloc (.cells (rwB 4 0).toArray 4)) w.heap.size _ (rwB 4 1).toArray 4 (0, 0) HW.out)
    have HB0 := Lib.hid (below_setRow HBW.out (Nat.le_refl _) (rwB 4 1).toArray)
    clear HW HBW HSr HN1 HF1 HO1 Hm
    go_loopw [8] (fun i wr => ∃ t : Nat, 1 ≤ t ∧ t ≤ 4 ∧ i = .int .i64 t ∧ wr.heap[w.heap.size]? = some (.cells (rwB 4 t).toArray 4 (0, 0)) ∧ Below w.heap.size w wr) (fun i _ => 4 - (intOf i).toNat)
    case atStart => exact ⟨1, by omega, by omega, rfl, HS0.out, HB0.out⟩
    case round =>
      obtain ⟨t, ht1, htc, rfl, hh, hb⟩ := hrel
      clear HS0 HB0
      have ht : t = 1 ∨ t = 2 ∨ t = 3 ∨ t = 4 := by omega
      rcases ht with rfl | rfl | rfl | rfl
      · have HH := Lib.hid (show wr.drew.heap[w.heap.size]? = _ from hh)
        have HSr := Lib.hid (show ∀ j v, (List.replicate 1 (Value.bool true))[j]? = some v → wr.drew.cell? ((⟨w.heap.size, 0, none⟩ : Addr).add j) = some v from fun j v hj => by
          have hj0 : j < 1 := by
            have := (List.getElem?_eq_some_iff.1 hj).1
            simpa using this
          rw [Go.WideShapes.add_plain, Nat.zero_add]
          rw [List.getElem?_replicate, if_pos hj0] at hj
          refine (cell_of_row wr.drew w.heap.size _ _ _ _ hh).trans ?_
          rw [List.getElem?_toArray, rwB_at (show j < 1 by omega)]
          exact hj)
        have HN := Lib.hid (show (List.replicate 1 (Value.bool true)).length = Nat.min 1 3 from by decide)
        have HF := Lib.hid (show 1 + (List.replicate 1 (Value.bool true)).length ≤ (rwB 4 1).toArray.size by decide)
        have HT := Lib.hid (setRow_heap wr.drew w.heap.size _ (rwB 4 2).toArray 4 (0, 0) HH.out)
        have HU := Lib.hid (below_setRow (hb.drew) (Nat.le_refl _) (rwB 4 2).toArray)
        clear hh
        have HO1 := Lib.hid (one_rep 1)
        have hx := kc hb HHc.out
        go_upto_region 9 with fail
        go_region_held3 (fun w' => w'.cell? ⟨H, 0, none⟩ = some (.bool true)) (go_keep) (first | (refine step_of8 (by rfl) (wp_cpB _ _ (by rfl) w.heap.size 1 3 3 ⟨w.heap.size, 0, none⟩ 1 4 (by rfl) (by rfl) _ _ HH.out (List.replicate 1 (Value.bool true)) HN.out HSr.out HF.out HO1.out (rwB 4 2).toArray (by rfl) 1 (by rfl) ?_); replace hx := kc HU.out HHc.out))
        simp only [show IntKind.i64.wrap 2 = 2 from by decide]
        go_roundw
        case rel => exact ⟨_, _, _, _, _, _, _, _, _, _, _, _, _, _, ⟨2, by omega, by omega, rfl, HT.out, HU.out⟩, rfl⟩
        case measure => simp [intOf]
      · have HH := Lib.hid (show wr.drew.heap[w.heap.size]? = _ from hh)
        have HSr := Lib.hid (show ∀ j v, (List.replicate 2 (Value.bool true))[j]? = some v → wr.drew.cell? ((⟨w.heap.size, 0, none⟩ : Addr).add j) = some v from fun j v hj => by
          have hj0 : j < 2 := by
            have := (List.getElem?_eq_some_iff.1 hj).1
            simpa using this
          rw [Go.WideShapes.add_plain, Nat.zero_add]
          rw [List.getElem?_replicate, if_pos hj0] at hj
          refine (cell_of_row wr.drew w.heap.size _ _ _ _ hh).trans ?_
          rw [List.getElem?_toArray, rwB_at (show j < 2 by omega)]
          exact hj)
        have HN := Lib.hid (show (List.replicate 2 (Value.bool true)).length = Nat.min 2 2 from by decide)
        have HF := Lib.hid (show 2 + (List.replicate 2 (Value.bool true)).length ≤ (rwB 4 2).toArray.size by decide)
        have HT := Lib.hid (setRow_heap wr.drew w.heap.size _ (rwB 4 4).toArray 4 (0, 0) HH.out)
        have HU := Lib.hid (below_setRow (hb.drew) (Nat.le_refl _) (rwB 4 4).toArray)
        clear hh
        have HO1 := Lib.hid (one_rep 2)
        have hx := kc hb HHc.out
        go_upto_region 9 with fail
        go_region_held3 (fun w' => w'.cell? ⟨H, 0, none⟩ = some (.bool true)) (go_keep) (first | (refine step_of8 (by rfl) (wp_cpB _ _ (by rfl) w.heap.size 2 2 2 ⟨w.heap.size, 0, none⟩ 2 4 (by rfl) (by rfl) _ _ HH.out (List.replicate 2 (Value.bool true)) HN.out HSr.out HF.out HO1.out (rwB 4 4).toArray (by rfl) 2 (by rfl) ?_); replace hx := kc HU.out HHc.out))
        simp only [show IntKind.i64.wrap 4 = 4 from by decide]
        go_roundw
        case rel => exact ⟨_, _, _, _, _, _, _, _, _, _, _, _, _, _, ⟨4, by omega, by omega, rfl, HT.out, HU.out⟩, rfl⟩
        case measure => simp [intOf]
      · have HH := Lib.hid (show wr.drew.heap[w.heap.size]? = _ from hh)
        have HSr := Lib.hid (show ∀ j v, (List.replicate 1 (Value.bool true))[j]? = some v → wr.drew.cell? ((⟨w.heap.size, 0, none⟩ : Addr).add j) = some v from fun j v hj => by
          have hj0 : j < 1 := by
            have := (List.getElem?_eq_some_iff.1 hj).1
            simpa using this
          rw [Go.WideShapes.add_plain, Nat.zero_add]
          rw [List.getElem?_replicate, if_pos hj0] at hj
          refine (cell_of_row wr.drew w.heap.size _ _ _ _ hh).trans ?_
          rw [List.getElem?_toArray, rwB_at (show j < 3 by omega)]
          exact hj)
        have HN := Lib.hid (show (List.replicate 1 (Value.bool true)).length = Nat.min 3 1 from by decide)
        have HF := Lib.hid (show 3 + (List.replicate 1 (Value.bool true)).length ≤ (rwB 4 3).toArray.size by decide)
        have HT := Lib.hid (setRow_heap wr.drew w.heap.size _ (rwB 4 4).toArray 4 (0, 0) HH.out)
        have HU := Lib.hid (below_setRow (hb.drew) (Nat.le_refl _) (rwB 4 4).toArray)
        clear hh
        have HO1 := Lib.hid (one_rep 1)
        have hx := kc hb HHc.out
        go_upto_region 9 with fail
        go_region_held3 (fun w' => w'.cell? ⟨H, 0, none⟩ = some (.bool true)) (go_keep) (first | (refine step_of8 (by rfl) (wp_cpB _ _ (by rfl) w.heap.size 3 1 1 ⟨w.heap.size, 0, none⟩ 3 4 (by rfl) (by rfl) _ _ HH.out (List.replicate 1 (Value.bool true)) HN.out HSr.out HF.out HO1.out (rwB 4 4).toArray (by rfl) 1 (by rfl) ?_); replace hx := kc HU.out HHc.out))
        simp only [show IntKind.i64.wrap 4 = 4 from by decide]
        go_roundw
        case rel => exact ⟨_, _, _, _, _, _, _, _, _, _, _, _, _, _, ⟨4, by omega, by omega, rfl, HT.out, HU.out⟩, rfl⟩
        case measure => simp [intOf]
      · have HV := Lib.hid (show OwnVb wr w.heap.size 4 4 4 (fun _ => true) from ⟨_, hh, by decide, fun i hi => by rw [List.getElem?_toArray]; exact rwB_at hi⟩)
        go_wp2
        go_ret
        exact ⟨_, rfl, Nat.le_refl _, HV.out, hb⟩

theorem repeat_any (H cp : Nat) (c : Nat) (w : World) (hc : 1 ≤ c ∧ c ≤ 4) (hH : w.cell? ⟨H, 0, none⟩ = some (.bool true)) :
    Calls Try.prog 63 #[.slice (some ⟨H, 0, none⟩) 1 cp, .int .i64 c] w fun e w' => ∃ g, e = .returned (.slice (some ⟨g, 0, none⟩) c c) ∧ w.heap.size ≤ g ∧ OwnVb w' g 4 c c (fun _ => true) ∧ Below w.heap.size w w' := by
  have hc1 : c = 1 ∨ c = 2 ∨ c = 3 ∨ c = 4 := by omega
  rcases hc1 with rfl | rfl | rfl | rfl
  · exact repeat1 H cp w hH
  · exact repeat2 H cp w hH
  · exact repeat3 H cp w hH
  · exact repeat4 H cp w hH
end Go.Proofs.Ythjcbaccoogloaa

namespace Go.Proofs.Ythjcbaccoogloaa
open Go.ChangeShapes Go.WideShapes Go.ChangeAt Go.RowKit

/-- How many domains FullDomains answers. -/
def fdN (s : Lst) (n : Nat) (q : Nat → Rul) : Nat := if modB s n q = true then s.n else 0
theorem fdN_le {s : Lst} {n : Nat} {q : Nat → Rul} : fdN s n q ≤ 5 := by
  unfold fdN
  split
  · rename_i h; exact (mod_parts h).2.1
  · omega

set_option maxRecDepth 100000 in
set_option maxHeartbeats 1600000 in
theorem specFD_any (s : Lst) (n : Nat) (q : Nat → Rul) (As Ar : Option Addr) (cs cr : Nat) (w : World) (p1 : s.n ≤ 1048576) (p3 : n ≤ 1048576) (p4 : ∀ i, i < n → (q i).fit 1048576) (hs : RdI w w.heap.size As s.n s.x) (hr : RdRs w w.heap.size Ar n q) :
    Calls Try.prog 27 #[.agg #[.slice As s.n cs, .slice Ar n cr]] w fun e w' => ∃ A cap, e = .returned (.slice A (fdN s n q) cap) ∧ RdLB w' w'.heap.size A (fdN s n q) (fulL s) ∧ Below w.heap.size w w' := by
  have HS := Lib.hid hs
  have HR := Lib.hid hr
  have P4 := Lib.hid p4
  clear hs hr p4
  have HA := Lib.hid (fun o1 o2 => bl_alloc (bl_alloc (Below.refl w.heap.size w) o1) o2)
  have HA1 := Lib.hid (bl_alloc (Below.refl w.heap.size w))
  go_enter Try.func27, Try.ntmps27
  go_wp2_with fail
  have a0 : (w.alloc (.cells #[.slice As s.n cs, .slice Ar n cr] 26)).cell? ⟨w.heap.size, 0, none⟩ = some (.slice As s.n cs) := by go_simp
  have a1 : (w.alloc (.cells #[.slice As s.n cs, .slice Ar n cr] 26)).cell? ⟨w.heap.size, 1, none⟩ = some (.slice Ar n cr) := by go_simp
  have HB := Lib.hid (HA1.out (.cells #[.slice As s.n cs, .slice Ar n cr] 26))
  clear HA HA1
  generalize (w.alloc (.cells #[.slice As s.n cs, .slice Ar n cr] 26)) = w1 at *
  refine (specValidM_any s n q _ _ _ _ _ p1 p3 P4.out (HS.out.later HB.out) (HR.out.later HB.out)).mono ?_
  rintro e w2 ⟨rfl, hb⟩
  have HB2 := Lib.hid (bl_trans HB.out hb)
  replace a0 := kc hb a0
  replace a1 := kc hb a1
  clear hb HB
  cases hm : modB s n q with
  | false =>
    have He := Lib.hid (show fdN s n q = 0 from by unfold fdN; rw [hm]; rfl)
    have HB3 := Lib.hid (bl_trans HB2.out (bl_alloc (Below.refl w2.heap.size w2) (.cells #[] 49)))
    clear hm
    go_wp2
    go_ret
    refine ⟨_, _, by rw [He.out]; rfl, fun h => ?_, HB3.out⟩
    rw [He.out] at h
    omega
  | true =>
    have Hp := Lib.hid (mod_parts hm)
    have He := Lib.hid (show fdN s n q = s.n from by unfold fdN; rw [hm]; rfl)
    clear hm
    go_wp2_with fail
    refine (l8Make_any s n _ _ _ _ _ Hp.out.1 Hp.out.2.1 Hp.out.2.2.1 (HS.out.later HB2.out)).mono ?_
    rintro e w3 ⟨A, cap, rfl, hrd, hb⟩
    have HB3 := Lib.hid (bl_trans HB2.out hb)
    have HRD := Lib.hid hrd
    clear hb HB2 hrd
    go_wp2
    go_ret
    exact ⟨A, cap, by rw [He.out]; rfl, by rw [He.out]; exact HRD.out, HB3.out⟩

set_option maxRecDepth 100000 in
set_option maxHeartbeats 3200000 in
theorem implFD_any (s : Lst) (n : Nat) (q : Nat → Rul) (As Ar : Option Addr) (cs cr : Nat) (w : World) (p1 : s.n ≤ 1048576) (p3 : n ≤ 1048576) (p4 : ∀ i, i < n → (q i).fit 1048576) (hs : RdI w w.heap.size As s.n s.x) (hr : RdRs w w.heap.size Ar n q) :
    Calls Try.prog 25 #[.agg #[.slice As s.n cs, .slice Ar n cr]] w fun e w' => ∃ A cap, e = .returned (.slice A (fdN s n q) cap) ∧ (fdN s n q = 0 ∧ A = none ∨ ∃ G f, A = some ⟨G, 0, none⟩ ∧ OwnLs w' w.heap.size w'.heap.size G (fdN s n q) (fulL s) f) ∧ Below w.heap.size w w' := by
  have HS := Lib.hid hs
  have HR := Lib.hid hr
  have P4 := Lib.hid p4
  clear hs hr p4
  have HA1 := Lib.hid (bl_alloc (Below.refl w.heap.size w))
  go_enter Try.func25, Try.ntmps25
  go_wp2_with fail
  have a0 : (w.alloc (.cells #[.slice As s.n cs, .slice Ar n cr] 26)).cell? ⟨w.heap.size, 0, none⟩ = some (.slice As s.n cs) := by go_simp
  have a1 : (w.alloc (.cells #[.slice As s.n cs, .slice Ar n cr] 26)).cell? ⟨w.heap.size, 1, none⟩ = some (.slice Ar n cr) := by go_simp
  have hz1 : w.heap.size < (w.alloc (.cells #[.slice As s.n cs, .slice Ar n cr] 26)).heap.size := by simp
  have HB := Lib.hid (HA1.out (.cells #[.slice As s.n cs, .slice Ar n cr] 26))
  clear HA1
  generalize (w.alloc (.cells #[.slice As s.n cs, .slice Ar n cr] 26)) = w1 at *
  refine (implValidM_any s n q _ _ _ _ _ p1 p3 P4.out (HS.out.later HB.out) (HR.out.later HB.out)).mono ?_
  rintro e w2 ⟨rfl, hb⟩
  have HB2 := Lib.hid (bl_trans HB.out hb)
  replace a0 := kc hb a0
  replace a1 := kc hb a1
  have hz2 := hb.size
  clear hb HB
  cases hm : modB s n q with
  | false =>
    have He := Lib.hid (show fdN s n q = 0 from by unfold fdN; rw [hm]; rfl)
    clear hm
    go_wp2
    go_ret
    exact ⟨_, _, by rw [He.out]; rfl, .inl ⟨He.out, rfl⟩, HB2.out⟩
  | true =>
    have Hp := Lib.hid (mod_parts hm)
    have He := Lib.hid (show fdN s n q = s.n from by unfold fdN; rw [hm]; rfl)
    clear hm
    obtain ⟨sn, x⟩ := s
    have HOK := Lib.hid (fun k (hk : k < sn) => size_at (s := ⟨sn, x⟩) Hp.out.2.2.1 hk)
    have hp1 : 1 ≤ sn := Hp.out.1
    have hp5 : sn ≤ 5 := Hp.out.2.1
    have hzw : w.heap.size < w2.heap.size := by omega
    have HS' := Lib.hid (show RdI w w.heap.size As sn x from HS.out)
    have HN := Lib.hid (show fdN ⟨sn, x⟩ n q = sn from He.out)
    clear HS HR P4 He Hp
    simp only at a0
    go_wp2
    go_loopw [3, 12] (fun v c wr => ∃ (k : Nat) (f : Nat → Nat), k ≤ sn ∧ c = .int .i64 k ∧ BL wr w.heap.size wr.heap.size v k (fulL ⟨sn, x⟩) f ∧ Below w.heap.size w wr ∧ w.heap.size < wr.heap.size) (fun _ c _ => sn - (intOf c).toNat)
    case atStart => exact ⟨0, fun _ => 0, Nat.zero_le _, rfl, BL.nil0, HB2.out, hzw⟩
    case round =>
      obtain ⟨k, f, hk, rfl, hbl, hb, hzr⟩ := hrel
      have BLk := Lib.hid hbl
      have HBk := Lib.hid hb
      obtain ⟨Ao, capo, rfl⟩ := hbl.head
      by_cases hlt : k < sn
      · have hlt' : (k : Int) < (sn : Int) := by omega
        have hk0 : (0 : Int) ≤ (k : Int) := by omega
        obtain ⟨x0, x3⟩ := HOK.out k hlt
        obtain ⟨m, hm⟩ : ∃ m : Nat, x k + 1 = (m : Int) := ⟨(x k + 1).toNat, by omega⟩
        obtain ⟨bb, off, rfl, hbb, hcs⟩ := (HS'.out.below hb) (by omega)
        have cx := hcs k hlt
        have hxk : x k = (m : Int) - 1 := by omega
        rw [hxk] at cx
        have hm1 : (m : Int) - 1 + 1 = (m : Int) := by omega
        have hm4 : (m : Int) ≤ 4 := by omega
        have hm0 : (1 : Int) ≤ (m : Int) := by omega
        clear hcs hbl hb
        go_wp2_with fail
        have HAl := Lib.hid (bl_alloc (Below.refl wr.heap.size wr) (.cells #[.bool true] 4))
        have hlit : (wr.alloc (.cells #[.bool true] 4)).cell? ⟨wr.heap.size, 0, none⟩ = some (.bool true) := by go_simp
        refine (repeat_any wr.heap.size 1 m _ ⟨by omega, by omega⟩ hlit).mono ?_
        rintro e w5 ⟨g, rfl, hg, hv, hb⟩
        have HB5 := Lib.hid (bl_trans (bl_trans HBk.out HAl.out) hb)
        have hz5 : wr.heap.size ≤ w5.heap.size := by have h1 := HAl.out.size; have h2 := hb.size; omega
        have hg5 : wr.heap.size ≤ g := by have h1 := HAl.out.size; omega
        have HA8 := Lib.hid (bl_alloc (Below.refl w5.heap.size w5) (.cells #[.slice (some ⟨g, 0, none⟩) m m] 49))
        obtain ⟨f', hfk, hfo⟩ : ∃ f' : Nat → Nat, f' k = g ∧ ∀ i, i < k → f' i = f i := ⟨fun i => if i = k then g else f i, if_pos rfl, fun i hi => if_neg (by omega)⟩
        have hrk : fulL ⟨sn, x⟩ k = ⟨m, fun _ => true⟩ := by unfold fulL; rw [show (x k + 1).toNat = m by omega]
        have BL9 := Lib.hid ((((BLk.out.bel HAl.out).bel hb).bel HA8.out).fr (f' := f') hfo)
        have HV9 := Lib.hid (hv.below HA8.out)
        have hoL := BL9.out.lt
        have HNew := Lib.hid (show (w5.alloc (.cells #[.slice (some ⟨g, 0, none⟩) m m] 49)).heap[w5.heap.size]? = some (.cells #[.slice (some ⟨f' k, 0, none⟩) (fulL ⟨sn, x⟩ k).n m] 49 (0, 0)) by
          rw [hfk, hrk]; exact heap_alloc_new w5 _)
        have HEl := Lib.hid (show OwnVb (w5.alloc (.cells #[.slice (some ⟨g, 0, none⟩) m m] 49)) (f' k) 4 (fulL ⟨sn, x⟩ k).n (fulL ⟨sn, x⟩ k).n (fulL ⟨sn, x⟩ k).x by rw [hfk, hrk]; exact HV9.out)
        have hzz : wr.heap.size ≤ (w5.alloc (.cells #[.slice (some ⟨g, 0, none⟩) m m] 49)).heap.size := by have := HA8.out.size; omega
        have hfg : wr.heap.size ≤ f' k := by rw [hfk]; exact hg5
        have HFk := Lib.hid hfk
        clear hfk
        clear hv hb HBk BLk HAl hlit
        go_wp2_with (at_builtin; refine wpList_plain (by rfl) fun K' hK' => ?_; refine wp_bl1 (ci := m) _ _ (by rfl) BL9.out (by omega) (by rfl) (by rfl) HNew.out HEl.out hfg (by omega) (by omega) ?_ hzz; intro gg cap1 w9 hbl9 hgr9; refine hK' _ _ ?_; clear hK' K')
        go_roundw
        case rel => exact ⟨k + 1, _, by omega, by go_num, hbl9, (bl_trans HB5.out HA8.out).grown hgr9 (by omega) (fun b e => by have := hoL b e; omega), by have := hgr9.size; omega⟩
        case measure => simp [intOf]; omega
      · have e : k = sn := by omega
        subst e
        obtain ⟨G, cap, e, hO⟩ := BLk.out.done (by omega)
        cases e
        have HO := Lib.hid hO
        clear hO hbl hb
        go_wp2
        go_ret
        exact ⟨_, _, by rw [HN.out]; rfl, .inr ⟨G, f, rfl, by rw [HN.out]; exact HO.out⟩, HBk.out⟩
end Go.Proofs.Ythjcbaccoogloaa

