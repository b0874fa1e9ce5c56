/- CellsValid: what it says; the reference's side (no claim of its own). Conditions: as each theorem states. -/
import Derived.Test.YtafiikfaeomhpaaMvsC
namespace Go.Proofs.Ytafiikfaeomhpaa
open Go.ChangeShapes Go.WideShapes Go.ChangeAt Go.RowKit

/-- Cells are values of the cells of a model. -/
def celsB (s c : Lst) : Bool := c.n == s.n && prE (fun i => betB 0 (s.x i) (c.x i)) s.n
theorem int_ne {a b : Nat} (h : a ≠ b) : ¬ (a : Int) = (b : Int) := by omega

set_option maxRecDepth 100000 in
set_option maxHeartbeats 1600000 in
theorem l6Cells_any (s c : Lst) (n : Nat) (As Ar Ac : Option Addr) (cs cr cc : Nat) (w : World) (p1 : s.n ≤ 1048576) (p2 : c.n ≤ 1048576) (hs : RdI w w.heap.size As s.n s.x) (hc : RdI w w.heap.size Ac c.n c.x) :
    Calls Try.prog 44 #[.agg #[.slice As s.n cs, .slice Ar n cr], .slice Ac c.n cc] w fun e w' => e = .returned (.bool (celsB s c)) ∧ Below w.heap.size w w' := by
  obtain ⟨sn, x⟩ := s
  obtain ⟨cn, y⟩ := c
  simp only at p1 p2 hs hc ⊢
  have Hd := Lib.hid (show ∀ z, celsB ⟨sn, x⟩ ⟨cn, y⟩ = z ↔ (cn == sn && prE (fun i => betB 0 (x i) (y i)) sn) = z from fun z => Iff.rfl)
  have HA := Lib.hid (bl_alloc (Below.refl w.heap.size w))
  by_cases d1 : cn ≠ sn
  · have d2 := int_ne d1
    have He := Lib.hid ((Hd.out false).2 (by simp [d1]))
    clear Hd d1
    go_enter Try.func44, Try.ntmps44
    go_wp2
    go_ret
    exact ⟨ret_bool He.out.symm, HA.out _⟩
  obtain rfl : cn = sn := by omega
  clear d1
  go_enter Try.func44, Try.ntmps44
  go_wp2
  have a0 : (w.alloc (.cells #[.slice As cn cs, .slice Ar n cr] 30)).cell? ⟨w.heap.size, 0, none⟩ = some (.slice As cn cs) := by go_simp
  have HB := Lib.hid (HA.out (.cells #[.slice As cn cs, .slice Ar n cr] 30))
  generalize (w.alloc (.cells #[.slice As cn cs, .slice Ar n cr] 30)) = w1 at *
  have hs1 := hs.later HB.out
  have hc1 := hc.later HB.out
  clear hs hc
  go_loopw [5] (fun i wr => ∃ k : Nat, k ≤ cn ∧ i = .int .i64 k ∧ prE (fun i => betB 0 (x i) (y i)) k = true ∧ Below w1.heap.size w1 wr) (fun i _ => cn - (intOf i).toNat)
  case atStart => exact ⟨0, Nat.zero_le _, rfl, rfl, Below.refl _ _⟩
  case round =>
    obtain ⟨k, hk, rfl, hp, hb⟩ := hrel
    have Hp := Lib.hid hp
    clear hp
    replace a0 := kc hb a0
    by_cases hlt : k < cn
    · obtain ⟨b, off, rfl, hbl, hcs⟩ := (hs1.below hb) (by omega)
      obtain ⟨b2, off2, rfl, hbl2, hcc⟩ := (hc1.below hb) (by omega)
      have c1 := hcs k hlt
      have c2 := hcc k hlt
      clear hcs hcc hs1 hc1
      have hlt' : (k : Int) < (cn : Int) := by omega
      have hk0 : (0 : Int) ≤ (k : Int) := by omega
      by_cases q1 : y k < 0
      · have Hno := Lib.hid (prE_no (e := fun i => betB 0 (x i) (y i)) hlt (by simp [betB, show ¬ 0 ≤ y k by omega]))
        have He := Lib.hid ((Hd.out false).2 (by rw [Hno.out]; simp))
        clear Hno Hd
        go_wp2_with fail
        try go_quiet (fail)
        try go_wp2
        go_ret
        exact ⟨ret_bool He.out.symm, bl_trans HB.out (by first | exact hb | exact bl_drewN hb _)⟩
      · by_cases q2 : x k < y k
        · have Hno := Lib.hid (prE_no (e := fun i => betB 0 (x i) (y i)) hlt (by simp [betB, show ¬ y k ≤ x k by omega]))
          have He := Lib.hid ((Hd.out false).2 (by rw [Hno.out]; simp))
          clear Hno Hd
          go_wp2_with fail
          try go_quiet (fail)
          try go_wp2
          go_ret
          exact ⟨ret_bool He.out.symm, bl_trans HB.out (by first | exact hb | exact bl_drewN hb _)⟩
        · have Hy := Lib.hid (prE_yes (e := fun i => betB 0 (x i) (y i)) Hp.out (by simp [betB]; omega))
          go_wp2_with fail
          try go_quiet (fail)
          try go_wp2
          go_roundw
          case rel => exact ⟨k + 1, by omega, by go_num, Hy.out, by first | exact hb | exact bl_drewN hb _⟩
          case measure => simp [intOf]; omega
    · have e : k = cn := by omega
      subst e
      have He := Lib.hid ((Hd.out true).2 (by rw [Hp.out]; simp))
      clear Hd
      go_wp2
      go_ret
      exact ⟨ret_bool He.out.symm, bl_trans HB.out hb⟩

/-- What CellsValid answers. -/
def cvB (s : Lst) (n : Nat) (q : Nat → Rul) (c : Lst) : Bool := modB s n q && celsB s c

set_option maxRecDepth 100000 in
set_option maxHeartbeats 1600000 in
theorem specCells_any (s c : Lst) (n : Nat) (q : Nat → Rul) (As Ar Ac : Option Addr) (cs cr cc : Nat) (w : World) (p1 : s.n ≤ 1048576) (p2 : c.n ≤ 1048576) (p3 : n ≤ 1048576) (p4 : ∀ i, i < n → (q i).fit 1048576) (hs : RdI w w.heap.size As s.n s.x) (hr : RdRs w w.heap.size Ar n q) (hc : RdI w w.heap.size Ac c.n c.x) :
    Calls Try.prog 92 #[.agg #[.slice As s.n cs, .slice Ar n cr], .slice Ac c.n cc] w fun e w' => e = .returned (.bool (cvB s n q c)) ∧ Below w.heap.size w w' := by
  have Hd := Lib.hid (show ∀ z, cvB s n q c = z ↔ (modB s n q && celsB s c) = z from fun z => Iff.rfl)
  have HS := Lib.hid hs
  have HR := Lib.hid hr
  have HC := Lib.hid hc
  have P4 := Lib.hid p4
  clear hs hr hc p4
  have HA := Lib.hid (bl_alloc (Below.refl w.heap.size w))
  go_enter Try.func92, Try.ntmps92
  go_wp2_with fail
  have a0 : (w.alloc (.cells #[.slice As s.n cs, .slice Ar n cr] 30)).cell? ⟨w.heap.size, 0, none⟩ = some (.slice As s.n cs) := by go_simp
  have a1 : (w.alloc (.cells #[.slice As s.n cs, .slice Ar n cr] 30)).cell? ⟨w.heap.size, 1, none⟩ = some (.slice Ar n cr) := by go_simp
  have HB := Lib.hid (HA.out (.cells #[.slice As s.n cs, .slice Ar n cr] 30))
  clear HA
  generalize (w.alloc (.cells #[.slice As s.n cs, .slice Ar n cr] 30)) = w1 at *
  refine (specValidM_any s n q _ _ _ _ _ p1 p3 P4.out (HS.out.later HB.out) (HR.out.later HB.out)).mono ?_
  rintro e w2 ⟨rfl, hb⟩
  have HB2 := Lib.hid (bl_trans HB.out hb)
  replace a0 := kc hb a0
  replace a1 := kc hb a1
  clear hb HB
  cases hm : modB s n q with
  | false =>
    have He := Lib.hid ((Hd.out false).2 (by rw [hm]; rfl))
    clear hm Hd
    go_wp2
    go_ret
    exact ⟨ret_bool He.out.symm, HB2.out⟩
  | true =>
    have He := Lib.hid ((Hd.out (celsB s c)).2 (by rw [hm]; simp))
    clear hm Hd
    go_wp2_with fail
    refine (l6Cells_any s c _ _ _ _ _ _ _ _ p1 p2 (HS.out.later HB2.out) (HC.out.later HB2.out)).mono ?_
    rintro e w3 ⟨rfl, hb⟩
    have HB3 := Lib.hid (bl_trans HB2.out hb)
    clear hb
    go_wp2
    go_ret
    exact ⟨ret_bool He.out.symm, HB3.out⟩
end Go.Proofs.Ytafiikfaeomhpaa
