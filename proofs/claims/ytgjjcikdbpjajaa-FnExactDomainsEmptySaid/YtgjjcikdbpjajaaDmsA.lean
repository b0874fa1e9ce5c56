/- DomainsValid: what it says; the reference's side (no claim of its own). Conditions: as each theorem states. -/
import Derived.Test.YtgjjcikdbpjajaaMdlF
import Derived.Test.YtgjjcikdbpjajaaCvsA
import Derived.Test.YtgjjcikdbpjajaaBvsA
namespace Go.Proofs.Ytgjjcikdbpjajaa
open Go.ChangeShapes Go.WideShapes Go.ChangeAt Go.RowKit

/-- Domains fit the cells of a model. -/
def fitB (s : Lst) (m : Nat) (d : Nat → LsB) : Bool := m == s.n && prE (fun i => ((d i).n : Int) == s.x i + 1) s.n
/-- Domains of a valid model. -/
def dvB (s : Lst) (n : Nat) (q : Nat → Rul) (m : Nat) (d : Nat → LsB) : Bool := modB s n q && fitB s m d

set_option maxRecDepth 100000 in
set_option maxHeartbeats 1600000 in
theorem l8Fits_any (s : Lst) (n m : Nat) (d : Nat → LsB) (As Ar Ad : Option Addr) (cs cr cd : Nat) (w : World) (p1 : s.n ≤ 5) (hok : prE (fun i => betB 0 3 (s.x i)) s.n = true) (p2 : m ≤ 1048576) (p3 : ∀ i, i < m → (d i).n ≤ 1048576) (hs : RdI w w.heap.size As s.n s.x) (hd : RdLB w w.heap.size Ad m d) :
    Calls Try.prog 60 #[.agg #[.slice As s.n cs, .slice Ar n cr], .slice Ad m cd] w fun e w' => e = .returned (.bool (fitB s m d)) ∧ Below w.heap.size w w' := by
  obtain ⟨sn, x⟩ := s
  simp only at p1 hok hs ⊢
  have Hd := Lib.hid (show ∀ z, fitB ⟨sn, x⟩ m d = z ↔ (m == sn && prE (fun i => ((d i).n : Int) == x i + 1) sn) = z from fun z => Iff.rfl)
  have HA := Lib.hid (bl_alloc (Below.refl w.heap.size w))
  by_cases d1 : m ≠ sn
  · have d2 := int_ne d1
    have He := Lib.hid ((Hd.out false).2 (by simp [d1]))
    clear Hd d1
    go_enter Try.func60, Try.ntmps60
    go_wp2
    go_ret
    exact ⟨ret_bool He.out.symm, HA.out _⟩
  obtain rfl : m = sn := by omega
  clear d1
  have HOK := Lib.hid (fun k (hk : k < m) => size_at (s := ⟨m, x⟩) hok hk)
  have P3 := Lib.hid p3
  clear hok p3
  go_enter Try.func60, Try.ntmps60
  go_wp2
  have a0 : (w.alloc (.cells #[.slice As m cs, .slice Ar n cr] 32)).cell? ⟨w.heap.size, 0, none⟩ = some (.slice As m cs) := by go_simp
  have HB := Lib.hid (HA.out (.cells #[.slice As m cs, .slice Ar n cr] 32))
  generalize (w.alloc (.cells #[.slice As m cs, .slice Ar n cr] 32)) = w1 at *
  have hs1 := hs.later HB.out
  have hd1 := hd.later HB.out
  clear hs hd
  go_loopw [5] (fun i wr => ∃ k : Nat, k ≤ m ∧ i = .int .i64 k ∧ prE (fun i => ((d i).n : Int) == x i + 1) k = true ∧ Below w1.heap.size w1 wr) (fun i _ => m - (intOf i).toNat)
  case atStart => exact ⟨0, Nat.zero_le _, rfl, rfl, Below.refl _ _⟩
  case round =>
    obtain ⟨k, hk, rfl, hp, hb⟩ := hrel
    have Hp := Lib.hid hp
    clear hp
    replace a0 := kc hb a0
    by_cases hlt : k < m
    · obtain ⟨b, off, rfl, hbl, hcs⟩ := (hs1.below hb) (by omega)
      obtain ⟨b2, off2, rfl, hbl2, hcc⟩ := (hd1.below hb) (by omega)
      have c1 := hcs k hlt
      obtain ⟨Ai, ci, c2, -⟩ := hcc k hlt
      obtain ⟨x0, x3⟩ := HOK.out k hlt
      have hdk := P3.out k hlt
      clear hcs hcc hs1 hd1
      have hlt' : (k : Int) < (m : Int) := by omega
      have hk0 : (0 : Int) ≤ (k : Int) := by omega
      by_cases q1 : ((d k).n : Int) = x k + 1
      · have Hy := Lib.hid (prE_yes (e := fun i => ((d i).n : Int) == x i + 1) Hp.out (beq_iff_eq.2 q1))
        go_wp2_with fail
        try go_quiet (fail)
        try go_wp2
        go_roundw
        case rel => exact ⟨k + 1, by omega, by go_num, Hy.out, by first | exact hb | exact bl_drewN hb _⟩
        case measure => simp [intOf]; omega
      · have Hno := Lib.hid (prE_no (e := fun i => ((d i).n : Int) == x i + 1) hlt (beq_eq_false_iff_ne.2 q1))
        have He := Lib.hid ((Hd.out false).2 (by rw [Hno.out]; simp))
        clear Hno Hd
        go_wp2_with fail
        try go_quiet (fail)
        try go_wp2
        go_ret
        exact ⟨ret_bool He.out.symm, bl_trans HB.out (by first | exact hb | exact bl_drewN hb _)⟩
    · have e : k = m := by omega
      subst e
      have He := Lib.hid ((Hd.out true).2 (by rw [Hp.out]; simp))
      clear Hd
      go_wp2
      go_ret
      exact ⟨ret_bool He.out.symm, bl_trans HB.out hb⟩
end Go.Proofs.Ytgjjcikdbpjajaa
