/- DomainsValid: the program's side (no claim of its own). Conditions: as each theorem states. -/
import Derived.Test.YtgjjcikdbpjajaaDmsA
import Derived.Test.YtgjjcikdbpjajaaMvpG
namespace Go.Proofs.Ytgjjcikdbpjajaa
open Go.ChangeShapes Go.WideShapes Go.ChangeAt Go.RowKit

set_option maxRecDepth 100000 in
set_option maxHeartbeats 800000 in
theorem fits_any (A : Option Addr) (n cap : Nat) (z : Int) (w : World) (_hn : n ≤ 1048576) (hz : 0 ≤ z ∧ z ≤ 3) :
    Calls Try.prog 63 #[.slice A n cap, .int .i64 z] w fun e w' => e = .returned (.bool ((n : Int) == z + 1)) ∧ Below w.heap.size w w' := by
  have HA := Below.refl w.heap.size w
  obtain ⟨z0, z3⟩ := hz
  go_enter Try.func63, Try.ntmps63
  go_wp2
  go_ret
  exact ⟨rfl, HA⟩

set_option maxRecDepth 100000 in
set_option maxHeartbeats 1600000 in
theorem equalF_any (s : Lst) (m : Nat) (d : Nat → LsB) (As Ad : Option Addr) (cs cd : Nat) (w : World) (p1 : s.n ≤ 5) (hok : prE (fun i => betB 0 3 (s.x i)) s.n = true) (p2 : m ≤ 1048576) (p3 : ∀ i, i < m → (d i).n ≤ 1048576) (hs : RdI w w.heap.size As s.n s.x) (hd : RdLB w w.heap.size Ad m d) :
    Calls Try.prog 64 #[.slice Ad m cd, .slice As s.n cs, .func (.func 63) #[] #[]] w fun e w' => e = .returned (.bool (fitB s m d)) ∧ Below w.heap.size w w' := by
  obtain ⟨sn, x⟩ := s
  simp only at p1 hok hs ⊢
  have Hd := Lib.hid (show ∀ z, fitB ⟨sn, x⟩ m d = z ↔ (m == sn && prE (fun i => ((d i).n : Int) == x i + 1) sn) = z from fun z => Iff.rfl)
  by_cases d1 : m ≠ sn
  · have d2 := int_ne d1
    have He := Lib.hid ((Hd.out false).2 (by simp [d1]))
    clear Hd d1
    go_enter Try.func64, Try.ntmps64
    go_wp2
    go_ret
    exact ⟨ret_bool He.out.symm, Below.refl _ _⟩
  obtain rfl : m = sn := by omega
  clear d1
  have HOK := Lib.hid (fun k (hk : k < m) => size_at (s := ⟨m, x⟩) hok hk)
  have P3 := Lib.hid p3
  clear hok p3
  go_enter Try.func64, Try.ntmps64
  go_wp2
  go_loopw [17] (fun i wr => ∃ k : Nat, k ≤ m ∧ i = .int .i64 k ∧ prE (fun i => ((d i).n : Int) == x i + 1) k = true ∧ Below w.heap.size w wr) (fun i _ => m - (intOf i).toNat)
  case atStart => exact ⟨0, Nat.zero_le _, rfl, rfl, Below.refl _ _⟩
  case round =>
    obtain ⟨k, hk, rfl, hp, hb⟩ := hrel
    have Hp := Lib.hid hp
    clear hp
    by_cases hlt : k < m
    · obtain ⟨b, off, rfl, hbl, hcs⟩ := (hs.below hb) (by omega)
      obtain ⟨b2, off2, rfl, hbl2, hcc⟩ := (hd.below hb) (by omega)
      have c1 := hcs k hlt
      obtain ⟨Ai, ci, c2, -⟩ := hcc k hlt
      have hx03 := HOK.out k hlt
      have hdk := P3.out k hlt
      clear hcs hcc hs hd
      have hlt' : (k : Int) < (m : Int) := by omega
      have hk0 : (0 : Int) ≤ (k : Int) := by omega
      have Hf := Lib.hid (fun X => fits_any Ai (d k).n ci (x k) X hdk hx03)
      cases q1 : (((d k).n : Int) == x k + 1) with
      | true =>
        have Hy := Lib.hid (prE_yes (e := fun i => ((d i).n : Int) == x i + 1) Hp.out q1)
        rw [q1] at Hf
        clear q1 hx03 hdk
        go_wp2_with fail
        refine (Hf.out _).mono ?_
        rintro e w1 ⟨rfl, hb1⟩
        go_wp2
        go_roundw
        case rel => exact ⟨k + 1, by omega, by go_num, Hy.out, bl_trans hb hb1⟩
        case measure => simp [intOf]; omega
      | false =>
        have Hno := Lib.hid (prE_no (e := fun i => ((d i).n : Int) == x i + 1) hlt q1)
        have He := Lib.hid ((Hd.out false).2 (by rw [Hno.out]; simp))
        rw [q1] at Hf
        clear Hno Hd q1 hx03 hdk
        go_wp2_with fail
        refine (Hf.out _).mono ?_
        rintro e w1 ⟨rfl, hb1⟩
        go_wp2
        go_ret
        exact ⟨ret_bool He.out.symm, bl_trans hb hb1⟩
    · have e : k = m := by omega
      subst e
      have He := Lib.hid ((Hd.out true).2 (by rw [Hp.out]; simp))
      clear Hd
      go_wp2
      go_ret
      exact ⟨ret_bool He.out.symm, hb⟩

set_option maxRecDepth 100000 in
set_option maxHeartbeats 1600000 in
theorem implDV_any (s : Lst) (n : Nat) (q : Nat → Rul) (m : Nat) (d : Nat → LsB) (As Ar Ad : Option Addr) (cs cr cd : Nat) (w : World) (p1 : s.n ≤ 1048576) (p3 : n ≤ 1048576) (p4 : ∀ i, i < n → (q i).fit 1048576) (p5 : m ≤ 1048576) (p6 : ∀ i, i < m → (d i).n ≤ 1048576) (hs : RdI w w.heap.size As s.n s.x) (hr : RdRs w w.heap.size Ar n q) (hd : RdLB w w.heap.size Ad m d) :
    Calls Try.prog 20 #[.agg #[.slice As s.n cs, .slice Ar n cr], .slice Ad m cd] w fun e w' => e = .returned (.bool (dvB s n q m d)) ∧ Below w.heap.size w w' := by
  have Hd := Lib.hid (show ∀ z, dvB s n q m d = z ↔ (modB s n q && fitB s m d) = z from fun z => Iff.rfl)
  have HS := Lib.hid hs
  have HR := Lib.hid hr
  have HD := Lib.hid hd
  have P4 := Lib.hid p4
  have P6 := Lib.hid p6
  clear hs hr hd p4 p6
  have HA := Lib.hid (bl_alloc (Below.refl w.heap.size w))
  go_enter Try.func20, Try.ntmps20
  go_wp2_with fail
  have a0 : (w.alloc (.cells #[.slice As s.n cs, .slice Ar n cr] 32)).cell? ⟨w.heap.size, 0, none⟩ = some (.slice As s.n cs) := by go_simp
  have a1 : (w.alloc (.cells #[.slice As s.n cs, .slice Ar n cr] 32)).cell? ⟨w.heap.size, 1, none⟩ = some (.slice Ar n cr) := by go_simp
  have HB := Lib.hid (HA.out (.cells #[.slice As s.n cs, .slice Ar n cr] 32))
  clear HA
  generalize (w.alloc (.cells #[.slice As s.n cs, .slice Ar n cr] 32)) = w1 at *
  refine (implValidM_any s n q _ _ _ _ _ p1 p3 P4.out (HS.out.later HB.out) (HR.out.later HB.out)).mono ?_
  rintro e w2 ⟨rfl, hb⟩
  have HB2 := Lib.hid (bl_trans HB.out hb)
  replace a0 := kc hb a0
  replace a1 := kc hb a1
  clear hb HB
  cases hm : modB s n q with
  | false =>
    have He := Lib.hid ((Hd.out false).2 (by rw [hm]; rfl))
    clear hm Hd
    go_wp2
    go_ret
    exact ⟨ret_bool He.out.symm, HB2.out⟩
  | true =>
    have Hp := Lib.hid (mod_parts hm)
    have He := Lib.hid ((Hd.out (fitB s m d)).2 (by rw [hm]; rfl))
    clear hm Hd
    obtain ⟨H, hHe⟩ : ∃ H, w.heap.size = H := ⟨_, rfl⟩
    rw [hHe] at a0 a1 ⊢
    go_wp2_with fail
    refine (equalF_any s m d _ _ _ _ _ Hp.out.2.1 Hp.out.2.2.1 p5 P6.out (HS.out.later HB2.out) (HD.out.later HB2.out)).mono ?_
    rintro e w3 ⟨rfl, hb⟩
    have HB3 := Lib.hid (bl_trans HB2.out hb)
    clear hb HB2
    go_wp2
    go_ret
    exact ⟨ret_bool He.out.symm, by first | exact HB3.out | (rw [← hHe]; exact HB3.out)⟩

set_option maxRecDepth 100000 in
set_option maxHeartbeats 1600000 in
theorem specDV_any (s : Lst) (n : Nat) (q : Nat → Rul) (m : Nat) (d : Nat → LsB) (As Ar Ad : Option Addr) (cs cr cd : Nat) (w : World) (p1 : s.n ≤ 1048576) (p3 : n ≤ 1048576) (p4 : ∀ i, i < n → (q i).fit 1048576) (p5 : m ≤ 1048576) (p6 : ∀ i, i < m → (d i).n ≤ 1048576) (hs : RdI w w.heap.size As s.n s.x) (hr : RdRs w w.heap.size Ar n q) (hd : RdLB w w.heap.size Ad m d) :
    Calls Try.prog 17 #[.agg #[.slice As s.n cs, .slice Ar n cr], .slice Ad m cd] w fun e w' => e = .returned (.bool (dvB s n q m d)) ∧ Below w.heap.size w w' := by
  have Hd := Lib.hid (show ∀ z, dvB s n q m d = z ↔ (modB s n q && fitB s m d) = z from fun z => Iff.rfl)
  have HS := Lib.hid hs
  have HR := Lib.hid hr
  have HD := Lib.hid hd
  have P4 := Lib.hid p4
  have P6 := Lib.hid p6
  clear hs hr hd p4 p6
  have HA := Lib.hid (bl_alloc (Below.refl w.heap.size w))
  go_enter Try.func17, Try.ntmps17
  go_wp2_with fail
  have a0 : (w.alloc (.cells #[.slice As s.n cs, .slice Ar n cr] 32)).cell? ⟨w.heap.size, 0, none⟩ = some (.slice As s.n cs) := by go_simp
  have a1 : (w.alloc (.cells #[.slice As s.n cs, .slice Ar n cr] 32)).cell? ⟨w.heap.size, 1, none⟩ = some (.slice Ar n cr) := by go_simp
  have HB := Lib.hid (HA.out (.cells #[.slice As s.n cs, .slice Ar n cr] 32))
  clear HA
  generalize (w.alloc (.cells #[.slice As s.n cs, .slice Ar n cr] 32)) = w1 at *
  refine (specValidM_any s n q _ _ _ _ _ p1 p3 P4.out (HS.out.later HB.out) (HR.out.later HB.out)).mono ?_
  rintro e w2 ⟨rfl, hb⟩
  have HB2 := Lib.hid (bl_trans HB.out hb)
  replace a0 := kc hb a0
  replace a1 := kc hb a1
  clear hb HB
  cases hm : modB s n q with
  | false =>
    have He := Lib.hid ((Hd.out false).2 (by rw [hm]; rfl))
    clear hm Hd
    go_wp2
    go_ret
    exact ⟨ret_bool He.out.symm, HB2.out⟩
  | true =>
    have Hp := Lib.hid (mod_parts hm)
    have He := Lib.hid ((Hd.out (fitB s m d)).2 (by rw [hm]; rfl))
    clear hm Hd
    obtain ⟨H, hHe⟩ : ∃ H, w.heap.size = H := ⟨_, rfl⟩
    rw [hHe] at a0 a1 ⊢
    go_wp2_with fail
    refine (l8Fits_any s n m d _ _ _ _ _ _ _ Hp.out.2.1 Hp.out.2.2.1 p5 P6.out (HS.out.later HB2.out) (HD.out.later HB2.out)).mono ?_
    rintro e w3 ⟨rfl, hb⟩
    have HB3 := Lib.hid (bl_trans HB2.out hb)
    clear hb HB2
    go_wp2
    go_ret
    exact ⟨ret_bool He.out.symm, by first | exact HB3.out | (rw [← hHe]; exact HB3.out)⟩
end Go.Proofs.Ytgjjcikdbpjajaa
