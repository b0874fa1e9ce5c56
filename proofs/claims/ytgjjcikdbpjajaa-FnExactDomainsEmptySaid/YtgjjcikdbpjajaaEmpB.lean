/- DomainsEmpty: what it says; both sides (no claim of its own). Conditions: as each theorem states. -/
import Derived.Test.YtgjjcikdbpjajaaEmpA
namespace Go.Proofs.Ytgjjcikdbpjajaa
open Go.ChangeShapes Go.WideShapes Go.ChangeAt Go.RowKit

/-- Domains of a valid model of which one is empty. -/
def deB (s : Lst) (n : Nat) (q : Nat → Rul) (m : Nat) (d : Nat → LsB) : Bool := dvB s n q m d && emQ m d
/-- What valid domains are. -/
theorem dv_parts {s : Lst} {n : Nat} {q : Nat → Rul} {m : Nat} {d : Nat → LsB} (h : dvB s n q m d = true) : m ≤ 5 ∧ ∀ i, i < m → (d i).n ≤ 4 := by
  unfold dvB fitB at h
  simp only [Bool.and_eq_true, beq_iff_eq] at h
  obtain ⟨hm, rfl, hf⟩ := h
  obtain ⟨-, h5, hok, -⟩ := mod_parts hm
  refine ⟨h5, fun i hi => ?_⟩
  have h1 := size_at hok hi
  have h2 := beq_iff_eq.1 (prE_at (e := fun i => ((d i).n : Int) == s.x i + 1) hf hi)
  omega

set_option maxRecDepth 100000 in
set_option maxHeartbeats 1600000 in
theorem specDE_any (s : Lst) (n : Nat) (q : Nat → Rul) (m : Nat) (d : Nat → LsB) (As Ar Ad : Option Addr) (cs cr cd : Nat) (w : World) (p1 : s.n ≤ 1048576) (p3 : n ≤ 1048576) (p4 : ∀ i, i < n → (q i).fit 1048576) (p5 : m ≤ 1048576) (p6 : ∀ i, i < m → (d i).n ≤ 1048576) (hs : RdI w w.heap.size As s.n s.x) (hr : RdRs w w.heap.size Ar n q) (hd : RdLB w w.heap.size Ad m d) :
    Calls Try.prog 28 #[.agg #[.slice As s.n cs, .slice Ar n cr], .slice Ad m cd] w fun e w' => e = .returned (.bool (deB s n q m d)) ∧ Below w.heap.size w w' := by
  have Hd := Lib.hid (show ∀ z, deB s n q m d = z ↔ (dvB s n q m d && emQ m d) = z from fun z => Iff.rfl)
  have HS := Lib.hid hs
  have HR := Lib.hid hr
  have HD := Lib.hid hd
  have P4 := Lib.hid p4
  have P6 := Lib.hid p6
  clear hs hr hd p4 p6
  have HA := Lib.hid (bl_alloc (Below.refl w.heap.size w))
  go_enter Try.func28, Try.ntmps28
  go_wp2_with fail
  have a0 : (w.alloc (.cells #[.slice As s.n cs, .slice Ar n cr] 32)).cell? ⟨w.heap.size, 0, none⟩ = some (.slice As s.n cs) := by go_simp
  have a1 : (w.alloc (.cells #[.slice As s.n cs, .slice Ar n cr] 32)).cell? ⟨w.heap.size, 1, none⟩ = some (.slice Ar n cr) := by go_simp
  have HB := Lib.hid (HA.out (.cells #[.slice As s.n cs, .slice Ar n cr] 32))
  clear HA
  generalize (w.alloc (.cells #[.slice As s.n cs, .slice Ar n cr] 32)) = w1 at *
  refine (specDV_any s n q m d _ _ _ _ _ _ _ p1 p3 P4.out p5 P6.out (HS.out.later HB.out) (HR.out.later HB.out) (HD.out.later HB.out)).mono ?_
  rintro e w2 ⟨rfl, hb⟩
  have HB2 := Lib.hid (bl_trans HB.out hb)
  clear hb HB
  cases hm : dvB s n q m d with
  | false =>
    have He := Lib.hid ((Hd.out false).2 (by rw [hm]; rfl))
    clear hm Hd
    go_wp2
    go_ret
    exact ⟨ret_bool He.out.symm, HB2.out⟩
  | true =>
    have Hp := Lib.hid (dv_parts hm)
    have He := Lib.hid ((Hd.out (emQ m d)).2 (by rw [hm]; rfl))
    clear hm Hd
    have hm5 := Hp.out.1
    go_wp2_with fail
    refine (l8Empty_any m d _ _ _ Hp.out.1 Hp.out.2 (HD.out.later HB2.out)).mono ?_
    rintro e w3 ⟨rfl, hb⟩
    have HB3 := Lib.hid (bl_trans HB2.out hb)
    clear hb HB2
    go_wp2
    go_ret
    exact ⟨ret_bool He.out.symm, HB3.out⟩

set_option maxRecDepth 100000 in
set_option maxHeartbeats 1600000 in
theorem implDE_any (s : Lst) (n : Nat) (q : Nat → Rul) (m : Nat) (d : Nat → LsB) (As Ar Ad : Option Addr) (cs cr cd : Nat) (w : World) (p1 : s.n ≤ 1048576) (p3 : n ≤ 1048576) (p4 : ∀ i, i < n → (q i).fit 1048576) (p5 : m ≤ 1048576) (p6 : ∀ i, i < m → (d i).n ≤ 1048576) (hs : RdI w w.heap.size As s.n s.x) (hr : RdRs w w.heap.size Ar n q) (hd : RdLB w w.heap.size Ad m d) :
    Calls Try.prog 29 #[.agg #[.slice As s.n cs, .slice Ar n cr], .slice Ad m cd] w fun e w' => e = .returned (.bool (deB s n q m d)) ∧ Below w.heap.size w w' := by
  have Hd := Lib.hid (show ∀ z, deB s n q m d = z ↔ (dvB s n q m d && emQ m d) = z from fun z => Iff.rfl)
  have HS := Lib.hid hs
  have HR := Lib.hid hr
  have HD := Lib.hid hd
  have P4 := Lib.hid p4
  have P6 := Lib.hid p6
  clear hs hr hd p4 p6
  have HA := Lib.hid (bl_alloc (Below.refl w.heap.size w))
  go_enter Try.func29, Try.ntmps29
  go_wp2_with fail
  have a0 : (w.alloc (.cells #[.slice As s.n cs, .slice Ar n cr] 32)).cell? ⟨w.heap.size, 0, none⟩ = some (.slice As s.n cs) := by go_simp
  have a1 : (w.alloc (.cells #[.slice As s.n cs, .slice Ar n cr] 32)).cell? ⟨w.heap.size, 1, none⟩ = some (.slice Ar n cr) := by go_simp
  have HB := Lib.hid (HA.out (.cells #[.slice As s.n cs, .slice Ar n cr] 32))
  clear HA
  generalize (w.alloc (.cells #[.slice As s.n cs, .slice Ar n cr] 32)) = w1 at *
  refine (implDV_any s n q m d _ _ _ _ _ _ _ p1 p3 P4.out p5 P6.out (HS.out.later HB.out) (HR.out.later HB.out) (HD.out.later HB.out)).mono ?_
  rintro e w2 ⟨rfl, hb⟩
  have HB2 := Lib.hid (bl_trans HB.out hb)
  clear hb HB
  cases hm : dvB s n q m d with
  | false =>
    have He := Lib.hid ((Hd.out false).2 (by rw [hm]; rfl))
    clear hm Hd
    go_wp2
    go_ret
    exact ⟨ret_bool He.out.symm, HB2.out⟩
  | true =>
    have Hp := Lib.hid (dv_parts hm)
    have He := Lib.hid ((Hd.out (emQ m d)).2 (by rw [hm]; rfl))
    clear hm Hd
    have hm5 := Hp.out.1
    go_wp2_with fail
    refine (domainsOf_any m d _ _ _ Hp.out.1 Hp.out.2 (HD.out.later HB2.out)).mono ?_
    rintro e w3 ⟨G, rfl, hG, hown, hb⟩
    have HB3 := Lib.hid (bl_trans HB2.out hb)
    have HO := Lib.hid hown
    clear hb HB2 hown
    go_wp2_with fail
    refine (someE_any G m m _ _ Hp.out.1 HO.out).mono ?_
    rintro e w4 ⟨rfl, hb⟩
    rw [emQ_msk]
    have HB4 := Lib.hid (bl_trans HB3.out hb)
    clear hb HB3
    go_wp2
    go_ret
    exact ⟨ret_bool He.out.symm, HB4.out⟩
end Go.Proofs.Ytgjjcikdbpjajaa
