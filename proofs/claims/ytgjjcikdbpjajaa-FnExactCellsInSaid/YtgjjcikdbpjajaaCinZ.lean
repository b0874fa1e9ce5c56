/- CellsIn: what it says; the reference's side (no claim of its own). Conditions: as each theorem states. · CellsIn: both sides (no claim of its own). Conditions: as each theorem states. -/
import Derived.Test.YtgjjcikdbpjajaaEmpZ
import Derived.Test.YtgjjcikdbpjajaaCviA
import Derived.Test.YtgjjcikdbpjajaaCvoB
import Derived.Deep.RegionHeld3
import Derived.Deep.QuietTactic
namespace Go.Proofs.Ytgjjcikdbpjajaa
open Go.ChangeShapes Go.WideShapes Go.ChangeAt Go.RowKit

/-- Cells have values of their domains. -/
def inQ (u : Nat → Int) (d : Nat → LsB) (m : Nat) : Bool := prE (fun i => (d i).x (u i).toNat) m

set_option maxRecDepth 100000 in
set_option maxHeartbeats 1600000 in
theorem l8In_any (c : Lst) (d : Nat → LsB) (Ad Ac : Option Addr) (cd cc : Nat) (w : World) (p1 : c.n ≤ 5) (p2 : ∀ i, i < c.n → (d i).n ≤ 4) (p3 : ∀ i, i < c.n → 0 ≤ c.x i ∧ c.x i < (d i).n) (hd : RdLB w w.heap.size Ad c.n d) (hc : RdI w w.heap.size Ac c.n c.x) :
    Calls Try.prog 77 #[.slice Ad c.n cd, .slice Ac c.n cc] w fun e w' => e = .returned (.bool (inQ c.x d c.n)) ∧ Below w.heap.size w w' := by
  obtain ⟨m, x⟩ := c
  simp only at p1 p2 p3 hd hc ⊢
  have He := Lib.hid (show ∀ z, inQ x d m = z ↔ prE (fun i => (d i).x (x i).toNat) m = z from fun z => Iff.rfl)
  have P2 := Lib.hid p2
  have P3 := Lib.hid p3
  have HD := Lib.hid hd
  clear p2 p3 hd
  go_enter Try.func77, Try.ntmps77
  go_wp2
  go_loopw [5] (fun i wr => ∃ k : Nat, k ≤ m ∧ i = .int .i64 k ∧ prE (fun i => (d i).x (x i).toNat) k = true ∧ Below w.heap.size w wr) (fun i _ => m - (intOf i).toNat)
  case atStart => exact ⟨0, Nat.zero_le _, rfl, rfl, Below.refl _ _⟩
  case round =>
    obtain ⟨k, hk, rfl, hp, hb⟩ := hrel
    have Hp := Lib.hid hp
    clear hp
    by_cases hlt : k < m
    · obtain ⟨b, off, rfl, hbl, hcc⟩ := HD.out (by omega)
      obtain ⟨Ai, ci, hc0, hrk⟩ := hcc k hlt
      obtain ⟨b2, off2, rfl, hbl2, hcx⟩ := (hc.below hb) (by omega)
      have h4 := P2.out k hlt
      obtain ⟨x0, x3⟩ := P3.out k hlt
      have c1 := (hb.cell (p := ⟨b, _, none⟩) hbl).trans hc0
      have c2 := hcx k hlt
      obtain ⟨j, hj⟩ : ∃ j : Nat, x k = (j : Int) := ⟨(x k).toNat, by omega⟩
      have hjn : j < (d k).n := by omega
      obtain ⟨b3, off3, rfl, hbl3, hc3⟩ := (hrk.below hb) (by omega)
      have c3 := hc3 j hjn
      rw [hj] at c2
      have hjx : (x k).toNat = j := by omega
      clear hcc hrk hcx hc3 hc hc0
      have hlt' : (k : Int) < (m : Int) := by omega
      have hk0 : (0 : Int) ≤ (k : Int) := by omega
      have hj0 : (0 : Int) ≤ (j : Int) := by omega
      have hjt' : (j : Int) < ((d k).n : Int) := by omega
      cases hf : (d k).x j with
      | true =>
        have Hy := Lib.hid (prE_yes (e := fun i => (d i).x (x i).toNat) Hp.out (by simp only [hjx, hf]))
        rw [hf] at c3
        clear hf hjx x0 x3 hj
        go_wp2_with fail
        try go_quiet (fail)
        try go_wp2
        go_roundw
        case rel => exact ⟨k + 1, by omega, by go_num, Hy.out, by first | exact hb | exact bl_drewN hb _⟩
        case measure => simp [intOf]; omega
      | false =>
        have Hno := Lib.hid ((He.out false).2 (prE_no (e := fun i => (d i).x (x i).toNat) hlt (by simp only [hjx, hf])))
        rw [hf] at c3
        clear hf hjx x0 x3 hj
        go_wp2_with fail
        try go_quiet (fail)
        try go_wp2
        go_ret
        exact ⟨ret_bool Hno.out.symm, by first | exact hb | exact bl_drewN hb _⟩
    · have e : k = m := by omega
      subst e
      have Hy := Lib.hid ((He.out true).2 Hp.out)
      go_wp2
      go_ret
      exact ⟨ret_bool Hy.out.symm, hb⟩

set_option maxRecDepth 100000 in
set_option maxHeartbeats 1600000 in
theorem contain_any (G m cp : Nat) (d : Nat → LsB) (u : Nat → Int) (w : World) (p1 : m ≤ 5) (p2 : ∀ i, i < m → (d i).n ≤ 4) (p3 : ∀ i, i < m → 0 ≤ u i ∧ u i < (d i).n) (ho : OwnS8 w G m (fun i => msk (d i).x (d i).n)) :
    Calls Try.prog 78 #[.slice (some ⟨G, 0, none⟩) m cp, arr5 u] w fun e w' => e = .returned (.bool (inQ u d m)) ∧ Below w.heap.size w w' := by
  have He := Lib.hid (show ∀ z, inQ u d m = z ↔ prE (fun i => (d i).x (u i).toNat) m = z from fun z => Iff.rfl)
  have HA := Lib.hid (bl_alloc (Below.refl w.heap.size w) (.cells #[.int .i64 (u 0), .int .i64 (u 1), .int .i64 (u 2), .int .i64 (u 3), .int .i64 (u 4)] 90))
  have a0 : (w.alloc (.cells #[.int .i64 (u 0), .int .i64 (u 1), .int .i64 (u 2), .int .i64 (u 3), .int .i64 (u 4)] 90)).cell? ⟨w.heap.size, 0, none⟩ = some (.int .i64 (u 0)) := by go_simp
  have a1 : (w.alloc (.cells #[.int .i64 (u 0), .int .i64 (u 1), .int .i64 (u 2), .int .i64 (u 3), .int .i64 (u 4)] 90)).cell? ⟨w.heap.size, 1, none⟩ = some (.int .i64 (u 1)) := by go_simp
  have a2 : (w.alloc (.cells #[.int .i64 (u 0), .int .i64 (u 1), .int .i64 (u 2), .int .i64 (u 3), .int .i64 (u 4)] 90)).cell? ⟨w.heap.size, 2, none⟩ = some (.int .i64 (u 2)) := by go_simp
  have a3 : (w.alloc (.cells #[.int .i64 (u 0), .int .i64 (u 1), .int .i64 (u 2), .int .i64 (u 3), .int .i64 (u 4)] 90)).cell? ⟨w.heap.size, 3, none⟩ = some (.int .i64 (u 3)) := by go_simp
  have a4 : (w.alloc (.cells #[.int .i64 (u 0), .int .i64 (u 1), .int .i64 (u 2), .int .i64 (u 3), .int .i64 (u 4)] 90)).cell? ⟨w.heap.size, 4, none⟩ = some (.int .i64 (u 4)) := by go_simp
  have HC := Lib.hid (fun j (hj : j < 5) => at_cell (j := j) a0 a1 a2 a3 a4 hj)
  have P2 := Lib.hid p2
  have P3 := Lib.hid p3
  have HO := Lib.hid (ho.below HA.out ho.lt)
  clear a0 a1 a2 a3 a4 p2 p3 ho
  unfold arr5
  go_enter Try.func78, Try.ntmps78
  go_wp2
  obtain ⟨H, hH⟩ : ∃ H, w.heap.size = H := ⟨_, rfl⟩
  have hHs : (w.alloc (.cells #[.int .i64 (u 0), .int .i64 (u 1), .int .i64 (u 2), .int .i64 (u 3), .int .i64 (u 4)] 90)).heap.size = H + 1 := by rw [← hH]; simp
  generalize (w.alloc (.cells #[.int .i64 (u 0), .int .i64 (u 1), .int .i64 (u 2), .int .i64 (u 3), .int .i64 (u 4)] 90)) = w1 at *
  rw [hH] at HC HA ⊢
  have HOl := HO.out.lt
  go_loopw [9] (fun i wr => ∃ k : Nat, k ≤ m ∧ i = .int .i64 k ∧ prE (fun i => (d i).x (u i).toNat) k = true ∧ Below w1.heap.size w1 wr) (fun i _ => m - (intOf i).toNat)
  case atStart => exact ⟨0, Nat.zero_le _, rfl, rfl, Below.refl _ _⟩
  case round =>
    obtain ⟨k, hk, rfl, hp, hb⟩ := hrel
    have Hp := Lib.hid hp
    clear hp
    by_cases hlt : k < m
    · have h4 := P2.out k hlt
      obtain ⟨x0, x3⟩ := P3.out k hlt
      obtain ⟨j, hj⟩ : ∃ j : Nat, u k = (j : Int) := ⟨(u k).toNat, by omega⟩
      have hjn : j < (d k).n := by omega
      have c1 := (HO.out.below hb HOl).cell hlt
      have c2 := kc hb (HC.out k (by omega))
      rw [hj] at c2
      have hjx : (u k).toNat = j := by omega
      have hlt' : (k : Int) < (m : Int) := by omega
      have hlt5 : (k : Int) < 5 := by omega
      have hk0 : (0 : Int) ≤ (k : Int) := by omega
      have Hh := Lib.hid (fun X => has_any (d k).x (d k).n j X h4 hjn)
      cases hf : (d k).x j with
      | true =>
        have Hy := Lib.hid (prE_yes (e := fun i => (d i).x (u i).toNat) Hp.out (by simp only [hjx, hf]))
        rw [hf] at Hh
        clear hf hjx x0 x3 hj HC
        go_wp2_with (go_at_call 118; refine (Hh.out _).mono ?_; rintro e w' ⟨rfl, rfl⟩)
        go_roundw
        case rel => exact ⟨k + 1, by omega, by go_num, Hy.out, hb⟩
        case measure => simp [intOf]; omega
      | false =>
        have Hno := Lib.hid ((He.out false).2 (prE_no (e := fun i => (d i).x (u i).toNat) hlt (by simp only [hjx, hf])))
        rw [hf] at Hh
        clear hf hjx x0 x3 hj HC
        go_wp2_with (go_at_call 118; refine (Hh.out _).mono ?_; rintro e w' ⟨rfl, rfl⟩)
        go_ret
        exact ⟨ret_bool Hno.out.symm, by first | exact bl_trans HA.out hb | exact bl_trans (by rw [hH]; exact HA.out) hb⟩
    · have e : k = m := by omega
      subst e
      have Hy := Lib.hid ((He.out true).2 Hp.out)
      go_wp2
      go_ret
      exact ⟨ret_bool Hy.out.symm, by first | exact bl_trans HA.out hb | exact bl_trans (by rw [hH]; exact HA.out) hb⟩
end Go.Proofs.Ytgjjcikdbpjajaa

namespace Go.Proofs.Ytgjjcikdbpjajaa
open Go.ChangeShapes Go.WideShapes Go.ChangeAt Go.RowKit

/-- Cells of a valid model that have values of their domains. -/
def ciB (s : Lst) (n : Nat) (q : Nat → Rul) (m : Nat) (d : Nat → LsB) (c : Lst) : Bool := dvB s n q m d && (celsB s c && inQ c.x d m)
theorem dv_mod {s : Lst} {n : Nat} {q : Nat → Rul} {m : Nat} {d : Nat → LsB} (h : dvB s n q m d = true) : modB s n q = true := by
  unfold dvB at h
  exact (Bool.and_eq_true_iff.1 h).1
theorem cvV_at {n : Nat} {c : Nat → Int} {i : Nat} (h : i < n) : cvV n c i = c i := by unfold cvV; rw [if_pos h]
theorem prE_cg {e e' : Nat → Bool} {n : Nat} (h : ∀ i, i < n → e i = e' i) : prE e n = prE e' n := by
  cases h2 : prE e' n with
  | true => exact prE_iff.2 fun i hi => (h i hi).trans (prE_at h2 hi)
  | false =>
    cases h1 : prE e n with
    | false => rfl
    | true =>
      have : prE e' n = true := prE_iff.2 fun i hi => (h i hi).symm.trans (prE_at h1 hi)
      rw [this] at h2; cases h2
theorem inQ_cv {n : Nat} {c : Nat → Int} {d : Nat → LsB} : inQ (cvV n c) d n = inQ c d n := prE_cg fun i hi => by rw [cvV_at hi]
/-- Values of the cells lie within the domains. -/
theorem dv_in {s c : Lst} {n : Nat} {q : Nat → Rul} {m : Nat} {d : Nat → LsB} (h : dvB s n q m d = true) (hc : celsB s c = true) : m = c.n ∧ 1 ≤ m ∧ ∀ i, i < m → 0 ≤ c.x i ∧ c.x i < (d i).n := by
  have h1 := (mod_parts (dv_mod h)).1
  unfold dvB fitB at h
  unfold celsB at hc
  simp only [Bool.and_eq_true, beq_iff_eq] at h hc
  obtain ⟨hm, rfl, hf⟩ := h
  obtain ⟨hn, hv⟩ := hc
  refine ⟨hn.symm, h1, fun i hi => ?_⟩
  have h2 := beq_iff_eq.1 (prE_at (e := fun i => ((d i).n : Int) == s.x i + 1) hf hi)
  have h3 := prE_at (e := fun i => betB 0 (s.x i) (c.x i)) hv hi
  simp only [betB, Bool.and_eq_true, decide_eq_true_eq] at h3
  omega

set_option maxRecDepth 100000 in
set_option maxHeartbeats 1600000 in
theorem specCI_any (s : Lst) (n : Nat) (q : Nat → Rul) (m : Nat) (d : Nat → LsB) (c : Lst) (As Ar Ad Ac : Option Addr) (cs cr cd cc : Nat) (w : World) (p1 : s.n ≤ 1048576) (p3 : n ≤ 1048576) (p4 : ∀ i, i < n → (q i).fit 1048576) (p5 : m ≤ 1048576) (p6 : ∀ i, i < m → (d i).n ≤ 1048576) (p7 : c.n ≤ 1048576) (hs : RdI w w.heap.size As s.n s.x) (hr : RdRs w w.heap.size Ar n q) (hd : RdLB w w.heap.size Ad m d) (hc : RdI w w.heap.size Ac c.n c.x) :
    Calls Try.prog 30 #[.agg #[.slice As s.n cs, .slice Ar n cr], .slice Ad m cd, .slice Ac c.n cc] w fun e w' => e = .returned (.bool (ciB s n q m d c)) ∧ Below w.heap.size w w' := by
  have Hd := Lib.hid (show ∀ z, ciB s n q m d c = z ↔ (dvB s n q m d && (celsB s c && inQ c.x d m)) = z from fun z => Iff.rfl)
  have HS := Lib.hid hs
  have HR := Lib.hid hr
  have HD := Lib.hid hd
  have HC := Lib.hid hc
  have P4 := Lib.hid p4
  have P6 := Lib.hid p6
  clear hs hr hd hc p4 p6
  have HA := Lib.hid (bl_alloc (Below.refl w.heap.size w))
  go_enter Try.func30, Try.ntmps30
  go_wp2_with fail
  have a0 : (w.alloc (.cells #[.slice As s.n cs, .slice Ar n cr] 32)).cell? ⟨w.heap.size, 0, none⟩ = some (.slice As s.n cs) := by go_simp
  have a1 : (w.alloc (.cells #[.slice As s.n cs, .slice Ar n cr] 32)).cell? ⟨w.heap.size, 1, none⟩ = some (.slice Ar n cr) := by go_simp
  have HB := Lib.hid (HA.out (.cells #[.slice As s.n cs, .slice Ar n cr] 32))
  clear HA
  generalize (w.alloc (.cells #[.slice As s.n cs, .slice Ar n cr] 32)) = w1 at *
  refine (specDV_any s n q m d _ _ _ _ _ _ _ p1 p3 P4.out p5 P6.out (HS.out.later HB.out) (HR.out.later HB.out) (HD.out.later HB.out)).mono ?_
  rintro e w2 ⟨rfl, hb⟩
  have HB2 := Lib.hid (bl_trans HB.out hb)
  replace a0 := kc hb a0
  replace a1 := kc hb a1
  clear hb HB
  cases hm : dvB s n q m d with
  | false =>
    have He := Lib.hid ((Hd.out false).2 (by rw [hm]; rfl))
    clear hm Hd
    go_wp2
    go_ret
    exact ⟨ret_bool He.out.symm, HB2.out⟩
  | true =>
    have Hp := Lib.hid (dv_parts hm)
    have Hm := Lib.hid (dv_mod hm)
    have Hi := Lib.hid (fun hcel => dv_in (c := c) hm hcel)
    have Hd2 := Lib.hid (fun z => (Hd.out z).trans (by rw [hm]))
    clear hm Hd
    have hm5 := Hp.out.1
    obtain ⟨H, hHe⟩ : ∃ H, w.heap.size = H := ⟨_, rfl⟩
    rw [hHe] at a0 a1 ⊢
    go_wp2_with fail
    refine (l6Cells_any s c n _ _ _ _ _ _ _ p1 p7 (HS.out.later HB2.out) (HC.out.later HB2.out)).mono ?_
    rintro e w3 ⟨rfl, hb⟩
    have HB3 := Lib.hid (bl_trans HB2.out hb)
    clear hb HB2
    cases hcel : celsB s c with
    | false =>
      have He := Lib.hid ((Hd2.out false).2 (by rw [hcel]; rfl))
      clear hcel Hd2
      go_wp2
      go_ret
      exact ⟨ret_bool He.out.symm, by first | exact HB3.out | (rw [← hHe]; exact HB3.out)⟩
    | true =>
      have Hci := Lib.hid (Hi.out hcel)
      have hcm := Hci.out.1
      have He := Lib.hid ((Hd2.out (inQ c.x d m)).2 (by rw [hcel]; rfl))
      clear hcel Hd2 Hi
      go_wp2_with fail
      refine (l8In_any c d _ _ _ _ _ (by omega) (fun i hi => Hp.out.2 i (by omega)) (fun i hi => Hci.out.2.2 i (by omega)) (by rw [← hcm]; exact HD.out.later HB3.out) (HC.out.later HB3.out)).mono ?_
      rintro e w4 ⟨rfl, hb⟩
      have HB4 := Lib.hid (bl_trans HB3.out hb)
      clear hb HB3
      go_wp2
      go_ret
      exact ⟨ret_bool (He.out.trans (by rw [hcm])).symm, by first | exact HB4.out | (rw [← hHe]; exact HB4.out)⟩

set_option maxRecDepth 100000 in
set_option maxHeartbeats 1600000 in
theorem implCI_any (s : Lst) (n : Nat) (q : Nat → Rul) (m : Nat) (d : Nat → LsB) (c : Lst) (As Ar Ad Ac : Option Addr) (cs cr cd cc : Nat) (w : World) (p1 : s.n ≤ 1048576) (p3 : n ≤ 1048576) (p4 : ∀ i, i < n → (q i).fit 1048576) (p5 : m ≤ 1048576) (p6 : ∀ i, i < m → (d i).n ≤ 1048576) (p7 : c.n ≤ 1048576) (hs : RdI w w.heap.size As s.n s.x) (hr : RdRs w w.heap.size Ar n q) (hd : RdLB w w.heap.size Ad m d) (hc : RdI w w.heap.size Ac c.n c.x) :
    Calls Try.prog 32 #[.agg #[.slice As s.n cs, .slice Ar n cr], .slice Ad m cd, .slice Ac c.n cc] w fun e w' => e = .returned (.bool (ciB s n q m d c)) ∧ Below w.heap.size w w' := by
  have Hd := Lib.hid (show ∀ z, ciB s n q m d c = z ↔ (dvB s n q m d && (celsB s c && inQ c.x d m)) = z from fun z => Iff.rfl)
  have HS := Lib.hid hs
  have HR := Lib.hid hr
  have HD := Lib.hid hd
  have HC := Lib.hid hc
  have P4 := Lib.hid p4
  have P6 := Lib.hid p6
  clear hs hr hd hc p4 p6
  have HA := Lib.hid (bl_alloc (Below.refl w.heap.size w))
  go_enter Try.func32, Try.ntmps32
  go_wp2_with fail
  have a0 : (w.alloc (.cells #[.slice As s.n cs, .slice Ar n cr] 32)).cell? ⟨w.heap.size, 0, none⟩ = some (.slice As s.n cs) := by go_simp
  have a1 : (w.alloc (.cells #[.slice As s.n cs, .slice Ar n cr] 32)).cell? ⟨w.heap.size, 1, none⟩ = some (.slice Ar n cr) := by go_simp
  have HB := Lib.hid (HA.out (.cells #[.slice As s.n cs, .slice Ar n cr] 32))
  clear HA
  generalize (w.alloc (.cells #[.slice As s.n cs, .slice Ar n cr] 32)) = w1 at *
  refine (implDV_any s n q m d _ _ _ _ _ _ _ p1 p3 P4.out p5 P6.out (HS.out.later HB.out) (HR.out.later HB.out) (HD.out.later HB.out)).mono ?_
  rintro e w2 ⟨rfl, hb⟩
  have HB2 := Lib.hid (bl_trans HB.out hb)
  replace a0 := kc hb a0
  replace a1 := kc hb a1
  clear hb HB
  cases hm : dvB s n q m d with
  | false =>
    have He := Lib.hid ((Hd.out false).2 (by rw [hm]; rfl))
    clear hm Hd
    go_wp2
    go_ret
    exact ⟨ret_bool He.out.symm, HB2.out⟩
  | true =>
    have Hp := Lib.hid (dv_parts hm)
    have Hm := Lib.hid (dv_mod hm)
    have Hi := Lib.hid (fun hcel => dv_in (c := c) hm hcel)
    have Hd2 := Lib.hid (fun z => (Hd.out z).trans (by rw [hm]))
    clear hm Hd
    have hm5 := Hp.out.1
    obtain ⟨H, hHe⟩ : ∃ H, w.heap.size = H := ⟨_, rfl⟩
    rw [hHe] at a0 a1 ⊢
    go_wp2_with fail
    refine (implCells_any s c n q _ _ _ _ _ _ _ p1 p7 p3 P4.out (HS.out.later HB2.out) (HR.out.later HB2.out) (HC.out.later HB2.out)).mono ?_
    rintro e w3 ⟨rfl, hb⟩
    have HB3 := Lib.hid (bl_trans HB2.out hb)
    clear hb HB2
    rw [show cvB s n q c = celsB s c from by show (modB s n q && celsB s c) = _; rw [Hm.out]; rfl]
    cases hcel : celsB s c with
    | false =>
      have He := Lib.hid ((Hd2.out false).2 (by rw [hcel]; rfl))
      clear hcel Hd2
      go_wp2
      go_ret
      exact ⟨ret_bool He.out.symm, by first | exact HB3.out | (rw [← hHe]; exact HB3.out)⟩
    | true =>
      have Hci := Lib.hid (Hi.out hcel)
      have hcm := Hci.out.1
      have He := Lib.hid ((Hd2.out (inQ c.x d m)).2 (by rw [hcel]; rfl))
      clear hcel Hd2 Hi
      have He0 := He
      clear He
      subst hcm
      have He := He0
      go_wp2_with fail
      refine (domainsOf_any c.n d _ _ _ Hp.out.1 Hp.out.2 (HD.out.later HB3.out)).mono ?_
      rintro e w4 ⟨G, rfl, hG, hown, hb⟩
      have HB4 := Lib.hid (bl_trans HB3.out hb)
      have HO := Lib.hid hown
      clear hb HB3 hown
      go_wp2_with fail
      refine (cvo_any c.n _ _ c.x _ Hp.out.1 Hci.out.2.1 (HC.out.later HB4.out)).mono ?_
      rintro e w5 ⟨rfl, hb⟩
      have HB5 := Lib.hid (bl_trans HB4.out hb)
      have HO5 := Lib.hid (HO.out.below hb HO.out.lt)
      clear hb HB4 HO
      go_wp2_with fail
      refine (contain_any G c.n c.n d (cvV c.n c.x) _ Hp.out.1 Hp.out.2 (fun i hi => by rw [cvV_at hi]; exact Hci.out.2.2 i hi) HO5.out).mono ?_
      rintro e w6 ⟨rfl, hb⟩
      rw [inQ_cv]
      have HB6 := Lib.hid (bl_trans HB5.out hb)
      clear hb HB5 HO5
      go_wp2
      go_ret
      exact ⟨ret_bool He.out.symm, by first | exact HB6.out | (rw [← hHe]; exact HB6.out)⟩
end Go.Proofs.Ytgjjcikdbpjajaa

