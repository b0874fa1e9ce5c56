/- CellsValid: the program's side (no claim of its own). Conditions: as each theorem states. -/
import Derived.Test.YtafiikfaeomhpaaMvpG
import Derived.Test.YtafiikfaeomhpaaCvsA
namespace Go.Proofs.Ytafiikfaeomhpaa
open Go.ChangeShapes Go.WideShapes Go.ChangeAt Go.RowKit

/-- A model has a cell of this number that can have a value. -/
def hvB (s : Lst) (cell val : Int) : Bool := (decide (0 ≤ cell) && decide (cell < s.n)) && (decide (0 ≤ val) && decide (val ≤ s.x cell.toNat))

set_option maxRecDepth 100000 in
set_option maxHeartbeats 1600000 in
theorem hasValue_any (s : Lst) (n : Nat) (As Ar : Option Addr) (cs cr : Nat) (cell val : Int) (w : World) (p1 : s.n ≤ 1048576) (hs : RdI w w.heap.size As s.n s.x) :
    Calls Try.prog 56 #[.agg #[.slice As s.n cs, .slice Ar n cr], .int .i64 cell, .int .i64 val] w fun e w' => e = .returned (.bool (hvB s cell val)) ∧ Below w.heap.size w w' := by
  obtain ⟨sn, x⟩ := s
  simp only at p1 hs ⊢
  have Hd := Lib.hid (show ∀ z, hvB ⟨sn, x⟩ cell val = z ↔ ((decide (0 ≤ cell) && decide (cell < sn)) && (decide (0 ≤ val) && decide (val ≤ x cell.toNat))) = z from fun z => Iff.rfl)
  have HA := Lib.hid (bl_alloc (Below.refl w.heap.size w))
  by_cases q1 : 0 ≤ cell
  · by_cases q2 : cell < (sn : Int)
    · obtain ⟨b, off, rfl, hbl, hc⟩ := (hs.later (HA.out (.cells #[.slice As sn cs, .slice Ar n cr] 30))) (by omega)
      obtain ⟨k, rfl⟩ : ∃ k : Nat, cell = (k : Int) := ⟨cell.toNat, by omega⟩
      have hc1 := hc k (by omega)
      clear hc hs
      rw [Int.toNat_natCast] at Hd
      by_cases q3 : 0 ≤ val
      · by_cases q4 : val ≤ x k
        · have He := Lib.hid ((Hd.out true).2 (by simp [q3, q4]; omega))
          clear Hd
          go_enter Try.func56, Try.ntmps56
          go_wp2
          go_ret
          exact ⟨ret_bool He.out.symm, HA.out _⟩
        · have He := Lib.hid ((Hd.out false).2 (by simp [q4]))
          clear Hd
          go_enter Try.func56, Try.ntmps56
          go_wp2
          go_ret
          exact ⟨ret_bool He.out.symm, HA.out _⟩
      · have He := Lib.hid ((Hd.out false).2 (by simp [q3]))
        clear Hd
        go_enter Try.func56, Try.ntmps56
        go_wp2
        go_ret
        exact ⟨ret_bool He.out.symm, HA.out _⟩
    · have He := Lib.hid ((Hd.out false).2 (by simp [q2]))
      clear Hd
      go_enter Try.func56, Try.ntmps56
      go_wp2
      go_ret
      exact ⟨ret_bool He.out.symm, HA.out _⟩
  · have He := Lib.hid ((Hd.out false).2 (by simp [q1]))
    clear Hd
    go_enter Try.func56, Try.ntmps56
    go_wp2
    go_ret
    exact ⟨ret_bool He.out.symm, HA.out _⟩
theorem hvB_bet {s : Lst} {k : Nat} (hk : k < s.n) (v : Int) : hvB s (k : Int) v = betB 0 (s.x k) v := by
  unfold hvB betB
  rw [Int.toNat_natCast]
  simp [show (k : Int) < s.n by omega]

set_option maxRecDepth 100000 in
set_option maxHeartbeats 1600000 in
theorem implCells_any (s c : Lst) (n : Nat) (q : Nat → Rul) (As Ar Ac : Option Addr) (cs cr cc : Nat) (w : World) (p1 : s.n ≤ 1048576) (p2 : c.n ≤ 1048576) (p3 : n ≤ 1048576) (p4 : ∀ i, i < n → (q i).fit 1048576) (hs : RdI w w.heap.size As s.n s.x) (hr : RdRs w w.heap.size Ar n q) (hc : RdI w w.heap.size Ac c.n c.x) :
    Calls Try.prog 23 #[.agg #[.slice As s.n cs, .slice Ar n cr], .slice Ac c.n cc] w fun e w' => e = .returned (.bool (cvB s n q c)) ∧ Below w.heap.size w w' := by
  have Hd := Lib.hid (show ∀ z, cvB s n q c = z ↔ (modB s n q && (c.n == s.n && prE (fun i => betB 0 (s.x i) (c.x i)) s.n)) = z from fun z => Iff.rfl)
  have HS := Lib.hid hs
  have HR := Lib.hid hr
  have HC := Lib.hid hc
  have P4 := Lib.hid p4
  clear hs hr hc p4
  have HA := Lib.hid (bl_alloc (Below.refl w.heap.size w))
  go_enter Try.func23, Try.ntmps23
  go_wp2_with fail
  have a0 : (w.alloc (.cells #[.slice As s.n cs, .slice Ar n cr] 30)).cell? ⟨w.heap.size, 0, none⟩ = some (.slice As s.n cs) := by go_simp
  have a1 : (w.alloc (.cells #[.slice As s.n cs, .slice Ar n cr] 30)).cell? ⟨w.heap.size, 1, none⟩ = some (.slice Ar n cr) := by go_simp
  have HB := Lib.hid (HA.out (.cells #[.slice As s.n cs, .slice Ar n cr] 30))
  clear HA
  generalize (w.alloc (.cells #[.slice As s.n cs, .slice Ar n cr] 30)) = w1 at *
  refine (implValidM_any s n q _ _ _ _ _ p1 p3 P4.out (HS.out.later HB.out) (HR.out.later HB.out)).mono ?_
  rintro e w2 ⟨rfl, hb⟩
  have HB2 := Lib.hid (bl_trans HB.out hb)
  replace a0 := kc hb a0
  replace a1 := kc hb a1
  clear hb HB
  cases hm : modB s n q with
  | false =>
    have He := Lib.hid ((Hd.out false).2 (by rw [hm]; rfl))
    clear hm Hd
    go_wp2
    go_ret
    exact ⟨ret_bool He.out.symm, HB2.out⟩
  | true =>
    have Hm := Lib.hid hm
    clear hm
    by_cases d1 : c.n ≠ s.n
    · have d2 := int_ne d1
      have He := Lib.hid ((Hd.out false).2 (by simp [d1]))
      clear Hd d1
      go_wp2
      go_ret
      exact ⟨ret_bool He.out.symm, HB2.out⟩
    have d2 : c.n = s.n := by omega
    have He := Lib.hid (show ∀ z, prE (fun i => betB 0 (s.x i) (c.x i)) s.n = z → cvB s n q c = z from fun z hz => (Hd.out z).2 (by rw [Hm.out, hz]; simp [d2]))
    clear Hd Hm d1
    obtain ⟨cn, y⟩ := c
    obtain ⟨sn, x⟩ := s
    simp only at d2
    subst d2
    simp only at p1 p2 HS HC He a0 ⊢
    obtain ⟨H, hHe⟩ : ∃ H, w.heap.size = H := ⟨_, rfl⟩
    rw [hHe] at a0 a1 ⊢
    have HS2 := Lib.hid (HS.out.later HB2.out)
    have hc2 := HC.out.later HB2.out
    go_wp2
    go_loopw [20] (fun i wr => ∃ k : Nat, k ≤ cn ∧ i = .int .i64 k ∧ prE (fun i => betB 0 (x i) (y i)) k = true ∧ Below w2.heap.size w2 wr) (fun i _ => cn - (intOf i).toNat)
    case atStart => exact ⟨0, Nat.zero_le _, rfl, rfl, Below.refl _ _⟩
    case round =>
      obtain ⟨k, hk, rfl, hp, hb⟩ := hrel
      have Hp := Lib.hid hp
      clear hp
      replace a0 := kc hb a0
      replace a1 := kc hb a1
      by_cases hlt : k < cn
      · obtain ⟨b, off, rfl, hbl, hcs⟩ := (hc2.below hb) (by omega)
        have c1 := hcs k hlt
        clear hcs hc2
        have hlt' : (k : Int) < (cn : Int) := by omega
        have hk0 : (0 : Int) ≤ (k : Int) := by omega
        have Hv := Lib.hid (hvB_bet (s := ⟨cn, x⟩) hlt (y k))
        go_wp2_with fail
        refine (hasValue_any ⟨cn, x⟩ _ _ _ _ _ _ _ _ p1 (HS2.out.later hb)).mono ?_
        rintro e w3 ⟨rfl, hb3⟩
        rw [Hv.out]
        have HB3 := Lib.hid (hb.trans (hb3.mono hb.size))
        clear hb3 Hv
        cases hq : betB 0 (x k) (y k) with
        | false =>
          have Hno := Lib.hid (prE_no (e := fun i => betB 0 (x i) (y i)) hlt hq)
          clear hq
          go_wp2
          go_ret
          exact ⟨ret_bool (He.out false Hno.out).symm, by exact bl_trans HB2.out HB3.out⟩
        | true =>
          have Hy := Lib.hid (prE_yes (e := fun i => betB 0 (x i) (y i)) Hp.out hq)
          clear hq
          go_wp2
          go_roundw
          case rel => exact ⟨k + 1, by omega, by go_num, Hy.out, HB3.out⟩
          case measure => simp [intOf]; omega
      · have e : k = cn := by omega
        subst e
        go_wp2
        go_ret
        exact ⟨ret_bool (He.out true Hp.out).symm, by exact bl_trans HB2.out hb⟩
end Go.Proofs.Ytafiikfaeomhpaa
