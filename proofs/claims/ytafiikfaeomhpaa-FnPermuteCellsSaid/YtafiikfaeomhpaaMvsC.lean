/- ModelValid: the reference's side, models (no claim of its own). Conditions: as each theorem states. -/
import Derived.Test.YtafiikfaeomhpaaMvsB
namespace Go.Proofs.Ytafiikfaeomhpaa
open Go.ChangeShapes Go.WideShapes Go.ChangeAt Go.RowKit

/-- The numbers of values of the first k cells, together. -/
def tS (x : Nat → Int) : Nat → Int
  | 0 => 0
  | k + 1 => tS x k + x k + 1
/-- A model is valid. -/
def modB (s : Lst) (n : Nat) (q : Nat → Rul) : Bool := (decide (1 ≤ s.n) && decide (s.n ≤ 5)) && (prE (fun i => betB 0 3 (s.x i)) s.n && (decide (tS s.x s.n ≤ 12) && (decide (n ≤ 8) && prE (fun i => ruleB s.n (q i)) n)))
theorem prE_at {e : Nat → Bool} {n k : Nat} (h : prE e n = true) (hk : k < n) : e k = true := by
  cases he : e k with
  | true => rfl
  | false => rw [prE_no hk he] at h; cases h
theorem tS_bd {x : Nat → Int} {k : Nat} (h : prE (fun i => betB 0 3 (x i)) k = true) : 0 ≤ tS x k ∧ tS x k ≤ 4 * k := by
  induction k with
  | zero => exact ⟨Int.le_refl _, Int.le_refl _⟩
  | succ k ih =>
    have h1 := prE_at h (show k < k + 1 by omega)
    have h0 : prE (fun i => betB 0 3 (x i)) k = true := by unfold prE at h; simp at h; exact h.1
    obtain ⟨a, b⟩ := ih h0
    simp [betB] at h1
    unfold tS
    omega

set_option maxRecDepth 100000 in
set_option maxHeartbeats 1600000 in
theorem specValidM_any (s : Lst) (n : Nat) (q : Nat → Rul) (As Ar : Option Addr) (cs cr : Nat) (w : World) (p1 : s.n ≤ 1048576) (p3 : n ≤ 1048576) (p4 : ∀ i, i < n → (q i).fit 1048576) (hs : RdI w w.heap.size As s.n s.x) (hr : RdRs w w.heap.size Ar n q) :
    Calls Try.prog 39 #[.agg #[.slice As s.n cs, .slice Ar n cr]] w fun e w' => e = .returned (.bool (modB s n q)) ∧ Below w.heap.size w w' := by
  obtain ⟨sn, x⟩ := s
  simp only at p1 hs ⊢
  have P4 := Lib.hid p4
  clear p4
  have Hd := Lib.hid (show ∀ z, modB ⟨sn, x⟩ n q = z ↔ ((decide (1 ≤ sn) && decide (sn ≤ 5)) && (prE (fun i => betB 0 3 (x i)) sn && (decide (tS x sn ≤ 12) && (decide (n ≤ 8) && prE (fun i => ruleB sn (q i)) n)))) = z from fun z => Iff.rfl)
  go_enter Try.func39, Try.ntmps39
  go_wp2
  have a0 : (w.alloc (.cells #[.slice As sn cs, .slice Ar n cr] 30)).cell? ⟨w.heap.size, 0, none⟩ = some (.slice As sn cs) := by go_simp
  have a1 : (w.alloc (.cells #[.slice As sn cs, .slice Ar n cr] 30)).cell? ⟨w.heap.size, 1, none⟩ = some (.slice Ar n cr) := by go_simp
  have HB := Lib.hid (bl_alloc (Below.refl w.heap.size w) (.cells #[.slice As sn cs, .slice Ar n cr] 30))
  generalize (w.alloc (.cells #[.slice As sn cs, .slice Ar n cr] 30)) = w1 at *
  have hs1 := hs.later HB.out
  have HR := Lib.hid (hr.later HB.out)
  clear hs hr
  go_loopw [3, 4] (fun t i wr => ∃ k : Nat, k ≤ sn ∧ k ≤ 5 ∧ i = .int .i64 k ∧ t = .int .i64 (tS x k) ∧ prE (fun i => betB 0 3 (x i)) k = true ∧ Below w1.heap.size w1 wr) (fun _ i _ => sn - (intOf i).toNat)
  case atStart => exact ⟨0, Nat.zero_le _, Nat.zero_le _, rfl, rfl, rfl, Below.refl _ _⟩
  case round =>
    obtain ⟨k, hk, hk5, rfl, rfl, hp, hb⟩ := hrel
    obtain ⟨tb0, tb1⟩ := tS_bd hp
    have tb2 : tS x k ≤ 20 := by omega
    clear tb1
    have Hp := Lib.hid hp
    clear hp
    replace a0 := kc hb a0
    replace a1 := kc hb a1
    by_cases hlt : k < sn
    · have hlt' : (k : Int) < (sn : Int) := by omega
      have hk0 : (0 : Int) ≤ (k : Int) := by omega
      by_cases h5 : k < 5
      · have h5' : (k : Int) < 5 := by omega
        obtain ⟨b, off, rfl, hbl, hc⟩ := (hs1.below hb) (by omega)
        have hc1 := hc k hlt
        clear hc hs1
        by_cases q1 : x k < 0
        · have Hno := Lib.hid (prE_no (e := fun i => betB 0 3 (x i)) hlt (by simp [betB, show ¬ 0 ≤ x k by omega]))
          have He := Lib.hid ((Hd.out false).2 (by rw [Hno.out]; simp))
          clear Hno Hd
          go_wp2
          go_ret
          exact ⟨ret_bool He.out.symm, bl_trans HB.out hb⟩
        · by_cases q2 : 3 < x k
          · have Hno := Lib.hid (prE_no (e := fun i => betB 0 3 (x i)) hlt (by simp [betB, show ¬ x k ≤ 3 by omega]))
            have He := Lib.hid ((Hd.out false).2 (by rw [Hno.out]; simp))
            clear Hno Hd
            go_wp2
            go_ret
            exact ⟨ret_bool He.out.symm, bl_trans HB.out hb⟩
          · have Hy := Lib.hid (prE_yes (e := fun i => betB 0 3 (x i)) Hp.out (by simp [betB]; omega))
            have Hs := Lib.hid (show tS x k + x k + 1 = tS x (k + 1) from rfl)
            generalize tS x k = z at *
            go_wp2
            go_roundw
            case rel => exact ⟨k + 1, by omega, by omega, by go_num, by first | rw [Hs.out] | (rw [← Hs.out]; try simp), Hy.out, hb⟩
            case measure => simp [intOf]; omega
      · have h5' : ¬ (k : Int) < 5 := by omega
        have g5 : (5 : Int) < (sn : Int) := by omega
        have g1 : ¬ (sn : Int) < 1 := by omega
        have He := Lib.hid ((Hd.out false).2 (by simp [show ¬ sn ≤ 5 by omega]))
        clear Hd
        generalize tS x k = z at *
        go_wp2
        go_ret
        exact ⟨ret_bool He.out.symm, bl_trans HB.out hb⟩
    · have e : k = sn := by omega
      subst e
      have g5 : ¬ (5 : Int) < (k : Int) := by omega
      by_cases h1 : (k : Int) < 1
      · have He := Lib.hid ((Hd.out false).2 (by simp [show ¬ 1 ≤ k by omega]))
        clear Hd
        generalize tS x k = z at *
        go_wp2
        go_ret
        exact ⟨ret_bool He.out.symm, bl_trans HB.out hb⟩
      · have Hk := Lib.hid (show decide (1 ≤ k) = true ∧ decide (k ≤ 5) = true from ⟨by simp; omega, by simp; omega⟩)
        by_cases h12 : 12 < tS x k
        · have He := Lib.hid ((Hd.out false).2 (by simp [show ¬ tS x k ≤ 12 by omega]))
          clear Hd
          generalize tS x k = z at *
          go_wp2
          go_ret
          exact ⟨ret_bool He.out.symm, bl_trans HB.out hb⟩
        · by_cases h8 : (8 : Int) < (n : Int)
          · have He := Lib.hid ((Hd.out false).2 (by simp [show ¬ n ≤ 8 by omega]))
            clear Hd
            generalize tS x k = z at *
            go_wp2
            go_ret
            exact ⟨ret_bool He.out.symm, bl_trans HB.out hb⟩
          · have Hf := Lib.hid (show modB ⟨k, x⟩ n q = prE (fun i => ruleB k (q i)) n from (Hd.out _).2 (by rw [Hk.out.1, Hk.out.2, Hp.out]; simp [show tS x k ≤ 12 by omega, show n ≤ 8 by omega]))
            clear Hd Hp Hk
            generalize tS x k = z at *
            go_wp2
            have HBk := Lib.hid (bl_trans HB.out hb)
            have hr1 := HR.out.later hb
            have A0 := Lib.hid a0
            have A1 := Lib.hid a1
            clear hb a0 a1 hs1 hk hlt HR HB
            go_loopw [5] (fun i wr2 => ∃ j : Nat, j ≤ n ∧ i = .int .i64 j ∧ prE (fun i => ruleB k (q i)) j = true ∧ Below wr.heap.size wr wr2) (fun i _ => n - (intOf i).toNat)
            case atStart => exact ⟨0, Nat.zero_le _, rfl, rfl, Below.refl _ _⟩
            case round =>
              obtain ⟨j, hj, rfl, hp, hb⟩ := hrel
              have Hp := Lib.hid hp
              clear hp
              have a0 := kc hb A0.out
              have a1 := kc hb A1.out
              by_cases hlt : j < n
              · obtain ⟨b, off, rfl, hbl, hc⟩ := (hr1.below hb) (by omega)
                obtain ⟨Av, cv, Ac, cc, Ar, cr, c0, c1, c2, c3, c4, hv, hcc, hrk⟩ := hc j hlt
                have V1 := Lib.hid ((hv.more hb.size).later ((Below.refl _ _).drew))
                have C1 := Lib.hid ((hcc.more hb.size).later ((Below.refl _ _).drew))
                have R1 := Lib.hid ((hrk.more hb.size).later ((Below.refl _ _).drew))
                clear hc hr1 hrk hv hcc
                have hlt' : (j : Int) < (n : Int) := by omega
                have hk0 : (0 : Int) ≤ (j : Int) := by omega
                go_wp2_with fail
                go_still_tail 6, (by kernel_rfl)
                change wpList _ _ _ _ _ wr.drew
                go_wp2_with fail
                refine (l6Rule_any _ _ _ _ _ _ (q j) _ _ _ _ _ _ _ (P4.out j hlt) V1.out C1.out R1.out).mono ?_
                rintro e w5 ⟨rfl, hb2⟩
                have HB2 := Lib.hid (hb.drew.trans (hb2.mono hb.size))
                clear hb2
                cases he : ruleB k (q j) with
                | true =>
                  have Hy := Lib.hid (prE_yes (e := fun i => ruleB k (q i)) Hp.out he)
                  clear he
                  go_wp2
                  go_roundw
                  case rel => exact ⟨j + 1, by omega, by go_num, Hy.out, HB2.out⟩
                  case measure => simp [intOf]; omega
                | false =>
                  have Hno := Lib.hid (prE_no (e := fun i => ruleB k (q i)) hlt he)
                  clear he
                  go_wp2
                  go_ret
                  exact ⟨ret_bool (by rw [Hf.out, Hno.out]), bl_trans HBk.out HB2.out⟩
              · have e : j = n := by omega
                subst e
                go_wp2
                go_ret
                exact ⟨ret_bool (by rw [Hf.out, Hp.out]), bl_trans HBk.out hb⟩
end Go.Proofs.Ytafiikfaeomhpaa
