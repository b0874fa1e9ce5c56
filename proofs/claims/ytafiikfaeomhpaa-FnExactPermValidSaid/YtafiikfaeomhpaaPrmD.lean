/- PermValid: both sides (no claim of its own). Conditions: as each theorem states. -/
import Derived.Test.YtafiikfaeomhpaaPrmC
import Derived.Test.YtafiikfaeomhpaaMvsC
import Derived.Deep.QuietTactic
namespace Go.Proofs.Ytafiikfaeomhpaa
open Go.ChangeShapes Go.WideShapes Go.ChangeAt Go.RowKit Go.Shelf

set_option linter.unusedVariables false in
set_option linter.unusedSimpArgs false in
set_option maxRecDepth 100000 in
set_option maxHeartbeats 1600000 in
theorem implPV_any (s p : Lst) (n : Nat) (q : Nat → Rul) (As Ar Ap : Option Addr) (cs cr cp : Nat) (w : World) (p1 : s.n ≤ 1048576) (p2 : p.n ≤ 1048576) (p3 : n ≤ 1048576) (p4 : ∀ i, i < n → (q i).fit 1048576) (hs : RdI w w.heap.size As s.n s.x) (hr : RdRs w w.heap.size Ar n q) (hp : RdI w w.heap.size Ap p.n p.x) :
    Calls Try.prog 13 #[.agg #[.slice As s.n cs, .slice Ar n cr], .slice Ap p.n cp] w fun e w' => e = .returned (.bool (pmB s n q p)) ∧ Below w.heap.size w w' := by
  have a0 : (w.alloc (.cells #[.slice As s.n cs, .slice Ar n cr] 30)).cell? ⟨w.heap.size, 0, none⟩ = some (.slice As s.n cs) := by go_simp
  have a1 : (w.alloc (.cells #[.slice As s.n cs, .slice Ar n cr] 30)).cell? ⟨w.heap.size, 1, none⟩ = some (.slice Ar n cr) := by go_simp
  have HB := Lib.hid (bl_alloc (Below.refl w.heap.size w) (.cells #[.slice As s.n cs, .slice Ar n cr] 30))
  have HS := Lib.hid hs
  have HR := Lib.hid hr
  have HP := Lib.hid hp
  have P4 := Lib.hid p4
  clear hs hr hp p4
  go_enter Try.func13, Try.ntmps13
  go_wp2_with fail
  generalize (w.alloc (.cells #[.slice As s.n cs, .slice Ar n cr] 30)) = w1 at *
  refine (perm_any s p n q As Ar Ap cs cr cp w1 p1 p2 p3 P4.out (HS.out.later HB.out) (HR.out.later HB.out) (HP.out.later HB.out)).mono ?_
  rintro e w2 ⟨u, rfl, -, hb⟩
  have HB2 := Lib.hid (bl_trans HB.out hb)
  clear hb a0 a1 HB
  obtain ⟨W3, hW3⟩ : ∃ W, w2.alloc (.cells #[.int .i64 0, .int .i64 0, .int .i64 0, .int .i64 0, .int .i64 0] 64) = W := ⟨_, rfl⟩
  have hb := bl_alloc (Below.refl w2.heap.size w2) (.cells #[.int .i64 0, .int .i64 0, .int .i64 0, .int .i64 0, .int .i64 0] 64)
  have o3 := own5_new (w := w2) (T := 64) idn
  rw [hW3] at hb o3
  have HB3 := Lib.hid (bl_trans HB2.out hb)
  obtain ⟨G, hG⟩ : ∃ G, w2.heap.size = G := ⟨_, rfl⟩
  have hle : w.heap.size ≤ G := by rw [← hG]; exact HB2.out.size
  rw [hG] at o3
  obtain ⟨yz0, z0⟩ := o3.cell (j := 0) (by omega)
  obtain ⟨yz1, z1⟩ := o3.cell (j := 1) (by omega)
  obtain ⟨yz2, z2⟩ := o3.cell (j := 2) (by omega)
  obtain ⟨yz3, z3⟩ := o3.cell (j := 3) (by omega)
  obtain ⟨yz4, z4⟩ := o3.cell (j := 4) (by omega)
  have fz0 := o3.frozen 0
  have fz1 := o3.frozen 1
  have fz2 := o3.frozen 2
  have fz3 := o3.frozen 3
  have fz4 := o3.frozen 4
  unfold arr5
  clear o3 hb HB2
  go_wp2
  go_ret
  exact ⟨rfl, bel5 (H := G) HB3.out hle u⟩

set_option linter.unusedVariables false in
set_option linter.unusedSimpArgs false in
set_option maxRecDepth 100000 in
set_option maxHeartbeats 1600000 in
theorem specPV_any (s p : Lst) (n : Nat) (q : Nat → Rul) (As Ar Ap : Option Addr) (cs cr cp : Nat) (w : World) (p1 : s.n ≤ 1048576) (p2 : p.n ≤ 1048576) (p3 : n ≤ 1048576) (p4 : ∀ i, i < n → (q i).fit 1048576) (hs : RdI w w.heap.size As s.n s.x) (hr : RdRs w w.heap.size Ar n q) (hp : RdI w w.heap.size Ap p.n p.x) :
    Calls Try.prog 10 #[.agg #[.slice As s.n cs, .slice Ar n cr], .slice Ap p.n cp] w fun e w' => e = .returned (.bool (pmB s n q p)) ∧ Below w.heap.size w w' := by
  have a0 : (w.alloc (.cells #[.slice As s.n cs, .slice Ar n cr] 30)).cell? ⟨w.heap.size, 0, none⟩ = some (.slice As s.n cs) := by go_simp
  have a1 : (w.alloc (.cells #[.slice As s.n cs, .slice Ar n cr] 30)).cell? ⟨w.heap.size, 1, none⟩ = some (.slice Ar n cr) := by go_simp
  have HB := Lib.hid (bl_alloc (Below.refl w.heap.size w) (.cells #[.slice As s.n cs, .slice Ar n cr] 30))
  have HS := Lib.hid hs
  have HR := Lib.hid hr
  have HP := Lib.hid hp
  have P4 := Lib.hid p4
  clear hs hr hp p4
  go_enter Try.func10, Try.ntmps10
  go_wp2_with fail
  generalize (w.alloc (.cells #[.slice As s.n cs, .slice Ar n cr] 30)) = w1 at *
  refine (specValidM_any s n q _ _ _ _ _ p1 p3 P4.out (HS.out.later HB.out) (HR.out.later HB.out)).mono ?_
  rintro e w2 ⟨rfl, hb⟩
  have HB2 := Lib.hid (bl_trans HB.out hb)
  replace a0 := kc hb a0
  replace a1 := kc hb a1
  clear hb HB
  cases hm : modB s n q with
  | false =>
    have Hp := Lib.hid (show pmB s n q p = false from by unfold pmB; rw [hm]; rfl)
    clear hm
    go_wp2
    go_ret
    exact ⟨ret_bool (by rw [Hp.out]), HB2.out⟩
  | true =>
    have Hm := Lib.hid hm
    clear hm
    by_cases d1 : p.n ≠ s.n
    · have d2 := int_ne d1
      have Hp := Lib.hid (show pmB s n q p = false from by unfold pmB; simp [d1])
      clear d1
      go_wp2
      go_ret
      exact ⟨ret_bool (by rw [Hp.out]), HB2.out⟩
    have d2 : p.n = s.n := by omega
    have Hd := Lib.hid (show pmB s n q p = (varB s.n p && kpB s.n s.x p.x) from by unfold pmB; rw [Hm.out]; simp [d2])
    clear d1
    obtain ⟨pn, px⟩ := p
    obtain ⟨sn, sx⟩ := s
    simp only at d2
    subst d2
    simp only at p1 p2 HS HP Hd a0 HB2 ⊢
    have h1 : 1 ≤ pn := by
      have := Hm.out
      unfold modB at this
      simp only [Bool.and_eq_true, decide_eq_true_eq] at this
      exact this.1.1
    have H1 := Lib.hid h1
    clear h1
    go_wp2_with fail
    refine (l6Vars_any As Ar Ap pn cs n cr cp ⟨pn, px⟩ _ p2 (HP.out.later HB2.out)).mono ?_
    rintro e w3 ⟨rfl, hb⟩
    have HB3 := Lib.hid (bl_trans HB2.out hb)
    replace a0 := kc hb a0
    replace a1 := kc hb a1
    clear hb HB2
    cases hv : varB pn ⟨pn, px⟩ with
    | false =>
      have Hp := Lib.hid (show pmB ⟨pn, sx⟩ n q ⟨pn, px⟩ = false from by rw [Hd.out, hv]; rfl)
      clear hv
      go_wp2
      go_ret
      exact ⟨ret_bool (by rw [Hp.out]), HB3.out⟩
    | true =>
      have Hd2 := Lib.hid (show ∀ z, kpB pn sx px = z → pmB ⟨pn, sx⟩ n q ⟨pn, px⟩ = z from fun z hz => by rw [Hd.out, hv]; exact hz)
      have HV := Lib.hid ((varB_iff H1.out).1 hv).1
      clear hv
      have hs2 := HS.out.later HB3.out
      have hp2 := HP.out.later HB3.out
      obtain ⟨X0, hX0⟩ : ∃ X0, w.heap.size = X0 := ⟨_, rfl⟩
      rw [hX0] at a0 a1 ⊢
      have HX0 := Lib.hid hX0
      clear hX0
      go_wp2
      go_loopw [5] (fun i wr => ∃ k : Nat, k ≤ pn ∧ i = .int .i64 k ∧ prE (fun i => sx i == sx (px i).toNat) k = true ∧ Below w3.heap.size w3 wr) (fun i _ => pn - (intOf i).toNat)
      case atStart => exact ⟨0, Nat.zero_le _, rfl, rfl, Below.refl _ _⟩
      case round =>
        obtain ⟨k, hk, rfl, hp, hb⟩ := hrel
        have Hp := Lib.hid hp
        have HBk := Lib.hid hb
        clear hp
        by_cases hlt : k < pn
        · obtain ⟨b, off, rfl, hbl, hcs⟩ := (hs2.below HBk.out) (by omega)
          obtain ⟨b2, off2, rfl, hbl2, hcp⟩ := (hp2.below HBk.out) (by omega)
          obtain ⟨j, hj⟩ : ∃ j : Nat, px k = (j : Int) := ⟨(px k).toNat, by have := HV.out k hlt; omega⟩
          have hjn : j < pn := by have := HV.out k hlt; omega
          have c1 := hcs k hlt
          have c2 := hcp k hlt
          have c3 := hcs j hjn
          rw [hj] at c2
          have He : (sx k == sx (px k).toNat) = (sx k == sx j) := by rw [hj]; rfl
          have hlt' : (k : Int) < (pn : Int) := by omega
          have hk0 : (0 : Int) ≤ (k : Int) := by omega
          have hjn' : (j : Int) < (pn : Int) := by omega
          have hj0 : (0 : Int) ≤ (j : Int) := by omega
          replace a0 := kc hb a0
          clear hcs hcp hs2 hp2 hj hb a1
          by_cases q1 : sx k = sx j
          · have Hy := Lib.hid (prE_yes (e := fun i => sx i == sx (px i).toNat) Hp.out (by rw [He, beq_iff_eq]; exact q1))
            clear He
            go_wp2_with fail
            try go_quiet (fail)
            try go_wp2
            go_roundw
            case rel => exact ⟨k + 1, by omega, by go_num, Hy.out, by first | exact HBk.out | exact bl_drewN HBk.out _⟩
            case measure => simp [intOf]; omega
          · have Hn := Lib.hid (Hd2.out false (prE_no (e := fun i => sx i == sx (px i).toNat) hlt (by rw [He, beq_eq_false_iff_ne]; exact q1)))
            clear He
            go_wp2_with fail
            try go_quiet (fail)
            try go_wp2
            go_ret
            exact ⟨ret_bool (by rw [Hn.out]), by exact bl_trans HB3.out (by first | exact HBk.out | exact bl_drewN HBk.out _)⟩
        · obtain rfl : k = pn := by omega
          have Hy := Lib.hid (Hd2.out true Hp.out)
          go_wp2
          go_ret
          exact ⟨ret_bool (by rw [Hy.out]), by exact bl_trans HB3.out HBk.out⟩
end Go.Proofs.Ytafiikfaeomhpaa
