/- The contract of a question to the reader of the draws (no claim of its own). Conditions: as each theorem states. -/
import Derived.Test.YtckaeaclclhapaaDrwB
namespace Go.Proofs.Ytckaeaclclhapaa
open Go.ChangeShapes Go.WideShapes Go.ChangeAt Go.RowKit

theorem emod_bd (a n : Int) (hn : 1 ≤ n) : 0 ≤ a % n ∧ a % n < n := ⟨Int.emod_nonneg _ (by omega), Int.emod_lt_of_pos _ (by omega)⟩
theorem tmod_bd (a n : Int) (h0 : 0 ≤ a) (hn : 1 ≤ n) : 0 ≤ a.tmod n ∧ a.tmod n < n := by
  rw [Int.tmod_eq_emod_of_nonneg h0]
  exact emod_bd a n hn

theorem rdr_next {w : World} {R K : Nat} {A : Option Addr} {nb cap p : Nat} {y : Nat → Int} (h0 : Cel w R 0 (.slice A nb cap)) (h1 : Cel w R 1 (.int .i64 (p : Nat))) (hp : p ≤ K) (hnb : nb ≤ 2000) (hy : RdY w R A nb y) :
    Rdr (w.setCell ⟨R, 1, none⟩ (.int .i64 ((p : Int) + 1))) R (K + 1) ∧ Gr R w (w.setCell ⟨R, 1, none⟩ (.int .i64 ((p : Int) + 1))) := by
  refine ⟨⟨A, nb, cap, p + 1, y, h0.set (by omega), ?_, by omega, hnb, fun hn => ?_⟩, (Gr.refl R w).set (.inl rfl) _⟩
  · have := h1.put (u := .int .i64 ((p : Int) + 1))
    simpa using this
  · obtain ⟨b, off, e, hlt, hc⟩ := hy hn
    exact ⟨b, off, e, hlt, fun i hi => ⟨(World.cell?_setCell_other _ _ _ _ (fun e => by injection e with e1; omega)).trans (hc i hi).1, (hc i hi).2⟩⟩

set_option maxRecDepth 100000 in
set_option maxHeartbeats 3200000 in
theorem pick_any (R K : Nat) (n : Int) (w : World) (hK : K ≤ 1000000) (h : Rdr w R K) :
    Calls Try.prog 23 #[.pointer (some ⟨R, 0, none⟩), .int .i64 n] w (PRes w R K n) := by
  obtain ⟨A, nb, cap, p, y, k0, k1, hp, hnb, hy⟩ := h
  obtain ⟨hR, hG⟩ := rdr_next k0 k1 hp hnb hy
  have HR := Lib.hid hR
  have HG := Lib.hid hG
  obtain ⟨c0, f0⟩ := k0
  obtain ⟨c1, f1⟩ := k1
  have HY := Lib.hid hy
  clear hR hG hy
  by_cases hn : n < 1
  · go_enter Try.func23, Try.ntmps23
    go_wp2
    go_ret
    exact ⟨0, rfl, Int.le_refl _, .inl rfl, HG.out, HR.out⟩
  · by_cases h0 : nb = 0
    · subst h0
      go_enter Try.func23, Try.ntmps23
      go_wp2
      go_ret
      exact ⟨0, rfl, Int.le_refl _, .inl rfl, HG.out, HR.out⟩
    · have hnb0 : ((nb : Int) == 0) = false := by rw [beq_eq_false_iff_ne]; omega
      obtain ⟨b, off, rfl, hbR, hc⟩ := HY.out (by omega)
      by_cases hlt : p < nb
      · obtain ⟨hc1, hy0, hy1⟩ := hc p hlt
        have hm := emod_bd (y p) n (by omega)
        have Hm := Lib.hid hm
        clear hc hm
        go_enter Try.func23, Try.ntmps23
        go_wp2
        go_ret
        exact ⟨y p % n, rfl, Hm.out.1, .inr Hm.out.2, HG.out, HR.out⟩
      · obtain ⟨q1, e1, l1⟩ : ∃ q : Nat, Int.tmod (p : Int) (nb : Int) = (q : Int) ∧ q < nb := ⟨p % nb, by rw [Int.tmod_eq_emod_of_nonneg (by omega)]; simp, Nat.mod_lt _ (by omega)⟩
        obtain ⟨q2, e2, l2⟩ : ∃ q : Nat, Int.tmod ((p : Int) * 7 + 3) (nb : Int) = (q : Int) ∧ q < nb := ⟨(p * 7 + 3) % nb, by rw [Int.tmod_eq_emod_of_nonneg (by omega)]; simp, Nat.mod_lt _ (by omega)⟩
        obtain ⟨q3, e3, l3⟩ : ∃ q : Nat, Int.tdiv (p : Int) (nb : Int) = (q : Int) ∧ q ≤ p := ⟨p / nb, by rw [Int.tdiv_eq_ediv_of_nonneg (by omega)]; simp, Nat.div_le_self _ _⟩
        obtain ⟨hc1, ha0, ha1⟩ := hc q1 l1
        obtain ⟨hc2, hb0, hb1⟩ := hc q2 l2
        have Hc := Lib.hid hc
        clear hc
        go_enter Try.func23, Try.ntmps23
        go_upto_region 7 with fail
        have hw1 : IntKind.i64.wrap ((p : Int) * 7) = (p : Int) * 7 := IntWalk.i64_in _ (by omega)
        have hw2 : IntKind.i64.wrap ((p : Int) * 7 + 3) = (p : Int) * 7 + 3 := IntWalk.i64_in _ (by omega)
        have hw3 : IntKind.i64.wrap (y q1) = y q1 := IntWalk.i64_in _ (by omega)
        have hw4 : IntKind.i64.wrap (y q2) = y q2 := IntWalk.i64_in _ (by omega)
        have hw5 : IntKind.i64.wrap (y q1 * 131) = y q1 * 131 := IntWalk.i64_in _ (by omega)
        have hw6 : IntKind.i64.wrap (y q2 * 1117) = y q2 * 1117 := IntWalk.i64_in _ (by omega)
        have hw7 : IntKind.i64.wrap (y q1 * 131 + y q2 * 1117) = y q1 * 131 + y q2 * 1117 := IntWalk.i64_in _ (by omega)
        have hw8 : IntKind.i64.wrap ((p : Int) * 29) = (p : Int) * 29 := IntWalk.i64_in _ (by omega)
        have hw9 : IntKind.i64.wrap (y q1 * 131 + y q2 * 1117 + (p : Int) * 29) = y q1 * 131 + y q2 * 1117 + (p : Int) * 29 := IntWalk.i64_in _ (by omega)
        have hw10 : IntKind.i64.wrap ((q3 : Int) * 53) = (q3 : Int) * 53 := IntWalk.i64_in _ (by omega)
        have hw11 : IntKind.i64.wrap (q3 : Int) = (q3 : Int) := IntWalk.i64_in _ (by omega)
        have hw12 : IntKind.i64.wrap (y q1 * 131 + y q2 * 1117 + (p : Int) * 29 + (q3 : Int) * 53) = y q1 * 131 + y q2 * 1117 + (p : Int) * 29 + (q3 : Int) * 53 := IntWalk.i64_in _ (by omega)
        go_quiet (fail)
        have hX0 : 0 ≤ y q1 * 131 + y q2 * 1117 + (p : Int) * 29 + (q3 : Int) * 53 := by omega
        have hX1 : y q1 * 131 + y q2 * 1117 + (p : Int) * 29 + (q3 : Int) * 53 < 4611686018427387904 := by omega
        clear hw1 hw2 hw3 hw4 hw5 hw6 hw7 hw8 hw9 hw10 hw11 hw12
        generalize y q1 * 131 + y q2 * 1117 + (p : Int) * 29 + (q3 : Int) * 53 = X at *
        clear hc1 hc2 e1 e2 e3
        have hx := xor_bd X (X / 64) hX0 hX1 (by omega) (by omega)
        have hm := emod_bd (bits .xor .i64 X (X / 64)) n (by omega)
        have Hm := Lib.hid hm
        obtain ⟨hx0, hx1⟩ := hx
        clear hm
        go_wp2
        go_ret
        exact ⟨bits .xor .i64 X (X / 64) % n, rfl, Hm.out.1, .inr Hm.out.2, HG.out.bel (bl_drewN (Below.refl _ _) _), HR.out.bel (bl_drewN (Below.refl _ _) _)⟩
end Go.Proofs.Ytckaeaclclhapaa
