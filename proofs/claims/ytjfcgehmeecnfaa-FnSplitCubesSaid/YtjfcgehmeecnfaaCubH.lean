/- Cubes: the program's CubeHolds (no claim of its own). Conditions: as each theorem states. -/
import Derived.Test.YtjfcgehmeecnfaaCubB
namespace Go.Proofs.Ytjfcgehmeecnfaa
open Go.ChangeShapes Go.WideShapes Go.ChangeAt Go.RowKit Go.Shelf

set_option maxRecDepth 100000 in
set_option maxHeartbeats 800000 in
theorem isFalse_any (Bv : Nat) (Av : Option Addr) (capv : Nat) (u : Nat → Bool) (n : Int) (w : World) (hl : litB n = true) (hB : w.cell? ⟨Bv, 0, none⟩ = some (.slice Av 12 capv)) (hru : RdB w w.heap.size Av 12 u) :
    Calls Try.prog 39 #[.int .i64 n, .pointer (some ⟨Bv, 0, none⟩)] w fun e w' => e = .returned (.bool (!trueP u n)) ∧ Below w.heap.size w w' := by
  have Hl := Lib.hid hl
  clear hl
  go_enter Try.func39, Try.ntmps39
  go_wp2_with fail
  refine (trueUnder_any _ _ u _ _ Hl.out hru).mono ?_
  rintro e w1 ⟨rfl, m, rfl⟩
  go_wp2
  go_ret
  exact ⟨rfl, bl_drewN (Below.refl _ _) m⟩

set_option maxRecDepth 100000 in
set_option maxHeartbeats 3200000 in
theorem implHolds_any (A Av : Option Addr) (n cap nv capv : Nat) (c : Nat → Int) (v : Nat → Bool) (w : World) (hn : n ≤ 1048576) (hnv : nv ≤ 1048576) (hr : RdI w w.heap.size A n c) (hrv : RdB w w.heap.size Av nv v) :
    Calls Try.prog 13 #[.slice A n cap, .slice Av nv capv] w fun e w' => e = .returned (.bool (holdsB n c nv v)) ∧ Below w.heap.size w w' := by
  have b0 : (w.alloc (.cells #[.slice Av nv capv] 23)).cell? ⟨w.heap.size, 0, none⟩ = some (.slice Av nv capv) := by go_simp
  have B0 := Lib.hid b0
  have HR := Lib.hid (hr.later (bl_alloc (Below.refl w.heap.size w) (.cells #[.slice Av nv capv] 23)))
  have HRV := Lib.hid (hrv.later (bl_alloc (Below.refl w.heap.size w) (.cells #[.slice Av nv capv] 23)))
  have HB0 := Lib.hid (bl_alloc (Below.refl w.heap.size w) (.cells #[.slice Av nv capv] 23))
  clear b0 hr hrv
  cases hp : cubeB n c with
  | false =>
    have Hfin := Lib.hid (holds_inv (nv := nv) (v := v) hp)
    have Hp := Lib.hid hp
    clear hp
    go_enter Try.func13, Try.ntmps13
    go_wp2_with fail
    refine (isCube_any _ _ _ c _ hn HR.out).mono ?_
    rintro e w1 ⟨rfl, hb⟩
    rw [Hp.out]
    have HB1 := Lib.hid (bl_trans HB0.out hb)
    clear hb
    go_wp2
    go_ret
    exact ⟨ret_bool Hfin.out.symm, HB1.out⟩
  | true =>
    by_cases h12 : nv = 12
    · subst h12
      have Hfin := Lib.hid (show holdsB n c 12 v = !anyQ (fun i => !trueP v (c i)) n from by rw [holds_eq hp, holdR_any])
      have HL := Lib.hid (cube_parts hp).1
      have Hp := Lib.hid hp
      clear hp
      go_enter Try.func13, Try.ntmps13
      go_wp2_with fail
      refine (isCube_any _ _ _ c _ hn HR.out).mono ?_
      rintro e w1 ⟨rfl, hb⟩
      rw [Hp.out]
      have HB1 := Lib.hid (bl_trans HB0.out hb)
      have X0 := Lib.hid (kc hb B0.out)
      have x0 := X0.out
      have HR1 := Lib.hid (HR.out.later hb)
      have HV1 := Lib.hid (HRV.out.later hb)
      clear hb
      go_wp2_with fail
      refine (containsJ_any 39 #[.pointer (some ⟨w.heap.size, 0, none⟩)] _ _ _ c (fun i => !trueP v (c i)) _ hn HR1.out (enters_of Try.func39 (by kernel_rfl) rfl) (fun k X hk hX => isFalse_any _ _ _ v _ _ (litR_at HL.out hk) (kc hX X0.out) (HV1.out.later hX))).mono ?_
      rintro e w2 ⟨rfl, hb⟩
      have HB2 := Lib.hid (bl_trans HB1.out hb)
      clear hb x0
      go_wp2
      go_ret
      exact ⟨ret_bool Hfin.out.symm, HB2.out⟩
    · have Hfin := Lib.hid (holds_len (n := n) (c := c) (v := v) h12)
      have Hp := Lib.hid hp
      have h12' : ((nv : Int) == 12) = false := by rw [beq_eq_false_iff_ne]; omega
      clear hp
      go_enter Try.func13, Try.ntmps13
      go_wp2_with fail
      refine (isCube_any _ _ _ c _ hn HR.out).mono ?_
      rintro e w1 ⟨rfl, hb⟩
      rw [Hp.out]
      have HB1 := Lib.hid (bl_trans HB0.out hb)
      have x0 := kc hb B0.out
      clear hb
      go_wp2
      go_ret
      exact ⟨ret_bool Hfin.out.symm, HB1.out⟩
end Go.Proofs.Ytjfcgehmeecnfaa
