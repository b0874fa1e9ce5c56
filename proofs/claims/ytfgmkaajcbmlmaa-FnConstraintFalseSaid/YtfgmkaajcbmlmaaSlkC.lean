/- Contracts of the program's SlackOf, whole (no claim of its own). Conditions: as each theorem states. -/
import Derived.Test.YtfgmkaajcbmlmaaSlkB
namespace Go.Proofs.Ytfgmkaajcbmlmaa
open Go.ChangeShapes Go.WideShapes Go.ChangeAt Go.RowKit Go.Shelf

set_option maxRecDepth 100000 in
set_option maxHeartbeats 1000000 in
theorem implSlack_any (A Av : Option Addr) (n cap nv capv : Nat) (bd : Int) (c l : Nat → Int) (v : Nat → Int) (w : World) (hn : n ≤ 1048576) (hnv : nv ≤ 1048576) (hr : Rd w w.heap.size A n c l) (hrv : RdI w w.heap.size Av nv v) :
    Calls Try.prog 12 #[.agg #[.slice A n cap, .int .i64 bd], .slice Av nv capv] w (IRes w (slkV n c l bd nv v) (slkOk n c l bd nv v)) := by
  cases hv : validB n c l bd with
  | false =>
    have hok : slkOk n c l bd nv v = false := by unfold slkOk; rw [hv]; rfl
    rw [slk_inv hok, hok]
    have Hv := Lib.hid hv
    clear hv hok
    go_enter Try.func12, Try.ntmps12
    go_wp2_with fail
    refine (implValid_any _ _ _ _ c l _ hn (hr.later (bl_alloc (Below.refl _ _) _))).mono ?_
    rintro e w1 ⟨rfl, hb⟩
    have HB1 := Lib.hid (bl_trans (bl_alloc (Below.refl w.heap.size w) _) hb)
    clear hb
    rw [Hv.out]
    go_wp2
    go_ret2
    exact ⟨rfl, HB1.out⟩
  | true =>
    cases hp : pvB nv v with
    | false =>
      have hok : slkOk n c l bd nv v = false := by unfold slkOk; rw [hv, hp]; rfl
      rw [slk_inv hok, hok]
      have Hv := Lib.hid hv
      have Hp := Lib.hid hp
      clear hv hp hok
      go_enter Try.func12, Try.ntmps12
      go_wp2_with fail
      refine (implValid_any _ _ _ _ c l _ hn (hr.later (bl_alloc (Below.refl _ _) _))).mono ?_
      rintro e w1 ⟨rfl, hb⟩
      have HB1 := Lib.hid (bl_trans (bl_alloc (Below.refl w.heap.size w) _) hb)
      clear hb
      rw [Hv.out]
      go_wp2_with fail
      refine (implPartial_any _ _ _ v _ hnv (hrv.later HB1.out)).mono ?_
      rintro e w' ⟨rfl, hw⟩
      replace hw := hw.symm
      subst hw
      rw [Hp.out]
      go_wp2
      go_ret2
      exact ⟨rfl, HB1.out⟩
    | true =>
      have hok : slkOk n c l bd nv v = true := by unfold slkOk; rw [hv, hp]; rfl
      rw [slk_yes hok, hok]
      obtain ⟨h12, _⟩ := pvB_iff.1 hp
      subst h12
      exact implSlack_val A Av n cap capv bd c l v w hn hr hrv hv hp
end Go.Proofs.Ytfgmkaajcbmlmaa
