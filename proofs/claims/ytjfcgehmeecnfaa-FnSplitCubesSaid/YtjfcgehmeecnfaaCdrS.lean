/- The draw of SplitCubes' argument (no claim of its own). Conditions: as each theorem states. -/
import Derived.Test.YtjfcgehmeecnfaaCdrB
namespace Go.Proofs.Ytjfcgehmeecnfaa
open Go.ChangeShapes Go.WideShapes Go.ChangeAt Go.RowKit

/-- What the draw of variables leaves. -/
def DSp (w : World) (e : Ending) (w' : World) : Prop := ∃ A k cap c, e = .returned (.slice A k cap) ∧ k ≤ 5 ∧ RdI w' w'.heap.size A k c ∧ Below w.heap.size w w'

set_option maxRecDepth 100000 in
set_option maxHeartbeats 3200000 in
theorem drawSplit_any (A : Option Addr) (n cap : Nat) (y : Nat → Int) (w : World) (hm : n ≤ maxLen) (hcap : n ≤ cap) (hr : RdY w w.heap.size A n y) :
    Calls Try.prog 35 #[.slice A n cap] w (DSp w) := by
  go_enter Try.func35, Try.ntmps35
  go_wp2_with fail
  refine (open_any _ _ _ y _ hm hcap hr).mono ?_
  rintro e w1 ⟨rfl, hb, hrd, hz1⟩
  have HB1 := Lib.hid hb
  have RD1 := Lib.hid hrd
  clear hb hrd hr
  go_wp2_with fail
  refine (l12Draw_any w.heap.size 0 _ (by omega) RD1.out).mono ?_
  rintro e w4 ⟨A4, k4, cap4, rfl, hk4, hts, hg, hr⟩
  obtain ⟨A9, cap9, c9, e9, hF9⟩ := hts.ints
  cases e9
  have HI := Lib.hid hF9.rdAt
  have HBz := Lib.hid (gr_bel9 HB1.out hg (Nat.le_refl _))
  clear hts hg hr hF9
  go_wp2
  go_ret
  exact ⟨A4, k4, cap4, c9, rfl, hk4, HI.out, HBz.out⟩
end Go.Proofs.Ytjfcgehmeecnfaa
