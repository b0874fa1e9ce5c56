/- The marks of one step (no claim of its own). Conditions: as each theorem states. -/
import Derived.Test.YtbebdhjhlheboaaDoorMarkB
import Derived.Test.YtbebdhjhlheboaaDoorStpA
namespace Go.Proofs.YtbebdhjhlheboaaDoor
open Go.ChangeShapes Go.WideShapes Go.ChangeAt Go.RowKit

set_option maxHeartbeats 800000 in
theorem markStep_any (A : Option Addr) (n cap B : Nat) (kk a b bd : Int) (c l : Nat → Int) (k : Int) (w : World) (hn : n ≤ 1048576) (hk0 : 0 ≤ k) (hk1 : k ≤ 1048576) (hf : Frs w B A n c l) :
    Calls Tryd.prog 12 #[.agg #[.int .i64 kk, .int .i64 a, .int .i64 b, .slice A n cap, .int .i64 bd], .int .i64 k] w fun e w' => e = .returned (.int .i64 (k + 2 * n)) ∧ Frs w' B A n (mkC k) (mkL k) ∧ Only w w' A n := by
  have HF := Lib.hid (hf.below (bl_alloc (Below.refl w.heap.size w) (.cells #[.int .i64 kk, .int .i64 a, .int .i64 b, .slice A n cap, .int .i64 bd] 33)))
  clear hf
  go_enter Tryd.func12, Tryd.ntmps12
  go_wp2_with fail
  refine (markConstraint_any _ _ _ B _ c l _ _ hn hk0 hk1 HF.out).mono ?_
  rintro e w1 ⟨rfl, h1, h2⟩
  have H1 := Lib.hid h1
  have H2 := Lib.hid (Only.pre (bl_alloc (Below.refl w.heap.size w) _) h2)
  clear h1 h2
  go_wp2
  go_ret
  exact ⟨rfl, H1.out, H2.out⟩

set_option maxHeartbeats 800000 in
theorem heldStep_any (A : Option Addr) (n cap B : Nat) (kk a b bd : Int) (k : Int) (w : World) (hn : n ≤ 1048576) (hk0 : 0 ≤ k) (hk1 : k ≤ 1048576) (hf : Frs w B A n (mkC k) (mkL k)) :
    Calls Tryd.prog 14 #[.agg #[.int .i64 kk, .int .i64 a, .int .i64 b, .slice A n cap, .int .i64 bd], .int .i64 k] w fun e w' => e = .returned (.int .i64 (k + 2 * n)) ∧ Below w.heap.size w w' := by
  have HB := Lib.hid (bl_alloc (Below.refl w.heap.size w) (.cells #[.int .i64 kk, .int .i64 a, .int .i64 b, .slice A n cap, .int .i64 bd] 33))
  have HF := Lib.hid (hf.below HB.out)
  have hge : ¬ (k + 2 * (n : Int) < 0) := by omega
  clear hf
  go_enter Tryd.func14, Tryd.ntmps14
  go_wp2_with fail
  refine (heldConstraint_any _ _ _ B _ _ _ hn hk0 hk1 HF.out).mono ?_
  rintro e w1 ⟨rfl, hb⟩
  have HB1 := Lib.hid (bl_trans HB.out hb)
  clear hb HF
  go_wp2
  go_ret
  exact ⟨rfl, HB1.out⟩
end Go.Proofs.YtbebdhjhlheboaaDoor
