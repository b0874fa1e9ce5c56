/- The marking helper at a larger first number (no claim of its own). Conditions: as each theorem states. -/
import Derived.Test.YtfcmhnbofoohmaaMarkB
namespace Go.Proofs.Ytfcmhnbofoohmaa
open Go.ChangeShapes Go.WideShapes Go.ChangeAt Go.RowKit

set_option maxRecDepth 100000 in
set_option maxHeartbeats 800000 in
theorem markTermS_own4 (G n cap : Nat) (c l : Nat → Int) (k : Int) (w : World) (hn : n ≤ 1048576) (hk0 : 0 ≤ k) (hk1 : k ≤ 4194304) (ho : OwnU w G n n c l) :
    Calls Try.prog 38 #[.slice (some ⟨G, 0, none⟩) n cap, .int .i64 k] w fun e w' => e = .returned (.int .i64 (k + 2 * n)) ∧ OwnU w' G n n (mkC k) (mkL k) ∧ Only w w' (some ⟨G, 0, none⟩) n := by
  have hz := Lib.hid (ho.zero (c' := mkC k) (l' := mkL k))
  clear ho
  go_enter Try.func38, Try.ntmps38
  go_wp2
  go_loopw [1, 5] (fun t i wr => ∃ j : Nat, j ≤ n ∧ i = .int .i64 j ∧ t = .int .i64 (k + 2 * j) ∧ OwnU wr G n j (mkC k) (mkL k) ∧ Only w wr (some ⟨G, 0, none⟩) n) (fun _ i _ => n - (intOf i).toNat)
  case atStart => exact ⟨0, Nat.zero_le _, rfl, by simp, hz.out, Only.refl _ _ _⟩
  case round =>
    obtain ⟨j, hj, rfl, rfl, hown, hon⟩ := hrel
    by_cases hlt : j < n
    · obtain ⟨y1, hy1⟩ := hown.cell (j := j * 2) (by omega)
      obtain ⟨y2, hy2⟩ := hown.cell (j := j * 2 + 1) (by omega)
      have hf1 := hown.frozen (j * 2)
      have hf2 := hown.frozen (j * 2 + 1)
      go_wp2
      go_roundw
      case rel => exact ⟨j + 1, by omega, by go_num, add2 k j, hown.put hlt, (hon.set_ (by omega) _ _).set_ (by omega) _ _⟩
      case measure => simp [intOf]; omega
    · have e : j = n := by omega
      subst e
      go_wp2
      go_ret
      exact ⟨rfl, hown, hon⟩

set_option maxHeartbeats 800000 in
theorem markTermS_any4 (A : Option Addr) (n cap B : Nat) (c l : Nat → Int) (k : Int) (w : World) (hn : n ≤ 1048576) (hk0 : 0 ≤ k) (hk1 : k ≤ 4194304) (hf : Frs w B A n c l) :
    Calls Try.prog 38 #[.slice A n cap, .int .i64 k] w fun e w' => e = .returned (.int .i64 (k + 2 * n)) ∧ Frs w' B A n (mkC k) (mkL k) ∧ Only w w' A n := by
  rcases hf with rfl | ⟨G, rfl, hG, ho⟩
  · go_enter Try.func38, Try.ntmps38
    go_wp2
    go_loop [1, 5] (fun t i => i = .int .i64 0 ∧ t = .int .i64 k) (fun _ _ => 0)
    case atStart => exact ⟨rfl, rfl⟩
    case round =>
      obtain ⟨rfl, rfl⟩ := hrel
      go_wp2
      go_ret
      exact ⟨ret_int (by simp), .inl rfl, Only.refl _ _ _⟩
  · exact (markTermS_own4 G n cap c l k w hn hk0 hk1 ho).mono fun e w' ⟨he, h1, h2⟩ => ⟨he, .inr ⟨G, rfl, hG, h1⟩, h2⟩

set_option maxHeartbeats 800000 in
theorem markConstraint_any4 (A : Option Addr) (n cap B : Nat) (bd : Int) (c l : Nat → Int) (k : Int) (w : World) (hn : n ≤ 1048576) (hk0 : 0 ≤ k) (hk1 : k ≤ 4194304) (hf : Frs w B A n c l) :
    Calls Try.prog 14 #[.agg #[.slice A n cap, .int .i64 bd], .int .i64 k] w fun e w' => e = .returned (.int .i64 (k + 2 * n)) ∧ Frs w' B A n (mkC k) (mkL k) ∧ Only w w' A n := by
  have HF := Lib.hid (hf.below (bl_alloc (Below.refl w.heap.size w) (.cells #[.slice A n cap, .int .i64 bd] 24)))
  clear hf
  go_enter Try.func14, Try.ntmps14
  go_wp2_with fail
  refine (markTermS_any4 _ _ _ B c l _ _ hn hk0 hk1 HF.out).mono ?_
  rintro e w1 ⟨rfl, h1, h2⟩
  have H1 := Lib.hid h1
  have H2 := Lib.hid (Only.pre (bl_alloc (Below.refl w.heap.size w) _) h2)
  clear h1 h2
  go_wp2
  go_ret
  exact ⟨rfl, H1.out, H2.out⟩
end Go.Proofs.Ytfcmhnbofoohmaa
