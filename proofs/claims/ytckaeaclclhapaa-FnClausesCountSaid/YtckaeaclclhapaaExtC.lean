/- The program's ExtendsPartial (no claim of its own). Conditions: as each theorem states. -/
import Derived.Test.YtckaeaclclhapaaExtB
import Derived.Test.YtckaeaclclhapaaSlkB
namespace Go.Proofs.Ytckaeaclclhapaa
open Go.ChangeShapes Go.WideShapes Go.ChangeAt Go.RowKit Go.Shelf

set_option maxRecDepth 100000 in
set_option maxHeartbeats 3200000 in
theorem trueLits_any (v : Nat → Int) (w : World) (hv : ∀ i, i < 12 → -1 ≤ v i ∧ v i ≤ 1) :
    Calls Try.prog 60 #[arrV v] w fun e w' => ∃ A cap, e = .returned (.slice A (tl v 12).length cap) ∧ FrI w' w.heap.size 58 A (tl v 12).length (gI (tl v 12)) ∧ Below w.heap.size w w' := by
  have HV := Lib.hid hv
  have HI := Lib.hid (fun (k : Nat) (h : k < 12) => run_idx12 v h)
  clear hv
  unfold arrV cells12 at HI
  unfold arrV cells12
  go_enter Try.func60, Try.ntmps60
  go_wp2
  go_loopw [3, 7] (fun t i wr => ∃ k : Nat, k ≤ 12 ∧ i = .int .i64 k ∧ RowAt w w.heap.size 58 [] (tl v k) t wr) (fun _ i _ => 12 - (intOf i).toNat)
  case atStart => exact ⟨0, Nat.zero_le _, rfl, rowAt_nil (bl_alloc (Below.refl _ _) _) (Nat.le_refl _) (by simp) (fun x hx => by cases hx)⟩
  case round =>
    obtain ⟨k, hk, rfl, hrow⟩ := hrel
    have Row := Lib.hid hrow
    clear hrow
    by_cases hlt : k < 12
    · have hix := HI.out k hlt
      have hle : (tl v k).length ≤ 1048576 := by have := tl_le (v := v) k; omega
      have h3 : v k = -1 ∨ v k = 0 ∨ v k = 1 := by have := HV.out k hlt; omega
      rcases h3 with e | e | e
      · have Ht := Lib.hid (tl_neg e)
        rw [e] at hix
        clear e
        go_wp2_with (at_builtin; refine wpList_plain (by rfl) fun K' hK' => ?_; refine wp_rowI _ _ 78 (by rfl) Try.underlying78 Try.infoLit Row.out (bl_alloc (Below.refl _ _) _) (by rfl) (by rfl) (heap_alloc_new _ _) hle ?_; intro gg cap1 w3 hout; refine hK' _ _ ?_; clear hK' K')
        go_roundw
        case rel => exact ⟨k + 1, by omega, by go_num, by rw [Ht.out]; exact hout⟩
        case measure => simp [intOf]; omega
      · have Ht := Lib.hid (tl_no e)
        rw [e] at hix
        clear e
        go_wp2
        go_roundw
        case rel => exact ⟨k + 1, by omega, by go_num, by rw [Ht.out]; exact Row.out⟩
        case measure => simp [intOf]; omega
      · have Ht := Lib.hid (tl_yes e)
        rw [e] at hix
        clear e
        go_wp2_with (at_builtin; refine wpList_plain (by rfl) fun K' hK' => ?_; refine wp_rowI _ _ 78 (by rfl) Try.underlying78 Try.infoLit Row.out (bl_alloc (Below.refl _ _) _) (by rfl) (by rfl) (heap_alloc_new _ _) hle ?_; intro gg cap1 w3 hout; refine hK' _ _ ?_; clear hK' K')
        go_roundw
        case rel => exact ⟨k + 1, by omega, by go_num, by rw [Ht.out]; exact hout⟩
        case measure => simp [intOf]; omega
    · have e : k = 12 := by omega
      subst e
      obtain ⟨A', cap', rfl, hF⟩ := Row.out.fr
      have HF := Lib.hid hF
      have HB := Lib.hid Row.out.bel
      clear hF
      go_wp2
      go_ret
      exact ⟨A', cap', rfl, HF.out, HB.out⟩

end Go.Proofs.Ytckaeaclclhapaa
