/- slices.Clone at ints, of any length (no claim of its own). Conditions: as each theorem states. -/
import Derived.Test.YtjfcgehmeecnfaaClnX
import Derived.Test.YtjfcgehmeecnfaaIntR
namespace Go.Proofs.Ytjfcgehmeecnfaa
open Go.ChangeShapes Go.WideShapes Go.ChangeAt Go.RowKit

def intXs (c : Nat → Int) (n : Nat) : List Value := (List.range n).map fun i => .int .i64 (c i)
theorem intXs_len (c : Nat → Int) (n : Nat) : (intXs c n).length = n := by simp [intXs]
theorem intXs_one (c : Nat → Int) (n : Nat) : ∀ u ∈ intXs c n, u.oneCell' = true := fun u hu => by
  obtain ⟨i, _, rfl⟩ := List.mem_map.1 hu
  rfl
theorem intXs_at (c : Nat → Int) {n i : Nat} (h : i < n) : (intXs c n)[i]? = some (.int .i64 (c i)) := by simp [intXs, h]
theorem intXs_src {w : World} {a : Addr} {n : Nat} {c : Nat → Int} (h : RdI w w.heap.size (some a) n c) : ∀ j u, (intXs c n)[j]? = some u → w.cell? (a.add j) = some u := fun j u hj => by
  have hlt : j < n := by
    rcases Nat.lt_or_ge j n with hlt | hge
    · exact hlt
    · rw [List.getElem?_eq_none (by rw [intXs_len]; exact hge)] at hj; cases hj
  obtain ⟨b, off, e, _, hc⟩ := h (by omega)
  cases e
  rw [intXs_at c hlt] at hj
  cases hj
  rw [Go.WideShapes.add_plain]
  exact hc j hlt
theorem RowX.fri {w : World} {B n : Nat} {A : Option Addr} {c : Nat → Int} (h : RowX w B 3 A n (intXs c n)) : FrI w B 3 A n c := by
  rcases h with h | ⟨g, cs, e, hg, hh, hx⟩
  · exact .inl h
  · refine .inr ⟨g, e, hg, cs, hh, ?_, fun i hi => hx i _ (intXs_at c hi)⟩
    rcases Nat.eq_zero_or_pos n with h0 | h0
    · omega
    · have := hx (n - 1) _ (intXs_at c (show n - 1 < n by omega))
      have := (Array.getElem?_eq_some_iff.1 this).1
      omega

set_option linter.unusedVariables false in
set_option maxRecDepth 100000 in
set_option maxHeartbeats 1600000 in
theorem cloneJ_any (A : Option Addr) (n cap : Nat) (c : Nat → Int) (w : World) (hn : n ≤ 1048576) (hr : RdI w w.heap.size A n c) :
    Calls Try.prog 79 #[.slice A n cap] w fun e w' => ∃ A' cap', e = .returned (.slice A' n cap') ∧ FrI w' w.heap.size 3 A' n c ∧ Below w.heap.size w w' := by
  have qT : ∀ (w : World) (a : Option Addr) (n c n' c' : Nat), (binOp .eql 22 (.slice a n c) (.slice none n' c')).run Try.prog w = .ok (.bool a.isNone) w := fun w a n c n' c' => Lib.run_eql_slice_nil w _ _ a n c n' c' Try.underlying22
  cases A with
  | none =>
    have h0 : n = 0 := by
      rcases Nat.eq_zero_or_pos n with e | e
      · exact e
      · obtain ⟨b, off, ha, _⟩ := hr e
        cases ha
    subst h0
    clear hr
    go_enter Try.func79, Try.ntmps79
    go_wp2
    go_ret
    exact ⟨none, 0, rfl, .inl rfl, Below.refl _ _⟩
  | some a =>
    obtain ⟨i0, hi, hz0, hz1, hz2⟩ := info_parts Try.infoInt
    have HI := Lib.hid hi
    have HZ0 := Lib.hid hz0
    have HZ1 := Lib.hid hz1
    have HZ2 := Lib.hid hz2
    have HcA := Lib.hid (show 0 < n → ∀ j u, (intXs c n)[j]? = some u → (w.alloc (.cells #[] 3)).cell? (a.add j) = some u from fun e j u hj => kc (bl_alloc (Below.refl w.heap.size w) (.cells #[] 3)) (intXs_src hr j u hj))
    have HR0 := Lib.hid (rowX_new w 3 1)
    clear hr hi hz0 hz1 hz2
    go_enter Try.func79, Try.ntmps79
    go_wp2_with (at_builtin; refine wpList_plain (by rfl) fun K' hK' => ?_; refine wpX_cp (xs := intXs c n) _ _ 22 3 (by rfl) (by rfl) i0 _ 1 8 Try.underlying22 HI.out HZ0.out HZ1.out HZ2.out rfl (by omega) (B0 := w.heap.size) (by rfl) (by rfl) (by rw [intXs_len]; omega) HR0.out (by intro j hj; cases hj; exact Nat.le_refl _) HcA.out (intXs_one c n) (by unfold maxLen; omega) (by omega) (by simp) ?_; intro A1 cap1 w7 hov hb7; have Hbx := Lib.hid ((bl_alloc (Below.refl w.heap.size w) (.cells #[] 3)).trans hb7); have Hov := Lib.hid hov.fri; clear hov hb7; refine hK' _ _ ?_; clear hK' K')
    go_ret
    exact ⟨A1, cap1, rfl, Hov.out, Hbx.out⟩
end Go.Proofs.Ytjfcgehmeecnfaa
