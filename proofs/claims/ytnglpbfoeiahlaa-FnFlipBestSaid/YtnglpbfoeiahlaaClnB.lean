/- slices.Clone at Booleans (no claim of its own). Conditions: as each theorem states. -/
import Derived.Test.YtnglpbfoeiahlaaBolF
import Derived.Test.YtnglpbfoeiahlaaClnX
namespace Go.Proofs.Ytnglpbfoeiahlaa
open Go.ChangeShapes Go.WideShapes Go.ChangeAt Go.RowKit

set_option linter.unusedVariables false in
set_option maxRecDepth 100000 in
set_option maxHeartbeats 1600000 in
theorem cloneXB_any (A : Option Addr) (n cap : Nat) (xs : List Value) (w : World) (hn : n ≤ 1048576) (hl : xs.length = n * 1) (h1 : ∀ u ∈ xs, u.oneCell' = true) (hr : SrcX w A n xs) :
    Calls Try.prog 45 #[.slice A n cap] w fun e w' => ∃ A' cap', e = .returned (.slice A' n cap') ∧ RowX w' w.heap.size 4 A' n xs ∧ Below w.heap.size w w' := by
  have qT : ∀ (w : World) (a : Option Addr) (n c n' c' : Nat), (binOp .eql 23 (.slice a n c) (.slice none n' c')).run Try.prog w = .ok (.bool a.isNone) w := fun w a n c n' c' => Lib.run_eql_slice_nil w _ _ a n c n' c' Try.underlying23
  cases A with
  | none =>
    have h0 : n = 0 := by
      rcases Nat.eq_zero_or_pos n with e | e
      · exact e
      · obtain ⟨a, ha, _⟩ := hr e
        cases ha
    subst h0
    clear hr h1 hl
    go_enter Try.func45, Try.ntmps45
    go_wp2
    go_ret
    exact ⟨none, 0, rfl, .inl rfl, Below.refl _ _⟩
  | some a =>
    obtain ⟨i0, hi, hz0, hz1, hz2⟩ := info_parts Try.infoBool
    have HI := Lib.hid hi
    have HZ0 := Lib.hid hz0
    have HZ1 := Lib.hid hz1
    have HZ2 := Lib.hid hz2
    have HH1 := Lib.hid h1
    have HL := Lib.hid hl
    have HcA := Lib.hid (show 0 < n → ∀ j u, xs[j]? = some u → (w.alloc (.cells #[] 4)).cell? (a.add j) = some u from fun e j u hj => by
      obtain ⟨a', ha, hc⟩ := hr e
      cases ha
      exact kc (bl_alloc (Below.refl w.heap.size w) (.cells #[] 4)) (hc j u hj))
    have HR0 := Lib.hid (rowX_new w 4 1)
    clear hr hi hz0 hz1 hz2 h1 hl
    go_enter Try.func45, Try.ntmps45
    go_wp2_with (at_builtin; refine wpList_plain (by rfl) fun K' hK' => ?_; refine wpX_cp _ _ 23 4 (by rfl) (by rfl) i0 _ 1 1 Try.underlying23 HI.out HZ0.out HZ1.out HZ2.out rfl (by omega) (B0 := w.heap.size) (by rfl) (by rfl) HL.out HR0.out (by intro j hj; cases hj; exact Nat.le_refl _) HcA.out HH1.out (by unfold maxLen; omega) (by omega) (by simp) ?_; intro A1 cap1 w7 hov hb7; have Hbx := Lib.hid ((bl_alloc (Below.refl w.heap.size w) (.cells #[] 4)).trans hb7); have Hov := Lib.hid hov; clear hov hb7; refine hK' _ _ ?_; clear hK' K')
    go_ret
    exact ⟨A1, cap1, rfl, Hov.out, Hbx.out⟩


/-- What Booleans say, cell by cell. -/
def valB (v : Nat → Bool) (n : Nat) : List Value := (List.range n).map fun i => .bool (v i)
theorem valB_len (v : Nat → Bool) (n : Nat) : (valB v n).length = n := by simp [valB]
theorem valB_at {v : Nat → Bool} {n i : Nat} (hi : i < n) : (valB v n)[i]? = some (.bool (v i)) := by simp [valB, hi]
theorem valB_one (v : Nat → Bool) (n : Nat) : ∀ u ∈ valB v n, u.oneCell' = true := by
  intro u hu
  simp only [valB, List.mem_map] at hu
  obtain ⟨i, _, rfl⟩ := hu
  rfl
theorem valB_inv {v : Nat → Bool} {n j : Nat} {u : Value} (h : (valB v n)[j]? = some u) : j < n ∧ u = .bool (v j) := by
  have hj : j < n := by
    rcases Nat.lt_or_ge j n with hlt | hge
    · exact hlt
    · rw [List.getElem?_eq_none (by rw [valB_len]; exact hge)] at h; cases h
  rw [valB_at hj] at h
  injection h with h
  exact ⟨hj, h.symm⟩
theorem srcB {w : World} {A : Option Addr} {n : Nat} {v : Nat → Bool} (h : RdB w w.heap.size A n v) : SrcX w A n (valB v n) := fun hn => by
  obtain ⟨b, off, e, _, hc⟩ := h hn
  refine ⟨_, e, fun j u hj => ?_⟩
  obtain ⟨hl, rfl⟩ := valB_inv hj
  rw [Go.WideShapes.add_plain]
  exact hc j hl
theorem RowX.bools {w : World} {B : Nat} {A : Option Addr} {n : Nat} {v : Nat → Bool} (h : RowX w B 4 A n (valB v n)) (h0 : 0 < n) : ∃ g, A = some ⟨g, 0, none⟩ ∧ B ≤ g ∧ OwnVb w g 4 n n v := by
  rcases h with h | ⟨g, cs, e, hg, hh, hx⟩
  · omega
  · refine ⟨g, e, hg, cs, hh, ?_, fun i hi => hx i _ (valB_at hi)⟩
    have := hx (n - 1) _ (valB_at (by omega))
    rcases Nat.lt_or_ge (n - 1) cs.size with hlt | hge
    · omega
    · rw [Array.getElem?_eq_none hge] at this; cases this
/-- A store into a row of Booleans that are known. -/
theorem OwnVb.turn {w : World} {G n : Nat} {T : TypeId} {v v' : Nat → Bool} {i : Nat} {b : Bool} (h : OwnVb w G T n n v) (hi : i < n) (hv : ∀ j, j < n → v' j = if j = i then b else v j) : OwnVb (w.setCell ⟨G, i, none⟩ (.bool b)) G T n n v' := by
  obtain ⟨cs, hh, h1, h2⟩ := h
  refine ⟨cs.setIfInBounds i (.bool b), by simp [World.setCell, Array.getElem?_modify, hh], by simp [h1], fun j hj => ?_⟩
  rw [Array.getElem?_setIfInBounds, hv j hj]
  by_cases e : i = j
  · subst e
    rw [if_pos rfl, if_pos (by omega), if_pos rfl]
  · rw [if_neg e, if_neg (by omega)]
    exact h2 j hj
end Go.Proofs.Ytnglpbfoeiahlaa
