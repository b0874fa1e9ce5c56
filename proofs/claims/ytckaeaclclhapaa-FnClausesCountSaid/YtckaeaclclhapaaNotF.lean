/- Contracts of the program's partial assignments as arrays (no claim of its own). Conditions: as each theorem states. -/
import Derived.Test.YtckaeaclclhapaaSlkA
import Derived.Test.YtckaeaclclhapaaEvaA
namespace Go.Proofs.Ytckaeaclclhapaa
open Go.ChangeShapes Go.WideShapes Go.ChangeAt Go.RowKit Go.Shelf

/-- Twelve values, as cells; as an array. -/
def cells12 (v : Nat → Int) : Array Value := #[.int .i64 (v 0), .int .i64 (v 1), .int .i64 (v 2), .int .i64 (v 3), .int .i64 (v 4), .int .i64 (v 5), .int .i64 (v 6), .int .i64 (v 7), .int .i64 (v 8), .int .i64 (v 9), .int .i64 (v 10), .int .i64 (v 11)]
def arrV (v : Nat → Int) : Value := .agg (cells12 v)
theorem cells12_at (v : Nat → Int) {i : Nat} (h : i < 12) : (cells12 v)[i]? = some (.int .i64 (v i)) := by
  match i, h with
  | 0, _ => rfl
  | 1, _ => rfl
  | 2, _ => rfl
  | 3, _ => rfl
  | 4, _ => rfl
  | 5, _ => rfl
  | 6, _ => rfl
  | 7, _ => rfl
  | 8, _ => rfl
  | 9, _ => rfl
  | 10, _ => rfl
  | 11, _ => rfl

set_option maxRecDepth 100000 in
set_option maxHeartbeats 1000000 in
theorem valueOf_any (v : Nat → Int) (n : Int) (w : World) (hl : litB n = true) (hv : ∀ i, i < 12 → -1 ≤ v i ∧ v i ≤ 1) :
    Calls Try.prog 64 #[arrV v, .int .i64 n] w fun e w' => e = .returned (.int .i64 (stV v n)) ∧ Below w.heap.size w w' := by
  obtain ⟨h0, h1, h2⟩ := litB_iff.1 hl
  obtain ⟨i, hi, hab⟩ : ∃ i : Nat, i < 12 ∧ ab n = (i : Int) + 1 := ⟨(ab n - 1).toNat, by have := ab_pos hl; omega, by have := ab_pos hl; omega⟩
  obtain ⟨hv0, hv1⟩ := hv i hi
  have hcell : (w.alloc (.cells (cells12 v) 94)).cell? ⟨w.heap.size, i, none⟩ = some (.int .i64 (v i)) := (cell_of_row _ _ _ _ _ _ (heap_alloc_new w _)).trans (cells12_at v hi)
  have hfin : stV v n = if n < 0 then -(v i) else v i := by
    unfold stV
    unfold ab at hab
    by_cases hp : 0 < n
    · rw [if_pos hp, if_neg (by omega)]
      rw [if_neg (by omega)] at hab
      rw [show (n - 1).toNat = i by omega]
    · rw [if_neg hp, if_pos (by omega)]
      rw [if_pos (by omega)] at hab
      rw [show (-n - 1).toNat = i by omega]
  have Hfin := Lib.hid hfin
  have hva := fun W => litVariable_any n W h1 h2
  rw [hab] at hva
  have Hva := Lib.hid hva
  have hi0 : (0 : Int) ≤ (i : Int) := by omega
  have hi1 : (i : Int) < 12 := by omega
  unfold cells12 at hcell
  unfold arrV cells12
  clear hfin h0 hl hab hva hv
  by_cases hneg : n < 0
  · have Hf := Lib.hid (show stV v n = -(v i) from by rw [Hfin.out, if_pos hneg])
    go_enter Try.func64, Try.ntmps64
    go_wp2_with fail
    refine (Hva.out _).mono ?_
    rintro e w' ⟨rfl, rfl⟩
    go_wp2_with fail
    refine (litNegated_any _ _).mono ?_
    rintro e w' ⟨rfl, hw⟩
    replace hw := hw.symm
    subst hw
    go_wp2
    go_ret
    exact ⟨ret_int Hf.out.symm, bl_alloc (Below.refl _ _) _⟩
  · have Hf := Lib.hid (show stV v n = v i from by rw [Hfin.out, if_neg hneg])
    go_enter Try.func64, Try.ntmps64
    go_wp2_with fail
    refine (Hva.out _).mono ?_
    rintro e w' ⟨rfl, rfl⟩
    go_wp2_with fail
    refine (litNegated_any _ _).mono ?_
    rintro e w' ⟨rfl, hw⟩
    replace hw := hw.symm
    subst hw
    go_wp2
    go_ret
    exact ⟨ret_int Hf.out.symm, bl_alloc (Below.refl _ _) _⟩

end Go.Proofs.Ytckaeaclclhapaa
