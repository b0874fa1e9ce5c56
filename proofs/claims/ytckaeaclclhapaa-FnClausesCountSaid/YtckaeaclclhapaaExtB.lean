/- The program's literals of a partial assignment (no claim of its own). Conditions: as each theorem states. -/
import Derived.Test.YtckaeaclclhapaaExtA
import Derived.Test.YtckaeaclclhapaaIntR
import Derived.ChangeKeysEq
namespace Go.Proofs.Ytckaeaclclhapaa
open Go.ChangeShapes Go.WideShapes Go.ChangeAt Go.RowKit Go.Shelf

/-- The literals that are true under the first k values. -/
def tl (v : Nat → Int) : Nat → List Int
  | 0 => []
  | k + 1 => if v k = 0 then tl v k else tl v k ++ [v k * ((k : Int) + 1)]
section
variable {v : Nat → Int} {u : Nat → Bool} {k n : Nat}
theorem tl_no (h : v k = 0) : tl v (k + 1) = tl v k := if_pos h
theorem tl_yes (h : v k = 1) : tl v (k + 1) = tl v k ++ [(k : Int) + 1] := by
  show (if v k = 0 then _ else _) = _
  rw [if_neg (by omega), h, Int.one_mul]
theorem tl_neg (h : v k = -1) : tl v (k + 1) = tl v k ++ [-((k : Int) + 1)] := by
  show (if v k = 0 then _ else _) = _
  rw [if_neg (by omega), h, Int.neg_one_mul]
theorem tl_le (k : Nat) : (tl v k).length ≤ k := by
  induction k with
  | zero => exact Nat.le_refl _
  | succ k ih =>
    unfold tl
    split
    · omega
    · simp; omega
theorem tl_lit (hv : ∀ i, i < 12 → -1 ≤ v i ∧ v i ≤ 1) (hk : k ≤ 12) : ∀ x ∈ tl v k, litB x = true := by
  induction k with
  | zero => intro x hx; cases hx
  | succ k ih =>
    intro x hx
    have h3 : v k = -1 ∨ v k = 0 ∨ v k = 1 := by have := hv k (by omega); omega
    rcases h3 with e | e | e
    · rw [tl_neg e] at hx
      rcases List.mem_append.1 hx with h | h
      · exact ih (by omega) x h
      · rw [List.mem_singleton] at h
        subst h
        rw [litB_iff]
        omega
    · rw [tl_no e] at hx
      exact ih (by omega) x hx
    · rw [tl_yes e] at hx
      rcases List.mem_append.1 hx with h | h
      · exact ih (by omega) x h
      · rw [List.mem_singleton] at h
        subst h
        rw [litB_iff]
        omega
theorem tl_any (hv : ∀ i, i < 12 → -1 ≤ v i ∧ v i ≤ 1) (hk : k ≤ 12) : (!(tl v k).any fun l => !trueP u l) = agT v u k := by
  induction k with
  | zero => rfl
  | succ k ih =>
    have h3 : v k = -1 ∨ v k = 0 ∨ v k = 1 := by have := hv k (by omega); omega
    unfold agT
    rw [← ih (by omega)]
    rcases h3 with e | e | e
    · rw [tl_neg e, List.any_append, Bool.not_or, e]
      congr 1
      have : trueP u (-((k : Int) + 1)) = !u k := by
        unfold trueP
        rw [if_neg (by omega)]
        congr 2
        omega
      simp [this, agP]
    · rw [tl_no e, e]
      simp [agP]
    · rw [tl_yes e, List.any_append, Bool.not_or, e]
      congr 1
      have : trueP u ((k : Int) + 1) = u k := by
        unfold trueP
        rw [if_pos (by omega)]
        congr 1
        omega
      simp [this, agP]
end
theorem anyQ_iff {q : Nat → Bool} {n : Nat} : anyQ q n = true ↔ ∃ i, i < n ∧ q i = true := by
  constructor
  · intro h
    induction n with
    | zero => cases h
    | succ n ih =>
      unfold anyQ at h
      rw [Bool.or_eq_true] at h
      rcases h with h | h
      · obtain ⟨i, hi, e⟩ := ih h
        exact ⟨i, by omega, e⟩
      · exact ⟨n, by omega, h⟩
  · rintro ⟨i, hi, h⟩
    exact anyQ_of hi h
theorem anyQ_list (q : Int → Bool) (L : List Int) : anyQ (fun i => q (gI L i)) L.length = L.any q := by
  rw [Bool.eq_iff_iff, anyQ_iff, List.any_eq_true]
  constructor
  · rintro ⟨i, hi, h⟩
    refine ⟨gI L i, ?_, h⟩
    unfold gI
    rw [List.getD_eq_getElem?_getD, List.getElem?_eq_getElem hi]
    exact List.getElem_mem _
  · rintro ⟨x, hx, h⟩
    obtain ⟨i, hi, e⟩ := List.mem_iff_getElem.1 hx
    refine ⟨i, hi, ?_⟩
    show q (gI L i) = true
    unfold gI
    rw [List.getD_eq_getElem?_getD, List.getElem?_eq_getElem hi]
    simpa [e] using h
theorem gI_mem {L : List Int} {i : Nat} (hi : i < L.length) : gI L i ∈ L := by
  unfold gI
  rw [List.getD_eq_getElem?_getD, List.getElem?_eq_getElem hi]
  exact List.getElem_mem _

theorem run_idx12 (v : Nat → Int) {k : Nat} (h : k < 12) (W : World) : (Instr.index 94 (arrV v) (.int .i64 (k : Int))).run Try.prog W = .ok (.int .i64 (v k)) W := by
  have h1 := run_part_plain (P := Try.prog) (e := 3) (by kernel_rfl) (w := W) (cells12_at v h)
  obtain ⟨i0, hi, hz0, hz1, hz2⟩ := info_parts Try.infoInt
  have h2 : (sizeOf 3).run Try.prog W = .ok 1 W := by simp [sizeOf, typeInfo, hi, hz1]
  have hk : (0 : Int) ≤ k ∧ (k : Int) < 12 := by omega
  unfold Instr.index arrV
  simp only [asIntOf, Sem.run_bind, Sem.run_pure, Result.andThen_ok, run_underlying Try.underlying94]
  rw [if_pos (by simpa using hk)]
  simp only [Sem.run_bind, h2, Result.andThen_ok, Nat.mul_one, Int.toNat_natCast]
  exact h1
theorem Try.infoLit : (Try.prog.info? 58).map (fun i => (i.zero, i.size, i.bytes)) = some (some (.int .i64 0), 1, 8) := by kernel_rfl
end Go.Proofs.Ytckaeaclclhapaa
