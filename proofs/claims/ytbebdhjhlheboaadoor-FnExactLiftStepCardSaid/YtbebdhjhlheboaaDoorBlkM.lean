/- The arithmetic of blocking clauses (no claim of its own). Conditions: as each theorem states. -/
import Derived.Test.YtbebdhjhlheboaaDoorDsjZ
namespace Go.Proofs.YtbebdhjhlheboaaDoor
open Go.ChangeShapes Go.WideShapes Go.ChangeAt Go.RowKit

/-- The literal of variable i + 1 that the values make true; and its negation. -/
def truL (v : Nat → Bool) (i : Nat) : Int := if v i then (i : Int) + 1 else -((i : Int) + 1)
def blkL (v : Nat → Bool) (i : Nat) : Int := if v i then -((i : Int) + 1) else (i : Int) + 1
theorem blk_tru (v : Nat → Bool) (i : Nat) : -(truL v i) = blkL v i := by
  unfold truL blkL
  split <;> omega
theorem blk_ab (v : Nat → Bool) (i : Nat) : ab (blkL v i) = ((i + 1 : Nat) : Int) := by
  unfold ab blkL
  split <;> split <;> omega
theorem blk_ne (v : Nat → Bool) (i : Nat) : blkL v i ≠ 0 := by
  unfold blkL
  split <;> omega
theorem blk_lit (v : Nat → Bool) {i : Nat} (h : i < 12) : litB (blkL v i) = true := by
  rw [litB_iff]
  unfold blkL
  split <;> omega
theorem blk_ok (v : Nat → Bool) : clB 12 (blkL v) = true := by
  unfold clB
  rw [show okD (blkL v) 12 = true from okD_iff.2 ⟨fun i hi => blk_lit v hi, fun i j _ _ e => by
    rw [blk_ab, blk_ab] at e
    have : i = j := by omega
    rw [this]⟩]
  rfl
theorem blk_seen (v : Nat → Bool) {i : Nat} (h : i < 12) : seenA (blkL v) 12 (i + 1) = blkL v i := by
  rcases seenA_spec (blkL v) 12 (i + 1) with ⟨_, hno⟩ | ⟨j, hj, h1, h2⟩
  · exact absurd (blk_ab v i) (hno i h)
  · rw [blk_ab] at h2
    have : j = i := by omega
    rw [h1, this]
theorem blk_row (v : Nat → Bool) {i : Nat} (h : i < 12) : clR (seenA (blkL v) 12) (i + 1) = clR (seenA (blkL v) 12) i ++ [(1, blkL v i)] := by
  show clR (seenA (blkL v) 12) i ++ clAt (seenA (blkL v) 12 (i + 1)) = _
  rw [blk_seen v h, clAt, if_neg (blk_ne v i)]
theorem blk_len (v : Nat → Bool) {k : Nat} (h : k ≤ 12) : (clR (seenA (blkL v) 12) k).length = k := by
  induction k with
  | zero => rfl
  | succ k ih => rw [blk_row v (by omega), List.length_append, ih (by omega)]; rfl
def bcN (n : Nat) (_ : Nat → Bool) : Nat := if n = 12 then 12 else 0
def bcD (n : Nat) (_ : Nat → Bool) : Int := if n = 12 then 1 else 0
def bcB (n : Nat) (_ : Nat → Bool) : Bool := decide (n = 12)
theorem bcN_le (n : Nat) (v : Nat → Bool) : bcN n v ≤ 1048576 := by unfold bcN; split <;> omega
theorem blk_nums (v : Nat → Bool) : clN 12 (blkL v) = 12 ∧ clD 12 (blkL v) = 1 := by
  constructor
  · unfold clN
    rw [blk_ok, if_pos rfl]
    exact blk_len v (Nat.le_refl _)
  · unfold clD
    rw [blk_ok]
    rfl
end Go.Proofs.YtbebdhjhlheboaaDoor
