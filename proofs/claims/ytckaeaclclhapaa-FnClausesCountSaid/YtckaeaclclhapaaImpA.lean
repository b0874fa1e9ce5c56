/- The model's ImpliedLiterals (no claim of its own). Conditions: as each theorem states. -/
import Derived.Test.YtckaeaclclhapaaSlkC
import Derived.Test.YtckaeaclclhapaaIntR
import Derived.Laws.OwnMore
namespace Go.Proofs.Ytckaeaclclhapaa
open Go.ChangeShapes Go.WideShapes Go.ChangeAt Go.RowKit Go.Shelf

/-- The literals among the first k terms that a slack s implies. -/
def imL (c l : Nat → Int) (v : Nat → Int) (s : Int) : Nat → List Int
  | 0 => []
  | k + 1 => if stV v (l k) = 0 ∧ s < c k then imL c l v s k ++ [l k] else imL c l v s k
/-- What ImpliedLiterals answers. -/
def impL (n : Nat) (c l : Nat → Int) (bd : Int) (nv : Nat) (v : Nat → Int) : List Int := if slkOk n c l bd nv v then (if slk n c l bd v < 0 then [] else imL c l v (slk n c l bd v) n) else []
section
variable {c l v : Nat → Int} {s bd : Int} {k n nv : Nat}
theorem imL_yes (h1 : stV v (l k) = 0) (h2 : s < c k) : imL c l v s (k + 1) = imL c l v s k ++ [l k] := if_pos ⟨h1, h2⟩
theorem imL_no (h : ¬ (stV v (l k) = 0 ∧ s < c k)) : imL c l v s (k + 1) = imL c l v s k := if_neg h
theorem imL_le (k : Nat) : (imL c l v s k).length ≤ k := by
  induction k with
  | zero => exact Nat.le_refl _
  | succ k ih =>
    unfold imL
    split
    · simp; omega
    · omega
theorem impL_inv (h : slkOk n c l bd nv v = false) : impL n c l bd nv v = [] := by unfold impL; rw [h]; rfl
theorem impL_neg (h : slkOk n c l bd nv v = true) (h1 : slk n c l bd v < 0) : impL n c l bd nv v = [] := by unfold impL; rw [h, if_pos rfl, if_pos h1]
theorem impL_yes (h : slkOk n c l bd nv v = true) (h1 : ¬ slk n c l bd v < 0) : impL n c l bd nv v = imL c l v (slk n c l bd v) n := by unfold impL; rw [h, if_pos rfl, if_neg h1]
theorem impL_le : (impL n c l bd nv v).length ≤ n := by
  unfold impL
  split
  · split
    · simp
    · exact imL_le n
  · simp
end

/-- What a function that answers a slice of ints leaves: it lies in new memory. -/
def LRes (w : World) (L : List Int) (e : Ending) (w' : World) : Prop :=
  ∃ A cap, e = .returned (.slice A L.length cap) ∧ FrI w' w.heap.size 3 A L.length (gI L) ∧ Below w.heap.size w w'

/-- An empty slice that has just been made. -/
theorem rowAt_lit (W : World) (T : TypeId) : RowAt W W.heap.size T [] [] (.slice (some ⟨W.heap.size, 0, none⟩) 0 0) (W.alloc (.cells #[] T)) :=
  ⟨World.ownsRow_lit W #[] 0 (Nat.le_refl _) (by unfold maxLen; omega) (by simp), (fun x hx => by cases hx), bl_alloc (Below.refl _ _) _, Nat.le_refl _, by simp⟩

end Go.Proofs.Ytckaeaclclhapaa
