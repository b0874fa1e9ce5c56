/- The draws of partial assignments and of values (no claim of its own). Conditions: as each theorem states. -/
import Derived.Test.YtckaeaclclhapaaDrwD
namespace Go.Proofs.Ytckaeaclclhapaa
open Go.ChangeShapes Go.WideShapes Go.ChangeAt Go.RowKit

section
variable {w w1 : World} {lo k s g cap : Nat} {T : TypeId} {ov : Value}
theorem TS.open (h : TS w lo T s ov k) (hk : 0 < k) : ∃ g cap, ov = .slice (some ⟨g, 0, none⟩) k cap ∧ k ≤ cap ∧ lo ≤ g ∧ g < w.heap.size ∧ (∀ j, j < k * s → ∃ u, w.cell? ⟨g, j, none⟩ = some u) ∧ ∀ j, w.frozen? ⟨g, j, none⟩ = false := by
  obtain ⟨xs, h0, h1, h2⟩ := h
  rcases h0.2 with ⟨_, h3⟩ | ⟨g, cap, cur, hov, hg, hh, hnc, _, hsz, htk⟩
  · omega
  · have hks : k * s ≤ cur.size := by rw [hsz]; exact Nat.mul_le_mul_right _ hnc
    refine ⟨g, cap, hov, hnc, hg, ?_, fun j hj => ⟨cur[j]'(by omega), (cell_of_row w g _ cur _ _ hh).trans (Array.getElem?_eq_getElem (by omega))⟩, fun j => by simp [World.frozen?, hh]⟩
    rcases Nat.lt_or_ge g w.heap.size with hlt | hge
    · exact hlt
    · rw [Array.getElem?_eq_none hge] at hh; cases hh
theorem TS.store (h : TS w lo T s (.slice (some ⟨g, 0, none⟩) k cap) k) (j : Nat) (z : Int) : TS (w.setCell ⟨g, j, none⟩ (.int .i64 z)) lo T s (.slice (some ⟨g, 0, none⟩) k cap) k := by
  obtain ⟨xs, h0, h1, h2⟩ := h
  refine ⟨_, (h0.stored j (.int .i64 z)).1, by simp [h1], fun u hu => ?_⟩
  rcases List.mem_or_eq_of_mem_set hu with hu | rfl
  · exact h2 u hu
  · exact ⟨z, rfl⟩
theorem FrI.short {B n n' : Nat} {A : Option Addr} {v : Nat → Int} (h : FrI w B T A n v) (hn : n' ≤ n) : FrI w B T A n' v := by
  rcases h with h | ⟨G, e, hG, cs, hh, h1, h2⟩
  · exact .inl (by omega)
  · exact .inr ⟨G, e, hG, cs, hh, by omega, fun i hi => h2 i (by omega)⟩
end

/-- What the draw of a slice of ints leaves. -/
def IDr (w : World) (R K : Nat) (e : Ending) (w' : World) : Prop := ∃ A k cap v, e = .returned (.slice A k cap) ∧ k ≤ 12 ∧ FrI w' w.heap.size 3 A k v ∧ Gr R w w' ∧ Rdr w' R K

end Go.Proofs.Ytckaeaclclhapaa
