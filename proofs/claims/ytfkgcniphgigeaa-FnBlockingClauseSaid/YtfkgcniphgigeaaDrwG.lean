/- The draw of a valid constraint (no claim of its own). Conditions: as each theorem states. -/
import Derived.Test.YtfkgcniphgigeaaDrwF
import Derived.Deep.RegionHeld3
namespace Go.Proofs.Ytfkgcniphgigeaa
open Go.ChangeShapes Go.WideShapes Go.ChangeAt Go.RowKit

theorem alloc_at {W : World} {o : Obj} {H : Nat} (h : W.heap.size = H) : (W.alloc o).heap[H]? = some o := by subst h; exact heap_alloc_new W o
theorem FE.setne {w : World} {lo G k : Nat} (h : FE w lo (some ⟨G, 0, none⟩) k) {p : Addr} (hp : p.block ≠ G) (u : Value) : FE (w.setCell p u) lo (some ⟨G, 0, none⟩) k := by
  obtain ⟨c, l, h⟩ := h
  rcases h with h | ⟨G', e, hG, h⟩
  · exact ⟨c, l, .inl h⟩
  · cases e
    exact ⟨c, l, .inr ⟨G, rfl, hG, h.at_ (Below.heap_setCell w p u G (fun e => hp e.symm))⟩⟩
theorem Cel.gr {w w1 : World} {R j o : Nat} {v : Value} (hc : Cel w j o v) (hg : Gr R w w1) (hne : j ≠ R) : Cel w1 j o v := hg.cel hc hne

end Go.Proofs.Ytfkgcniphgigeaa
