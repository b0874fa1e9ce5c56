/- The draw of a valid constraint (no claim of its own). Conditions: as each theorem states. -/
import Derived.Test.YtckaeaclclhapaaDrwF
import Derived.Deep.RegionHeld3
namespace Go.Proofs.Ytckaeaclclhapaa
open Go.ChangeShapes Go.WideShapes Go.ChangeAt Go.RowKit

theorem alloc_at {W : World} {o : Obj} {H : Nat} (h : W.heap.size = H) : (W.alloc o).heap[H]? = some o := by subst h; exact heap_alloc_new W o
/-- The draw of a listed number, told from an earlier world. -/
theorem num_from {W Wc : World} (hbx : Below W.heap.size W Wc) (R K b n : Nat) (cs : Array Value) (T : TypeId) (hK : K ≤ 1000000) (h : Rdr W R K) (hb : b ≠ R) (hh : Wc.heap[b]? = some (.cells cs T (0, 0))) (hn : cs.size = n) (h0 : 0 < n) (hm : n ≤ 1000) (hall : ∀ u ∈ cs.toList, ∃ z, u = .int .i64 z) :
    Calls Try.prog 12 #[.pointer (some ⟨R, 0, none⟩), .slice (some ⟨b, 0, none⟩) n n] Wc (NRes W R K cs) :=
  (num_any R K b n cs T Wc hK (h.bel hbx) hb hh hn h0 hm hall).mono fun _ _ ⟨z, he, hm, hg, hr⟩ => ⟨z, he, hm, (Gr.of hbx).trans hg, hr⟩
theorem FE.setne {w : World} {lo G k : Nat} (h : FE w lo (some ⟨G, 0, none⟩) k) {p : Addr} (hp : p.block ≠ G) (u : Value) : FE (w.setCell p u) lo (some ⟨G, 0, none⟩) k := by
  obtain ⟨c, l, h⟩ := h
  rcases h with h | ⟨G', e, hG, h⟩
  · exact ⟨c, l, .inl h⟩
  · cases e
    exact ⟨c, l, .inr ⟨G, rfl, hG, h.at_ (Below.heap_setCell w p u G (fun e => hp e.symm))⟩⟩
theorem Cel.gr {w w1 : World} {R j o : Nat} {v : Value} (hc : Cel w j o v) (hg : Gr R w w1) (hne : j ≠ R) : Cel w1 j o v := hg.cel hc hne

end Go.Proofs.Ytckaeaclclhapaa
