/- The marking of a problem that a call has made (no claim of its own). Conditions: as each theorem states. -/
import Derived.Test.YtbebdhjhlheboaaMrkR
import Derived.Test.YtbebdhjhlheboaaProA
namespace Go.Proofs.Ytbebdhjhlheboaa
open Go.ChangeShapes Go.WideShapes Go.ChangeAt Go.RowKit

/-- The heads of a row of constraints that lies in block G: each leads to room for its terms, in another block of the range. -/
def HdP (w : World) (lo hi G n : Nat) (ns : Nat → Nat) : Prop :=
  ∃ cs : Array Value, w.heap[G]? = some (.cells cs 55 (0, 0)) ∧ n * 2 ≤ cs.size ∧
    ∀ i, i < n → ∃ g ci, cs[i * 2]? = some (.slice (some ⟨g, 0, none⟩) (ns i) ci) ∧ g ≠ G ∧ lo ≤ g ∧ g < hi ∧ Room w g 114 (ns i * 2)
section
variable {w w' : World} {lo hi G n : Nat} {ns : Nat → Nat}
theorem HdP.room (h : HdP w lo hi G n ns) : Room w G 55 (n * 2) := by
  obtain ⟨cs, h1, h2, _⟩ := h
  exact ⟨cs, h1, h2⟩
theorem HdP.keep (h : HdP w lo hi G n ns) (hg : w'.heap[G]? = w.heap[G]?) (hs : Shp w w') : HdP w' lo hi G n ns := by
  obtain ⟨cs, h1, h2, h3⟩ := h
  refine ⟨cs, hg.trans h1, h2, fun i hi => ?_⟩
  obtain ⟨g, ci, a, b, c, d, e⟩ := h3 i hi
  exact ⟨g, ci, a, b, c, d, e.shp hs⟩
theorem HdP.set_ (h : HdP w lo hi G n ns) (j : Nat) (u : Value) : HdP (w.setCell ⟨G, j * 2 + 1, none⟩ u) lo hi G n ns := by
  obtain ⟨cs, h1, h2, h3⟩ := h
  refine ⟨cs.setIfInBounds (j * 2 + 1) u, by simp [World.setCell, Array.getElem?_modify, h1], by simp [h2], fun i hi => ?_⟩
  obtain ⟨g, ci, a, b, c, d, e⟩ := h3 i hi
  exact ⟨g, ci, by rw [Array.getElem?_setIfInBounds, if_neg (by omega)]; exact a, b, c, d, e.shp ((Shp.refl _).set_ _ _ _)⟩
end
theorem OwnP.hd {w : World} {lo G n : Nat} {p : Nat → Con} (h : OwnP w G n n p) (hlo : lo ≤ G) : HdP w lo w.heap.size G n (fun i => (p i).n) := by
  obtain ⟨cs, h1, h2, h3⟩ := h
  refine ⟨cs, h1, by omega, fun i hi => ?_⟩
  obtain ⟨g, hg, a, b, c⟩ := h3 i hi
  have hlt := c.lt
  obtain ⟨ds, d1, d2, _⟩ := c
  exact ⟨g, _, a, by omega, by omega, hlt, ds, d1, Nat.le_of_eq d2.symm⟩

set_option maxRecDepth 100000 in
set_option maxHeartbeats 1600000 in
theorem markConstraintS_any (lo hi G n cap : Nat) (p : Nat → Con) (k : Int) (w : World) (hn : (n : Int) + tot p n ≤ 1048576) (hk0 : 0 ≤ k) (hk1 : k ≤ 1048576) (hlo : lo ≤ G) (hhi : G < hi) (ho : HdP w lo hi G n (fun i => (p i).n)) :
    Calls Try.prog 18 #[.slice (some ⟨G, 0, none⟩) n cap, .int .i64 k] w fun e w' => e = .returned (.int .i64 (k + n + 2 * tot p n)) ∧ OnlyR lo hi w w' ∧ Shp w w' := by
  have hz := Lib.hid ho
  clear ho
  go_enter Try.func18, Try.ntmps18
  go_wp2
  go_loopw [1, 5] (fun t i wr => ∃ j : Nat, j ≤ n ∧ i = .int .i64 j ∧ t = .int .i64 (k + j + 2 * tot p j) ∧ HdP wr lo hi G n (fun i => (p i).n) ∧ OnlyR lo hi w wr ∧ Shp w wr) (fun _ i _ => n - (intOf i).toNat)
  case atStart => exact ⟨0, Nat.zero_le _, rfl, by simp [tot], hz.out, OnlyR.refl _ _ _, Shp.refl _⟩
  case round =>
    obtain ⟨j, hj, rfl, rfl, hh, hon, hsh⟩ := hrel
    by_cases hlt : j < n
    · have ht := tot_at p hlt
      obtain ⟨cs, c1, c2, c3⟩ := id hh
      obtain ⟨g, ci, a, b, c, d, e⟩ := c3 j hlt
      have hx1 : wr.cell? ⟨G, j * 2, none⟩ = some (.slice (some ⟨g, 0, none⟩) (p j).n ci) := (cell_of_row wr G _ cs _ _ c1).trans a
      have HH := Lib.hid hh
      have HE := Lib.hid e
      have HO := Lib.hid hon
      have HS := Lib.hid hsh
      clear c3 c1 c2 a hh e hon hsh cs
      go_wp2_with fail
      refine (markTermS_room g (p j).n ci _ wr (by omega) (by omega) (by omega) HE.out).mono ?_
      rintro e w1 ⟨rfl, h1, h2⟩
      have hh1 := HH.out.keep (h1.block G HH.out.room.lt (.inr fun a ha => by cases ha; exact fun e => b e.symm)) h2
      have hx2 := hh1.room.frozen (j * 2 + 1)
      obtain ⟨y2, hy2⟩ := hh1.room.cell (j := j * 2 + 1) (by omega)
      have H1 := Lib.hid hh1
      have H2 := Lib.hid (HO.out.trans (h1.range c d))
      have H3 := Lib.hid (HS.out.trans h2)
      have hnx : Value.int .i64 (k + (j : Int) + 2 * (tot p j : Int) + 2 * ((p j).n : Int) + 1) = .int .i64 (k + ((j + 1 : Nat) : Int) + 2 * (tot p (j + 1) : Int)) := by
        congr 1
        show _ = k + ((j + 1 : Nat) : Int) + 2 * ((tot p j + (p j).n : Nat) : Int)
        omega
      have HN := Lib.hid hnx
      clear hh1 h1 h2 HH HE HO HS hnx hx1
      go_wp2
      go_roundw
      case rel => exact ⟨j + 1, by omega, by go_num, HN.out, H1.out.set_ _ _, H2.out.set_ hlo hhi _ _, H3.out.set_ _ _ _⟩
      case measure => simp [intOf]; omega
    · have e : j = n := by omega
      subst e
      go_wp2
      go_ret
      exact ⟨rfl, hon, hsh⟩
end Go.Proofs.Ytbebdhjhlheboaa
