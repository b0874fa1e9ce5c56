/- What a marking may turn, by ranges of blocks (no claim of its own). Conditions: as each theorem states. -/
import Derived.Test.YtbebdhjhlheboaaDoorMarkB
import Derived.Test.YtbebdhjhlheboaaDoorIntR
namespace Go.Proofs.YtbebdhjhlheboaaDoor
open Go.ChangeShapes Go.WideShapes Go.ChangeAt Go.RowKit

/-- Of the blocks that lay, only those from lo on and below hi may have turned. -/
structure OnlyR (lo hi : Nat) (w w' : World) : Prop where
  os : w'.os = w.os
  tape : w'.tape = w.tape
  output : w'.output = w.output
  size : w.heap.size ≤ w'.heap.size
  block : ∀ k, k < w.heap.size → (k < lo ∨ hi ≤ k) → w'.heap[k]? = w.heap[k]?
/-- Every block of cells is one still, of the same type and length. -/
def Shp (w w' : World) : Prop := ∀ (k : Nat) (cs : Array Value) (T : TypeId) (fr : Nat × Nat), w.heap[k]? = some (.cells cs T fr) → ∃ cs' : Array Value, w'.heap[k]? = some (.cells cs' T fr) ∧ cs'.size = cs.size
section
variable {w w' w1 : World} {lo hi G n : Nat} {A : Option Addr} {T : TypeId} {v : Nat → Int}
theorem OnlyR.refl (lo hi : Nat) (w : World) : OnlyR lo hi w w := ⟨rfl, rfl, rfl, Nat.le_refl _, fun _ _ _ => rfl⟩
theorem OnlyR.trans (h : OnlyR lo hi w w1) (k : OnlyR lo hi w1 w') : OnlyR lo hi w w' :=
  ⟨k.os.trans h.os, k.tape.trans h.tape, k.output.trans h.output, Nat.le_trans h.size k.size, fun j hj hr => (k.block j (Nat.lt_of_lt_of_le hj h.size) hr).trans (h.block j hj hr)⟩
theorem Only.range (h : Only w w' (some ⟨G, 0, none⟩) n) (h1 : lo ≤ G) (h2 : G < hi) : OnlyR lo hi w w' :=
  ⟨h.os, h.tape, h.output, h.size, fun k hk hr => h.block k hk (.inr fun a ha => by
    cases ha
    show k ≠ G
    omega)⟩
theorem bl_range (h : Below w.heap.size w w') : OnlyR lo hi w w' := ⟨h.os, h.tape, h.output, h.size, fun k hk _ => h.block k hk⟩
theorem OnlyR.set_ (h : OnlyR lo hi w w1) (h1 : lo ≤ G) (h2 : G < hi) (o : Nat) (u : Value) : OnlyR lo hi w (w1.setCell ⟨G, o, none⟩ u) :=
  ⟨h.os, h.tape, h.output, by simpa [World.setCell] using h.size, fun k hk hr => (Below.heap_setCell w1 ⟨G, o, none⟩ u k (show k ≠ G by omega)).trans (h.block k hk hr)⟩
theorem OnlyR.below (h : OnlyR lo hi w w') {W : World} (hb : Below W.heap.size W w) (hlo : W.heap.size ≤ lo) : Below W.heap.size W w' :=
  ⟨h.os.trans hb.os, h.tape.trans hb.tape, h.output.trans hb.output, Nat.le_trans hb.size h.size, fun k hk => (h.block k (Nat.lt_of_lt_of_le hk hb.size) (.inl (by omega))).trans (hb.block k hk)⟩
theorem OnlyR.cell (h : OnlyR lo hi w w') {p : Addr} {u : Value} (hp : p.block < lo ∨ hi ≤ p.block) (hc : w.cell? p = some u) : w'.cell? p = some u :=
  (World.cell?_of_block (w := w) (h.block p.block (World.block_lt_of_cell? w p hc) hp)).trans hc
theorem FI2.onlyR {lo' hi' : Nat} (h : FI2 w lo hi T A n v) (ho : OnlyR lo' hi' w w') (hd : hi ≤ lo' ∨ hi' ≤ lo) : FI2 w' lo hi T A n v := by
  rcases h with h | ⟨G, e, hG, hG', h⟩
  · exact .inl h
  · exact .inr ⟨G, e, hG, hG', h.at_ (ho.block G h.lt (by omega))⟩
theorem Shp.refl (w : World) : Shp w w := fun _ cs _ _ h => ⟨cs, h, rfl⟩
theorem Shp.trans (h : Shp w w1) (k : Shp w1 w') : Shp w w' := fun j cs T fr hj => by
  obtain ⟨cs1, h1, h2⟩ := h j cs T fr hj
  obtain ⟨cs2, h3, h4⟩ := k j cs1 T fr h1
  exact ⟨cs2, h3, h4.trans h2⟩
theorem Shp.set_ (h : Shp w w1) (G o : Nat) (u : Value) : Shp w (w1.setCell ⟨G, o, none⟩ u) := fun j cs T fr hj => by
  obtain ⟨cs1, h1, h2⟩ := h j cs T fr hj
  by_cases e : j = G
  · subst e
    exact ⟨cs1.setIfInBounds o u, by simp [World.setCell, Array.getElem?_modify, h1], by simp [h2]⟩
  · exact ⟨cs1, (Below.heap_setCell w1 ⟨G, o, none⟩ u j e).trans h1, h2⟩
theorem bl_shp (h : Below w.heap.size w w') : Shp w w' := fun j cs T fr hj => by
  refine ⟨cs, (h.block j ?_).trans hj, rfl⟩
  rcases Nat.lt_or_ge j w.heap.size with hlt | hge
  · exact hlt
  · rw [Array.getElem?_eq_none hge] at hj; cases hj
end
/-- A block of at least n cells of type T. -/
def Room (w : World) (G : Nat) (T : TypeId) (n : Nat) : Prop := ∃ cs : Array Value, w.heap[G]? = some (.cells cs T (0, 0)) ∧ n ≤ cs.size
section
variable {w w' : World} {G n : Nat} {T : TypeId}
theorem Room.shp (h : Room w G T n) (hs : Shp w w') : Room w' G T n := by
  obtain ⟨cs, h1, h2⟩ := h
  obtain ⟨cs', h3, h4⟩ := hs _ _ _ _ h1
  exact ⟨cs', h3, by omega⟩
theorem Room.cell (h : Room w G T n) {j : Nat} (hj : j < n) : ∃ u, w.cell? ⟨G, j, none⟩ = some u := by
  obtain ⟨cs, hh, h1⟩ := h
  exact ⟨cs[j]'(by omega), (cell_of_row w G _ cs _ _ hh).trans (Array.getElem?_eq_getElem (by omega))⟩
theorem Room.frozen (h : Room w G T n) (j : Nat) : w.frozen? ⟨G, j, none⟩ = false := by
  obtain ⟨cs, hh, h1⟩ := h
  simp [World.frozen?, hh]
theorem Room.lt (h : Room w G T n) : G < w.heap.size := by
  obtain ⟨cs, hh, _⟩ := h
  rcases Nat.lt_or_ge G w.heap.size with hlt | hge
  · exact hlt
  · rw [Array.getElem?_eq_none hge] at hh; cases hh
end

set_option maxRecDepth 100000 in
set_option maxHeartbeats 800000 in
/-- The marking of terms, of which the room alone is known. -/
theorem markTermS_room (G n cap : Nat) (k : Int) (w : World) (hn : n ≤ 1048576) (hk0 : 0 ≤ k) (hk1 : k ≤ 1099511627776) (ho : Room w G 60 (n * 2)) :
    Calls Tryd.prog 62 #[.slice (some ⟨G, 0, none⟩) n cap, .int .i64 k] w fun e w' => e = .returned (.int .i64 (k + 2 * n)) ∧ Only w w' (some ⟨G, 0, none⟩) n ∧ Shp w w' := by
  have hz := Lib.hid ho
  clear ho
  go_enter Tryd.func62, Tryd.ntmps62
  go_wp2
  go_loopw [1, 5] (fun t i wr => ∃ j : Nat, j ≤ n ∧ i = .int .i64 j ∧ t = .int .i64 (k + 2 * j) ∧ Only w wr (some ⟨G, 0, none⟩) n ∧ Shp w wr) (fun _ i _ => n - (intOf i).toNat)
  case atStart => exact ⟨0, Nat.zero_le _, rfl, by simp, Only.refl _ _ _, Shp.refl _⟩
  case round =>
    obtain ⟨j, hj, rfl, rfl, hon, hsh⟩ := hrel
    by_cases hlt : j < n
    · have hrm := hz.out.shp hsh
      obtain ⟨y1, hy1⟩ := hrm.cell (j := j * 2) (by omega)
      obtain ⟨y2, hy2⟩ := hrm.cell (j := j * 2 + 1) (by omega)
      have hf1 := hrm.frozen (j * 2)
      have hf2 := hrm.frozen (j * 2 + 1)
      have Hsh := Lib.hid hsh
      clear hrm hsh
      go_wp2
      go_roundw
      case rel => exact ⟨j + 1, by omega, by go_num, add2 k j, (hon.set_ (by omega) _ _).set_ (by omega) _ _, (Hsh.out.set_ _ _ _).set_ _ _ _⟩
      case measure => simp [intOf]; omega
    · have e : j = n := by omega
      subst e
      go_wp2
      go_ret
      exact ⟨rfl, hon, hsh⟩
end Go.Proofs.YtbebdhjhlheboaaDoor
