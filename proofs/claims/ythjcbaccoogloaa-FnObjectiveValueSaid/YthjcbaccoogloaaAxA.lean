/- A list of ints, of known values, that grows in a cell (no claim of its own). Conditions: as each theorem states. -/
import Derived.Test.YthjcbaccoogloaaDmJ
import Derived.Test.YthjcbaccoogloaaRhZ
namespace Go.Proofs.Ythjcbaccoogloaa
open Go.ChangeShapes Go.WideShapes Go.ChangeAt Go.RowKit

theorem vlst_at {v : Nat → Int} {n i : Nat} (hi : i < n) : (vlst v n)[i]? = some (v i) := by
  induction n with
  | zero => omega
  | succ n ih =>
    show (vlst v n ++ [v n])[i]? = _
    by_cases hin : i < n
    · rw [List.getElem?_append_left (by rw [vlst_length]; exact hin)]
      exact ih hin
    · obtain rfl : i = n := by omega
      rw [List.getElem?_append_right (by rw [vlst_length]; omega), vlst_length]
      simp
/-- A slice of the call's own: element i is v i. -/
def OX (w : World) (lo : Nat) (V : Value) (n : Nat) (v : Nat → Int) : Prop := w.ownsRow lo 3 1 V n ((vlst v n).map vI)
section
variable {w w' w1 W : World} {lo n k : Nat} {V : Value} {v : Nat → Int} {row : Option Nat}
theorem OX.nil : OX w lo (.slice none 0 0) 0 v := World.ownsRow_nil _ _ _ _
theorem OX.kept (h : OX w lo V n v) (hg : w.grownBy w' row) (ho : ∀ j, row = some j → j < lo) : OX w' lo V n v := World.ownsRow.kept h hg (by
  cases e : V.ownBlock with
  | none => exact .inl rfl
  | some j =>
    right
    intro e'
    have := ho j e'.symm
    have := (World.ownsRow.lt h _ e).1
    omega)
theorem OX.head (h : OX w lo V n v) : ∃ A cap, V = .slice A n cap := by
  rcases h.2 with ⟨hov, hk⟩ | ⟨g, cap, cur, hov, _⟩
  · exact ⟨none, 0, by rw [hk]; exact hov⟩
  · exact ⟨_, cap, hov⟩
theorem OX.rd {A : Option Addr} {cap : Nat} (h : OX w lo (.slice A n cap) n v) : RdI w w.heap.size A n v := fun hn => by
  rcases h.2 with ⟨_, hk⟩ | ⟨g, c, cur, e, hg, hh, _⟩
  · omega
  · cases e
    refine ⟨g, 0, rfl, (Array.getElem?_eq_some_iff.1 hh).1, fun i hi => ?_⟩
    have hx : ((vlst v n).map vI)[i]? = some (.int .i64 (v i)) := by
      rw [List.getElem?_map, vlst_at hi]; rfl
    have := World.ownsRow.cells h rfl _ _ hx
    rw [Go.WideShapes.add_plain] at this
    exact this
set_option maxRecDepth 100000 in
set_option maxHeartbeats 800000 in
/-- The append of one int. -/
theorem wp_ox1 {o : Oper} {a : Act} {K : Act → World → Prop} {Q : Exit → Act → World → Prop} (s x : Operand)
    (ho : o.op = .call { callee := .builtin .append, args := #[s, x], argTypes := #[23, 23] })
    (h : OX W lo V k v) (hlo : lo ≤ W.heap.size) (hs : a.eval s = V) {H : Nat} (hx : a.eval x = .slice (some ⟨H, 0, none⟩) 1 1) {X : Int} (hX : v k = X) {T' : TypeId} (hnew : W.heap[H]? = some (.cells #[.int .i64 X] T' (0, 0))) (hk : k ≤ 1048576)
    (hK : ∀ g cap w', OX w' lo (.slice (some ⟨g, 0, none⟩) (k + 1) cap) (k + 1) v → W.grownBy w' V.ownBlock → K (a.put o.dst (.slice (some ⟨g, 0, none⟩) (k + 1) cap)) w') :
    o.wp Try.prog a W K Q := by
  obtain ⟨i0, hi, hz0, hz1, hz2⟩ := info_parts Try.infoInt
  refine wp_append_lies _ s x 23 ho lo 3 i0 _ 1 8 Try.underlying23 hi hz0 hz1 hz2 rfl (by omega) V k _ hs h ⟨H, 0, none⟩ 1 1 [.int .i64 X] hx (by rfl)
    (World.news_of_block hnew) (by simp [Value.oneCell']) (by omega) (by unfold maxLen; omega) (by omega) hlo W.heap.size rfl ?_
  intro g cap w' hown hg _ _
  refine hK g cap w' ?_ hg
  subst hX
  have hd : (vlst v (k + 1)).map vI = (vlst v k).map vI ++ [.int .i64 (v k)] := by
    show (vlst v k ++ [v k]).map vI = _
    rw [List.map_append]; rfl
  unfold OX
  rw [hd]
  exact hown
end

/-- A list that grows in the cell o of the block G: all that lay in w0 is as it was but that cell. -/
structure AX (wb w0 w : World) (lo G o : Nat) (V : Value) (k : Nat) (v : Nat → Int) : Prop where
  hb : wb.heap.size ≤ G
  hG : G < lo
  hs : lo ≤ w.heap.size
  cel : Cel w G o V
  oth : ∀ p : Addr, p.block < lo → p ≠ ⟨G, o, none⟩ → w.cell? p = w0.cell? p
  ox : OX w lo V k v
  bl : Below wb.heap.size wb w
theorem AX.step {wb w0 w w' w'' : World} {lo G o k : Nat} {V u : Value} {v : Nat → Int} (h : AX wb w0 w lo G o V k v) (hb : Below w.heap.size w w') (hg : w'.grownBy w'' V.ownBlock) (hox : OX w'' lo u (k + 1) v) :
    AX wb w0 (w''.setCell ⟨G, o, none⟩ u) lo G o u (k + 1) v := by
  have hown : ∀ j, V.ownBlock = some j → lo ≤ j := fun j e => (World.ownsRow.lt h.ox j e).1
  have h1 := h.hs; have h2 := hb.size; have h3 := hg.size; have h4 := h.hb; have h5 := h.hG; have h6 := h.bl.size
  have hsz : (w''.setCell ⟨G, o, none⟩ u).heap.size = w''.heap.size := by simp [World.setCell]
  refine ⟨h.hb, h.hG, by omega, ((h.cel.below hb).grow hg (fun b e => by have := hown b e; omega)).put, fun p hp hne => ?_, OX.kept hox (gb_set _ _ _) (fun j e => by cases e; exact h5), ((bl_trans h.bl hb).grown hg (by omega) (fun b e => by have := hown b e; omega)).setCell h4 _⟩
  · rw [World.cell?_setCell_other _ _ _ _ (fun e => hne e.symm), ← h.oth p hp hne]
    refine (World.cell?_of_block (hg.block p.block (by omega) (fun e => ?_))).trans (World.cell?_of_block (hb.block p.block (by omega)))
    have := hown _ e.symm
    omega
end Go.Proofs.Ythjcbaccoogloaa
