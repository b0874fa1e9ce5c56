/- The draw of values (no claim of its own). Conditions: as each theorem states. -/
import Derived.Test.YtbebdhjhlheboaaGreatDrwI
namespace Go.Proofs.YtbebdhjhlheboaaGreat
open Go.ChangeShapes Go.WideShapes Go.ChangeAt Go.RowKit

/-- A slice of k Booleans that the draw has made in a block from lo on. -/
def BS (w : World) (lo : Nat) (ov : Value) (k : Nat) : Prop := ∃ xs : List Value, w.ownsRow lo 4 1 ov k xs ∧ xs.length = k ∧ ∀ u ∈ xs, ∃ b, u = .bool b
/-- Such a slice, as it reads. -/
def FB (w : World) (lo : Nat) (A : Option Addr) (k : Nat) (v : Nat → Bool) : Prop := k = 0 ∨ ∃ G, A = some ⟨G, 0, none⟩ ∧ lo ≤ G ∧ G < w.heap.size ∧ ∃ cs : Array Value, w.heap[G]? = some (.cells cs 4 (0, 0)) ∧ ∀ i, i < k → cs[i]? = some (.bool (v i))
section
variable {w w1 W : World} {R lo k k' : Nat} {ov : Value} {A : Option Addr} {v : Nat → Bool}
theorem BS.bel (h : BS w lo ov k) (hb : Below w.heap.size w w1) : BS w1 lo ov k := by
  obtain ⟨xs, h0, h1, h2⟩ := h
  exact ⟨xs, row_below' h0 hb, h1, h2⟩
theorem BS.gr (h : BS w lo ov k) (hg : Gr R w w1) (hR : R < lo) : BS w1 lo ov k := by
  obtain ⟨xs, h0, h1, h2⟩ := h
  refine ⟨xs, h0.kept hg ?_, h1, h2⟩
  cases e : ov.ownBlock with
  | none => exact .inl rfl
  | some j =>
    right
    intro e'
    cases e'
    have := (h0.lt _ e).1
    omega
theorem BS.lt (h : BS w lo ov k) : ∀ j, ov.ownBlock = some j → lo ≤ j := fun j e => by
  obtain ⟨xs, h0, h1, h2⟩ := h
  exact (h0.lt j e).1
theorem bs_lit (W : World) : BS (W.alloc (.cells #[] 4)) W.heap.size (.slice (some ⟨W.heap.size, 0, none⟩) 0 0) 0 :=
  ⟨[], by simpa using World.ownsRow_lit W #[] 0 (Nat.le_refl _) (by unfold maxLen; omega) (by simp), by simp, fun u hu => by cases hu⟩
theorem BS.fb (h : BS w lo ov k) : ∃ A cap v, ov = .slice A k cap ∧ k ≤ cap ∧ FB w lo A k v := by
  obtain ⟨xs, h0, h1, h2⟩ := h
  rcases h0.2 with ⟨hov, hk⟩ | ⟨g, cap, cur, hov, hg, hh, hnc, _, hsz, htk⟩
  · subst hk
    exact ⟨none, 0, fun _ => false, hov, Nat.le_refl _, .inl rfl⟩
  · have hlt : g < w.heap.size := by
      rcases Nat.lt_or_ge g w.heap.size with hlt | hge
      · exact hlt
      · rw [Array.getElem?_eq_none hge] at hh; cases hh
    refine ⟨_, cap, fun i => match xs.getD i undef with | .bool b => b | _ => false, hov, hnc, .inr ⟨g, rfl, hg, hlt, cur, hh, fun i hi => ?_⟩⟩
    have hx : xs[i]? = some (xs[i]'(by omega)) := List.getElem?_eq_getElem (by omega)
    obtain ⟨b, hb⟩ := h2 (xs[i]'(by omega)) (List.getElem_mem _)
    have hd : xs.getD i undef = .bool b := by rw [List.getD_eq_getElem?_getD, hx, hb]; rfl
    show cur[i]? = some (.bool (match xs.getD i undef with | .bool b => b | _ => false))
    rw [hd]
    rw [hb, ← htk, List.getElem?_take_of_lt (by omega)] at hx
    have h3 : cur[i]? = some (.bool b) := by simpa using hx
    exact h3
theorem FB.short (h : FB w lo A k v) (hk : k' ≤ k) : FB w lo A k' v := by
  rcases h with h | ⟨G, e, h1, h2, cs, hh, hc⟩
  · exact .inl (by omega)
  · exact .inr ⟨G, e, h1, h2, cs, hh, fun i hi => hc i (by omega)⟩
theorem FB.rd (h : FB w lo A k v) : RdB w w.heap.size A k v := fun hk => by
  rcases h with h | ⟨G, e, h1, h2, cs, hh, hc⟩
  · omega
  · refine ⟨G, 0, e, h2, fun i hi => ?_⟩
    rw [Nat.zero_add]
    exact (cell_of_row w G _ cs _ _ hh).trans (hc i hi)
theorem FB.set_ (h : FB w lo A k v) {p : Addr} (hp : p.block < lo) (u : Value) : FB (w.setCell p u) lo A k v := by
  rcases h with h | ⟨G, e, h1, h2, cs, hh, hc⟩
  · exact .inl h
  · exact .inr ⟨G, e, h1, by simpa [World.setCell] using h2, cs, (Below.heap_setCell w p u G (by omega)).trans hh, hc⟩

set_option maxRecDepth 100000 in
set_option maxHeartbeats 800000 in
theorem wp_bs1 {o : Oper} {a : Act} {K : Act → World → Prop} {Q : Exit → Act → World → Prop} (s x : Operand)
    (ho : o.op = .call { callee := .builtin .append, args := #[s, x], argTypes := #[80, 80] })
    (h : BS W lo ov k) (hlo : lo ≤ W.heap.size) (hs : a.eval s = ov) {H : Nat} (hx : a.eval x = .slice (some ⟨H, 0, none⟩) 1 1) {X : Bool} {T' : TypeId} (hnew : W.heap[H]? = some (.cells #[.bool X] T' (0, 0))) (hk : k ≤ 1048576)
    (hK : ∀ g cap w', BS w' lo (.slice (some ⟨g, 0, none⟩) (k + 1) cap) (k + 1) → W.grownBy w' ov.ownBlock → K (a.put o.dst (.slice (some ⟨g, 0, none⟩) (k + 1) cap)) w') :
    o.wp Tryz.prog a W K Q := by
  obtain ⟨i0, hi, hz0, hz1, hz2⟩ := info_parts Tryz.infoBool
  obtain ⟨xs, h0, h1, h2⟩ := h
  refine wp_append_lies _ s x 80 ho lo 4 i0 _ 1 1 Tryz.underlying80 hi hz0 hz1 hz2 rfl (by omega) ov k _ hs h0 ⟨H, 0, none⟩ 1 1 [.bool X] hx (by rfl)
    (World.news_of_block hnew) (by simp [Value.oneCell']) (by omega) (by unfold maxLen; omega) (by omega) hlo W.heap.size rfl ?_
  intro g cap w' hown hg _ _
  refine hK g cap w' ⟨_, hown, by simp; omega, fun u hu => ?_⟩ hg
  rcases List.mem_append.1 hu with hu | hu
  · exact h2 u hu
  · exact ⟨X, by simpa using hu⟩
end

/-- What the draw of values leaves. -/
def VDr (w : World) (R K : Nat) (e : Ending) (w' : World) : Prop := ∃ A k cap v, e = .returned (.slice A k cap) ∧ k ≤ 12 ∧ FB w' w.heap.size A k v ∧ Gr R w w' ∧ Rdr w' R K

end Go.Proofs.YtbebdhjhlheboaaGreat
