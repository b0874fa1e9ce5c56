/- Slices of constraints that a draw makes (no claim of its own). Conditions: as each theorem states. -/
import Derived.Test.YtnglpbfoeiahlaaDrwJ
import Derived.Test.YtnglpbfoeiahlaaProA
namespace Go.Proofs.Ytnglpbfoeiahlaa
open Go.ChangeShapes Go.WideShapes Go.ChangeAt Go.RowKit

/-- The two cells of a constraint of at most N terms, whose terms lie in a block from el on. -/
def El (w : World) (el N : Nat) (a b : Value) : Prop := ∃ A n cap bd, a = .slice A n cap ∧ b = .int .i64 bd ∧ n ≤ N ∧ FE w el A n ∧ CapOk A n cap
/-- A slice of k constraints that the draw has made in a block from lo on; the cells are xs. -/
structure PX (w : World) (lo el N : Nat) (ov : Value) (k : Nat) (xs : List Value) : Prop where
  own : w.ownsRow lo 71 2 ov k xs
  len : xs.length = k * 2
  els : ∀ i, i < k → ∃ a b, xs[i * 2]? = some a ∧ xs[i * 2 + 1]? = some b ∧ El w el N a b
section
variable {w w1 W : World} {R lo el N N' k G : Nat} {ov a b : Value} {xs : List Value} {A : Option Addr}
theorem El.bel (h : El w el N a b) (hb : Below w.heap.size w w1) : El w1 el N a b := by
  obtain ⟨A, n, cap, bd, e1, e2, h1, h2, h3⟩ := h
  exact ⟨A, n, cap, bd, e1, e2, h1, h2.bel hb, h3⟩
theorem El.gr (h : El w el N a b) (hg : Gr R w w1) (hR : R < el) : El w1 el N a b := by
  obtain ⟨A, n, cap, bd, e1, e2, h1, h2, h3⟩ := h
  exact ⟨A, n, cap, bd, e1, e2, h1, h2.gr hg hR, h3⟩
theorem El.up (h : El w el N a b) (hN : N ≤ N') : El w el N' a b := by
  obtain ⟨A, n, cap, bd, e1, e2, h1, h2, h3⟩ := h
  exact ⟨A, n, cap, bd, e1, e2, by omega, h2, h3⟩
/-- A block of constraints is none of terms. -/
theorem FE.other (h : FE w el A k) {g : Nat} {cur : Array Value} (hg : w.heap[g]? = some (.cells cur 71 (0, 0))) (hb : ∀ j, j < w.heap.size → j ≠ g → w1.heap[j]? = w.heap[j]?) : FE w1 el A k := by
  obtain ⟨c, l, h⟩ := h
  rcases h with h | ⟨G, e, hG, h⟩
  · exact ⟨c, l, .inl h⟩
  · refine ⟨c, l, .inr ⟨G, e, hG, h.at_ (hb G h.lt ?_)⟩⟩
    intro e'
    obtain ⟨cs, hh, _, _⟩ := h
    rw [e', hg] at hh
    injection hh with hh
    injection hh with _ h2 _
    exact absurd h2 (by decide)
theorem El.other (h : El w el N a b) {g : Nat} {cur : Array Value} (hg : w.heap[g]? = some (.cells cur 71 (0, 0))) (hb : ∀ j, j < w.heap.size → j ≠ g → w1.heap[j]? = w.heap[j]?) : El w1 el N a b := by
  obtain ⟨A, n, cap, bd, e1, e2, h1, h2, h3⟩ := h
  exact ⟨A, n, cap, bd, e1, e2, h1, h2.other hg hb, h3⟩
theorem PX.bel (h : PX w lo el N ov k xs) (hb : Below w.heap.size w w1) : PX w1 lo el N ov k xs :=
  ⟨row_below' h.own hb, h.len, fun i hi => by obtain ⟨a, b, h1, h2, h3⟩ := h.els i hi; exact ⟨a, b, h1, h2, h3.bel hb⟩⟩
theorem PX.gr (h : PX w lo el N ov k xs) (hg : Gr R w w1) (hR : R < lo) (hR' : R < el) : PX w1 lo el N ov k xs := by
  refine ⟨h.own.kept hg ?_, h.len, fun i hi => by obtain ⟨a, b, h1, h2, h3⟩ := h.els i hi; exact ⟨a, b, h1, h2, h3.gr hg hR'⟩⟩
  cases e : ov.ownBlock with
  | none => exact .inl rfl
  | some j =>
    right
    intro e'
    cases e'
    have := (h.own.lt _ e).1
    omega
theorem PX.lt (h : PX w lo el N ov k xs) : ∀ j, ov.ownBlock = some j → lo ≤ j ∧ j < w.heap.size := fun j e => h.own.lt j e
theorem PX.one (h : PX w lo el N ov k xs) : ∀ u ∈ xs, u.oneCell' = true := fun u hu => by
  obtain ⟨j, hj, e⟩ := List.mem_iff_getElem.1 hu
  have hj2 : j < k * 2 := by have := h.len; omega
  have hx : xs[j]? = some u := by rw [List.getElem?_eq_getElem hj, e]
  obtain ⟨i, hi | hi⟩ : ∃ i, j = i * 2 ∨ j = i * 2 + 1 := ⟨j / 2, by omega⟩
  · obtain ⟨a, b, h1, h2, A, n, cap, bd, e1, e2, _⟩ := h.els i (by omega)
    rw [hi, h1] at hx
    cases hx
    rw [e1]
    rfl
  · obtain ⟨a, b, h1, h2, A, n, cap, bd, e1, e2, _⟩ := h.els i (by omega)
    rw [hi, h2] at hx
    cases hx
    rw [e2]
    rfl
theorem PX.nil_or (h : PX w lo el N ov k xs) : (ov = .slice none 0 0 ∧ k = 0) ∨ ∃ g cap cur, ov = .slice (some ⟨g, 0, none⟩) k cap ∧ w.heap[g]? = some (.cells cur 71 (0, 0)) := by
  rcases h.own.2 with h1 | ⟨g, cap, cur, e, _, hh, _⟩
  · exact .inl h1
  · exact .inr ⟨g, cap, cur, e, hh⟩

theorem px_lit (W : World) (el N : Nat) : PX (W.alloc (.cells #[] 71)) W.heap.size el N (.slice (some ⟨W.heap.size, 0, none⟩) 0 0) 0 [] :=
  ⟨by simpa using World.ownsRow_lit W #[] 0 (Nat.le_refl _) (by unfold maxLen; omega) (by simp), by simp, fun i hi => by omega⟩

/-- The cells of a slice of constraints that came in. -/
def SrcC (W : World) (A : Option Addr) (m : Nat) (ys : List Value) : Prop := ys.length = m * 2 ∧ (∀ u ∈ ys, u.oneCell' = true) ∧ ∀ a, A = some a → ∀ j u, ys[j]? = some u → W.cell? (a.add j) = some u
theorem PX.src {cap : Nat} (h : PX w lo el N (.slice A k cap) k xs) : SrcC w A k xs := by
  refine ⟨h.len, h.one, fun a e j u hu => ?_⟩
  rcases h.own.2 with ⟨h1, _⟩ | ⟨g, cap', cur, e1, _, hh, _⟩
  · cases h1; cases e
  · cases e1
    cases e
    exact h.own.cells rfl j u hu

theorem run_appC (W : World) {B0 : Nat} {v : Value} {n m cap : Nat} {ys : List Value} (hown : W.ownsRow B0 71 2 v n xs) (hs : SrcC W A m ys) (hm0 : A = none → m = 0) (hcap : A = none → cap = 0) (hB : B0 ≤ W.heap.size) (hn : n + m ≤ 1000000) :
    ∃ v' w', (Builtin.append_ #[27, 27] 27 #[v, .slice A m cap]).run Try.prog W = .ok v' w' ∧ w'.ownsRow B0 71 2 v' (n + m) (xs ++ ys) ∧ W.grownBy w' v.ownBlock := by
  obtain ⟨i0, hi, hz0, hz1, hz2⟩ := info_parts Try.infoCon
  obtain ⟨h1, h2, h3⟩ := hs
  cases A with
  | none =>
    obtain rfl := hcap rfl
    obtain rfl := hm0 rfl
    obtain rfl : ys = [] := List.length_eq_zero_iff.1 (by omega)
    exact ⟨v, W, run_append_owned_none (P := Try.prog) (w := W) B0 27 27 71 i0 2 Try.underlying27 hi v n _ hown, by simpa using hown, ⟨rfl, rfl, rfl, Nat.le_refl _, fun _ _ _ => rfl⟩⟩
  | some a =>
    obtain ⟨v', w', k1, k2, k3, _, _⟩ := run_append_own_at (P := Try.prog) W B0 27 27 71 i0 _ 2 32 Try.underlying27 hi hz0 hz1 hz2 rfl (by omega) v n _ hown a m cap ys h1 (h3 a rfl) h2 (by unfold maxLen; omega) (by omega) hB
    exact ⟨v', w', k1, k2, k3⟩

set_option maxRecDepth 100000 in
set_option maxHeartbeats 800000 in
/-- The append of one constraint to a slice that the draw has made. -/
theorem wp_px1 {o : Oper} {a : Act} {K : Act → World → Prop} {Q : Exit → Act → World → Prop} (s x : Operand)
    (ho : o.op = .call { callee := .builtin .append, args := #[s, x], argTypes := #[27, 27] })
    (h : PX W lo el N ov k xs) (hlo : lo ≤ W.heap.size) (hs : a.eval s = ov) {H : Nat} (hx : a.eval x = .slice (some ⟨H, 0, none⟩) 1 1) {A : Option Addr} {n cap : Nat} {bd : Int} {T' : TypeId} (hnew : W.heap[H]? = some (.cells #[.slice A n cap, .int .i64 bd] T' (0, 0))) (hel : El W el N (.slice A n cap) (.int .i64 bd)) (hk : k ≤ 10000)
    (hK : ∀ g cap' w' zs, PX w' lo el N (.slice (some ⟨g, 0, none⟩) (k + 1) cap') (k + 1) zs → W.grownBy w' ov.ownBlock → K (a.put o.dst (.slice (some ⟨g, 0, none⟩) (k + 1) cap')) w') :
    o.wp Try.prog a W K Q := by
  obtain ⟨i0, hi, hz0, hz1, hz2⟩ := info_parts Try.infoCon
  refine wp_append_lies _ s x 27 ho lo 71 i0 _ 2 32 Try.underlying27 hi hz0 hz1 hz2 rfl (by omega) ov k _ hs h.own ⟨H, 0, none⟩ 1 1 [.slice A n cap, .int .i64 bd] hx (by rfl)
    (World.news_of_block hnew) (by simp [Value.oneCell']) (by omega) (by unfold maxLen; omega) (by omega) hlo W.heap.size rfl ?_
  intro g cap' w' hown hg _ _
  have hkeep : ∀ {a b : Value}, El W el N a b → El w' el N a b := fun {a b} he => by
    rcases h.nil_or with ⟨e, _⟩ | ⟨g0, cap0, cur, e, hh⟩
    · obtain ⟨A, n, cap, bd, e1, e2, h1, h2, h3⟩ := he
      refine ⟨A, n, cap, bd, e1, e2, h1, ?_, h3⟩
      obtain ⟨c, l, hf⟩ := h2
      rcases hf with hf | ⟨G, eG, hG, hf⟩
      · exact ⟨c, l, .inl hf⟩
      · exact ⟨c, l, .inr ⟨G, eG, hG, hf.at_ (hg.block G hf.lt (by rw [e]; intro h; cases h))⟩⟩
    · exact he.other hh (fun j hj hne => hg.block j hj (by rw [e]; intro h; cases h; exact hne rfl))
  refine hK g cap' w' _ ⟨hown, by rw [List.length_append, h.len]; simp; omega, fun i hi => ?_⟩ hg
  by_cases e : i = k
  · subst e
    refine ⟨.slice A n cap, .int .i64 bd, ?_, ?_, hkeep hel⟩
    · rw [List.getElem?_append_right (by rw [h.len]; omega), h.len]; simp
    · rw [List.getElem?_append_right (by rw [h.len]; omega), h.len]; simp
  · obtain ⟨a, b, h1, h2, h3⟩ := h.els i (by omega)
    refine ⟨a, b, ?_, ?_, hkeep h3⟩
    · rw [List.getElem?_append_left (by rw [h.len]; omega)]; exact h1
    · rw [List.getElem?_append_left (by rw [h.len]; omega)]; exact h2
end
end Go.Proofs.Ytnglpbfoeiahlaa
