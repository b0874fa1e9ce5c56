/- Copies of rows by append, of any element type (no claim of its own). Conditions: as each theorem states. -/
import Derived.Test.YtbebdhjhlheboaaDoorBaseC
import Derived.Laws.OwnMore
import Derived.Maps.AppendAt
import Derived.Lib.SliceRun
namespace Go.Proofs.YtbebdhjhlheboaaDoor
open Go.ChangeShapes Go.WideShapes Go.ChangeAt Go.RowKit

/-- A row of n elements that a call has made: its cells begin as xs says. -/
def RowX (w : World) (B : Nat) (e : TypeId) (A : Option Addr) (n : Nat) (xs : List Value) : Prop :=
  n = 0 ∨ ∃ (g : Nat) (cs : Array Value), A = some ⟨g, 0, none⟩ ∧ B ≤ g ∧ w.heap[g]? = some (.cells cs e (0, 0)) ∧ ∀ (j : Nat) (u : Value), xs[j]? = some u → cs[j]? = some u
/-- What a row that comes in says. -/
def SrcX (w : World) (A : Option Addr) (n : Nat) (xs : List Value) : Prop := 0 < n → ∃ a, A = some a ∧ ∀ (j : Nat) (u : Value), xs[j]? = some u → w.cell? (a.add j) = some u

theorem run_cpX (W : World) {B0 : Nat} (t e : TypeId) (i : TypeInfo) (z : Value) (size bytes : Nat) (ht : Tryd.prog.underlying t = some (.slice e)) (hi : Tryd.prog.info? e = some i) (hz : i.zero = some z)
    (hsize : i.size = size) (hby : i.bytes = bytes) (hzs : z.cells.size = size) (hsz : 0 < size) {v : Value} {n cap : Nat} {a : Addr} {xs : List Value} (hl : xs.length = n * size) (hown : W.ownsRow B0 e size v 0 []) (hlt : ∀ j, v.ownBlock = some j → B0 ≤ j)
    (hc : 0 < n → ∀ j u, xs[j]? = some u → W.cell? (a.add j) = some u) (h1 : ∀ u ∈ xs, u.oneCell' = true) (hm : n ≤ maxLen) (hbytes : n * bytes ≤ 140737488355328) (hB : B0 ≤ W.heap.size) :
    ∃ A' cap' w', (Builtin.append_ #[t, t] t #[v, .slice (some a) n cap]).run Tryd.prog W = .ok (.slice A' n cap') w' ∧ RowX w' B0 e A' n xs ∧ Below B0 W w' := by
  have hc' : ∀ j u, xs[j]? = some u → W.cell? (a.add j) = some u := fun j u hj => by
    rcases Nat.eq_zero_or_pos n with e0 | e0
    · rw [e0, Nat.zero_mul] at hl
      rw [List.eq_nil_of_length_eq_zero hl] at hj
      cases hj
    · exact hc e0 j u hj
  obtain ⟨v', w', k1, k2, k3, _, _⟩ := run_append_own_at (P := Tryd.prog) W B0 t t e i z size bytes ht hi hz hsize hby hzs hsz v 0 _ hown a n cap xs hl hc' h1 (by omega) (by rw [Nat.zero_add]; exact hbytes) hB
  have hb := (Below.refl B0 W).grown k3 hB hlt
  rcases k2.2 with ⟨e1, h⟩ | ⟨g, cap', cur, e1, hg, hh, hnc, _, hsz', htk⟩
  · obtain rfl : n = 0 := by omega
    exact ⟨none, 0, w', by rw [k1, e1], .inl rfl, hb⟩
  · simp only [Nat.zero_add] at e1
    refine ⟨some ⟨g, 0, none⟩, cap', w', by rw [k1, e1], .inr ⟨g, cur, rfl, hg, hh, fun j u hj => ?_⟩, hb⟩
    have hjl : j < n * size := by
      rw [← hl]
      rcases Nat.lt_or_ge j xs.length with hlt' | hge
      · exact hlt'
      · rw [List.getElem?_eq_none hge] at hj; cases hj
    have h3 : ([] ++ xs)[j]? = some u := by rw [List.nil_append]; exact hj
    rw [← htk, List.getElem?_take_of_lt (by rw [Nat.zero_add]; exact hjl)] at h3
    simpa using h3
theorem wpX_cp {o : Oper} {c : Act} {K : Act → World → Prop} {Q : Exit → Act → World → Prop} {W : World} (s x : Operand) (t e : TypeId)
    (ho : o.op = .call { callee := .builtin .append, args := #[s, x], argTypes := #[t, t] }) (hty : o.type = t) (i : TypeInfo) (z : Value) (size bytes : Nat) (ht : Tryd.prog.underlying t = some (.slice e)) (hi : Tryd.prog.info? e = some i) (hz : i.zero = some z)
    (hsize : i.size = size) (hby : i.bytes = bytes) (hzs : z.cells.size = size) (hsz : 0 < size) {B0 : Nat} {v : Value} {n cap : Nat} {a : Addr} {xs : List Value} (hs : c.eval s = v) (hx : c.eval x = .slice (some a) n cap) (hl : xs.length = n * size)
    (hown : W.ownsRow B0 e size v 0 []) (hlt : ∀ j, v.ownBlock = some j → B0 ≤ j) (hc : 0 < n → ∀ j u, xs[j]? = some u → W.cell? (a.add j) = some u) (h1 : ∀ u ∈ xs, u.oneCell' = true) (hm : n ≤ maxLen) (hbytes : n * bytes ≤ 140737488355328) (hB : B0 ≤ W.heap.size)
    (h : ∀ A' cap' w', RowX w' B0 e A' n xs → Below B0 W w' → K (c.put o.dst (.slice A' n cap')) w') :
    o.wp Tryd.prog c W K Q := by
  obtain ⟨A', cap', w', hrun, h2, h3⟩ := run_cpX W t e i z size bytes ht hi hz hsize hby hzs hsz hl hown hlt hc h1 hm hbytes hB (cap := cap)
  unfold Oper.wp execOp
  simp only [ho, hty, resolve, invoke, builtin, Sem.run_bind, Sem.run_pure, Result.andThen_ok, List.map_toArray, List.map_cons, List.map_nil, hs, hx, hrun]
  exact h A' cap' w' h2 h3
theorem rowX_new (W : World) (e : TypeId) (size : Nat) : (W.alloc (.cells #[] e)).ownsRow W.heap.size e size (.slice (some ⟨W.heap.size, 0, none⟩) 0 0) 0 [] := by
  simpa using World.ownsRow_lit W #[] 0 (e := e) (size := size) (Nat.le_refl _) (by unfold maxLen; omega) (by simp)

end Go.Proofs.YtbebdhjhlheboaaDoor
