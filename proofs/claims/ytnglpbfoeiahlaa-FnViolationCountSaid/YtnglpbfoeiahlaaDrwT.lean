/- Two problems, one behind the other (no claim of its own). Conditions: as each theorem states. -/
import Derived.Test.YtnglpbfoeiahlaaDrwS
import Derived.Test.YtnglpbfoeiahlaaSatC
namespace Go.Proofs.Ytnglpbfoeiahlaa
open Go.ChangeShapes Go.WideShapes Go.ChangeAt Go.RowKit

/-- The cells of constraints, and what they say. -/
def PxP (w : World) (k : Nat) (p : Nat → Con) (xs : List Value) : Prop := ∀ i, i < k → ∃ A c, xs[i * 2]? = some (.slice A (p i).n c) ∧ xs[i * 2 + 1]? = some (.int .i64 (p i).bd) ∧ Rd w w.heap.size A (p i).n (p i).c (p i).l
section
variable {w w1 : World} {lo el N k m : Nat} {xs ys : List Value} {p q : Nat → Con} {ov : Value}
theorem PxP.later (h : PxP w k p xs) (hb : Below w.heap.size w w1) : PxP w1 k p xs := fun i hi => by
  obtain ⟨A, c, h1, h2, h3⟩ := h i hi
  exact ⟨A, c, h1, h2, h3.later hb⟩
theorem PX.pxp (h : PX w lo el N ov k xs) : ∃ p : Nat → Con, (∀ i, i < k → (p i).n ≤ N) ∧ PxP w k p xs := by
  have hall : ∀ i, ∃ q : Con, i < k → q.n ≤ N ∧ ∃ A c, xs[i * 2]? = some (.slice A q.n c) ∧ xs[i * 2 + 1]? = some (.int .i64 q.bd) ∧ Rd w w.heap.size A q.n q.c q.l := fun i => by
    by_cases hi : i < k
    · obtain ⟨a, b, h1, h2, A, n, cap, bd, rfl, rfl, hn, ⟨c, l, hfr⟩, _⟩ := h.els i hi
      exact ⟨⟨n, bd, c, l⟩, fun _ => ⟨hn, A, cap, h1, h2, hfr.rdAt⟩⟩
    · exact ⟨⟨0, 0, fun _ => 0, fun _ => 0⟩, fun h => absurd h hi⟩
  exact ⟨fun i => (hall i).choose, fun i hi => ((hall i).choose_spec hi).1, fun i hi => ((hall i).choose_spec hi).2⟩
theorem rdp_own {A : Option Addr} {cap : Nat} (h : w.ownsRow lo 71 2 (.slice A k cap) k xs) (hp : PxP w k p xs) : RdP w w.heap.size A k p := fun hk => by
  rcases h.2 with ⟨e, h0⟩ | ⟨g, cap0, cur, e, hg, hh, _⟩
  · omega
  · cases e
    have hlt : g < w.heap.size := by
      rcases Nat.lt_or_ge g w.heap.size with hlt | hge
      · exact hlt
      · rw [Array.getElem?_eq_none hge] at hh; cases hh
    refine ⟨g, 0, rfl, hlt, fun i hi => ?_⟩
    obtain ⟨A, c, h1, h2, h3⟩ := hp i hi
    rw [Nat.zero_add]
    exact ⟨A, c, (h.cellAt (i * 2) (by omega)).trans h1, (h.cellAt (i * 2 + 1) (by omega)).trans h2, h3⟩
/-- One behind the other. -/
def catP (k : Nat) (p q : Nat → Con) (i : Nat) : Con := if i < k then p i else q (i - k)
theorem PxP.cat (hp : PxP w k p xs) (hq : PxP w m q ys) (hl : xs.length = k * 2) : PxP w (k + m) (catP k p q) (xs ++ ys) := fun i hi => by
  unfold catP
  by_cases h : i < k
  · obtain ⟨A, c, h1, h2, h3⟩ := hp i h
    rw [if_pos h]
    exact ⟨A, c, by rw [List.getElem?_append_left (by omega)]; exact h1, by rw [List.getElem?_append_left (by omega)]; exact h2, h3⟩
  · obtain ⟨A, c, h1, h2, h3⟩ := hq (i - k) (by omega)
    rw [if_neg h]
    refine ⟨A, c, ?_, ?_, h3⟩
    · rw [List.getElem?_append_right (by omega), hl, show i * 2 - k * 2 = (i - k) * 2 by omega]; exact h1
    · rw [List.getElem?_append_right (by omega), hl, show i * 2 + 1 - k * 2 = (i - k) * 2 + 1 by omega]; exact h2
theorem allV_cat (k m : Nat) (p q : Nat → Con) : allV (catP k p q) (k + m) = (allV p k && allV q m) := by
  have h1 : ∀ j, j ≤ k → allV (catP k p q) j = allV p j := by
    intro j
    induction j with
    | zero => intro _; rfl
    | succ j ih =>
      intro hj
      unfold allV
      rw [ih (by omega), show catP k p q j = p j from if_pos (by omega)]
  induction m with
  | zero => rw [Nat.add_zero, h1 k (Nat.le_refl _)]; simp [allV]
  | succ m ih =>
    show (allV (catP k p q) (k + m) && _) = (allV p k && (allV q m && _))
    have hc : catP k p q (k.add m) = q m := by
      show catP k p q (k + m) = q m
      unfold catP
      rw [if_neg (by omega)]
      congr 1
      omega
    rw [ih, hc, Bool.and_assoc]
theorem allE_cat (k m : Nat) (p q : Nat → Con) (v : Nat → Bool) : allE (catP k p q) v (k + m) = (allE p v k && allE q v m) := by
  have h1 : ∀ j, j ≤ k → allE (catP k p q) v j = allE p v j := by
    intro j
    induction j with
    | zero => intro _; rfl
    | succ j ih =>
      intro hj
      unfold allE
      rw [ih (by omega), show catP k p q j = p j from if_pos (by omega)]
  induction m with
  | zero => rw [Nat.add_zero, h1 k (Nat.le_refl _)]; simp [allE]
  | succ m ih =>
    show (allE (catP k p q) v (k + m) && _) = (allE p v k && (allE q v m && _))
    have hc : catP k p q (k.add m) = q m := by
      show catP k p q (k + m) = q m
      unfold catP
      rw [if_neg (by omega)]
      congr 1
      omega
    rw [ih, hc, Bool.and_assoc]
/-- Problems are conjunctions. -/
theorem satB_cat {nv : Nat} {v : Nat → Bool} (hk : k + m ≤ 400) : satB (k + m) (catP k p q) nv v = (satB k p nv v && satB m q nv v) := by
  unfold satB probB
  rw [allV_cat, allE_cat, decide_eq_true (show k + m ≤ 400 from hk), decide_eq_true (show k ≤ 400 by omega), decide_eq_true (show m ≤ 400 by omega)]
  cases allV p k <;> cases allV q m <;> cases (nv == 12) <;> cases allE p v k <;> cases allE q v m <;> rfl
theorem row_shape {e : TypeId} {s n : Nat} (h : w.ownsRow lo e s ov n xs) : ∃ A cap, ov = .slice A n cap := by
  rcases h.2 with ⟨e, h0⟩ | ⟨g, cap, cur, e, _⟩
  · exact ⟨none, 0, by rw [e, h0]⟩
  · exact ⟨_, cap, e⟩
/-- An operation whose guard holds, at the list of a plain region's operations. -/
theorem wpList_want {P : Program} {ops : Array Oper} {rest : List Oper} {o : Oper} {a : Act} {w : World} {Q : Exit → Act → World → Prop} (hw : Region.wanted o (yielded ops a.tmps) = true) (h : ∀ K : Act → World → Prop, (∀ a' w', wpList P ops Q rest a' w' → K a' w') → o.wp P a w K Q) : wpList P ops Q (o :: rest) a w := by
  show (if Region.wanted o (yielded ops a.tmps) = true then _ else _)
  rw [if_pos hw]
  exact .inl (h _ fun _ _ h => h)
end
end Go.Proofs.Ytnglpbfoeiahlaa
