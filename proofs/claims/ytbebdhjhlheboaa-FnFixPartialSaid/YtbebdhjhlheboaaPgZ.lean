/- A copy of twelve ints, one changed (no claim of its own). Conditions: as each theorem states. · Propagation as a relation between partial assignments, and its arithmetic (no claim of its own). Conditions: as each theorem states. · The model's propagation (no claim of its own). Conditions: as each theorem states. · The model's propagation: its loops (no claim of its own). Conditions: as each theorem states. · The model's Propagate (no claim of its own). Conditions: as each theorem states. · The memory of a propagator (no claim of its own). Conditions: as each theorem states. · The program's (*propagator).add (no claim of its own). Conditions: as each theorem states. · The program's newPropagator (no claim of its own). Conditions: as each theorem states. · The memory of a propagation (no claim of its own). Conditions: as each theorem states. · The program's (*propagation).makeTrue (no claim of its own). Conditions: as each theorem states. · Making a literal true keeps the slacks (no claim of its own). Conditions: as each theorem states. · The rounds of a propagation (no claim of its own). Conditions: as each theorem states. · try · How a propagation is built (no claim of its own). Conditions: as each theorem states. · The program's propagate (no claim of its own). Conditions: as each theorem states. · The program's propagate (no claim of its own). Conditions: as each theorem states. · The program's Propagate (no claim of its own). Conditions: as each theorem states. · What propagation comes to: closure, soundness (no claim of its own). Conditions: as each theorem states. -/
import Derived.Test.YtbebdhjhlheboaaSlkB
import Derived.Test.YtbebdhjhlheboaaIntR
import Derived.Laws.OwnMore
import Derived.Maps.AppendAt
import Derived.Test.YtbebdhjhlheboaaImpA
import Derived.Test.YtbebdhjhlheboaaProA
import Derived.Test.YtbebdhjhlheboaaProB
import Derived.Test.YtbebdhjhlheboaaSumD
import Derived.Laws.Tables
import Derived.Deep.AppendLies
import Derived.Deep.RegionHeld3
import Derived.Deep.RegionLaw
import Derived.Deep.Cut
import Derived.Deep.DeepCutAuto
import Derived.Deep.CutBlock
import Derived.Deep.RegionHeldLaw
import Derived.StillTailTactics
import Derived.Test.YtbebdhjhlheboaaEvaA
import Derived.Test.YtbebdhjhlheboaaChnA
import Derived.Conc.Token
import Derived.Test.YtbebdhjhlheboaaImpB
import Derived.Conc.SmallLaws
import Derived.Deep.MidRow
import Derived.Test.YtbebdhjhlheboaaExtC
namespace Go.Proofs.Ytbebdhjhlheboaa
open Go.ChangeShapes Go.WideShapes Go.ChangeAt Go.RowKit Go.Shelf

/-- Twelve ints that came in, appended to a row of the call's own that is empty. -/
theorem run_cp12 (W : World) {B0 : Nat} {v : Value} {cap b off : Nat} {vv : Nat → Int} (hown : W.ownsRow B0 3 1 v 0 []) (hlt : ∀ j, v.ownBlock = some j → B0 ≤ j) (hc : ∀ i, i < 12 → W.cell? ⟨b, off + i, none⟩ = some (.int .i64 (vv i))) (hB : B0 ≤ W.heap.size) :
    ∃ g cap' w', (Builtin.append_ #[23, 23] 23 #[v, .slice (some ⟨b, off, none⟩) 12 cap]).run Try.prog W = .ok (.slice (some ⟨g, 0, none⟩) 12 cap') w' ∧ B0 ≤ g ∧ OwnV w' g 3 12 12 vv ∧ Below B0 W w' := by
  obtain ⟨i0, hi, hz0, hz1, hz2⟩ := info_parts Try.infoInt
  obtain ⟨v', w', k1, k2, k3, _, _⟩ := run_append_own_at (P := Try.prog) W B0 23 23 3 i0 _ 1 8 Try.underlying23 hi hz0 hz1 hz2 rfl (by omega) v 0 _ hown ⟨b, off, none⟩ 12 cap (cl12 vv) rfl (fun j u hu => by
      obtain ⟨hj, rfl⟩ := cl12_at vv j u hu
      rw [Go.WideShapes.add_plain]
      exact hc j hj) (fun u hu => by
      obtain ⟨j, hj, e⟩ := List.mem_iff_getElem.1 hu
      have := cl12_at vv j u (by rw [List.getElem?_eq_getElem hj, e])
      rw [this.2]
      rfl) (by unfold maxLen; omega) (by omega) hB
  rcases k2.2 with ⟨_, h⟩ | ⟨g, cap', cur, e1, hg, hh, hnc, _, hsz, htk⟩
  · omega
  · simp only [Nat.zero_add] at e1
    refine ⟨g, cap', w', by rw [k1, e1], hg, ⟨cur, hh, by omega, fun i hi => ?_⟩, (Below.refl B0 W).grown k3 hB hlt⟩
    have h2 := cells12_at vv hi
    have h3 : ([] ++ cl12 vv)[i]? = some (.int .i64 (vv i)) := by
      rw [List.nil_append, ← h2, show cells12 vv = (cl12 vv).toArray from rfl, List.getElem?_toArray]
    rw [← htk, List.getElem?_take_of_lt (by omega)] at h3
    simpa using h3
theorem wp_cp12 {o : Oper} {a : Act} {K : Act → World → Prop} {Q : Exit → Act → World → Prop} {W : World} (s x : Operand)
    (ho : o.op = .call { callee := .builtin .append, args := #[s, x], argTypes := #[23, 23] }) (hty : o.type = 23)
    {B0 : Nat} {v : Value} {cap b off : Nat} {vv : Nat → Int} (hs : a.eval s = v) (hx : a.eval x = .slice (some ⟨b, off, none⟩) 12 cap)
    (hown : W.ownsRow B0 3 1 v 0 []) (hlt : ∀ j, v.ownBlock = some j → B0 ≤ j) (hc : ∀ i, i < 12 → W.cell? ⟨b, off + i, none⟩ = some (.int .i64 (vv i))) (hB : B0 ≤ W.heap.size)
    (h : ∀ g cap' w', B0 ≤ g → OwnV w' g 3 12 12 vv → Below B0 W w' → K (a.put o.dst (.slice (some ⟨g, 0, none⟩) 12 cap')) w') :
    o.wp Try.prog a W K Q := by
  obtain ⟨g, cap', w', hrun, h1, h2, h3⟩ := run_cp12 W hown hlt hc hB (cap := cap)
  unfold Oper.wp execOp
  simp only [ho, hty, resolve, invoke, builtin, Sem.run_bind, Sem.run_pure, Result.andThen_ok, List.map_toArray, List.map_cons, List.map_nil, hs, hx, hrun]
  exact h g cap' w' h1 h2 h3
theorem OwnV.setI {w : World} {G n : Nat} {T : TypeId} {v : Nat → Int} (h : OwnV w G T n n v) {j : Nat} (hj : j < n) (z : Int) : OwnV (w.setCell ⟨G, j, none⟩ (.int .i64 z)) G T n n (fun i => if i = j then z else v i) := by
  obtain ⟨cs, hh, h1, h2⟩ := h
  refine ⟨cs.setIfInBounds j (.int .i64 z), by simp [World.setCell, Array.getElem?_modify, hh], by simp [h1], fun i hi => ?_⟩
  rw [Array.getElem?_setIfInBounds]
  by_cases e : i = j
  · subst e
    rw [if_pos rfl, if_pos (by omega)]
    show some (Value.int .i64 z) = some (.int .i64 (if i = i then z else v i))
    rw [if_pos rfl]
  · rw [if_neg (fun e' => e e'.symm)]
    show cs[i]? = some (.int .i64 (if i = j then z else v i))
    rw [if_neg e]
    exact h2 i hi
theorem OwnV.eqI {w : World} {G n : Nat} {T : TypeId} {v v' : Nat → Int} (h : OwnV w G T n n v) (he : ∀ i, i < n → v i = v' i) : OwnV w G T n n v' := by
  obtain ⟨cs, hh, h1, h2⟩ := h
  exact ⟨cs, hh, h1, fun i hi => by rw [← he i hi]; exact h2 i hi⟩
theorem rowI_new (W : World) : (W.alloc (.cells #[] 3)).ownsRow W.heap.size 3 1 (.slice (some ⟨W.heap.size, 0, none⟩) 0 0) 0 [] := by
  simpa using World.ownsRow_lit W #[] 0 (e := 3) (size := 1) (Nat.le_refl _) (by unfold maxLen; omega) (by simp)
end Go.Proofs.Ytbebdhjhlheboaa

namespace Go.Proofs.Ytbebdhjhlheboaa
open Go.ChangeShapes Go.WideShapes Go.ChangeAt Go.RowKit

/-- The values once a literal has been made true. -/
def asg (v : Nat → Int) (z : Int) (i : Nat) : Int := if 0 < z then (if i = (z - 1).toNat then 1 else v i) else (if i = (-z - 1).toNat then -1 else v i)
def asgL (v : Nat → Int) : List Int → (Nat → Int)
  | [] => v
  | z :: zs => asgL (asg v z) zs
theorem asgL_snoc (v : Nat → Int) (xs : List Int) (z : Int) : asgL v (xs ++ [z]) = asg (asgL v xs) z := by
  induction xs generalizing v with
  | nil => rfl
  | cons x xs ih => exact ih (asg v x)
def slkC (q : Con) (v : Nat → Int) : Int := slk q.n q.c q.l q.bd v
def impC (q : Con) (v : Nat → Int) : List Int := imL q.c q.l v (slkC q v) q.n
def okC (q : Con) : Prop := validB q.n q.c q.l q.bd = true
def rng (v : Nat → Int) : Prop := ∀ i, i < 12 → -1 ≤ v i ∧ v i ≤ 1
theorem asg_rng {v : Nat → Int} (h : rng v) (z : Int) : rng (asg v z) := fun i hi => by
  have := h i hi
  unfold asg
  split <;> split <;> omega
theorem asgL_rng {v : Nat → Int} (h : rng v) (zs : List Int) : rng (asgL v zs) := by
  induction zs generalizing v with
  | nil => exact h
  | cons z zs ih => exact ih (asg_rng h z)

theorem stV_self {v : Nat → Int} {z : Int} (hz : litB z = true) : stV (asg v z) z = 1 := by
  obtain ⟨h0, _, _⟩ := litB_iff.1 hz
  unfold stV asg
  by_cases h : 0 < z
  · rw [if_pos h, if_pos h, if_pos rfl]
  · rw [if_neg h, if_neg h, if_pos rfl]
    rfl
theorem stV_neg {v : Nat → Int} {z : Int} (hz : litB z = true) : stV v (-z) = -stV v z := by
  obtain ⟨h0, _, _⟩ := litB_iff.1 hz
  unfold stV
  by_cases h : 0 < z
  · rw [if_pos h, if_neg (by omega), Int.neg_neg]
  · rw [if_neg h, if_pos (by omega), Int.neg_neg]
theorem litB_ng {z : Int} (hz : litB z = true) : litB (-z) = true := by
  obtain ⟨h0, h1, h2⟩ := litB_iff.1 hz
  exact litB_iff.2 ⟨by omega, by omega, by omega⟩
theorem stV_off {v : Nat → Int} {z y : Int} (hz : litB z = true) (hy : litB y = true) (h1 : y ≠ z) (h2 : y ≠ -z) : stV (asg v z) y = stV v y := by
  obtain ⟨z0, z1, z2⟩ := litB_iff.1 hz
  obtain ⟨y0, y1, y2⟩ := litB_iff.1 hy
  unfold stV asg
  by_cases hp : 0 < z
  · by_cases hq : 0 < y
    · rw [if_pos hq, if_pos hq, if_pos hp, if_neg (by omega)]
    · rw [if_neg hq, if_neg hq, if_pos hp, if_neg (by omega)]
  · by_cases hq : 0 < y
    · rw [if_pos hq, if_pos hq, if_neg hp, if_neg (by omega)]
    · rw [if_neg hq, if_neg hq, if_neg hp, if_neg (by omega)]

/-- The coefficients of a literal among the first k terms. -/
def cof (c l : Nat → Int) (z : Int) : Nat → Int
  | 0 => 0
  | k + 1 => cof c l z k + (if l k = z then c k else 0)
theorem cof_none {c l : Nat → Int} {z : Int} {n : Nat} (h : ∀ k, k < n → l k ≠ z) : cof c l z n = 0 := by
  induction n with
  | zero => rfl
  | succ n ih =>
    unfold cof
    rw [ih fun k hk => h k (by omega), if_neg (h n (by omega))]
    rfl
theorem cof_bd {c l : Nat → Int} {z : Int} {n : Nat} (h : ∀ k, k < n → 1 ≤ c k ∧ c k ≤ 1000) : 0 ≤ cof c l z n ∧ cof c l z n ≤ 1000 * (n : Int) := by
  induction n with
  | zero => exact ⟨Int.le_refl _, Int.le_refl _⟩
  | succ n ih =>
    have h1 := ih fun k hk => h k (by omega)
    have h2 := h n (by omega)
    unfold cof
    split <;> omega
theorem sB_asg {c l v : Nat → Int} {z : Int} (hz : litB z = true) (hv : stV v z = 0) : ∀ n, (∀ k, k < n → litB (l k) = true) → sB c l (nfP (asg v z)) n = sB c l (nfP v) n - cof c l (-z) n := by
  intro n
  obtain ⟨z0, _, _⟩ := litB_iff.1 hz
  induction n with
  | zero => intro _; rfl
  | succ n ih =>
    intro hl
    have h1 := ih fun k hk => hl k (by omega)
    have hn := hl n (by omega)
    have hc : cof c l (-z) (n + 1) = cof c l (-z) n + (if l n = -z then c n else 0) := rfl
    rw [hc]
    by_cases e1 : l n = -z
    · have p1 : nfP v (l n) = true := by unfold nfP; rw [e1, stV_neg hz, hv]; rfl
      have p2 : nfP (asg v z) (l n) = false := by unfold nfP; rw [e1, stV_neg hz, stV_self hz]; rfl
      rw [sB_yes p1, sB_no p2, if_pos e1]
      omega
    · rw [if_neg e1]
      by_cases e2 : l n = z
      · have p1 : nfP v (l n) = true := by unfold nfP; rw [e2, hv]; rfl
        have p2 : nfP (asg v z) (l n) = true := by unfold nfP; rw [e2, stV_self hz]; rfl
        rw [sB_yes p1, sB_yes p2]
        omega
      · have p : nfP (asg v z) (l n) = nfP v (l n) := by unfold nfP; rw [stV_off hz hn e2 e1]
        cases hp : nfP v (l n) with
        | true => rw [sB_yes (p.trans hp), sB_yes hp]; omega
        | false => rw [sB_no (p.trans hp), sB_no hp]; omega
theorem slk_asg {q : Con} (hq : okC q) {v : Nat → Int} {z : Int} (hz : litB z = true) (hv : stV v z = 0) : slkC q (asg v z) = slkC q v - cof q.c q.l (-z) q.n := by
  unfold slkC slk
  rw [sB_asg (c := q.c) (l := q.l) hz hv q.n fun k hk => litAt (l := q.l) hq hk]
  omega

theorem imL_mem {c l v : Nat → Int} {s : Int} {n : Nat} {y : Int} : y ∈ imL c l v s n ↔ ∃ j, j < n ∧ l j = y ∧ stV v y = 0 ∧ s < c j := by
  induction n with
  | zero => exact ⟨fun h => by simp [imL] at h, fun ⟨j, hj, _⟩ => by omega⟩
  | succ n ih =>
    by_cases h : stV v (l n) = 0 ∧ s < c n
    · rw [imL_yes h.1 h.2, List.mem_append, ih, List.mem_singleton]
      constructor
      · rintro (⟨j, hj, hr⟩ | rfl)
        · exact ⟨j, by omega, hr⟩
        · exact ⟨n, by omega, rfl, h.1, h.2⟩
      · rintro ⟨j, hj, h1, h2, h3⟩
        by_cases e : j = n
        · subst e; exact .inr h1.symm
        · exact .inl ⟨j, by omega, h1, h2, h3⟩
    · rw [imL_no h, ih]
      constructor
      · rintro ⟨j, hj, hr⟩
        exact ⟨j, by omega, hr⟩
      · rintro ⟨j, hj, h1, h2, h3⟩
        by_cases e : j = n
        · subst e; subst h1; exact absurd ⟨h2, h3⟩ h
        · exact ⟨j, by omega, h1, h2, h3⟩
/-- Variables apart. -/
def apartL (a b : Int) : Prop := a ≠ b ∧ a ≠ -b
theorem vt_apart {n : Nat} {c l : Nat → Int} {bd : Int} (h : validB n c l bd = true) {i j : Nat} (hi : i < n) (hj : j < n) (hij : i ≠ j) : apartL (l i) (l j) := by
  have hvt : vtB c l n = true := by
    unfold validB at h
    rw [Bool.and_eq_true] at h
    exact h.1
  have key : ∀ a b, a < b → b < n → ab (l a) < ab (l b) := by
    intro a b hab
    induction b with
    | zero => omega
    | succ b ih =>
      intro hb
      have h1 : ab (l b) < ab (l (b + 1)) := (okAt_iff.1 (vtB_at hvt hb)).2.2.2
      by_cases e : a = b
      · subst e; exact h1
      · exact Int.lt_trans (ih (by omega) (by omega)) h1
  have hne : ab (l i) ≠ ab (l j) := by
    rcases Nat.lt_or_gt_of_ne hij with h | h
    · have := key i j h hj; omega
    · have := key j i h hi; omega
  constructor
  · intro e; exact hne (by rw [e])
  · intro e
    apply hne
    rw [e]
    unfold ab
    split <;> split <;> omega
theorem imL_apart {n : Nat} {c l v : Nat → Int} {bd s : Int} (h : validB n c l bd = true) : ∀ k, k ≤ n → (imL c l v s k).Pairwise (fun a b => apartL b a) := by
  intro k
  induction k with
  | zero => intro _; exact List.Pairwise.nil
  | succ k ih =>
    intro hk
    by_cases hc : stV v (l k) = 0 ∧ s < c k
    · rw [imL_yes hc.1 hc.2, List.pairwise_append]
      refine ⟨ih (by omega), List.pairwise_singleton _ _, fun a ha b hb => ?_⟩
      rw [List.mem_singleton] at hb
      subst hb
      obtain ⟨j, hj, rfl, _⟩ := imL_mem.1 ha
      exact vt_apart h (by omega) (by omega) (by omega)
    · rw [imL_no hc]
      exact ih (by omega)
/-- A list of literals that may be made true one after another: without values, of different variables. -/
def frL (v : Nat → Int) (L : List Int) : Prop := (∀ y ∈ L, litB y = true ∧ stV v y = 0) ∧ L.Pairwise (fun a b => apartL b a)
theorem frL_head {v : Nat → Int} {z : Int} {zs : List Int} (h : frL v (z :: zs)) : litB z = true ∧ stV v z = 0 ∧ frL (asg v z) zs := by
  obtain ⟨h1, h2⟩ := h
  obtain ⟨a, b⟩ := h1 z (List.mem_cons_self)
  rw [List.pairwise_cons] at h2
  refine ⟨a, b, fun y hy => ?_, h2.2⟩
  obtain ⟨c, d⟩ := h1 y (List.mem_cons_of_mem _ hy)
  have := h2.1 y hy
  exact ⟨c, by rw [stV_off a c this.1 this.2]; exact d⟩
theorem imp_fr {q : Con} (hq : okC q) (v : Nat → Int) : frL v (impC q v) :=
  ⟨fun y hy => by
    obtain ⟨j, hj, rfl, h2, _⟩ := imL_mem.1 hy
    exact ⟨litAt hq hj, h2⟩, imL_apart hq _ (Nat.le_refl _)⟩
/-- How many variables have no value. -/
def una (v : Nat → Int) : Nat → Nat
  | 0 => 0
  | k + 1 => una v k + (if v k = 0 then 1 else 0)
theorem una_asg {v : Nat → Int} {z : Int} (hz : litB z = true) (hv : stV v z = 0) : ∀ k, k ≤ 12 → una (asg v z) k + (if (if 0 < z then z else -z) ≤ (k : Int) then 1 else 0) = una v k := by
  obtain ⟨h0, h1, h2⟩ := litB_iff.1 hz
  intro k
  induction k with
  | zero =>
    intro _
    rw [if_neg (by split <;> omega)]
    rfl
  | succ k ih =>
    intro hk
    have hi := ih (by omega)
    show una (asg v z) k + (if asg v z k = 0 then 1 else 0) + _ = una v k + (if v k = 0 then 1 else 0)
    unfold stV at hv
    by_cases hp : 0 < z
    · rw [if_pos hp] at hv hi ⊢
      by_cases e : k = (z - 1).toNat
      · have ea : asg v z k = 1 := by unfold asg; rw [if_pos hp, if_pos e]
        have ev : v k = 0 := by rw [e]; exact hv
        rw [ea, ev]
        rw [if_neg (by omega)] at hi
        rw [if_neg (by omega), if_pos (by omega), if_pos rfl]
        omega
      · have ea : asg v z k = v k := by unfold asg; rw [if_pos hp, if_neg e]
        rw [ea]
        by_cases hle : z ≤ (k : Int)
        · rw [if_pos hle] at hi
          rw [if_pos (show z ≤ ((k + 1 : Nat) : Int) by omega)]
          omega
        · rw [if_neg hle] at hi
          rw [if_neg (show ¬ z ≤ ((k + 1 : Nat) : Int) by omega)]
          omega
    · rw [if_neg hp] at hv hi ⊢
      by_cases e : k = (-z - 1).toNat
      · have ea : asg v z k = -1 := by unfold asg; rw [if_neg hp, if_pos e]
        have ev : v k = 0 := by rw [e]; omega
        rw [ea, ev]
        rw [if_neg (by omega)] at hi
        rw [if_neg (by omega), if_pos (by omega), if_pos rfl]
        omega
      · have ea : asg v z k = v k := by unfold asg; rw [if_neg hp, if_neg e]
        rw [ea]
        by_cases hle : -z ≤ (k : Int)
        · rw [if_pos hle] at hi
          rw [if_pos (show -z ≤ ((k + 1 : Nat) : Int) by omega)]
          omega
        · rw [if_neg hle] at hi
          rw [if_neg (show ¬ -z ≤ ((k + 1 : Nat) : Int) by omega)]
          omega
theorem una_one {v : Nat → Int} {z : Int} (hz : litB z = true) (hv : stV v z = 0) : una (asg v z) 12 + 1 = una v 12 := by
  obtain ⟨h0, h1, h2⟩ := litB_iff.1 hz
  have := una_asg hz hv 12 (Nat.le_refl _)
  rwa [if_pos (by split <;> omega)] at this
theorem una_list {v : Nat → Int} {L : List Int} (h : frL v L) : una (asgL v L) 12 + L.length = una v 12 := by
  induction L generalizing v with
  | nil => rfl
  | cons z zs ih =>
    obtain ⟨h1, h2, h3⟩ := frL_head h
    have := ih h3
    have := una_one h1 h2
    show una (asgL (asg v z) zs) 12 + (zs.length + 1) = _
    omega
theorem una_le (v : Nat → Int) (k : Nat) : una v k ≤ k := by
  induction k with
  | zero => exact Nat.le_refl _
  | succ k ih => unfold una; split <;> omega

/-- Making the literals that a constraint implies true leaves its slack as it is, and nothing more to imply. -/
theorem slk_list {q : Con} (hq : okC q) {v : Nat → Int} {L : List Int} (h : frL v L) (hL : ∀ z ∈ L, ∀ k, k < q.n → q.l k ≠ -z) : slkC q (asgL v L) = slkC q v := by
  induction L generalizing v with
  | nil => rfl
  | cons z zs ih =>
    obtain ⟨h1, h2, h3⟩ := frL_head h
    show slkC q (asgL (asg v z) zs) = _
    rw [ih h3 fun y hy => hL y (List.mem_cons_of_mem _ hy), slk_asg hq h1 h2, cof_none (hL z List.mem_cons_self)]
    omega
theorem stV_keep {v : Nat → Int} {z y : Int} (hz : litB z = true) (hv : stV v z = 0) (hy : litB y = true) (h : stV (asg v z) y = 0) : stV v y = 0 ∧ y ≠ z := by
  by_cases e1 : y = z
  · subst e1; rw [stV_self hz] at h; omega
  · by_cases e2 : y = -z
    · rw [e2, stV_neg hz, stV_self hz] at h; omega
    · rw [stV_off hz hy e1 e2] at h
      exact ⟨h, e1⟩
theorem stV_keepL {v : Nat → Int} {L : List Int} (hf : frL v L) {y : Int} (hy : litB y = true) (h : stV (asgL v L) y = 0) : stV v y = 0 ∧ y ∉ L := by
  induction L generalizing v with
  | nil => exact ⟨h, by simp⟩
  | cons z zs ih =>
    obtain ⟨h1, h2, h3⟩ := frL_head hf
    obtain ⟨a, b⟩ := ih h3 h
    obtain ⟨c, d⟩ := stV_keep h1 h2 hy a
    exact ⟨c, by rw [List.mem_cons]; rintro (e | e); exact d e; exact b e⟩
def fixC (q : Con) (v : Nat → Int) : Prop := ¬ slkC q v < 0 ∧ impC q v = []
theorem fix_step {q : Con} (hq : okC q) {v : Nat → Int} (h : ¬ slkC q v < 0) : fixC q (asgL v (impC q v)) := by
  have hf := imp_fr hq v
  have hs : slkC q (asgL v (impC q v)) = slkC q v := slk_list hq hf fun z hz k hk e => by
    obtain ⟨j, hj, rfl, _⟩ := imL_mem.1 hz
    obtain ⟨l0, _, _⟩ := litB_iff.1 (litAt hq hj)
    by_cases ejk : k = j
    · subst ejk; omega
    · exact (vt_apart hq hk hj ejk).2 e
  refine ⟨by rw [hs]; exact h, ?_⟩
  rw [List.eq_nil_iff_forall_not_mem]
  intro y hy
  obtain ⟨j, hj, rfl, h2, h3⟩ := imL_mem.1 hy
  obtain ⟨a, b⟩ := stV_keepL hf (litAt hq hj) h2
  exact b (imL_mem.2 ⟨j, hj, rfl, a, by rw [← hs]; exact h3⟩)

/-! What propagation comes to. -/
def nxt (m i : Nat) : Nat := if i + 1 = m then 0 else i + 1
inductive Runs (p : Nat → Con) (m : Nat) : Nat → (Nat → Int) → (Nat → Int) → Int → Prop
  | vio (i : Nat) (v : Nat → Int) (hi : i < m) (h : slkC (p i) v < 0) : Runs p m i v v (i : Int)
  | step (i : Nat) (v w : Nat → Int) (r : Int) (hi : i < m) (h : ¬ slkC (p i) v < 0) (hn : Runs p m (nxt m i) (asgL v (impC (p i) v)) w r) : Runs p m i v w r
  | fin (i : Nat) (v : Nat → Int) (h : ∀ j, j < m → fixC (p j) v) : Runs p m i v v (-1)
theorem Runs.fixed {p : Nat → Con} {m i : Nat} {v w : Nat → Int} {r : Int} (h : Runs p m i v w r) : (∀ j, j < m → fixC (p j) v) → w = v ∧ r = -1 := by
  induction h with
  | vio i v hi h => intro hf; exact absurd h (hf i hi).1
  | step i v w r hi h hn ih =>
    intro hf
    have e : asgL v (impC (p i) v) = v := by rw [(hf i hi).2]; rfl
    rw [e] at ih
    exact ih hf
  | fin i v h => intro _; exact ⟨rfl, rfl⟩
theorem Runs.det {p : Nat → Con} {m i : Nat} {v w : Nat → Int} {r : Int} (h : Runs p m i v w r) : ∀ w' r', Runs p m i v w' r' → w = w' ∧ r = r' := by
  induction h with
  | vio i v hi h =>
    intro w' r' h2
    cases h2 with
    | vio => exact ⟨rfl, rfl⟩
    | step _ _ _ _ _ h' => exact absurd h h'
    | fin _ _ hf => exact absurd h (hf i hi).1
  | step i v w r hi h hn ih =>
    intro w' r' h2
    cases h2 with
    | vio _ _ _ h' => exact absurd h' h
    | step _ _ _ _ _ _ hn' => exact ih _ _ hn'
    | fin _ _ hf => exact Runs.fixed (.step i v w r hi h hn) hf
  | fin i v hf =>
    intro w' r' h2
    obtain ⟨a, b⟩ := Runs.fixed h2 hf
    exact ⟨a.symm, b.symm⟩
end Go.Proofs.Ytbebdhjhlheboaa

namespace Go.Proofs.Ytbebdhjhlheboaa
open Go.ChangeShapes Go.WideShapes Go.ChangeAt Go.RowKit Go.Shelf

theorem asg_pos {v : Nat → Int} {i : Nat} : asg v ((i : Int) + 1) = fun j => if j = i then 1 else v j := by
  funext j
  unfold asg
  rw [if_pos (by omega)]
  have : ((i : Int) + 1 - 1).toNat = i := by omega
  rw [this]
theorem asg_neg {v : Nat → Int} {i : Nat} : asg v (-((i : Int) + 1)) = fun j => if j = i then -1 else v j := by
  funext j
  unfold asg
  rw [if_neg (by omega)]
  have : (- -((i : Int) + 1) - 1).toNat = i := by omega
  rw [this]

theorem grown_set (w : World) (G i : Nat) (u : Value) : w.grownBy (w.setCell ⟨G, i, none⟩ u) (some G) :=
  ⟨rfl, rfl, rfl, by simp [World.setCell], fun k _ hne => Below.heap_setCell w ⟨G, i, none⟩ u k (fun e => hne (by rw [e]))⟩
theorem grown_trans {w w1 w2 : World} {R : Option Nat} (h : w.grownBy w1 R) (h' : w1.grownBy w2 R) : w.grownBy w2 R :=
  ⟨h'.os.trans h.os, h'.tape.trans h.tape, h'.output.trans h.output, Nat.le_trans h.size h'.size, fun k hk hne => (h'.block k (Nat.lt_of_lt_of_le hk h.size) hne).trans (h.block k hk hne)⟩
theorem grown_below {G : Nat} {w w1 : World} (h : w.grownBy w1 (some G)) (hG : G ≤ w.heap.size) : Below G w w1 := (Below.refl G w).grown h hG fun k e => by cases e; exact Nat.le_refl _
theorem below_grown {G : Nat} {w w1 : World} (h : Below w.heap.size w w1) : w.grownBy w1 (some G) := ⟨h.os, h.tape, h.output, h.size, fun k hk _ => h.block k hk⟩

set_option maxRecDepth 100000 in
set_option maxHeartbeats 800000 in
theorem l3Assign_any (G cap : Nat) (v : Nat → Int) (z : Int) (w : World) (hz : litB z = true) (h : OwnV w G 3 12 12 v) :
    Calls Try.prog 52 #[.slice (some ⟨G, 0, none⟩) 12 cap, .int .i64 z] w fun e w' => e = .returned (.tuple #[]) ∧ OwnV w' G 3 12 12 (asg v z) ∧ w.grownBy w' (some G) := by
  obtain ⟨h0, h1, h2⟩ := litB_iff.1 hz
  rcases (show 0 < z ∨ z < 0 by omega) with hp | hp
  · obtain ⟨i, hi, rfl⟩ : ∃ i : Nat, i < 12 ∧ z = (i : Int) + 1 := ⟨(z - 1).toNat, by omega, by omega⟩
    obtain ⟨u, hu⟩ := h.cell hi
    have hf := h.frozen i
    have hw1 : wrap64 ((i : Int) + 1 - 1) = (i : Int) := by rw [← IntWalk.i64_left, IntWalk.i64_in _ (by omega)]; omega
    have hw2 : IntKind.i64.wrap ((i : Int) + 1 - 1) = (i : Int) := by rw [IntWalk.i64_in _ (by omega)]; omega
    have hi0 : (0 : Int) ≤ (i : Int) := by omega
    have hi1 : (i : Int) < 12 := by omega
    have H := Lib.hid (show OwnV (w.setCell ⟨G, i, none⟩ (.int .i64 1)) G 3 12 12 (asg v ((i : Int) + 1)) by rw [asg_pos]; exact h.setI hi 1)
    clear h hz h0 h1 h2
    go_enter Try.func52, Try.ntmps52
    go_wp2
    exact ⟨rfl, .tuple #[], by simp [results, Try.results52], rfl, H.out, grown_set w G i _⟩
  · obtain ⟨i, hi, rfl⟩ : ∃ i : Nat, i < 12 ∧ z = -((i : Int) + 1) := ⟨(-z - 1).toNat, by omega, by omega⟩
    obtain ⟨u, hu⟩ := h.cell hi
    have hf := h.frozen i
    have hnp : ¬ 0 < -((i : Int) + 1) := by omega
    have H := Lib.hid (show OwnV (w.setCell ⟨G, i, none⟩ (.int .i64 (-1))) G 3 12 12 (asg v (-((i : Int) + 1))) by rw [asg_neg]; exact h.setI hi (-1))
    have hw3 : IntKind.i64.wrap (- -((i : Int) + 1)) = (i : Int) + 1 := by rw [IntWalk.i64_in _ (by omega)]; omega
    have hw4 : wrap64 (- -((i : Int) + 1)) = (i : Int) + 1 := by rw [← IntWalk.i64_left]; exact hw3
    have hw1 : wrap64 ((i : Int) + 1 - 1) = (i : Int) := by rw [← IntWalk.i64_left, IntWalk.i64_in _ (by omega)]; omega
    have hw2 : IntKind.i64.wrap ((i : Int) + 1 - 1) = (i : Int) := by rw [IntWalk.i64_in _ (by omega)]; omega
    have hi0 : (0 : Int) ≤ (i : Int) := by omega
    have hi1 : (i : Int) < 12 := by omega
    generalize -((i : Int) + 1) = z at *
    clear h hz h0 h1 h2
    go_enter Try.func52, Try.ntmps52
    go_wp2
    exact ⟨rfl, .tuple #[], by simp [results, Try.results52], rfl, H.out, grown_set w G i _⟩
end Go.Proofs.Ytbebdhjhlheboaa

namespace Go.Proofs.Ytbebdhjhlheboaa
open Go.ChangeShapes Go.WideShapes Go.ChangeAt Go.RowKit Go.Shelf

/-- The ints that a block holds. -/
def valW (w : World) (G : Nat) (i : Nat) : Int := match w.cell? ⟨G, i, none⟩ with
  | some (.int _ z) => z
  | _ => 0
theorem una_congr {v v' : Nat → Int} {k : Nat} (h : ∀ i, i < k → v i = v' i) : una v k = una v' k := by
  induction k with
  | zero => rfl
  | succ k ih => unfold una; rw [ih fun i hi => h i (by omega), h k (by omega)]
theorem valW_own {w : World} {G : Nat} {v : Nat → Int} (h : OwnV w G 3 12 12 v) : una (valW w G) 12 = una v 12 := una_congr fun i hi => by
  obtain ⟨cs, hh, h1, h2⟩ := h
  have hc := (cell_of_row w G i cs _ _ hh).trans (h2 i hi)
  unfold valW
  rw [hc]
/-- The index at which the next round goes on. -/
def nx (m j : Nat) : Nat := if j = m then 0 else j
theorem nx_succ {m j : Nat} : nx m (j + 1) = nxt m j := rfl
theorem nx_lt {m j : Nat} (h : j < m) : nx m j = j := if_neg (by omega)
theorem gI_at {L : List Int} {k : Nat} (h : k < L.length) : gI L k = L[k] := by
  unfold gI
  rw [List.getD, List.getElem?_eq_getElem h]
  rfl
theorem frL_take {v : Nat → Int} {L : List Int} (h : frL v L) {k : Nat} (hk : k < L.length) : litB (gI L k) = true ∧ asgL v (L.take (k + 1)) = asg (asgL v (L.take k)) (gI L k) := by
  rw [gI_at hk]
  refine ⟨(h.1 _ (List.getElem_mem hk)).1, ?_⟩
  rw [List.take_succ_eq_append_getElem hk, asgL_snoc]

theorem fri_grown {w w' : World} {B n G : Nat} {T : TypeId} {A : Option Addr} {v : Nat → Int} (h : FrI w B T A n v) (hg : w.grownBy w' (some G)) (hG : G < B) : FrI w' B T A n v := by
  rcases h with h | ⟨H, e, hB, h⟩
  · exact .inl h
  · exact .inr ⟨H, e, hB, h.at_ (hg.block H h.lt (by intro e; cases e; omega))⟩
/-- What the inner loop over the constraints keeps: c says whether a literal has been made true since v0. -/
structure Scan (p : Nat → Con) (m : Nat) (v v0 : Nat → Int) (c : Bool) (vv : Nat → Int) (j : Nat) : Prop where
  runs : ∀ w' r, Runs p m (nx m j) vv w' r → Runs p m 0 v w' r
  same : c = false → una vv 12 = una v0 12 ∧ ∀ t, t < j → fixC (p t) vv
  less : c = true → una vv 12 < una v0 12
  rg : rng vv
theorem Scan.go {p : Nat → Con} {m : Nat} {v v0 vv : Nat → Int} {c : Bool} {j : Nat} (h : Scan p m v v0 c vv j) (hj : j < m) (hq : okC (p j)) (hs : ¬ slkC (p j) vv < 0) :
    Scan p m v v0 (c || decide (0 < (impC (p j) vv).length)) (asgL vv (impC (p j) vv)) (j + 1) := by
  have hf := imp_fr hq vv
  have hu := una_list hf
  have hfix := fix_step hq hs
  obtain ⟨h1, h2, h3, h4⟩ := h
  refine ⟨fun w' r hr => h1 w' r ?_, fun hc => ?_, fun hc => ?_, asgL_rng h4 _⟩
  · rw [nx_lt hj]
    exact .step j vv w' r hj hs hr
  · rw [Bool.or_eq_false_iff, decide_eq_false_iff_not] at hc
    have hl : impC (p j) vv = [] := List.eq_nil_of_length_eq_zero (by omega)
    rw [hl] at hfix ⊢
    obtain ⟨a, b⟩ := h2 hc.1
    refine ⟨a, fun t ht => ?_⟩
    by_cases e : t = j
    · subst e; exact hfix
    · exact b t (by omega)
  · cases c with
    | true => have := h3 rfl; omega
    | false =>
      have h5 := (h2 rfl).1
      rw [Bool.false_or, decide_eq_true_eq] at hc
      omega

theorem impC_eq {q : Con} {vv : Nat → Int} (hq : okC q) (hr : rng vv) (hs : ¬ slkC q vv < 0) : impL q.n q.c q.l q.bd 12 vv = impC q vv :=
  impL_yes (by unfold slkOk; rw [show validB q.n q.c q.l q.bd = true from hq, pvB_iff.2 ⟨rfl, hr⟩]; rfl) hs

end Go.Proofs.Ytbebdhjhlheboaa

namespace Go.Proofs.Ytbebdhjhlheboaa
open Go.ChangeShapes Go.WideShapes Go.ChangeAt Go.RowKit Go.Shelf

/-- What Propagate leaves. -/
def PgRes (w : World) (ok : Bool) (p : Nat → Con) (m : Nat) (v : Nat → Int) (e : Ending) (w' : World) : Prop :=
  ∃ n v' r A cap T, e = .returned (.tuple #[.slice A n cap, .int .i64 r, .bool ok]) ∧ FrI w' w.heap.size T A n v' ∧ Below w.heap.size w w' ∧ (ok = true → n = 12 ∧ rng v' ∧ Runs p m 0 v v' r) ∧ (ok = false → n = 0 ∧ r = -1)
theorem prob_ok {m : Nat} {p : Nat → Con} (h : probB m p = true) : m ≤ 400 ∧ ∀ i, i < m → okC (p i) := by
  unfold probB at h
  simp only [Bool.and_eq_true, decide_eq_true_eq] at h
  refine ⟨by omega, fun i hi => ?_⟩
  have key : ∀ n, allV p n = true → ∀ i, i < n → okC (p i) := by
    intro n
    induction n with
    | zero => intro _ i hi; omega
    | succ n ih =>
      intro ha i hi
      unfold allV at ha
      rw [Bool.and_eq_true] at ha
      by_cases e : i = n
      · subst e; exact ha.2
      · exact ih ha.1 i (by omega)
  exact key m (by simp_all) i hi

end Go.Proofs.Ytbebdhjhlheboaa

namespace Go.Proofs.Ytbebdhjhlheboaa
open Go.ChangeShapes Go.WideShapes Go.ChangeAt Go.RowKit Go.Shelf

section
variable {w w' : World} {B m : Nat} {lv : Value} {sl : Nat → Int} {uv : Nat → Value}
theorem heap_put {w : World} {B i : Nat} {cs : Array Value} {T : TypeId} (u : Value) (hh : w.heap[B]? = some (.cells cs T (0, 0))) : (w.setCell ⟨B, i, none⟩ u).heap[B]? = some (.cells (cs.setIfInBounds i u) T (0, 0)) := by
  simp [World.setCell, Array.getElem?_modify, hh]
end

/-- The cells of a row of uses. -/
def ucells : List (Nat × Int) → List Value
  | [] => []
  | r :: rs => .int .i64 r.1 :: .int .i64 r.2 :: ucells rs
theorem ucells_append (xs ys : List (Nat × Int)) : ucells (xs ++ ys) = ucells xs ++ ucells ys := by
  induction xs with
  | nil => rfl
  | cons x xs ih => simp [ucells, ih]
/-- The uses of a constraint's terms, of those of the first constraints: at the place 12 + the literal. -/
def usT (k : Nat) (c l : Nat → Int) : Nat → Nat → List (Nat × Int)
  | 0, _ => []
  | t + 1, j => usT k c l t j ++ (if 12 + l t = (j : Int) then [(k, c t)] else [])
def usP (p : Nat → Con) : Nat → Nat → List (Nat × Int)
  | 0, _ => []
  | k + 1, j => usP p k j ++ usT k (p k).c (p k).l (p k).n j

/-- What lies in the blocks of F is as it was; the streams are as they were. -/
structure Keeps (F : Nat → Prop) (w w' : World) : Prop where
  os : w'.os = w.os
  tape : w'.tape = w.tape
  output : w'.output = w.output
  size : w.heap.size ≤ w'.heap.size
  block : ∀ k, F k → w'.heap[k]? = w.heap[k]?
section
variable {F G : Nat → Prop} {w w' w1 : World} {R : Option Nat} {B i : Nat}
theorem Keeps.refl (F : Nat → Prop) (w : World) : Keeps F w w := ⟨rfl, rfl, rfl, Nat.le_refl _, fun _ _ => rfl⟩
theorem Keeps.trans (h : Keeps F w w1) (k : Keeps F w1 w') : Keeps F w w' := ⟨k.os.trans h.os, k.tape.trans h.tape, k.output.trans h.output, Nat.le_trans h.size k.size, fun j hj => (k.block j hj).trans (h.block j hj)⟩
theorem Keeps.mono (h : Keeps F w w') (hF : ∀ k, G k → F k) : Keeps G w w' := ⟨h.os, h.tape, h.output, h.size, fun j hj => h.block j (hF j hj)⟩
theorem bl_keeps {n : Nat} (h : Below n w w') (hF : ∀ k, F k → k < n) : Keeps F w w' := ⟨h.os, h.tape, h.output, h.size, fun j hj => h.block j (hF j hj)⟩
theorem keeps_bl {n : Nat} (h : Keeps (fun k => k < n) w w') : Below n w w' := ⟨h.os, h.tape, h.output, h.size, fun j hj => h.block j hj⟩
theorem grown_keeps (h : w.grownBy w' R) (hF : ∀ k, F k → k < w.heap.size) (hR : ∀ k, R = some k → ¬ F k) : Keeps F w w' := ⟨h.os, h.tape, h.output, h.size, fun j hj => h.block j (hF j hj) (fun e => hR j e.symm hj)⟩
theorem Keeps.set_ (h : Keeps F w w1) (hB : ¬ F B) (i : Nat) (u : Value) : Keeps F w (w1.setCell ⟨B, i, none⟩ u) := ⟨h.os, h.tape, h.output, by simpa [World.setCell] using h.size, fun j hj => (Below.heap_setCell w1 ⟨B, i, none⟩ u j (fun e => hB ((show B = j from e.symm) ▸ hj))).trans (h.block j hj)⟩
theorem Keeps.drew (h : Keeps F w w1) : Keeps F w w1.drew := ⟨h.os, h.tape, h.output, h.size, h.block⟩
end
/-- A slice of terms in a block of F. -/
def RdF (w : World) (F : Nat → Prop) (A : Option Addr) (n : Nat) (c l : Nat → Int) : Prop :=
  0 < n → ∃ b off, A = some ⟨b, off, none⟩ ∧ F b ∧ ∀ i, i < n → w.cell? ⟨b, off + i * 2, none⟩ = some (.int .i64 (c i)) ∧ w.cell? ⟨b, off + i * 2 + 1, none⟩ = some (.int .i64 (l i))
section
variable {F G : Nat → Prop} {w w' : World} {A : Option Addr} {n : Nat} {c l : Nat → Int}
theorem RdF.keeps (h : RdF w F A n c l) (hk : Keeps F w w') : RdF w' F A n c l := fun hn => by
  obtain ⟨b, off, e, hb, hc⟩ := h hn
  exact ⟨b, off, e, hb, fun i hi => ⟨(World.cell?_of_block (hk.block b hb)).trans (hc i hi).1, (World.cell?_of_block (hk.block b hb)).trans (hc i hi).2⟩⟩
theorem RdF.rd (h : RdF w F A n c l) (hF : ∀ k, F k → k < w.heap.size) : Rd w w.heap.size A n c l := fun hn => by
  obtain ⟨b, off, e, hb, hc⟩ := h hn
  exact ⟨b, off, e, hF b hb, hc⟩
theorem RdF.mono (h : RdF w F A n c l) (hF : ∀ k, F k → G k) : RdF w G A n c l := fun hn => by
  obtain ⟨b, off, e, hb, hc⟩ := h hn
  exact ⟨b, off, e, hF b hb, hc⟩
theorem rd_f {B : Nat} (h : Rd w B A n c l) (hF : ∀ k, k < B → F k) : RdF w F A n c l := fun hn => by
  obtain ⟨b, off, e, hb, hc⟩ := h hn
  exact ⟨b, off, e, hF b hb, hc⟩
end

/-- A row of constraints whose terms lie in blocks of F. -/
def ConRow (w : World) (F : Nat → Prop) (p : Nat → Con) (m : Nat) (xs : List Value) : Prop :=
  ∀ i, i < m → ∃ Ai ci, xs[i * 2]? = some (.slice Ai (p i).n ci) ∧ xs[i * 2 + 1]? = some (.int .i64 (p i).bd) ∧ RdF w F Ai (p i).n (p i).c (p i).l

theorem none_or {o : Option Nat} {R : Option Nat} (h : ∀ b, o = some b → R ≠ some b) : o = none ∨ o ≠ R := by
  cases o with
  | none => exact .inl rfl
  | some b => exact .inr fun e => h b rfl e.symm
section
variable {w w' W W0 w1 : World} {lo : Nat → Prop} {B m s g cap1 : Nat} {lv : Value} {p : Nat → Con} {sl : Nat → Int} {us : Nat → List (Nat × Int)} {uv : Nat → Value}
theorem ConRow.keeps {xs : List Value} (h : ConRow w lo p m xs) (hb : Keeps lo w w') : ConRow w' lo p m xs := fun i hi => by
  obtain ⟨Ai, ci, h1, h2, h3⟩ := h i hi
  exact ⟨Ai, ci, h1, h2, h3.keeps hb⟩
end
end Go.Proofs.Ytbebdhjhlheboaa

namespace Go.Proofs.Ytbebdhjhlheboaa
open Go.ChangeShapes Go.WideShapes Go.ChangeAt Go.RowKit Go.Shelf

theorem Try.infoUse : (Try.prog.info? 131).map (fun i => (i.zero, i.size, i.bytes)) = some (some (.agg #[.int .i64 0, .int .i64 0]), 2, 16) := by kernel_rfl

/-- No variable has a value. -/
def z0 : Nat → Int := fun _ => 0
theorem nf_z0 (z : Int) : nfP z0 z = true := by
  unfold nfP stV z0
  split <;> rfl
theorem sB_congr {c l : Nat → Int} {P Q : Int → Bool} (h : ∀ z, P z = Q z) (n : Nat) : sB c l P n = sB c l Q n := by
  have : P = Q := funext h
  rw [this]
theorem tot_slk {q : Con} (hq : okC q) (hn : q.n ≤ 1048576) : totV q.n q.c q.l q.bd = slkC q z0 + q.bd ∧ -20000 ≤ slkC q z0 ∧ slkC q z0 ≤ 1048576000 := by
  have hb := slk_bd (v := z0) hq
  have h1 : totV q.n q.c q.l q.bd = sB q.c q.l (fun _ => true) q.n := by
    unfold totV
    rw [show validB q.n q.c q.l q.bd = true from hq, if_pos rfl]
    exact sumW_sB hn (coef_of hq)
  have h2 : sB q.c q.l (nfP z0) q.n = sB q.c q.l (fun _ => true) q.n := sB_congr nf_z0 q.n
  unfold slkC
  refine ⟨?_, hb.1, by omega⟩
  unfold slk
  rw [h1, h2]
  omega
theorem usT_len (k : Nat) (c l : Nat → Int) (n j : Nat) : (usT k c l n j).length ≤ n := by
  induction n with
  | zero => exact Nat.le_refl _
  | succ n ih =>
    unfold usT
    rw [List.length_append]
    split <;> simp <;> omega
theorem row_slice {w : World} {B s n : Nat} {T : TypeId} {v : Value} {xs : List Value} (h : w.ownsRow B T s v n xs) : ∃ A cap, v = .slice A n cap := by
  rcases h.2 with ⟨e, e2⟩ | ⟨g, capl, cur, e, _⟩
  · exact ⟨none, 0, by rw [e, e2]⟩
  · exact ⟨_, capl, e⟩
end Go.Proofs.Ytbebdhjhlheboaa

namespace Go.Proofs.Ytbebdhjhlheboaa
open Go.ChangeShapes Go.WideShapes Go.ChangeAt Go.RowKit Go.Shelf

def isNilS : Value → Bool
  | .slice none 0 0 => true
  | _ => false
theorem isNilS_iff {v : Value} (h : isNilS v = true) : v = .slice none 0 0 := by
  unfold isNilS at h
  split at h
  · rfl
  · cases h
def zeroPg (z : Array Value) : Bool := z.size == 1426 && isNilS (z.getD 0 undef) && (List.range 25).all fun j => isNilS (z.getD (1401 + j) undef)
theorem usP_len {p : Nat → Con} {m : Nat} (h : ∀ i, i < m → (p i).n ≤ 1048576) (j : Nat) : (usP p m j).length ≤ m * 1048576 := by
  induction m with
  | zero => simp [usP]
  | succ m ih =>
    have h1 := ih fun i hi => h i (by omega)
    have h2 := usT_len m (p m).c (p m).l (p m).n j
    have h3 := h m (by omega)
    show (usP p m j ++ usT m (p m).c (p m).l (p m).n j).length ≤ _
    rw [List.length_append]
    omega

end Go.Proofs.Ytbebdhjhlheboaa

namespace Go.Proofs.Ytbebdhjhlheboaa
open Go.ChangeShapes Go.WideShapes Go.ChangeAt Go.RowKit Go.Shelf

section
variable {w w' : World} {S B m : Nat} {v sl : Nat → Int}
end

/-- What a literal's variable gets. -/
def sgn1 (z : Int) : Int := if 0 < z then 1 else -1
def vix (z : Int) : Nat := (ab z - 1).toNat
theorem vix_lt {z : Int} (h : litB z = true) : vix z < 12 ∧ ab z = (vix z : Int) + 1 := by
  obtain ⟨h0, h1, h2⟩ := litB_iff.1 h
  have h3 := ab_pos h
  have h4 : ab z ≤ 12 := by unfold ab; split <;> omega
  unfold vix
  omega
theorem asg_vix {v : Nat → Int} {z : Int} (h : litB z = true) : asg v z = fun i => if i = vix z then sgn1 z else v i := by
  obtain ⟨h0, h1, h2⟩ := litB_iff.1 h
  funext i
  unfold asg sgn1 vix
  by_cases hp : 0 < z
  · have e : ab z = z := by unfold ab; rw [if_neg (by omega)]
    rw [if_pos hp, if_pos hp, e]
  · have e : ab z = -z := by unfold ab; rw [if_pos (by omega)]
    rw [if_neg hp, if_neg hp, e]

set_option maxRecDepth 100000 in
set_option maxHeartbeats 1600000 in
theorem ptMake_any (G o : Nat) (z : Int) (w : World) (hz : litB z = true) (hc : ∀ i, i < 12 → ∃ u, w.cell? ⟨G, o + i, none⟩ = some u) (hf : ∀ i, i < 12 → w.frozen? ⟨G, o + i, none⟩ = false) :
    Calls Try.prog 94 #[.pointer (some ⟨G, o, none⟩), .int .i64 z] w fun e w' => e = .returned (.tuple #[]) ∧ w' = (w.setCell ⟨G, o + vix z, none⟩ (.int .i64 (sgn1 z))).drew := by
  obtain ⟨h0, h1, h2⟩ := litB_iff.1 hz
  obtain ⟨hi, hab⟩ := vix_lt hz
  obtain ⟨u, hu⟩ := hc _ hi
  have hfi := hf _ hi
  have hvar := fun W => litVariable_same z W h1 h2
  rw [hab] at hvar
  obtain ⟨i, hie⟩ : ∃ i, vix z = i := ⟨_, rfl⟩
  rw [hie] at hi hu hfi hvar ⊢
  have HV := Lib.hid hvar
  have hw1 : wrap64 ((i : Int) + 1 - 1) = (i : Int) := by rw [← IntWalk.i64_left, IntWalk.i64_in _ (by omega)]; omega
  have hw2 : IntKind.i64.wrap ((i : Int) + 1 - 1) = (i : Int) := by rw [IntWalk.i64_in _ (by omega)]; omega
  have hw0 : IntKind.i64.wrap (i : Int) = (i : Int) := IntWalk.i64_in _ (by omega)
  have hi0 : (0 : Int) ≤ (i : Int) := by omega
  have hi1 : (i : Int) < 12 := by omega
  have hsg : sgn1 z = if z < 0 then -1 else 1 := by unfold sgn1; split <;> split <;> omega
  clear hc hf hvar hie hab
  by_cases hp : z < 0
  · rw [hsg, if_pos hp]
    clear hsg hz h0 h1 h2
    go_enter Try.func94, Try.ntmps94
    go_wp2_with (first | (go_at_call 110; refine (litNegated_any _ _).mono ?_; rintro e w2 ⟨rfl, rfl⟩) | (go_at_call 97; refine (HV.out _).mono ?_; rintro e w2 ⟨rfl, rfl⟩))
    go_region_law (go_simp; go_at_call 97; refine (HV.out _).mono ?_; rintro e w3 ⟨rfl, rfl⟩)
    all_goals go_wp2
    all_goals exact ⟨rfl, .tuple #[], by simp [results, Try.results94], rfl, rfl⟩
  · rw [hsg, if_neg hp]
    clear hsg hz h0 h1 h2
    go_enter Try.func94, Try.ntmps94
    go_wp2_with (first | (go_at_call 110; refine (litNegated_any _ _).mono ?_; rintro e w2 ⟨rfl, rfl⟩) | (go_at_call 97; refine (HV.out _).mono ?_; rintro e w2 ⟨rfl, rfl⟩))
    go_region_law (go_simp; go_at_call 97; refine (HV.out _).mono ?_; rintro e w3 ⟨rfl, rfl⟩)
    all_goals go_wp2
    all_goals exact ⟨rfl, .tuple #[], by simp [results, Try.results94], rfl, rfl⟩
end Go.Proofs.Ytbebdhjhlheboaa

namespace Go.Proofs.Ytbebdhjhlheboaa
open Go.ChangeShapes Go.WideShapes Go.ChangeAt Go.RowKit Go.Shelf

/-- What the uses of a list take off the slack of constraint i. -/
def sumU : List (Nat × Int) → Nat → Int
  | [], _ => 0
  | r :: rs, i => (if r.1 = i then r.2 else 0) + sumU rs i
theorem sumU_append (xs ys : List (Nat × Int)) (i : Nat) : sumU (xs ++ ys) i = sumU xs i + sumU ys i := by
  induction xs with
  | nil => show sumU ys i = 0 + sumU ys i; omega
  | cons x xs ih => show _ + sumU (xs ++ ys) i = _ + sumU xs i + sumU ys i; rw [ih]; omega
theorem sumU_nonneg {xs : List (Nat × Int)} (h : ∀ r ∈ xs, 0 ≤ r.2) (i : Nat) : 0 ≤ sumU xs i := by
  induction xs with
  | nil => exact Int.le_refl _
  | cons x xs ih =>
    have h1 := ih fun r hr => h r (List.mem_cons_of_mem _ hr)
    have h2 := h x List.mem_cons_self
    show 0 ≤ _ + sumU xs i
    split <;> omega
theorem sumU_take {xs : List (Nat × Int)} (h : ∀ r ∈ xs, 0 ≤ r.2) (i t : Nat) : 0 ≤ sumU (xs.take t) i ∧ sumU (xs.take t) i ≤ sumU xs i := by
  have h1 := sumU_nonneg (xs := xs.take t) (fun r hr => h r (List.mem_of_mem_take hr)) i
  have h2 := sumU_nonneg (xs := xs.drop t) (fun r hr => h r (List.mem_of_mem_drop hr)) i
  have h3 := sumU_append (xs.take t) (xs.drop t) i
  rw [List.take_append_drop] at h3
  omega
theorem ucells_at : ∀ (L : List (Nat × Int)) (t : Nat) (ht : t < L.length), (ucells L)[t * 2]? = some (.int .i64 (L[t].1 : Nat)) ∧ (ucells L)[t * 2 + 1]? = some (.int .i64 L[t].2)
  | r :: rs, 0, _ => ⟨rfl, rfl⟩
  | r :: rs, t + 1, ht => by
    have := ucells_at rs t (by simpa using ht)
    rw [show (t + 1) * 2 = t * 2 + 1 + 1 by omega]
    exact this
theorem row_read {w : World} {B n : Nat} {T : TypeId} {v : Value} {L : List (Nat × Int)} (h : w.ownsRow B T 2 v n (ucells L)) (hn : n = L.length) (h0 : 0 < n) : ∃ g cap, v = .slice (some ⟨g, 0, none⟩) n cap ∧ g < w.heap.size ∧ ∀ t (ht : t < L.length), w.cell? ⟨g, t * 2, none⟩ = some (.int .i64 (L[t].1 : Nat)) ∧ w.cell? ⟨g, t * 2 + 1, none⟩ = some (.int .i64 L[t].2) := by
  have hlt := h.lt
  rcases h.2 with ⟨_, hz⟩ | ⟨g, cap, cur, rfl, hg, hh, hnc, _, hsz, htk⟩
  · omega
  · refine ⟨g, cap, rfl, (hlt g rfl).2, fun t ht => ?_⟩
    obtain ⟨h1, h2⟩ := ucells_at L t ht
    rw [← htk] at h1 h2
    rw [List.getElem?_take_of_lt (by omega)] at h1 h2
    exact ⟨(cell_of_row w g _ cur _ _ hh).trans (by simpa using h1), (cell_of_row w g _ cur _ _ hh).trans (by simpa using h2)⟩
end Go.Proofs.Ytbebdhjhlheboaa

namespace Go.Proofs.Ytbebdhjhlheboaa
open Go.ChangeShapes Go.WideShapes Go.ChangeAt Go.RowKit Go.Shelf

theorem sumU_usT (j : Nat) (c l : Nat → Int) (n k i : Nat) : sumU (usT j c l n k) i = if j = i then cof c l ((k : Int) - 12) n else 0 := by
  induction n with
  | zero => unfold usT cof; split <;> rfl
  | succ n ih =>
    unfold usT cof
    rw [sumU_append, ih]
    by_cases h : 12 + l n = (k : Int)
    · rw [if_pos h, if_pos (show l n = (k : Int) - 12 by omega)]
      show _ + ((if j = i then c n else 0) + 0) = _
      split <;> omega
    · rw [if_neg h, if_neg (show ¬ l n = (k : Int) - 12 by omega)]
      show _ + 0 = _
      split <;> omega
theorem sumU_usP (p : Nat → Con) (m k i : Nat) : sumU (usP p m k) i = if i < m then cof (p i).c (p i).l ((k : Int) - 12) (p i).n else 0 := by
  induction m with
  | zero => rw [if_neg (by omega)]; rfl
  | succ m ih =>
    show sumU (usP p m k ++ usT m (p m).c (p m).l (p m).n k) i = _
    rw [sumU_append, ih, sumU_usT]
    by_cases e : m = i
    · subst e
      rw [if_neg (by omega), if_pos rfl, if_pos (by omega)]
      omega
    · rw [if_neg e]
      by_cases h : i < m
      · rw [if_pos h, if_pos (by omega)]
        omega
      · rw [if_neg h, if_neg (by omega)]
        omega
theorem usT_mem {j : Nat} {c l : Nat → Int} {n k : Nat} {r : Nat × Int} (h : r ∈ usT j c l n k) : r.1 = j ∧ ∃ t, t < n ∧ r.2 = c t := by
  induction n with
  | zero => simp [usT] at h
  | succ n ih =>
    unfold usT at h
    rw [List.mem_append] at h
    rcases h with h | h
    · obtain ⟨a, t, ht, e⟩ := ih h
      exact ⟨a, t, by omega, e⟩
    · split at h
      · rw [List.mem_singleton] at h
        subst h
        exact ⟨rfl, n, by omega, rfl⟩
      · cases h
theorem usP_mem {p : Nat → Con} {m k : Nat} (hok : ∀ i, i < m → okC (p i)) {r : Nat × Int} (h : r ∈ usP p m k) : r.1 < m ∧ 0 ≤ r.2 ∧ r.2 ≤ 1000 := by
  induction m with
  | zero => cases h
  | succ m ih =>
    rcases List.mem_append.1 (show r ∈ usP p m k ++ usT m (p m).c (p m).l (p m).n k from h) with h | h
    · have := ih (fun i hi => hok i (by omega)) h
      exact ⟨by omega, this.2⟩
    · obtain ⟨a, t, ht, e⟩ := usT_mem h
      have := coef_of (hok m (by omega)) t ht
      exact ⟨by omega, by omega, by omega⟩
/-- The queue behind i sends. -/
def qu (i : Nat) : Array Value := ((List.range i).map fun j => Value.int .i64 (j : Nat)).toArray
theorem qu_push (i : Nat) : (qu i).push (.int .i64 (i : Nat)) = qu (i + 1) := by simp [qu, List.range_succ]
theorem qu_size (i : Nat) : (qu i).size = i := by simp [qu]
/-- The queue from i on. -/
def rot (m i : Nat) : Array Value := ((List.range m).map fun j => Value.int .i64 (((i + j) % m : Nat) : Int)).toArray
theorem rot_size (m i : Nat) : (rot m i).size = m := by simp [rot]
theorem rot_head {m i : Nat} (h : i < m) : (rot m i).getD 0 undef = .int .i64 (i : Nat) := by
  unfold rot
  rw [Array.getD_eq_getD_getElem?]
  simp [show 0 < m by omega]
  exact Int.emod_eq_of_lt (by omega) (by omega)
theorem rot_next {m i : Nat} (h : i < m) : ((rot m i).extract 1 (rot m i).size).push (.int .i64 (i : Nat)) = rot m (nxt m i) := by
  obtain ⟨k, rfl⟩ : ∃ k, m = k + 1 := ⟨m - 1, by omega⟩
  apply Array.ext'
  rw [rot_size]
  unfold rot
  rw [Array.toList_push, Array.toList_extract]
  have h1 : (List.range (k + 1)).map (fun j => Value.int .i64 (((nxt (k + 1) i + j) % (k + 1) : Nat) : Int)) = (List.range k).map (fun j => Value.int .i64 (((i + (j + 1)) % (k + 1) : Nat) : Int)) ++ [.int .i64 (i : Nat)] := by
    rw [List.range_succ, List.map_append]
    congr 1
    · apply List.map_congr_left
      intro j _
      congr 2
      unfold nxt
      split
      · rename_i e
        rw [show i + (j + 1) = j + (k + 1) by omega, Nat.add_mod_right, Nat.zero_add]
      · congr 1
        omega
    · simp only [List.map_cons, List.map_nil]
      congr 3
      unfold nxt
      split
      · rw [Nat.zero_add, Nat.mod_eq_of_lt (by omega)]; omega
      · rw [show i + 1 + k = i + (k + 1) by omega, Nat.add_mod_right, Nat.mod_eq_of_lt h]
  rw [h1]
  congr 1
  rw [List.range_succ_eq_map]
  simp [List.extract, List.take_of_length_le]
theorem rot_qu (m : Nat) : qu m = rot m 0 := by
  unfold qu rot
  congr 1
  apply List.map_congr_left
  intro j hj
  rw [List.mem_range] at hj
  rw [Nat.zero_add, Nat.mod_eq_of_lt hj]
end Go.Proofs.Ytbebdhjhlheboaa

namespace Go.Proofs.Ytbebdhjhlheboaa
open Go.Conc Go.ChangeShapes Go.WideShapes Go.ChangeAt Go.RowKit Go.Shelf

theorem frL_zero {v : Nat → Int} {L : List Int} (h : frL v L) {k : Nat} (hk : k < L.length) : stV (asgL v (L.take k)) (gI L k) = 0 := by
  rw [gI_at hk]
  induction L generalizing v k with
  | nil => simp at hk
  | cons z zs ih =>
    obtain ⟨_, h0, ht⟩ := frL_head h
    cases k with
    | zero => exact h0
    | succ k => exact ih ht (by simpa using hk)
/-- How far behind i the queue has j. -/
def dis (m i j : Nat) : Nat := if i ≤ j then j - i else j + m - i
section
variable {w wx wy : World} {S B C m st i : Nat} {p : Nat → Con} {v0 v : Nat → Int} {buf buf' : Array Value}
end
theorem q_less {v : Nat → Int} {L : List Int} (hf : frL v L) {st m : Nat} (hst : st < m) : una (asgL v L) 12 * (m + 1) + (m - ((if 0 < L.length then 0 else st) + 1)) < una v 12 * (m + 1) + (m - st) := by
  have h := una_list hf
  by_cases hL : 0 < L.length
  · rw [if_pos hL, ← h]
    obtain ⟨k, hk⟩ : ∃ k, L.length = k + 1 := ⟨L.length - 1, by omega⟩
    rw [hk, show una (asgL v L) 12 + (k + 1) = (una (asgL v L) 12 + 1) + k by omega, Nat.add_mul, Nat.add_mul]
    have := Nat.zero_le (k * (m + 1))
    omega
  · rw [if_neg hL, show una v 12 = una (asgL v L) 12 by omega]
    omega
theorem heap_kept {w w' : World} {S C : Nat} {o : Obj} (hg : w.grownBy w' (some S)) (h : w.heap[C]? = some o) (hS : S ≠ C) : w'.heap[C]? = some o := by
  rw [hg.block C (Array.getElem?_eq_some_iff.1 h).1 (fun e => hS (by injection e with e; exact e.symm))]
  exact h
theorem row_cells {w : World} {B n cap : Nat} {A : Option Addr} {T : TypeId} {xs : List Value} (h : w.ownsRow B T 2 (.slice A n cap) n xs) {i : Nat} (hi : i < n) : ∃ g, A = some ⟨g, 0, none⟩ ∧ ∀ k u, k < n * 2 → xs[k]? = some u → w.cell? ⟨g, k, none⟩ = some u := by
  rcases h.2 with ⟨_, hz⟩ | ⟨g, cap, cur, e, hg, hh, hnc, _, hsz, htk⟩
  · omega
  · cases e
    refine ⟨g, rfl, fun k u hk hu => ?_⟩
    rw [← htk, List.getElem?_take_of_lt (by omega)] at hu
    exact (cell_of_row w g _ cur _ _ hh).trans (by simpa using hu)
theorem putS_self (ts : Array Value) (slots : List Nat) : ts = putS ts slots (fun k => ts.getD k undef) := by
  have h : ∀ k, ts.setIfInBounds k (ts.getD k undef) = ts := fun k => by
    apply Array.ext
    · simp
    · intro i h1 h2
      rw [Array.getElem_setIfInBounds]
      split
      · rename_i e
        subst e
        simp [Array.getD, h2]
      · rfl
  unfold putS
  induction slots with
  | nil => rfl
  | cons k ks ih =>
    rw [List.foldl_cons, h]
    exact ih
end Go.Proofs.Ytbebdhjhlheboaa

namespace Go.Proofs.Ytbebdhjhlheboaa
open Go.Conc Go.ChangeShapes Go.WideShapes Go.ChangeAt Go.RowKit Go.Shelf

end Go.Proofs.Ytbebdhjhlheboaa

namespace Go.Proofs.Ytbebdhjhlheboaa
open Go.Conc Go.ChangeShapes Go.WideShapes Go.ChangeAt Go.RowKit Go.Shelf

theorem foldl_put : ∀ (vs : List Value) (k0 off : Nat) (cs : Array Value), ((vs.zipIdx k0).foldl (fun (cs : Array Value) (x : Value × Nat) => cs.setIfInBounds (off + x.2) x.1) cs).size = cs.size ∧ ∀ k, ((vs.zipIdx k0).foldl (fun (cs : Array Value) (x : Value × Nat) => cs.setIfInBounds (off + x.2) x.1) cs)[k]? = if off + k0 ≤ k ∧ k < off + k0 + vs.length ∧ k < cs.size then vs[k - (off + k0)]? else cs[k]?
  | [], k0, off, cs => ⟨rfl, fun k => by rw [if_neg (by simp only [List.length_nil]; omega)]; rfl⟩
  | v :: vs, k0, off, cs => by
    obtain ⟨h1, h2⟩ := foldl_put vs (k0 + 1) off (cs.setIfInBounds (off + k0) v)
    rw [List.zipIdx_cons, List.foldl_cons]
    refine ⟨by rw [h1, Array.size_setIfInBounds], fun k => ?_⟩
    rw [h2, Array.size_setIfInBounds, Array.getElem?_setIfInBounds]
    by_cases c : off + (k0 + 1) ≤ k ∧ k < off + (k0 + 1) + vs.length ∧ k < cs.size
    · rw [if_pos c, if_pos (by simp only [List.length_cons]; omega), show k - (off + k0) = (k - (off + (k0 + 1))) + 1 by omega]
      rfl
    · rw [if_neg c]
      by_cases e : off + k0 = k
      · subst e
        rw [if_pos rfl]
        by_cases hk : off + k0 < cs.size
        · rw [if_pos hk, if_pos ⟨Nat.le_refl _, by simp only [List.length_cons]; omega, hk⟩, Nat.sub_self]
          rfl
        · rw [if_neg hk, if_neg (by omega), Array.getElem?_eq_none (by omega)]
      · rw [if_neg e, if_neg (by simp only [List.length_cons]; omega)]
/-- The cells of vs put into cs from off on. -/
def putAt (off : Nat) (vs cs : Array Value) : Array Value := vs.zipIdx.foldl (fun cs (c, j) => cs.setIfInBounds (off + j) c) cs
theorem putAt_eq (off : Nat) (vs cs : Array Value) : putAt off vs cs = (vs.toList.zipIdx 0).foldl (fun (cs : Array Value) (x : Value × Nat) => cs.setIfInBounds (off + x.2) x.1) cs := by
  unfold putAt
  rw [← Array.foldl_toList, Array.toList_zipIdx]
theorem putAt_size (off : Nat) (vs cs : Array Value) : (putAt off vs cs).size = cs.size := by
  rw [putAt_eq]
  exact (foldl_put vs.toList 0 off cs).1
theorem putAt_at (off : Nat) (vs cs : Array Value) (k : Nat) : (putAt off vs cs)[k]? = if off ≤ k ∧ k < off + vs.size ∧ k < cs.size then vs[k - off]? else cs[k]? := by
  rw [putAt_eq, (foldl_put vs.toList 0 off cs).2 k]
  simp

theorem fill_cons {place : Nat → Option (Nat × Nat)} {cells : Array Value} {i off size : Nat} {v : Value} {rest : List (Nat × Value)} (hp : place i = some (off, size)) (h1 : v.cells.size = size) (h2 : off + size ≤ cells.size) : Instr.fill place cells ((i, v) :: rest) = Instr.fill place (putAt off v.cells cells) rest := by
  rw [Instr.fill]
  simp only [hp]
  rw [if_neg (by simp [h1]; omega)]
  rfl
theorem built_struct {P : Program} {t : TypeId} {zc : Array Value} {places : List (Nat × Nat)} {parts : List (Nat × Value)} (h1 : ((P.info? t).bind (·.zero)).map Value.cells = some zc)
    (h2 : (match P.underlying t with | some (.struct fields) => fields.toList.mapM (fun f => (P.info? f.type).map fun i => (f.offset, i.size)) | _ => none) = some places) : P.built t parts = Instr.fill (places.toArray[·]?) zc parts := by
  unfold Program.built
  cases hi : P.info? t with
  | none => simp [hi] at h1
  | some it =>
    cases hz : it.zero with
    | none => simp [hi, hz] at h1
    | some z =>
      have hzc : z.cells = zc := by simpa [hi, hz] using h1
      cases hu : P.underlying t with
      | none => simp [hu] at h2
      | some d =>
        cases d <;> try (simp [hu] at h2; done)
        case struct fields =>
          simp only [hu] at h2
          simp only [hz, h2, hzc]

def isZ : Value → Bool
  | .int .i64 z => z == 0
  | _ => false
theorem isZ_iff {v : Value} (h : isZ v = true) : v = .int .i64 0 := by
  unfold isZ at h
  split at h
  · rw [beq_iff_eq] at h; rw [h]
  · cases h
def zeroPs (z : Array Value) : Bool := z.size == 1413 && (List.range 12).all fun j => isZ (z.getD (1 + j) undef)
theorem wp_build_run {P : Program} {o : Oper} {a : Act} {w : World} {K : Act → World → Prop} {Q : Exit → Act → World → Prop} (t : TypeId) (parts : Array (Nat × Operand)) (ho : o.op = .build t parts) (cells : Array Value)
    (hr : (Instr.build t (parts.map fun (i, x) => (i, a.eval x))).run P w = .ok (.agg cells) w) (h : K (a.put o.dst (.agg cells)) w) : o.wp P a w K Q := by
  unfold Oper.wp execOp
  simp only [ho, Sem.run_bind, Sem.run_pure, Result.andThen_ok, hr]
  exact h
theorem wp_value {P : Program} {o : Oper} {a : Act} {w w' : World} {v : Value} {K : Act → World → Prop} {Q : Exit → Act → World → Prop} (hr : (execOp a.eval o).run P w = .ok (.value v) w') (h : K (a.put o.dst v) w') : o.wp P a w K Q := by
  unfold Oper.wp
  simp only [hr]
  exact h
theorem shape_setCells (S : Nat) (T : TypeId) : ∀ (vs : List Value) (o : Nat) (w : World) (cs : Array Value), w.heap[S]? = some (.cells cs T (0, 0)) → ∃ cs', (w.setCells S o vs).heap[S]? = some (.cells cs' T (0, 0)) ∧ cs'.size = cs.size
  | [], _, _, cs, h => ⟨cs, h, rfl⟩
  | v :: r, o, w, cs, h => by
    obtain ⟨cs', h1, h2⟩ := shape_setCells S T r (o + 1) _ _ (heap_put (i := o) v h)
    exact ⟨cs', h1, by rw [h2]; simp⟩
theorem grown_setCells (S : Nat) : ∀ (vs : List Value) (o : Nat) (w : World), w.grownBy (w.setCells S o vs) (some S)
  | [], _, _ => ⟨rfl, rfl, rfl, Nat.le_refl _, fun _ _ _ => rfl⟩
  | v :: r, o, w => grown_trans (grown_set w S o v) (grown_setCells S r (o + 1) _)
end Go.Proofs.Ytbebdhjhlheboaa

namespace Go.Proofs.Ytbebdhjhlheboaa
open Go.Conc Go.ChangeShapes Go.WideShapes Go.ChangeAt Go.RowKit Go.Shelf

theorem tl_bd {v : Nat → Int} (hv : rng v) {k : Nat} (hk : k ≤ 12) : ∀ x ∈ tl v k, -(k : Int) ≤ x ∧ x ≤ (k : Int) := by
  induction k with
  | zero => intro x hx; cases hx
  | succ k ih =>
    intro x hx
    have h3 : v k = -1 ∨ v k = 0 ∨ v k = 1 := by have := hv k (by omega); omega
    rcases h3 with e | e | e
    · rw [tl_neg e, List.mem_append, List.mem_singleton] at hx
      rcases hx with h | h
      · have := ih (by omega) x h; omega
      · omega
    · rw [tl_no e] at hx
      have := ih (by omega) x hx; omega
    · rw [tl_yes e, List.mem_append, List.mem_singleton] at hx
      rcases hx with h | h
      · have := ih (by omega) x h; omega
      · omega
theorem tl_pw {v : Nat → Int} (hv : rng v) {k : Nat} (hk : k ≤ 12) : (tl v k).Pairwise (fun a b => apartL b a) := by
  induction k with
  | zero => exact List.Pairwise.nil
  | succ k ih =>
    have h3 : v k = -1 ∨ v k = 0 ∨ v k = 1 := by have := hv k (by omega); omega
    have hb := tl_bd hv (k := k) (by omega)
    have key : ∀ y : Int, (y = (k : Int) + 1 ∨ y = -((k : Int) + 1)) → (tl v k ++ [y]).Pairwise (fun a b => apartL b a) := fun y hy => by
      rw [List.pairwise_append]
      refine ⟨ih (by omega), List.pairwise_singleton _ _, fun a ha b hb2 => ?_⟩
      rw [List.mem_singleton] at hb2
      subst hb2
      have := hb a ha
      unfold apartL
      omega
    rcases h3 with e | e | e
    · rw [tl_neg e]; exact key _ (.inr rfl)
    · rw [tl_no e]; exact ih (by omega)
    · rw [tl_yes e]; exact key _ (.inl rfl)
theorem stV_z0 (y : Int) : stV z0 y = 0 := by
  unfold stV z0
  split <;> rfl
theorem tl_fr {v : Nat → Int} (hv : rng v) : frL z0 (tl v 12) := ⟨fun y hy => ⟨tl_lit hv (Nat.le_refl _) y hy, stV_z0 y⟩, tl_pw hv (Nat.le_refl _)⟩
theorem tl_asg {v : Nat → Int} (hv : rng v) {k : Nat} (hk : k ≤ 12) : asgL z0 (tl v k) = fun i => if i < k then v i else 0 := by
  induction k with
  | zero => funext i; rfl
  | succ k ih =>
    have ih := ih (by omega)
    have h3 : v k = -1 ∨ v k = 0 ∨ v k = 1 := by have := hv k (by omega); omega
    funext i
    have hlt : ∀ a : Int, (if i < k + 1 then v i else 0) = if i = k then v k else (if i < k then v i else 0) := fun _ => by
      by_cases e : i = k
      · subst e; rw [if_pos rfl, if_pos (by omega)]
      · rw [if_neg e]
        by_cases c : i < k
        · rw [if_pos c, if_pos (by omega)]
        · rw [if_neg c, if_neg (by omega)]
    rw [hlt 0]
    rcases h3 with e | e | e
    · rw [tl_neg e, asgL_snoc, ih]
      unfold asg
      rw [if_neg (by omega), show (- -((k : Int) + 1) - 1).toNat = k by omega, e]
    · rw [tl_no e, ih, e]
      by_cases c : i = k
      · subst c; rw [if_pos rfl]; exact if_neg (by omega)
      · rw [if_neg c]
    · rw [tl_yes e, asgL_snoc, ih]
      unfold asg
      rw [if_pos (by omega), show (((k : Int) + 1) - 1).toNat = k by omega, e]
theorem tl_all {v : Nat → Int} (hv : rng v) (h0 : ∀ i, 12 ≤ i → v i = 0) : asgL z0 (tl v 12) = v := by
  rw [tl_asg hv (Nat.le_refl _)]
  funext i
  by_cases c : i < 12
  · rw [if_pos c]
  · rw [if_neg c, h0 i (by omega)]
theorem load12 (W : World) (b o : Nat) (v : Nat → Int) (h : W.rangeAt b o (cl12 v)) : (Instr.loadAt 72 (.pointer (some ⟨b, o, none⟩))).run Try.prog W = .ok (arrV v) W :=
  run_loadAt_mid (P := Try.prog) W b o 72 (cl12 v) _ h Try.underlying72 rfl (by kernel_rfl)
theorem start12 (w : World) (v : Nat → Int) (T : TypeId) : Below w.heap.size w ((w.alloc (.cells (cells12 v) T)).alloc (.cells (cells12 fun _ => 0) T)) ∧ ((w.alloc (.cells (cells12 v) T)).alloc (.cells (cells12 fun _ => 0) T)).rangeAt w.heap.size 0 (cl12 v) ∧ ((w.alloc (.cells (cells12 v) T)).alloc (.cells (cells12 fun _ => 0) T)).heap[w.heap.size + 1]? = some (.cells (cells12 fun _ => 0) T (0, 0)) ∧ ((w.alloc (.cells (cells12 v) T)).alloc (.cells (cells12 fun _ => 0) T)).heap.size = w.heap.size + 2 := by
  have h1 := heap_alloc_new w (.cells (cells12 v) T)
  have hb := bl_alloc (Below.refl _ (w.alloc (.cells (cells12 v) T))) (.cells (cells12 fun _ => 0) T)
  have h2 := heap_alloc_new (w.alloc (.cells (cells12 v) T)) (.cells (cells12 fun _ => 0) T)
  have hz : (w.alloc (.cells (cells12 v) T)).heap.size = w.heap.size + 1 := by simp
  refine ⟨bl_alloc (bl_alloc (Below.refl _ _) _) _, fun j u hu => ?_, by rw [hz] at h2; exact h2, by simp⟩
  obtain ⟨hj, rfl⟩ := cl12_at v j u hu
  have h3 := (hb.block w.heap.size (by omega)).trans h1
  rw [Nat.zero_add]
  exact (cell_of_row _ w.heap.size j _ _ _ h3).trans (cells12_at v hj)
end Go.Proofs.Ytbebdhjhlheboaa

namespace Go.Proofs.Ytbebdhjhlheboaa
open Go.Conc Go.ChangeShapes Go.WideShapes Go.ChangeAt Go.RowKit Go.Shelf

end Go.Proofs.Ytbebdhjhlheboaa

namespace Go.Proofs.Ytbebdhjhlheboaa
open Go.Conc Go.ChangeShapes Go.WideShapes Go.ChangeAt Go.RowKit Go.Shelf

theorem there_new (W : World) (cs : Array Value) (T : TypeId) (hs : cs.size = 12) : (W.alloc (.cells cs T)).there W.heap.size 0 12 := by
  have hh := heap_alloc_new W (.cells cs T)
  generalize W.alloc (.cells cs T) = W1 at *
  intro j hj
  refine ⟨?_, by simp [World.frozen?, hh]⟩
  rw [(cell_of_row _ W.heap.size (0 + j) cs _ _ hh), Array.getElem?_eq_getElem (by omega)]
  rfl
theorem there_kc {W W' : World} {g : Nat} (hb : Below W.heap.size W W') (h : W.there g 0 12) : W'.there g 0 12 := fun j hj => by
  obtain ⟨h1, h2⟩ := h j hj
  obtain ⟨u, hu⟩ := Option.isSome_iff_exists.1 h1
  have hlt : g < W.heap.size := by
    rcases Nat.lt_or_ge g W.heap.size with h | h
    · exact h
    · simp [World.cell?, Array.getElem?_eq_none h] at hu
  have e := hb.block g hlt
  exact ⟨by rw [kc hb hu]; rfl, by rw [World.frozen?_of_block (a := ⟨g, 0 + j, none⟩) e]; exact h2⟩
theorem bl_setCells {a w : World} (h : Below a.heap.size a w) {g : Nat} (hg : a.heap.size ≤ g) (vs : List Value) (o : Nat) : Below a.heap.size a (w.setCells g o vs) := by
  have t := grown_setCells g vs o w
  exact ⟨t.os.trans h.os, t.tape.trans h.tape, t.output.trans h.output, Nat.le_trans h.size t.size, fun k hk => (t.block k (Nat.lt_of_lt_of_le hk h.size) (fun e => by injection e with e; omega)).trans (h.block k hk)⟩
/-- What the variable of the answer holds behind the store. -/
theorem own_set12 {w : World} {g : Nat} {T : TypeId} (V : Nat → Int) (h : w.heap[g]? = some (.cells #[.int .i64 0, .int .i64 0, .int .i64 0, .int .i64 0, .int .i64 0, .int .i64 0, .int .i64 0, .int .i64 0, .int .i64 0, .int .i64 0, .int .i64 0, .int .i64 0] T (0, 0))) : OwnV (w.setCells g 0 (cl12 V)) g T 12 12 V ∧ w.there g 0 12 := by
  have ht : w.there g 0 (cl12 V).length := fun j hj => by
    have hj : j < 12 := hj
    refine ⟨?_, by simp [World.frozen?, h]⟩
    rw [(cell_of_row _ g (0 + j) _ _ _ h), Array.getElem?_eq_getElem (by simp; omega)]
    rfl
  obtain ⟨cs', e1, e2⟩ := shape_setCells g T (cl12 V) 0 w _ h
  have hr := World.rangeAt_setCells_same w g 0 (cl12 V) ht
  refine ⟨⟨cs', e1, by rw [e2]; exact Nat.le_refl _, fun i hi => ?_⟩, ht⟩
  have := hr i (.int .i64 (V i)) (by have := cells12_at V hi; rw [show cells12 V = (cl12 V).toArray from rfl, List.getElem?_toArray] at this; exact this)
  rw [Nat.zero_add] at this
  exact (cell_of_row _ g i cs' _ _ e1).symm.trans this
theorem cl12_one (V : Nat → Int) : (cl12 V).toArray.all (·.oneCell') = true := by simp [cl12, Value.oneCell']
end Go.Proofs.Ytbebdhjhlheboaa

namespace Go.Proofs.Ytbebdhjhlheboaa
open Go.ChangeShapes Go.WideShapes Go.ChangeAt Go.RowKit

/-- One partial assignment extends another. -/
def extI (v w : Nat → Int) : Prop := ∀ i, i < 12 → v i ≠ 0 → w i = v i
theorem extI.refl (v : Nat → Int) : extI v v := fun _ _ _ => rfl
theorem extI.trans {u v w : Nat → Int} (h : extI u v) (k : extI v w) : extI u w := fun i hi h0 => by
  have e := h i hi h0
  rw [k i hi (by rw [e]; exact h0), e]
theorem stV_ext {v w : Nat → Int} (h : extI v w) {z : Int} (hz : litB z = true) (h0 : stV v z ≠ 0) : stV w z = stV v z := by
  obtain ⟨a, b, c⟩ := litB_iff.1 hz
  unfold stV at *
  split at h0
  · rename_i hp
    rw [if_pos hp, if_pos hp]
    exact h _ (by omega) h0
  · rename_i hp
    rw [if_neg hp, if_neg hp, h _ (by omega) (by omega)]
theorem ext_asg {v : Nat → Int} {z : Int} (hz : litB z = true) (h0 : stV v z = 0) : extI v (asg v z) := fun i hi hv => by
  obtain ⟨a, b, c⟩ := litB_iff.1 hz
  unfold stV at h0
  unfold asg
  split at h0
  · rename_i hp
    rw [if_pos hp]
    by_cases e : i = (z - 1).toNat
    · subst e; exact absurd h0 hv
    · rw [if_neg e]
  · rename_i hp
    rw [if_neg hp]
    by_cases e : i = (-z - 1).toNat
    · subst e; exact absurd (by omega) hv
    · rw [if_neg e]
theorem ext_asgL {v : Nat → Int} {L : List Int} (h : frL v L) : extI v (asgL v L) := by
  induction L generalizing v with
  | nil => exact extI.refl v
  | cons z zs ih =>
    obtain ⟨a, b, c⟩ := frL_head h
    exact (ext_asg a b).trans (ih c)
theorem Runs.ends {p : Nat → Con} {m i : Nat} {v w : Nat → Int} {r : Int} (h : Runs p m i v w r) (hok : ∀ j, j < m → okC (p j)) : extI v w ∧ ((r = -1 ∧ ∀ j, j < m → fixC (p j) w) ∨ ∃ j, j < m ∧ r = (j : Int) ∧ slkC (p j) w < 0) := by
  induction h with
  | vio i v hi h => exact ⟨extI.refl v, .inr ⟨i, hi, rfl, h⟩⟩
  | step i v w r hi h hn ih => exact ⟨(ext_asgL (imp_fr (hok i hi) v)).trans ih.1, ih.2⟩
  | fin i v h => exact ⟨extI.refl v, .inl ⟨rfl, h⟩⟩
theorem nf_ext {v w : Nat → Int} (h : extI v w) {z : Int} (hz : litB z = true) (hw : nfP w z = true) : nfP v z = true := by
  unfold nfP at *
  rw [decide_eq_true_eq] at *
  by_cases e : stV v z = 0
  · omega
  · rw [← stV_ext h hz e]; exact hw
theorem sB_ext {c l : Nat → Int} {v w : Nat → Int} (h : extI v w) : ∀ n, (∀ k, k < n → litB (l k) = true ∧ 1 ≤ c k) → sB c l (nfP w) n ≤ sB c l (nfP v) n := by
  intro n
  induction n with
  | zero => intro _; exact Int.le_refl _
  | succ n ih =>
    intro hl
    have h1 := ih fun k hk => hl k (by omega)
    obtain ⟨h2, h3⟩ := hl n (by omega)
    cases hw : nfP w (l n) with
    | true => rw [sB_yes hw, sB_yes (nf_ext h h2 hw)]; omega
    | false =>
      rw [sB_no hw]
      cases hv : nfP v (l n) with
      | true => rw [sB_yes hv]; omega
      | false => rw [sB_no hv]; omega
/-- A term whose literal the extension makes false is lost. -/
theorem sB_lose {c l : Nat → Int} {v w : Nat → Int} (h : extI v w) {j : Nat} (hv : nfP v (l j) = true) (hw : nfP w (l j) = false) : ∀ n, j < n → (∀ k, k < n → litB (l k) = true ∧ 1 ≤ c k) → sB c l (nfP w) n ≤ sB c l (nfP v) n - c j := by
  intro n
  induction n with
  | zero => intro hj; omega
  | succ n ih =>
    intro hj hl
    by_cases e : j = n
    · subst e
      have h1 := sB_ext h j fun k hk => hl k (by omega)
      rw [sB_no hw, sB_yes hv]
      omega
    · have h1 := ih (by omega) fun k hk => hl k (by omega)
      obtain ⟨h2, h3⟩ := hl n (by omega)
      cases hw' : nfP w (l n) with
      | true => rw [sB_yes hw', sB_yes (nf_ext h h2 hw')]; omega
      | false =>
        rw [sB_no hw']
        cases hv' : nfP v (l n) with
        | true => rw [sB_yes hv']; omega
        | false => rw [sB_no hv']; omega
theorem ok_parts {q : Con} (hq : okC q) : ∀ k, k < q.n → litB (q.l k) = true ∧ 1 ≤ q.c k := fun k hk => ⟨litAt hq hk, (coef_of hq k hk).1⟩
theorem slk_ext {q : Con} (hq : okC q) {v w : Nat → Int} (h : extI v w) : slkC q w ≤ slkC q v := by
  have := sB_ext h q.n (ok_parts hq)
  unfold slkC slk
  omega
theorem stV_rng {x : Nat → Int} (hx : rng x) {z : Int} (hz : litB z = true) : -1 ≤ stV x z ∧ stV x z ≤ 1 := by
  obtain ⟨a, b, c⟩ := litB_iff.1 hz
  unfold stV
  split
  · exact hx _ (by omega)
  · have := hx (-z - 1).toNat (by omega)
    omega
theorem ext_to {v x : Nat → Int} {z : Int} (h : extI v x) (hz : litB z = true) (h1 : stV x z = 1) : extI (asg v z) x := fun i hi hv => by
  obtain ⟨a, b, c⟩ := litB_iff.1 hz
  unfold stV at h1
  unfold asg at hv ⊢
  split at h1
  · rename_i hp
    rw [if_pos hp] at hv ⊢
    by_cases e : i = (z - 1).toNat
    · rw [if_pos e, e]; exact h1
    · rw [if_neg e] at hv ⊢; exact h i hi hv
  · rename_i hp
    rw [if_neg hp] at hv ⊢
    by_cases e : i = (-z - 1).toNat
    · rw [if_pos e, e]; omega
    · rw [if_neg e] at hv ⊢; exact h i hi hv
theorem ext_toL {x : Nat → Int} : ∀ (L : List Int) (v : Nat → Int), extI v x → (∀ z ∈ L, litB z = true ∧ stV x z = 1) → extI (asgL v L) x
  | [], _, h, _ => h
  | z :: zs, v, h, hL => ext_toL zs (asg v z) (ext_to h (hL z (List.mem_cons_self)).1 (hL z (List.mem_cons_self)).2) fun y hy => hL y (List.mem_cons_of_mem _ hy)
/-- What a constraint implies, a fixed extension has. -/
theorem imp_in {q : Con} (hq : okC q) {v x : Nat → Int} (h : extI v x) (hx : rng x) (hf : fixC q x) {z : Int} (hz : z ∈ impC q v) : litB z = true ∧ stV x z = 1 := by
  obtain ⟨j, hj, rfl, h2, h3⟩ := imL_mem.1 hz
  have hl := litAt hq hj
  refine ⟨hl, ?_⟩
  obtain ⟨a, b⟩ := stV_rng hx hl
  obtain ⟨f1, f2⟩ := hf
  by_cases e0 : stV x (q.l j) = 0
  · have := slk_ext hq h
    have hm : q.l j ∈ impC q x := imL_mem.2 ⟨j, hj, rfl, e0, by unfold slkC at *; omega⟩
    rw [f2] at hm
    cases hm
  · by_cases e1 : stV x (q.l j) < 0
    · have h4 := sB_lose h (c := q.c) (l := q.l) (j := j) (by unfold nfP; rw [h2]; rfl) (by unfold nfP; rw [decide_eq_false_iff_not]; omega) q.n hj (ok_parts hq)
      unfold slkC slk at *
      omega
    · omega
/-- A fixed extension bounds the run: no constraint is violated on the way. -/
theorem Runs.under {p : Nat → Con} {m i : Nat} {v w x : Nat → Int} {r : Int} (h : Runs p m i v w r) (hok : ∀ j, j < m → okC (p j)) (hx : rng x) (hf : ∀ j, j < m → fixC (p j) x) : extI v x → extI w x ∧ r = -1 := by
  induction h with
  | vio i v hi h =>
    intro he
    have := slk_ext (hok i hi) he
    have := (hf i hi).1
    omega
  | step i v w r hi h hn ih =>
    intro he
    exact ih (ext_toL _ _ he fun z hz => imp_in (hok i hi) he hx (hf i hi) hz)
  | fin i v h => intro he; exact ⟨he, rfl⟩
/-- A run from where another has ended. -/
theorem Runs.again {p : Nat → Con} {m : Nat} {v w w' : Nat → Int} {r r' : Int} (h : Runs p m 0 v w r) (h' : Runs p m 0 w w' r') (hok : ∀ j, j < m → okC (p j)) : (0 ≤ r' ↔ 0 ≤ r) ∧ (r < 0 → w' = w) := by
  obtain ⟨e1, h1⟩ := h.ends hok
  obtain ⟨e2, h2⟩ := h'.ends hok
  rcases h1 with ⟨rfl, hf⟩ | ⟨j, hj, rfl, hs⟩
  · obtain ⟨a, b⟩ := h'.fixed hf
    exact ⟨by omega, fun _ => a⟩
  · rcases h2 with ⟨rfl, hf⟩ | ⟨j', hj', rfl, hs'⟩
    · have := slk_ext (hok j hj) e2
      exact absurd (show slkC (p j) w' < 0 by omega) (hf j hj).1
    · exact ⟨by omega, fun h => by omega⟩
theorem asg_tail {v : Nat → Int} {z : Int} (hz : litB z = true) (h : ∀ i, 12 ≤ i → v i = 0) : ∀ i, 12 ≤ i → asg v z i = 0 := fun i hi => by
  obtain ⟨a, b, c⟩ := litB_iff.1 hz
  unfold asg
  split
  · rw [if_neg (by omega)]; exact h i hi
  · rw [if_neg (by omega)]; exact h i hi
theorem asgL_tail : ∀ (L : List Int) (v : Nat → Int), (∀ z ∈ L, litB z = true) → (∀ i, 12 ≤ i → v i = 0) → ∀ i, 12 ≤ i → asgL v L i = 0
  | [], _, _, h => h
  | z :: zs, v, hL, h => asgL_tail zs (asg v z) (fun y hy => hL y (List.mem_cons_of_mem _ hy)) (asg_tail (hL z (List.mem_cons_self)) h)
theorem Runs.tail {p : Nat → Con} {m i : Nat} {v w : Nat → Int} {r : Int} (h : Runs p m i v w r) (hok : ∀ j, j < m → okC (p j)) : (∀ i, 12 ≤ i → v i = 0) → ∀ i, 12 ≤ i → w i = 0 := by
  induction h with
  | vio i v hi h => exact id
  | step i v w r hi h hn ih => exact fun h0 => ih (asgL_tail _ _ (fun z hz => ((imp_fr (hok i hi) v).1 z hz).1) h0)
  | fin i v h => exact id
end Go.Proofs.Ytbebdhjhlheboaa

