/- A copy of twelve ints, one changed (no claim of its own). Conditions: as each theorem states. · Propagation as a relation between partial assignments, and its arithmetic (no claim of its own). Conditions: as each theorem states. · The model's propagation (no claim of its own). Conditions: as each theorem states. · The model's propagation: its loops (no claim of its own). Conditions: as each theorem states. · The model's Propagate (no claim of its own). Conditions: as each theorem states. · The memory of a propagator (no claim of its own). Conditions: as each theorem states. · The program's (*propagator).add (no claim of its own). Conditions: as each theorem states. · The program's newPropagator (no claim of its own). Conditions: as each theorem states. · The memory of a propagation (no claim of its own). Conditions: as each theorem states. · The program's (*propagation).makeTrue (no claim of its own). Conditions: as each theorem states. · Making a literal true keeps the slacks (no claim of its own). Conditions: as each theorem states. · The rounds of a propagation (no claim of its own). Conditions: as each theorem states. · try · How a propagation is built (no claim of its own). Conditions: as each theorem states. · The program's propagate (no claim of its own). Conditions: as each theorem states. · The program's propagate (no claim of its own). Conditions: as each theorem states. · The program's Propagate (no claim of its own). Conditions: as each theorem states. · What propagation comes to: closure, soundness (no claim of its own). Conditions: as each theorem states. -/
import Derived.Test.YtckaeaclclhapaaSlkB
import Derived.Test.YtckaeaclclhapaaIntR
import Derived.Laws.OwnMore
import Derived.Maps.AppendAt
import Derived.Test.YtckaeaclclhapaaImpA
import Derived.Test.YtckaeaclclhapaaProA
import Derived.Test.YtckaeaclclhapaaProB
import Derived.Test.YtckaeaclclhapaaSumD
import Derived.Laws.Tables
import Derived.Deep.AppendLies
import Derived.Deep.RegionHeld3
import Derived.Deep.RegionLaw
import Derived.Deep.Cut
import Derived.Deep.DeepCutAuto
import Derived.Deep.CutBlock
import Derived.Deep.RegionHeldLaw
import Derived.StillTailTactics
import Derived.Test.YtckaeaclclhapaaEvaA
import Derived.Test.YtckaeaclclhapaaChnA
import Derived.Conc.Token
import Derived.Test.YtckaeaclclhapaaImpB
import Derived.Conc.SmallLaws
import Derived.Deep.MidRow
import Derived.Test.YtckaeaclclhapaaExtC
namespace Go.Proofs.Ytckaeaclclhapaa
open Go.ChangeShapes Go.WideShapes Go.ChangeAt Go.RowKit Go.Shelf

/-- Twelve ints that came in, appended to a row of the call's own that is empty. -/
theorem run_cp12 (W : World) {B0 : Nat} {v : Value} {cap b off : Nat} {vv : Nat → Int} (hown : W.ownsRow B0 3 1 v 0 []) (hlt : ∀ j, v.ownBlock = some j → B0 ≤ j) (hc : ∀ i, i < 12 → W.cell? ⟨b, off + i, none⟩ = some (.int .i64 (vv i))) (hB : B0 ≤ W.heap.size) :
    ∃ g cap' w', (Builtin.append_ #[38, 38] 38 #[v, .slice (some ⟨b, off, none⟩) 12 cap]).run Try.prog W = .ok (.slice (some ⟨g, 0, none⟩) 12 cap') w' ∧ B0 ≤ g ∧ OwnV w' g 3 12 12 vv ∧ Below B0 W w' := by
  obtain ⟨i0, hi, hz0, hz1, hz2⟩ := info_parts Try.infoInt
  obtain ⟨v', w', k1, k2, k3, _, _⟩ := run_append_own_at (P := Try.prog) W B0 38 38 3 i0 _ 1 8 Try.underlying38 hi hz0 hz1 hz2 rfl (by omega) v 0 _ hown ⟨b, off, none⟩ 12 cap (cl12 vv) rfl (fun j u hu => by
      obtain ⟨hj, rfl⟩ := cl12_at vv j u hu
      rw [Go.WideShapes.add_plain]
      exact hc j hj) (fun u hu => by
      obtain ⟨j, hj, e⟩ := List.mem_iff_getElem.1 hu
      have := cl12_at vv j u (by rw [List.getElem?_eq_getElem hj, e])
      rw [this.2]
      rfl) (by unfold maxLen; omega) (by omega) hB
  rcases k2.2 with ⟨_, h⟩ | ⟨g, cap', cur, e1, hg, hh, hnc, _, hsz, htk⟩
  · omega
  · simp only [Nat.zero_add] at e1
    refine ⟨g, cap', w', by rw [k1, e1], hg, ⟨cur, hh, by omega, fun i hi => ?_⟩, (Below.refl B0 W).grown k3 hB hlt⟩
    have h2 := cells12_at vv hi
    have h3 : ([] ++ cl12 vv)[i]? = some (.int .i64 (vv i)) := by
      rw [List.nil_append, ← h2, show cells12 vv = (cl12 vv).toArray from rfl, List.getElem?_toArray]
    rw [← htk, List.getElem?_take_of_lt (by omega)] at h3
    simpa using h3
theorem wp_cp12 {o : Oper} {a : Act} {K : Act → World → Prop} {Q : Exit → Act → World → Prop} {W : World} (s x : Operand)
    (ho : o.op = .call { callee := .builtin .append, args := #[s, x], argTypes := #[38, 38] }) (hty : o.type = 38)
    {B0 : Nat} {v : Value} {cap b off : Nat} {vv : Nat → Int} (hs : a.eval s = v) (hx : a.eval x = .slice (some ⟨b, off, none⟩) 12 cap)
    (hown : W.ownsRow B0 3 1 v 0 []) (hlt : ∀ j, v.ownBlock = some j → B0 ≤ j) (hc : ∀ i, i < 12 → W.cell? ⟨b, off + i, none⟩ = some (.int .i64 (vv i))) (hB : B0 ≤ W.heap.size)
    (h : ∀ g cap' w', B0 ≤ g → OwnV w' g 3 12 12 vv → Below B0 W w' → K (a.put o.dst (.slice (some ⟨g, 0, none⟩) 12 cap')) w') :
    o.wp Try.prog a W K Q := by
  obtain ⟨g, cap', w', hrun, h1, h2, h3⟩ := run_cp12 W hown hlt hc hB (cap := cap)
  unfold Oper.wp execOp
  simp only [ho, hty, resolve, invoke, builtin, Sem.run_bind, Sem.run_pure, Result.andThen_ok, List.map_toArray, List.map_cons, List.map_nil, hs, hx, hrun]
  exact h g cap' w' h1 h2 h3
theorem OwnV.setI {w : World} {G n : Nat} {T : TypeId} {v : Nat → Int} (h : OwnV w G T n n v) {j : Nat} (hj : j < n) (z : Int) : OwnV (w.setCell ⟨G, j, none⟩ (.int .i64 z)) G T n n (fun i => if i = j then z else v i) := by
  obtain ⟨cs, hh, h1, h2⟩ := h
  refine ⟨cs.setIfInBounds j (.int .i64 z), by simp [World.setCell, Array.getElem?_modify, hh], by simp [h1], fun i hi => ?_⟩
  rw [Array.getElem?_setIfInBounds]
  by_cases e : i = j
  · subst e
    rw [if_pos rfl, if_pos (by omega)]
    show some (Value.int .i64 z) = some (.int .i64 (if i = i then z else v i))
    rw [if_pos rfl]
  · rw [if_neg (fun e' => e e'.symm)]
    show cs[i]? = some (.int .i64 (if i = j then z else v i))
    rw [if_neg e]
    exact h2 i hi
theorem OwnV.eqI {w : World} {G n : Nat} {T : TypeId} {v v' : Nat → Int} (h : OwnV w G T n n v) (he : ∀ i, i < n → v i = v' i) : OwnV w G T n n v' := by
  obtain ⟨cs, hh, h1, h2⟩ := h
  exact ⟨cs, hh, h1, fun i hi => by rw [← he i hi]; exact h2 i hi⟩
theorem rowI_new (W : World) : (W.alloc (.cells #[] 3)).ownsRow W.heap.size 3 1 (.slice (some ⟨W.heap.size, 0, none⟩) 0 0) 0 [] := by
  simpa using World.ownsRow_lit W #[] 0 (e := 3) (size := 1) (Nat.le_refl _) (by unfold maxLen; omega) (by simp)
end Go.Proofs.Ytckaeaclclhapaa

namespace Go.Proofs.Ytckaeaclclhapaa
open Go.ChangeShapes Go.WideShapes Go.ChangeAt Go.RowKit

/-- The values once a literal has been made true. -/
def asg (v : Nat → Int) (z : Int) (i : Nat) : Int := if 0 < z then (if i = (z - 1).toNat then 1 else v i) else (if i = (-z - 1).toNat then -1 else v i)
def asgL (v : Nat → Int) : List Int → (Nat → Int)
  | [] => v
  | z :: zs => asgL (asg v z) zs
theorem asgL_snoc (v : Nat → Int) (xs : List Int) (z : Int) : asgL v (xs ++ [z]) = asg (asgL v xs) z := by
  induction xs generalizing v with
  | nil => rfl
  | cons x xs ih => exact ih (asg v x)
def slkC (q : Con) (v : Nat → Int) : Int := slk q.n q.c q.l q.bd v
def impC (q : Con) (v : Nat → Int) : List Int := imL q.c q.l v (slkC q v) q.n
def okC (q : Con) : Prop := validB q.n q.c q.l q.bd = true
def rng (v : Nat → Int) : Prop := ∀ i, i < 12 → -1 ≤ v i ∧ v i ≤ 1
theorem asg_rng {v : Nat → Int} (h : rng v) (z : Int) : rng (asg v z) := fun i hi => by
  have := h i hi
  unfold asg
  split <;> split <;> omega
theorem asgL_rng {v : Nat → Int} (h : rng v) (zs : List Int) : rng (asgL v zs) := by
  induction zs generalizing v with
  | nil => exact h
  | cons z zs ih => exact ih (asg_rng h z)

theorem stV_self {v : Nat → Int} {z : Int} (hz : litB z = true) : stV (asg v z) z = 1 := by
  obtain ⟨h0, _, _⟩ := litB_iff.1 hz
  unfold stV asg
  by_cases h : 0 < z
  · rw [if_pos h, if_pos h, if_pos rfl]
  · rw [if_neg h, if_neg h, if_pos rfl]
    rfl
theorem stV_neg {v : Nat → Int} {z : Int} (hz : litB z = true) : stV v (-z) = -stV v z := by
  obtain ⟨h0, _, _⟩ := litB_iff.1 hz
  unfold stV
  by_cases h : 0 < z
  · rw [if_pos h, if_neg (by omega), Int.neg_neg]
  · rw [if_neg h, if_pos (by omega), Int.neg_neg]
theorem litB_ng {z : Int} (hz : litB z = true) : litB (-z) = true := by
  obtain ⟨h0, h1, h2⟩ := litB_iff.1 hz
  exact litB_iff.2 ⟨by omega, by omega, by omega⟩
theorem stV_off {v : Nat → Int} {z y : Int} (hz : litB z = true) (hy : litB y = true) (h1 : y ≠ z) (h2 : y ≠ -z) : stV (asg v z) y = stV v y := by
  obtain ⟨z0, z1, z2⟩ := litB_iff.1 hz
  obtain ⟨y0, y1, y2⟩ := litB_iff.1 hy
  unfold stV asg
  by_cases hp : 0 < z
  · by_cases hq : 0 < y
    · rw [if_pos hq, if_pos hq, if_pos hp, if_neg (by omega)]
    · rw [if_neg hq, if_neg hq, if_pos hp, if_neg (by omega)]
  · by_cases hq : 0 < y
    · rw [if_pos hq, if_pos hq, if_neg hp, if_neg (by omega)]
    · rw [if_neg hq, if_neg hq, if_neg hp, if_neg (by omega)]

/-- The coefficients of a literal among the first k terms. -/
def cof (c l : Nat → Int) (z : Int) : Nat → Int
  | 0 => 0
  | k + 1 => cof c l z k + (if l k = z then c k else 0)
theorem cof_none {c l : Nat → Int} {z : Int} {n : Nat} (h : ∀ k, k < n → l k ≠ z) : cof c l z n = 0 := by
  induction n with
  | zero => rfl
  | succ n ih =>
    unfold cof
    rw [ih fun k hk => h k (by omega), if_neg (h n (by omega))]
    rfl
theorem cof_bd {c l : Nat → Int} {z : Int} {n : Nat} (h : ∀ k, k < n → 1 ≤ c k ∧ c k ≤ 1000) : 0 ≤ cof c l z n ∧ cof c l z n ≤ 1000 * (n : Int) := by
  induction n with
  | zero => exact ⟨Int.le_refl _, Int.le_refl _⟩
  | succ n ih =>
    have h1 := ih fun k hk => h k (by omega)
    have h2 := h n (by omega)
    unfold cof
    split <;> omega
theorem sB_asg {c l v : Nat → Int} {z : Int} (hz : litB z = true) (hv : stV v z = 0) : ∀ n, (∀ k, k < n → litB (l k) = true) → sB c l (nfP (asg v z)) n = sB c l (nfP v) n - cof c l (-z) n := by
  intro n
  obtain ⟨z0, _, _⟩ := litB_iff.1 hz
  induction n with
  | zero => intro _; rfl
  | succ n ih =>
    intro hl
    have h1 := ih fun k hk => hl k (by omega)
    have hn := hl n (by omega)
    have hc : cof c l (-z) (n + 1) = cof c l (-z) n + (if l n = -z then c n else 0) := rfl
    rw [hc]
    by_cases e1 : l n = -z
    · have p1 : nfP v (l n) = true := by unfold nfP; rw [e1, stV_neg hz, hv]; rfl
      have p2 : nfP (asg v z) (l n) = false := by unfold nfP; rw [e1, stV_neg hz, stV_self hz]; rfl
      rw [sB_yes p1, sB_no p2, if_pos e1]
      omega
    · rw [if_neg e1]
      by_cases e2 : l n = z
      · have p1 : nfP v (l n) = true := by unfold nfP; rw [e2, hv]; rfl
        have p2 : nfP (asg v z) (l n) = true := by unfold nfP; rw [e2, stV_self hz]; rfl
        rw [sB_yes p1, sB_yes p2]
        omega
      · have p : nfP (asg v z) (l n) = nfP v (l n) := by unfold nfP; rw [stV_off hz hn e2 e1]
        cases hp : nfP v (l n) with
        | true => rw [sB_yes (p.trans hp), sB_yes hp]; omega
        | false => rw [sB_no (p.trans hp), sB_no hp]; omega
theorem slk_asg {q : Con} (hq : okC q) {v : Nat → Int} {z : Int} (hz : litB z = true) (hv : stV v z = 0) : slkC q (asg v z) = slkC q v - cof q.c q.l (-z) q.n := by
  unfold slkC slk
  rw [sB_asg (c := q.c) (l := q.l) hz hv q.n fun k hk => litAt (l := q.l) hq hk]
  omega

theorem imL_mem {c l v : Nat → Int} {s : Int} {n : Nat} {y : Int} : y ∈ imL c l v s n ↔ ∃ j, j < n ∧ l j = y ∧ stV v y = 0 ∧ s < c j := by
  induction n with
  | zero => exact ⟨fun h => by simp [imL] at h, fun ⟨j, hj, _⟩ => by omega⟩
  | succ n ih =>
    by_cases h : stV v (l n) = 0 ∧ s < c n
    · rw [imL_yes h.1 h.2, List.mem_append, ih, List.mem_singleton]
      constructor
      · rintro (⟨j, hj, hr⟩ | rfl)
        · exact ⟨j, by omega, hr⟩
        · exact ⟨n, by omega, rfl, h.1, h.2⟩
      · rintro ⟨j, hj, h1, h2, h3⟩
        by_cases e : j = n
        · subst e; exact .inr h1.symm
        · exact .inl ⟨j, by omega, h1, h2, h3⟩
    · rw [imL_no h, ih]
      constructor
      · rintro ⟨j, hj, hr⟩
        exact ⟨j, by omega, hr⟩
      · rintro ⟨j, hj, h1, h2, h3⟩
        by_cases e : j = n
        · subst e; subst h1; exact absurd ⟨h2, h3⟩ h
        · exact ⟨j, by omega, h1, h2, h3⟩
/-- Variables apart. -/
def apartL (a b : Int) : Prop := a ≠ b ∧ a ≠ -b
theorem vt_apart {n : Nat} {c l : Nat → Int} {bd : Int} (h : validB n c l bd = true) {i j : Nat} (hi : i < n) (hj : j < n) (hij : i ≠ j) : apartL (l i) (l j) := by
  have hvt : vtB c l n = true := by
    unfold validB at h
    rw [Bool.and_eq_true] at h
    exact h.1
  have key : ∀ a b, a < b → b < n → ab (l a) < ab (l b) := by
    intro a b hab
    induction b with
    | zero => omega
    | succ b ih =>
      intro hb
      have h1 : ab (l b) < ab (l (b + 1)) := (okAt_iff.1 (vtB_at hvt hb)).2.2.2
      by_cases e : a = b
      · subst e; exact h1
      · exact Int.lt_trans (ih (by omega) (by omega)) h1
  have hne : ab (l i) ≠ ab (l j) := by
    rcases Nat.lt_or_gt_of_ne hij with h | h
    · have := key i j h hj; omega
    · have := key j i h hi; omega
  constructor
  · intro e; exact hne (by rw [e])
  · intro e
    apply hne
    rw [e]
    unfold ab
    split <;> split <;> omega
theorem imL_apart {n : Nat} {c l v : Nat → Int} {bd s : Int} (h : validB n c l bd = true) : ∀ k, k ≤ n → (imL c l v s k).Pairwise (fun a b => apartL b a) := by
  intro k
  induction k with
  | zero => intro _; exact List.Pairwise.nil
  | succ k ih =>
    intro hk
    by_cases hc : stV v (l k) = 0 ∧ s < c k
    · rw [imL_yes hc.1 hc.2, List.pairwise_append]
      refine ⟨ih (by omega), List.pairwise_singleton _ _, fun a ha b hb => ?_⟩
      rw [List.mem_singleton] at hb
      subst hb
      obtain ⟨j, hj, rfl, _⟩ := imL_mem.1 ha
      exact vt_apart h (by omega) (by omega) (by omega)
    · rw [imL_no hc]
      exact ih (by omega)
/-- A list of literals that may be made true one after another: without values, of different variables. -/
def frL (v : Nat → Int) (L : List Int) : Prop := (∀ y ∈ L, litB y = true ∧ stV v y = 0) ∧ L.Pairwise (fun a b => apartL b a)
theorem frL_head {v : Nat → Int} {z : Int} {zs : List Int} (h : frL v (z :: zs)) : litB z = true ∧ stV v z = 0 ∧ frL (asg v z) zs := by
  obtain ⟨h1, h2⟩ := h
  obtain ⟨a, b⟩ := h1 z (List.mem_cons_self)
  rw [List.pairwise_cons] at h2
  refine ⟨a, b, fun y hy => ?_, h2.2⟩
  obtain ⟨c, d⟩ := h1 y (List.mem_cons_of_mem _ hy)
  have := h2.1 y hy
  exact ⟨c, by rw [stV_off a c this.1 this.2]; exact d⟩
theorem imp_fr {q : Con} (hq : okC q) (v : Nat → Int) : frL v (impC q v) :=
  ⟨fun y hy => by
    obtain ⟨j, hj, rfl, h2, _⟩ := imL_mem.1 hy
    exact ⟨litAt hq hj, h2⟩, imL_apart hq _ (Nat.le_refl _)⟩
/-- How many variables have no value. -/
def una (v : Nat → Int) : Nat → Nat
  | 0 => 0
  | k + 1 => una v k + (if v k = 0 then 1 else 0)
theorem una_asg {v : Nat → Int} {z : Int} (hz : litB z = true) (hv : stV v z = 0) : ∀ k, k ≤ 12 → una (asg v z) k + (if (if 0 < z then z else -z) ≤ (k : Int) then 1 else 0) = una v k := by
  obtain ⟨h0, h1, h2⟩ := litB_iff.1 hz
  intro k
  induction k with
  | zero =>
    intro _
    rw [if_neg (by split <;> omega)]
    rfl
  | succ k ih =>
    intro hk
    have hi := ih (by omega)
    show una (asg v z) k + (if asg v z k = 0 then 1 else 0) + _ = una v k + (if v k = 0 then 1 else 0)
    unfold stV at hv
    by_cases hp : 0 < z
    · rw [if_pos hp] at hv hi ⊢
      by_cases e : k = (z - 1).toNat
      · have ea : asg v z k = 1 := by unfold asg; rw [if_pos hp, if_pos e]
        have ev : v k = 0 := by rw [e]; exact hv
        rw [ea, ev]
        rw [if_neg (by omega)] at hi
        rw [if_neg (by omega), if_pos (by omega), if_pos rfl]
        omega
      · have ea : asg v z k = v k := by unfold asg; rw [if_pos hp, if_neg e]
        rw [ea]
        by_cases hle : z ≤ (k : Int)
        · rw [if_pos hle] at hi
          rw [if_pos (show z ≤ ((k + 1 : Nat) : Int) by omega)]
          omega
        · rw [if_neg hle] at hi
          rw [if_neg (show ¬ z ≤ ((k + 1 : Nat) : Int) by omega)]
          omega
    · rw [if_neg hp] at hv hi ⊢
      by_cases e : k = (-z - 1).toNat
      · have ea : asg v z k = -1 := by unfold asg; rw [if_neg hp, if_pos e]
        have ev : v k = 0 := by rw [e]; omega
        rw [ea, ev]
        rw [if_neg (by omega)] at hi
        rw [if_neg (by omega), if_pos (by omega), if_pos rfl]
        omega
      · have ea : asg v z k = v k := by unfold asg; rw [if_neg hp, if_neg e]
        rw [ea]
        by_cases hle : -z ≤ (k : Int)
        · rw [if_pos hle] at hi
          rw [if_pos (show -z ≤ ((k + 1 : Nat) : Int) by omega)]
          omega
        · rw [if_neg hle] at hi
          rw [if_neg (show ¬ -z ≤ ((k + 1 : Nat) : Int) by omega)]
          omega
theorem una_one {v : Nat → Int} {z : Int} (hz : litB z = true) (hv : stV v z = 0) : una (asg v z) 12 + 1 = una v 12 := by
  obtain ⟨h0, h1, h2⟩ := litB_iff.1 hz
  have := una_asg hz hv 12 (Nat.le_refl _)
  rwa [if_pos (by split <;> omega)] at this
theorem una_list {v : Nat → Int} {L : List Int} (h : frL v L) : una (asgL v L) 12 + L.length = una v 12 := by
  induction L generalizing v with
  | nil => rfl
  | cons z zs ih =>
    obtain ⟨h1, h2, h3⟩ := frL_head h
    have := ih h3
    have := una_one h1 h2
    show una (asgL (asg v z) zs) 12 + (zs.length + 1) = _
    omega
theorem una_le (v : Nat → Int) (k : Nat) : una v k ≤ k := by
  induction k with
  | zero => exact Nat.le_refl _
  | succ k ih => unfold una; split <;> omega

/-- Making the literals that a constraint implies true leaves its slack as it is, and nothing more to imply. -/
theorem slk_list {q : Con} (hq : okC q) {v : Nat → Int} {L : List Int} (h : frL v L) (hL : ∀ z ∈ L, ∀ k, k < q.n → q.l k ≠ -z) : slkC q (asgL v L) = slkC q v := by
  induction L generalizing v with
  | nil => rfl
  | cons z zs ih =>
    obtain ⟨h1, h2, h3⟩ := frL_head h
    show slkC q (asgL (asg v z) zs) = _
    rw [ih h3 fun y hy => hL y (List.mem_cons_of_mem _ hy), slk_asg hq h1 h2, cof_none (hL z List.mem_cons_self)]
    omega
theorem stV_keep {v : Nat → Int} {z y : Int} (hz : litB z = true) (hv : stV v z = 0) (hy : litB y = true) (h : stV (asg v z) y = 0) : stV v y = 0 ∧ y ≠ z := by
  by_cases e1 : y = z
  · subst e1; rw [stV_self hz] at h; omega
  · by_cases e2 : y = -z
    · rw [e2, stV_neg hz, stV_self hz] at h; omega
    · rw [stV_off hz hy e1 e2] at h
      exact ⟨h, e1⟩
theorem stV_keepL {v : Nat → Int} {L : List Int} (hf : frL v L) {y : Int} (hy : litB y = true) (h : stV (asgL v L) y = 0) : stV v y = 0 ∧ y ∉ L := by
  induction L generalizing v with
  | nil => exact ⟨h, by simp⟩
  | cons z zs ih =>
    obtain ⟨h1, h2, h3⟩ := frL_head hf
    obtain ⟨a, b⟩ := ih h3 h
    obtain ⟨c, d⟩ := stV_keep h1 h2 hy a
    exact ⟨c, by rw [List.mem_cons]; rintro (e | e); exact d e; exact b e⟩
def fixC (q : Con) (v : Nat → Int) : Prop := ¬ slkC q v < 0 ∧ impC q v = []
theorem fix_step {q : Con} (hq : okC q) {v : Nat → Int} (h : ¬ slkC q v < 0) : fixC q (asgL v (impC q v)) := by
  have hf := imp_fr hq v
  have hs : slkC q (asgL v (impC q v)) = slkC q v := slk_list hq hf fun z hz k hk e => by
    obtain ⟨j, hj, rfl, _⟩ := imL_mem.1 hz
    obtain ⟨l0, _, _⟩ := litB_iff.1 (litAt hq hj)
    by_cases ejk : k = j
    · subst ejk; omega
    · exact (vt_apart hq hk hj ejk).2 e
  refine ⟨by rw [hs]; exact h, ?_⟩
  rw [List.eq_nil_iff_forall_not_mem]
  intro y hy
  obtain ⟨j, hj, rfl, h2, h3⟩ := imL_mem.1 hy
  obtain ⟨a, b⟩ := stV_keepL hf (litAt hq hj) h2
  exact b (imL_mem.2 ⟨j, hj, rfl, a, by rw [← hs]; exact h3⟩)

/-! What propagation comes to. -/
def nxt (m i : Nat) : Nat := if i + 1 = m then 0 else i + 1
inductive Runs (p : Nat → Con) (m : Nat) : Nat → (Nat → Int) → (Nat → Int) → Int → Prop
  | vio (i : Nat) (v : Nat → Int) (hi : i < m) (h : slkC (p i) v < 0) : Runs p m i v v (i : Int)
  | step (i : Nat) (v w : Nat → Int) (r : Int) (hi : i < m) (h : ¬ slkC (p i) v < 0) (hn : Runs p m (nxt m i) (asgL v (impC (p i) v)) w r) : Runs p m i v w r
  | fin (i : Nat) (v : Nat → Int) (h : ∀ j, j < m → fixC (p j) v) : Runs p m i v v (-1)
theorem Runs.fixed {p : Nat → Con} {m i : Nat} {v w : Nat → Int} {r : Int} (h : Runs p m i v w r) : (∀ j, j < m → fixC (p j) v) → w = v ∧ r = -1 := by
  induction h with
  | vio i v hi h => intro hf; exact absurd h (hf i hi).1
  | step i v w r hi h hn ih =>
    intro hf
    have e : asgL v (impC (p i) v) = v := by rw [(hf i hi).2]; rfl
    rw [e] at ih
    exact ih hf
  | fin i v h => intro _; exact ⟨rfl, rfl⟩
theorem Runs.det {p : Nat → Con} {m i : Nat} {v w : Nat → Int} {r : Int} (h : Runs p m i v w r) : ∀ w' r', Runs p m i v w' r' → w = w' ∧ r = r' := by
  induction h with
  | vio i v hi h =>
    intro w' r' h2
    cases h2 with
    | vio => exact ⟨rfl, rfl⟩
    | step _ _ _ _ _ h' => exact absurd h h'
    | fin _ _ hf => exact absurd h (hf i hi).1
  | step i v w r hi h hn ih =>
    intro w' r' h2
    cases h2 with
    | vio _ _ _ h' => exact absurd h' h
    | step _ _ _ _ _ _ hn' => exact ih _ _ hn'
    | fin _ _ hf => exact Runs.fixed (.step i v w r hi h hn) hf
  | fin i v hf =>
    intro w' r' h2
    obtain ⟨a, b⟩ := Runs.fixed h2 hf
    exact ⟨a.symm, b.symm⟩
end Go.Proofs.Ytckaeaclclhapaa

namespace Go.Proofs.Ytckaeaclclhapaa
open Go.ChangeShapes Go.WideShapes Go.ChangeAt Go.RowKit Go.Shelf

theorem asg_pos {v : Nat → Int} {i : Nat} : asg v ((i : Int) + 1) = fun j => if j = i then 1 else v j := by
  funext j
  unfold asg
  rw [if_pos (by omega)]
  have : ((i : Int) + 1 - 1).toNat = i := by omega
  rw [this]
theorem asg_neg {v : Nat → Int} {i : Nat} : asg v (-((i : Int) + 1)) = fun j => if j = i then -1 else v j := by
  funext j
  unfold asg
  rw [if_neg (by omega)]
  have : (- -((i : Int) + 1) - 1).toNat = i := by omega
  rw [this]

theorem grown_set (w : World) (G i : Nat) (u : Value) : w.grownBy (w.setCell ⟨G, i, none⟩ u) (some G) :=
  ⟨rfl, rfl, rfl, by simp [World.setCell], fun k _ hne => Below.heap_setCell w ⟨G, i, none⟩ u k (fun e => hne (by rw [e]))⟩
theorem grown_trans {w w1 w2 : World} {R : Option Nat} (h : w.grownBy w1 R) (h' : w1.grownBy w2 R) : w.grownBy w2 R :=
  ⟨h'.os.trans h.os, h'.tape.trans h.tape, h'.output.trans h.output, Nat.le_trans h.size h'.size, fun k hk hne => (h'.block k (Nat.lt_of_lt_of_le hk h.size) hne).trans (h.block k hk hne)⟩
theorem grown_below {G : Nat} {w w1 : World} (h : w.grownBy w1 (some G)) (hG : G ≤ w.heap.size) : Below G w w1 := (Below.refl G w).grown h hG fun k e => by cases e; exact Nat.le_refl _
theorem below_grown {G : Nat} {w w1 : World} (h : Below w.heap.size w w1) : w.grownBy w1 (some G) := ⟨h.os, h.tape, h.output, h.size, fun k hk _ => h.block k hk⟩

end Go.Proofs.Ytckaeaclclhapaa

namespace Go.Proofs.Ytckaeaclclhapaa
open Go.ChangeShapes Go.WideShapes Go.ChangeAt Go.RowKit Go.Shelf

/-- The ints that a block holds. -/
def valW (w : World) (G : Nat) (i : Nat) : Int := match w.cell? ⟨G, i, none⟩ with
  | some (.int _ z) => z
  | _ => 0
theorem una_congr {v v' : Nat → Int} {k : Nat} (h : ∀ i, i < k → v i = v' i) : una v k = una v' k := by
  induction k with
  | zero => rfl
  | succ k ih => unfold una; rw [ih fun i hi => h i (by omega), h k (by omega)]
theorem valW_own {w : World} {G : Nat} {v : Nat → Int} (h : OwnV w G 3 12 12 v) : una (valW w G) 12 = una v 12 := una_congr fun i hi => by
  obtain ⟨cs, hh, h1, h2⟩ := h
  have hc := (cell_of_row w G i cs _ _ hh).trans (h2 i hi)
  unfold valW
  rw [hc]
/-- The index at which the next round goes on. -/
def nx (m j : Nat) : Nat := if j = m then 0 else j
theorem nx_succ {m j : Nat} : nx m (j + 1) = nxt m j := rfl
theorem nx_lt {m j : Nat} (h : j < m) : nx m j = j := if_neg (by omega)
theorem gI_at {L : List Int} {k : Nat} (h : k < L.length) : gI L k = L[k] := by
  unfold gI
  rw [List.getD, List.getElem?_eq_getElem h]
  rfl
theorem frL_take {v : Nat → Int} {L : List Int} (h : frL v L) {k : Nat} (hk : k < L.length) : litB (gI L k) = true ∧ asgL v (L.take (k + 1)) = asg (asgL v (L.take k)) (gI L k) := by
  rw [gI_at hk]
  refine ⟨(h.1 _ (List.getElem_mem hk)).1, ?_⟩
  rw [List.take_succ_eq_append_getElem hk, asgL_snoc]

theorem fri_grown {w w' : World} {B n G : Nat} {T : TypeId} {A : Option Addr} {v : Nat → Int} (h : FrI w B T A n v) (hg : w.grownBy w' (some G)) (hG : G < B) : FrI w' B T A n v := by
  rcases h with h | ⟨H, e, hB, h⟩
  · exact .inl h
  · exact .inr ⟨H, e, hB, h.at_ (hg.block H h.lt (by intro e; cases e; omega))⟩
/-- What the inner loop over the constraints keeps: c says whether a literal has been made true since v0. -/
structure Scan (p : Nat → Con) (m : Nat) (v v0 : Nat → Int) (c : Bool) (vv : Nat → Int) (j : Nat) : Prop where
  runs : ∀ w' r, Runs p m (nx m j) vv w' r → Runs p m 0 v w' r
  same : c = false → una vv 12 = una v0 12 ∧ ∀ t, t < j → fixC (p t) vv
  less : c = true → una vv 12 < una v0 12
  rg : rng vv
theorem Scan.go {p : Nat → Con} {m : Nat} {v v0 vv : Nat → Int} {c : Bool} {j : Nat} (h : Scan p m v v0 c vv j) (hj : j < m) (hq : okC (p j)) (hs : ¬ slkC (p j) vv < 0) :
    Scan p m v v0 (c || decide (0 < (impC (p j) vv).length)) (asgL vv (impC (p j) vv)) (j + 1) := by
  have hf := imp_fr hq vv
  have hu := una_list hf
  have hfix := fix_step hq hs
  obtain ⟨h1, h2, h3, h4⟩ := h
  refine ⟨fun w' r hr => h1 w' r ?_, fun hc => ?_, fun hc => ?_, asgL_rng h4 _⟩
  · rw [nx_lt hj]
    exact .step j vv w' r hj hs hr
  · rw [Bool.or_eq_false_iff, decide_eq_false_iff_not] at hc
    have hl : impC (p j) vv = [] := List.eq_nil_of_length_eq_zero (by omega)
    rw [hl] at hfix ⊢
    obtain ⟨a, b⟩ := h2 hc.1
    refine ⟨a, fun t ht => ?_⟩
    by_cases e : t = j
    · subst e; exact hfix
    · exact b t (by omega)
  · cases c with
    | true => have := h3 rfl; omega
    | false =>
      have h5 := (h2 rfl).1
      rw [Bool.false_or, decide_eq_true_eq] at hc
      omega

theorem impC_eq {q : Con} {vv : Nat → Int} (hq : okC q) (hr : rng vv) (hs : ¬ slkC q vv < 0) : impL q.n q.c q.l q.bd 12 vv = impC q vv :=
  impL_yes (by unfold slkOk; rw [show validB q.n q.c q.l q.bd = true from hq, pvB_iff.2 ⟨rfl, hr⟩]; rfl) hs

end Go.Proofs.Ytckaeaclclhapaa

namespace Go.Proofs.Ytckaeaclclhapaa
open Go.ChangeShapes Go.WideShapes Go.ChangeAt Go.RowKit Go.Shelf

/-- What Propagate leaves. -/
def PgRes (w : World) (ok : Bool) (p : Nat → Con) (m : Nat) (v : Nat → Int) (e : Ending) (w' : World) : Prop :=
  ∃ n v' r A cap T, e = .returned (.tuple #[.slice A n cap, .int .i64 r, .bool ok]) ∧ FrI w' w.heap.size T A n v' ∧ Below w.heap.size w w' ∧ (ok = true → n = 12 ∧ rng v' ∧ Runs p m 0 v v' r) ∧ (ok = false → n = 0 ∧ r = -1)
theorem prob_ok {m : Nat} {p : Nat → Con} (h : probB m p = true) : m ≤ 400 ∧ ∀ i, i < m → okC (p i) := by
  unfold probB at h
  simp only [Bool.and_eq_true, decide_eq_true_eq] at h
  refine ⟨by omega, fun i hi => ?_⟩
  have key : ∀ n, allV p n = true → ∀ i, i < n → okC (p i) := by
    intro n
    induction n with
    | zero => intro _ i hi; omega
    | succ n ih =>
      intro ha i hi
      unfold allV at ha
      rw [Bool.and_eq_true] at ha
      by_cases e : i = n
      · subst e; exact ha.2
      · exact ih ha.1 i (by omega)
  exact key m (by simp_all) i hi

end Go.Proofs.Ytckaeaclclhapaa

namespace Go.Proofs.Ytckaeaclclhapaa
open Go.ChangeShapes Go.WideShapes Go.ChangeAt Go.RowKit Go.Shelf

/-- The block of a propagator: its list, the slacks of its first m constraints, its uses. -/
def PgAt (w : World) (B : Nat) (lv : Value) (m : Nat) (sl : Nat → Int) (uv : Nat → Value) : Prop :=
  ∃ cs, w.heap[B]? = some (.cells cs 90 (0, 0)) ∧ cs.size = 1426 ∧ cs[0]? = some lv ∧ (∀ i, i < m → cs[1 + i]? = some (.int .i64 (sl i))) ∧ (∀ j, j < 25 → cs[1401 + j]? = some (uv j)) ∧ ∀ i, i < 1400 → ∃ z, cs[1 + i]? = some z ∧ z.oneCell' = true
section
variable {w w' : World} {B m : Nat} {lv : Value} {sl : Nat → Int} {uv : Nat → Value}
theorem PgAt.lt (h : PgAt w B lv m sl uv) : B < w.heap.size := by
  obtain ⟨cs, hh, _⟩ := h
  rcases Nat.lt_or_ge B w.heap.size with hlt | hge
  · exact hlt
  · rw [Array.getElem?_eq_none hge] at hh; cases hh
theorem PgAt.same (h : PgAt w B lv m sl uv) (hg : w'.heap[B]? = w.heap[B]?) : PgAt w' B lv m sl uv := by
  obtain ⟨cs, hh, h1⟩ := h
  exact ⟨cs, hg.trans hh, h1⟩
theorem PgAt.frozen (h : PgAt w B lv m sl uv) (j : Nat) : w.frozen? ⟨B, j, none⟩ = false := by
  obtain ⟨cs, hh, _⟩ := h
  simp [World.frozen?, hh]
theorem PgAt.cellL (h : PgAt w B lv m sl uv) : w.cell? ⟨B, 0, none⟩ = some lv := by
  obtain ⟨cs, hh, _, h1, _⟩ := h
  exact (cell_of_row w B 0 cs _ _ hh).trans h1
theorem PgAt.cellS (h : PgAt w B lv m sl uv) {i : Nat} (hi : i < m) : w.cell? ⟨B, 1 + i, none⟩ = some (.int .i64 (sl i)) := by
  obtain ⟨cs, hh, _, _, h2, _⟩ := h
  exact (cell_of_row w B _ cs _ _ hh).trans (h2 i hi)
theorem PgAt.cellA (h : PgAt w B lv m sl uv) {i : Nat} (hi : i < 1426) : ∃ u, w.cell? ⟨B, i, none⟩ = some u := by
  obtain ⟨cs, hh, hs, _⟩ := h
  exact ⟨cs[i]'(by omega), (cell_of_row w B _ cs _ _ hh).trans (Array.getElem?_eq_getElem (by omega))⟩
theorem PgAt.cellU (h : PgAt w B lv m sl uv) {j : Nat} (hj : j < 25) : w.cell? ⟨B, 1401 + j, none⟩ = some (uv j) := by
  obtain ⟨cs, hh, _, _, _, h3, _⟩ := h
  exact (cell_of_row w B _ cs _ _ hh).trans (h3 j hj)
theorem heap_put {w : World} {B i : Nat} {cs : Array Value} {T : TypeId} (u : Value) (hh : w.heap[B]? = some (.cells cs T (0, 0))) : (w.setCell ⟨B, i, none⟩ u).heap[B]? = some (.cells (cs.setIfInBounds i u) T (0, 0)) := by
  simp [World.setCell, Array.getElem?_modify, hh]
theorem PgAt.setL (h : PgAt w B lv m sl uv) (u : Value) : PgAt (w.setCell ⟨B, 0, none⟩ u) B u m sl uv := by
  obtain ⟨cs, hh, hs, h1, h2, h3, h4⟩ := h
  refine ⟨cs.setIfInBounds 0 u, heap_put u hh, by simpa using hs, ?_, fun i hi => ?_, fun j hj => ?_, fun i hi => ?_⟩
  · rw [Array.getElem?_setIfInBounds, if_pos rfl, if_pos (by omega)]
  · rw [Array.getElem?_setIfInBounds, if_neg (by omega)]; exact h2 i hi
  · rw [Array.getElem?_setIfInBounds, if_neg (by omega)]; exact h3 j hj
  · rw [Array.getElem?_setIfInBounds, if_neg (by omega)]; exact h4 i hi
theorem PgAt.setS (h : PgAt w B lv m sl uv) {k : Nat} (hk : k ≤ m) (hm : m < 1400) (z : Int) : PgAt (w.setCell ⟨B, 1 + k, none⟩ (.int .i64 z)) B lv (if k = m then m + 1 else m) (fun i => if i = k then z else sl i) uv := by
  obtain ⟨cs, hh, hs, h1, h2, h3, h4⟩ := h
  refine ⟨cs.setIfInBounds (1 + k) (.int .i64 z), heap_put _ hh, by simpa using hs, ?_, fun i hi => ?_, fun j hj => ?_, fun i hi => ?_⟩
  · rw [Array.getElem?_setIfInBounds, if_neg (by omega)]; exact h1
  · rw [Array.getElem?_setIfInBounds]
    by_cases e : i = k
    · subst e
      rw [if_pos rfl, if_pos (by omega)]
      simp
    · rw [if_neg (by omega)]
      show _ = some (Value.int .i64 (if i = k then z else sl i))
      rw [if_neg e]
      exact h2 i (by split at hi <;> omega)
  · rw [Array.getElem?_setIfInBounds, if_neg (by omega)]; exact h3 j hj
  · rw [Array.getElem?_setIfInBounds]
    by_cases e : i = k
    · subst e
      exact ⟨.int .i64 z, by rw [if_pos rfl, if_pos (by omega)], rfl⟩
    · rw [if_neg (by omega)]
      exact h4 i hi
theorem PgAt.setU (h : PgAt w B lv m sl uv) {k : Nat} (hk : k < 25) (hm : m ≤ 1400) (u : Value) : PgAt (w.setCell ⟨B, 1401 + k, none⟩ u) B lv m sl (fun j => if j = k then u else uv j) := by
  obtain ⟨cs, hh, hs, h1, h2, h3, h4⟩ := h
  refine ⟨cs.setIfInBounds (1401 + k) u, heap_put _ hh, by simpa using hs, ?_, fun i hi => ?_, fun j hj => ?_, fun i hi => ?_⟩
  · rw [Array.getElem?_setIfInBounds, if_neg (by omega)]; exact h1
  · rw [Array.getElem?_setIfInBounds, if_neg (by omega)]; exact h2 i hi
  · rw [Array.getElem?_setIfInBounds]
    by_cases e : j = k
    · subst e
      rw [if_pos rfl, if_pos (by omega)]
      simp
    · rw [if_neg (by omega)]
      show _ = some (if j = k then u else uv j)
      rw [if_neg e]
      exact h3 j hj
  · rw [Array.getElem?_setIfInBounds, if_neg (by omega)]; exact h4 i hi
end

/-- The cells of a row of uses. -/
def ucells : List (Nat × Int) → List Value
  | [] => []
  | r :: rs => .int .i64 r.1 :: .int .i64 r.2 :: ucells rs
theorem ucells_append (xs ys : List (Nat × Int)) : ucells (xs ++ ys) = ucells xs ++ ucells ys := by
  induction xs with
  | nil => rfl
  | cons x xs ih => simp [ucells, ih]
/-- The uses of a constraint's terms, of those of the first constraints: at the place 12 + the literal. -/
def usT (k : Nat) (c l : Nat → Int) : Nat → Nat → List (Nat × Int)
  | 0, _ => []
  | t + 1, j => usT k c l t j ++ (if 12 + l t = (j : Int) then [(k, c t)] else [])
def usP (p : Nat → Con) : Nat → Nat → List (Nat × Int)
  | 0, _ => []
  | k + 1, j => usP p k j ++ usT k (p k).c (p k).l (p k).n j

/-- What lies in the blocks of F is as it was; the streams are as they were. -/
structure Keeps (F : Nat → Prop) (w w' : World) : Prop where
  os : w'.os = w.os
  tape : w'.tape = w.tape
  output : w'.output = w.output
  size : w.heap.size ≤ w'.heap.size
  block : ∀ k, F k → w'.heap[k]? = w.heap[k]?
section
variable {F G : Nat → Prop} {w w' w1 : World} {R : Option Nat} {B i : Nat}
theorem Keeps.refl (F : Nat → Prop) (w : World) : Keeps F w w := ⟨rfl, rfl, rfl, Nat.le_refl _, fun _ _ => rfl⟩
theorem Keeps.trans (h : Keeps F w w1) (k : Keeps F w1 w') : Keeps F w w' := ⟨k.os.trans h.os, k.tape.trans h.tape, k.output.trans h.output, Nat.le_trans h.size k.size, fun j hj => (k.block j hj).trans (h.block j hj)⟩
theorem Keeps.mono (h : Keeps F w w') (hF : ∀ k, G k → F k) : Keeps G w w' := ⟨h.os, h.tape, h.output, h.size, fun j hj => h.block j (hF j hj)⟩
theorem bl_keeps {n : Nat} (h : Below n w w') (hF : ∀ k, F k → k < n) : Keeps F w w' := ⟨h.os, h.tape, h.output, h.size, fun j hj => h.block j (hF j hj)⟩
theorem keeps_bl {n : Nat} (h : Keeps (fun k => k < n) w w') : Below n w w' := ⟨h.os, h.tape, h.output, h.size, fun j hj => h.block j hj⟩
theorem grown_keeps (h : w.grownBy w' R) (hF : ∀ k, F k → k < w.heap.size) (hR : ∀ k, R = some k → ¬ F k) : Keeps F w w' := ⟨h.os, h.tape, h.output, h.size, fun j hj => h.block j (hF j hj) (fun e => hR j e.symm hj)⟩
theorem Keeps.set_ (h : Keeps F w w1) (hB : ¬ F B) (i : Nat) (u : Value) : Keeps F w (w1.setCell ⟨B, i, none⟩ u) := ⟨h.os, h.tape, h.output, by simpa [World.setCell] using h.size, fun j hj => (Below.heap_setCell w1 ⟨B, i, none⟩ u j (fun e => hB ((show B = j from e.symm) ▸ hj))).trans (h.block j hj)⟩
theorem Keeps.drew (h : Keeps F w w1) : Keeps F w w1.drew := ⟨h.os, h.tape, h.output, h.size, h.block⟩
end
/-- A slice of terms in a block of F. -/
def RdF (w : World) (F : Nat → Prop) (A : Option Addr) (n : Nat) (c l : Nat → Int) : Prop :=
  0 < n → ∃ b off, A = some ⟨b, off, none⟩ ∧ F b ∧ ∀ i, i < n → w.cell? ⟨b, off + i * 2, none⟩ = some (.int .i64 (c i)) ∧ w.cell? ⟨b, off + i * 2 + 1, none⟩ = some (.int .i64 (l i))
section
variable {F G : Nat → Prop} {w w' : World} {A : Option Addr} {n : Nat} {c l : Nat → Int}
theorem RdF.keeps (h : RdF w F A n c l) (hk : Keeps F w w') : RdF w' F A n c l := fun hn => by
  obtain ⟨b, off, e, hb, hc⟩ := h hn
  exact ⟨b, off, e, hb, fun i hi => ⟨(World.cell?_of_block (hk.block b hb)).trans (hc i hi).1, (World.cell?_of_block (hk.block b hb)).trans (hc i hi).2⟩⟩
theorem RdF.rd (h : RdF w F A n c l) (hF : ∀ k, F k → k < w.heap.size) : Rd w w.heap.size A n c l := fun hn => by
  obtain ⟨b, off, e, hb, hc⟩ := h hn
  exact ⟨b, off, e, hF b hb, hc⟩
theorem RdF.mono (h : RdF w F A n c l) (hF : ∀ k, F k → G k) : RdF w G A n c l := fun hn => by
  obtain ⟨b, off, e, hb, hc⟩ := h hn
  exact ⟨b, off, e, hF b hb, hc⟩
theorem rd_f {B : Nat} (h : Rd w B A n c l) (hF : ∀ k, k < B → F k) : RdF w F A n c l := fun hn => by
  obtain ⟨b, off, e, hb, hc⟩ := h hn
  exact ⟨b, off, e, hF b hb, hc⟩
end

/-- A row of constraints whose terms lie in blocks of F. -/
def ConRow (w : World) (F : Nat → Prop) (p : Nat → Con) (m : Nat) (xs : List Value) : Prop :=
  ∀ i, i < m → ∃ Ai ci, xs[i * 2]? = some (.slice Ai (p i).n ci) ∧ xs[i * 2 + 1]? = some (.int .i64 (p i).bd) ∧ RdF w F Ai (p i).n (p i).c (p i).l

/-- A propagator: its block, with the slacks of the first s constraints; the rows that it owns, the list's of m constraints, each a block of its own. -/
structure Pg (w : World) (lo : Nat → Prop) (B : Nat) (lv : Value) (m s : Nat) (p : Nat → Con) (sl : Nat → Int) (us : Nat → List (Nat × Int)) (uv : Nat → Value) : Prop where
  cel : PgAt w B lv s sl uv
  lst : ∃ xs, w.ownsRow 0 25 2 lv m xs ∧ ConRow w lo p m xs
  use : ∀ j, j < 25 → w.ownsRow 0 104 2 (uv j) (us j).length (ucells (us j))
  d1 : ∀ j, j < 25 → ∀ b, (uv j).ownBlock = some b → lv.ownBlock ≠ some b ∧ b ≠ B
  d2 : ∀ j, j < 25 → ∀ j', j' < 25 → j ≠ j' → ∀ b, (uv j).ownBlock = some b → (uv j').ownBlock ≠ some b
  d3 : lv.ownBlock ≠ some B
  f0 : ∀ k, lo k → k < w.heap.size
  f1 : ¬ lo B
  f2 : ∀ b, lv.ownBlock = some b → ¬ lo b
  f3 : ∀ j, j < 25 → ∀ b, (uv j).ownBlock = some b → ¬ lo b
theorem none_or {o : Option Nat} {R : Option Nat} (h : ∀ b, o = some b → R ≠ some b) : o = none ∨ o ≠ R := by
  cases o with
  | none => exact .inl rfl
  | some b => exact .inr fun e => h b rfl e.symm
section
variable {w w' W W0 w1 : World} {lo : Nat → Prop} {B m s g cap1 : Nat} {lv : Value} {p : Nat → Con} {sl : Nat → Int} {us : Nat → List (Nat × Int)} {uv : Nat → Value}
theorem ConRow.keeps {xs : List Value} (h : ConRow w lo p m xs) (hb : Keeps lo w w') : ConRow w' lo p m xs := fun i hi => by
  obtain ⟨Ai, ci, h1, h2, h3⟩ := h i hi
  exact ⟨Ai, ci, h1, h2, h3.keeps hb⟩
/-- What is written neither into the propagator's block nor into a row of it leaves it as it is. -/
theorem Pg.kept {R : Option Nat} (h : Pg w lo B lv m s p sl us uv) (hg : w.grownBy w' R) (hlo : Keeps lo w w') (h1 : R ≠ some B) (h2 : lv.ownBlock = none ∨ lv.ownBlock ≠ R) (h3 : ∀ j, j < 25 → (uv j).ownBlock = none ∨ (uv j).ownBlock ≠ R) : Pg w' lo B lv m s p sl us uv := by
  obtain ⟨xs, hx, hc⟩ := h.lst
  exact ⟨h.cel.same (hg.block B h.cel.lt (fun e => h1 e.symm)), ⟨xs, hx.kept hg h2, hc.keeps hlo⟩, fun j hj => (h.use j hj).kept hg (h3 j hj), h.d1, h.d2, h.d3, fun k hk => Nat.lt_of_lt_of_le (h.f0 k hk) hg.size, h.f1, h.f2, h.f3⟩
theorem Pg.below (h : Pg w lo B lv m s p sl us uv) (hb : Below w.heap.size w w') : Pg w' lo B lv m s p sl us uv := by
  exact h.kept (R := none) ⟨hb.os, hb.tape, hb.output, hb.size, fun k hk _ => hb.block k hk⟩ (bl_keeps hb h.f0) (by simp) (by cases lv.ownBlock <;> simp) (fun j _ => by cases (uv j).ownBlock <;> simp)
/-- A store into the propagator's block that its rows do not feel. -/
theorem Pg.setB {i : Nat} {u : Value} {s' : Nat} {sl' : Nat → Int} (h : Pg w lo B lv m s p sl us uv) (hc : PgAt (w.setCell ⟨B, i, none⟩ u) B lv s' sl' uv) : Pg (w.setCell ⟨B, i, none⟩ u) lo B lv m s' p sl' us uv := by
  obtain ⟨xs, hx, hcr⟩ := h.lst
  have hg := grown_set w B i u
  exact ⟨hc, ⟨xs, hx.kept hg (none_or fun b e => fun e2 => h.d3 (by rw [e, e2])), hcr.keeps ((Keeps.refl lo w).set_ h.f1 i u)⟩, fun j hj => (h.use j hj).kept hg (none_or fun b e e2 => (h.d1 j hj b e).2 (by cases e2; rfl)), h.d1, h.d2, h.d3, fun k hk => by simpa [World.setCell] using h.f0 k hk, h.f1, h.f2, h.f3⟩
/-- The append of a constraint to the list, and the store of the list. -/
theorem Pg.app {xs : List Value} {A : Option Addr} {cap : Nat} (h : Pg W lo B lv m s p sl us uv) (hb : Below W.heap.size W W0) (hcr : ConRow W lo p m xs) (hx : xs.length = m * 2) (hr : RdF W lo A (p m).n (p m).c (p m).l)
    (hown : w1.ownsRow 0 25 2 (.slice (some ⟨g, 0, none⟩) (m + 1) cap1) (m + 1) (xs ++ [.slice A (p m).n cap, .int .i64 (p m).bd])) (hg : W0.grownBy w1 lv.ownBlock) (hat : lv.ownBlock = some g ∨ g = W0.heap.size) :
    Pg (w1.setCell ⟨B, 0, none⟩ (.slice (some ⟨g, 0, none⟩) (m + 1) cap1)) lo B (.slice (some ⟨g, 0, none⟩) (m + 1) cap1) (m + 1) s p sl us uv ∧ Keeps lo W (w1.setCell ⟨B, 0, none⟩ (.slice (some ⟨g, 0, none⟩) (m + 1) cap1)) := by
  have h0 := h.below hb
  obtain ⟨ys, hy, _⟩ := h0.lst
  have hB0 := h0.cel.lt
  have hgB : g ≠ B := by
    rcases hat with e | e
    · intro e2; exact h0.d3 (by rw [e, e2])
    · omega
  have hl1 : Keeps lo W0 w1 := grown_keeps hg h0.f0 fun k e => h0.f2 k e
  have hl2 : Keeps lo W (w1.setCell ⟨B, 0, none⟩ (.slice (some ⟨g, 0, none⟩) (m + 1) cap1)) := ((bl_keeps hb h.f0).trans hl1).set_ h.f1 _ _
  have hset := grown_set w1 B 0 (.slice (some ⟨g, 0, none⟩) (m + 1) cap1)
  refine ⟨⟨(h0.cel.same (hg.block B hB0 (fun e => h0.d3 e.symm))).setL _, ⟨_, hown.kept hset (.inr (by show some g ≠ some B; simp [hgB])), fun i hi => ?_⟩, fun j hj => ((h0.use j hj).kept hg (none_or fun b e e2 => (h0.d1 j hj b e).1 e2)).kept hset (none_or fun b e e2 => (h0.d1 j hj b e).2 (by cases e2; rfl)), fun j hj b e => ⟨?_, (h0.d1 j hj b e).2⟩, h0.d2, by show some g ≠ some B; simp [hgB], fun k hk => by simpa [World.setCell] using Nat.lt_of_lt_of_le (h0.f0 k hk) hg.size, h.f1, fun b e => ?_, h.f3⟩, hl2⟩
  · by_cases e : i = m
    · subst e
      exact ⟨A, cap, by rw [List.getElem?_append_right (by omega), hx, Nat.sub_self]; rfl, by rw [List.getElem?_append_right (by omega), hx]; simp, hr.keeps hl2⟩
    · obtain ⟨Ai, ci, h1, h2, h3⟩ := hcr i (by omega)
      exact ⟨Ai, ci, by rw [List.getElem?_append_left (by omega)]; exact h1, by rw [List.getElem?_append_left (by omega)]; exact h2, h3.keeps hl2⟩
  · show some g ≠ some b
    have hbl := ((h0.use j hj).lt b e).2
    rcases hat with e2 | e2
    · rw [← e2]; exact (h0.d1 j hj b e).1
    · simp; omega
  · have e' : g = b := by injection e
    subst e'
    rcases hat with e2 | e2
    · exact h0.f2 g e2
    · exact fun hf => by have := h0.f0 g hf; omega
/-- The append of a use, and its store. -/
theorem Pg.appU {k : Nat} {r : Nat × Int} (h : Pg W lo B lv m s p sl us uv) (hb : Below W.heap.size W W0) (hk : k < 25) (hs : s ≤ 1400)
    (hown : w1.ownsRow 0 104 2 (.slice (some ⟨g, 0, none⟩) ((us k).length + 1) cap1) ((us k).length + 1) (ucells (us k) ++ [.int .i64 r.1, .int .i64 r.2])) (hg : W0.grownBy w1 (uv k).ownBlock) (hat : (uv k).ownBlock = some g ∨ g = W0.heap.size) :
    Pg (w1.setCell ⟨B, 1401 + k, none⟩ (.slice (some ⟨g, 0, none⟩) ((us k).length + 1) cap1)) lo B lv m s p sl (fun j => if j = k then us k ++ [r] else us j) (fun j => if j = k then .slice (some ⟨g, 0, none⟩) ((us k).length + 1) cap1 else uv j) ∧ Keeps lo W (w1.setCell ⟨B, 1401 + k, none⟩ (.slice (some ⟨g, 0, none⟩) ((us k).length + 1) cap1)) := by
  have h0 := h.below hb
  have hy := h0.use k hk
  have hB0 := h0.cel.lt
  obtain ⟨xs, hx, hcr⟩ := h0.lst
  have hgB : g ≠ B := by
    rcases hat with e | e
    · intro e2; exact (h0.d1 k hk g e).2 e2
    · omega
  have hl1 : Keeps lo W0 w1 := grown_keeps hg h0.f0 fun b e => h0.f3 k hk b e
  have hl2 : Keeps lo W0 (w1.setCell ⟨B, 1401 + k, none⟩ (.slice (some ⟨g, 0, none⟩) ((us k).length + 1) cap1)) := hl1.set_ h.f1 _ _
  have hset := grown_set w1 B (1401 + k) (.slice (some ⟨g, 0, none⟩) ((us k).length + 1) cap1)
  have hgl : ∀ b, lv.ownBlock = some b → b ≠ g := fun b e => by
    rcases hat with e2 | e2
    · intro e3; subst e3; exact (h0.d1 k hk _ e2).1 e
    · have := (hx.lt b e).2; omega
  have hgu : ∀ j, j < 25 → j ≠ k → ∀ b, (uv j).ownBlock = some b → b ≠ g := fun j hj hne b e => by
    rcases hat with e2 | e2
    · intro e3; subst e3; exact h0.d2 j hj k hk hne _ e e2
    · have := ((h0.use j hj).lt b e).2; omega
  refine ⟨⟨(h0.cel.same (hg.block B hB0 (fun e => (h0.d1 k hk B e.symm).2 rfl))).setU hk hs _, ⟨xs, (hx.kept hg (none_or fun b e e2 => (h0.d1 k hk b e2).1 e)).kept hset (none_or fun b e e2 => h0.d3 (by rw [e, ← e2])), hcr.keeps hl2⟩, fun j hj => ?_, fun j hj b e => ?_, fun j hj j' hj' hne b e => ?_, h.d3, fun k hk => by simpa [World.setCell] using Nat.lt_of_lt_of_le (h0.f0 k hk) hg.size, h.f1, h.f2, fun j hj b e => ?_⟩, (bl_keeps hb h.f0).trans hl2⟩
  · by_cases e : j = k
    · subst e
      simp only [if_true]
      rw [List.length_append, ucells_append]
      exact hown.kept hset (.inr (by show some g ≠ some B; simp [hgB]))
    · simp only [if_neg e]
      exact ((h0.use j hj).kept hg (none_or fun b e1 e2 => h0.d2 j hj k hk e b e1 e2)).kept hset (none_or fun b e1 e2 => (h0.d1 j hj b e1).2 (by cases e2; rfl))
  · by_cases e2 : j = k
    · subst e2
      simp only [if_true] at e
      have e' : g = b := by injection e
      subst e'
      exact ⟨fun e3 => hgl _ e3 rfl, hgB⟩
    · simp only [if_neg e2] at e
      exact h0.d1 j hj b e
  · by_cases e1 : j = k
    · subst e1
      simp only [if_true] at e
      have e' : g = b := by injection e
      subst e'
      simp only [if_neg (fun h => hne h.symm : ¬ j' = j)]
      exact fun e3 => hgu j' hj' (fun h => hne h.symm) _ e3 rfl
    · simp only [if_neg e1] at e
      by_cases e2 : j' = k
      · subst e2
        simp only [if_true]
        show some g ≠ some b
        have := hgu j hj e1 b e
        simp
        omega
      · simp only [if_neg e2]
        exact h0.d2 j hj j' hj' hne b e
  · by_cases e1 : j = k
    · subst e1
      simp only [if_true] at e
      have e' : g = b := by injection e
      subst e'
      rcases hat with e2 | e2
      · exact h0.f3 j hj g e2
      · exact fun hf => by have := h0.f0 g hf; omega
    · simp only [if_neg e1] at e
      exact h0.f3 j hj b e
end
end Go.Proofs.Ytckaeaclclhapaa

namespace Go.Proofs.Ytckaeaclclhapaa
open Go.ChangeShapes Go.WideShapes Go.ChangeAt Go.RowKit Go.Shelf

theorem Try.infoUse : (Try.prog.info? 104).map (fun i => (i.zero, i.size, i.bytes)) = some (some (.agg #[.int .i64 0, .int .i64 0]), 2, 16) := by kernel_rfl

/-- No variable has a value. -/
def z0 : Nat → Int := fun _ => 0
theorem nf_z0 (z : Int) : nfP z0 z = true := by
  unfold nfP stV z0
  split <;> rfl
theorem sB_congr {c l : Nat → Int} {P Q : Int → Bool} (h : ∀ z, P z = Q z) (n : Nat) : sB c l P n = sB c l Q n := by
  have : P = Q := funext h
  rw [this]
theorem tot_slk {q : Con} (hq : okC q) (hn : q.n ≤ 1048576) : totV q.n q.c q.l q.bd = slkC q z0 + q.bd ∧ -20000 ≤ slkC q z0 ∧ slkC q z0 ≤ 1048576000 := by
  have hb := slk_bd (v := z0) hq
  have h1 : totV q.n q.c q.l q.bd = sB q.c q.l (fun _ => true) q.n := by
    unfold totV
    rw [show validB q.n q.c q.l q.bd = true from hq, if_pos rfl]
    exact sumW_sB hn (coef_of hq)
  have h2 : sB q.c q.l (nfP z0) q.n = sB q.c q.l (fun _ => true) q.n := sB_congr nf_z0 q.n
  unfold slkC
  refine ⟨?_, hb.1, by omega⟩
  unfold slk
  rw [h1, h2]
  omega
theorem Pg.setNew {w : World} {lo : Nat → Prop} {B m s : Nat} {lv : Value} {p : Nat → Con} {sl : Nat → Int} {us : Nat → List (Nat × Int)} {uv : Nat → Value} (h : Pg w lo B lv m s p sl us uv) (hs : s < 1400) (Z : Int) : Pg (w.setCell ⟨B, 1 + s, none⟩ (.int .i64 Z)) lo B lv m (s + 1) p (fun i => if i = s then Z else sl i) us uv := by
  have := h.cel.setS (k := s) (Nat.le_refl _) hs Z
  rw [if_pos rfl] at this
  exact h.setB this
theorem usT_len (k : Nat) (c l : Nat → Int) (n j : Nat) : (usT k c l n j).length ≤ n := by
  induction n with
  | zero => exact Nat.le_refl _
  | succ n ih =>
    unfold usT
    rw [List.length_append]
    split <;> simp <;> omega
theorem row_slice {w : World} {B s n : Nat} {T : TypeId} {v : Value} {xs : List Value} (h : w.ownsRow B T s v n xs) : ∃ A cap, v = .slice A n cap := by
  rcases h.2 with ⟨e, e2⟩ | ⟨g, capl, cur, e, _⟩
  · exact ⟨none, 0, by rw [e, e2]⟩
  · exact ⟨_, capl, e⟩
theorem Pg.t0 {w W0 w1 : World} {lo : Nat → Prop} {B m s i : Nat} {lv : Value} {p : Nat → Con} {sl : Nat → Int} {us : Nat → List (Nat × Int)} {uv : Nat → Value} {R : Option Nat} {u : Value} (h : Pg w lo B lv m s p sl us uv) (hb : Below w.heap.size w W0) (hg : W0.grownBy w1 R) (hR : R ≠ some B) (hc : w.cell? ⟨B, i, none⟩ = some u) : w1.cell? ⟨B, i, none⟩ = some u ∧ w1.frozen? ⟨B, i, none⟩ = false := by
  have h0 := (h.below hb).cel
  have h1 := h0.same (hg.block B h0.lt (fun e => hR e.symm))
  refine ⟨hg.cell (a := ⟨B, i, none⟩) (kc hb hc) (fun e => hR e.symm), h1.frozen i⟩

set_option maxRecDepth 100000 in
set_option maxHeartbeats 6400000 in
theorem pgAdd_any (lo : Nat → Prop) (B : Nat) (lv : Value) (m : Nat) (p : Nat → Con) (sl : Nat → Int) (us : Nat → List (Nat × Int)) (uv : Nat → Value) (A : Option Addr) (cap : Nat) (w : World)
    (hP : Pg w lo B lv m m p sl us uv) (hr : RdF w lo A (p m).n (p m).c (p m).l) (hq : okC (p m)) (hn : (p m).n ≤ 1048576) (hm : m < 1400) (hus : ∀ j, (us j).length ≤ m * 1048576) :
    Calls Try.prog 48 #[.pointer (some ⟨B, 0, none⟩), .agg #[.slice A (p m).n cap, .int .i64 (p m).bd]] w fun e w' => e = .returned (.tuple #[]) ∧ ∃ lv' uv', Pg w' lo B lv' (m + 1) (m + 1) p (fun i => if i = m then slkC (p m) z0 else sl i) (fun j => us j ++ usT m (p m).c (p m).l (p m).n j) uv' ∧ Keeps lo w w' := by
  have hBl := hP.cel.lt
  obtain ⟨xs, hx, hxc⟩ := hP.lst
  have hlv : ∃ Al capl, lv = .slice Al m capl := by
    rcases hx.2 with ⟨e, e2⟩ | ⟨g, capl, cur, e, _⟩
    · exact ⟨none, 0, by rw [e, e2]⟩
    · exact ⟨_, capl, e⟩
  obtain ⟨Al, capl, hle⟩ := hlv
  subst hle
  obtain ⟨i0, hi, hz0, hz1, hz2⟩ := info_parts Try.infoCon
  have Hi := Lib.hid hi
  have Hz0 := Lib.hid hz0
  have Hz1 := Lib.hid hz1
  have Hz2 := Lib.hid hz2
  have hlow := hP.f0
  have hcl := kc (bl_alloc (Below.refl w.heap.size w) (.cells #[.slice A (p m).n cap, .int .i64 (p m).bd] 25)) hP.cel.cellL
  have HQ := Lib.hid hq
  have HP := Lib.hid hP
  have HR := Lib.hid hr
  have HX := Lib.hid hx
  have HXC := Lib.hid hxc
  clear hi hz0 hz1 hz2 hP hr hq hx hxc
  go_enter Try.func48, Try.ntmps48
  go_upto_region 2 with fail
  have hb1 := bl_alloc (Below.refl w.heap.size w) (.cells #[.slice A (p m).n cap, .int .i64 (p m).bd] 25)
  have a0 : (w.alloc (.cells #[.slice A (p m).n cap, .int .i64 (p m).bd] 25)).cell? ⟨w.heap.size, 0, none⟩ = some (.slice A (p m).n cap) := by go_simp
  have a1 : (w.alloc (.cells #[.slice A (p m).n cap, .int .i64 (p m).bd] 25)).cell? ⟨w.heap.size, 1, none⟩ = some (.int .i64 (p m).bd) := by go_simp
  have hsz : (w.alloc (.cells #[.slice A (p m).n cap, .int .i64 (p m).bd] 25)).heap.size = w.heap.size + 1 := by simp
  have HP1 := Lib.hid (HP.out.below hb1)
  have HB1 := Lib.hid (bl_keeps hb1 hlow)
  have HR1 := Lib.hid (HR.out.keeps (bl_keeps hb1 hlow))
  have HX1 := Lib.hid (HX.out.alloc (.cells #[.slice A (p m).n cap, .int .i64 (p m).bd] 25))
  have HXC1 := Lib.hid (HXC.out.keeps (bl_keeps hb1 hlow))
  have HHl := Lib.hid (show ∀ b, (Value.slice Al m capl).ownBlock = some b → b < w.heap.size from fun b e => (HX.out.lt b e).2)
  have hxl := HX.out.1
  generalize (w.alloc (.cells #[.slice A (p m).n cap, .int .i64 (p m).bd] 25)) = W1 at *
  obtain ⟨H, hH⟩ : ∃ H, w.heap.size = H := ⟨_, rfl⟩
  rw [hH] at a0 a1 hsz HHl hBl ⊢
  have hB1 : B < W1.heap.size := by omega
  have HSZ := Lib.hid hsz
  clear hb1 HP HX HXC hsz
  have News := Lib.hid (World.news_of_block (w := (W1.alloc (.cells #[.slice A (p m).n cap, .int .i64 (p m).bd] 25)).drew) (B := W1.heap.size) (cs := #[.slice A (p m).n cap, .int .i64 (p m).bd]) (t := 25) (fr := (0, 0)) (heap_alloc_new W1 _))
  have HD3 := Lib.hid HP1.out.d3
  go_cut [] (fun wx => ∃ lv', Pg wx lo B lv' (m + 1) m p sl us uv ∧ Keeps lo w wx ∧ wx.cell? ⟨H, 0, none⟩ = some (.slice A (p m).n cap) ∧ wx.cell? ⟨H, 1, none⟩ = some (.int .i64 (p m).bd))
  case first =>
    go_region_law (refine step_append_lies _ (by rfl) _ _ _ (by rfl) 0 25 i0 _ 2 32 Try.underlying27 Hi.out Hz0.out Hz1.out Hz2.out rfl (by omega) (.slice Al m capl) m xs (by rfl) ((HX1.out.alloc _).drew) ⟨W1.heap.size, 0, none⟩ 1 1 [.slice A (p m).n cap, .int .i64 (p m).bd] (by rfl) (by rfl) (News.out) (by simp [Value.oneCell']) (by omega) (by unfold maxLen; omega) (by omega) (Nat.zero_le _) (W1.heap.size + 1) (by simp) ?_; intro gg cap1 w9 hown1 hgrow hat hlt1; obtain ⟨t0, u0⟩ := HP1.out.t0 (bl_alloc (Below.refl _ _) _).drew hgrow HD3.out hcl; have b0 := hgrow.cell (a := ⟨H, 0, none⟩) (kc (bl_alloc (Below.refl _ _) _).drew a0) (fun e => Nat.lt_irrefl _ (HHl.out H e.symm)); have b1 := hgrow.cell (a := ⟨H, 1, none⟩) (kc (bl_alloc (Below.refl _ _) _).drew a1) (fun e => Nat.lt_irrefl _ (HHl.out H e.symm)))
    all_goals go_wp2_with fail
    all_goals go_meet
    all_goals exact ⟨_, (HP1.out.app ((bl_alloc (Below.refl _ _) _).drew) HXC1.out hxl HR1.out hown1 hgrow (hat.imp id (fun e => by rw [e]; simp))).1, HB1.out.trans (HP1.out.app ((bl_alloc (Below.refl _ _) _).drew) HXC1.out hxl HR1.out hown1 hgrow (hat.imp id (fun e => by rw [e]; simp))).2, (World.cell?_setCell_other _ _ _ _ (fun e => by injection e with e1 e2 _; omega)).trans b0, (World.cell?_setCell_other _ _ _ _ (fun e => by injection e with e1 e2 _; omega)).trans b1⟩
  case rest =>
    obtain ⟨lv2, hp2, hb2, c0, c1⟩ := hcut
    have HP2 := Lib.hid hp2
    have HB2 := Lib.hid hb2
    clear hp2 hb2 News HP1 HB1 HX1 HXC1 HHl HD3 a0 a1 hcl hxl
    obtain ⟨hT, hT1, hT2⟩ := tot_slk HQ.out hn
    obtain ⟨T, hTe⟩ : ∃ T, totV (p m).n (p m).c (p m).l (p m).bd = T := ⟨_, rfl⟩
    obtain ⟨Z, hZ⟩ : ∃ Z, slkC (p m) z0 = Z := ⟨_, rfl⟩
    have hbdm := bound_of (show validB (p m).n (p m).c (p m).l (p m).bd = true from HQ.out)
    have HTc := Lib.hid (fun (W : World) (h : Rd W W.heap.size A (p m).n (p m).c (p m).l) => implTotal_v A _ cap (p m).bd _ _ W hn h)
    rw [hTe] at HTc hT
    rw [hZ] at hT hT1 hT2
    have hws : IntKind.i64.wrap (T - (p m).bd) = Z := by rw [hT, IntWalk.i64_in _ (by omega)]; omega
    have HRc := Lib.hid ((HR.out.keeps HB2.out).rd HP2.out.f0)
    have HZ := Lib.hid hZ
    obtain ⟨u0, hu0⟩ := HP2.out.cel.cellA (i := 1 + m) (by omega)
    have hfu := HP2.out.cel.frozen (1 + m)
    have hBc := HP2.out.cel.lt
    have hmI : (m : Int) < 1400 := by omega
    have hm0 : (0 : Int) ≤ (m : Int) := by omega
    clear hT hT1 hT2 hTe hbdm hZ HR1 HSZ
    go_upto_region 3 with fail
    go_cut [] (fun wx => Pg wx lo B lv2 (m + 1) (m + 1) p (fun i => if i = m then slkC (p m) z0 else sl i) us uv ∧ Keeps lo w wx ∧ wx.cell? ⟨H, 0, none⟩ = some (.slice A (p m).n cap) ∧ wx.cell? ⟨H, 1, none⟩ = some (.int .i64 (p m).bd))
    case first =>
      go_region_law (go_simp; go_at_call 27; refine (HTc.out _ (HRc.out.later (by repeat (first | exact Below.refl _ _ | refine Below.drew ?_)))).mono ?_; rintro e w9 ⟨rfl, hb⟩; have hb9 := bl_trans (Below.refl wc.heap.size wc).drew hb; have HP9 := Lib.hid (HP2.out.below hb9); have HB9 := Lib.hid (HB2.out.trans (bl_keeps hb9 HP2.out.f0)); replace c0 := kc hb9 c0; replace c1 := kc hb9 c1; replace hu0 := kc hb9 hu0; replace hfu := kf hb9 (show B < wc.heap.size by omega) hfu; clear hb hb9)
      all_goals go_wp2_with fail
      all_goals go_meet
      all_goals exact ⟨by rw [HZ.out]; exact HP9.out.setNew hm Z, HB9.out.set_ HP9.out.f1 _ _, (World.cell?_setCell_other _ _ _ _ (fun e => by injection e with e1 e2 _; omega)).trans c0, (World.cell?_setCell_other _ _ _ _ (fun e => by injection e with e1 e2 _; omega)).trans c1⟩
    case rest =>
      obtain ⟨hp3, hb3, c0, c1⟩ := hcut
      have HP3 := Lib.hid hp3
      have HB3 := Lib.hid hb3
      clear hp3 hb3
      obtain ⟨j0, hi, hz0, hz1, hz2⟩ := info_parts Try.infoUse
      have Ji := Lib.hid hi
      have Jz0 := Lib.hid hz0
      have Jz1 := Lib.hid hz1
      have Jz2 := Lib.hid hz2
      clear hi hz0 hz1 hz2
      go_wp2
      go_loopw [36] (fun i wx => ∃ (t : Nat) (uv' : Nat → Value), i = .int .i64 t ∧ t ≤ (p m).n ∧ Pg wx lo B lv2 (m + 1) (m + 1) p (fun i => if i = m then slkC (p m) z0 else sl i) (fun j => us j ++ usT m (p m).c (p m).l t j) uv' ∧ Keeps lo w wx) (fun i _ => (p m).n - (intOf i).toNat)
      case atStart => exact ⟨0, uv, rfl, Nat.zero_le _, by simpa [usT] using HP3.out, HB3.out⟩
      case round =>
        obtain ⟨t, uv', rfl, ht, hp, hb⟩ := hrel
        have HPr := Lib.hid hp
        have HBr := Lib.hid hb
        clear hp hb
        by_cases hlt : t < (p m).n
        · obtain ⟨b, off, rfl, hbl, hc⟩ := ((HR.out.keeps HBr.out).rd HPr.out.f0) (by omega)
          obtain ⟨hc1, hc2⟩ := hc t hlt
          have hlit := litAt (show validB (p m).n (p m).c (p m).l (p m).bd = true from HQ.out) hlt
          obtain ⟨x, hx⟩ : ∃ x, (p m).c t = x := ⟨_, rfl⟩
          obtain ⟨z, hz⟩ : ∃ z, (p m).l t = z := ⟨_, rfl⟩
          rw [hx] at hc1
          rw [hz] at hc2 hlit
          obtain ⟨q0, q1, q2⟩ := litB_iff.1 hlit
          obtain ⟨k, hk⟩ : ∃ k : Nat, 12 + z = (k : Int) := ⟨(12 + z).toNat, by omega⟩
          have hk25 : k < 25 := by omega
          have HUs := Lib.hid (show usT m (p m).c (p m).l (t + 1) = fun j => usT m (p m).c (p m).l t j ++ (if j = k then [(m, x)] else []) from by
            funext j
            show usT m (p m).c (p m).l t j ++ (if 12 + (p m).l t = (j : Int) then [(m, (p m).c t)] else []) = _
            rw [hx, hz, hk]
            by_cases e : j = k
            · subst e; rw [if_pos rfl, if_pos rfl]
            · rw [if_neg (by omega), if_neg e])
          have HFn := Lib.hid (show (fun j => us j ++ usT m (p m).c (p m).l (t + 1) j) = fun j => if j = k then (us k ++ usT m (p m).c (p m).l t k) ++ [(m, x)] else us j ++ usT m (p m).c (p m).l t j from by
            funext j
            rw [HUs.out]
            by_cases e : j = k
            · subst e; simp
            · simp [e])
          have hw1 : wrap64 (12 + z) = (k : Int) := by rw [hk]; exact IntWalk.i64_left _ ▸ IntWalk.i64_in _ (by omega)
          have hw2 : IntKind.i64.wrap (12 + z) = (k : Int) := by rw [hk]; exact IntWalk.i64_in _ (by omega)
          have hltI : (t : Int) < ((p m).n : Int) := by omega
          have ht0 : (0 : Int) ≤ (t : Int) := by omega
          have hkI : (k : Int) < 25 := by omega
          have hk0 : (0 : Int) ≤ (k : Int) := by omega
          clear hc hx hz hk hlit q0 q1 q2
          go_upto_region 8 with fail
          have hb1 := bl_alloc (Below.refl wr.heap.size wr) (.cells #[.int .i64 x, .int .i64 z] 56)
          have a0 : (wr.alloc (.cells #[.int .i64 x, .int .i64 z] 56)).cell? ⟨wr.heap.size, 0, none⟩ = some (.int .i64 x) := by go_simp
          have HP1 := Lib.hid (HPr.out.below hb1)
          have HB1 := Lib.hid (HBr.out.trans (bl_keeps hb1 HPr.out.f0))
          have hTB : B < wr.heap.size := HPr.out.cel.lt
          have hTU : ∀ e, (uv' k).ownBlock = some e → e < wr.heap.size := fun e he => ((HPr.out.use k hk25).lt e he).2
          generalize (wr.alloc (.cells #[.int .i64 x, .int .i64 z] 56)) = W1 at *
          obtain ⟨T, hT⟩ : ∃ T, wr.heap.size = T := ⟨_, rfl⟩
          rw [hT] at a0 hTB hTU ⊢
          have hcu := HP1.out.cel.cellU hk25
          have hrow := HP1.out.use k hk25
          have hlen : (us k ++ usT m (p m).c (p m).l t k).length ≤ 1500000000 := by
            have h1 := hus k
            have h2 := usT_len m (p m).c (p m).l t k
            rw [List.length_append]
            omega
          obtain ⟨Au, capu, hue⟩ := row_slice hrow
          have hdB := fun e => (HP1.out.d1 k hk25 B e).2 rfl
          have HDB := Lib.hid (show (Value.slice Au (us k ++ usT m (p m).c (p m).l t k).length capu).ownBlock ≠ some B from by rw [← hue]; exact hdB)
          have HRow := Lib.hid hrow
          have HUe := Lib.hid hue
          have HTU := Lib.hid hTU
          obtain ⟨Lc, hLc⟩ : ∃ Lc, (us k ++ usT m (p m).c (p m).l t k).length = Lc := ⟨_, rfl⟩
          rw [hue, hLc] at hcu
          rw [hLc] at hlen
          have HLc := Lib.hid hLc
          have hB1 : B < W1.heap.size := HP1.out.cel.lt
          have hT1 : T < W1.heap.size := World.block_lt_of_cell? W1 ⟨T, 0, none⟩ a0
          have News := Lib.hid (World.news_of_block (w := (W1.alloc (.cells #[.int .i64 (m : Nat), .int .i64 x] 104)).drew) (B := W1.heap.size) (cs := #[.int .i64 (m : Nat), .int .i64 x]) (t := 104) (fr := (0, 0)) (heap_alloc_new W1 _))
          have HROW := Lib.hid (show W1.ownsRow 0 104 2 (.slice Au Lc capu) Lc (ucells (us k ++ usT m (p m).c (p m).l t k)) from by have := HRow.out; rw [HUe.out, HLc.out] at this; exact this)
          have HDR := Lib.hid (show (Value.slice Au Lc capu).ownBlock ≠ some B from by have := HDB.out; rw [HLc.out] at this; exact this)
          have HUV := Lib.hid (show uv' k = .slice Au Lc capu from by rw [HUe.out, HLc.out])
          clear hb1 HPr HBr hTU hrow hue hdB hLc HRow HDB hT
          go_region_law (refine step_append_lies _ (by rfl) _ _ _ (by rfl) 0 104 j0 _ 2 16 Try.underlying87 Ji.out Jz0.out Jz1.out Jz2.out rfl (by omega) (.slice Au Lc capu) Lc _ (by rfl) ((HROW.out.alloc _).drew) ⟨W1.heap.size, 0, none⟩ 1 1 [.int .i64 (m : Nat), .int .i64 x] (by rfl) (by rfl) (News.out) (by simp [Value.oneCell']) (by omega) (by unfold maxLen; omega) (by omega) (Nat.zero_le _) (W1.heap.size + 1) (by simp) ?_; intro gg cap1 w9 hown1 hgrow hat hlt1; obtain ⟨t0, u0⟩ := HP1.out.t0 (bl_alloc (Below.refl _ _) _).drew hgrow HDR.out hcu; have b0 := hgrow.cell (a := ⟨T, 0, none⟩) (kc (bl_alloc (Below.refl _ _) _).drew a0) (fun e => Nat.lt_irrefl _ (HTU.out T (by rw [HUV.out]; exact e.symm))))
          all_goals go_wp2
          all_goals go_roundw
          all_goals (first | (simp [intOf]; omega; done) | skip)
          all_goals have happ := HP1.out.appU (r := (m, x)) ((bl_alloc (Below.refl _ _) _).drew) hk25 (by omega) (by simp only [HLc.out]; exact hown1) (by rw [HUV.out]; exact hgrow) (by rw [HUV.out]; exact hat.imp id (fun e => by rw [e]; simp))
          all_goals simp only [HLc.out] at happ
          all_goals exact ⟨t + 1, fun j => if j = k then .slice (some ⟨gg, 0, none⟩) (Lc + 1) cap1 else uv' j, by go_num, by omega, by rw [HFn.out]; exact happ.1, HB1.out.trans happ.2⟩
        · have e : t = (p m).n := by omega
          go_wp2
          exact ⟨rfl, .tuple #[], by simp [results, Try.results48], rfl, _, uv', by rw [← e]; exact HPr.out, HBr.out⟩
end Go.Proofs.Ytckaeaclclhapaa

namespace Go.Proofs.Ytckaeaclclhapaa
open Go.ChangeShapes Go.WideShapes Go.ChangeAt Go.RowKit Go.Shelf

def isNilS : Value → Bool
  | .slice none 0 0 => true
  | _ => false
theorem isNilS_iff {v : Value} (h : isNilS v = true) : v = .slice none 0 0 := by
  unfold isNilS at h
  split at h
  · rfl
  · cases h
def zeroPg (z : Array Value) : Bool := z.size == 1426 && isNilS (z.getD 0 undef) && (List.range 25).all fun j => isNilS (z.getD (1401 + j) undef)
theorem pg_zero : zeroPg Try.zeroCells90 = true := by kernel_rfl
theorem pg_one : Try.zeroCells90.toList.all (·.oneCell') = true := by kernel_rfl
theorem pg_cells : Try.zeroCells90.size = 1426 ∧ Try.zeroCells90[0]? = some (.slice none 0 0) ∧ (∀ j, j < 25 → Try.zeroCells90[1401 + j]? = some (.slice none 0 0)) ∧ ∀ i, i < 1400 → ∃ z, Try.zeroCells90[1 + i]? = some z ∧ z.oneCell' = true := by
  have h := pg_zero
  have ho := pg_one
  generalize Try.zeroCells90 = Z at *
  unfold zeroPg at h
  simp only [Bool.and_eq_true, beq_iff_eq, List.all_eq_true, List.mem_range] at h
  obtain ⟨⟨h1, h2⟩, h3⟩ := h
  have key : ∀ i, i < 1426 → isNilS (Z.getD i undef) = true → Z[i]? = some (.slice none 0 0) := fun i hi hn => by
    have := isNilS_iff hn
    rw [Array.getD_eq_getD_getElem?, Array.getElem?_eq_getElem (by omega)] at this
    rw [Array.getElem?_eq_getElem (by omega)]
    exact congrArg some this
  refine ⟨h1, key 0 (by omega) h2, fun j hj => key (1401 + j) (by omega) (h3 j hj), fun i hi => ?_⟩
  rw [List.all_eq_true] at ho
  rw [Array.getElem?_eq_getElem (by omega)]
  exact ⟨_, rfl, ho _ (by simp)⟩
theorem pg_new (w : World) (p : Nat → Con) (sl : Nat → Int) : Pg (w.alloc (.cells Try.zeroCells90 90)) (fun k => k < w.heap.size) w.heap.size (.slice none 0 0) 0 0 p sl (usP p 0) (fun _ => .slice none 0 0) := by
  obtain ⟨h1, h2, h3, h4⟩ := pg_cells
  refine ⟨⟨_, heap_alloc_new w _, h1, h2, fun i hi => by omega, h3, h4⟩, ⟨[], World.ownsRow_nil _ _ _ _, fun i hi => by omega⟩, fun j _ => World.ownsRow_nil _ _ _ _, fun j _ b e => ?_, fun j _ j' _ _ b e => ?_, ?_, fun k hk => by simp; omega, fun h => Nat.lt_irrefl _ h, fun b e => ?_, fun j _ b e => ?_⟩
  · simp [Value.ownBlock] at e
  · simp [Value.ownBlock] at e
  · simp [Value.ownBlock]
  · simp [Value.ownBlock] at e
  · simp [Value.ownBlock] at e
theorem usP_len {p : Nat → Con} {m : Nat} (h : ∀ i, i < m → (p i).n ≤ 1048576) (j : Nat) : (usP p m j).length ≤ m * 1048576 := by
  induction m with
  | zero => simp [usP]
  | succ m ih =>
    have h1 := ih fun i hi => h i (by omega)
    have h2 := usT_len m (p m).c (p m).l (p m).n j
    have h3 := h m (by omega)
    show (usP p m j ++ usT m (p m).c (p m).l (p m).n j).length ≤ _
    rw [List.length_append]
    omega

set_option maxRecDepth 100000 in
set_option maxHeartbeats 3200000 in
theorem newPg_any (A : Option Addr) (m cap : Nat) (p : Nat → Con) (w : World) (hm : m ≤ 1400) (hr : RdP w w.heap.size A m p) (hok : ∀ i, i < m → okC (p i) ∧ (p i).n ≤ 1048576) :
    Calls Try.prog 40 #[.slice A m cap] w fun e w' => ∃ B lv uv, e = .returned (.pointer (some ⟨B, 0, none⟩)) ∧ Pg w' (fun k => k < w.heap.size) B lv m m p (fun i => slkC (p i) z0) (usP p m) uv ∧ Below w.heap.size w w' := by
  have HR := Lib.hid hr
  have HO := Lib.hid hok
  clear hr hok
  go_enter Try.func40, Try.ntmps40
  go_upto_region 2 with fail
  have hb0 := bl_alloc (Below.refl w.heap.size w) (.cells Try.zeroCells90 90)
  have HB0 := Lib.hid hb0
  have HP0 := Lib.hid (pg_new w p (fun i => slkC (p i) z0))
  clear hb0
  generalize (w.alloc (.cells Try.zeroCells90 90)) = W0 at *
  obtain ⟨B, hB⟩ : ∃ B, w.heap.size = B := ⟨_, rfl⟩
  have hml : (m : Int) ≤ 1400 := by omega
  rw [hB] at HB0 HP0 HR ⊢
  have HBw := Lib.hid hB
  clear hB
  go_wp2
  go_loopw [10] (fun i wx => ∃ (k : Nat) (lv : Value) (uv : Nat → Value), i = .int .i64 k ∧ k ≤ m ∧ Pg wx (fun k => k < B) B lv k k p (fun i => slkC (p i) z0) (usP p k) uv ∧ Below B w wx) (fun i _ => m - (intOf i).toNat)
  case atStart => exact ⟨0, _, _, rfl, Nat.zero_le _, HP0.out, HB0.out⟩
  case round =>
    obtain ⟨k, lv, uv, rfl, hk, hp, hb⟩ := hrel
    have HP := Lib.hid hp
    have HB := Lib.hid hb
    clear hp hb
    by_cases hlt : k < m
    · obtain ⟨b, off, rfl, hbl, hc⟩ := (HR.out.below HB.out) (by omega)
      obtain ⟨Ai, ci, c0, c1, hrd⟩ := hc k hlt
      obtain ⟨hq, hn⟩ := HO.out k hlt
      have hkI : (k : Int) < (m : Int) := by omega
      have hk0 : (0 : Int) ≤ (k : Int) := by omega
      have hus := fun j => usP_len (fun i hi => (HO.out i (by omega)).2) (m := k) (p := p) j
      have HU := Lib.hid hus
      have HRd := Lib.hid hrd
      have HQ := Lib.hid hq
      have hbr := bl_alloc (Below.refl wr.heap.size wr) (.cells #[.slice Ai (p k).n ci, .int .i64 (p k).bd] 25)
      have HPx := Lib.hid (HP.out.below hbr)
      have hBr := HP.out.cel.lt
      have HBx := Lib.hid (HB.out.trans (hbr.mono (Nat.le_of_lt hBr)))
      have HRx := Lib.hid (rd_f (F := fun k => k < B) (HRd.out.below (hbr.mono (Nat.le_of_lt hBr))) (fun _ h => h))
      clear hc hrd hq hus hbr HP HB HRd
      go_wp2_with fail
      refine (pgAdd_any (fun k => k < B) B lv k p _ _ uv Ai ci _ HPx.out HRx.out HQ.out hn (by omega) HU.out).mono ?_
      rintro e w2 ⟨rfl, lv2, uv2, hp, hb⟩
      have HP2 := Lib.hid (show Pg w2 (fun k => k < B) B lv2 (k + 1) (k + 1) p (fun i => slkC (p i) z0) (usP p (k + 1)) uv2 from by
        have e1 : (fun i => if i = k then slkC (p k) z0 else slkC (p i) z0) = fun i => slkC (p i) z0 := by
          funext i
          by_cases e : i = k
          · subst e; simp
          · simp [e]
        rw [e1] at hp
        exact hp)
      have HB2 := Lib.hid (HBx.out.trans (keeps_bl hb))
      clear hp hb HPx HBx HRx HU c0 c1
      go_wp2
      go_roundw
      case rel => exact ⟨k + 1, _, _, by go_num, by omega, HP2.out, HB2.out⟩
      case measure => simp [intOf]; omega
    · have e : k = m := by omega
      subst e
      go_wp2
      go_ret
      exact ⟨B, _, _, rfl, by rw [HBw.out]; exact HP.out, by rw [HBw.out]; exact HB.out⟩
end Go.Proofs.Ytckaeaclclhapaa

namespace Go.Proofs.Ytckaeaclclhapaa
open Go.ChangeShapes Go.WideShapes Go.ChangeAt Go.RowKit Go.Shelf

/-- The block of a propagation: its propagator, its values, the slacks of the m constraints. -/
def PsAt (w : World) (S B : Nat) (v : Nat → Int) (m : Nat) (sl : Nat → Int) : Prop :=
  ∃ cs, w.heap[S]? = some (.cells cs 118 (0, 0)) ∧ cs.size = 1413 ∧ cs[0]? = some (.pointer (some ⟨B, 0, none⟩)) ∧ (∀ i, i < 12 → cs[1 + i]? = some (.int .i64 (v i))) ∧ ∀ i, i < m → cs[13 + i]? = some (.int .i64 (sl i))
section
variable {w w' : World} {S B m : Nat} {v sl : Nat → Int}
theorem PsAt.lt (h : PsAt w S B v m sl) : S < w.heap.size := by
  obtain ⟨cs, hh, _⟩ := h
  rcases Nat.lt_or_ge S w.heap.size with hlt | hge
  · exact hlt
  · rw [Array.getElem?_eq_none hge] at hh; cases hh
theorem PsAt.same (h : PsAt w S B v m sl) (hg : w'.heap[S]? = w.heap[S]?) : PsAt w' S B v m sl := by
  obtain ⟨cs, hh, h1⟩ := h
  exact ⟨cs, hg.trans hh, h1⟩
theorem PsAt.below (h : PsAt w S B v m sl) (hb : Below w.heap.size w w') : PsAt w' S B v m sl := h.same (hb.block S h.lt)
theorem PsAt.frozen (h : PsAt w S B v m sl) (j : Nat) : w.frozen? ⟨S, j, none⟩ = false := by
  obtain ⟨cs, hh, _⟩ := h
  simp [World.frozen?, hh]
theorem PsAt.cellP (h : PsAt w S B v m sl) : w.cell? ⟨S, 0, none⟩ = some (.pointer (some ⟨B, 0, none⟩)) := by
  obtain ⟨cs, hh, _, h1, _⟩ := h
  exact (cell_of_row w S 0 cs _ _ hh).trans h1
theorem PsAt.cellV (h : PsAt w S B v m sl) {i : Nat} (hi : i < 12) : w.cell? ⟨S, 1 + i, none⟩ = some (.int .i64 (v i)) := by
  obtain ⟨cs, hh, _, _, h2, _⟩ := h
  exact (cell_of_row w S _ cs _ _ hh).trans (h2 i hi)
theorem PsAt.cellS (h : PsAt w S B v m sl) {i : Nat} (hi : i < m) : w.cell? ⟨S, 13 + i, none⟩ = some (.int .i64 (sl i)) := by
  obtain ⟨cs, hh, _, _, _, h3⟩ := h
  exact (cell_of_row w S _ cs _ _ hh).trans (h3 i hi)
theorem PsAt.setV (h : PsAt w S B v m sl) {k : Nat} (hk : k < 12) (z : Int) : PsAt (w.setCell ⟨S, 1 + k, none⟩ (.int .i64 z)) S B (fun i => if i = k then z else v i) m sl := by
  obtain ⟨cs, hh, hs, h1, h2, h3⟩ := h
  refine ⟨cs.setIfInBounds (1 + k) (.int .i64 z), heap_put _ hh, by simpa using hs, ?_, fun i hi => ?_, fun j hj => ?_⟩
  · rw [Array.getElem?_setIfInBounds, if_neg (by omega)]; exact h1
  · rw [Array.getElem?_setIfInBounds]
    by_cases e : i = k
    · subst e
      rw [if_pos rfl, if_pos (by omega)]
      simp
    · rw [if_neg (by omega)]
      show _ = some (Value.int .i64 (if i = k then z else v i))
      rw [if_neg e]
      exact h2 i hi
  · rw [Array.getElem?_setIfInBounds, if_neg (by omega)]; exact h3 j hj
theorem PsAt.setS (h : PsAt w S B v m sl) {k : Nat} (hk : k < m) (hm : m ≤ 1400) (z : Int) : PsAt (w.setCell ⟨S, 13 + k, none⟩ (.int .i64 z)) S B v m (fun i => if i = k then z else sl i) := by
  obtain ⟨cs, hh, hs, h1, h2, h3⟩ := h
  refine ⟨cs.setIfInBounds (13 + k) (.int .i64 z), heap_put _ hh, by simpa using hs, ?_, fun i hi => ?_, fun j hj => ?_⟩
  · rw [Array.getElem?_setIfInBounds, if_neg (by omega)]; exact h1
  · rw [Array.getElem?_setIfInBounds, if_neg (by omega)]; exact h2 i hi
  · rw [Array.getElem?_setIfInBounds]
    by_cases e : j = k
    · subst e
      rw [if_pos rfl, if_pos (by omega)]
      simp
    · rw [if_neg (by omega)]
      show _ = some (Value.int .i64 (if j = k then z else sl j))
      rw [if_neg e]
      exact h3 j hj
end

/-- What a literal's variable gets. -/
def sgn1 (z : Int) : Int := if 0 < z then 1 else -1
def vix (z : Int) : Nat := (ab z - 1).toNat
theorem vix_lt {z : Int} (h : litB z = true) : vix z < 12 ∧ ab z = (vix z : Int) + 1 := by
  obtain ⟨h0, h1, h2⟩ := litB_iff.1 h
  have h3 := ab_pos h
  have h4 : ab z ≤ 12 := by unfold ab; split <;> omega
  unfold vix
  omega
theorem asg_vix {v : Nat → Int} {z : Int} (h : litB z = true) : asg v z = fun i => if i = vix z then sgn1 z else v i := by
  obtain ⟨h0, h1, h2⟩ := litB_iff.1 h
  funext i
  unfold asg sgn1 vix
  by_cases hp : 0 < z
  · have e : ab z = z := by unfold ab; rw [if_neg (by omega)]
    rw [if_pos hp, if_pos hp, e]
  · have e : ab z = -z := by unfold ab; rw [if_pos (by omega)]
    rw [if_neg hp, if_neg hp, e]

set_option maxRecDepth 100000 in
set_option maxHeartbeats 1600000 in
theorem ptMake_any (G o : Nat) (z : Int) (w : World) (hz : litB z = true) (hc : ∀ i, i < 12 → ∃ u, w.cell? ⟨G, o + i, none⟩ = some u) (hf : ∀ i, i < 12 → w.frozen? ⟨G, o + i, none⟩ = false) :
    Calls Try.prog 57 #[.pointer (some ⟨G, o, none⟩), .int .i64 z] w fun e w' => e = .returned (.tuple #[]) ∧ w' = (w.setCell ⟨G, o + vix z, none⟩ (.int .i64 (sgn1 z))).drew := by
  obtain ⟨h0, h1, h2⟩ := litB_iff.1 hz
  obtain ⟨hi, hab⟩ := vix_lt hz
  obtain ⟨u, hu⟩ := hc _ hi
  have hfi := hf _ hi
  have hvar := fun W => litVariable_same z W h1 h2
  rw [hab] at hvar
  obtain ⟨i, hie⟩ : ∃ i, vix z = i := ⟨_, rfl⟩
  rw [hie] at hi hu hfi hvar ⊢
  have HV := Lib.hid hvar
  have hw1 : wrap64 ((i : Int) + 1 - 1) = (i : Int) := by rw [← IntWalk.i64_left, IntWalk.i64_in _ (by omega)]; omega
  have hw2 : IntKind.i64.wrap ((i : Int) + 1 - 1) = (i : Int) := by rw [IntWalk.i64_in _ (by omega)]; omega
  have hw0 : IntKind.i64.wrap (i : Int) = (i : Int) := IntWalk.i64_in _ (by omega)
  have hi0 : (0 : Int) ≤ (i : Int) := by omega
  have hi1 : (i : Int) < 12 := by omega
  have hsg : sgn1 z = if z < 0 then -1 else 1 := by unfold sgn1; split <;> split <;> omega
  clear hc hf hvar hie hab
  by_cases hp : z < 0
  · rw [hsg, if_pos hp]
    clear hsg hz h0 h1 h2
    go_enter Try.func57, Try.ntmps57
    go_wp2_with (first | (go_at_call 43; refine (litNegated_any _ _).mono ?_; rintro e w2 ⟨rfl, rfl⟩) | (go_at_call 26; refine (HV.out _).mono ?_; rintro e w2 ⟨rfl, rfl⟩))
    go_region_law (go_simp; go_at_call 26; refine (HV.out _).mono ?_; rintro e w3 ⟨rfl, rfl⟩)
    all_goals go_wp2
    all_goals exact ⟨rfl, .tuple #[], by simp [results, Try.results57], rfl, rfl⟩
  · rw [hsg, if_neg hp]
    clear hsg hz h0 h1 h2
    go_enter Try.func57, Try.ntmps57
    go_wp2_with (first | (go_at_call 43; refine (litNegated_any _ _).mono ?_; rintro e w2 ⟨rfl, rfl⟩) | (go_at_call 26; refine (HV.out _).mono ?_; rintro e w2 ⟨rfl, rfl⟩))
    go_region_law (go_simp; go_at_call 26; refine (HV.out _).mono ?_; rintro e w3 ⟨rfl, rfl⟩)
    all_goals go_wp2
    all_goals exact ⟨rfl, .tuple #[], by simp [results, Try.results57], rfl, rfl⟩
end Go.Proofs.Ytckaeaclclhapaa

namespace Go.Proofs.Ytckaeaclclhapaa
open Go.ChangeShapes Go.WideShapes Go.ChangeAt Go.RowKit Go.Shelf

/-- What the uses of a list take off the slack of constraint i. -/
def sumU : List (Nat × Int) → Nat → Int
  | [], _ => 0
  | r :: rs, i => (if r.1 = i then r.2 else 0) + sumU rs i
theorem sumU_append (xs ys : List (Nat × Int)) (i : Nat) : sumU (xs ++ ys) i = sumU xs i + sumU ys i := by
  induction xs with
  | nil => show sumU ys i = 0 + sumU ys i; omega
  | cons x xs ih => show _ + sumU (xs ++ ys) i = _ + sumU xs i + sumU ys i; rw [ih]; omega
theorem sumU_nonneg {xs : List (Nat × Int)} (h : ∀ r ∈ xs, 0 ≤ r.2) (i : Nat) : 0 ≤ sumU xs i := by
  induction xs with
  | nil => exact Int.le_refl _
  | cons x xs ih =>
    have h1 := ih fun r hr => h r (List.mem_cons_of_mem _ hr)
    have h2 := h x List.mem_cons_self
    show 0 ≤ _ + sumU xs i
    split <;> omega
theorem sumU_take {xs : List (Nat × Int)} (h : ∀ r ∈ xs, 0 ≤ r.2) (i t : Nat) : 0 ≤ sumU (xs.take t) i ∧ sumU (xs.take t) i ≤ sumU xs i := by
  have h1 := sumU_nonneg (xs := xs.take t) (fun r hr => h r (List.mem_of_mem_take hr)) i
  have h2 := sumU_nonneg (xs := xs.drop t) (fun r hr => h r (List.mem_of_mem_drop hr)) i
  have h3 := sumU_append (xs.take t) (xs.drop t) i
  rw [List.take_append_drop] at h3
  omega
theorem ucells_at : ∀ (L : List (Nat × Int)) (t : Nat) (ht : t < L.length), (ucells L)[t * 2]? = some (.int .i64 (L[t].1 : Nat)) ∧ (ucells L)[t * 2 + 1]? = some (.int .i64 L[t].2)
  | r :: rs, 0, _ => ⟨rfl, rfl⟩
  | r :: rs, t + 1, ht => by
    have := ucells_at rs t (by simpa using ht)
    rw [show (t + 1) * 2 = t * 2 + 1 + 1 by omega]
    exact this
theorem row_read {w : World} {B n : Nat} {T : TypeId} {v : Value} {L : List (Nat × Int)} (h : w.ownsRow B T 2 v n (ucells L)) (hn : n = L.length) (h0 : 0 < n) : ∃ g cap, v = .slice (some ⟨g, 0, none⟩) n cap ∧ g < w.heap.size ∧ ∀ t (ht : t < L.length), w.cell? ⟨g, t * 2, none⟩ = some (.int .i64 (L[t].1 : Nat)) ∧ w.cell? ⟨g, t * 2 + 1, none⟩ = some (.int .i64 L[t].2) := by
  have hlt := h.lt
  rcases h.2 with ⟨_, hz⟩ | ⟨g, cap, cur, rfl, hg, hh, hnc, _, hsz, htk⟩
  · omega
  · refine ⟨g, cap, rfl, (hlt g rfl).2, fun t ht => ?_⟩
    obtain ⟨h1, h2⟩ := ucells_at L t ht
    rw [← htk] at h1 h2
    rw [List.getElem?_take_of_lt (by omega)] at h1 h2
    exact ⟨(cell_of_row w g _ cur _ _ hh).trans (by simpa using h1), (cell_of_row w g _ cur _ _ hh).trans (by simpa using h2)⟩
/-- A propagator under what turns one younger block alone. -/
theorem Pg.other {w w' : World} {lo : Nat → Prop} {B m s S : Nat} {lv : Value} {p : Nat → Con} {sl : Nat → Int} {us : Nat → List (Nat × Int)} {uv : Nat → Value} (h : Pg w lo B lv m s p sl us uv) (hg : w.grownBy w' (some S)) (hB : B < S ∧ ¬ lo S) (hl : ∀ b, lv.ownBlock = some b → b < S) (hu : ∀ j, j < 25 → ∀ b, (uv j).ownBlock = some b → b < S) : Pg w' lo B lv m s p sl us uv :=
  h.kept hg (grown_keeps hg h.f0 fun k e => by cases e; exact hB.2) (by simp; omega) (none_or fun b e e2 => by have := hl b e; injection e2 with e3; omega) (fun j hj => none_or fun b e e2 => by have := hu j hj b e; injection e2 with e3; omega)

set_option maxRecDepth 100000 in
set_option maxHeartbeats 3200000 in
theorem psMake_any (S B : Nat) (lo : Nat → Prop) (mm s k : Nat) (lv : Value) (p : Nat → Con) (sl0 : Nat → Int) (us : Nat → List (Nat × Int)) (uv : Nat → Value) (v : Nat → Int) (m : Nat) (sl : Nat → Int) (z : Int) (w : World)
    (hPs : PsAt w S B v m sl) (hPg : Pg w lo B lv mm s p sl0 us uv) (hB : B < S ∧ ¬ lo S) (hl : ∀ b, lv.ownBlock = some b → b < S) (hu : ∀ j, j < 25 → ∀ b, (uv j).ownBlock = some b → b < S)
    (hz : litB z = true) (hk : 12 - z = (k : Int)) (hr : ∀ r ∈ us k, r.1 < m ∧ 0 ≤ r.2 ∧ r.2 ≤ 1000) (hlen : (us k).length ≤ 1500000000) (hbd : ∀ i, i < m → -2000000000 ≤ sl i - sumU (us k) i ∧ sl i ≤ 2000000000) (hm : m ≤ 1400) :
    Calls Try.prog 61 #[.pointer (some ⟨S, 0, none⟩), .int .i64 z] w fun e w' => e = .returned (.tuple #[]) ∧ PsAt w' S B (asg v z) m (fun i => sl i - sumU (us k) i) ∧ w.grownBy w' (some S) := by
  obtain ⟨z0', z1, z2⟩ := litB_iff.1 hz
  have hk25 : k < 25 := by omega
  obtain ⟨L, hL⟩ : ∃ L, us k = L := ⟨_, rfl⟩
  rw [hL] at hr hlen hbd ⊢
  have HL := Lib.hid hL
  clear hL
  have HC := Lib.hid (fun i (hi : i < 12) => (⟨_, hPs.cellV hi⟩ : ∃ u, w.cell? ⟨S, 1 + i, none⟩ = some u))
  have HF := Lib.hid (fun i (_ : i < 12) => hPs.frozen (1 + i))
  have HPg := Lib.hid hPg
  have HOth := Lib.hid (fun (w' : World) (hg : w.grownBy w' (some S)) => hPg.other hg hB hl hu)
  have HU := Lib.hid hu
  have HRr := Lib.hid hr
  have HBd := Lib.hid hbd
  have HZ := Lib.hid hz
  have HA := Lib.hid (show PsAt ((w.setCell ⟨S, 1 + vix z, none⟩ (.int .i64 (sgn1 z))).drew) S B (asg v z) m sl from by
    rw [asg_vix hz]
    exact (hPs.setV (vix_lt hz).1 (sgn1 z)).same rfl)
  have HG := Lib.hid (show w.grownBy ((w.setCell ⟨S, 1 + vix z, none⟩ (.int .i64 (sgn1 z))).drew) (some S) from by
    have := grown_set w S (1 + vix z) (.int .i64 (sgn1 z))
    exact ⟨this.os, this.tape, this.output, this.size, this.block⟩)
  have hw1 : wrap64 (12 - z) = (k : Int) := by rw [hk, ← IntWalk.i64_left]; exact IntWalk.i64_in _ (by omega)
  have hw2 : IntKind.i64.wrap (12 - z) = (k : Int) := by rw [hk]; exact IntWalk.i64_in _ (by omega)
  have hkI : (k : Int) < 25 := by omega
  have hk0 : (0 : Int) ≤ (k : Int) := by omega
  clear hPs hPg hl hu hr hbd hz hk z0' z1 z2
  go_enter Try.func61, Try.ntmps61
  go_wp2_with fail
  refine (ptMake_any S 1 z w HZ.out HC.out HF.out).mono ?_
  rintro e w1 ⟨rfl, rfl⟩
  generalize (w.setCell ⟨S, 1 + vix z, none⟩ (.int .i64 (sgn1 z))).drew = W1 at *
  have hcp := HA.out.cellP
  have HP1 := HOth.out _ HG.out
  have hcu := HP1.cel.cellU hk25
  obtain ⟨Au, capu, hue⟩ := row_slice (HP1.use k hk25)
  rw [hue] at hcu
  have HUe := Lib.hid hue
  rw [HL.out] at hcu
  have HUe2 := Lib.hid (show uv k = .slice Au L.length capu from by rw [HUe.out, HL.out])
  clear HP1 hue HC HF
  go_wp2
  go_loopw [22] (fun i wx => ∃ t : Nat, i = .int .i64 t ∧ t ≤ L.length ∧ PsAt wx S B (asg v z) m (fun i => sl i - sumU (L.take t) i) ∧ w.grownBy wx (some S)) (fun i _ => L.length - (intOf i).toNat)
  case atStart => exact ⟨0, rfl, Nat.zero_le _, by simpa [sumU] using HA.out, HG.out⟩
  case round =>
    obtain ⟨t, rfl, ht, hp, hg⟩ := hrel
    have HPs := Lib.hid hp
    have HGr := Lib.hid hg
    clear hp hg
    by_cases hlt : t < L.length
    · have hrow := (HOth.out _ HGr.out).use k hk25
      rw [HUe2.out, HL.out] at hrow
      obtain ⟨g, cap, he, hgl, hcell⟩ := row_read hrow rfl (by omega)
      cases he
      obtain ⟨c1, c2⟩ := hcell t hlt
      obtain ⟨h1, h2, h3⟩ := HRr.out _ (List.getElem_mem hlt)
      have hsum := fun i => sumU_take (fun r hr => (HRr.out r hr).2.1) i t
      have htk : L.take (t + 1) = L.take t ++ [L[t]] := List.take_succ_eq_append_getElem hlt
      obtain ⟨⟨ix, cf⟩, hr⟩ : ∃ r, L[t] = r := ⟨_, rfl⟩
      rw [hr] at c1 c2 h1 h2 h3 htk
      simp only at c1 c2 h1 h2 h3
      obtain ⟨cu, hcu'⟩ : ∃ cu, sl ix - sumU (L.take t) ix = cu := ⟨_, rfl⟩
      have hcs := HPs.out.cellS h1
      rw [hcu'] at hcs
      have hfs := HPs.out.frozen (13 + ix)
      have hb1 := HBd.out ix h1
      have hb2 := hsum ix
      obtain ⟨nw, hnw⟩ : ∃ nw, cu - cf = nw := ⟨_, rfl⟩
      have hwr : IntKind.i64.wrap (cu - cf) = nw := by rw [← hnw]; exact IntWalk.i64_in _ (by omega)
      have HFn := Lib.hid (show (fun i => sl i - sumU (L.take (t + 1)) i) = fun i => if i = ix then nw else sl i - sumU (L.take t) i from by
        funext i
        rw [htk, sumU_append]
        by_cases e : i = ix
        · subst e
          rw [if_pos rfl]
          show sl i - (_ + ((if i = i then cf else 0) + 0)) = nw
          rw [if_pos rfl]
          omega
        · rw [if_neg e]
          show sl i - (_ + ((if ix = i then cf else 0) + 0)) = _
          rw [if_neg (fun h => e h.symm)]
          omega)
      have hixI : (ix : Int) < 1400 := by omega
      have hix0 : (0 : Int) ≤ (ix : Int) := by omega
      have hltI : (t : Int) < (L.length : Int) := by omega
      have ht0 : (0 : Int) ≤ (t : Int) := by omega
      have hzS := HPs.out.lt
      clear hcell hrow hsum htk hr hcu' hb1 hb2 hnw
      go_upto_region 4 with fail
      have hal := bl_alloc (Below.refl wr.heap.size wr) (.cells #[.int .i64 (ix : Nat), .int .i64 cf] 104)
      have t0 : (wr.alloc (.cells #[.int .i64 (ix : Nat), .int .i64 cf] 104)).cell? ⟨wr.heap.size, 0, none⟩ = some (.int .i64 (ix : Nat)) := by go_simp
      have t1 : (wr.alloc (.cells #[.int .i64 (ix : Nat), .int .i64 cf] 104)).cell? ⟨wr.heap.size, 1, none⟩ = some (.int .i64 cf) := by go_simp
      replace hcs := kc hal hcs
      replace hfs := kf hal hzS hfs
      have HPa := Lib.hid (HPs.out.below hal)
      have HGa := Lib.hid (grown_trans HGr.out (below_grown (G := S) hal))
      clear hal HPs HGr c1 c2
      generalize wr.alloc (.cells #[.int .i64 (ix : Nat), .int .i64 cf] 104) = W at *
      go_still_tail 13, (by kernel_rfl)
      change wpList _ _ _ _ _ W.drew
      go_wp2
      go_roundw
      case rel =>
        refine ⟨t + 1, by go_num, by omega, ?_, grown_trans HGa.out ?_⟩
        · rw [HFn.out]
          exact (HPa.out.same (w' := W.drew) rfl).setS h1 hm nw
        · have := grown_set W.drew S (13 + ix) (.int .i64 nw)
          exact ⟨this.os, this.tape, this.output, this.size, this.block⟩
      case measure => simp [intOf]; omega
    · have e : t = L.length := by omega
      subst e
      go_wp2
      exact ⟨rfl, .tuple #[], by simp [results, Try.results61], rfl, by have := HPs.out; rwa [List.take_length] at this, HGr.out⟩
end Go.Proofs.Ytckaeaclclhapaa

namespace Go.Proofs.Ytckaeaclclhapaa
open Go.ChangeShapes Go.WideShapes Go.ChangeAt Go.RowKit Go.Shelf

theorem sumU_usT (j : Nat) (c l : Nat → Int) (n k i : Nat) : sumU (usT j c l n k) i = if j = i then cof c l ((k : Int) - 12) n else 0 := by
  induction n with
  | zero => unfold usT cof; split <;> rfl
  | succ n ih =>
    unfold usT cof
    rw [sumU_append, ih]
    by_cases h : 12 + l n = (k : Int)
    · rw [if_pos h, if_pos (show l n = (k : Int) - 12 by omega)]
      show _ + ((if j = i then c n else 0) + 0) = _
      split <;> omega
    · rw [if_neg h, if_neg (show ¬ l n = (k : Int) - 12 by omega)]
      show _ + 0 = _
      split <;> omega
theorem sumU_usP (p : Nat → Con) (m k i : Nat) : sumU (usP p m k) i = if i < m then cof (p i).c (p i).l ((k : Int) - 12) (p i).n else 0 := by
  induction m with
  | zero => rw [if_neg (by omega)]; rfl
  | succ m ih =>
    show sumU (usP p m k ++ usT m (p m).c (p m).l (p m).n k) i = _
    rw [sumU_append, ih, sumU_usT]
    by_cases e : m = i
    · subst e
      rw [if_neg (by omega), if_pos rfl, if_pos (by omega)]
      omega
    · rw [if_neg e]
      by_cases h : i < m
      · rw [if_pos h, if_pos (by omega)]
        omega
      · rw [if_neg h, if_neg (by omega)]
        omega
theorem usT_mem {j : Nat} {c l : Nat → Int} {n k : Nat} {r : Nat × Int} (h : r ∈ usT j c l n k) : r.1 = j ∧ ∃ t, t < n ∧ r.2 = c t := by
  induction n with
  | zero => simp [usT] at h
  | succ n ih =>
    unfold usT at h
    rw [List.mem_append] at h
    rcases h with h | h
    · obtain ⟨a, t, ht, e⟩ := ih h
      exact ⟨a, t, by omega, e⟩
    · split at h
      · rw [List.mem_singleton] at h
        subst h
        exact ⟨rfl, n, by omega, rfl⟩
      · cases h
theorem usP_mem {p : Nat → Con} {m k : Nat} (hok : ∀ i, i < m → okC (p i)) {r : Nat × Int} (h : r ∈ usP p m k) : r.1 < m ∧ 0 ≤ r.2 ∧ r.2 ≤ 1000 := by
  induction m with
  | zero => cases h
  | succ m ih =>
    rcases List.mem_append.1 (show r ∈ usP p m k ++ usT m (p m).c (p m).l (p m).n k from h) with h | h
    · have := ih (fun i hi => hok i (by omega)) h
      exact ⟨by omega, this.2⟩
    · obtain ⟨a, t, ht, e⟩ := usT_mem h
      have := coef_of (hok m (by omega)) t ht
      exact ⟨by omega, by omega, by omega⟩
theorem PsAt.congr {w : World} {S B m : Nat} {v sl sl' : Nat → Int} (h : PsAt w S B v m sl) (he : ∀ i, i < m → sl i = sl' i) : PsAt w S B v m sl' := by
  obtain ⟨cs, h0, h1, h2, h3, h4⟩ := h
  exact ⟨cs, h0, h1, h2, h3, fun i hi => by rw [h4 i hi, he i hi]⟩

theorem psGo_any (S B : Nat) (lo : Nat → Prop) (m : Nat) (lv : Value) (p : Nat → Con) (uv : Nat → Value) (v : Nat → Int) (z : Int) (w : World) (hm : m ≤ 1400) (hok : ∀ i, i < m → okC (p i) ∧ (p i).n ≤ 1048576)
    (hPs : PsAt w S B v m (fun i => slkC (p i) v)) (hPg : Pg w lo B lv m m p (fun i => slkC (p i) z0) (usP p m) uv) (hB : B < S ∧ ¬ lo S) (hl : ∀ b, lv.ownBlock = some b → b < S) (hu : ∀ j, j < 25 → ∀ b, (uv j).ownBlock = some b → b < S)
    (hz : litB z = true) (hv : stV v z = 0) :
    Calls Try.prog 61 #[.pointer (some ⟨S, 0, none⟩), .int .i64 z] w fun e w' => e = .returned (.tuple #[]) ∧ PsAt w' S B (asg v z) m (fun i => slkC (p i) (asg v z)) ∧ w.grownBy w' (some S) := by
  obtain ⟨h0, h1, h2⟩ := litB_iff.1 hz
  obtain ⟨k, hk⟩ : ∃ k : Nat, 12 - z = (k : Int) := ⟨(12 - z).toNat, by omega⟩
  have hs : ∀ i, i < m → slkC (p i) v - sumU (usP p m k) i = slkC (p i) (asg v z) := fun i hi => by
    rw [sumU_usP, if_pos hi, slk_asg (hok i hi).1 hz hv, show (k : Int) - 12 = -z by omega]
  refine (psMake_any S B lo m m k lv p _ (usP p m) uv v m _ z w hPs hPg hB hl hu hz hk (fun r hr => usP_mem (fun i hi => (hok i hi).1) hr) (by have := usP_len (fun i hi => (hok i hi).2) (m := m) (p := p) k; omega) (fun i hi => ?_) hm).mono fun e w' ⟨he, hp, hg⟩ => ⟨he, hp.congr hs, hg⟩
  rw [hs i hi]
  have a := slk_bd (v := asg v z) (show validB (p i).n (p i).c (p i).l (p i).bd = true from (hok i hi).1)
  have b := slk_bd (v := v) (show validB (p i).n (p i).c (p i).l (p i).bd = true from (hok i hi).1)
  have c := (hok i hi).2
  unfold slkC
  omega

/-- The queue behind i sends. -/
def qu (i : Nat) : Array Value := ((List.range i).map fun j => Value.int .i64 (j : Nat)).toArray
theorem qu_push (i : Nat) : (qu i).push (.int .i64 (i : Nat)) = qu (i + 1) := by simp [qu, List.range_succ]
theorem qu_size (i : Nat) : (qu i).size = i := by simp [qu]
/-- The queue from i on. -/
def rot (m i : Nat) : Array Value := ((List.range m).map fun j => Value.int .i64 (((i + j) % m : Nat) : Int)).toArray
theorem rot_size (m i : Nat) : (rot m i).size = m := by simp [rot]
theorem rot_head {m i : Nat} (h : i < m) : (rot m i).getD 0 undef = .int .i64 (i : Nat) := by
  unfold rot
  rw [Array.getD_eq_getD_getElem?]
  simp [show 0 < m by omega]
  exact Int.emod_eq_of_lt (by omega) (by omega)
theorem rot_next {m i : Nat} (h : i < m) : ((rot m i).extract 1 (rot m i).size).push (.int .i64 (i : Nat)) = rot m (nxt m i) := by
  obtain ⟨k, rfl⟩ : ∃ k, m = k + 1 := ⟨m - 1, by omega⟩
  apply Array.ext'
  rw [rot_size]
  unfold rot
  rw [Array.toList_push, Array.toList_extract]
  have h1 : (List.range (k + 1)).map (fun j => Value.int .i64 (((nxt (k + 1) i + j) % (k + 1) : Nat) : Int)) = (List.range k).map (fun j => Value.int .i64 (((i + (j + 1)) % (k + 1) : Nat) : Int)) ++ [.int .i64 (i : Nat)] := by
    rw [List.range_succ, List.map_append]
    congr 1
    · apply List.map_congr_left
      intro j _
      congr 2
      unfold nxt
      split
      · rename_i e
        rw [show i + (j + 1) = j + (k + 1) by omega, Nat.add_mod_right, Nat.zero_add]
      · congr 1
        omega
    · simp only [List.map_cons, List.map_nil]
      congr 3
      unfold nxt
      split
      · rw [Nat.zero_add, Nat.mod_eq_of_lt (by omega)]; omega
      · rw [show i + 1 + k = i + (k + 1) by omega, Nat.add_mod_right, Nat.mod_eq_of_lt h]
  rw [h1]
  congr 1
  rw [List.range_succ_eq_map]
  simp [List.extract, List.take_of_length_le]
theorem rot_qu (m : Nat) : qu m = rot m 0 := by
  unfold qu rot
  congr 1
  apply List.map_congr_left
  intro j hj
  rw [List.mem_range] at hj
  rw [Nat.zero_add, Nat.mod_eq_of_lt hj]
end Go.Proofs.Ytckaeaclclhapaa

namespace Go.Proofs.Ytckaeaclclhapaa
open Go.Conc Go.ChangeShapes Go.WideShapes Go.ChangeAt Go.RowKit Go.Shelf

theorem frL_zero {v : Nat → Int} {L : List Int} (h : frL v L) {k : Nat} (hk : k < L.length) : stV (asgL v (L.take k)) (gI L k) = 0 := by
  rw [gI_at hk]
  induction L generalizing v k with
  | nil => simp at hk
  | cons z zs ih =>
    obtain ⟨_, h0, ht⟩ := frL_head h
    cases k with
    | zero => exact h0
    | succ k => exact ih ht (by simpa using hk)
/-- How far behind i the queue has j. -/
def dis (m i j : Nat) : Nat := if i ≤ j then j - i else j + m - i
structure QI (w : World) (S B C m : Nat) (p : Nat → Con) (v0 : Nat → Int) (wx : World) (st i : Nat) (v : Nat → Int) (buf : Array Value) : Prop where
  im : i < m ∨ m = 0
  sm : st ≤ m
  rn : rng v
  ch : ∃ s r, wx.heap[C]? = some (.chan m buf false s r false)
  ps : PsAt wx S B v m (fun i => slkC (p i) v)
  gr : w.grownBy wx (some S)
  fx : ∀ j, j < m → m ≤ dis m i j + st → fixC (p j) v
  ru : ∀ V r, Runs p m i v V r → Runs p m 0 v0 V r
section
variable {w wx wy : World} {S B C m st i : Nat} {p : Nat → Con} {v0 v : Nat → Int} {buf buf' : Array Value}
theorem QI.chan (h : QI w S B C m p v0 wx st i v buf) (hC : w.heap.size ≤ C) (hS : S < w.heap.size) (buf' : Array Value) (s r : Nat) : QI w S B C m p v0 (wx.setChan C m buf' false s r false) st i v buf' := by
  obtain ⟨s0, r0, hch⟩ := h.ch
  exact ⟨h.im, h.sm, h.rn, ⟨s, r, heap_setChan_self wx hch _ _ _ _ _ _⟩, h.ps.same (heap_setChan_ne _ _ _ _ _ _ _ (by omega)), ⟨h.gr.os, h.gr.tape, h.gr.output, by simpa [World.setChan] using h.gr.size, fun k hk hne => by rw [heap_setChan_ne _ _ _ _ _ _ _ (by omega)]; exact h.gr.block k hk hne⟩, h.fx, h.ru⟩
theorem QI.below (h : QI w S B C m p v0 wx st i v buf) (hb : Below wx.heap.size wx wy) : QI w S B C m p v0 wy st i v buf := by
  obtain ⟨s0, r0, hch⟩ := h.ch
  exact ⟨h.im, h.sm, h.rn, ⟨s0, r0, by rw [hb.block C (Array.getElem?_eq_some_iff.1 hch).1]; exact hch⟩, h.ps.below hb, ⟨hb.os.trans h.gr.os, hb.tape.trans h.gr.tape, hb.output.trans h.gr.output, Nat.le_trans h.gr.size hb.size, fun k hk hne => by rw [hb.block k (Nat.lt_of_lt_of_le hk h.gr.size)]; exact h.gr.block k hk hne⟩, h.fx, h.ru⟩
theorem QI.next (h : QI w S B C m p v0 wx st i v buf) (hi : i < m) (hst : st < m) (hok : okC (p i)) (hs : ¬ slkC (p i) v < 0) (hp : PsAt wy S B (asgL v (impC (p i) v)) m (fun j => slkC (p j) (asgL v (impC (p i) v)))) (hg : w.grownBy wy (some S)) (hch : ∃ s r, wy.heap[C]? = some (.chan m buf' false s r false)) :
    QI w S B C m p v0 wy ((if 0 < (impC (p i) v).length then 0 else st) + 1) (nxt m i) (asgL v (impC (p i) v)) buf' := by
  refine ⟨.inl (by unfold nxt; split <;> omega), by split <;> omega, asgL_rng h.rn _, hch, hp, hg, fun j hj hd => ?_, fun V r hr => h.ru V r (.step i v V r hi hs hr)⟩
  by_cases hL : 0 < (impC (p i) v).length
  · rw [if_pos hL] at hd
    have e : j = i := by
      unfold dis nxt at hd
      split at hd <;> split at hd <;> omega
    subst e
    exact fix_step hok hs
  · rw [if_neg hL] at hd
    have e : impC (p i) v = [] := List.eq_nil_of_length_eq_zero (by omega)
    by_cases e2 : j = i
    · subst e2
      exact fix_step hok hs
    · rw [e]
      refine h.fx j hj ?_
      unfold dis nxt at hd
      unfold dis
      split at hd <;> split at hd <;> split <;> omega
theorem QI.fin (h : QI w S B C m p v0 wx m i v buf) : Runs p m 0 v0 v (-1) := h.ru _ _ (.fin i v fun j hj => h.fx j hj (by omega))
theorem QI.vio (h : QI w S B C m p v0 wx st i v buf) (hi : i < m) (hs : slkC (p i) v < 0) : Runs p m 0 v0 v (i : Nat) := h.ru _ _ (.vio i v hi hs)
end
theorem q_less {v : Nat → Int} {L : List Int} (hf : frL v L) {st m : Nat} (hst : st < m) : una (asgL v L) 12 * (m + 1) + (m - ((if 0 < L.length then 0 else st) + 1)) < una v 12 * (m + 1) + (m - st) := by
  have h := una_list hf
  by_cases hL : 0 < L.length
  · rw [if_pos hL, ← h]
    obtain ⟨k, hk⟩ : ∃ k, L.length = k + 1 := ⟨L.length - 1, by omega⟩
    rw [hk, show una (asgL v L) 12 + (k + 1) = (una (asgL v L) 12 + 1) + k by omega, Nat.add_mul, Nat.add_mul]
    have := Nat.zero_le (k * (m + 1))
    omega
  · rw [if_neg hL, show una v 12 = una (asgL v L) 12 by omega]
    omega
theorem heap_kept {w w' : World} {S C : Nat} {o : Obj} (hg : w.grownBy w' (some S)) (h : w.heap[C]? = some o) (hS : S ≠ C) : w'.heap[C]? = some o := by
  rw [hg.block C (Array.getElem?_eq_some_iff.1 h).1 (fun e => hS (by injection e with e; exact e.symm))]
  exact h
theorem row_cells {w : World} {B n cap : Nat} {A : Option Addr} {T : TypeId} {xs : List Value} (h : w.ownsRow B T 2 (.slice A n cap) n xs) {i : Nat} (hi : i < n) : ∃ g, A = some ⟨g, 0, none⟩ ∧ ∀ k u, k < n * 2 → xs[k]? = some u → w.cell? ⟨g, k, none⟩ = some u := by
  rcases h.2 with ⟨_, hz⟩ | ⟨g, cap, cur, e, hg, hh, hnc, _, hsz, htk⟩
  · omega
  · cases e
    refine ⟨g, rfl, fun k u hk hu => ?_⟩
    rw [← htk, List.getElem?_take_of_lt (by omega)] at hu
    exact (cell_of_row w g _ cur _ _ hh).trans (by simpa using hu)
theorem putS_self (ts : Array Value) (slots : List Nat) : ts = putS ts slots (fun k => ts.getD k undef) := by
  have h : ∀ k, ts.setIfInBounds k (ts.getD k undef) = ts := fun k => by
    apply Array.ext
    · simp
    · intro i h1 h2
      rw [Array.getElem_setIfInBounds]
      split
      · rename_i e
        subst e
        simp [Array.getD, h2]
      · rfl
  unfold putS
  induction slots with
  | nil => rfl
  | cons k ks ih =>
    rw [List.foldl_cons, h]
    exact ih
end Go.Proofs.Ytckaeaclclhapaa

namespace Go.Proofs.Ytckaeaclclhapaa
open Go.Conc Go.ChangeShapes Go.WideShapes Go.ChangeAt Go.RowKit Go.Shelf

theorem mkChan (w : World) (m : Nat) (hm : m ≤ 1400) : (Instr.makeChan 121 (.int .i64 m)).run Try.prog w = .ok (.chan (some w.heap.size)) (w.alloc (.chan m #[] false 0 0 false)) := by
  obtain ⟨i, hi, _, _, hb⟩ := info_parts Try.infoInt
  exact run_makeChan (P := Try.prog) (w := w) Try.underlying121 hi .i64 m (by omega) (by rw [hb]; omega)

set_option maxRecDepth 100000 in
set_option maxHeartbeats 3200000 in
theorem psRun_any (S B : Nat) (lo : Nat → Prop) (m : Nat) (lv : Value) (p : Nat → Con) (uv : Nat → Value) (v : Nat → Int) (w : World) (hm : m ≤ 1400) (hok : ∀ i, i < m → okC (p i) ∧ (p i).n ≤ 1048576) (hrn : rng v)
    (hPs : PsAt w S B v m (fun i => slkC (p i) v)) (hPg : Pg w lo B lv m m p (fun i => slkC (p i) z0) (usP p m) uv) (hB : B < S ∧ ¬ lo S) (hl : ∀ b, lv.ownBlock = some b → b < S) (hu : ∀ j, j < 25 → ∀ b, (uv j).ownBlock = some b → b < S) :
    Calls Try.prog 62 #[.pointer (some ⟨S, 0, none⟩)] w fun e w' => ∃ V r, e = .returned (.int .i64 r) ∧ Runs p m 0 v V r ∧ rng V ∧ PsAt w' S B V m (fun i => slkC (p i) V) ∧ w.grownBy w' (some S) := by
  have hSw := hPs.lt
  have HPs := Lib.hid hPs
  have HOth := Lib.hid (fun (w' : World) (hg : w.grownBy w' (some S)) => hPg.other hg hB hl hu)
  have HOk := Lib.hid hok
  have HRn := Lib.hid hrn
  have HGo := Lib.hid (fun (v1 : Nat → Int) (z : Int) (w1 : World) (h1 : PsAt w1 S B v1 m (fun i => slkC (p i) v1)) (h2 : w.grownBy w1 (some S)) (hz : litB z = true) (h0 : stV v1 z = 0) => psGo_any S B lo m lv p uv v1 z w1 hm hok h1 (hPg.other h2 hB hl hu) hB hl hu hz h0)
  have hcp := hPs.cellP
  have hcl := hPg.cel.cellL
  obtain ⟨xs, hx, _⟩ := hPg.lst
  obtain ⟨Al, capl, hle⟩ := row_slice hx
  subst hle
  have hmk := fun W => mkChan W m hm
  have HX := Lib.hid hx
  clear hx hPs hPg hok hrn hB hl hu
  refine calls_of_wpN Try.func62 rfl ?_
  simp only [Try.ntmps62, List.size_toArray, List.length_cons, List.length_nil, Nat.reduceAdd, Nat.reduceSub, Array.replicate_succ, Array.replicate_zero, List.push_toArray, List.append_toArray, List.nil_append, List.cons_append]
  refine WpN.seqK fun K hK => ?_
  go_wp2
  refine WpN.seqK fun K2 hK2 => ?_
  go_wp2
  refine WpN.seqK fun K3 hK3 => ?_
  go_wp2
  refine WpN.seqN fun K4 hK4 => ?_
  refine WpN.seqK fun K5 hK5 => ?_
  go_wp2
  refine WpN.block ?_
  generalize hQ4 : Exit.inBlock 0 (Exit.then K4 _) = Q4
  obtain ⟨C, hC⟩ : ∃ C, w.heap.size = C := ⟨_, rfl⟩
  have hstart : (w.alloc (.chan m #[] false 0 0 false)).heap[C]? = some (.chan m (qu 0) false 0 0 false) := by rw [← hC]; exact heap_alloc_new w _
  have hbst : Below C w (w.alloc (.chan m #[] false 0 0 false)) := by rw [← hC]; exact bl_alloc (Below.refl _ _) _
  rw [hC]
  refine WpN.loopS [5, 21, 22, 23, 24, 25, 26] (fun n f wx => ∃ i : Nat, n = m - i ∧ i ≤ m ∧ f 21 = .int .i64 i ∧ Below C w wx ∧ ∃ s, wx.heap[C]? = some (.chan m (qu i) false s 0 false)) (m0 := m) ⟨0, by omega, by omega, rfl, hbst, 0, hstart⟩ (by rfl) ?_
  rintro n f wx ⟨i, hn, hi, hf, hb, sc, hch⟩
  simp only [putS, List.foldl_cons, List.foldl_nil, List.setIfInBounds_toArray, List.set_cons_succ, List.set_cons_zero, hf]
  generalize hQR : Exit.then _ Q4 = QR
  by_cases hlt : i < m
  · have hltI : (i : Int) < (m : Int) := by omega
    refine WpN.seqK fun K6 hK6 => ?_
    go_wp2
    refine WpN.seqK fun K7 hK7 => ?_
    go_wp2
    refine WpN.seqN fun K8 hK8 => ?_
    refine WpN.block ?_
    generalize hQ9 : Exit.inBlock 1 (Exit.then K8 _) = Q9
    refine WpN.seqK fun K10 hK10 => ?_
    go_wp2
    refine WpN.region ?_
    refine (show OpsN _ _ _ [0, 1, 2] _ _ from ?_)
    refine OpsN.value rfl (by rfl) (by go_simp; exact ⟨rfl, rfl⟩) ?_
    refine OpsN.value rfl (by rfl) (by go_simp; exact ⟨rfl, rfl⟩) ?_
    refine OpsN.send (c := C) (v := .int .i64 (i : Nat)) (z := .tuple #[]) rfl (by rfl) (by simp [execOp, scase]; exact ⟨rfl, rfl⟩) hch (by rw [qu_size]; exact hlt) ?_
    refine OpsN.nil ?_
    rw [← hQ9]
    refine (show K8 _ _ from ?_)
    refine hK8 _ _ ?_
    clear hQ9 hK8 K8
    simp only [Act.put, List.setIfInBounds_toArray, qu_push]
    have hb2 := below_setChan hb (Nat.le_refl C) m (qu (i + 1)) false (sc + 1) 0 false
    have hch2 := heap_setChan wx C m (qu (i + 1)) false (sc + 1) 0 false (by
      rcases Nat.lt_or_ge C wx.heap.size with hlt | hge
      · exact hlt
      · rw [Array.getElem?_eq_none hge] at hch; cases hch)
    generalize wx.setChan C m (qu (i + 1)) false (sc + 1) 0 false = wy at *
    refine WpN.of ?_
    go_wp2
    rw [← hQR]
    refine (show ∃ m', _ from ⟨m - (i + 1), by omega, by rfl, i + 1, rfl, by omega, by simp, hb2, _, hch2⟩)
  · have e : m = i := by omega
    subst e
    refine WpN.seqK fun K6 hK6 => ?_
    go_wp2
    refine WpN.seqK fun K7 hK7 => ?_
    go_wp2
    rw [← hQR, ← hQ4]
    refine (show K4 _ _ from ?_)
    refine hK4 _ _ ?_
    clear hQR hQ4 hK4 K4 hstart hbst
    have HQ0 := Lib.hid (show QI w S B C m p v wx 0 0 v (rot m 0) from ⟨by omega, Nat.zero_le _, HRn.out, ⟨sc, 0, by rw [← rot_qu]; exact hch⟩, HPs.out.same (hb.block S (by omega)), ⟨hb.os, hb.tape, hb.output, by have := hb.size; omega, fun k hk _ => hb.block k (by omega)⟩, fun j hj hd => by unfold dis at hd; split at hd <;> omega, fun _ _ h => h⟩)
    clear hch hb hf
    refine WpN.seqN fun K8 hK8 => ?_
    refine WpN.seqK fun K9 hK9 => ?_
    go_wp2
    refine WpN.block ?_
    generalize hQ8 : Exit.inBlock 2 (Exit.then K8 _) = Q8
    refine WpN.loopS [6, 7, 9, 27, 28, 29, 30, 31, 32, 33, 34, 35, 36, 37, 38, 39, 40, 41, 42, 43, 44, 45, 46, 47, 48, 49, 50, 51, 52, 53, 54, 55, 56, 57, 58, 59, 60, 61, 62, 63, 64, 65, 66, 67, 68, 69, 70, 71, 72, 73] (fun n f wx => ∃ st i v', n = una v' 12 * (m + 1) + (m - st) ∧ f 6 = .int .i64 (st : Nat) ∧ QI w S B C m p v wx st i v' (rot m i)) (m0 := una v 12 * (m + 1) + m) ⟨0, 0, v, by simp, by simp, HQ0.out⟩ (putS_self _ _) ?_
    rintro n f wx ⟨st, i, v', hn, hf, hq⟩
    have HQ := Lib.hid hq
    clear hq HQ0
    simp only [putS, List.foldl_cons, List.foldl_nil, List.setIfInBounds_toArray, List.set_cons_succ, List.set_cons_zero, hf]
    generalize hQR : Exit.then _ Q8 = QR
    by_cases hst : st < m
    · have hstI : (st : Int) < (m : Int) := by omega
      have him : i < m := by rcases HQ.out.im with h | h <;> omega
      refine WpN.seqK fun K10 hK10 => ?_
      go_wp2
      refine WpN.seqN fun K11 hK11 => ?_
      refine WpN.block ?_
      generalize hQ11 : Exit.inBlock 3 (Exit.then K11 _) = Q11
      refine WpN.seqN fun K12 hK12 => ?_
      refine WpN.region ?_
      refine (show OpsN _ _ _ [0, 1, 2] _ _ from ?_)
      obtain ⟨sc1, rc1, hch⟩ := HQ.out.ch
      refine OpsN.value rfl (by rfl) (by go_simp; exact ⟨rfl, rfl⟩) ?_
      refine OpsN.recv (c := C) (z := .int .i64 0) rfl (by rfl) (by simp [execOp, rcase]; first | rfl | exact ⟨rfl, rfl⟩) hch (by rw [rot_size]; omega) ?_
      rw [rot_head him]
      refine OpsN.value rfl (by rfl) (by go_simp; exact ⟨rfl, rfl⟩) ?_
      refine OpsN.nil ?_
      refine (show K12 _ _ from ?_)
      refine hK12 _ _ ?_
      clear hK12 K12
      simp only [Act.put, List.setIfInBounds_toArray]
      have HQ1 := Lib.hid (HQ.out.chan (by omega) hSw ((rot m i).extract 1 (rot m i).size) sc1 (rc1 + 1))
      clear hch
      generalize wx.setChan C m ((rot m i).extract 1 (rot m i).size) false sc1 (rc1 + 1) false = W1 at *
      have hp0 := HQ1.out.ps.cellP
      have hs0 := HQ1.out.ps.cellS him
      have hiI : (i : Int) < 1400 := by omega
      have hi0 : (0 : Int) ≤ (i : Int) := by omega
      by_cases hs : slkC (p i) v' < 0
      · have HR := Lib.hid (HQ1.out.vio him hs)
        refine WpN.seqK fun K13 hK13 => ?_
        go_wp2
        rw [← hQ11, ← hQR, ← hQ8]
        exact ⟨rfl, .int .i64 (i : Nat), by first | rfl | simp [results], v', i, rfl, HR.out, HQ1.out.rn, HQ1.out.ps, HQ1.out.gr⟩
      · obtain ⟨hoi, hni⟩ := HOk.out i him
        have Hoi := Lib.hid hoi
        obtain ⟨ys, hy, hcr⟩ := (HOth.out _ HQ1.out.gr).lst
        obtain ⟨Ai, ci, e0, e1, hrd⟩ := hcr i him
        obtain ⟨g, e, hgc⟩ := row_cells hy him
        subst e
        have c0 := hgc (i * 2) _ (by omega) e0
        have c1 := hgc (i * 2 + 1) _ (by omega) e1
        have hb0 := (HOth.out _ HQ1.out.gr).cel.cellL
        have HRd := Lib.hid (hrd.rd (HOth.out _ HQ1.out.gr).f0)
        have s12 : W1.rangeAt S 1 (cl12 v') := fun j u hu => by
          obtain ⟨hj, rfl⟩ := cl12_at v' j u hu
          exact HQ1.out.ps.cellV hj
        have hu12 := Try.underlying94
        have hsz12 : (Try.prog.info? 94).map (·.size) = some (cl12 v').length := by kernel_rfl
        obtain ⟨L, hL⟩ : ∃ L, imL (p i).c (p i).l v' (slkC (p i) v') (p i).n = L := ⟨_, rfl⟩
        have HL := Lib.hid (show impC (p i) v' = L from hL)
        have HFr := Lib.hid (show frL v' L from hL ▸ imp_fr hoi v')
        have hlb : L.length ≤ 1048576 := by rw [← hL]; exact Nat.le_trans (imL_le _) hni
        have HI := Lib.hid (fun (wq : World) (hb : Below W1.heap.size W1 wq) => show Calls Try.prog 63 #[.agg #[.slice Ai (p i).n ci, .int .i64 (p i).bd], .int .i64 (slkC (p i) v'), arrV v'] wq (LRes wq L) from hL ▸ impliedBy_any Ai (p i).n ci (p i).bd (slkC (p i) v') (p i).c (p i).l v' wq hni (HRd.out.later hb) hoi HQ1.out.rn)
        have hSW : S < W1.heap.size := HQ1.out.ps.lt
        clear hL hoi hy hcr hrd hgc e0 e1 HRd
        refine WpN.seqK fun K13 hK13 => ?_
        go_wp2
        refine WpN.seqN fun K14 hK14 => ?_
        generalize hQ14 : Exit.then K14 _ = Q14
        refine WpN.of ?_
        go_wp2_with fail
        go_region_held3 (fun w' => w'.cell? ⟨S, 0, none⟩ = some (.pointer (some ⟨B, 0, none⟩)) ∧ w'.cell? ⟨B, 0, none⟩ = some (.slice (some ⟨g, 0, none⟩) m capl) ∧ w'.cell? ⟨g, i * 2, none⟩ = some (.slice Ai (p i).n ci) ∧ w'.cell? ⟨g, i * 2 + 1, none⟩ = some (.int .i64 (p i).bd) ∧ w'.cell? ⟨S, 13 + i, none⟩ = some (.int .i64 (slkC (p i) v')) ∧ w'.rangeAt S 1 (cl12 v')) (go_keep)
          (first | (go_at_call 63; refine (HI.out _ ((Below.refl W1.heap.size W1).drew)).mono ?_; rintro e w2 ⟨A', cap', rfl, hF, hb⟩; have HB2 := Lib.hid (bl_trans ((Below.refl W1.heap.size W1).drew) hb); have HF := Lib.hid (hF.more (B' := W1.heap.size) (Nat.le_refl _)); replace hp0 := kc hb hp0; replace hb0 := kc hb hb0; replace c0 := kc hb c0; replace c1 := kc hb c1; replace hs0 := kc hb hs0; replace s12 := range_kc hb s12; clear hb hF))
        have HQ2 := Lib.hid (HQ1.out.below HB2.out)
        clear hp0 hb0 c0 c1 hs0 s12 HB2 HI hu12 hsz12
        obtain ⟨ext, hext⟩ : ∃ ext, (rot m i).extract 1 (rot m i).size = ext := ⟨_, rfl⟩
        rw [hext] at HQ2
        have hes : ext.size < m := by rw [← hext]; simp [rot_size]; omega
        have hep : ext.push (.int .i64 (i : Nat)) = rot m (nxt m i) := by rw [← hext]; exact rot_next him
        clear hext HQ1
        go_wp2
        go_loopw [6, 64] (fun s6 t wz => ∃ kk : Nat, t = .int .i64 (kk : Nat) ∧ kk ≤ L.length ∧ s6 = .int .i64 ((if 0 < kk then 0 else st : Nat) : Int) ∧ PsAt wz S B (asgL v' (L.take kk)) m (fun j => slkC (p j) (asgL v' (L.take kk))) ∧ FrI wz W1.heap.size 3 A' L.length (gI L) ∧ w.grownBy wz (some S) ∧ ∃ s r, wz.heap[C]? = some (.chan m ext false s r false)) (fun _ t _ => L.length - (intOf t).toNat)
        case atStart => exact ⟨0, rfl, Nat.zero_le _, by simp, HQ2.out.ps, HF.out, HQ2.out.gr, HQ2.out.ch⟩
        case round =>
          obtain ⟨kk, rfl, hk, rfl, hps, hfi, hgr, hch⟩ := hrel
          have HP5 := Lib.hid hps
          have HF5 := Lib.hid hfi
          have HG5 := Lib.hid hgr
          have HC5 := Lib.hid hch
          clear hps hfi hgr hch
          by_cases hkl : kk < L.length
          · obtain ⟨b2, off2, e2, hbl2, hc⟩ := HF5.out.rdAt (by omega)
            subst e2
            have hc1 := hc kk hkl
            obtain ⟨hz, htk⟩ := frL_take HFr.out hkl
            have H0 := Lib.hid (frL_zero HFr.out hkl)
            have Hz := Lib.hid hz
            have HT := Lib.hid htk
            have hkI : (kk : Int) < (L.length : Int) := by omega
            have hk0 : (0 : Int) ≤ (kk : Int) := by omega
            clear hc hz htk
            go_wp2_with (go_at_call 61; refine (HGo.out _ _ _ HP5.out HG5.out Hz.out H0.out).mono ?_; rintro e w5 ⟨rfl, hp5, hg5⟩; have HP6 := Lib.hid (show PsAt w5 S B (asgL v' (L.take (kk + 1))) m (fun j => slkC (p j) (asgL v' (L.take (kk + 1)))) by rw [HT.out]; exact hp5); have HF6 := Lib.hid (fri_grown HF5.out hg5 hSW); have HG6 := Lib.hid (grown_trans HG5.out hg5); have HC6 := Lib.hid (show ∃ s r, w5.heap[C]? = some (.chan m ext false s r false) from HC5.out.elim fun s h => h.elim fun r h => ⟨s, r, heap_kept hg5 h (by omega)⟩); clear hp5 hg5 hc1)
            go_roundw
            case rel => exact ⟨kk + 1, by go_num, by omega, by simp, HP6.out, HF6.out, HG6.out, HC6.out⟩
            case measure => simp [intOf]; omega
          · have e : kk = L.length := by omega
            subst e
            have HP6 := Lib.hid (show PsAt wr S B (asgL v' L) m (fun j => slkC (p j) (asgL v' L)) by have := HP5.out; rwa [List.take_length] at this)
            have HN := Lib.hid (show ∀ (wy : World) (buf' : Array Value), PsAt wy S B (asgL v' L) m (fun j => slkC (p j) (asgL v' L)) → w.grownBy wy (some S) → (∃ s r, wy.heap[C]? = some (.chan m buf' false s r false)) → QI w S B C m p v wy ((if 0 < L.length then 0 else st) + 1) (nxt m i) (asgL v' L) buf' from by
              intro wy buf' a b c
              have := HQ2.out.next him hst (HOk.out i him).1 (by omega) (by rw [HL.out]; exact a) b c
              rwa [HL.out] at this)
            have HM := Lib.hid (q_less HFr.out hst)
            obtain ⟨q, hq⟩ : ∃ q, (if 0 < L.length then 0 else st) = q := ⟨_, rfl⟩
            have hq1 : q < m := by rw [← hq]; split <;> omega
            rw [hq] at HN HM ⊢
            have hqI : (q : Int) < 1400 := by omega
            have hq0 : (0 : Int) ≤ (q : Int) := by omega
            clear hq HP5 HFr HQ2 HL
            go_wp2
            rw [← hQ14]
            refine (show K14 _ _ from ?_)
            refine hK14 _ _ ?_
            clear hQ14 hK14 K14
            obtain ⟨s2, r2, hc2⟩ := HC5.out
            refine WpN.region ?_
            refine (show OpsN _ _ _ [0, 1, 2] _ _ from ?_)
            refine OpsN.value rfl (by rfl) (by go_simp; exact ⟨rfl, rfl⟩) ?_
            refine OpsN.value rfl (by rfl) (by go_simp; exact ⟨rfl, rfl⟩) ?_
            refine OpsN.send (c := C) (v := .int .i64 (i : Nat)) (z := .tuple #[]) rfl (by rfl) (by simp [execOp, scase]; exact ⟨rfl, rfl⟩) hc2 hes ?_
            refine OpsN.nil ?_
            rw [← hQ11]
            refine (show K11 _ _ from ?_)
            refine hK11 _ _ ?_
            clear hQ11 hK11 K11
            simp only [Act.put, List.setIfInBounds_toArray, hep]
            have HQ7 := Lib.hid ((HN.out wr ext HP6.out HG5.out HC5.out).chan (by omega) hSw (rot m (nxt m i)) (s2 + 1) r2)
            clear HP6 HG5 HC5 HF5 HN hc2
            generalize wr.setChan C m (rot m (nxt m i)) false (s2 + 1) r2 false = wy at *
            refine WpN.of ?_
            go_wp2
            rw [← hQR]
            refine (show ∃ m', _ from ⟨una (asgL v' L) 12 * (m + 1) + (m - (q + 1)), by rw [hn]; exact HM.out, by rfl, q + 1, nxt m i, asgL v' L, rfl, by simp, HQ7.out⟩)
    · have e : m = st := by have := HQ.out.sm; omega
      subst e
      have HR := Lib.hid HQ.out.fin
      refine WpN.seqK fun K10 hK10 => ?_
      go_wp2
      rw [← hQR, ← hQ8]
      refine (show K8 _ _ from ?_)
      refine hK8 _ _ ?_
      refine WpN.of ?_
      go_wp2
      exact ⟨rfl, .int .i64 (-1), by first | rfl | simp [results], v', -1, rfl, HR.out, HQ.out.rn, HQ.out.ps, HQ.out.gr⟩
end Go.Proofs.Ytckaeaclclhapaa

namespace Go.Proofs.Ytckaeaclclhapaa
open Go.Conc Go.ChangeShapes Go.WideShapes Go.ChangeAt Go.RowKit Go.Shelf

theorem foldl_put : ∀ (vs : List Value) (k0 off : Nat) (cs : Array Value), ((vs.zipIdx k0).foldl (fun (cs : Array Value) (x : Value × Nat) => cs.setIfInBounds (off + x.2) x.1) cs).size = cs.size ∧ ∀ k, ((vs.zipIdx k0).foldl (fun (cs : Array Value) (x : Value × Nat) => cs.setIfInBounds (off + x.2) x.1) cs)[k]? = if off + k0 ≤ k ∧ k < off + k0 + vs.length ∧ k < cs.size then vs[k - (off + k0)]? else cs[k]?
  | [], k0, off, cs => ⟨rfl, fun k => by rw [if_neg (by simp only [List.length_nil]; omega)]; rfl⟩
  | v :: vs, k0, off, cs => by
    obtain ⟨h1, h2⟩ := foldl_put vs (k0 + 1) off (cs.setIfInBounds (off + k0) v)
    rw [List.zipIdx_cons, List.foldl_cons]
    refine ⟨by rw [h1, Array.size_setIfInBounds], fun k => ?_⟩
    rw [h2, Array.size_setIfInBounds, Array.getElem?_setIfInBounds]
    by_cases c : off + (k0 + 1) ≤ k ∧ k < off + (k0 + 1) + vs.length ∧ k < cs.size
    · rw [if_pos c, if_pos (by simp only [List.length_cons]; omega), show k - (off + k0) = (k - (off + (k0 + 1))) + 1 by omega]
      rfl
    · rw [if_neg c]
      by_cases e : off + k0 = k
      · subst e
        rw [if_pos rfl]
        by_cases hk : off + k0 < cs.size
        · rw [if_pos hk, if_pos ⟨Nat.le_refl _, by simp only [List.length_cons]; omega, hk⟩, Nat.sub_self]
          rfl
        · rw [if_neg hk, if_neg (by omega), Array.getElem?_eq_none (by omega)]
      · rw [if_neg e, if_neg (by simp only [List.length_cons]; omega)]
/-- The cells of vs put into cs from off on. -/
def putAt (off : Nat) (vs cs : Array Value) : Array Value := vs.zipIdx.foldl (fun cs (c, j) => cs.setIfInBounds (off + j) c) cs
theorem putAt_eq (off : Nat) (vs cs : Array Value) : putAt off vs cs = (vs.toList.zipIdx 0).foldl (fun (cs : Array Value) (x : Value × Nat) => cs.setIfInBounds (off + x.2) x.1) cs := by
  unfold putAt
  rw [← Array.foldl_toList, Array.toList_zipIdx]
theorem putAt_size (off : Nat) (vs cs : Array Value) : (putAt off vs cs).size = cs.size := by
  rw [putAt_eq]
  exact (foldl_put vs.toList 0 off cs).1
theorem putAt_at (off : Nat) (vs cs : Array Value) (k : Nat) : (putAt off vs cs)[k]? = if off ≤ k ∧ k < off + vs.size ∧ k < cs.size then vs[k - off]? else cs[k]? := by
  rw [putAt_eq, (foldl_put vs.toList 0 off cs).2 k]
  simp

theorem fill_cons {place : Nat → Option (Nat × Nat)} {cells : Array Value} {i off size : Nat} {v : Value} {rest : List (Nat × Value)} (hp : place i = some (off, size)) (h1 : v.cells.size = size) (h2 : off + size ≤ cells.size) : Instr.fill place cells ((i, v) :: rest) = Instr.fill place (putAt off v.cells cells) rest := by
  rw [Instr.fill]
  simp only [hp]
  rw [if_neg (by simp [h1]; omega)]
  rfl
theorem built_struct {P : Program} {t : TypeId} {zc : Array Value} {places : List (Nat × Nat)} {parts : List (Nat × Value)} (h1 : ((P.info? t).bind (·.zero)).map Value.cells = some zc)
    (h2 : (match P.underlying t with | some (.struct fields) => fields.toList.mapM (fun f => (P.info? f.type).map fun i => (f.offset, i.size)) | _ => none) = some places) : P.built t parts = Instr.fill (places.toArray[·]?) zc parts := by
  unfold Program.built
  cases hi : P.info? t with
  | none => simp [hi] at h1
  | some it =>
    cases hz : it.zero with
    | none => simp [hi, hz] at h1
    | some z =>
      have hzc : z.cells = zc := by simpa [hi, hz] using h1
      cases hu : P.underlying t with
      | none => simp [hu] at h2
      | some d =>
        cases d <;> try (simp [hu] at h2; done)
        case struct fields =>
          simp only [hu] at h2
          simp only [hz, h2, hzc]

def isZ : Value → Bool
  | .int .i64 z => z == 0
  | _ => false
theorem isZ_iff {v : Value} (h : isZ v = true) : v = .int .i64 0 := by
  unfold isZ at h
  split at h
  · rw [beq_iff_eq] at h; rw [h]
  · cases h
def zeroPs (z : Array Value) : Bool := z.size == 1413 && (List.range 12).all fun j => isZ (z.getD (1 + j) undef)
theorem ps_zero : zeroPs Try.zeroCells118 = true := by kernel_rfl
theorem ps_one : Try.zeroCells118.toList.all (·.oneCell') = true := by kernel_rfl
theorem ps_info : ((Try.prog.info? 118).bind (·.zero)).map Value.cells = some Try.zeroCells118 := by kernel_rfl
theorem ps_places : (match Try.prog.underlying 118 with | some (.struct fields) => fields.toList.mapM (fun f => (Try.prog.info? f.type).map fun i => (f.offset, i.size)) | _ => none) = some [(0, 1), (1, 12), (13, 1400)] := by kernel_rfl
theorem ps_size : (Try.prog.info? 118).map (·.size) = some 1413 := by kernel_rfl
theorem ps_cells : Try.zeroCells118.size = 1413 ∧ (∀ i, i < 12 → Try.zeroCells118[1 + i]? = some (.int .i64 0)) ∧ ∀ (k : Nat) (u : Value), Try.zeroCells118[k]? = some u → u.oneCell' = true := by
  have h := ps_zero
  have ho := ps_one
  generalize Try.zeroCells118 = Z at *
  unfold zeroPs at h
  simp only [Bool.and_eq_true, beq_iff_eq, List.all_eq_true, List.mem_range] at h
  rw [List.all_eq_true] at ho
  obtain ⟨h1, h2⟩ := h
  refine ⟨h1, fun i hi => ?_, fun k u hk => ho _ ?_⟩
  · have := isZ_iff (h2 i hi)
    rw [Array.getD_eq_getD_getElem?, Array.getElem?_eq_getElem (by omega)] at this
    rw [Array.getElem?_eq_getElem (by omega)]
    exact congrArg some this
  · obtain ⟨hlt, e⟩ := Array.getElem?_eq_some_iff.1 hk
    rw [← e]
    simp
theorem ps_built (B : Nat) (SL : Array Value) (hs : SL.size = 1400) (h1 : ∀ (k : Nat) (u : Value), SL[k]? = some u → u.oneCell' = true) : ∃ cells : Array Value, (∀ W, (Instr.build 118 #[(0, .pointer (some ⟨B, 0, none⟩)), (2, .agg SL)]).run Try.prog W = .ok (.agg cells) W) ∧ cells.size = 1413 ∧ cells[0]? = some (.pointer (some ⟨B, 0, none⟩)) ∧ (∀ i, i < 12 → cells[1 + i]? = some (.int .i64 0)) ∧ (∀ i, i < 1400 → cells[13 + i]? = SL[i]?) ∧ cells.all (·.oneCell') = true := by
  obtain ⟨z1, z2, z3⟩ := ps_cells
  have hb := built_struct (parts := [(0, .pointer (some ⟨B, 0, none⟩)), (2, .agg SL)]) ps_info ps_places
  generalize Try.zeroCells118 = Z at *
  refine ⟨putAt 13 SL (putAt 0 #[.pointer (some ⟨B, 0, none⟩)] Z), fun W => run_build W _ _ _ (hb.trans ?_), ?_, ?_, fun i hi => ?_, fun i hi => ?_, ?_⟩
  · have hq : (putAt 0 #[.pointer (some ⟨B, 0, none⟩)] Z).size = 1413 := by rw [putAt_size]; exact z1
    rw [fill_cons (off := 0) (size := 1) rfl rfl (by omega)]
    exact (fill_cons (i := 2) (off := 13) (size := 1400) (v := .agg SL) (rest := []) rfl hs (by show 13 + 1400 ≤ (putAt 0 #[.pointer (some ⟨B, 0, none⟩)] Z).size; omega)).trans rfl
  · rw [putAt_size, putAt_size]; exact z1
  · rw [putAt_at, if_neg (by omega), putAt_at, if_pos ⟨Nat.le_refl _, by simp, by omega⟩]; rfl
  · rw [putAt_at, if_neg (by omega), putAt_at, if_neg (by simp only [List.size_toArray, List.length_cons, List.length_nil]; omega)]; exact z2 i hi
  · rw [putAt_at, putAt_size, if_pos ⟨by omega, by omega, by omega⟩, show 13 + i - 13 = i by omega]
  · rw [Array.all_eq_true_iff_forall_mem]
    intro u hu
    obtain ⟨k, hk⟩ := Array.mem_iff_getElem?.1 hu
    rw [putAt_at] at hk
    split at hk
    · exact h1 _ _ hk
    · rw [putAt_at] at hk
      split at hk
      · rename_i c
        have : k - 0 = 0 := by have := c.2.1; simp at this; omega
        rw [this] at hk
        cases hk
        rfl
      · exact z3 _ _ hk
theorem wp_build_run {P : Program} {o : Oper} {a : Act} {w : World} {K : Act → World → Prop} {Q : Exit → Act → World → Prop} (t : TypeId) (parts : Array (Nat × Operand)) (ho : o.op = .build t parts) (cells : Array Value)
    (hr : (Instr.build t (parts.map fun (i, x) => (i, a.eval x))).run P w = .ok (.agg cells) w) (h : K (a.put o.dst (.agg cells)) w) : o.wp P a w K Q := by
  unfold Oper.wp execOp
  simp only [ho, Sem.run_bind, Sem.run_pure, Result.andThen_ok, hr]
  exact h
theorem wp_value {P : Program} {o : Oper} {a : Act} {w w' : World} {v : Value} {K : Act → World → Prop} {Q : Exit → Act → World → Prop} (hr : (execOp a.eval o).run P w = .ok (.value v) w') (h : K (a.put o.dst v) w') : o.wp P a w K Q := by
  unfold Oper.wp
  simp only [hr]
  exact h
theorem shape_setCells (S : Nat) (T : TypeId) : ∀ (vs : List Value) (o : Nat) (w : World) (cs : Array Value), w.heap[S]? = some (.cells cs T (0, 0)) → ∃ cs', (w.setCells S o vs).heap[S]? = some (.cells cs' T (0, 0)) ∧ cs'.size = cs.size
  | [], _, _, cs, h => ⟨cs, h, rfl⟩
  | v :: r, o, w, cs, h => by
    obtain ⟨cs', h1, h2⟩ := shape_setCells S T r (o + 1) _ _ (heap_put (i := o) v h)
    exact ⟨cs', h1, by rw [h2]; simp⟩
theorem grown_setCells (S : Nat) : ∀ (vs : List Value) (o : Nat) (w : World), w.grownBy (w.setCells S o vs) (some S)
  | [], _, _ => ⟨rfl, rfl, rfl, Nat.le_refl _, fun _ _ _ => rfl⟩
  | v :: r, o, w => grown_trans (grown_set w S o v) (grown_setCells S r (o + 1) _)
/-- The state that propagate begins with. -/
theorem ps_new {w : World} {B : Nat} {cells : Array Value} {SL : Array Value} {m : Nat} {sl : Nat → Int} (hs : cells.size = 1413) (h0 : cells[0]? = some (.pointer (some ⟨B, 0, none⟩))) (h1 : ∀ i, i < 12 → cells[1 + i]? = some (.int .i64 0)) (h2 : ∀ i, i < 1400 → cells[13 + i]? = SL[i]?) (hm : m ≤ 1400) (hsl : ∀ i, i < m → SL[i]? = some (.int .i64 (sl i))) :
    (w.alloc (.cells Try.zeroCells118 118)).there w.heap.size 0 cells.size ∧ (Try.prog.info? 118).map (·.size) = some cells.size ∧ PsAt ((w.alloc (.cells Try.zeroCells118 118)).setCells w.heap.size 0 cells.toList) w.heap.size B (fun _ => 0) m sl ∧ Below w.heap.size w ((w.alloc (.cells Try.zeroCells118 118)).setCells w.heap.size 0 cells.toList) := by
  obtain ⟨z1, _, _⟩ := ps_cells
  generalize Try.zeroCells118 = Z at *
  have hh : (w.alloc (.cells Z 118)).heap[w.heap.size]? = some (.cells Z 118 (0, 0)) := heap_alloc_new w _
  have hb := bl_alloc (Below.refl w.heap.size w) (.cells Z 118)
  generalize w.alloc (.cells Z 118) = W1 at *
  have ht : W1.there w.heap.size 0 1413 := fun j hj => by
    refine ⟨?_, by simp [World.frozen?, hh]⟩
    rw [(cell_of_row _ w.heap.size (0 + j) Z _ _ hh), Array.getElem?_eq_getElem (by omega)]
    rfl
  refine ⟨by rw [hs]; exact ht, by rw [hs]; exact ps_size, ?_, ?_⟩
  · obtain ⟨cs', e1, e2⟩ := shape_setCells w.heap.size _ cells.toList 0 _ _ hh
    have hr := World.rangeAt_setCells_same W1 w.heap.size 0 cells.toList (by rw [Array.length_toList, hs]; exact ht)
    have key : ∀ k u, cells[k]? = some u → cs'[k]? = some u := fun k u hu => by
      have := hr k u (by simpa using hu)
      rw [Nat.zero_add] at this
      exact (cell_of_row _ w.heap.size k cs' _ _ e1).symm.trans this
    exact ⟨cs', e1, by rw [e2]; exact z1, key _ _ h0, fun i hi => key _ _ (h1 i hi), fun i hi => key _ _ ((h2 i (by omega)).trans (hsl i hi))⟩
  · have hg := grown_setCells w.heap.size cells.toList 0 W1
    exact ⟨hg.os.trans hb.os, hg.tape.trans hb.tape, hg.output.trans hb.output, Nat.le_trans hb.size hg.size, fun k hk => by rw [hg.block k (Nat.lt_of_lt_of_le hk hb.size) (fun e => by injection e with e; omega)]; exact hb.block k hk⟩
end Go.Proofs.Ytckaeaclclhapaa

namespace Go.Proofs.Ytckaeaclclhapaa
open Go.Conc Go.ChangeShapes Go.WideShapes Go.ChangeAt Go.RowKit Go.Shelf

theorem tl_bd {v : Nat → Int} (hv : rng v) {k : Nat} (hk : k ≤ 12) : ∀ x ∈ tl v k, -(k : Int) ≤ x ∧ x ≤ (k : Int) := by
  induction k with
  | zero => intro x hx; cases hx
  | succ k ih =>
    intro x hx
    have h3 : v k = -1 ∨ v k = 0 ∨ v k = 1 := by have := hv k (by omega); omega
    rcases h3 with e | e | e
    · rw [tl_neg e, List.mem_append, List.mem_singleton] at hx
      rcases hx with h | h
      · have := ih (by omega) x h; omega
      · omega
    · rw [tl_no e] at hx
      have := ih (by omega) x hx; omega
    · rw [tl_yes e, List.mem_append, List.mem_singleton] at hx
      rcases hx with h | h
      · have := ih (by omega) x h; omega
      · omega
theorem tl_pw {v : Nat → Int} (hv : rng v) {k : Nat} (hk : k ≤ 12) : (tl v k).Pairwise (fun a b => apartL b a) := by
  induction k with
  | zero => exact List.Pairwise.nil
  | succ k ih =>
    have h3 : v k = -1 ∨ v k = 0 ∨ v k = 1 := by have := hv k (by omega); omega
    have hb := tl_bd hv (k := k) (by omega)
    have key : ∀ y : Int, (y = (k : Int) + 1 ∨ y = -((k : Int) + 1)) → (tl v k ++ [y]).Pairwise (fun a b => apartL b a) := fun y hy => by
      rw [List.pairwise_append]
      refine ⟨ih (by omega), List.pairwise_singleton _ _, fun a ha b hb2 => ?_⟩
      rw [List.mem_singleton] at hb2
      subst hb2
      have := hb a ha
      unfold apartL
      omega
    rcases h3 with e | e | e
    · rw [tl_neg e]; exact key _ (.inr rfl)
    · rw [tl_no e]; exact ih (by omega)
    · rw [tl_yes e]; exact key _ (.inl rfl)
theorem stV_z0 (y : Int) : stV z0 y = 0 := by
  unfold stV z0
  split <;> rfl
theorem tl_fr {v : Nat → Int} (hv : rng v) : frL z0 (tl v 12) := ⟨fun y hy => ⟨tl_lit hv (Nat.le_refl _) y hy, stV_z0 y⟩, tl_pw hv (Nat.le_refl _)⟩
theorem tl_asg {v : Nat → Int} (hv : rng v) {k : Nat} (hk : k ≤ 12) : asgL z0 (tl v k) = fun i => if i < k then v i else 0 := by
  induction k with
  | zero => funext i; rfl
  | succ k ih =>
    have ih := ih (by omega)
    have h3 : v k = -1 ∨ v k = 0 ∨ v k = 1 := by have := hv k (by omega); omega
    funext i
    have hlt : ∀ a : Int, (if i < k + 1 then v i else 0) = if i = k then v k else (if i < k then v i else 0) := fun _ => by
      by_cases e : i = k
      · subst e; rw [if_pos rfl, if_pos (by omega)]
      · rw [if_neg e]
        by_cases c : i < k
        · rw [if_pos c, if_pos (by omega)]
        · rw [if_neg c, if_neg (by omega)]
    rw [hlt 0]
    rcases h3 with e | e | e
    · rw [tl_neg e, asgL_snoc, ih]
      unfold asg
      rw [if_neg (by omega), show (- -((k : Int) + 1) - 1).toNat = k by omega, e]
    · rw [tl_no e, ih, e]
      by_cases c : i = k
      · subst c; rw [if_pos rfl]; exact if_neg (by omega)
      · rw [if_neg c]
    · rw [tl_yes e, asgL_snoc, ih]
      unfold asg
      rw [if_pos (by omega), show (((k : Int) + 1) - 1).toNat = k by omega, e]
theorem tl_all {v : Nat → Int} (hv : rng v) (h0 : ∀ i, 12 ≤ i → v i = 0) : asgL z0 (tl v 12) = v := by
  rw [tl_asg hv (Nat.le_refl _)]
  funext i
  by_cases c : i < 12
  · rw [if_pos c]
  · rw [if_neg c, h0 i (by omega)]
theorem pg_slacks {w : World} {B m : Nat} {lv : Value} {sl : Nat → Int} {uv : Nat → Value} (h : PgAt w B lv m sl uv) (hm : m ≤ 1400) : ∃ SL : Array Value, SL.size = 1400 ∧ (∀ i, i < m → SL[i]? = some (.int .i64 (sl i))) ∧ (∀ (k : Nat) (u : Value), SL[k]? = some u → u.oneCell' = true) ∧ w.rangeAt B 1 SL.toList ∧ (Try.prog.info? 86).map (·.size) = some SL.toList.length := by
  obtain ⟨cs, hh, hs, _, h2, _, h4⟩ := h
  have hr := World.rangeAt_of_block hh 1 1400
  have hsz : (cs.extract 1 (1 + 1400)).size = 1400 := by rw [Array.size_extract]; omega
  have hg : ∀ k, k < 1400 → (cs.extract 1 (1 + 1400))[k]? = cs[1 + k]? := fun k hk => by
    rw [Array.getElem?_extract, if_pos (by omega)]
  refine ⟨cs.extract 1 (1 + 1400), hsz, fun i hi => (hg i (by omega)).trans (h2 i hi), fun k u hk => ?_, ?_⟩
  · have hlt : k < 1400 := by
      rw [← hsz]
      exact (Array.getElem?_eq_some_iff.1 hk).1
    obtain ⟨z, e1, e2⟩ := h4 k hlt
    rw [hg k hlt, e1] at hk
    cases hk
    exact e2
  · exact ⟨hr, by rw [Array.length_toList, hsz]; kernel_rfl⟩
theorem load12 (W : World) (b o : Nat) (v : Nat → Int) (h : W.rangeAt b o (cl12 v)) : (Instr.loadAt 94 (.pointer (some ⟨b, o, none⟩))).run Try.prog W = .ok (arrV v) W :=
  run_loadAt_mid (P := Try.prog) W b o 94 (cl12 v) _ h Try.underlying94 rfl (by kernel_rfl)
theorem start12 (w : World) (v : Nat → Int) (T : TypeId) : Below w.heap.size w ((w.alloc (.cells (cells12 v) T)).alloc (.cells (cells12 fun _ => 0) T)) ∧ ((w.alloc (.cells (cells12 v) T)).alloc (.cells (cells12 fun _ => 0) T)).rangeAt w.heap.size 0 (cl12 v) ∧ ((w.alloc (.cells (cells12 v) T)).alloc (.cells (cells12 fun _ => 0) T)).heap[w.heap.size + 1]? = some (.cells (cells12 fun _ => 0) T (0, 0)) ∧ ((w.alloc (.cells (cells12 v) T)).alloc (.cells (cells12 fun _ => 0) T)).heap.size = w.heap.size + 2 := by
  have h1 := heap_alloc_new w (.cells (cells12 v) T)
  have hb := bl_alloc (Below.refl _ (w.alloc (.cells (cells12 v) T))) (.cells (cells12 fun _ => 0) T)
  have h2 := heap_alloc_new (w.alloc (.cells (cells12 v) T)) (.cells (cells12 fun _ => 0) T)
  have hz : (w.alloc (.cells (cells12 v) T)).heap.size = w.heap.size + 1 := by simp
  refine ⟨bl_alloc (bl_alloc (Below.refl _ _) _) _, fun j u hu => ?_, by rw [hz] at h2; exact h2, by simp⟩
  obtain ⟨hj, rfl⟩ := cl12_at v j u hu
  have h3 := (hb.block w.heap.size (by omega)).trans h1
  rw [Nat.zero_add]
  exact (cell_of_row _ w.heap.size j _ _ _ h3).trans (cells12_at v hj)
end Go.Proofs.Ytckaeaclclhapaa

namespace Go.Proofs.Ytckaeaclclhapaa
open Go.Conc Go.ChangeShapes Go.WideShapes Go.ChangeAt Go.RowKit Go.Shelf

set_option maxRecDepth 100000 in
set_option maxHeartbeats 3200000 in
theorem pgProp_any (B : Nat) (lo : Nat → Prop) (m : Nat) (lv : Value) (p : Nat → Con) (uv : Nat → Value) (v : Nat → Int) (w : World) (hm : m ≤ 1400) (hok : ∀ i, i < m → okC (p i) ∧ (p i).n ≤ 1048576) (hrn : rng v) (hv0 : ∀ i, 12 ≤ i → v i = 0)
    (hPg : Pg w lo B lv m m p (fun i => slkC (p i) z0) (usP p m) uv) :
    Calls Try.prog 58 #[.pointer (some ⟨B, 0, none⟩), arrV v] w fun e w' => ∃ V r, e = .returned (.tuple #[arrV V, .int .i64 r]) ∧ Runs p m 0 v V r ∧ rng V ∧ Below w.heap.size w w' := by
  have HPg := Lib.hid hPg
  have HOk := Lib.hid hok
  have HRn := Lib.hid hrn
  have HV0 := Lib.hid hv0
  have hBw := hPg.cel.lt
  have HF0 := Lib.hid hPg.f0
  have HLb := Lib.hid (show ∀ b, lv.ownBlock = some b → b < w.heap.size from fun b e => by
    obtain ⟨xs, hx, _⟩ := hPg.lst
    exact (hx.lt b e).2)
  have HUb := Lib.hid (show ∀ j, j < 25 → ∀ b, (uv j).ownBlock = some b → b < w.heap.size from fun j hj b e => ((hPg.use j hj).lt b e).2)
  clear hPg hok hrn hv0
  unfold arrV cells12
  go_enter Try.func58, Try.ntmps58
  go_upto_region 1 with fail
  have hs := start12 w v 94
  simp only [cells12] at hs
  generalize (World.alloc (World.alloc w _) _) = W1 at hs ⊢
  obtain ⟨hb1, hr3, h4, hsz⟩ := hs
  have HP1 := HPg.out.below hb1
  obtain ⟨SL, s1, s2, s3, hrg, hin⟩ := pg_slacks HP1.cel hm
  obtain ⟨cells, hbd, c1, c2, c3, c4, c5⟩ := ps_built B SL s1 s3
  obtain ⟨hth, hiz, hps, hb2⟩ := ps_new (w := W1) c1 c2 c3 c4 hm s2
  clear s1 s2 s3 c1 c2 c3 c4 HP1
  have Hrg := Lib.hid hrg
  have Hin := Lib.hid hin
  have Hps := Lib.hid hps
  have Hb1 := Lib.hid hb1
  have Hb2 := Lib.hid hb2
  have Hr3 := Lib.hid hr3
  have H4 := Lib.hid h4
  clear hrg hin hps hb1 hb2 hr3 h4
  go_wp2_with fail
  rename_i K1 hK1
  refine wp_load_mid 86 (.tmp 13) rfl B 1 (by rfl) SL.toList _ Hrg.out Try.underlying86 rfl Hin.out ?_
  simp only [Array.toArray_toList]
  refine hK1 _ _ ?_
  clear hK1 K1
  refine wpList_plain (by rfl) fun K1 hK1 => ?_
  refine wp_build_run 118 _ rfl cells (by simp only [List.map_toArray, List.map_cons, List.map_nil]; exact hbd _) ?_
  refine hK1 _ _ ?_
  clear hK1 K1
  refine wpList_plain (by rfl) fun K1 hK1 => ?_
  refine wp_value (v := .pointer (some ⟨W1.heap.size, 0, none⟩)) (w' := W1.alloc (.cells Try.zeroCells118 118)) (by go_simp) ?_
  refine hK1 _ _ ?_
  clear hK1 K1
  refine wpList_plain (by rfl) fun K1 hK1 => ?_
  refine wp_store_mid 118 (.tmp 6) (.tmp 15) rfl W1.heap.size 0 cells (by rfl) (by rfl) hth hiz c5 ?_
  refine hK1 _ _ ?_
  clear hK1 K1 hth hiz c5
  generalize ((W1.alloc (.cells Try.zeroCells118 118)).setCells W1.heap.size 0 cells.toList) = W2 at *
  have Hr4 := Lib.hid (range_kc Hb2.out Hr3.out)
  have H5 := Lib.hid ((Hb2.out.block (w.heap.size + 1) (by omega)).trans H4.out)
  have Hbw := Lib.hid (Hb1.out.trans (Hb2.out.mono (by omega)))
  rw [hsz] at Hps ⊢
  clear hsz hbd
  have HP2 := Lib.hid (HPg.out.below Hbw.out)
  clear HPg Hr3 H4 Hrg Hin Hb1 Hb2
  go_upto_region 2 with fail
  have q0 : W2.cell? ⟨w.heap.size, 0, none⟩ = some (.int .i64 (v 0)) := Hr4.out 0 _ rfl
  have q1 : W2.cell? ⟨w.heap.size, 1, none⟩ = some (.int .i64 (v 1)) := Hr4.out 1 _ rfl
  have q2 : W2.cell? ⟨w.heap.size, 2, none⟩ = some (.int .i64 (v 2)) := Hr4.out 2 _ rfl
  have q3 : W2.cell? ⟨w.heap.size, 3, none⟩ = some (.int .i64 (v 3)) := Hr4.out 3 _ rfl
  have q4 : W2.cell? ⟨w.heap.size, 4, none⟩ = some (.int .i64 (v 4)) := Hr4.out 4 _ rfl
  have q5 : W2.cell? ⟨w.heap.size, 5, none⟩ = some (.int .i64 (v 5)) := Hr4.out 5 _ rfl
  have q6 : W2.cell? ⟨w.heap.size, 6, none⟩ = some (.int .i64 (v 6)) := Hr4.out 6 _ rfl
  have q7 : W2.cell? ⟨w.heap.size, 7, none⟩ = some (.int .i64 (v 7)) := Hr4.out 7 _ rfl
  have q8 : W2.cell? ⟨w.heap.size, 8, none⟩ = some (.int .i64 (v 8)) := Hr4.out 8 _ rfl
  have q9 : W2.cell? ⟨w.heap.size, 9, none⟩ = some (.int .i64 (v 9)) := Hr4.out 9 _ rfl
  have q10 : W2.cell? ⟨w.heap.size, 10, none⟩ = some (.int .i64 (v 10)) := Hr4.out 10 _ rfl
  have q11 : W2.cell? ⟨w.heap.size, 11, none⟩ = some (.int .i64 (v 11)) := Hr4.out 11 _ rfl
  go_wp2_with (go_at_call 60; refine (trueLits_any v _ HRn.out).mono ?_; rintro e w3 ⟨A, cap, rfl, hF, hb⟩; have HF := Lib.hid hF; have HB3 := Lib.hid hb; clear hF hb)
  clear q0 q1 q2 q3 q4 q5 q6 q7 q8 q9 q10 q11
  obtain ⟨TL, hTL⟩ : ∃ TL, tl v 12 = TL := ⟨_, rfl⟩
  have HFr := Lib.hid (show frL z0 TL from hTL ▸ tl_fr HRn.out)
  have HAll := Lib.hid (show asgL z0 TL = v from hTL ▸ tl_all HRn.out HV0.out)
  have htl : TL.length ≤ 12 := by rw [← hTL]; exact tl_le 12
  rw [hTL] at HF ⊢
  have HPs3 := Lib.hid (Hps.out.below HB3.out)
  have HPg3 := Lib.hid (HP2.out.below HB3.out)
  have H63 := Lib.hid ((HB3.out.block (w.heap.size + 1) (by have := Hps.out.lt; omega)).trans H5.out)
  have Hbw3 := Lib.hid (Hbw.out.trans (HB3.out.mono (by have := Hps.out.lt; omega)))
  have hSW : w.heap.size + 2 < W2.heap.size := Hps.out.lt
  have hBS : B < w.heap.size + 2 ∧ ¬ lo (w.heap.size + 2) := ⟨by omega, fun h => by have := HF0.out _ h; omega⟩
  have HLb2 := Lib.hid (show ∀ b, lv.ownBlock = some b → b < w.heap.size + 2 from fun b e => by have := HLb.out b e; omega)
  have HUb2 := Lib.hid (show ∀ j, j < 25 → ∀ b, (uv j).ownBlock = some b → b < w.heap.size + 2 from fun j hj b e => by have := HUb.out j hj b e; omega)
  clear hTL Hps HP2 H5 Hbw HB3 HLb HUb Hr4
  go_wp2
  go_loopw [19] (fun t wz => ∃ kk : Nat, t = .int .i64 (kk : Nat) ∧ kk ≤ TL.length ∧ PsAt wz (w.heap.size + 2) B (asgL z0 (TL.take kk)) m (fun j => slkC (p j) (asgL z0 (TL.take kk))) ∧ FrI wz W2.heap.size 58 A TL.length (gI TL) ∧ w3.grownBy wz (some (w.heap.size + 2))) (fun t _ => TL.length - (intOf t).toNat)
  case atStart => exact ⟨0, rfl, Nat.zero_le _, HPs3.out, HF.out, ⟨rfl, rfl, rfl, Nat.le_refl _, fun _ _ _ => rfl⟩⟩
  case round =>
    obtain ⟨kk, rfl, hk, hps, hfi, hgr⟩ := hrel
    have HP5 := Lib.hid hps
    have HF5 := Lib.hid hfi
    have HG5 := Lib.hid hgr
    clear hps hfi hgr
    by_cases hkl : kk < TL.length
    · obtain ⟨b2, off2, e2, hbl2, hc⟩ := HF5.out.rdAt (by omega)
      subst e2
      have hc1 := hc kk hkl
      obtain ⟨hz, htk⟩ := frL_take HFr.out hkl
      have H0 := Lib.hid (frL_zero HFr.out hkl)
      have Hz := Lib.hid hz
      have HT := Lib.hid htk
      have hkI : (kk : Int) < (TL.length : Int) := by omega
      have hk0 : (0 : Int) ≤ (kk : Int) := by omega
      clear hc hz htk
      go_wp2_with (go_at_call 61; refine (psGo_any (w.heap.size + 2) B lo m lv p uv _ _ _ hm HOk.out HP5.out (HPg3.out.other HG5.out hBS HLb2.out HUb2.out) hBS HLb2.out HUb2.out Hz.out H0.out).mono ?_; rintro e w5 ⟨rfl, hp5, hg5⟩; have HP6 := Lib.hid (show PsAt w5 (w.heap.size + 2) B (asgL z0 (TL.take (kk + 1))) m (fun j => slkC (p j) (asgL z0 (TL.take (kk + 1)))) by rw [HT.out]; exact hp5); have HF6 := Lib.hid (fri_grown HF5.out hg5 hSW); have HG6 := Lib.hid (grown_trans HG5.out hg5); clear hp5 hg5 hc1)
      go_roundw
      case rel => exact ⟨kk + 1, by go_num, by omega, HP6.out, HF6.out, HG6.out⟩
      case measure => simp [intOf]; omega
    · have e : kk = TL.length := by omega
      subst e
      have HP6 := Lib.hid (show PsAt wr (w.heap.size + 2) B v m (fun j => slkC (p j) v) by have := HP5.out; rwa [List.take_length, HAll.out] at this)
      clear HP5
      go_wp2_with fail
      refine (psRun_any (w.heap.size + 2) B lo m lv p uv v _ hm HOk.out HRn.out HP6.out (HPg3.out.other HG5.out hBS HLb2.out HUb2.out) hBS HLb2.out HUb2.out).mono ?_
      rintro e w5 ⟨V, r, rfl, hr, hrv, hp5, hg5⟩
      have HR := Lib.hid hr
      have HRv := Lib.hid hrv
      have HG6 := Lib.hid (grown_trans HG5.out hg5)
      have h6 := heap_kept HG6.out H63.out (by omega)
      have hf6 : ∀ i, w5.frozen? ⟨w.heap.size + 1, i, none⟩ = false := fun i => by simp [World.frozen?, h6]
      have q0 : w5.cell? ⟨w.heap.size + 2, 1, none⟩ = some (.int .i64 (V 0)) := hp5.cellV (i := 0) (by omega)
      have q1 : w5.cell? ⟨w.heap.size + 2, 2, none⟩ = some (.int .i64 (V 1)) := hp5.cellV (i := 1) (by omega)
      have q2 : w5.cell? ⟨w.heap.size + 2, 3, none⟩ = some (.int .i64 (V 2)) := hp5.cellV (i := 2) (by omega)
      have q3 : w5.cell? ⟨w.heap.size + 2, 4, none⟩ = some (.int .i64 (V 3)) := hp5.cellV (i := 3) (by omega)
      have q4 : w5.cell? ⟨w.heap.size + 2, 5, none⟩ = some (.int .i64 (V 4)) := hp5.cellV (i := 4) (by omega)
      have q5 : w5.cell? ⟨w.heap.size + 2, 6, none⟩ = some (.int .i64 (V 5)) := hp5.cellV (i := 5) (by omega)
      have q6 : w5.cell? ⟨w.heap.size + 2, 7, none⟩ = some (.int .i64 (V 6)) := hp5.cellV (i := 6) (by omega)
      have q7 : w5.cell? ⟨w.heap.size + 2, 8, none⟩ = some (.int .i64 (V 7)) := hp5.cellV (i := 7) (by omega)
      have q8 : w5.cell? ⟨w.heap.size + 2, 9, none⟩ = some (.int .i64 (V 8)) := hp5.cellV (i := 8) (by omega)
      have q9 : w5.cell? ⟨w.heap.size + 2, 10, none⟩ = some (.int .i64 (V 9)) := hp5.cellV (i := 9) (by omega)
      have q10 : w5.cell? ⟨w.heap.size + 2, 11, none⟩ = some (.int .i64 (V 10)) := hp5.cellV (i := 10) (by omega)
      have q11 : w5.cell? ⟨w.heap.size + 2, 12, none⟩ = some (.int .i64 (V 11)) := hp5.cellV (i := 11) (by omega)
      have p0 : w5.cell? ⟨w.heap.size + 1, 0, none⟩ = some (.int .i64 0) := (cell_of_row w5 (w.heap.size + 1) 0 _ _ _ h6).trans rfl
      have p1 : w5.cell? ⟨w.heap.size + 1, 1, none⟩ = some (.int .i64 0) := (cell_of_row w5 (w.heap.size + 1) 1 _ _ _ h6).trans rfl
      have p2 : w5.cell? ⟨w.heap.size + 1, 2, none⟩ = some (.int .i64 0) := (cell_of_row w5 (w.heap.size + 1) 2 _ _ _ h6).trans rfl
      have p3 : w5.cell? ⟨w.heap.size + 1, 3, none⟩ = some (.int .i64 0) := (cell_of_row w5 (w.heap.size + 1) 3 _ _ _ h6).trans rfl
      have p4 : w5.cell? ⟨w.heap.size + 1, 4, none⟩ = some (.int .i64 0) := (cell_of_row w5 (w.heap.size + 1) 4 _ _ _ h6).trans rfl
      have p5 : w5.cell? ⟨w.heap.size + 1, 5, none⟩ = some (.int .i64 0) := (cell_of_row w5 (w.heap.size + 1) 5 _ _ _ h6).trans rfl
      have p6 : w5.cell? ⟨w.heap.size + 1, 6, none⟩ = some (.int .i64 0) := (cell_of_row w5 (w.heap.size + 1) 6 _ _ _ h6).trans rfl
      have p7 : w5.cell? ⟨w.heap.size + 1, 7, none⟩ = some (.int .i64 0) := (cell_of_row w5 (w.heap.size + 1) 7 _ _ _ h6).trans rfl
      have p8 : w5.cell? ⟨w.heap.size + 1, 8, none⟩ = some (.int .i64 0) := (cell_of_row w5 (w.heap.size + 1) 8 _ _ _ h6).trans rfl
      have p9 : w5.cell? ⟨w.heap.size + 1, 9, none⟩ = some (.int .i64 0) := (cell_of_row w5 (w.heap.size + 1) 9 _ _ _ h6).trans rfl
      have p10 : w5.cell? ⟨w.heap.size + 1, 10, none⟩ = some (.int .i64 0) := (cell_of_row w5 (w.heap.size + 1) 10 _ _ _ h6).trans rfl
      have p11 : w5.cell? ⟨w.heap.size + 1, 11, none⟩ = some (.int .i64 0) := (cell_of_row w5 (w.heap.size + 1) 11 _ _ _ h6).trans rfl
      have f0 : w5.frozen? ⟨w.heap.size + 1, 0, none⟩ = false := hf6 0
      have f1 : w5.frozen? ⟨w.heap.size + 1, 1, none⟩ = false := hf6 1
      have f2 : w5.frozen? ⟨w.heap.size + 1, 2, none⟩ = false := hf6 2
      have f3 : w5.frozen? ⟨w.heap.size + 1, 3, none⟩ = false := hf6 3
      have f4 : w5.frozen? ⟨w.heap.size + 1, 4, none⟩ = false := hf6 4
      have f5 : w5.frozen? ⟨w.heap.size + 1, 5, none⟩ = false := hf6 5
      have f6 : w5.frozen? ⟨w.heap.size + 1, 6, none⟩ = false := hf6 6
      have f7 : w5.frozen? ⟨w.heap.size + 1, 7, none⟩ = false := hf6 7
      have f8 : w5.frozen? ⟨w.heap.size + 1, 8, none⟩ = false := hf6 8
      have f9 : w5.frozen? ⟨w.heap.size + 1, 9, none⟩ = false := hf6 9
      have f10 : w5.frozen? ⟨w.heap.size + 1, 10, none⟩ = false := hf6 10
      have f11 : w5.frozen? ⟨w.heap.size + 1, 11, none⟩ = false := hf6 11
      clear hr hrv hp5 hg5 h6 hf6
      have hbf : Below w.heap.size w w5 := Hbw3.out.trans ((grown_below HG6.out (Nat.le_of_lt HPs3.out.lt)).mono (by omega))
      have hle : w.heap.size ≤ w.heap.size + 1 := Nat.le_succ _
      have HBf := Lib.hid ((((((((((((hbf.setCell (p := ⟨w.heap.size + 1, 0, none⟩) hle (.int .i64 (V 0))).setCell (p := ⟨w.heap.size + 1, 1, none⟩) hle (.int .i64 (V 1))).setCell (p := ⟨w.heap.size + 1, 2, none⟩) hle (.int .i64 (V 2))).setCell (p := ⟨w.heap.size + 1, 3, none⟩) hle (.int .i64 (V 3))).setCell (p := ⟨w.heap.size + 1, 4, none⟩) hle (.int .i64 (V 4))).setCell (p := ⟨w.heap.size + 1, 5, none⟩) hle (.int .i64 (V 5))).setCell (p := ⟨w.heap.size + 1, 6, none⟩) hle (.int .i64 (V 6))).setCell (p := ⟨w.heap.size + 1, 7, none⟩) hle (.int .i64 (V 7))).setCell (p := ⟨w.heap.size + 1, 8, none⟩) hle (.int .i64 (V 8))).setCell (p := ⟨w.heap.size + 1, 9, none⟩) hle (.int .i64 (V 9))).setCell (p := ⟨w.heap.size + 1, 10, none⟩) hle (.int .i64 (V 10))).setCell (p := ⟨w.heap.size + 1, 11, none⟩) hle (.int .i64 (V 11)))
      clear hbf hle
      go_wp2
      obtain ⟨W6, hW6⟩ : ∃ W6, ((((((((((((w5.setCell ⟨w.heap.size + 1, 0, none⟩ (.int .i64 (V 0))).setCell ⟨w.heap.size + 1, 1, none⟩ (.int .i64 (V 1))).setCell ⟨w.heap.size + 1, 2, none⟩ (.int .i64 (V 2))).setCell ⟨w.heap.size + 1, 3, none⟩ (.int .i64 (V 3))).setCell ⟨w.heap.size + 1, 4, none⟩ (.int .i64 (V 4))).setCell ⟨w.heap.size + 1, 5, none⟩ (.int .i64 (V 5))).setCell ⟨w.heap.size + 1, 6, none⟩ (.int .i64 (V 6))).setCell ⟨w.heap.size + 1, 7, none⟩ (.int .i64 (V 7))).setCell ⟨w.heap.size + 1, 8, none⟩ (.int .i64 (V 8))).setCell ⟨w.heap.size + 1, 9, none⟩ (.int .i64 (V 9))).setCell ⟨w.heap.size + 1, 10, none⟩ (.int .i64 (V 10))).setCell ⟨w.heap.size + 1, 11, none⟩ (.int .i64 (V 11))) = W6 := ⟨_, rfl⟩
      have r0 : W6.cell? ⟨w.heap.size + 1, 0, none⟩ = some (.int .i64 (V 0)) := by rw [← hW6]; clear hW6; go_simp
      have r1 : W6.cell? ⟨w.heap.size + 1, 1, none⟩ = some (.int .i64 (V 1)) := by rw [← hW6]; clear hW6; go_simp
      have r2 : W6.cell? ⟨w.heap.size + 1, 2, none⟩ = some (.int .i64 (V 2)) := by rw [← hW6]; clear hW6; go_simp
      have r3 : W6.cell? ⟨w.heap.size + 1, 3, none⟩ = some (.int .i64 (V 3)) := by rw [← hW6]; clear hW6; go_simp
      have r4 : W6.cell? ⟨w.heap.size + 1, 4, none⟩ = some (.int .i64 (V 4)) := by rw [← hW6]; clear hW6; go_simp
      have r5 : W6.cell? ⟨w.heap.size + 1, 5, none⟩ = some (.int .i64 (V 5)) := by rw [← hW6]; clear hW6; go_simp
      have r6 : W6.cell? ⟨w.heap.size + 1, 6, none⟩ = some (.int .i64 (V 6)) := by rw [← hW6]; clear hW6; go_simp
      have r7 : W6.cell? ⟨w.heap.size + 1, 7, none⟩ = some (.int .i64 (V 7)) := by rw [← hW6]; clear hW6; go_simp
      have r8 : W6.cell? ⟨w.heap.size + 1, 8, none⟩ = some (.int .i64 (V 8)) := by rw [← hW6]; clear hW6; go_simp
      have r9 : W6.cell? ⟨w.heap.size + 1, 9, none⟩ = some (.int .i64 (V 9)) := by rw [← hW6]; clear hW6; go_simp
      have r10 : W6.cell? ⟨w.heap.size + 1, 10, none⟩ = some (.int .i64 (V 10)) := by rw [← hW6]; clear hW6; go_simp
      have r11 : W6.cell? ⟨w.heap.size + 1, 11, none⟩ = some (.int .i64 (V 11)) := by rw [← hW6]; clear hW6; go_simp
      rw [hW6] at HBf ⊢
      clear hW6
      refine bodyPost_ret (v := .tuple #[.agg #[.int .i64 (V 0), .int .i64 (V 1), .int .i64 (V 2), .int .i64 (V 3), .int .i64 (V 4), .int .i64 (V 5), .int .i64 (V 6), .int .i64 (V 7), .int .i64 (V 8), .int .i64 (V 9), .int .i64 (V 10), .int .i64 (V 11)], .int .i64 r]) (by simp [results, Try.results58, go_sem, r0, r1, r2, r3, r4, r5, r6, r7, r8, r9, r10, r11]) rfl ?_
      exact ⟨V, r, rfl, HR.out, HRv.out, HBf.out⟩
end Go.Proofs.Ytckaeaclclhapaa

namespace Go.Proofs.Ytckaeaclclhapaa
open Go.Conc Go.ChangeShapes Go.WideShapes Go.ChangeAt Go.RowKit Go.Shelf

theorem there_new (W : World) (cs : Array Value) (T : TypeId) (hs : cs.size = 12) : (W.alloc (.cells cs T)).there W.heap.size 0 12 := by
  have hh := heap_alloc_new W (.cells cs T)
  generalize W.alloc (.cells cs T) = W1 at *
  intro j hj
  refine ⟨?_, by simp [World.frozen?, hh]⟩
  rw [(cell_of_row _ W.heap.size (0 + j) cs _ _ hh), Array.getElem?_eq_getElem (by omega)]
  rfl
theorem there_kc {W W' : World} {g : Nat} (hb : Below W.heap.size W W') (h : W.there g 0 12) : W'.there g 0 12 := fun j hj => by
  obtain ⟨h1, h2⟩ := h j hj
  obtain ⟨u, hu⟩ := Option.isSome_iff_exists.1 h1
  have hlt : g < W.heap.size := by
    rcases Nat.lt_or_ge g W.heap.size with h | h
    · exact h
    · simp [World.cell?, Array.getElem?_eq_none h] at hu
  have e := hb.block g hlt
  exact ⟨by rw [kc hb hu]; rfl, by rw [World.frozen?_of_block (a := ⟨g, 0 + j, none⟩) e]; exact h2⟩
theorem bl_setCells {a w : World} (h : Below a.heap.size a w) {g : Nat} (hg : a.heap.size ≤ g) (vs : List Value) (o : Nat) : Below a.heap.size a (w.setCells g o vs) := by
  have t := grown_setCells g vs o w
  exact ⟨t.os.trans h.os, t.tape.trans h.tape, t.output.trans h.output, Nat.le_trans h.size t.size, fun k hk => (t.block k (Nat.lt_of_lt_of_le hk h.size) (fun e => by injection e with e; omega)).trans (h.block k hk)⟩
/-- What the variable of the answer holds behind the store. -/
theorem own_set12 {w : World} {g : Nat} {T : TypeId} (V : Nat → Int) (h : w.heap[g]? = some (.cells #[.int .i64 0, .int .i64 0, .int .i64 0, .int .i64 0, .int .i64 0, .int .i64 0, .int .i64 0, .int .i64 0, .int .i64 0, .int .i64 0, .int .i64 0, .int .i64 0] T (0, 0))) : OwnV (w.setCells g 0 (cl12 V)) g T 12 12 V ∧ w.there g 0 12 := by
  have ht : w.there g 0 (cl12 V).length := fun j hj => by
    have hj : j < 12 := hj
    refine ⟨?_, by simp [World.frozen?, h]⟩
    rw [(cell_of_row _ g (0 + j) _ _ _ h), Array.getElem?_eq_getElem (by simp; omega)]
    rfl
  obtain ⟨cs', e1, e2⟩ := shape_setCells g T (cl12 V) 0 w _ h
  have hr := World.rangeAt_setCells_same w g 0 (cl12 V) ht
  refine ⟨⟨cs', e1, by rw [e2]; exact Nat.le_refl _, fun i hi => ?_⟩, ht⟩
  have := hr i (.int .i64 (V i)) (by have := cells12_at V hi; rw [show cells12 V = (cl12 V).toArray from rfl, List.getElem?_toArray] at this; exact this)
  rw [Nat.zero_add] at this
  exact (cell_of_row _ g i cs' _ _ e1).symm.trans this
theorem cl12_one (V : Nat → Int) : (cl12 V).toArray.all (·.oneCell') = true := by simp [cl12, Value.oneCell']
end Go.Proofs.Ytckaeaclclhapaa

namespace Go.Proofs.Ytckaeaclclhapaa
open Go.ChangeShapes Go.WideShapes Go.ChangeAt Go.RowKit

/-- One partial assignment extends another. -/
def extI (v w : Nat → Int) : Prop := ∀ i, i < 12 → v i ≠ 0 → w i = v i
theorem extI.refl (v : Nat → Int) : extI v v := fun _ _ _ => rfl
theorem extI.trans {u v w : Nat → Int} (h : extI u v) (k : extI v w) : extI u w := fun i hi h0 => by
  have e := h i hi h0
  rw [k i hi (by rw [e]; exact h0), e]
theorem stV_ext {v w : Nat → Int} (h : extI v w) {z : Int} (hz : litB z = true) (h0 : stV v z ≠ 0) : stV w z = stV v z := by
  obtain ⟨a, b, c⟩ := litB_iff.1 hz
  unfold stV at *
  split at h0
  · rename_i hp
    rw [if_pos hp, if_pos hp]
    exact h _ (by omega) h0
  · rename_i hp
    rw [if_neg hp, if_neg hp, h _ (by omega) (by omega)]
theorem ext_asg {v : Nat → Int} {z : Int} (hz : litB z = true) (h0 : stV v z = 0) : extI v (asg v z) := fun i hi hv => by
  obtain ⟨a, b, c⟩ := litB_iff.1 hz
  unfold stV at h0
  unfold asg
  split at h0
  · rename_i hp
    rw [if_pos hp]
    by_cases e : i = (z - 1).toNat
    · subst e; exact absurd h0 hv
    · rw [if_neg e]
  · rename_i hp
    rw [if_neg hp]
    by_cases e : i = (-z - 1).toNat
    · subst e; exact absurd (by omega) hv
    · rw [if_neg e]
theorem ext_asgL {v : Nat → Int} {L : List Int} (h : frL v L) : extI v (asgL v L) := by
  induction L generalizing v with
  | nil => exact extI.refl v
  | cons z zs ih =>
    obtain ⟨a, b, c⟩ := frL_head h
    exact (ext_asg a b).trans (ih c)
theorem Runs.ends {p : Nat → Con} {m i : Nat} {v w : Nat → Int} {r : Int} (h : Runs p m i v w r) (hok : ∀ j, j < m → okC (p j)) : extI v w ∧ ((r = -1 ∧ ∀ j, j < m → fixC (p j) w) ∨ ∃ j, j < m ∧ r = (j : Int) ∧ slkC (p j) w < 0) := by
  induction h with
  | vio i v hi h => exact ⟨extI.refl v, .inr ⟨i, hi, rfl, h⟩⟩
  | step i v w r hi h hn ih => exact ⟨(ext_asgL (imp_fr (hok i hi) v)).trans ih.1, ih.2⟩
  | fin i v h => exact ⟨extI.refl v, .inl ⟨rfl, h⟩⟩
theorem nf_ext {v w : Nat → Int} (h : extI v w) {z : Int} (hz : litB z = true) (hw : nfP w z = true) : nfP v z = true := by
  unfold nfP at *
  rw [decide_eq_true_eq] at *
  by_cases e : stV v z = 0
  · omega
  · rw [← stV_ext h hz e]; exact hw
theorem sB_ext {c l : Nat → Int} {v w : Nat → Int} (h : extI v w) : ∀ n, (∀ k, k < n → litB (l k) = true ∧ 1 ≤ c k) → sB c l (nfP w) n ≤ sB c l (nfP v) n := by
  intro n
  induction n with
  | zero => intro _; exact Int.le_refl _
  | succ n ih =>
    intro hl
    have h1 := ih fun k hk => hl k (by omega)
    obtain ⟨h2, h3⟩ := hl n (by omega)
    cases hw : nfP w (l n) with
    | true => rw [sB_yes hw, sB_yes (nf_ext h h2 hw)]; omega
    | false =>
      rw [sB_no hw]
      cases hv : nfP v (l n) with
      | true => rw [sB_yes hv]; omega
      | false => rw [sB_no hv]; omega
/-- A term whose literal the extension makes false is lost. -/
theorem sB_lose {c l : Nat → Int} {v w : Nat → Int} (h : extI v w) {j : Nat} (hv : nfP v (l j) = true) (hw : nfP w (l j) = false) : ∀ n, j < n → (∀ k, k < n → litB (l k) = true ∧ 1 ≤ c k) → sB c l (nfP w) n ≤ sB c l (nfP v) n - c j := by
  intro n
  induction n with
  | zero => intro hj; omega
  | succ n ih =>
    intro hj hl
    by_cases e : j = n
    · subst e
      have h1 := sB_ext h j fun k hk => hl k (by omega)
      rw [sB_no hw, sB_yes hv]
      omega
    · have h1 := ih (by omega) fun k hk => hl k (by omega)
      obtain ⟨h2, h3⟩ := hl n (by omega)
      cases hw' : nfP w (l n) with
      | true => rw [sB_yes hw', sB_yes (nf_ext h h2 hw')]; omega
      | false =>
        rw [sB_no hw']
        cases hv' : nfP v (l n) with
        | true => rw [sB_yes hv']; omega
        | false => rw [sB_no hv']; omega
theorem ok_parts {q : Con} (hq : okC q) : ∀ k, k < q.n → litB (q.l k) = true ∧ 1 ≤ q.c k := fun k hk => ⟨litAt hq hk, (coef_of hq k hk).1⟩
theorem slk_ext {q : Con} (hq : okC q) {v w : Nat → Int} (h : extI v w) : slkC q w ≤ slkC q v := by
  have := sB_ext h q.n (ok_parts hq)
  unfold slkC slk
  omega
theorem stV_rng {x : Nat → Int} (hx : rng x) {z : Int} (hz : litB z = true) : -1 ≤ stV x z ∧ stV x z ≤ 1 := by
  obtain ⟨a, b, c⟩ := litB_iff.1 hz
  unfold stV
  split
  · exact hx _ (by omega)
  · have := hx (-z - 1).toNat (by omega)
    omega
theorem ext_to {v x : Nat → Int} {z : Int} (h : extI v x) (hz : litB z = true) (h1 : stV x z = 1) : extI (asg v z) x := fun i hi hv => by
  obtain ⟨a, b, c⟩ := litB_iff.1 hz
  unfold stV at h1
  unfold asg at hv ⊢
  split at h1
  · rename_i hp
    rw [if_pos hp] at hv ⊢
    by_cases e : i = (z - 1).toNat
    · rw [if_pos e, e]; exact h1
    · rw [if_neg e] at hv ⊢; exact h i hi hv
  · rename_i hp
    rw [if_neg hp] at hv ⊢
    by_cases e : i = (-z - 1).toNat
    · rw [if_pos e, e]; omega
    · rw [if_neg e] at hv ⊢; exact h i hi hv
theorem ext_toL {x : Nat → Int} : ∀ (L : List Int) (v : Nat → Int), extI v x → (∀ z ∈ L, litB z = true ∧ stV x z = 1) → extI (asgL v L) x
  | [], _, h, _ => h
  | z :: zs, v, h, hL => ext_toL zs (asg v z) (ext_to h (hL z (List.mem_cons_self)).1 (hL z (List.mem_cons_self)).2) fun y hy => hL y (List.mem_cons_of_mem _ hy)
/-- What a constraint implies, a fixed extension has. -/
theorem imp_in {q : Con} (hq : okC q) {v x : Nat → Int} (h : extI v x) (hx : rng x) (hf : fixC q x) {z : Int} (hz : z ∈ impC q v) : litB z = true ∧ stV x z = 1 := by
  obtain ⟨j, hj, rfl, h2, h3⟩ := imL_mem.1 hz
  have hl := litAt hq hj
  refine ⟨hl, ?_⟩
  obtain ⟨a, b⟩ := stV_rng hx hl
  obtain ⟨f1, f2⟩ := hf
  by_cases e0 : stV x (q.l j) = 0
  · have := slk_ext hq h
    have hm : q.l j ∈ impC q x := imL_mem.2 ⟨j, hj, rfl, e0, by unfold slkC at *; omega⟩
    rw [f2] at hm
    cases hm
  · by_cases e1 : stV x (q.l j) < 0
    · have h4 := sB_lose h (c := q.c) (l := q.l) (j := j) (by unfold nfP; rw [h2]; rfl) (by unfold nfP; rw [decide_eq_false_iff_not]; omega) q.n hj (ok_parts hq)
      unfold slkC slk at *
      omega
    · omega
/-- A fixed extension bounds the run: no constraint is violated on the way. -/
theorem Runs.under {p : Nat → Con} {m i : Nat} {v w x : Nat → Int} {r : Int} (h : Runs p m i v w r) (hok : ∀ j, j < m → okC (p j)) (hx : rng x) (hf : ∀ j, j < m → fixC (p j) x) : extI v x → extI w x ∧ r = -1 := by
  induction h with
  | vio i v hi h =>
    intro he
    have := slk_ext (hok i hi) he
    have := (hf i hi).1
    omega
  | step i v w r hi h hn ih =>
    intro he
    exact ih (ext_toL _ _ he fun z hz => imp_in (hok i hi) he hx (hf i hi) hz)
  | fin i v h => intro he; exact ⟨he, rfl⟩
/-- A run from where another has ended. -/
theorem Runs.again {p : Nat → Con} {m : Nat} {v w w' : Nat → Int} {r r' : Int} (h : Runs p m 0 v w r) (h' : Runs p m 0 w w' r') (hok : ∀ j, j < m → okC (p j)) : (0 ≤ r' ↔ 0 ≤ r) ∧ (r < 0 → w' = w) := by
  obtain ⟨e1, h1⟩ := h.ends hok
  obtain ⟨e2, h2⟩ := h'.ends hok
  rcases h1 with ⟨rfl, hf⟩ | ⟨j, hj, rfl, hs⟩
  · obtain ⟨a, b⟩ := h'.fixed hf
    exact ⟨by omega, fun _ => a⟩
  · rcases h2 with ⟨rfl, hf⟩ | ⟨j', hj', rfl, hs'⟩
    · have := slk_ext (hok j hj) e2
      exact absurd (show slkC (p j) w' < 0 by omega) (hf j hj).1
    · exact ⟨by omega, fun h => by omega⟩
theorem asg_tail {v : Nat → Int} {z : Int} (hz : litB z = true) (h : ∀ i, 12 ≤ i → v i = 0) : ∀ i, 12 ≤ i → asg v z i = 0 := fun i hi => by
  obtain ⟨a, b, c⟩ := litB_iff.1 hz
  unfold asg
  split
  · rw [if_neg (by omega)]; exact h i hi
  · rw [if_neg (by omega)]; exact h i hi
theorem asgL_tail : ∀ (L : List Int) (v : Nat → Int), (∀ z ∈ L, litB z = true) → (∀ i, 12 ≤ i → v i = 0) → ∀ i, 12 ≤ i → asgL v L i = 0
  | [], _, _, h => h
  | z :: zs, v, hL, h => asgL_tail zs (asg v z) (fun y hy => hL y (List.mem_cons_of_mem _ hy)) (asg_tail (hL z (List.mem_cons_self)) h)
theorem Runs.tail {p : Nat → Con} {m i : Nat} {v w : Nat → Int} {r : Int} (h : Runs p m i v w r) (hok : ∀ j, j < m → okC (p j)) : (∀ i, 12 ≤ i → v i = 0) → ∀ i, 12 ≤ i → w i = 0 := by
  induction h with
  | vio i v hi h => exact id
  | step i v w r hi h hn ih => exact fun h0 => ih (asgL_tail _ _ (fun z hz => ((imp_fr (hok i hi) v).1 z hz).1) h0)
  | fin i v h => exact id
end Go.Proofs.Ytckaeaclclhapaa

