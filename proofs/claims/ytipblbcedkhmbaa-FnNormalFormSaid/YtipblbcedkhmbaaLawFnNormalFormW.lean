/- Partial assignments and the sums under them: plain facts (no claim of its own). Conditions: as each theorem states. · Contracts of the model's and the program's EvalConstraint, whole (no claim of its own). Conditions: as each theorem states. · The contract of the model's EvalConstraint, whole (no claim of its own). Conditions: as each theorem states. · Arithmetic of the laws of multiplication, division and saturation (no claim of its own). Conditions: as each theorem states. · The contracts of the program's check ahead of a normal form (no claim of its own). Conditions: as each theorem states. · Contracts of the model's NormalForm (no claim of its own). Conditions: as each theorem states. · The keys of the program's map, sorted: what they say of the rows (no claim of its own). Conditions: as each theorem states. · The program's normalize, its first loop (no claim of its own). Conditions: as each theorem states. · Contracts of the program's NormalForm (no claim of its own). Conditions: as each theorem states. · The sum of two constraints, off the pairs and off the variables (no claim of its own). Conditions: as each theorem states. · The sum of two constraints, all variables (no claim of its own). Conditions: as each theorem states. · What a normal form says of values (no claim of its own). Conditions: as each theorem states. · What the law of normal forms needs (no claim of its own). Conditions: as each theorem states. · A literal's sign and index in twelve values (no claim of its own). Conditions: as each theorem states. · The walk of the law FnNormalForm (no claim of its own). Conditions: as each theorem states. -/
import Derived.Test.YtipblbcedkhmbaaComA
import Derived.Test.YtipblbcedkhmbaaIntA
import Derived.Test.YtipblbcedkhmbaaSumD
import Derived.Test.YtipblbcedkhmbaaEvaA
import Derived.Test.YtipblbcedkhmbaaSmeA
import Derived.Test.YtipblbcedkhmbaaScaA
import Derived.Test.YtipblbcedkhmbaaNorC
import Derived.Test.YtipblbcedkhmbaaLaq
import Derived.Maps.OwnOps
import Derived.Maps.Views
import Derived.WalkArith
import Derived.Deep.AppendLies
import Derived.OwnWalk
import Derived.Test.YtipblbcedkhmbaaAddC
import Derived.Test.YtipblbcedkhmbaaDrnA
import Derived.Test.YtipblbcedkhmbaaDrwL
namespace Go.Proofs.Ytipblbcedkhmbaa
open Go.ChangeShapes Go.WideShapes Go.ChangeAt Go.RowKit Go.Shelf

/-- The first k values are -1, 0 or 1. -/
def pvT (v : Nat → Int) : Nat → Bool
  | 0 => true
  | k + 1 => pvT v k && (decide (-1 ≤ v k) && decide (v k ≤ 1))
/-- Whether values are a partial assignment. -/
def pvB (n : Nat) (v : Nat → Int) : Bool := pvT v n && n == 12
theorem pvT_at {v : Nat → Int} {n k : Nat} (h : pvT v n = true) (hk : k < n) : -1 ≤ v k ∧ v k ≤ 1 := by
  induction n with
  | zero => omega
  | succ n ih =>
    unfold pvT at h
    simp only [Bool.and_eq_true, decide_eq_true_eq] at h
    by_cases e : k = n
    · subst e; exact h.2
    · exact ih h.1 (by omega)
theorem pvT_iff {v : Nat → Int} {n : Nat} : pvT v n = true ↔ ∀ i, i < n → -1 ≤ v i ∧ v i ≤ 1 := by
  constructor
  · exact fun h i hi => pvT_at h hi
  · intro h
    induction n with
    | zero => rfl
    | succ n ih =>
      unfold pvT
      rw [ih (fun i hi => h i (by omega))]
      have := h n (by omega)
      simp [this]
theorem pvB_iff {v : Nat → Int} {n : Nat} : pvB n v = true ↔ n = 12 ∧ ∀ i, i < 12 → -1 ≤ v i ∧ v i ≤ 1 := by
  unfold pvB
  rw [Bool.and_eq_true, pvT_iff, beq_iff_eq]
  constructor
  · rintro ⟨h, rfl⟩; exact ⟨rfl, h⟩
  · rintro ⟨rfl, h⟩; exact ⟨h, rfl⟩
theorem pvB_no {v : Nat → Int} {n k : Nat} (hk : k < n) (h : v k < -1 ∨ 1 < v k) : pvB n v = false := by
  cases hb : pvB n v with
  | false => rfl
  | true =>
    obtain ⟨rfl, h1⟩ := pvB_iff.1 hb
    have := h1 k hk
    omega

/-- What a literal is under a partial assignment: 1, -1 or 0. -/
def stV (v : Nat → Int) (l : Int) : Int := if 0 < l then v (l - 1).toNat else -(v (-l - 1).toNat)
theorem stV_bd {v : Nat → Int} {l : Int} (hl : litB l = true) (h : ∀ i, i < 12 → -1 ≤ v i ∧ v i ≤ 1) : -1 ≤ stV v l ∧ stV v l ≤ 1 := by
  obtain ⟨h0, h1, h2⟩ := litB_iff.1 hl
  unfold stV
  split
  · exact h _ (by omega)
  · have := h (-l - 1).toNat (by omega)
    omega
/-- A literal that is not false. -/
def nfP (v : Nat → Int) (l : Int) : Bool := decide (0 ≤ stV v l)

/-- The sum of the coefficients of those of the first k terms whose literals are chosen. -/
def sB (c l : Nat → Int) (P : Int → Bool) : Nat → Int
  | 0 => 0
  | k + 1 => if P (l k) then sB c l P k + c k else sB c l P k
section
variable {c l : Nat → Int} {P : Int → Bool} {k n : Nat} {bd : Int}
theorem sB_yes (h : P (l k) = true) : sB c l P (k + 1) = sB c l P k + c k := by show (if P (l k) then _ else _) = _; rw [if_pos h]
theorem sB_no (h : P (l k) = false) : sB c l P (k + 1) = sB c l P k := by show (if P (l k) then _ else _) = _; rw [if_neg (by rw [h]; decide)]
theorem sB_le (h : ∀ i, i < k → 1 ≤ c i ∧ c i ≤ 1000) : 0 ≤ sB c l P k ∧ sB c l P k ≤ 1000 * (k : Int) := by
  induction k with
  | zero => simp [sB]
  | succ k ih =>
    have h1 := ih (fun i hi => h i (by omega))
    have h2 := h k (by omega)
    unfold sB
    split <;> omega
theorem sumW_sB (hk : k ≤ 1048576) (h : ∀ i, i < k → 1 ≤ c i ∧ c i ≤ 1000) : sumW (sel c l P k) = sB c l P k := by
  induction k with
  | zero => rfl
  | succ k ih =>
    have h1 := ih (by omega) (fun i hi => h i (by omega))
    have h2 := sB_le (l := l) (P := P) (fun i hi => h i (by omega : i < k + 1)) (k := k)
    have h3 := h k (by omega)
    cases hp : P (l k) with
    | true =>
      rw [sel_yes hp, sumW_snoc, h1, sB_yes hp, ← IntWalk.i64_left]
      exact IntWalk.i64_in _ (by omega)
    | false => rw [sel_no hp, h1, sB_no hp]
theorem coef_of (h : validB n c l bd = true) : ∀ i, i < n → 1 ≤ c i ∧ c i ≤ 1000 := fun i hi => by
  unfold validB at h
  rw [Bool.and_eq_true] at h
  exact okAt_coef (vtB_at h.1 hi)
theorem bound_of (h : validB n c l bd = true) : 0 ≤ bd ∧ bd ≤ 20000 := by
  unfold validB at h
  simp only [Bool.and_eq_true, decide_eq_true_eq] at h
  exact h.2
end

/-- The slack of a constraint under a partial assignment. -/
def slk (n : Nat) (c l : Nat → Int) (bd : Int) (v : Nat → Int) : Int := sB c l (nfP v) n - bd
/-- Whether there is one. -/
def slkOk (n : Nat) (c l : Nat → Int) (bd : Int) (nv : Nat) (v : Nat → Int) : Bool := validB n c l bd && pvB nv v
/-- What SlackOf answers. -/
def slkV (n : Nat) (c l : Nat → Int) (bd : Int) (nv : Nat) (v : Nat → Int) : Int := if slkOk n c l bd nv v then slk n c l bd v else 0
theorem slk_bd {n : Nat} {c l : Nat → Int} {bd : Int} {v : Nat → Int} (h : validB n c l bd = true) : -20000 ≤ slk n c l bd v ∧ slk n c l bd v ≤ 1000 * (n : Int) := by
  have h1 := sB_le (l := l) (P := nfP v) (coef_of h)
  have h2 := bound_of h
  unfold slk
  omega
end Go.Proofs.Ytipblbcedkhmbaa

namespace Go.Proofs.Ytipblbcedkhmbaa
open Go.ChangeShapes Go.WideShapes Go.ChangeAt Go.RowKit Go.Shelf

/-- What EvalConstraint answers. -/
def evalV (n : Nat) (c l : Nat → Int) (bd : Int) (nv : Nat) (v : Nat → Bool) : Bool := validB n c l bd && (nv == 12 && decide (bd ≤ evW c l v n))
theorem evalV_inv {n : Nat} {c l : Nat → Int} {bd : Int} {nv : Nat} {v : Nat → Bool} (h : validB n c l bd = false) : evalV n c l bd nv v = false := by simp [evalV, h]
theorem evalV_len {n : Nat} {c l : Nat → Int} {bd : Int} {nv : Nat} {v : Nat → Bool} (h : nv ≠ 12) : evalV n c l bd nv v = false := by simp [evalV, h]
theorem evalV_yes {n : Nat} {c l : Nat → Int} {bd : Int} {v : Nat → Bool} (h : validB n c l bd = true) : evalV n c l bd 12 v = decide (bd ≤ evW c l v n) := by simp [evalV, h]

set_option maxRecDepth 100000 in
set_option maxHeartbeats 1000000 in
theorem implEval_any (A Av : Option Addr) (n cap nv capv : Nat) (bd : Int) (c l : Nat → Int) (v : Nat → Bool) (w : World) (hn : n ≤ 1048576) (hr : Rd w w.heap.size A n c l) (hrv : RdB w w.heap.size Av nv v) :
    Calls Try.prog 22 #[.agg #[.slice A n cap, .int .i64 bd], .slice Av nv capv] w fun e w' => e = .returned (.bool (evalV n c l bd nv v)) ∧ Below w.heap.size w w' := by
  cases hv : validB n c l bd with
  | false =>
    have Hfin := Lib.hid (evalV_inv (nv := nv) (v := v) hv)
    have Hv := Lib.hid hv
    clear hv
    go_enter Try.func22, Try.ntmps22
    go_wp2_with fail
    refine (implValid_any _ _ _ _ c l _ hn (hr.later (bl_alloc (bl_alloc (Below.refl _ _) _) _))).mono ?_
    rintro e w1 ⟨rfl, hb⟩
    have HB1 := Lib.hid (bl_trans (bl_alloc (bl_alloc (Below.refl w.heap.size w) _) _) hb)
    clear hb
    rw [Hv.out]
    go_wp2
    go_ret
    exact ⟨ret_bool Hfin.out.symm, HB1.out⟩
  | true =>
    by_cases hnv : nv = 12
    · subst hnv
      have Hfin := Lib.hid (evalV_yes (v := v) hv)
      have Hv := Lib.hid hv
      clear hv
      go_enter Try.func22, Try.ntmps22
      go_wp2_with fail
      refine (implValid_any _ _ _ _ c l _ hn (hr.later (bl_alloc (bl_alloc (Below.refl _ _) _) _))).mono ?_
      rintro e w1 ⟨rfl, hb⟩
      have HB1 := Lib.hid (bl_trans (bl_alloc (bl_alloc (Below.refl w.heap.size w) _) _) hb)
      have a0 : w1.cell? ⟨w.heap.size, 0, none⟩ = some (.slice A n cap) := kc hb (by go_simp)
      have a1 : w1.cell? ⟨w.heap.size, 1, none⟩ = some (.int .i64 bd) := kc hb (by go_simp)
      have b0 : w1.cell? ⟨w.heap.size + 1, 0, none⟩ = some (.slice Av 12 capv) := kc hb (by go_simp)
      clear hb
      rw [Hv.out]
      go_wp2_with fail
      go_region_held3 (fun w' => w'.cell? ⟨w.heap.size, 0, none⟩ = some (.slice A n cap) ∧ w'.cell? ⟨w.heap.size, 1, none⟩ = some (.int .i64 bd)) (go_keep)
        (first
          | (go_at_call 71; refine (coefsWhere_any _ _ _ _ _ _).mono ?_; rintro e w2 ⟨rfl, t0, t1, hsz, hb⟩; have HB2 := Lib.hid (bl_trans HB1.out.drew hb); replace a0 := kc hb a0; replace a1 := kc hb a1; replace b0 := kc hb b0; clear hb)
          | (go_at_call 70; refine (sumHolds_any _ (w.heap.size + 1) _ _ _ _ _ c l bd v hn _ Hv.out hsz t0 t1 (hr.later HB2.out) b0 (hrv.later HB2.out)).mono ?_; rintro e w3 ⟨rfl, hb⟩; have HB3 := Lib.hid (bl_trans HB2.out hb); replace a0 := kc hb a0; replace a1 := kc hb a1; replace b0 := kc hb b0; clear hb))
      go_wp2
      go_ret
      exact ⟨ret_bool Hfin.out.symm, HB3.out⟩
    · have Hfin := Lib.hid (evalV_len (n := n) (c := c) (l := l) (bd := bd) (v := v) hnv)
      have Hv := Lib.hid hv
      have hd : ((nv : Int) != 12) = true := by rw [bne_iff_ne]; omega
      clear hv hnv
      go_enter Try.func22, Try.ntmps22
      go_wp2_with fail
      refine (implValid_any _ _ _ _ c l _ hn (hr.later (bl_alloc (bl_alloc (Below.refl _ _) _) _))).mono ?_
      rintro e w1 ⟨rfl, hb⟩
      have HB1 := Lib.hid (bl_trans (bl_alloc (bl_alloc (Below.refl w.heap.size w) _) _) hb)
      have b0 : w1.cell? ⟨w.heap.size + 1, 0, none⟩ = some (.slice Av nv capv) := kc hb (by go_simp)
      clear hb
      rw [Hv.out]
      go_wp2
      go_ret
      exact ⟨ret_bool Hfin.out.symm, HB1.out⟩
end Go.Proofs.Ytipblbcedkhmbaa

namespace Go.Proofs.Ytipblbcedkhmbaa
open Go.ChangeShapes Go.WideShapes Go.ChangeAt Go.RowKit Go.Shelf

end Go.Proofs.Ytipblbcedkhmbaa

namespace Go.Proofs.Ytipblbcedkhmbaa
open Go.ChangeShapes Go.WideShapes Go.ChangeAt Go.RowKit

theorem tseq_of {n : Nat} {c l c' l' : Nat → Int} (h : ∀ i, i < n → c i = c' i ∧ l i = l' i) : tseq c l c' l' n = true := by
  induction n with
  | zero => rfl
  | succ n ih =>
    unfold tseq
    obtain ⟨h1, h2⟩ := h n (by omega)
    rw [ih fun i hi => h i (by omega), h1, h2]
    simp [teq]
theorem same_of {n : Nat} {c l c' l' : Nat → Int} {bd bd' : Int} (h : ∀ i, i < n → c i = c' i ∧ l i = l' i) (hb : bd = bd') : same n n c l c' l' bd bd' = true := by
  unfold same
  rw [tseq_of h, hb]
  simp
theorem same_refl' (n : Nat) (c l : Nat → Int) (bd : Int) : same n n c l c l bd bd = true := same_of (fun _ _ => ⟨rfl, rfl⟩) rfl
theorem Frs.to {w : World} {B : Nat} {A : Option Addr} {n : Nat} {c l c' l' : Nat → Int} (h : Frs w B A n c l) (he : ∀ i, i < n → c i = c' i ∧ l i = l' i) : Frs w B A n c' l' := by
  rcases h with h | ⟨G, e, hG, cs, hh, h1, h2⟩
  · exact .inl h
  · refine .inr ⟨G, e, hG, cs, hh, h1, fun i hi => ?_⟩
    obtain ⟨x, y⟩ := h2 i hi
    obtain ⟨e1, e2⟩ := he i hi
    rw [← e1, ← e2]
    exact ⟨x, y⟩
theorem CRes.to {w : World} {n n' : Nat} {c l c' l' : Nat → Int} {bd bd' : Int} {ok ok' : Bool} {e : Ending} {w' : World} (h : CRes w n c l bd ok e w') (hn : n = n') (he : ∀ i, i < n → c i = c' i ∧ l i = l' i) (hb : bd = bd') (hk : ok = ok') : CRes w n' c' l' bd' ok' e w' := by
  subst hn hb hk
  obtain ⟨A, cap, h1, h2, h3⟩ := h
  exact ⟨A, cap, h1, h2.to he, h3⟩

theorem wr64 {x : Int} (h : -9000000000 ≤ x ∧ x ≤ 9000000000) : wrap64 x = x := by rw [← IntWalk.i64_left]; exact IntWalk.i64_in _ (by omega)
theorem mulK_val {x k : Int} (h0 : 0 ≤ x) (h1 : x ≤ 20000) (h2 : 1 ≤ k) (h3 : k ≤ 1000) : mulK x k = x * k ∧ x ≤ x * k := by
  have a : 0 ≤ x * k := Int.mul_nonneg h0 (by omega)
  have b : x * k ≤ 20000 * 1000 := Int.mul_le_mul h1 h3 (by omega) (by omega)
  have d : x * 1 ≤ x * k := Int.mul_le_mul_of_nonneg_left h2 h0
  exact ⟨wr64 (by omega), by omega⟩
theorem divK_le_iff {x k q : Int} (hk : 1 ≤ k) : divK x k ≤ q ↔ x ≤ q * k := by
  unfold divK
  have : (x + k - 1) / k < q + 1 ↔ x + k - 1 < (q + 1) * k := Int.ediv_lt_iff_lt_mul (by omega)
  have e : (q + 1) * k = q * k + k := by rw [Int.add_mul, Int.one_mul]
  rw [e] at this
  omega
theorem divK_mul {x k : Int} (hk : 1 ≤ k) : divK (x * k) k = x := by
  have h1 := (divK_le_iff (x := x * k) (q := x) hk).2 (Int.le_refl _)
  have h2 : ¬ divK (x * k) k ≤ x - 1 := fun h => by
    have := (divK_le_iff hk).1 h
    rw [Int.sub_mul] at this
    omega
  omega
theorem divK_divK {x k n : Int} (hk : 1 ≤ k) (hn : 1 ≤ n) : divK (divK x k) n = divK x (k * n) := by
  have hkn : 1 ≤ k * n := by have := Int.mul_le_mul hk hn (by omega) (by omega); omega
  have h : ∀ q, divK (divK x k) n ≤ q ↔ divK x (k * n) ≤ q := fun q => by
    rw [divK_le_iff hn, divK_le_iff hk, divK_le_iff hkn, Int.mul_assoc, Int.mul_comm n k]
  have h1 := (h (divK x (k * n))).2 (Int.le_refl _)
  have h2 := (h (divK (divK x k) n)).1 (Int.le_refl _)
  omega
theorem divK_ge {x k : Int} (hk : 1 ≤ k) : x ≤ divK x k * k := (divK_le_iff hk).1 (Int.le_refl _)
theorem divK_in {x k b : Int} (h0 : 0 ≤ x) (h1 : x ≤ b) (hk : 1 ≤ k) : 0 ≤ divK x k ∧ divK x k ≤ b ∧ (1 ≤ x → 1 ≤ divK x k) := by
  have hb : b * 1 ≤ b * k := Int.mul_le_mul_of_nonneg_left hk (by omega)
  refine ⟨?_, (divK_le_iff hk).2 (by omega), fun hx => ?_⟩
  · have : ¬ divK x k ≤ -1 := fun h => by have := (divK_le_iff hk).1 h; omega
    omega
  · have : ¬ divK x k ≤ 0 := fun h => by have := (divK_le_iff hk).1 h; omega
    omega

/-- What a law over a drawn constraint, one rule and values needs of the rule's answer. -/
theorem infB_iff {R : Bool} {n : Nat} {c l : Nat → Int} {bd : Int} : infB R n c l bd = true ↔ R = true ∧ validB n c l bd = true := by simp [infB]
theorem inf_of {R : Bool} {n : Nat} {c l : Nat → Int} {bd : Int} (h : infB R n c l bd = true) : infN R n c l bd = n ∧ infD R n c l bd = bd := by
  unfold infN infD
  rw [h]
  exact ⟨rfl, rfl⟩

theorem evalV_sB {n : Nat} {c l : Nat → Int} {bd : Int} {v : Nat → Bool} (hn : n ≤ 1048576) (h : validB n c l bd = true) : evalV n c l bd 12 v = decide (bd ≤ sB c l (trueP v) n) := by
  rw [evalV_yes h]
  unfold evW
  rw [sumW_sB hn (coef_of h)]
theorem sB_mul {n : Nat} {c l : Nat → Int} {k : Int} {P : Int → Bool} (hc : ∀ i, i < n → 1 ≤ c i ∧ c i ≤ 1000) (h2 : 1 ≤ k) (h3 : k ≤ 1000) : sB (fun i => mulK (c i) k) l P n = sB c l P n * k := by
  induction n with
  | zero => simp [sB]
  | succ n ih =>
    have h1 := ih fun i hi => hc i (by omega)
    have hn := hc n (by omega)
    cases hp : P (l n) with
    | true =>
      rw [sB_yes (c := c) hp, sB_yes (c := fun i => mulK (c i) k) hp, h1]
      show _ + mulK (c n) k = _
      rw [(mulK_val (by omega) (by omega) h2 h3).1, Int.add_mul]
    | false => rw [sB_no (c := c) hp, sB_no (c := fun i => mulK (c i) k) hp, h1]
theorem sB_div {n : Nat} {c l : Nat → Int} {k : Int} {P : Int → Bool} (h2 : 1 ≤ k) : sB c l P n ≤ sB (fun i => divK (c i) k) l P n * k := by
  induction n with
  | zero => simp [sB]
  | succ n ih =>
    cases hp : P (l n) with
    | true =>
      rw [sB_yes (c := c) hp, sB_yes (c := fun i => divK (c i) k) hp, Int.add_mul]
      have := divK_ge (x := c n) h2
      show _ + _ ≤ _ + divK (c n) k * k
      omega
    | false => rw [sB_no (c := c) hp, sB_no (c := fun i => divK (c i) k) hp]; exact ih

/-- Multiplication is an equivalence, and division takes it back. -/
theorem mul_law {n : Nat} {c l : Nat → Int} {bd k : Int} (hn : n ≤ 1048576) (h : infB (scaR n c l bd k) n (fun i => mulK (c i) k) l (mulK bd k) = true) :
    (1 ≤ k ∧ k ≤ 1000) ∧ validB n c l bd = true ∧ validB n (fun i => mulK (c i) k) l (mulK bd k) = true ∧ (∀ i, i < n → divK (mulK (c i) k) k = c i) ∧ divK (mulK bd k) k = bd ∧ ∀ nv v, evalV n (fun i => mulK (c i) k) l (mulK bd k) nv v = evalV n c l bd nv v := by
  obtain ⟨hR, hv⟩ := infB_iff.1 h
  obtain ⟨hv0, h2, h3⟩ := scaR_iff.1 hR
  have hb := bound_of hv0
  refine ⟨⟨h2, h3⟩, hv0, hv, fun i hi => ?_, ?_, fun nv v => ?_⟩
  · have := coef_of hv0 i hi
    rw [(mulK_val (by omega) (by omega) h2 h3).1, divK_mul h2]
  · rw [(mulK_val (by omega) (by omega) h2 h3).1, divK_mul h2]
  · by_cases e : nv = 12
    · subst e
      rw [evalV_sB hn hv, evalV_sB hn hv0, sB_mul (coef_of hv0) h2 h3, (mulK_val hb.1 (by omega) h2 h3).1]
      have : bd * k ≤ sB c l (trueP v) n * k ↔ bd ≤ sB c l (trueP v) n := Int.mul_le_mul_right (by omega)
      rw [decide_eq_decide]
      exact this
    · rw [evalV_len e, evalV_len e]

theorem div_valid {n : Nat} {c l : Nat → Int} {bd k : Int} (h : validB n c l bd = true) (h2 : 1 ≤ k) : validB n (fun i => divK (c i) k) l (divK bd k) = true :=
  valid_mk h (fun i hi => by
    have hc := coef_of h i hi
    have := divK_in (x := c i) (k := k) (by omega) hc.2 h2
    exact ⟨this.2.2 hc.1, this.2.1⟩) (divK_in (bound_of h).1 (bound_of h).2 h2).1 (divK_in (bound_of h).1 (bound_of h).2 h2).2.1
theorem div_infB {n : Nat} {c l : Nat → Int} {bd k : Int} (h : validB n c l bd = true) (h2 : 1 ≤ k) (h3 : k ≤ 1000) : infB (scaR n c l bd k) n (fun i => divK (c i) k) l (divK bd k) = true :=
  infB_iff.2 ⟨scaR_iff.2 ⟨h, h2, h3⟩, div_valid h h2⟩
/-- Division is sound. -/
theorem div_law {n : Nat} {c l : Nat → Int} {bd k : Int} (hn : n ≤ 1048576) (h : infB (scaR n c l bd k) n (fun i => divK (c i) k) l (divK bd k) = true) :
    (1 ≤ k ∧ k ≤ 1000) ∧ validB n c l bd = true ∧ validB n (fun i => divK (c i) k) l (divK bd k) = true ∧ ∀ nv v, evalV n c l bd nv v = true → evalV n (fun i => divK (c i) k) l (divK bd k) nv v = true := by
  obtain ⟨hR, hv⟩ := infB_iff.1 h
  obtain ⟨hv0, h2, h3⟩ := scaR_iff.1 hR
  refine ⟨⟨h2, h3⟩, hv0, hv, fun nv v he => ?_⟩
  by_cases e : nv = 12
  · subst e
    rw [evalV_sB hn hv0, decide_eq_true_eq] at he
    rw [evalV_sB hn hv, decide_eq_true_eq, divK_le_iff h2]
    exact Int.le_trans he (sB_div h2)
  · rw [evalV_len e] at he
    cases he
/-- Divisions compose. -/
theorem div_twice {n : Nat} {c l : Nat → Int} {bd k m : Int} (h1 : 1 ≤ k) (h2 : 1 ≤ m) : same n n (fun i => divK (divK (c i) k) m) l (fun i => divK (c i) (k * m)) l (divK (divK bd k) m) (divK bd (k * m)) = true :=
  same_of (fun _ _ => ⟨divK_divK h1 h2, rfl⟩) (divK_divK h1 h2)
end Go.Proofs.Ytipblbcedkhmbaa

namespace Go.Proofs.Ytipblbcedkhmbaa
open Go.ChangeShapes Go.WideShapes Go.ChangeAt Go.RowKit

set_option maxRecDepth 100000 in
set_option maxHeartbeats 800000 in
theorem canNorm_out (A : Option Addr) (n cap : Nat) (bd : Int) (c l : Nat → Int) (w : World) (hn : n ≤ 1048576) (h : 40 < n ∨ bd < -20000 ∨ 20000 < bd) :
    Calls Try.prog 60 #[.slice A n cap, .int .i64 bd] w fun e w' => e = .returned (.bool (preB n c l bd)) ∧ Below w.heap.size w w' := by
  have No := Lib.hid (preB_out (c := c) (l := l) h)
  rcases h with h | h | h
  · go_enter Try.func60, Try.ntmps60
    go_wp2
    go_ret
    exact ⟨ret_bool No.out.symm, Below.refl _ _⟩
  · by_cases h1 : 40 < n
    · go_enter Try.func60, Try.ntmps60
      go_wp2
      go_ret
      exact ⟨ret_bool No.out.symm, Below.refl _ _⟩
    · go_enter Try.func60, Try.ntmps60
      go_wp2
      go_ret
      exact ⟨ret_bool No.out.symm, Below.refl _ _⟩
  · by_cases h1 : 40 < n
    · go_enter Try.func60, Try.ntmps60
      go_wp2
      go_ret
      exact ⟨ret_bool No.out.symm, Below.refl _ _⟩
    · have h2 : ¬ bd < -20000 := by omega
      go_enter Try.func60, Try.ntmps60
      go_wp2
      go_ret
      exact ⟨ret_bool No.out.symm, Below.refl _ _⟩

set_option maxRecDepth 100000 in
set_option maxHeartbeats 1600000 in
theorem canNorm_in (A : Option Addr) (n cap : Nat) (bd : Int) (c l : Nat → Int) (w : World) (hn : n ≤ 1048576) (hr : Rd w w.heap.size A n c l) (h1 : n ≤ 40) (h2 : -20000 ≤ bd) (h3 : bd ≤ 20000) :
    Calls Try.prog 60 #[.slice A n cap, .int .i64 bd] w fun e w' => e = .returned (.bool (preB n c l bd)) ∧ Below w.heap.size w w' := by
  go_enter Try.func60, Try.ntmps60
  go_wp2
  go_loopw [20] (fun i wr => ∃ k : Nat, k ≤ n ∧ i = .int .i64 k ∧ allN c l k = true ∧ Below w.heap.size w wr) (fun i _ => n - (intOf i).toNat)
  case atStart => exact ⟨0, Nat.zero_le _, rfl, rfl, Below.refl _ _⟩
  case round =>
    obtain ⟨k, hk, rfl, hv, hb⟩ := hrel
    have Hv := Lib.hid hv
    clear hv
    by_cases hlt : k < n
    · obtain ⟨b, off, rfl, hbl, hc⟩ := (hr.below hb) (by omega)
      obtain ⟨hc1, hc2⟩ := hc k hlt
      clear hc hr
      cases hL : litB (l k) with
      | false =>
        have No := Lib.hid (preB_no (bd := bd) (okN_nf (c := c) (.inl hL)) hlt)
        go_wp2_with (go_at_call 66; refine (litValid_any _ _).mono ?_; rintro e w' ⟨rfl, rfl⟩)
        go_ret
        exact ⟨ret_bool No.out.symm, by repeat (first | exact hb | refine bl_alloc ?_ _ | refine bl_drewN ?_ _ | refine Below.drew ?_)⟩
      | true =>
        by_cases hC : c k < -1000 ∨ 1000 < c k
        · have No := Lib.hid (preB_no (bd := bd) (okN_nf (c := c) (l := l) (.inr hC)) hlt)
          have key : c k < -1000 ∨ (¬ c k < -1000 ∧ 1000 < c k) := by omega
          clear hC
          rcases key with h | ⟨h, h'⟩
          all_goals
            go_wp2_with (go_at_call 66; refine (litValid_any _ _).mono ?_; rintro e w' ⟨rfl, rfl⟩)
            go_ret
            exact ⟨ret_bool No.out.symm, by repeat (first | exact hb | refine bl_alloc ?_ _ | refine bl_drewN ?_ _ | refine Below.drew ?_)⟩
        · have q1 : ¬ c k < -1000 := by omega
          have q2 : ¬ 1000 < c k := by omega
          have Hgo := Lib.hid (allN_succ Hv.out (okN_iff.2 ⟨hL, by omega, by omega⟩))
          clear hC
          go_wp2_with (go_at_call 66; refine (litValid_any _ _).mono ?_; rintro e w' ⟨rfl, rfl⟩)
          go_roundw
          case rel => exact ⟨k + 1, by omega, by go_num, Hgo.out, by repeat (first | exact hb | refine bl_alloc ?_ _ | refine bl_drewN ?_ _ | refine Below.drew ?_)⟩
          case measure => simp [intOf]; omega
    · have e : k = n := by omega
      subst e
      clear hr
      go_wp2
      go_ret
      exact ⟨ret_bool (preB_in Hv.out h1 h2 h3).symm, hb⟩

theorem canNorm_any (A : Option Addr) (n cap : Nat) (bd : Int) (c l : Nat → Int) (w : World) (hn : n ≤ 1048576) (hr : Rd w w.heap.size A n c l) :
    Calls Try.prog 60 #[.slice A n cap, .int .i64 bd] w fun e w' => e = .returned (.bool (preB n c l bd)) ∧ Below w.heap.size w w' := by
  by_cases h : 40 < n ∨ bd < -20000 ∨ 20000 < bd
  · exact canNorm_out A n cap bd c l w hn h
  · exact canNorm_in A n cap bd c l w hn hr (by omega) (by omega) (by omega)
end Go.Proofs.Ytipblbcedkhmbaa

namespace Go.Proofs.Ytipblbcedkhmbaa
open Go.ChangeShapes Go.WideShapes Go.ChangeAt Go.RowKit

/-- What NormalForm answers. -/
def nfR (n : Nat) (c l : Nat → Int) : List (Int × Int) := rowsN (net c l n) 12
def nfb (n : Nat) (c l : Nat → Int) (bd : Int) : Int := bndN (net c l n) (nbd c l bd n) 12
def nfB (n : Nat) (c l : Nat → Int) (bd : Int) : Bool := preB n c l bd && fitB (nfR n c l) (nfb n c l bd)
def nfN (n : Nat) (c l : Nat → Int) (bd : Int) : Nat := if preB n c l bd then fitN (nfR n c l) (nfb n c l bd) else 0
def nfD (n : Nat) (c l : Nat → Int) (bd : Int) : Int := if preB n c l bd then fitD (nfR n c l) (nfb n c l bd) else 0
def NfRes (w : World) (n : Nat) (c l : Nat → Int) (bd : Int) : Ending → World → Prop := CRes w (nfN n c l bd) (rC (nfR n c l)) (rL (nfR n c l)) (nfD n c l bd) (nfB n c l bd)
theorem nfRes_no {w w' : World} {n : Nat} {c l : Nat → Int} {bd : Int} (h : preB n c l bd = false) (hb : Below w.heap.size w w') :
    NfRes w n c l bd (.returned (.tuple #[.agg #[.slice none 0 0, .int .i64 0], .bool false])) w' := by
  unfold NfRes nfN nfD nfB
  rw [h, if_neg (by decide), if_neg (by decide), Bool.false_and]
  exact ⟨none, 0, rfl, .inl rfl, hb⟩
theorem nfRes_yes {w w' : World} {n : Nat} {c l : Nat → Int} {bd : Int} {e : Ending} (h : preB n c l bd = true)
    (hc : CRes w (fitN (nfR n c l) (nfb n c l bd)) (rC (nfR n c l)) (rL (nfR n c l)) (fitD (nfR n c l) (nfb n c l bd)) (fitB (nfR n c l) (nfb n c l bd)) e w') : NfRes w n c l bd e w' := by
  unfold NfRes nfN nfD nfB
  rw [h, if_pos rfl, if_pos rfl, Bool.true_and]
  exact hc

theorem l1Normal_nf (G n : Nat) (c l : Nat → Int) (bd : Int) (w : World) (hG : OwnK w G 13 (net c l n)) :
    Calls Try.prog 64 #[.slice (some ⟨G, 0, none⟩) 13 13, .int .i64 (nbd c l bd n)] w (CRes w (fitN (nfR n c l) (nfb n c l bd)) (rC (nfR n c l)) (rL (nfR n c l)) (fitD (nfR n c l) (nfb n c l bd)) (fitB (nfR n c l) (nfb n c l bd))) := by
  unfold nfR nfb
  exact l1Normal_walk G _ _ w hG

set_option maxRecDepth 100000 in
set_option maxHeartbeats 800000 in
theorem specNorm_out (A : Option Addr) (n cap : Nat) (bd : Int) (c l : Nat → Int) (w : World) (hn : n ≤ 1048576) (h : 40 < n ∨ bd < -20000 ∨ 20000 < bd) :
    Calls Try.prog 19 #[.slice A n cap, .int .i64 bd] w (NfRes w n c l bd) := by
  have No := Lib.hid (preB_out (c := c) (l := l) h)
  have key : 40 < n ∨ (¬ 40 < n ∧ bd < -20000) ∨ (¬ 40 < n ∧ ¬ bd < -20000 ∧ 20000 < bd) := by omega
  clear h
  rcases key with h | ⟨h1, h⟩ | ⟨h1, h2, h⟩
  all_goals
    go_enter Try.func19, Try.ntmps19
    go_wp2
    refine bodyPost_ret (v := .tuple #[.agg #[.slice none 0 0, .int .i64 0], .bool false]) (by simp [results, Try.results19, go_sem]) rfl ?_
    refine nfRes_no No.out ?_
    exact bl_alloc (Below.refl _ _) _

set_option maxRecDepth 100000 in
set_option maxHeartbeats 1600000 in
theorem specNorm_in (A : Option Addr) (n cap : Nat) (bd : Int) (c l : Nat → Int) (w : World) (hn : n ≤ 1048576) (hr : Rd w w.heap.size A n c l) (h1 : n ≤ 40) (h2 : -20000 ≤ bd) (h3 : bd ≤ 20000) :
    Calls Try.prog 19 #[.slice A n cap, .int .i64 bd] w (NfRes w n c l bd) := by
  go_enter Try.func19, Try.ntmps19
  go_wp2
  go_loopw [6] (fun i wr => ∃ k : Nat, k ≤ n ∧ i = .int .i64 k ∧ allN c l k = true ∧ wr.cell? ⟨w.heap.size, 0, none⟩ = some (.slice none 0 0) ∧ wr.cell? ⟨w.heap.size, 1, none⟩ = some (.int .i64 0) ∧ wr.frozen? ⟨w.heap.size, 0, none⟩ = false ∧ wr.frozen? ⟨w.heap.size, 1, none⟩ = false ∧ Below w.heap.size w wr) (fun i _ => n - (intOf i).toNat)
  case atStart => exact ⟨0, Nat.zero_le _, rfl, rfl, by go_simp, by go_simp, by go_simp, by go_simp, bl_alloc (Below.refl _ _) _⟩
  case round =>
    obtain ⟨k, hk, rfl, hv, r0, r1, f0, f1, hb⟩ := hrel
    have Hv := Lib.hid hv
    have hq : w.heap.size < wr.heap.size := World.block_lt_of_cell? wr ⟨w.heap.size, 0, none⟩ r0
    clear hv
    by_cases hlt : k < n
    · obtain ⟨b, off, rfl, hbl, hc⟩ := (hr.below hb) (by omega)
      obtain ⟨hc1, hc2⟩ := hc k hlt
      clear hc hr
      have hlt' : (k : Int) < (n : Int) := by omega
      have hk0 : (0 : Int) ≤ (k : Int) := by omega
      cases hL : litB (l k) with
      | false =>
        have No := Lib.hid (preB_no (bd := bd) (okN_nf (c := c) (.inl hL)) hlt)
        go_wp2_with (go_at_call 62; refine (l1Lit_any _ _).mono ?_; rintro e w' ⟨rfl, rfl⟩)
        refine bodyPost_ret (v := .tuple #[.agg #[.slice none 0 0, .int .i64 0], .bool false]) (by simp [results, Try.results19, go_sem, r0, r1]) rfl ?_
        refine nfRes_no No.out ?_
        exact (hb.setCell (by simp) _).setCell (by simp) _
      | true =>
        by_cases hC : c k < -1000 ∨ 1000 < c k
        · have No := Lib.hid (preB_no (bd := bd) (okN_nf (c := c) (l := l) (.inr hC)) hlt)
          have key : c k < -1000 ∨ (¬ c k < -1000 ∧ 1000 < c k) := by omega
          clear hC
          rcases key with h | ⟨h, h'⟩
          all_goals
            go_wp2_with (go_at_call 62; refine (l1Lit_any _ _).mono ?_; rintro e w' ⟨rfl, rfl⟩)
            refine bodyPost_ret (v := .tuple #[.agg #[.slice none 0 0, .int .i64 0], .bool false]) (by simp [results, Try.results19, go_sem, r0, r1]) rfl ?_
            refine nfRes_no No.out ?_
            exact (hb.setCell (by simp) _).setCell (by simp) _
        · have Hgo := Lib.hid (allN_succ Hv.out (okN_iff.2 ⟨hL, by omega, by omega⟩))
          have q1 : ¬ c k < -1000 := by omega
          have q2 : ¬ 1000 < c k := by omega
          clear hC
          go_wp2_with (go_at_call 62; refine (l1Lit_any _ _).mono ?_; rintro e w' ⟨rfl, rfl⟩)
          go_roundw
          case rel => exact ⟨k + 1, by omega, by go_num, Hgo.out, by go_simp, by go_simp, by go_simp, by go_simp, hb⟩
          case measure => simp [intOf]; omega
    · have e : k = n := by omega
      subst e
      have Hb := Lib.hid hb
      have Yes := Lib.hid (preB_in Hv.out h1 h2 h3)
      have hpre : Rd wr wr.heap.size A k c l := (hr.below hb).more hb.size
      clear hr hb
      go_wp2_with fail
      refine (l1Net_any _ _ _ _ c l _ hn hpre Hv.out).mono ?_
      rintro e w1 ⟨G, rfl, hG, hown, hb⟩
      have HB1 := Lib.hid (bl_trans Hb.out hb)
      replace r0 := kc hb r0
      replace r1 := kc hb r1
      replace f0 := kf hb hq f0
      replace f1 := kf hb hq f1
      have hq1 : w.heap.size < w1.heap.size := World.block_lt_of_cell? w1 ⟨w.heap.size, 0, none⟩ r0
      clear hb hpre
      go_wp2_with fail
      refine (l1Normal_nf G k c l bd _ hown).mono ?_
      rintro e w2 ⟨A2, cap2, rfl, hF, hb⟩
      have HB2 := Lib.hid (bl_trans HB1.out hb)
      replace r0 := kc hb r0
      replace r1 := kc hb r1
      replace f0 := kf hb hq1 f0
      replace f1 := kf hb hq1 f1
      have HF := Lib.hid (hF.more (B' := w.heap.size + 1) (by omega))
      clear hF hb
      go_wp2
      refine bodyPost_ret (v := .tuple #[.agg #[.slice A2 (fitN (nfR k c l) (nfb k c l bd)) cap2, .int .i64 (fitD (nfR k c l) (nfb k c l bd))], .bool (fitB (nfR k c l) (nfb k c l bd))]) (by simp [results, Try.results19, go_sem, r0, r1]) rfl ?_
      refine nfRes_yes Yes.out ?_
      exact ⟨_, _, rfl, ((HF.out.far (by simp) (by simp) _).far (by simp) (by simp) _).more (by omega), (HB2.out.setCell (by simp) _).setCell (by simp) _⟩

theorem specNorm_any (A : Option Addr) (n cap : Nat) (bd : Int) (c l : Nat → Int) (w : World) (hn : n ≤ 1048576) (hr : Rd w w.heap.size A n c l) :
    Calls Try.prog 19 #[.slice A n cap, .int .i64 bd] w (NfRes w n c l bd) := by
  by_cases h : 40 < n ∨ bd < -20000 ∨ 20000 < bd
  · exact specNorm_out A n cap bd c l w hn h
  · exact specNorm_in A n cap bd c l w hn hr (by omega) (by omega) (by omega)
end Go.Proofs.Ytipblbcedkhmbaa

namespace Go.Proofs.Ytipblbcedkhmbaa
open Go.ChangeShapes Go.WideShapes Go.ChangeAt Go.RowKit Go.Maps

theorem rows_gap {f : Nat → Int} {b : Int} {V v : Nat} (h : V ≤ v) (hz : ∀ u, V < u → u ≤ v → f u = 0) : rowsN f v = rowsN f V ∧ bndN f b v = bndN f b V := by
  induction v with
  | zero =>
    have : V = 0 := by omega
    subst this
    exact ⟨rfl, rfl⟩
  | succ v ih =>
    by_cases e : V = v + 1
    · subst e
      exact ⟨rfl, rfl⟩
    · obtain ⟨h1, h2⟩ := ih (by omega) (fun u h1 h2 => hz u h1 (by omega))
      have h0 := hz (v + 1) (by omega) (Nat.le_refl _)
      constructor
      · show rowsN f v ++ rowAt (f (v + 1)) (v + 1) = _
        rw [h0, rowAt_zero (by decide) (by decide), List.append_nil, h1]
      · show bAt (bndN f b v) (f (v + 1)) = _
        rw [h0, h2]
        rfl

/-- What is to come, behind the variable V. -/
structure Inv (f : Nat → Int) (V : Nat) (xs : List Int) : Prop where
  le : V ≤ 12
  all : ∀ u : Nat, V < u → u ≤ 12 → f u ≠ 0 → (u : Int) ∈ xs
  keys : ∀ x ∈ xs, ∃ v : Nat, x = v ∧ V < v ∧ v ≤ 12
  up : xs.Pairwise (fun x y => x < y)

theorem Inv.step {f : Nat → Int} {V : Nat} {x : Int} {xs : List Int} (h : Inv f V (x :: xs)) (b : Int) :
    ∃ v : Nat, x = v ∧ 1 ≤ v ∧ v ≤ 12 ∧ rowsN f v = rowsN f V ++ rowAt (f v) v ∧ bndN f b v = bAt (bndN f b V) (f v) ∧ Inv f v xs := by
  obtain ⟨v, rfl, hv1, hv2⟩ := h.keys x (List.mem_cons_self ..)
  obtain ⟨u, rfl⟩ : ∃ u, v = u + 1 := ⟨v - 1, by omega⟩
  have hup := List.pairwise_cons.1 h.up
  have hz : ∀ w : Nat, V < w → w ≤ u → f w = 0 := fun w h1 h2 => by
    by_cases e : f w = 0
    · exact e
    · have hm := h.all w h1 (by omega) e
      rcases List.mem_cons.1 hm with hm | hm
      · omega
      · have := hup.1 _ hm
        omega
  obtain ⟨g1, g2⟩ := rows_gap (b := b) (by omega) hz
  refine ⟨u + 1, rfl, by omega, hv2, ?_, ?_, hv2, ?_, ?_, hup.2⟩
  · show rowsN f u ++ _ = _
    rw [g1]
  · show bAt (bndN f b u) _ = _
    rw [g2]
  · intro w h1 h2 h3
    have hm := h.all w (by omega) h2 h3
    rcases List.mem_cons.1 hm with hm | hm
    · omega
    · exact hm
  · intro y hy
    obtain ⟨w, rfl, _, hw⟩ := h.keys y (List.mem_cons_of_mem _ hy)
    have := hup.1 _ hy
    exact ⟨w, rfl, by omega, hw⟩
theorem Inv.done {f : Nat → Int} {V : Nat} (h : Inv f V []) (b : Int) : rowsN f 12 = rowsN f V ∧ bndN f b 12 = bndN f b V :=
  rows_gap h.le fun u h1 h2 => by
    by_cases e : f u = 0
    · exact e
    · cases h.all u h1 h2 e
end Go.Proofs.Ytipblbcedkhmbaa

namespace Go.Proofs.Ytipblbcedkhmbaa
open Go.ChangeShapes Go.WideShapes Go.ChangeAt Go.RowKit Go.Maps Go.Sort Go.Shelf

theorem Try.lawInt : Keyed Try.prog 3 := int_keyed Try.underlying3
theorem Try.zeroInt (w : World) : (zeroValue 3).run Try.prog w = .ok (.int .i64 0) w := by kernel_rfl

/-- The map holds the net coefficients; its keys are variables. -/
structure MD (D : DataW Unit) (f : Nat → Int) : Prop where
  isMap : Tidy D
  at_ : ∀ v : Nat, v ≤ 12 → D.atKey (.int .i64 v) (.lit (.int .i64 0)) = .lit (.int .i64 (f v))
  keys : ∀ es, D = .map es → ∀ p ∈ es, ∃ v : Nat, 1 ≤ v ∧ v ≤ 12 ∧ p.1 = .int .i64 v

theorem MD.put {D : DataW Unit} {f g : Nat → Int} {v : Nat} {x : Int} (h : MD D f) (hv1 : 1 ≤ v) (hv2 : v ≤ 12) (hx : g v = x) (he : ∀ i : Nat, i ≤ 12 → i ≠ v → g i = f i) :
    MD (D.put (.int .i64 v) (.lit (.int .i64 x))) g where
  isMap := h.isMap.put (by simp [WideAt.IsKeyLit]) _
  at_ i hi := by
    by_cases e : i = v
    · subst e
      rw [atKey_put_same h.isMap.isMap (by simp [WideAt.IsKeyLit]), hx]
    · rw [atKey_put_other (by intro e'; injection e' with _ e2; omega), h.at_ i hi, he i hi e]
  keys es hes p hp := by
    obtain ⟨es0, rfl, _⟩ := h.isMap
    have e1 : DataW.insert (Lit.int .i64 (v : Int), DataW.lit (.int .i64 x)) (es0.filter fun p => !p.1.sameKey (.int .i64 v)) = es := by
      have h2 : DataW.map (DataW.insert (Lit.int .i64 (v : Int), DataW.lit (.int .i64 x)) (es0.filter fun p => !p.1.sameKey (.int .i64 v))) = DataW.map es := hes
      injection h2
    rw [← e1, ChangeMaps.mem_insert_iff] at hp
    rcases hp with rfl | hp
    · exact ⟨v, hv1, hv2, rfl⟩
    · exact h.keys es0 rfl p (List.mem_filter.1 hp).1

theorem MD.inv {D : DataW Unit} {f : Nat → Int} (h : MD D f) {ss : List Int} (hp : ss.Perm (intKeys D)) : Inv f 0 (ss.mergeSort (fun x y => decide (x ≤ y))) := by
  obtain ⟨es, rfl, hpw⟩ := h.isMap
  have hk := h.keys es rfl
  have hks : (ss.mergeSort (fun x y => decide (x ≤ y))).Perm (intKeys (.map es)) := (List.mergeSort_perm ss _).trans hp
  have hnd : (intKeys (.map es)).Nodup := by
    refine List.pairwise_map.2 (hpw.imp_of_mem fun {p q} hp' hq' hne e => hne ?_)
    obtain ⟨a, _, _, ha⟩ := hk p hp'
    obtain ⟨b, _, _, hb⟩ := hk q hq'
    rw [ha, hb] at e ⊢
    exact congrArg _ e
  refine ⟨by omega, fun u hu1 hu2 hu3 => ?_, fun x hx => ?_, ?_⟩
  · have hh : has (.map es) (.int .i64 (u : Int)) = true := by
      cases e : has (.map es) (.int .i64 (u : Int)) with
      | true => rfl
      | false =>
        have h1 := h.at_ u hu2
        rw [atKey_of_not_has e] at h1
        injection h1 with h1
        injection h1 with _ h1
        exact absurd h1.symm hu3
    rw [has_eq, List.any_eq_true] at hh
    obtain ⟨p, hp1, hp2⟩ := hh
    rw [hks.mem_iff]
    refine List.mem_map.2 ⟨p, hp1, ?_⟩
    rw [WideAt.sameKey_eq hp2]
    rfl
  · rw [hks.mem_iff] at hx
    obtain ⟨p, hp1, rfl⟩ := List.mem_map.1 hx
    obtain ⟨v, hv1, hv2, hv3⟩ := hk p hp1
    rw [hv3]
    exact ⟨v, rfl, by omega, hv2⟩
  · have hle : (ss.mergeSort (fun x y => decide (x ≤ y))).Pairwise (fun x y => decide (x ≤ y) = true) :=
      List.pairwise_mergeSort (fun a b c h1 h2 => by simp at h1 h2 ⊢; omega) (fun a b => by simp; omega) ss
    have hne : (ss.mergeSort (fun x y => decide (x ≤ y))).Pairwise (fun x y => x ≠ y) := (hks.nodup_iff).2 hnd
    exact (hle.and hne).imp (fun {a b} ⟨h1, h2⟩ => by simp at h1; omega)

/-- 'maps.Keys' and 'slices.Sorted' at this program. -/
theorem sortsA (m : Nat) : AnyZI.SortsIn Try.prog Try.sortedA_ren Fence.wide m :=
  ⟨fun blk off cap ss W hH hblk hsz => callsIn_wide.2 (AnyM.slices_Sort_int Try.sortA blk off cap ss W hH hblk hsz),
   fun p cap W => callsIn_wide.2 (AnyM.slices_Sort_int_none Try.sortA p cap W)⟩
theorem keysOf_any (b : Nat) (w : World) :
    Calls Try.prog 94 #[.map (some b)] w fun e w' => e = .returned (.func (.func 107) #[] #[.pointer (some ⟨w.heap.size, 0, none⟩)]) ∧ w' = w.alloc (.cells #[.map (some b)] 113) :=
  (callsIn_wide (n := 6)).1 (AnyZI.keys_in Try.keysA Fence.wide 6 trivial rfl (some b) w)
theorem sortedOf_any (b nn : Nat) (D0 : DataW Unit) (R : Value → Option (DataW Unit × List MemPlace)) (w : World) (hown : w.ownsMap Try.prog 3 R b nn D0) (hmax : Maps.size D0 ≤ maxLen) (hbytes : Maps.size D0 * 8 ≤ 140737488355328) :
    Calls Try.prog 93 #[.func (.func 107) #[] #[.pointer (some ⟨w.heap.size, 0, none⟩)]] (w.alloc (.cells #[.map (some b)] 113)) fun e w' =>
      ∃ (v : Value) (ss : List Int), e = .returned v ∧ ss.Perm (intKeys D0) ∧
      w'.ownsRow w.heap.size 3 1 v ss.length ((ss.mergeSort (fun x y => decide (x ≤ y))).map encZ) ∧ (v = .slice none 0 0 ↔ ss = []) ∧ Below w.heap.size w w' := by
  have hbl := hown.lt
  have hseq : SeqGives Fence.wide 2 Try.prog 107 #[.pointer (some ⟨w.heap.size, 0, none⟩)] encZ (fun ss => ss.Perm (intKeys D0)) (Maps.size D0) (w.alloc (.cells #[.map (some b)] 113)) :=
    AnyZI.keys_gives (ρ := Try.keysA_ren) { Try.keysA with } Fence.wide _ trivial rfl (by omega) w.heap.size b nn D0 _ (by simp) (by simp) (by
      obtain ⟨es, clock, hb, Ft, hs, hD⟩ := hown
      exact ⟨es, clock, (Below.heap_alloc _ _ b hbl).trans hb, Ft, hs, hD⟩)
  have cS := AnyZI.sorted_in Try.sortedA Fence.wide 5 trivial trivial trivial trivial rfl (by omega) (sortsA _) (enters_of Try.func106 (by kernel_rfl) rfl) 107 #[.pointer (some ⟨w.heap.size, 0, none⟩)] trivial (enters_of Try.func107 (by kernel_rfl) rfl) _ _ hmax hbytes _ hseq
  change CallsIn _ _ Try.prog 93 _ _ _ at cS
  refine ((callsIn_wide (n := 5)).1 cS).mono ?_
  rintro e w' ⟨v, ss, rfl, hS, hrow, hnil, hb⟩
  exact ⟨v, ss, rfl, hS, ownsRow_base_a hrow (by simp), hnil, ((Below.refl _ w).alloc (Nat.le_refl _) _).trans (hb.mono (by simp))⟩

theorem size_le_own {P : Program} {w : World} {k : TypeId} {R : Value → Option (DataW Unit × List MemPlace)} {b n : Nat} {D : DataW Unit} (h : w.ownsMap P k R b n D) : Maps.size D ≤ n := by
  obtain ⟨es, clock, _, _, hs, rfl⟩ := h
  rw [size_eq, length_sorted]
  simpa using hs

/-- A row of numbers of the call's own, as the walk reads it. -/
theorem ints_of_row {w : World} {B n : Nat} {v : Value} {ks : List Int} (h : w.ownsRow B 3 1 v n (ks.map encZ)) (hn : ks.length = n) :
    ∃ A cap, v = .slice A n cap ∧ (0 < n → ∃ g, A = some ⟨g, 0, none⟩ ∧ B ≤ g ∧ g < w.heap.size ∧ ∀ i, i < n → w.cell? ⟨g, i, none⟩ = some (.int .i64 (ks.getD i 0))) := by
  have hlt := h.lt
  rcases h.2 with ⟨rfl, hx⟩ | ⟨g, cap, cur, rfl, hg, hh, hnc, _, hsz, htk⟩
  · have : n = 0 := by
      exact hx
    exact ⟨none, 0, by rw [this], fun h => absurd h (by omega)⟩
  · refine ⟨_, cap, rfl, fun _ => ⟨g, rfl, hg, (hlt g rfl).2, fun i hi => ?_⟩⟩
    have hx : (ks.map encZ)[i]? = some (encZ (ks.getD i 0)) := by
      rw [List.getElem?_map, List.getElem?_eq_getElem (by omega)]
      simp [List.getD, List.getElem?_eq_getElem (show i < ks.length by omega)]
    rw [← htk, List.getElem?_take_of_lt (by omega)] at hx
    exact (cell_of_row w g _ cur _ _ hh).trans (by simpa [encZ] using hx)

theorem bl_alloc2 {B : Nat} {a w : World} (h : Below B a w) (o : Obj) (hB : B ≤ w.heap.size := by omega) : Below B a (w.alloc o) := h.alloc hB o

/-- What normalize leaves. -/
def NmRes (w : World) (R : List (Int × Int)) (b : Int) (e : Ending) (w' : World) : Prop :=
  ∃ A cap, e = .returned (.agg #[.slice A R.length cap, .int .i64 (capB b)]) ∧ Frs w' w.heap.size A R.length (rC R) (rL R) ∧ Below w.heap.size w w'

set_option maxRecDepth 100000 in
set_option maxHeartbeats 1600000 in
theorem implNorm_x (A : Option Addr) (n cap : Nat) (bd : Int) (c l : Nat → Int) (w : World) (hn : n ≤ 1048576) (hr : Rd w w.heap.size A n c l) (hv : allN c l n = true) :
    Calls Try.prog 61 #[.slice A n cap, .int .i64 bd] w (NmRes w (nfR n c l) (nfb n c l bd)) := by
  have Hv := Lib.hid hv
  clear hv
  have hmm := @run_makeMap Try.prog
  go_enter Try.func61, Try.ntmps61
  go_wp2
  go_loopw [1, 16] (fun t i wr => ∃ k : Nat, k ≤ n ∧ i = .int .i64 k ∧ t = .int .i64 (nbd c l bd k) ∧ wr.cell? ⟨w.heap.size, 0, none⟩ = some (.slice none 0 0) ∧ wr.cell? ⟨w.heap.size, 1, none⟩ = some (.int .i64 0) ∧ wr.frozen? ⟨w.heap.size, 0, none⟩ = false ∧ wr.frozen? ⟨w.heap.size, 1, none⟩ = false ∧ (∃ D, wr.ownsMap Try.prog 3 (plainElem Try.prog 3) (w.heap.size + 1) k D ∧ MD D (net c l k)) ∧ Below w.heap.size w wr) (fun _ i _ => n - (intOf i).toNat)
  case atStart => exact ⟨0, Nat.zero_le _, rfl, rfl, by go_simp, by go_simp, by go_simp, by go_simp, ⟨_, by have h := World.ownsMap_made (H := Unit) (w.alloc (.cells #[.slice none 0 0, .int .i64 0] 27)) Try.prog 3 (plainElem Try.prog 3); simpa using h, ⟨tidy_empty, fun v _ => rfl, fun es h p hp => by injection h with h; subst h; cases hp⟩⟩, (bl_alloc (Below.refl _ _) _).alloc (by simp) _⟩
  case round =>
    obtain ⟨k, hk, rfl, rfl, r0, r1, f0, f1, ⟨D, hown, hD⟩, hb⟩ := hrel
    have HD := Lib.hid hD
    have Hown := Lib.hid hown
    clear hD hown
    by_cases hlt : k < n
    · have hok := okN_iff.1 (allN_at Hv.out hlt)
      obtain ⟨hl0, hl1, hl2⟩ := litB_iff.1 hok.1
      obtain ⟨b, off, rfl, hbl, hc⟩ := (hr.below hb) (by omega)
      obtain ⟨hc1, hc2⟩ := hc k hlt
      have hzb : b < wr.heap.size := Nat.lt_of_lt_of_le hbl hb.size
      by_cases hneg : l k < 0
      · obtain ⟨v, hlv⟩ : ∃ v : Nat, l k = -(v : Int) := ⟨(-(l k)).toNat, by omega⟩
        have Hlv := Lib.hid hlv
        have Hbd := Lib.hid (nbd_neg (c := c) (bd := bd) (l := l) (k := k) (by omega))
        have hv0 : 0 < v := by omega
        have hv12 : v ≤ 12 := by omega
        have hab : ab (l k) = (v : Int) := by unfold ab; rw [if_pos hneg, hlv]; omega
        have hvar : ∀ X : World, Calls Try.prog 67 #[.int .i64 (l k)] X fun e w'' => e = .returned (.int .i64 (v : Int)) ∧ w'' = X := fun X => by
          have h := litVariable_any (l k) X hl1 hl2
          rw [hab] at h
          exact h.mono fun e w' ⟨a, b⟩ => ⟨a, b.symm⟩
        have hkey : keyOf Try.prog 3 (.int .i64 (v : Int)) = some (.int .i64 (v : Int)) := keyOf_int_mk Try.underlying3 (WalkArith.wf_i64 (by omega))
        have hq : w.heap.size + 1 < wr.heap.size := Hown.out.lt
        have hal : Below wr.heap.size wr (wr.alloc (.cells #[.int .i64 (c k), .int .i64 (l k)] 35)).drew := (bl_alloc (Below.refl _ _) _).drew
        have t0 : (wr.alloc (.cells #[.int .i64 (c k), .int .i64 (l k)] 35)).drew.cell? ⟨wr.heap.size, 0, none⟩ = some (.int .i64 (c k)) := by go_simp
        have HownA := Lib.hid ((Hown.out.alloc (.cells #[.int .i64 (c k), .int .i64 (l k)] 35)).drew)
        have HbA := Lib.hid (bl_trans hb hal)
        replace r0 := kc hal r0
        replace r1 := kc hal r1
        replace f0 := kf hal (by show w.heap.size < _; omega) f0
        replace f1 := kf hal (by show w.heap.size < _; omega) f1
        clear hc hmm hr hok hal hb hab hlv
        go_upto_region 7 with (first | (go_at_call 92; refine (litNegated_any _ _).mono ?_; rintro e w' ⟨rfl, rfl⟩))
        refine wp_region_still_tail 7 (by kernel_rfl) (by kernel_rfl) ?_
        change wpStill _ _ (wr.alloc (.cells #[.int .i64 (c k), .int .i64 (l k)] 35)).drew (fun a' => wpList _ _ _ _ a' (wr.alloc (.cells #[.int .i64 (c k), .int .i64 (l k)] 35)).drew) _ _
        generalize (wr.alloc (.cells #[.int .i64 (c k), .int .i64 (l k)] 35)).drew = X at *
        obtain ⟨cv, hrun, hat, hwc⟩ := HownA.out.lookup_int (t := 113) Try.lawInt Try.underlying113 Try.underlying3 (Try.zeroInt _) hkey
        have hcv : cv = net c l k v := by
          have h := hat.symm.trans (HD.out.at_ v hv12)
          injection h with h
          injection h
        subst hcv
        simp only [List.take_succ_cons, List.take_zero, List.drop_succ_cons, List.drop_zero]
        clear hat hwc
        repeat (first | still_step | still_call (hvar _))
        refine wpStill_nil ?_
        refine wpList_mapUpdate_own _ rfl _ _ _ 113 rfl 3 3 Try.lawInt Try.underlying113 _ (w.heap.size + 1) k _ rfl HownA.out (by unfold maxLen; omega) _ _ _ rfl rfl hkey _ [] (plainElem_int Try.underlying3 (by rw [IntWalk.i64_left]; exact wrap64_wf _)) ?_
        intro w1 hown1 hgrow1
        have t1 := hgrow1.cell (a := ⟨wr.heap.size, 0, none⟩) t0 (by simp; omega)
        go_wp2
        go_roundw
        case rel => exact ⟨k + 1, by omega, by go_num, by rw [Hbd.out], hgrow1.cell (a := ⟨w.heap.size, 0, none⟩) r0 (by simp), hgrow1.cell (a := ⟨w.heap.size, 1, none⟩) r1 (by simp), (hgrow1.frozen_far ⟨w.heap.size, 0, none⟩ (World.block_lt_of_cell? _ _ r0) (by simp)).trans f0, (hgrow1.frozen_far ⟨w.heap.size, 1, none⟩ (World.block_lt_of_cell? _ _ r1) (by simp)).trans f1, ⟨_, hown1, HD.out.put (by omega) hv12 (by rw [IntWalk.i64_left]; exact net_neg (c := c) Hlv.out hv0) (fun i hi hne => net_off (by rw [Hlv.out]; omega) (by rw [Hlv.out]; omega))⟩, HbA.out.grown hgrow1 HbA.out.size (fun j e => by cases e; omega)⟩
        case measure => simp [intOf]; omega
      · obtain ⟨v, hlv⟩ : ∃ v : Nat, l k = (v : Int) := ⟨(l k).toNat, by omega⟩
        have Hlv := Lib.hid hlv
        have Hbd := Lib.hid (nbd_pos (c := c) (bd := bd) (l := l) (k := k) (by omega))
        have hv0 : 0 < v := by omega
        have hv12 : v ≤ 12 := by omega
        have hab : ab (l k) = (v : Int) := by unfold ab; rw [if_neg hneg, hlv]
        have hvar : ∀ X : World, Calls Try.prog 67 #[.int .i64 (l k)] X fun e w'' => e = .returned (.int .i64 (v : Int)) ∧ w'' = X := fun X => by
          have h := litVariable_any (l k) X hl1 hl2
          rw [hab] at h
          exact h.mono fun e w' ⟨a, b⟩ => ⟨a, b.symm⟩
        have hkey : keyOf Try.prog 3 (.int .i64 (v : Int)) = some (.int .i64 (v : Int)) := keyOf_int_mk Try.underlying3 (WalkArith.wf_i64 (by omega))
        have hq : w.heap.size + 1 < wr.heap.size := Hown.out.lt
        have hal : Below wr.heap.size wr (wr.alloc (.cells #[.int .i64 (c k), .int .i64 (l k)] 35)).drew := (bl_alloc (Below.refl _ _) _).drew
        have t0 : (wr.alloc (.cells #[.int .i64 (c k), .int .i64 (l k)] 35)).drew.cell? ⟨wr.heap.size, 0, none⟩ = some (.int .i64 (c k)) := by go_simp
        have HownA := Lib.hid ((Hown.out.alloc (.cells #[.int .i64 (c k), .int .i64 (l k)] 35)).drew)
        have HbA := Lib.hid (bl_trans hb hal)
        replace r0 := kc hal r0
        replace r1 := kc hal r1
        replace f0 := kf hal (by show w.heap.size < _; omega) f0
        replace f1 := kf hal (by show w.heap.size < _; omega) f1
        clear hc hmm hr hok hal hb hab hlv
        go_upto_region 9 with (first | (go_at_call 92; refine (litNegated_any _ _).mono ?_; rintro e w' ⟨rfl, rfl⟩))
        refine wp_region_still_tail 7 (by kernel_rfl) (by kernel_rfl) ?_
        change wpStill _ _ (wr.alloc (.cells #[.int .i64 (c k), .int .i64 (l k)] 35)).drew (fun a' => wpList _ _ _ _ a' (wr.alloc (.cells #[.int .i64 (c k), .int .i64 (l k)] 35)).drew) _ _
        generalize (wr.alloc (.cells #[.int .i64 (c k), .int .i64 (l k)] 35)).drew = X at *
        obtain ⟨cv, hrun, hat, hwc⟩ := HownA.out.lookup_int (t := 113) Try.lawInt Try.underlying113 Try.underlying3 (Try.zeroInt _) hkey
        have hcv : cv = net c l k v := by
          have h := hat.symm.trans (HD.out.at_ v hv12)
          injection h with h
          injection h
        subst hcv
        simp only [List.take_succ_cons, List.take_zero, List.drop_succ_cons, List.drop_zero]
        clear hat hwc
        repeat (first | still_step | still_call (hvar _))
        refine wpStill_nil ?_
        refine wpList_mapUpdate_own _ rfl _ _ _ 113 rfl 3 3 Try.lawInt Try.underlying113 _ (w.heap.size + 1) k _ rfl HownA.out (by unfold maxLen; omega) _ _ _ rfl rfl hkey _ [] (plainElem_int Try.underlying3 (by rw [IntWalk.i64_left]; exact wrap64_wf _)) ?_
        intro w1 hown1 hgrow1
        have t1 := hgrow1.cell (a := ⟨wr.heap.size, 0, none⟩) t0 (by simp; omega)
        go_wp2
        go_roundw
        case rel => exact ⟨k + 1, by omega, by go_num, by rw [Hbd.out], hgrow1.cell (a := ⟨w.heap.size, 0, none⟩) r0 (by simp), hgrow1.cell (a := ⟨w.heap.size, 1, none⟩) r1 (by simp), (hgrow1.frozen_far ⟨w.heap.size, 0, none⟩ (World.block_lt_of_cell? _ _ r0) (by simp)).trans f0, (hgrow1.frozen_far ⟨w.heap.size, 1, none⟩ (World.block_lt_of_cell? _ _ r1) (by simp)).trans f1, ⟨_, hown1, HD.out.put (by omega) hv12 (by rw [IntWalk.i64_left]; exact net_pos (c := c) Hlv.out) (fun i hi hne => net_off (by rw [Hlv.out]; omega) (by rw [Hlv.out]; omega))⟩, HbA.out.grown hgrow1 HbA.out.size (fun j e => by cases e; omega)⟩
        case measure => simp [intOf]; omega
    · have e : k = n := by omega
      subst e
      clear hmm hr
      have hq : w.heap.size + 1 < wr.heap.size := Hown.out.lt
      have Hb := Lib.hid hb
      clear hb
      have hz := size_le_own Hown.out
      go_wp2_with fail
      refine (keysOf_any _ _).mono ?_
      rintro e w1 ⟨rfl, rfl⟩
      go_wp2_with fail
      refine (sortedOf_any (w.heap.size + 1) k D _ wr Hown.out (by unfold maxLen; omega) (by omega)).mono ?_
      rintro e w2 ⟨sv, ss, rfl, hperm, hrow, hnil, hb2⟩
      have hinv := Lib.hid (HD.out.inv hperm)
      have hlen : (ss.mergeSort (fun x y => decide (x ≤ y))).length = ss.length := List.length_mergeSort _
      have hlz : ss.length ≤ k := by
        have h1 := hperm.length_eq
        obtain ⟨es, rfl, _⟩ := HD.out.isMap
        have h2 : (intKeys (.map es)).length = es.length := by show (es.map _).length = _; simp
        rw [size_eq] at hz
        omega
      clear hperm hnil
      generalize ss.mergeSort (fun x y => decide (x ≤ y)) = ks at *
      rw [← hlen] at hrow hlz
      obtain ⟨A2, cap2, rfl, hks⟩ := ints_of_row hrow rfl
      clear hlen hrow
      have hown2 : w2.ownsMap Try.prog 3 (plainElem Try.prog 3) (w.heap.size + 1) k D := by
        obtain ⟨es, clock, hh, Ft, hs, hDe⟩ := Hown.out
        exact ⟨es, clock, (hb2.block _ (by omega)).trans hh, Ft, hs, hDe⟩
      have HB2 := Lib.hid (bl_trans Hb.out hb2)
      replace r0 := kc hb2 r0
      replace r1 := kc hb2 r1
      replace f0 := kf hb2 (by show w.heap.size < _; omega) f0
      replace f1 := kf hb2 (by show w.heap.size < _; omega) f1
      have hq2 : w.heap.size + 1 < w2.heap.size := hown2.lt
      have Hown2 := Lib.hid hown2
      obtain ⟨i0, hi, hz0, hz1, hz2⟩ := info_parts Try.infoTerm
      have Hi := Lib.hid hi
      have Hz0 := Lib.hid hz0
      have Hz1 := Lib.hid hz1
      have Hz2 := Lib.hid hz2
      clear hown2 hb2 hi hz0 hz1 hz2 hz
      go_wp2
      go_loopw [1, 9, 47] (fun t o i wq => ∃ (j V : Nat) (ov : Value), ov = o ∧ j ≤ ks.length ∧ i = .int .i64 j ∧ t = .int .i64 (bndN (net c l k) (nbd c l bd k) V) ∧ wq.ownsRow w2.heap.size 35 2 ov (rowsN (net c l k) V).length (rcells (rowsN (net c l k) V)) ∧ Inv (net c l k) V (ks.drop j) ∧ Below w2.heap.size w2 wq) (fun _ _ i _ => ks.length - (intOf i).toNat)
      case atStart => exact ⟨0, 0, _, rfl, Nat.zero_le _, rfl, rfl, World.ownsRow_nil _ _ _ _, hinv.out, Below.refl _ _⟩
      case round =>
        obtain ⟨j, V, ov, rfl, hj, rfl, rfl, hrowr, hinvq, hbq⟩ := hrel
        have Hrowr := Lib.hid hrowr
        have Hinvq := Lib.hid hinvq
        have Hbq := Lib.hid hbq
        clear hrowr hinvq hbq
        by_cases hjl : j < ks.length
        · have hd : ks.drop j = ks.getD j 0 :: ks.drop (j + 1) := by
            rw [List.drop_eq_getElem_cons hjl]
            simp [List.getD, List.getElem?_eq_getElem hjl]
          obtain ⟨v, hx, hv1, hv12, hrows, hbd2, hinv2⟩ := (show Inv _ _ (ks.getD j 0 :: ks.drop (j + 1)) from hd ▸ Hinvq.out).step (nbd c l bd k)
          have hinv2 := Lib.hid hinv2
          obtain ⟨g, rfl, hg1, hg2, hgc⟩ := hks (by omega)
          have hcell : wr.cell? ⟨g, j, none⟩ = some (.int .i64 (v : Int)) := kc Hbq.out (by rw [← hx]; exact hgc j hjl)
          have hownq : wr.ownsMap Try.prog 3 (plainElem Try.prog 3) (w.heap.size + 1) k D := by
            obtain ⟨es, clock, hh, Ft, hs, hDe⟩ := Hown2.out
            exact ⟨es, clock, (Hbq.out.block _ (by omega)).trans hh, Ft, hs, hDe⟩
          have hkey : keyOf Try.prog 3 (.int .i64 (v : Int)) = some (.int .i64 (v : Int)) := keyOf_int_mk Try.underlying3 (WalkArith.wf_i64 (by omega))
          obtain ⟨cv, hrun, hat, hwc⟩ := hownq.lookup_int (t := 113) Try.lawInt Try.underlying113 Try.underlying3 (Try.zeroInt _) hkey
          have hcv : cv = net c l k v := by
            have h := hat.symm.trans (HD.out.at_ v hv12)
            injection h with h
            injection h
          subst hcv
          have hRl := rowsN_length (net c l k) V
          have hV := Hinvq.out.le
          have hqs := Hbq.out.size
          clear hd hx hgc hks hownq hkey hat hwc
          by_cases hp : 0 < net c l k v
          · rw [rowAt_pos hp] at hrows
            have hbd2 : bndN (net c l k) (nbd c l bd k) v = bndN (net c l k) (nbd c l bd k) V := by rw [hbd2]; exact if_neg (by omega)
            have hrows := Lib.hid hrows
            have hbd2 := Lib.hid hbd2
            have News := Lib.hid (World.news_of_block (w := wr.alloc (.cells #[.int .i64 (net c l k v), .int .i64 (v : Int)] 35)) (B := wr.heap.size) (cs := #[.int .i64 (net c l k v), .int .i64 (v : Int)]) (t := 35) (fr := (0, 0)) (heap_alloc_new wr _))
            have HrowA := Lib.hid (Hrowr.out.alloc (.cells #[.int .i64 (net c l k v), .int .i64 (v : Int)] 35))
            have HbA := Lib.hid (bl_alloc2 Hbq.out (.cells #[.int .i64 (net c l k v), .int .i64 (v : Int)] 35))
            go_wp2_with (first
              | (at_builtin; refine wpList_plain (by rfl) fun K' hK' => ?_; refine wp_append_lies _ _ _ _ (by rfl) w2.heap.size 35 i0 _ 2 16 Try.underlying23 Hi.out Hz0.out Hz1.out Hz2.out rfl (by omega) ov (rowsN (net c l k) V).length _ (by rfl) HrowA.out ⟨wr.heap.size, 0, none⟩ 1 1 [.int .i64 (net c l k v), .int .i64 (v : Int)] (by rfl) (by rfl) (News.out) (by simp [Value.oneCell']) (by omega) (by unfold maxLen; omega) (by omega) (by simp; omega) (wr.heap.size + 1) (by simp) ?_; intro gg cap1 w3 hown3 hgrow hat3 hlt3; refine hK' _ _ ?_; clear hK' K')
              | go_in)
            go_roundw
            case rel => exact ⟨j + 1, v, _, rfl, by omega, by go_num, by rw [hbd2.out], by rw [hrows.out, rcells_append, List.length_append]; exact hown3, hinv2.out, HbA.out.grown hgrow HbA.out.size (fun j e => (Hrowr.out.lt j e).1)⟩
            case measure => simp [intOf]; omega
          · by_cases hn2 : net c l k v < 0
            · rw [rowAt_neg hn2, IntWalk.i64_left] at hrows
              have hbd2 : bndN (net c l k) (nbd c l bd k) v = wrap64 (bndN (net c l k) (nbd c l bd k) V - net c l k v) := by rw [hbd2]; exact if_pos hn2
              have hrows := Lib.hid hrows
              have hbd2 := Lib.hid hbd2
              have hwv : IntKind.i64.wrap (-(v : Int)) = -(v : Int) := IntWalk.i64_in _ (by omega)
              have News := Lib.hid (World.news_of_block (w := wr.alloc (.cells #[.int .i64 (wrap64 (-(net c l k v))), .int .i64 (-(v : Int))] 35)) (B := wr.heap.size) (cs := #[.int .i64 (wrap64 (-(net c l k v))), .int .i64 (-(v : Int))]) (t := 35) (fr := (0, 0)) (heap_alloc_new wr _))
              have HrowA := Lib.hid (Hrowr.out.alloc (.cells #[.int .i64 (wrap64 (-(net c l k v))), .int .i64 (-(v : Int))] 35))
              have HbA := Lib.hid (bl_alloc2 Hbq.out (.cells #[.int .i64 (wrap64 (-(net c l k v))), .int .i64 (-(v : Int))] 35))
              go_wp2_with (first
                | (at_builtin; refine wpList_plain (by rfl) fun K' hK' => ?_; refine wp_append_lies _ _ _ _ (by rfl) w2.heap.size 35 i0 _ 2 16 Try.underlying23 Hi.out Hz0.out Hz1.out Hz2.out rfl (by omega) ov (rowsN (net c l k) V).length _ (by rfl) HrowA.out ⟨wr.heap.size, 0, none⟩ 1 1 [.int .i64 (wrap64 (-(net c l k v))), .int .i64 (-(v : Int))] (by rfl) (by rfl) (News.out) (by simp [Value.oneCell']) (by omega) (by unfold maxLen; omega) (by omega) (by simp; omega) (wr.heap.size + 1) (by simp) ?_; intro gg cap1 w3 hown3 hgrow hat3 hlt3; refine hK' _ _ ?_; clear hK' K')
                | go_in)
              go_roundw
              case rel => exact ⟨j + 1, v, _, rfl, by omega, by go_num, by rw [hbd2.out], by rw [hrows.out, rcells_append, List.length_append]; exact hown3, hinv2.out, HbA.out.grown hgrow HbA.out.size (fun j e => (Hrowr.out.lt j e).1)⟩
              case measure => simp [intOf]; omega
            · rw [rowAt_zero hp hn2, List.append_nil] at hrows
              have hbd2 : bndN (net c l k) (nbd c l bd k) v = bndN (net c l k) (nbd c l bd k) V := by rw [hbd2]; exact if_neg hn2
              have hrows := Lib.hid hrows
              have hbd2 := Lib.hid hbd2
              go_wp2
              go_roundw
              case rel => exact ⟨j + 1, v, _, rfl, by omega, by go_num, by rw [hbd2.out], by rw [hrows.out]; exact Hrowr.out, hinv2.out, Hbq.out⟩
              case measure => simp [intOf]; omega
        · have e : j = ks.length := by omega
          subst e
          have hd : ks.drop ks.length = [] := List.drop_eq_nil_of_le (Nat.le_refl _)
          obtain ⟨d1, d2⟩ := (show Inv _ _ [] from hd ▸ Hinvq.out).done (nbd c l bd k)
          obtain ⟨A', cap', rfl, hF⟩ := frs_of_row (c := rC (rowsN (net c l k) V)) (l := rL (rowsN (net c l k) V)) (by rw [← rcells_flat]; exact Hrowr.out)
          have HF := Lib.hid hF
          have D1 := Lib.hid d1
          have D2 := Lib.hid d2
          replace r0 := kc Hbq.out r0
          replace r1 := kc Hbq.out r1
          replace f0 := kf Hbq.out (by show w.heap.size < _; omega) f0
          replace f1 := kf Hbq.out (by show w.heap.size < _; omega) f1
          have HBq := Lib.hid (bl_trans HB2.out Hbq.out)
          clear hd d1 d2 hF hks
          by_cases hneg : bndN (net c l k) (nbd c l bd k) V < 0
          · have hB := Lib.hid (show capB (bndN (net c l k) (nbd c l bd k) V) = 0 from if_pos hneg)
            have hmx : max (bndN (net c l k) (nbd c l bd k) V) 0 = 0 := by omega
            go_wp2
            refine bodyPost_ret (v := .agg #[.slice A' (rowsN (net c l k) V).length cap', .int .i64 0]) (by simp [results, Try.results61, go_sem, r0, r1]) rfl ?_
            rw [show nfR k c l = rowsN (net c l k) V from D1.out, show nfb k c l bd = bndN (net c l k) (nbd c l bd k) V from D2.out]
            exact ⟨A', cap', by rw [hB.out], ((HF.out.far (by simp) (by simp; omega) _).far (by simp) (by simp; omega) _).more (by omega), (HBq.out.setCell (by simp) _).setCell (by simp) _⟩
          · have hB := Lib.hid (show capB (bndN (net c l k) (nbd c l bd k) V) = bndN (net c l k) (nbd c l bd k) V from if_neg hneg)
            have hmx : max (bndN (net c l k) (nbd c l bd k) V) 0 = bndN (net c l k) (nbd c l bd k) V := by omega
            go_wp2
            refine bodyPost_ret (v := .agg #[.slice A' (rowsN (net c l k) V).length cap', .int .i64 (bndN (net c l k) (nbd c l bd k) V)]) (by simp [results, Try.results61, go_sem, r0, r1]) rfl ?_
            rw [show nfR k c l = rowsN (net c l k) V from D1.out, show nfb k c l bd = bndN (net c l k) (nbd c l bd k) V from D2.out]
            exact ⟨A', cap', by rw [hB.out], ((HF.out.far (by simp) (by simp; omega) _).far (by simp) (by simp; omega) _).more (by omega), (HBq.out.setCell (by simp) _).setCell (by simp) _⟩
end Go.Proofs.Ytipblbcedkhmbaa

namespace Go.Proofs.Ytipblbcedkhmbaa
open Go.ChangeShapes Go.WideShapes Go.ChangeAt Go.RowKit

set_option maxRecDepth 100000 in
set_option maxHeartbeats 1600000 in
theorem implNF_any (A : Option Addr) (n cap : Nat) (bd : Int) (c l : Nat → Int) (w : World) (hn : n ≤ 1048576) (hr : Rd w w.heap.size A n c l) :
    Calls Try.prog 18 #[.slice A n cap, .int .i64 bd] w (NfRes w n c l bd) := by
  cases hv : preB n c l bd with
  | false =>
    have Hv := Lib.hid hv
    clear hv
    go_enter Try.func18, Try.ntmps18
    go_wp2_with fail
    refine (canNorm_any _ _ _ _ c l _ hn (hr.later (bl_alloc (Below.refl _ _) _))).mono ?_
    rintro e w1 ⟨rfl, hb⟩
    have HB1 := Lib.hid (bl_trans (bl_alloc (Below.refl w.heap.size w) _) hb)
    have r0 : w1.cell? ⟨w.heap.size, 0, none⟩ = some (.slice none 0 0) := kc hb (by go_simp)
    have r1 : w1.cell? ⟨w.heap.size, 1, none⟩ = some (.int .i64 0) := kc hb (by go_simp)
    have f0 : w1.frozen? ⟨w.heap.size, 0, none⟩ = false := kf hb (by simp) (by go_simp)
    have f1 : w1.frozen? ⟨w.heap.size, 1, none⟩ = false := kf hb (by simp) (by go_simp)
    clear hb
    rw [Hv.out]
    go_wp2
    refine bodyPost_ret (v := .tuple #[.agg #[.slice none 0 0, .int .i64 0], .bool false]) (by simp [results, Try.results18, go_sem, r0, r1]) rfl ?_
    refine nfRes_no Hv.out ?_
    exact (HB1.out.setCell (by simp) _).setCell (by simp) _
  | true =>
    have Hv := Lib.hid hv
    have Ha := Lib.hid (preB_iff.1 hv)
    clear hv
    go_enter Try.func18, Try.ntmps18
    go_wp2_with fail
    refine (canNorm_any _ _ _ _ c l _ hn (hr.later (bl_alloc (Below.refl _ _) _))).mono ?_
    rintro e w1 ⟨rfl, hb⟩
    have HB1 := Lib.hid (bl_trans (bl_alloc (Below.refl w.heap.size w) _) hb)
    have r0 : w1.cell? ⟨w.heap.size, 0, none⟩ = some (.slice none 0 0) := kc hb (by go_simp)
    have r1 : w1.cell? ⟨w.heap.size, 1, none⟩ = some (.int .i64 0) := kc hb (by go_simp)
    have f0 : w1.frozen? ⟨w.heap.size, 0, none⟩ = false := kf hb (by simp) (by go_simp)
    have f1 : w1.frozen? ⟨w.heap.size, 1, none⟩ = false := kf hb (by simp) (by go_simp)
    have q1 : w.heap.size < w1.heap.size := World.block_lt_of_cell? w1 _ r0
    clear hb
    rw [Hv.out]
    go_wp2_with fail
    refine (implNorm_x _ _ _ _ c l _ hn (hr.later HB1.out) Ha.out.1).mono ?_
    rintro e w2 ⟨A2, cap2, rfl, hF, hb⟩
    have HB2 := Lib.hid (bl_trans HB1.out hb)
    replace r0 := kc hb r0
    replace r1 := kc hb r1
    replace f0 := kf hb q1 f0
    replace f1 := kf hb q1 f1
    have q2 : w.heap.size < w2.heap.size := World.block_lt_of_cell? w2 _ r0
    have hF2 := hF.more (B' := w.heap.size + 1) (by omega)
    have hRl : (nfR n c l).length ≤ 1048576 := by have := rowsN_length (net c l n) 12; unfold nfR; omega
    clear hb hF
    go_wp2_with fail
    refine (implValid_any _ _ _ _ (rC (nfR n c l)) (rL (nfR n c l)) _ hRl (hF2.below (bl_alloc (Below.refl w2.heap.size w2) (.cells #[.slice A2 (nfR n c l).length cap2, .int .i64 (capB (nfb n c l bd))] 27))).rdAt).mono ?_
    rintro e w3 ⟨rfl, hb1⟩
    have p0 : w3.cell? ⟨w2.heap.size, 0, none⟩ = some (.slice A2 (nfR n c l).length cap2) := kc hb1 (by go_simp)
    have p1 : w3.cell? ⟨w2.heap.size, 1, none⟩ = some (.int .i64 (capB (nfb n c l bd))) := kc hb1 (by go_simp)
    have hb := bl_trans (bl_alloc (Below.refl w2.heap.size w2) (.cells #[.slice A2 (nfR n c l).length cap2, .int .i64 (capB (nfb n c l bd))] 27)) hb1
    have HB3 := Lib.hid (bl_trans HB2.out hb)
    have HF3 := Lib.hid (hF2.below hb)
    replace r0 := kc hb r0
    replace r1 := kc hb r1
    replace f0 := kf hb q2 f0
    replace f1 := kf hb q2 f1
    clear hb hb1 hF2
    cases hok : validB (nfR n c l).length (rC (nfR n c l)) (rL (nfR n c l)) (capB (nfb n c l bd)) with
    | false =>
      have HX := Lib.hid (show fitN (nfR n c l) (nfb n c l bd) = 0 ∧ fitD (nfR n c l) (nfb n c l bd) = 0 ∧ fitB (nfR n c l) (nfb n c l bd) = false from ⟨by unfold fitN fitB; rw [hok]; rfl, by unfold fitD fitB; rw [hok]; rfl, hok⟩)
      clear hok
      go_wp2
      refine bodyPost_ret (v := .tuple #[.agg #[.slice none 0 0, .int .i64 0], .bool false]) (by simp [results, Try.results18, go_sem, r0, r1]) rfl ?_
      refine nfRes_yes Hv.out ?_
      obtain ⟨x1, x2, x3⟩ := HX.out
      rw [x1, x2, x3]
      exact ⟨none, 0, rfl, .inl rfl, (HB3.out.setCell (by simp) _).setCell (by simp) _⟩
    | true =>
      have HX := Lib.hid (show fitN (nfR n c l) (nfb n c l bd) = (nfR n c l).length ∧ fitD (nfR n c l) (nfb n c l bd) = capB (nfb n c l bd) ∧ fitB (nfR n c l) (nfb n c l bd) = true from ⟨by unfold fitN fitB; rw [hok]; rfl, by unfold fitD fitB; rw [hok]; rfl, hok⟩)
      clear hok
      go_wp2
      refine bodyPost_ret (v := .tuple #[.agg #[.slice A2 (nfR n c l).length cap2, .int .i64 (capB (nfb n c l bd))], .bool true]) (by simp [results, Try.results18, go_sem, r0, r1]) rfl ?_
      refine nfRes_yes Hv.out ?_
      obtain ⟨x1, x2, x3⟩ := HX.out
      rw [x1, x2, x3]
      exact ⟨_, _, rfl, ((HF3.out.far (by simp) (by simp) _).far (by simp) (by simp) _).more (by omega), (HB3.out.setCell (by simp) _).setCell (by simp) _⟩
end Go.Proofs.Ytipblbcedkhmbaa

namespace Go.Proofs.Ytipblbcedkhmbaa
open Go.ChangeShapes Go.WideShapes Go.ChangeAt Go.RowKit

/-- The rows of k variables from u on; the bound behind them. -/
def rowsF (f : Nat → Int) : Nat → Nat → List (Int × Int)
  | _, 0 => []
  | u, k + 1 => rowAt (f u) u ++ rowsF f (u + 1) k
def bndF (f : Nat → Int) : Int → Nat → Nat → Int
  | b, _, 0 => b
  | b, u, k + 1 => bndF f (bAt b (f u)) (u + 1) k
theorem rowsF_snoc (f : Nat → Int) : ∀ (k u : Nat), rowsF f u (k + 1) = rowsF f u k ++ rowAt (f (u + k)) (u + k) := by
  intro k
  induction k with
  | zero => intro u; simp [rowsF]
  | succ k ih =>
    intro u
    show rowAt (f u) u ++ rowsF f (u + 1) (k + 1) = (rowAt (f u) u ++ rowsF f (u + 1) k) ++ _
    rw [ih (u + 1), List.append_assoc, show u + 1 + k = u + (k + 1) by omega]
theorem bndF_snoc (f : Nat → Int) : ∀ (k u : Nat) (b : Int), bndF f b u (k + 1) = bAt (bndF f b u k) (f (u + k)) := by
  intro k
  induction k with
  | zero => intro u b; rfl
  | succ k ih =>
    intro u b
    show bndF f (bAt b (f u)) (u + 1) (k + 1) = bAt (bndF f (bAt b (f u)) (u + 1) k) _
    rw [ih (u + 1), show u + 1 + k = u + (k + 1) by omega]
theorem rowsN_F (f : Nat → Int) (v : Nat) : rowsN f v = rowsF f 1 v := by
  induction v with
  | zero => rfl
  | succ v ih =>
    rw [rowsF_snoc, ← ih, show 1 + v = v + 1 by omega]
    rfl
theorem bndN_F (f : Nat → Int) (b : Int) (v : Nat) : bndN f b v = bndF f b 1 v := by
  induction v with
  | zero => rfl
  | succ v ih =>
    rw [bndF_snoc, ← ih, show 1 + v = v + 1 by omega]
    rfl
theorem rowsF_congr {f g : Nat → Int} : ∀ (k u : Nat), (∀ v, u ≤ v → f v = g v) → rowsF f u k = rowsF g u k := by
  intro k
  induction k with
  | zero => intro u _; rfl
  | succ k ih =>
    intro u h
    unfold rowsF
    rw [h u (Nat.le_refl _), ih (u + 1) fun v hv => h v (by omega)]
theorem bndF_congr {f g : Nat → Int} : ∀ (k u : Nat) (b : Int), (∀ v, u ≤ v → f v = g v) → bndF f b u k = bndF g b u k := by
  intro k
  induction k with
  | zero => intro u _ _; rfl
  | succ k ih =>
    intro u b h
    unfold bndF
    rw [h u (Nat.le_refl _), ih (u + 1) _ fun v hv => h v (by omega)]

/-- What a term adds to the coefficient of a variable; the coefficients of negative literals. -/
def sg (z : Int × Int) (v : Nat) : Int := if z.2 = (v : Int) then z.1 else if z.2 = -(v : Int) then -z.1 else 0
def S : List (Int × Int) → Nat → Int
  | [], _ => 0
  | z :: zs, v => sg z v + S zs v
def ng (z : Int × Int) : Int := if 0 < z.2 then 0 else z.1
def Ng : List (Int × Int) → Int
  | [] => 0
  | z :: zs => ng z + Ng zs
theorem S_append (xs ys : List (Int × Int)) (v : Nat) : S (xs ++ ys) v = S xs v + S ys v := by
  induction xs with
  | nil => show S ys v = 0 + S ys v; omega
  | cons x xs ih => show sg x v + S (xs ++ ys) v = sg x v + S xs v + S ys v; rw [ih]; omega
theorem Ng_append (xs ys : List (Int × Int)) : Ng (xs ++ ys) = Ng xs + Ng ys := by
  induction xs with
  | nil => show Ng ys = 0 + Ng ys; omega
  | cons x xs ih => show ng x + Ng (xs ++ ys) = ng x + Ng xs + Ng ys; rw [ih]; omega
theorem S_none {zs : List (Int × Int)} {v : Nat} (h : ∀ z ∈ zs, (v : Int) < ab z.2) : S zs v = 0 := by
  induction zs with
  | nil => rfl
  | cons z zs ih =>
    show sg z v + S zs v = 0
    rw [ih fun x hx => h x (List.mem_cons_of_mem _ hx)]
    have h1 := h z (List.mem_cons_self ..)
    unfold ab at h1
    unfold sg
    rw [if_neg (by split at h1 <;> omega), if_neg (by split at h1 <;> omega)]
    rfl
theorem Ng_nonneg {zs : List (Int × Int)} (h : srt zs) : 0 ≤ Ng zs := by
  induction zs with
  | nil => exact Int.le_refl _
  | cons z zs ih =>
    have h1 := ih h.2.2
    have h2 := h.1.2.1
    show 0 ≤ ng z + Ng zs
    unfold ng
    split <;> omega

theorem w64 {x : Int} (h : -9000000000 ≤ x ∧ x ≤ 9000000000) : wrap64 x = x := by rw [← IntWalk.i64_left]; exact IntWalk.i64_in _ (by omega)
theorem w64' {x : Int} (h : -9000000000 ≤ x ∧ x ≤ 9000000000) : IntKind.i64.wrap x = x := IntWalk.i64_in _ (by omega)

/-- One variable: the pair of its terms, off the sum of what they add. -/
theorem add_one {x y : Int × Int} {u : Nat} (hu : 1 ≤ u) (hx : x = (0, 0) ∨ (ab x.2 = (u : Int) ∧ 1 ≤ x.1 ∧ x.1 ≤ 1000)) (hy : y = (0, 0) ∨ (ab y.2 = (u : Int) ∧ 1 ≤ y.1 ∧ y.1 ≤ 1000)) (hne : ¬ (x = (0, 0) ∧ y = (0, 0))) :
    addP (x, y) = rowAt (sg x u + sg y u) u ∧ 0 ≤ (addT x y).2 ∧ (addT x y).2 ≤ 1000 ∧ (∀ b : Int, -9000000 ≤ b → b ≤ 9000000 → bAt (b - ng x - ng y) (sg x u + sg y u) = b - (addT x y).2) := by
  obtain ⟨xc, xl⟩ := x
  obtain ⟨yc, yl⟩ := y
  have key : ∀ (zc zl : Int), ((zc, zl) = ((0 : Int), (0 : Int)) ∨ (ab (zc, zl).2 = (u : Int) ∧ 1 ≤ (zc, zl).1 ∧ (zc, zl).1 ≤ 1000)) →
      (zc = 0 ∧ zl = 0) ∨ (1 ≤ zc ∧ zc ≤ 1000 ∧ (zl = (u : Int) ∨ zl = -(u : Int))) := by
    intro zc zl h
    rcases h with h | ⟨h1, h2, h3⟩
    · exact .inl (by simpa using h)
    · refine .inr ⟨h2, h3, ?_⟩
      dsimp only at h1
      unfold ab at h1
      split at h1 <;> omega
  have kx := key _ _ hx
  have ky := key _ _ hy
  have hn : ¬ ((xc = 0 ∧ xl = 0) ∧ (yc = 0 ∧ yl = 0)) := by
    rintro ⟨⟨rfl, rfl⟩, rfl, rfl⟩
    exact hne ⟨rfl, rfl⟩
  clear key hx hy hne
  have hsx : sg (xc, xl) u = if xl = (u : Int) then xc else if xl = -(u : Int) then -xc else 0 := rfl
  have hsy : sg (yc, yl) u = if yl = (u : Int) then yc else if yl = -(u : Int) then -yc else 0 := rfl
  have hgx : ng (xc, xl) = if 0 < xl then 0 else xc := rfl
  have hgy : ng (yc, yl) = if 0 < yl then 0 else yc := rfl
  have hT : addT (xc, xl) (yc, yl) = if xc < yc then (if yl = -xl then ((yc - xc, yl), xc) else ((yc + xc, yl), 0)) else (if xl = -yl then ((xc - yc, xl), yc) else ((xc + yc, xl), 0)) := rfl
  have fin : ∀ (co li ca s : Int), addT (xc, xl) (yc, yl) = ((co, li), ca) → sg (xc, xl) u + sg (yc, yl) u = s → (0 < co ∧ ((s = co ∧ li = (u : Int)) ∨ (s = -co ∧ li = -(u : Int))) ∨ (co = 0 ∧ s = 0)) → co ≤ 2000 → 0 ≤ ca → ca ≤ 1000 →
      (ca = ng (xc, xl) + ng (yc, yl) + (if s < 0 then s else 0)) →
      addP ((xc, xl), (yc, yl)) = rowAt (sg (xc, xl) u + sg (yc, yl) u) u ∧ 0 ≤ (addT (xc, xl) (yc, yl)).2 ∧ (addT (xc, xl) (yc, yl)).2 ≤ 1000 ∧ (∀ b : Int, -9000000 ≤ b → b ≤ 9000000 → bAt (b - ng (xc, xl) - ng (yc, yl)) (sg (xc, xl) u + sg (yc, yl) u) = b - (addT (xc, xl) (yc, yl)).2) := by
    intro co li ca s e1 e2 e3 e4 e5 e6 e7
    rw [e2, e1]
    refine ⟨?_, e5, e6, ?_⟩
    · unfold addP
      dsimp only
      rw [e1]
      dsimp only
      rcases e3 with ⟨h1, ⟨rfl, rfl⟩ | ⟨rfl, rfl⟩⟩ | ⟨rfl, rfl⟩
      · rw [if_pos h1, rowAt_pos h1]
      · rw [if_pos h1, rowAt_neg (by omega), Int.neg_neg, w64' (by omega)]
      · rw [if_neg (by omega), rowAt_zero (by omega) (by omega)]
    · intro b h1 h2
      unfold bAt
      dsimp only
      split
      · next h =>
        rw [if_pos h] at e7
        rw [w64 (by omega)]
        omega
      · next h =>
        rw [if_neg h] at e7
        omega
  rcases kx with ⟨rfl, rfl⟩ | ⟨x1, x2, rfl | rfl⟩
  · rcases ky with ⟨rfl, rfl⟩ | ⟨y1, y2, rfl | rfl⟩
    · exact absurd ⟨⟨rfl, rfl⟩, rfl, rfl⟩ hn
    · refine fin yc u 0 yc (by rw [hT, if_pos (by omega), if_neg (by omega)]; simp) (by rw [hsx, hsy, if_neg (by omega), if_neg (by omega), if_pos rfl]; omega) (.inl ⟨by omega, .inl ⟨rfl, rfl⟩⟩) (by omega) (by omega) (by omega) (by rw [hgx, hgy, if_neg (by omega), if_pos (by omega), if_neg (by omega)]; omega)
    · refine fin yc (-(u : Int)) 0 (-yc) (by rw [hT, if_pos (by omega), if_neg (by omega)]; simp) (by rw [hsx, hsy, if_neg (by omega), if_neg (by omega), if_neg (by omega), if_pos rfl]; omega) (.inl ⟨by omega, .inr ⟨rfl, rfl⟩⟩) (by omega) (by omega) (by omega) (by rw [hgx, hgy, if_neg (by omega), if_neg (by omega), if_pos (by omega)]; omega)
  · rcases ky with ⟨rfl, rfl⟩ | ⟨y1, y2, rfl | rfl⟩
    · refine fin xc u 0 xc (by rw [hT, if_neg (by omega), if_neg (by omega)]; simp) (by rw [hsx, hsy, if_pos rfl, if_neg (by omega), if_neg (by omega)]; omega) (.inl ⟨by omega, .inl ⟨rfl, rfl⟩⟩) (by omega) (by omega) (by omega) (by rw [hgx, hgy, if_pos (by omega), if_neg (by omega), if_neg (by omega)]; omega)
    · refine fin (xc + yc) u 0 (xc + yc) (by rw [hT]; split <;> rw [if_neg (by omega)] <;> simp <;> omega) (by rw [hsx, hsy, if_pos rfl, if_pos rfl]) (.inl ⟨by omega, .inl ⟨rfl, rfl⟩⟩) (by omega) (by omega) (by omega) (by rw [hgx, hgy, if_pos (by omega), if_pos (by omega), if_neg (by omega)]; omega)
    · by_cases h : xc < yc
      · refine fin (yc - xc) (-(u : Int)) xc (xc - yc) (by rw [hT, if_pos h, if_pos (by omega)]) (by rw [hsx, hsy, if_pos rfl, if_neg (by omega), if_pos rfl]; omega) (.inl ⟨by omega, .inr ⟨by omega, rfl⟩⟩) (by omega) (by omega) (by omega) (by rw [hgx, hgy, if_pos (by omega), if_neg (by omega), if_pos (by omega)]; omega)
      · refine fin (xc - yc) u yc (xc - yc) (by rw [hT, if_neg h, if_pos (by omega)]) (by rw [hsx, hsy, if_pos rfl, if_neg (by omega), if_pos rfl]; omega) (by omega) (by omega) (by omega) (by omega) (by rw [hgx, hgy, if_pos (by omega), if_neg (by omega), if_neg (by omega)]; omega)
  · rcases ky with ⟨rfl, rfl⟩ | ⟨y1, y2, rfl | rfl⟩
    · refine fin xc (-(u : Int)) 0 (-xc) (by rw [hT, if_neg (by omega), if_neg (by omega)]; simp) (by rw [hsx, hsy, if_neg (by omega), if_pos rfl, if_neg (by omega), if_neg (by omega)]; omega) (.inl ⟨by omega, .inr ⟨rfl, rfl⟩⟩) (by omega) (by omega) (by omega) (by rw [hgx, hgy, if_neg (by omega), if_neg (by omega), if_pos (by omega)]; omega)
    · by_cases h : xc < yc
      · refine fin (yc - xc) u xc (yc - xc) (by rw [hT, if_pos h, if_pos (by omega)]) (by rw [hsx, hsy, if_neg (by omega), if_pos rfl, if_pos rfl]; omega) (.inl ⟨by omega, .inl ⟨by omega, rfl⟩⟩) (by omega) (by omega) (by omega) (by rw [hgx, hgy, if_neg (by omega), if_pos (by omega), if_neg (by omega)]; omega)
      · refine fin (xc - yc) (-(u : Int)) yc (yc - xc) (by rw [hT, if_neg h, if_pos (by omega)]) (by rw [hsx, hsy, if_neg (by omega), if_pos rfl, if_pos rfl]; omega) (by omega) (by omega) (by omega) (by omega) (by rw [hgx, hgy, if_neg (by omega), if_pos (by omega)]; split <;> omega)
    · refine fin (xc + yc) (-(u : Int)) 0 (-(xc + yc)) (by rw [hT]; split <;> rw [if_neg (by omega)] <;> simp <;> omega) (by rw [hsx, hsy, if_neg (by omega), if_pos rfl, if_neg (by omega), if_pos rfl]; omega) (.inl ⟨by omega, .inr ⟨rfl, rfl⟩⟩) (by omega) (by omega) (by omega) (by rw [hgx, hgy, if_neg (by omega), if_neg (by omega), if_pos (by omega)]; omega)
end Go.Proofs.Ytipblbcedkhmbaa

namespace Go.Proofs.Ytipblbcedkhmbaa
open Go.ChangeShapes Go.WideShapes Go.ChangeAt Go.RowKit

theorem sg_zero (v : Nat) : sg ((0 : Int), (0 : Int)) v = 0 := by
  unfold sg
  dsimp only
  split
  · rfl
  · split <;> rfl
theorem ng_zero : ng ((0 : Int), (0 : Int)) = 0 := rfl
theorem sg_off {z : Int × Int} {u v : Nat} (h : z = (0, 0) ∨ (ab z.2 = (u : Int) ∧ 1 ≤ z.1 ∧ z.1 ≤ 1000)) (hv : u < v) : sg z v = 0 := by
  rcases h with rfl | ⟨h, _⟩
  · exact sg_zero v
  · unfold ab at h
    unfold sg
    rw [if_neg (by split at h <;> omega), if_neg (by split at h <;> omega)]
/-- What is shown of two lists and the variables u to u + k - 1. -/
def Sums (k u : Nat) (xs ys : List (Int × Int)) : Prop := ∀ b : Int, -8000000 + 1000 * (12 - (k : Int)) * -1 ≤ b + 24000 → b ≤ 8000000 - 1000 * (k : Int) → -8000000 + 1000 * (k : Int) ≤ b →
  addR (prs xs ys) = rowsF (fun v => S xs v + S ys v) u k ∧ bndF (fun v => S xs v + S ys v) (b - Ng xs - Ng ys) u k = canW b (prs xs ys)

theorem step_sum {k u : Nat} {x y : Int × Int} {xs ys xs' ys' : List (Int × Int)} (hu : 1 ≤ u) (ih : Sums k (u + 1) xs' ys') (hp : prs xs ys = (x, y) :: prs xs' ys')
    (hF : ∀ v, S xs v + S ys v = sg x v + sg y v + (S xs' v + S ys' v)) (h0 : S xs' u + S ys' u = 0) (hN : Ng xs + Ng ys = ng x + ng y + (Ng xs' + Ng ys'))
    (hx : x = (0, 0) ∨ (ab x.2 = (u : Int) ∧ 1 ≤ x.1 ∧ x.1 ≤ 1000)) (hy : y = (0, 0) ∨ (ab y.2 = (u : Int) ∧ 1 ≤ y.1 ∧ y.1 ≤ 1000)) (hne : ¬ (x = (0, 0) ∧ y = (0, 0)))
    (hb0 : 0 ≤ Ng xs' + Ng ys') (hb1 : Ng xs' + Ng ys' ≤ 100000) : Sums (k + 1) u xs ys := by
  intro b _ h2 h3
  obtain ⟨e1, e2, e3, e4⟩ := add_one hu hx hy hne
  have hk : ((k + 1 : Nat) : Int) = (k : Int) + 1 := by omega
  rw [hk] at h2 h3
  obtain ⟨i1, i2⟩ := ih (b - (addT x y).2) (by omega) (by omega) (by omega)
  have hFu : S xs u + S ys u = sg x u + sg y u := by have := hF u; omega
  have hcong : ∀ v, u + 1 ≤ v → S xs v + S ys v = S xs' v + S ys' v := fun v hv => by
    have h5 := hF v
    have h6 := sg_off hx (v := v) (by omega)
    have h7 := sg_off hy (v := v) (by omega)
    omega
  have hw : wrap64 (b - (addT x y).2) = b - (addT x y).2 := w64 (by omega)
  refine ⟨?_, ?_⟩
  · rw [hp]
    show addP (x, y) ++ addR (prs xs' ys') = rowAt (S xs u + S ys u) u ++ rowsF _ (u + 1) k
    rw [e1, hFu, i1, rowsF_congr (f := fun v => S xs v + S ys v) (g := fun v => S xs' v + S ys' v) k (u + 1) hcong]
  · rw [hp]
    show bndF _ (bAt (b - Ng xs - Ng ys) (S xs u + S ys u)) (u + 1) k = canW (wrap64 (b - (addT x y).2)) (prs xs' ys')
    have e5 := e4 (b - Ng xs' - Ng ys') (by omega) (by omega)
    rw [hFu, show b - Ng xs - Ng ys = b - Ng xs' - Ng ys' - ng x - ng y by omega, e5, hw, ← i2, bndF_congr (f := fun v => S xs v + S ys v) (g := fun v => S xs' v + S ys' v) k (u + 1) _ hcong,
      show b - Ng xs' - Ng ys' - (addT x y).2 = b - (addT x y).2 - Ng xs' - Ng ys' by omega]

theorem skip_sum {k u : Nat} {xs ys : List (Int × Int)} (ih : Sums k (u + 1) xs ys) (h0 : S xs u + S ys u = 0) : Sums (k + 1) u xs ys := by
  intro b _ h2 h3
  have hk : ((k + 1 : Nat) : Int) = (k : Int) + 1 := by omega
  rw [hk] at h2 h3
  obtain ⟨i1, i2⟩ := ih b (by omega) (by omega) (by omega)
  refine ⟨?_, ?_⟩
  · show _ = rowAt (S xs u + S ys u) u ++ rowsF _ (u + 1) k
    rw [h0, rowAt_zero (by omega) (by omega)]
    exact i1
  · show bndF _ (bAt (b - Ng xs - Ng ys) (S xs u + S ys u)) (u + 1) k = _
    rw [h0, show bAt (b - Ng xs - Ng ys) 0 = b - Ng xs - Ng ys from if_neg (by omega)]
    exact i2

/-- All variables of a list lie from u on and below t. -/
def From (u t : Nat) (xs : List (Int × Int)) : Prop := ∀ z ∈ xs, (u : Int) ≤ ab z.2 ∧ ab z.2 < (t : Int)
theorem From.up {u t : Nat} {x : Int × Int} {xs : List (Int × Int)} (h : From u t (x :: xs)) (hs : srt (x :: xs)) (hx : ab x.2 = (u : Int)) : From (u + 1) t xs := fun z hz => by
  have h1 := h z (List.mem_cons_of_mem _ hz)
  have h2 := hs.2.1 z hz
  omega
theorem From.up' {u t : Nat} {x : Int × Int} {xs : List (Int × Int)} (h : From u t (x :: xs)) (hs : srt (x :: xs)) (hx : ab x.2 ≠ (u : Int)) : From (u + 1) t (x :: xs) := fun z hz => by
  have h1 := h z hz
  have h3 := h x (List.mem_cons_self ..)
  rcases List.mem_cons.1 hz with rfl | hz
  · omega
  · have h2 := hs.2.1 z hz
    omega
theorem From.nil (u t : Nat) : From u t [] := fun z hz => by cases hz
theorem From.none {u t : Nat} {xs : List (Int × Int)} (h : From (u + 1) t xs) : S xs u = 0 := S_none fun z hz => by have := h z hz; omega

theorem all_sum : ∀ (k u : Nat) (xs ys : List (Int × Int)), 1 ≤ u → srt xs → srt ys → From u (u + k) xs → From u (u + k) ys → Ng xs + Ng ys ≤ 100000 → Sums k u xs ys := by
  intro k
  induction k with
  | zero =>
    intro u xs ys _ _ _ h h' _ b _ _ _
    have h1 : xs = [] := by
      cases xs with
      | nil => rfl
      | cons x xs => have := h x (List.mem_cons_self ..); omega
    have h2 : ys = [] := by
      cases ys with
      | nil => rfl
      | cons y ys => have := h' y (List.mem_cons_self ..); omega
    subst h1 h2
    refine ⟨rfl, ?_⟩
    show b - 0 - 0 = b
    omega
  | succ k ih =>
    intro u xs ys hu hs hs' h h' hN
    rw [show u + (k + 1) = u + 1 + k by omega] at h h'
    have n1 := Ng_nonneg hs
    have n2 := Ng_nonneg hs'
    have hasx : (∃ x xs', xs = x :: xs' ∧ ab x.2 = (u : Int)) ∨ From (u + 1) (u + 1 + k) xs := by
      cases xs with
      | nil => exact .inr (From.nil _ _)
      | cons x xs =>
        by_cases e : ab x.2 = (u : Int)
        · exact .inl ⟨x, xs, rfl, e⟩
        · exact .inr (h.up' hs e)
    have hasy : (∃ y ys', ys = y :: ys' ∧ ab y.2 = (u : Int)) ∨ From (u + 1) (u + 1 + k) ys := by
      cases ys with
      | nil => exact .inr (From.nil _ _)
      | cons y ys =>
        by_cases e : ab y.2 = (u : Int)
        · exact .inl ⟨y, ys, rfl, e⟩
        · exact .inr (h'.up' hs' e)
    rcases hasx with ⟨x, xs', rfl, ex⟩ | fx
    · have hx : x = (0, 0) ∨ (ab x.2 = (u : Int) ∧ 1 ≤ x.1 ∧ x.1 ≤ 1000) := .inr ⟨ex, hs.1.2⟩
      have hx0 : ¬ x = (0, 0) := fun e => by have := hs.1.2.1; rw [e] at this; dsimp only at this; omega
      have fx := h.up hs ex
      have z1 := Ng_nonneg hs.2.2
      have hNx : Ng (x :: xs') = ng x + Ng xs' := rfl
      have hngx : 0 ≤ ng x := by have := hs.1.2.1; unfold ng; split <;> omega
      rcases hasy with ⟨y, ys', rfl, ey⟩ | fy
      · have hy : y = (0, 0) ∨ (ab y.2 = (u : Int) ∧ 1 ≤ y.1 ∧ y.1 ≤ 1000) := .inr ⟨ey, hs'.1.2⟩
        have fy := h'.up hs' ey
        have z2 := Ng_nonneg hs'.2.2
        have hNy : Ng (y :: ys') = ng y + Ng ys' := rfl
        have hngy : 0 ≤ ng y := by have := hs'.1.2.1; unfold ng; split <;> omega
        refine step_sum hu (ih (u + 1) xs' ys' (by omega) hs.2.2 hs'.2.2 fx fy (by omega)) (prs_eq (ex.trans ey.symm)) (fun v => ?_) (by rw [fx.none, fy.none]; rfl) (by omega) hx hy (fun e => hx0 e.1) (by omega) (by omega)
        show sg x v + S xs' v + (sg y v + S ys' v) = _
        omega
      · refine step_sum hu (ih (u + 1) xs' ys (by omega) hs.2.2 hs' fx fy (by omega)) (y := (0, 0)) ?_ (fun v => ?_) (by rw [fx.none, fy.none]; rfl) (by rw [ng_zero]; omega) hx (.inl rfl) (fun e => hx0 e.1) (by omega) (by omega)
        · cases ys with
          | nil => exact prs_left
          | cons y ys =>
            have := fy y (List.mem_cons_self ..)
            exact prs_lt (by omega)
        · rw [sg_zero]
          show sg x v + S xs' v + S ys v = _
          omega
    · rcases hasy with ⟨y, ys', rfl, ey⟩ | fy
      · have hy : y = (0, 0) ∨ (ab y.2 = (u : Int) ∧ 1 ≤ y.1 ∧ y.1 ≤ 1000) := .inr ⟨ey, hs'.1.2⟩
        have hy0 : ¬ y = (0, 0) := fun e => by have := hs'.1.2.1; rw [e] at this; dsimp only at this; omega
        have fy := h'.up hs' ey
        have z2 := Ng_nonneg hs'.2.2
        have hNy : Ng (y :: ys') = ng y + Ng ys' := rfl
        have hngy : 0 ≤ ng y := by have := hs'.1.2.1; unfold ng; split <;> omega
        refine step_sum hu (ih (u + 1) xs ys' (by omega) hs hs'.2.2 fx fy (by omega)) (x := (0, 0)) ?_ (fun v => ?_) (by rw [fx.none, fy.none]; rfl) (by rw [ng_zero]; omega) (.inl rfl) hy (fun e => hy0 e.2) (by omega) (by omega)
        · cases xs with
          | nil => exact prs_right
          | cons x xs =>
            have := fx x (List.mem_cons_self ..)
            exact prs_gt (by omega)
        · rw [sg_zero]
          show S xs v + (sg y v + S ys' v) = _
          omega
      · exact skip_sum (ih (u + 1) xs ys (by omega) hs hs' fx fy hN) (by rw [fx.none, fy.none]; rfl)

theorem lst_snoc (c l : Nat → Int) : ∀ (m i : Nat), lst c l i (m + 1) = lst c l i m ++ [(c (i + m), l (i + m))] := by
  intro m
  induction m with
  | zero => intro i; rfl
  | succ m ih =>
    intro i
    show (c i, l i) :: lst c l (i + 1) (m + 1) = (c i, l i) :: (lst c l (i + 1) m ++ _)
    rw [ih (i + 1), show i + 1 + m = i + (m + 1) by omega]
theorem lst_congr {c l c' l' : Nat → Int} {n : Nat} (h : ∀ i, i < n → c i = c' i ∧ l i = l' i) : lst c l 0 n = lst c' l' 0 n := by
  induction n with
  | zero => rfl
  | succ n ih =>
    rw [lst_snoc, lst_snoc, ih fun i hi => h i (by omega), Nat.zero_add, (h n (by omega)).1, (h n (by omega)).2]
theorem lst_cat (c l c' l' : Nat → Int) (n m : Nat) : lst (cat2 n c c') (cat2 n l l') 0 (n + m) = lst c l 0 n ++ lst c' l' 0 m := by
  induction m with
  | zero =>
    rw [Nat.add_zero]
    show _ = lst c l 0 n ++ []
    rw [List.append_nil]
    exact lst_congr fun i hi => by simp [cat2, hi]
  | succ m ih =>
    have h1 : cat2 n c c' (n + m) = c' m := by unfold cat2; rw [if_neg (by omega)]; congr 1; omega
    have h2 : cat2 n l l' (n + m) = l' m := by unfold cat2; rw [if_neg (by omega)]; congr 1; omega
    rw [show n + (m + 1) = (n + m) + 1 by omega, lst_snoc, lst_snoc, ih, List.append_assoc, Nat.zero_add, Nat.zero_add, h1, h2]

theorem S_bnd {c l : Nat → Int} {n : Nat} (h : allN c l n = true) (v : Nat) : ∀ k, k ≤ n → -1000 * (k : Int) ≤ S (lst c l 0 k) v ∧ S (lst c l 0 k) v ≤ 1000 * (k : Int) := by
  intro k
  induction k with
  | zero => intro _; exact ⟨Int.le_refl _, Int.le_refl _⟩
  | succ k ih =>
    intro hk
    have h1 := ih (by omega)
    obtain ⟨_, h2, h3⟩ := okN_iff.1 (allN_at h (show k < n by omega))
    rw [lst_snoc, S_append, Nat.zero_add]
    have h4 : S [(c k, l k)] v = sg (c k, l k) v + 0 := rfl
    have h5 : sg (c k, l k) v = if l k = (v : Int) then c k else if l k = -(v : Int) then -c k else 0 := rfl
    rw [h4, h5]
    split
    · omega
    · split <;> omega
theorem net_S {c l : Nat → Int} {n : Nat} (h : allN c l n = true) (hn : n ≤ 1000) (v : Nat) : ∀ k, k ≤ n → net c l k v = S (lst c l 0 k) v := by
  intro k
  induction k with
  | zero => intro _; rfl
  | succ k ih =>
    intro hk
    have h1 := ih (by omega)
    have hb := S_bnd h v k (by omega)
    obtain ⟨_, h2, h3⟩ := okN_iff.1 (allN_at h (show k < n by omega))
    rw [lst_snoc, S_append, Nat.zero_add]
    have h4 : S [(c k, l k)] v = sg (c k, l k) v + 0 := rfl
    have h5 : sg (c k, l k) v = if l k = (v : Int) then c k else if l k = -(v : Int) then -c k else 0 := rfl
    rw [h4, h5]
    unfold net
    rw [h1]
    split
    · rw [w64 (by omega)]; omega
    · split
      · rw [w64 (by omega)]; omega
      · omega
theorem Ng_bnd {c l : Nat → Int} {n : Nat} (h : allN c l n = true) : ∀ k, k ≤ n → -1000 * (k : Int) ≤ Ng (lst c l 0 k) ∧ Ng (lst c l 0 k) ≤ 1000 * (k : Int) := by
  intro k
  induction k with
  | zero => intro _; exact ⟨Int.le_refl _, Int.le_refl _⟩
  | succ k ih =>
    intro hk
    have h1 := ih (by omega)
    obtain ⟨_, h2, h3⟩ := okN_iff.1 (allN_at h (show k < n by omega))
    rw [lst_snoc, Ng_append, Nat.zero_add]
    have h4 : Ng [(c k, l k)] = ng (c k, l k) + 0 := rfl
    have h5 : ng (c k, l k) = if 0 < l k then 0 else c k := rfl
    rw [h4, h5]
    split <;> omega
theorem nbd_Ng {c l : Nat → Int} {n : Nat} {b : Int} (h : allN c l n = true) (hn : n ≤ 1000) (hb : -1000000 ≤ b ∧ b ≤ 1000000) : ∀ k, k ≤ n → nbd c l b k = b - Ng (lst c l 0 k) := by
  intro k
  induction k with
  | zero => intro _; show b = b - 0; omega
  | succ k ih =>
    intro hk
    have h1 := ih (by omega)
    have hB := Ng_bnd h k (by omega)
    obtain ⟨_, h2, h3⟩ := okN_iff.1 (allN_at h (show k < n by omega))
    rw [lst_snoc, Ng_append, Nat.zero_add]
    have h4 : Ng [(c k, l k)] = ng (c k, l k) + 0 := rfl
    have h5 : ng (c k, l k) = if 0 < l k then 0 else c k := rfl
    rw [h4, h5]
    unfold nbd
    rw [h1]
    split
    · omega
    · rw [w64 (by omega)]; omega

theorem From_lst {n : Nat} {c l : Nat → Int} {bd : Int} (h : validB n c l bd = true) : From 1 13 (lst c l 0 n) := fun z hz => by
  obtain ⟨j, _, hj, rfl⟩ := lst_mem z hz
  have := ab_lit (litAt h (show j < n by omega))
  dsimp only
  omega

/-- Both sides' rows and bounds. -/
theorem sum_same {N N' : Nat} {c l c' l' : Nat → Int} {bd bd' : Int} (hv : validB N c l bd = true) (hv' : validB N' c' l' bd' = true) :
    addR (prs (lst c l 0 N) (lst c' l' 0 N')) = rowsN (net (cat2 N c c') (cat2 N l l') (N + N')) 12 ∧
    canW (wrap64 (bd + bd')) (prs (lst c l 0 N) (lst c' l' 0 N')) = bndN (net (cat2 N c c') (cat2 N l l') (N + N')) (nbd (cat2 N c c') (cat2 N l l') (wrap64 (bd + bd')) (N + N')) 12 := by
  have hN := valid_12 hv
  have hN' := valid_12 hv'
  have hall := allN_cat (valid_all hv) (valid_all hv')
  have b1 := valid_bd hv
  have b2 := valid_bd hv'
  have hw : wrap64 (bd + bd') = bd + bd' := w64 (by omega)
  have g1 := Ng_bnd (valid_all hv) N (Nat.le_refl _)
  have g2 := Ng_bnd (valid_all hv') N' (Nat.le_refl _)
  have hnet : net (cat2 N c c') (cat2 N l l') (N + N') = fun v => S (lst c l 0 N) v + S (lst c' l' 0 N') v := by
    funext v
    rw [net_S hall (by omega) v (N + N') (Nat.le_refl _), lst_cat, S_append]
  have hnbd : nbd (cat2 N c c') (cat2 N l l') (bd + bd') (N + N') = bd + bd' - Ng (lst c l 0 N) - Ng (lst c' l' 0 N') := by
    rw [nbd_Ng hall (by omega) (by omega) (N + N') (Nat.le_refl _), lst_cat, Ng_append]
    omega
  obtain ⟨h1, h2⟩ := all_sum 12 1 _ _ (by omega) (srt_valid hv) (srt_valid hv') (From_lst hv) (From_lst hv') (by omega) (bd + bd') (by omega) (by omega) (by omega)
  rw [hw, hnet, hnbd, rowsN_F, bndN_F]
  exact ⟨h1, h2.symm⟩

/-- The program's side, in the model's words. -/
theorem inf_fit (R : List (Int × Int)) (b : Int) : infN true R.length (rC R) (rL R) (capB b) = fitN R b ∧ infD true R.length (rC R) (rL R) (capB b) = fitD R b ∧ infB true R.length (rC R) (rL R) (capB b) = fitB R b := by
  have h : infB true R.length (rC R) (rL R) (capB b) = fitB R b := by unfold infB fitB; rw [Bool.true_and]
  refine ⟨?_, ?_, h⟩
  · unfold infN fitN; rw [h]
  · unfold infD fitD; rw [h]
end Go.Proofs.Ytipblbcedkhmbaa

namespace Go.Proofs.Ytipblbcedkhmbaa
open Go.ChangeShapes Go.WideShapes Go.ChangeAt Go.RowKit

/-- The sum of the coefficients whose literals hold. -/
def tS (P : Int → Bool) : List (Int × Int) → Int
  | [] => 0
  | z :: zs => (if P z.2 then z.1 else 0) + tS P zs
theorem tS_append (P : Int → Bool) (xs ys : List (Int × Int)) : tS P (xs ++ ys) = tS P xs + tS P ys := by
  induction xs with
  | nil => show tS P ys = 0 + _; omega
  | cons x xs ih => show _ + tS P (xs ++ ys) = _ + _ + _; rw [ih]; omega
theorem sB_tS (c l : Nat → Int) (P : Int → Bool) (n : Nat) : sB c l P n = tS P (lst c l 0 n) := by
  induction n with
  | zero => rfl
  | succ n ih =>
    rw [lst_snoc, tS_append, ← ih, Nat.zero_add]
    show _ = _ + ((if P (l n) then c n else 0) + 0)
    cases hp : P (l n) with
    | true => rw [sB_yes hp, if_pos rfl]; omega
    | false => rw [sB_no hp, if_neg (by decide)]; omega
theorem lst_rows_at : ∀ (R pre : List (Int × Int)), lst (rC (pre ++ R)) (rL (pre ++ R)) pre.length R.length = R := by
  intro R
  induction R with
  | nil => intro pre; rfl
  | cons x R ih =>
    intro pre
    have h := ih (pre ++ [x])
    rw [List.append_assoc, List.length_append] at h
    show (rC (pre ++ x :: R) pre.length, rL (pre ++ x :: R) pre.length) :: lst _ _ (pre.length + 1) R.length = _
    have e : (pre ++ x :: R).getD pre.length (0, 0) = x := by simp
    unfold rC rL
    rw [e]
    exact congrArg _ h
theorem lst_rows (R : List (Int × Int)) : lst (rC R) (rL R) 0 R.length = R := lst_rows_at R []
theorem sB_rows (P : Int → Bool) (R : List (Int × Int)) : sB (rC R) (rL R) P R.length = tS P R := by rw [sB_tS, lst_rows]

/-- The sum of a function over the variables that are true. -/
def TT (v : Nat → Bool) (f : Nat → Int) : Nat → Int
  | 0 => 0
  | k + 1 => TT v f k + (if v k then f (k + 1) else 0)
theorem TT_add (v : Nat → Bool) (f g : Nat → Int) (k : Nat) : TT v (fun u => f u + g u) k = TT v f k + TT v g k := by
  induction k with
  | zero => rfl
  | succ k ih =>
    show TT v (fun u => f u + g u) k + (if v k then f (k + 1) + g (k + 1) else 0) = (TT v f k + (if v k then f (k + 1) else 0)) + (TT v g k + (if v k then g (k + 1) else 0))
    rw [ih]
    split <;> omega
theorem TT_zero (v : Nat → Bool) (k : Nat) : TT v (fun _ => 0) k = 0 := by
  induction k with
  | zero => rfl
  | succ k ih => show TT v (fun _ => 0) k + (if v k then 0 else 0) = 0; rw [ih]; split <;> rfl
theorem TT_one (v : Nat → Bool) (z : Int × Int) (i : Nat) (x : Int) (h : ∀ u : Nat, sg z (u + 1) = if u = i then x else 0) (k : Nat) : TT v (sg z) k = if i < k then (if v i then x else 0) else 0 := by
  induction k with
  | zero => rfl
  | succ k ih =>
    show TT v (sg z) k + (if v k then sg z (k + 1) else 0) = _
    have h1 : (if v k then (if k = i then x else 0) else 0) = if k = i then (if v i then x else 0) else 0 := by
      by_cases e : k = i
      · subst e
        simp
      · simp [e]
    rw [ih, h k, h1]
    by_cases e : k = i
    · rw [if_pos e, if_neg (show ¬ i < k by omega), if_pos (show i < k + 1 by omega)]
      exact Int.zero_add _
    · by_cases hi : i < k
      · rw [if_neg e, if_pos hi, if_pos (show i < k + 1 by omega)]
        exact Int.add_zero _
      · rw [if_neg e, if_neg hi, if_neg (show ¬ i < k + 1 by omega)]
        exact Int.add_zero _
theorem term_TT (v : Nat → Bool) (z : Int × Int) (h : litB z.2 = true) : (if trueP v z.2 then z.1 else 0) = ng z + TT v (sg z) 12 := by
  obtain ⟨c, l⟩ := z
  obtain ⟨h0, h1, h2⟩ := litB_iff.1 h
  dsimp only at h0 h1 h2 ⊢
  by_cases hp : 0 < l
  · obtain ⟨i, hi, rfl⟩ : ∃ i : Nat, i < 12 ∧ l = (i : Int) + 1 := ⟨(l - 1).toNat, by omega, by omega⟩
    rw [TT_one v _ i c (fun u => by
      unfold sg
      dsimp only
      by_cases e : u = i
      · subst e
        rw [if_pos (by omega), if_pos rfl]
      · rw [if_neg (by omega), if_neg (by omega), if_neg e]), if_pos hi]
    unfold ng trueP
    dsimp only
    rw [if_pos hp, if_pos hp, show ((i : Int) + 1 - 1).toNat = i by omega]
    omega
  · obtain ⟨i, hi, rfl⟩ : ∃ i : Nat, i < 12 ∧ l = -((i : Int) + 1) := ⟨(-l - 1).toNat, by omega, by omega⟩
    rw [TT_one v _ i (-c) (fun u => by
      unfold sg
      dsimp only
      by_cases e : u = i
      · subst e
        rw [if_neg (by omega), if_pos (by omega), if_pos rfl]
      · rw [if_neg (by omega), if_neg (by omega), if_neg e]), if_pos hi]
    unfold ng trueP
    dsimp only
    rw [if_neg hp, if_neg hp, show (- -((i : Int) + 1) - 1).toNat = i by omega]
    cases v i <;> simp <;> omega
theorem tS_S (v : Nat → Bool) (zs : List (Int × Int)) (h : ∀ z ∈ zs, litB z.2 = true) : tS (trueP v) zs = Ng zs + TT v (S zs) 12 := by
  induction zs with
  | nil => show 0 = 0 + TT v (fun _ => 0) 12; rw [TT_zero]; rfl
  | cons z zs ih =>
    have h1 := ih fun y hy => h y (List.mem_cons_of_mem _ hy)
    have h2 := term_TT v z (h z (List.mem_cons_self ..))
    show (if trueP v z.2 then z.1 else 0) + tS (trueP v) zs = ng z + Ng zs + TT v (fun u => sg z u + S zs u) 12
    rw [h1, h2, TT_add]
    omega

/-- The rows and the bound of a function over the variables, under values. -/
theorem rows_val (v : Nat → Bool) (f : Nat → Int) (hf : ∀ u, -100000 ≤ f u ∧ f u ≤ 100000) (b : Int) (hb : -1000000 ≤ b ∧ b ≤ 1000000) : ∀ k, k ≤ 12 → tS (trueP v) (rowsN f k) - bndN f b k = TT v f k - b ∧ b ≤ bndN f b k ∧ bndN f b k ≤ b + 100000 * (k : Int) := by
  intro k
  induction k with
  | zero => intro _; show (0 : Int) - b = 0 - b ∧ b ≤ b ∧ b ≤ b + _; omega
  | succ k ih =>
    intro hk
    obtain ⟨h1, h2, h3⟩ := ih (by omega)
    have hfk := hf (k + 1)
    have e1 : rowsN f (k + 1) = rowsN f k ++ rowAt (f (k + 1)) (k + 1) := rfl
    have e2 : bndN f b (k + 1) = bAt (bndN f b k) (f (k + 1)) := rfl
    have e3 : TT v f (k + 1) = TT v f k + (if v k then f (k + 1) else 0) := rfl
    rw [e1, e2, e3, tS_append]
    have hp : trueP v ((k + 1 : Nat) : Int) = v k := by
      unfold trueP
      rw [if_pos (by omega), show (((k + 1 : Nat) : Int) - 1).toNat = k by omega]
    have hn : trueP v (-((k + 1 : Nat) : Int)) = !v k := by
      unfold trueP
      rw [if_neg (by omega), show (- -((k + 1 : Nat) : Int) - 1).toNat = k by omega]
    by_cases c1 : 0 < f (k + 1)
    · rw [rowAt_pos c1]
      have e4 : bAt (bndN f b k) (f (k + 1)) = bndN f b k := if_neg (by omega)
      have e5 : tS (trueP v) [(f (k + 1), ((k + 1 : Nat) : Int))] = (if v k then f (k + 1) else 0) + 0 := by
        show (if trueP v ((k + 1 : Nat) : Int) then f (k + 1) else 0) + 0 = _
        rw [hp]
      rw [e4, e5]
      omega
    · by_cases c2 : f (k + 1) < 0
      · rw [rowAt_neg c2]
        have e4 : bAt (bndN f b k) (f (k + 1)) = bndN f b k - f (k + 1) := by
          unfold bAt
          rw [if_pos c2, w64 (by omega)]
        have e5 : tS (trueP v) [(IntKind.i64.wrap (-(f (k + 1))), -((k + 1 : Nat) : Int))] = (if v k then 0 else -(f (k + 1))) + 0 := by
          show (if trueP v (-((k + 1 : Nat) : Int)) then IntKind.i64.wrap (-(f (k + 1))) else 0) + 0 = _
          rw [hn, w64' (by omega)]
          cases v k <;> rfl
        rw [e4, e5]
        cases v k <;> simp <;> omega
      · rw [rowAt_zero c1 c2]
        have e4 : bAt (bndN f b k) (f (k + 1)) = bndN f b k := if_neg (by omega)
        have e5 : f (k + 1) = 0 := by omega
        have e6 : (if v k then f (k + 1) else 0) = 0 := by rw [e5]; split <;> rfl
        have e7 : tS (trueP v) ([] : List (Int × Int)) = 0 := rfl
        rw [e4, e6, e7]
        omega
theorem tS_nonneg {P : Int → Bool} {c l : Nat → Int} {bd : Int} {n : Nat} (h : validB n c l bd = true) : 0 ≤ tS P (lst c l 0 n) := by
  rw [← sB_tS]
  exact (sB_le (coef_of h)).1
theorem fit_eval {R : List (Int × Int)} {b : Int} (hl : R.length ≤ 1048576) (h : fitB R b = true) (v : Nat → Bool) : evalV (fitN R b) (rC R) (rL R) (fitD R b) 12 v = decide (b ≤ tS (trueP v) R) := by
  have hv : validB R.length (rC R) (rL R) (capB b) = true := h
  have e1 : fitN R b = R.length := by unfold fitN; rw [if_pos h]
  have e2 : fitD R b = capB b := by unfold fitD; rw [if_pos h]
  have h0 := tS_nonneg (P := trueP v) hv
  rw [lst_rows] at h0
  rw [e1, e2, evalV_sB hl hv, sB_rows, decide_eq_decide]
  unfold capB
  split <;> omega
end Go.Proofs.Ytipblbcedkhmbaa

namespace Go.Proofs.Ytipblbcedkhmbaa
open Go.ChangeShapes Go.WideShapes Go.ChangeAt Go.RowKit

theorem sB_in {c l : Nat → Int} {P : Int → Bool} {n : Nat} (h : allN c l n = true) : ∀ k, k ≤ n → -1000 * (k : Int) ≤ sB c l P k ∧ sB c l P k ≤ 1000 * (k : Int) := by
  intro k
  induction k with
  | zero => intro _; show -1000 * (0 : Int) ≤ 0 ∧ (0 : Int) ≤ 1000 * 0; omega
  | succ k ih =>
    intro hk
    have h1 := ih (by omega)
    have h2 := okN_iff.1 (allN_at h (show k < n by omega))
    cases hp : P (l k) with
    | true => rw [sB_yes hp]; omega
    | false => rw [sB_no hp]; omega
theorem nf_eval {k : Nat} {c l : Nat → Int} {bd : Int} (h : nfB k c l bd = true) : allN c l k = true ∧ k ≤ 40 ∧ validB (nfN k c l bd) (rC (nfR k c l)) (rL (nfR k c l)) (nfD k c l bd) = true ∧ ∀ v, evalV (nfN k c l bd) (rC (nfR k c l)) (rL (nfR k c l)) (nfD k c l bd) 12 v = decide (bd ≤ sB c l (trueP v) k) := by
  unfold nfB at h
  rw [Bool.and_eq_true] at h
  obtain ⟨hp, hf⟩ := h
  obtain ⟨ha, hk, hb1, hb2⟩ := preB_iff.1 hp
  have e1 : nfN k c l bd = fitN (nfR k c l) (nfb k c l bd) := by unfold nfN; rw [if_pos hp]
  have e2 : nfD k c l bd = fitD (nfR k c l) (nfb k c l bd) := by unfold nfD; rw [if_pos hp]
  have hl : (nfR k c l).length ≤ 12 := rowsN_length _ 12
  refine ⟨ha, hk, ?_, fun v => ?_⟩
  · rw [e1, e2]
    unfold fitN fitD
    rw [if_pos hf, if_pos hf]
    exact hf
  · have eT : sB c l (trueP v) k = Ng (lst c l 0 k) + TT v (S (lst c l 0 k)) 12 := by
      rw [sB_tS]
      exact tS_S v (lst c l 0 k) (fun z hz => by
        obtain ⟨j, _, hj, rfl⟩ := lst_mem z hz
        exact (okN_iff.1 (allN_at ha (show j < k by omega))).1)
    rw [e1, e2, fit_eval (by omega) hf, decide_eq_decide, eT]
    have hnet : net c l k = S (lst c l 0 k) := by
      funext u
      exact net_S ha (by omega) u k (Nat.le_refl _)
    have hnbd : nbd c l bd k = bd - Ng (lst c l 0 k) := nbd_Ng ha (by omega) (by omega) k (Nat.le_refl _)
    have k1 := Ng_bnd ha k (Nat.le_refl _)
    obtain ⟨r1, _, _⟩ := rows_val v (S (lst c l 0 k)) (fun u => by
      have s1 := S_bnd ha u k (Nat.le_refl _)
      constructor <;> omega) (bd - Ng (lst c l 0 k)) (by omega) 12 (Nat.le_refl _)
    unfold nfb nfR
    rw [hnet, hnbd]
    omega
theorem normFacts (k : Nat) (c l : Nat → Int) (bd : Int) (hk : k ≤ 1048576) : ∃ (N : Nat) (C L : Nat → Int) (BD : Int) (OK : Bool), N ≤ 1048576 ∧
    (∀ A cap W, Rd W W.heap.size A k c l → Calls Try.prog 18 #[.slice A k cap, .int .i64 bd] W (CRes W N C L BD OK)) ∧
    (∀ A cap W, Rd W W.heap.size A k c l → Calls Try.prog 19 #[.slice A k cap, .int .i64 bd] W (CRes W N C L BD OK)) ∧
    (OK = true → allN c l k = true ∧ k ≤ 40 ∧ validB N C L BD = true ∧ ∀ v, evalV N C L BD 12 v = decide (bd ≤ sB c l (trueP v) k)) := by
  refine ⟨_, _, _, _, _, ?_, fun A cap W h => implNF_any A k cap bd c l W hk h, fun A cap W h => specNorm_any A k cap bd c l W hk h, nf_eval⟩
  have h : (nfR k c l).length ≤ 12 := rowsN_length _ 12
  unfold nfN fitN
  split
  · split <;> omega
  · omega
end Go.Proofs.Ytipblbcedkhmbaa

namespace Go.Proofs.Ytipblbcedkhmbaa
open Go.ChangeShapes Go.WideShapes Go.ChangeAt Go.RowKit

theorem lit_pos (v : Nat → Bool) {z : Int} (h : litB z = true) (hp : 0 < z) : ∃ ix : Nat, ix < 12 ∧ z = (ix : Int) + 1 ∧ trueP v z = v ix ∧ IntKind.i64.wrap ((ix : Int) + 1 - 1) = (ix : Int) ∧ wrap64 ((ix : Int) + 1 - 1) = (ix : Int) ∧ (0 : Int) ≤ (ix : Int) ∧ (ix : Int) < 12 := by
  obtain ⟨h0, h1, h2⟩ := litB_iff.1 h
  obtain ⟨ix, e⟩ : ∃ ix : Nat, z = (ix : Int) + 1 := ⟨(z - 1).toNat, by omega⟩
  have hx : ix < 12 := by omega
  have e2 : (ix : Int) + 1 - 1 = (ix : Int) := by omega
  refine ⟨ix, hx, e, ?_, ?_, ?_, by omega, by omega⟩
  · subst e
    unfold trueP
    rw [if_pos hp, e2]
    rfl
  · rw [e2]; exact w64' (by omega)
  · rw [e2]; exact w64 (by omega)
theorem lit_neg (v : Nat → Bool) {z : Int} (h : litB z = true) (hp : z < 0) : ∃ ix : Nat, ix < 12 ∧ z = -((ix : Int) + 1) ∧ trueP v z = !v ix ∧ IntKind.i64.wrap (-z) = (ix : Int) + 1 ∧ wrap64 (-z) = (ix : Int) + 1 ∧ IntKind.i64.wrap ((ix : Int) + 1 - 1) = (ix : Int) ∧ wrap64 ((ix : Int) + 1 - 1) = (ix : Int) ∧ (0 : Int) ≤ (ix : Int) ∧ (ix : Int) < 12 := by
  obtain ⟨h0, h1, h2⟩ := litB_iff.1 h
  obtain ⟨ix, e⟩ : ∃ ix : Nat, z = -((ix : Int) + 1) := ⟨(-z - 1).toNat, by omega⟩
  have hx : ix < 12 := by omega
  have e1 : - -((ix : Int) + 1) = (ix : Int) + 1 := by omega
  have e2 : (ix : Int) + 1 - 1 = (ix : Int) := by omega
  refine ⟨ix, hx, e, ?_, ?_, ?_, ?_, ?_, by omega, by omega⟩
  · subst e
    unfold trueP
    rw [if_neg (by omega), e1, e2]
    rfl
  · rw [e, e1]; exact w64' (by omega)
  · rw [e, e1]; exact w64 (by omega)
  · rw [e2]; exact w64' (by omega)
  · rw [e2]; exact w64 (by omega)
end Go.Proofs.Ytipblbcedkhmbaa

namespace Go.Proofs.Ytipblbcedkhmbaa
open Go.ChangeShapes Go.WideShapes Go.ChangeAt Go.RowKit Go.Shelf

set_option linter.unusedVariables false in
set_option maxRecDepth 100000 in
set_option maxHeartbeats 6400000 in
theorem lawFnNormalForm_ok (A0 : Option Addr) (A1 : Option Addr) (n0 cap0 n1 cap1 : Nat) (y0 y1 : Nat → Int) (w : World) (h0 : n0 ≤ 1048576) (h1 : n1 ≤ 1048576) (hc0 : n0 ≤ cap0) (hr0 : RdY w w.heap.size A0 n0 y0) (hc1 : n1 ≤ cap1) (hr1 : RdY w w.heap.size A1 n1 y1) :
    Calls Try.prog 3 #[.slice A0 n0 cap0, .slice A1 n1 cap1] w fun e w' => e = .returned (.bool true) ∧ Below w.heap.size w w' := by
  have hm0 : n0 ≤ maxLen := by unfold maxLen; omega
  have hm1 : n1 ≤ maxLen := by unfold maxLen; omega
  have hi0 : ¬ (1048576 : Int) < (n0 : Int) := by omega
  have hi1 : ¬ (1048576 : Int) < (n1 : Int) := by omega
  go_enter Try.func3, Try.ntmps3
  go_wp2_with fail
  refine (drawNf_any _ _ _ y0 _ hm0 hc0 hr0).mono ?_
  rintro e w1 ⟨At, k, capt, c, l, bd, rfl, hk, hrt, hb⟩
  have HB1 := Lib.hid hb
  have Ht_1 := Lib.hid hrt
  have hkB : k ≤ 1048576 := by omega
  clear hrt
  clear hb
  go_wp2_with fail
  refine (drawEval_any _ _ _ y1 _ hm1 hc1 (hr1.later HB1.out)).mono ?_
  rintro e w2 ⟨Ad, k2, capd, bd2, c2, l2, Av, kv, capv, v, rfl, hk2, hkv, hrd, hrv, hb⟩
  have HB2 := Lib.hid (bl_trans HB1.out hb)
  have Ht_2 := Lib.hid (Ht_1.out.later hb)
  have Hv_2 := Lib.hid hrv
  clear hrd hrv
  clear hb HB1 Ht_1
  obtain ⟨N, C, L, BD, OK, hN, hI, hS, hK⟩ := normFacts k c l bd hkB
  have HI := Lib.hid hI
  have HS := Lib.hid hS
  have HK := Lib.hid hK
  have HSame := Lib.hid (same_refl' N C L BD)
  clear hI hS hK
  go_wp2_with fail
  have HAl := Lib.hid (bl_alloc (Below.refl w2.heap.size w2) (.cells #[.slice Ad k2 capd, .int .i64 bd2] 27))
  have u0 : (w2.alloc (.cells #[.slice Ad k2 capd, .int .i64 bd2] 27)).cell? ⟨w2.heap.size, 0, none⟩ = some (.slice Ad k2 capd) := by go_simp
  have u1 : (w2.alloc (.cells #[.slice Ad k2 capd, .int .i64 bd2] 27)).cell? ⟨w2.heap.size, 1, none⟩ = some (.int .i64 bd2) := by go_simp
  refine (HI.out _ _ _ (Ht_2.out.later HAl.out)).mono ?_
  rintro e w3 ⟨Ax, capx, rfl, hfx, hb1⟩
  have hb := bl_trans HAl.out hb1
  have HB3 := Lib.hid (bl_trans HB2.out hb)
  have Ht_3 := Lib.hid (Ht_2.out.later hb)
  have Hv_3 := Lib.hid (Hv_2.out.later hb)
  have Hx_3 := Lib.hid hfx.rdAt
  replace u0 := kc hb1 u0
  replace u1 := kc hb1 u1
  have zu : w2.heap.size < w3.heap.size := World.block_lt_of_cell? w3 ⟨w2.heap.size, 0, none⟩ u0
  clear hfx
  clear hb hb1 HB2 Ht_2 Hv_2 HAl
  clear u0 u1 zu
  go_wp2_with fail
  have HAl := Lib.hid (bl_alloc (Below.refl w3.heap.size w3) (.cells #[.slice Ax N capx, .int .i64 BD] 27))
  have b0 : (w3.alloc (.cells #[.slice Ax N capx, .int .i64 BD] 27)).cell? ⟨w3.heap.size, 0, none⟩ = some (.slice Ax N capx) := by go_simp
  have b1 : (w3.alloc (.cells #[.slice Ax N capx, .int .i64 BD] 27)).cell? ⟨w3.heap.size, 1, none⟩ = some (.int .i64 BD) := by go_simp
  refine (HS.out _ _ _ (Ht_3.out.later HAl.out)).mono ?_
  rintro e w4 ⟨As, caps, rfl, hfs, hb1⟩
  have hb := bl_trans HAl.out hb1
  have HB4 := Lib.hid (bl_trans HB3.out hb)
  have Ht_4 := Lib.hid (Ht_3.out.later hb)
  have Hv_4 := Lib.hid (Hv_3.out.later hb)
  have Hx_4 := Lib.hid (Hx_3.out.later hb)
  have Hs_4 := Lib.hid hfs.rdAt
  replace b0 := kc hb1 b0
  replace b1 := kc hb1 b1
  have zb : w3.heap.size < w4.heap.size := World.block_lt_of_cell? w4 ⟨w3.heap.size, 0, none⟩ b0
  clear hfs HI HS
  clear hb hb1 HB3 Ht_3 Hv_3 Hx_3 HAl
  cases OK with
  | false =>
    clear HK
    clear Ht_4 Hv_4
    go_wp2_with fail
    have HAl := Lib.hid (bl_alloc (Below.refl w4.heap.size w4) (.cells #[.slice As N caps, .int .i64 BD] 27))
    have d0 : (w4.alloc (.cells #[.slice As N caps, .int .i64 BD] 27)).cell? ⟨w4.heap.size, 0, none⟩ = some (.slice As N caps) := by go_simp
    have d1 : (w4.alloc (.cells #[.slice As N caps, .int .i64 BD] 27)).cell? ⟨w4.heap.size, 1, none⟩ = some (.int .i64 BD) := by go_simp
    replace b0 := kc HAl.out b0
    replace b1 := kc HAl.out b1
    refine (implSame_any _ _ _ _ _ _ _ _ C L C L _ hN (Hx_4.out.later HAl.out) (Hs_4.out.later HAl.out)).mono ?_
    rintro e w5 ⟨rfl, hb1⟩
    have hb := bl_trans HAl.out hb1
    have HB5 := Lib.hid (bl_trans HB4.out hb)
    have Hx_5 := Lib.hid (Hx_4.out.later hb)
    have Hs_5 := Lib.hid (Hs_4.out.later hb)
    replace b0 := kc hb1 b0
    replace b1 := kc hb1 b1
    replace d0 := kc hb1 d0
    replace d1 := kc hb1 d1
    clear zb
    have zb : w3.heap.size < w5.heap.size := World.block_lt_of_cell? w5 ⟨w3.heap.size, 0, none⟩ b0
    have zd : w4.heap.size < w5.heap.size := World.block_lt_of_cell? w5 ⟨w4.heap.size, 0, none⟩ d0
    clear hb hb1 HB4 Hx_4 Hs_4 HAl
    rw [HSame.out]
    go_wp2_with fail
    refine (implSame_any _ _ _ _ _ _ _ _ C L C L _ hN Hx_5.out Hs_5.out).mono ?_
    rintro e w6 ⟨rfl, hb⟩
    have HB6 := Lib.hid (bl_trans HB5.out hb)
    replace b0 := kc hb b0
    replace b1 := kc hb b1
    replace d0 := kc hb d0
    replace d1 := kc hb d1
    clear zb zd
    have zb : w3.heap.size < w6.heap.size := World.block_lt_of_cell? w6 ⟨w3.heap.size, 0, none⟩ b0
    have zd : w4.heap.size < w6.heap.size := World.block_lt_of_cell? w6 ⟨w4.heap.size, 0, none⟩ d0
    clear hb HB5 Hx_5 Hs_5
    rw [HSame.out]
    go_wp2
    go_ret
    exact ⟨rfl, HB6.out⟩
  | true =>
    obtain ⟨hA, hk40, hV, hE⟩ := HK.out rfl
    have HA := Lib.hid hA
    have HV := Lib.hid hV
    have HE := Lib.hid (hE v)
    clear hA hV hE HK
    go_wp2_with fail
    have HAl := Lib.hid (bl_alloc (Below.refl w4.heap.size w4) (.cells #[.slice As N caps, .int .i64 BD] 27))
    have d0 : (w4.alloc (.cells #[.slice As N caps, .int .i64 BD] 27)).cell? ⟨w4.heap.size, 0, none⟩ = some (.slice As N caps) := by go_simp
    have d1 : (w4.alloc (.cells #[.slice As N caps, .int .i64 BD] 27)).cell? ⟨w4.heap.size, 1, none⟩ = some (.int .i64 BD) := by go_simp
    replace b0 := kc HAl.out b0
    replace b1 := kc HAl.out b1
    refine (implSame_any _ _ _ _ _ _ _ _ C L C L _ hN (Hx_4.out.later HAl.out) (Hs_4.out.later HAl.out)).mono ?_
    rintro e w5 ⟨rfl, hb1⟩
    have hb := bl_trans HAl.out hb1
    have HB5 := Lib.hid (bl_trans HB4.out hb)
    have Ht_5 := Lib.hid (Ht_4.out.later hb)
    have Hv_5 := Lib.hid (Hv_4.out.later hb)
    have Hx_5 := Lib.hid (Hx_4.out.later hb)
    have Hs_5 := Lib.hid (Hs_4.out.later hb)
    replace b0 := kc hb1 b0
    replace b1 := kc hb1 b1
    replace d0 := kc hb1 d0
    replace d1 := kc hb1 d1
    clear zb
    have zb : w3.heap.size < w5.heap.size := World.block_lt_of_cell? w5 ⟨w3.heap.size, 0, none⟩ b0
    have zd : w4.heap.size < w5.heap.size := World.block_lt_of_cell? w5 ⟨w4.heap.size, 0, none⟩ d0
    clear hb hb1 HB4 Ht_4 Hv_4 Hx_4 Hs_4 HAl
    rw [HSame.out]
    by_cases h12 : kv = 12
    · subst h12
      clear Hs_5
      clear d0 d1 zd
      have hkI : (k : Int) ≤ 8 := by omega
      go_wp2
      go_loopw [13, 14] (fun t i wr => ∃ j : Nat, j ≤ k ∧ i = .int .i64 j ∧ t = .int .i64 (sB c l (trueP v) j) ∧ Below w5.heap.size w5 wr) (fun _ i _ => k - (intOf i).toNat)
      case atStart => exact ⟨0, Nat.zero_le _, rfl, rfl, Below.refl _ _⟩
      case round =>
        obtain ⟨j, hj, rfl, rfl, hb⟩ := hrel
        have Hb := Lib.hid hb
        by_cases hlt : j < k
        · obtain ⟨bt, offt, rfl, hbt, hct⟩ := (Ht_5.out.later hb) (by omega)
          obtain ⟨hc1, hc2⟩ := hct j hlt
          obtain ⟨bv, offv, rfl, hbv, hcv⟩ := (Hv_5.out.later hb) (by omega)
          have hok := okN_iff.1 (allN_at HA.out hlt)
          obtain ⟨hl0, hl1, hl2⟩ := litB_iff.1 hok.1
          have HL := Lib.hid hok.1
          have hsb := sB_in (P := trueP v) HA.out j (by omega)
          have hj0 : (0 : Int) ≤ (j : Int) := by omega
          have hjk : (j : Int) < (k : Int) := by omega
          have hwn : wrap64 (sB c l (trueP v) j + c j) = sB c l (trueP v) j + c j := w64 (by omega)
          have hwm : IntKind.i64.wrap (sB c l (trueP v) j + c j) = sB c l (trueP v) j + c j := w64' (by omega)
          clear hct hb hsb hok Ht_5 Hv_5 Hx_5 b0 b1
          rcases (show 0 < l j ∨ l j < 0 by omega) with hp | hp
          · obtain ⟨ix, hix, hlit, htp, hw1, hw2, hx0, hx1⟩ := lit_pos v HL.out hp
            have hcv1 := hcv ix hix
            rw [hlit] at hc2
            clear hcv hlit hl0 hl1 hl2 HL hp
            cases hvv : v ix with
            | false =>
              rw [hvv] at hcv1 htp
              have Hs := Lib.hid (sB_no (c := c) htp)
              clear hvv htp
              go_wp2
              go_roundw
              case rel => exact ⟨j + 1, by omega, by go_num, by rw [Hs.out], Hb.out⟩
              case measure => simp [intOf]; omega
            | true =>
              rw [hvv] at hcv1 htp
              have Hs := Lib.hid (sB_yes (c := c) htp)
              clear hvv htp
              go_wp2
              go_roundw
              case rel => exact ⟨j + 1, by omega, by go_num, by rw [Hs.out], Hb.out⟩
              case measure => simp [intOf]; omega
          · obtain ⟨ix, hix, hlit, htp, hw3, hw4, hw1, hw2, hx0, hx1⟩ := lit_neg v HL.out hp
            have hcv1 := hcv ix hix
            have hnp : ¬ 0 < l j := by omega
            clear hcv hlit hl0 hl1 hl2 HL
            cases hvv : v ix with
            | false =>
              rw [hvv] at hcv1 htp
              have Hs := Lib.hid (sB_yes (c := c) htp)
              clear hvv htp
              go_wp2
              go_roundw
              case rel => exact ⟨j + 1, by omega, by go_num, by rw [Hs.out], Hb.out⟩
              case measure => simp [intOf]; omega
            | true =>
              rw [hvv] at hcv1 htp
              have Hs := Lib.hid (sB_no (c := c) htp)
              clear hvv htp
              go_wp2
              go_roundw
              case rel => exact ⟨j + 1, by omega, by go_num, by rw [Hs.out], Hb.out⟩
              case measure => simp [intOf]; omega
        · have e : j = k := by omega
          subst e
          have HBr := Lib.hid (bl_trans HB5.out hb)
          have Hx_r := Lib.hid (Hx_5.out.later hb)
          have Hv_r := Lib.hid (Hv_5.out.later hb)
          replace b0 := kc hb b0
          replace b1 := kc hb b1
          clear hb Hb hlt HB5 Ht_5 Hv_5 Hx_5
          go_wp2_with fail
          refine (implValid_any _ _ _ _ C L _ hN Hx_r.out).mono ?_
          rintro e w6 ⟨rfl, hb⟩
          have HB6 := Lib.hid (bl_trans HBr.out hb)
          have Hx_6 := Lib.hid (Hx_r.out.later hb)
          have Hv_6 := Lib.hid (Hv_r.out.later hb)
          replace b0 := kc hb b0
          replace b1 := kc hb b1
          clear zb
          have zb : w3.heap.size < w6.heap.size := World.block_lt_of_cell? w6 ⟨w3.heap.size, 0, none⟩ b0
          clear hb HBr Hx_r Hv_r
          rw [HV.out]
          go_wp2_with fail
          refine (implEval_any _ _ _ _ _ _ _ C L v _ hN Hx_6.out Hv_6.out).mono ?_
          rintro e w7 ⟨rfl, hb⟩
          have HB7 := Lib.hid (bl_trans HB6.out hb)
          have Hx_7 := Lib.hid (Hx_6.out.later hb)
          have Hv_7 := Lib.hid (Hv_6.out.later hb)
          replace b0 := kc hb b0
          replace b1 := kc hb b1
          clear zb
          have zb : w3.heap.size < w7.heap.size := World.block_lt_of_cell? w7 ⟨w3.heap.size, 0, none⟩ b0
          clear hb HB6 Hx_6 Hv_6
          rw [HE.out]
          go_wp2
          go_ret
          exact ⟨rfl, HB7.out⟩
    · have hnd : ((kv : Int) != 12) = true := by rw [bne_iff_ne]; omega
      clear h12 HE HV HA
      clear Ht_5 Hv_5
      go_wp2_with fail
      refine (implSame_any _ _ _ _ _ _ _ _ C L C L _ hN Hx_5.out Hs_5.out).mono ?_
      rintro e w6 ⟨rfl, hb⟩
      have HB6 := Lib.hid (bl_trans HB5.out hb)
      replace b0 := kc hb b0
      replace b1 := kc hb b1
      replace d0 := kc hb d0
      replace d1 := kc hb d1
      clear zb zd
      have zb : w3.heap.size < w6.heap.size := World.block_lt_of_cell? w6 ⟨w3.heap.size, 0, none⟩ b0
      have zd : w4.heap.size < w6.heap.size := World.block_lt_of_cell? w6 ⟨w4.heap.size, 0, none⟩ d0
      clear hb HB5 Hx_5 Hs_5
      rw [HSame.out]
      go_wp2
      go_ret
      exact ⟨rfl, HB6.out⟩

set_option linter.unusedVariables false in
set_option maxRecDepth 100000 in
set_option maxHeartbeats 1600000 in
theorem lawFnNormalForm_walk (A0 : Option Addr) (n0 cap0 : Nat) (y0 : Nat → Int) (A1 : Option Addr) (n1 cap1 : Nat) (y1 : Nat → Int) (w : World) (hm0 : n0 ≤ maxLen) (hc0 : n0 ≤ cap0) (hr0 : RdY w w.heap.size A0 n0 y0) (hm1 : n1 ≤ maxLen) (hc1 : n1 ≤ cap1) (hr1 : RdY w w.heap.size A1 n1 y1) :
    Calls Try.prog 3 #[.slice A0 n0 cap0, .slice A1 n1 cap1] w fun e w' => e = .returned (.bool true) ∧ Below w.heap.size w w' := by
  by_cases h0 : n0 ≤ 1048576
  · by_cases h1 : n1 ≤ 1048576
    · exact lawFnNormalForm_ok A0 A1 n0 cap0 n1 cap1 y0 y1 w h0 h1 hc0 hr0 hc1 hr1
    · unfold maxLen at hm1
      have hi0 : ¬ (1048576 : Int) < (n0 : Int) := by omega
      have hi1 : (1048576 : Int) < (n1 : Int) := by omega
      go_enter Try.func3, Try.ntmps3
      go_wp2
      go_ret
      exact ⟨rfl, Below.refl _ _⟩
  · unfold maxLen at hm0
    have hi0 : (1048576 : Int) < (n0 : Int) := by omega
    go_enter Try.func3, Try.ntmps3
    go_wp2
    go_ret
    exact ⟨rfl, Below.refl _ _⟩
end Go.Proofs.Ytipblbcedkhmbaa

