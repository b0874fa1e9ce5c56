/- Partial assignments and the sums under them: plain facts (no claim of its own). Conditions: as each theorem states. · Contracts of the model's and the program's EvalConstraint, whole (no claim of its own). Conditions: as each theorem states. · The contract of the model's EvalConstraint, whole (no claim of its own). Conditions: as each theorem states. · Arithmetic of the laws of multiplication, division and saturation (no claim of its own). Conditions: as each theorem states. · The sum of two constraints, off the pairs and off the variables (no claim of its own). Conditions: as each theorem states. · The sum of two constraints, all variables (no claim of its own). Conditions: as each theorem states. · What a normal form says of values (no claim of its own). Conditions: as each theorem states. · What the law of addition needs of the sum (no claim of its own). Conditions: as each theorem states. · What the law of literal axioms needs (no claim of its own). Conditions: as each theorem states. · The walk of the law FnLiteralAxiom (no claim of its own). Conditions: as each theorem states. -/
import Derived.Test.YtipblbcedkhmbaaComA
import Derived.Test.YtipblbcedkhmbaaIntA
import Derived.Test.YtipblbcedkhmbaaSumD
import Derived.Test.YtipblbcedkhmbaaEvaA
import Derived.Test.YtipblbcedkhmbaaSmeA
import Derived.Test.YtipblbcedkhmbaaScaA
import Derived.Test.YtipblbcedkhmbaaAddC
import Derived.Test.YtipblbcedkhmbaaLicA
import Derived.Test.YtipblbcedkhmbaaDrwZ
import Derived.Test.YtipblbcedkhmbaaDrwX
namespace Go.Proofs.Ytipblbcedkhmbaa
open Go.ChangeShapes Go.WideShapes Go.ChangeAt Go.RowKit Go.Shelf

/-- The first k values are -1, 0 or 1. -/
def pvT (v : Nat → Int) : Nat → Bool
  | 0 => true
  | k + 1 => pvT v k && (decide (-1 ≤ v k) && decide (v k ≤ 1))
/-- Whether values are a partial assignment. -/
def pvB (n : Nat) (v : Nat → Int) : Bool := pvT v n && n == 12
theorem pvT_at {v : Nat → Int} {n k : Nat} (h : pvT v n = true) (hk : k < n) : -1 ≤ v k ∧ v k ≤ 1 := by
  induction n with
  | zero => omega
  | succ n ih =>
    unfold pvT at h
    simp only [Bool.and_eq_true, decide_eq_true_eq] at h
    by_cases e : k = n
    · subst e; exact h.2
    · exact ih h.1 (by omega)
theorem pvT_iff {v : Nat → Int} {n : Nat} : pvT v n = true ↔ ∀ i, i < n → -1 ≤ v i ∧ v i ≤ 1 := by
  constructor
  · exact fun h i hi => pvT_at h hi
  · intro h
    induction n with
    | zero => rfl
    | succ n ih =>
      unfold pvT
      rw [ih (fun i hi => h i (by omega))]
      have := h n (by omega)
      simp [this]
theorem pvB_iff {v : Nat → Int} {n : Nat} : pvB n v = true ↔ n = 12 ∧ ∀ i, i < 12 → -1 ≤ v i ∧ v i ≤ 1 := by
  unfold pvB
  rw [Bool.and_eq_true, pvT_iff, beq_iff_eq]
  constructor
  · rintro ⟨h, rfl⟩; exact ⟨rfl, h⟩
  · rintro ⟨rfl, h⟩; exact ⟨h, rfl⟩
theorem pvB_no {v : Nat → Int} {n k : Nat} (hk : k < n) (h : v k < -1 ∨ 1 < v k) : pvB n v = false := by
  cases hb : pvB n v with
  | false => rfl
  | true =>
    obtain ⟨rfl, h1⟩ := pvB_iff.1 hb
    have := h1 k hk
    omega

/-- What a literal is under a partial assignment: 1, -1 or 0. -/
def stV (v : Nat → Int) (l : Int) : Int := if 0 < l then v (l - 1).toNat else -(v (-l - 1).toNat)
theorem stV_bd {v : Nat → Int} {l : Int} (hl : litB l = true) (h : ∀ i, i < 12 → -1 ≤ v i ∧ v i ≤ 1) : -1 ≤ stV v l ∧ stV v l ≤ 1 := by
  obtain ⟨h0, h1, h2⟩ := litB_iff.1 hl
  unfold stV
  split
  · exact h _ (by omega)
  · have := h (-l - 1).toNat (by omega)
    omega
/-- A literal that is not false. -/
def nfP (v : Nat → Int) (l : Int) : Bool := decide (0 ≤ stV v l)

/-- The sum of the coefficients of those of the first k terms whose literals are chosen. -/
def sB (c l : Nat → Int) (P : Int → Bool) : Nat → Int
  | 0 => 0
  | k + 1 => if P (l k) then sB c l P k + c k else sB c l P k
section
variable {c l : Nat → Int} {P : Int → Bool} {k n : Nat} {bd : Int}
theorem sB_yes (h : P (l k) = true) : sB c l P (k + 1) = sB c l P k + c k := by show (if P (l k) then _ else _) = _; rw [if_pos h]
theorem sB_no (h : P (l k) = false) : sB c l P (k + 1) = sB c l P k := by show (if P (l k) then _ else _) = _; rw [if_neg (by rw [h]; decide)]
theorem sB_le (h : ∀ i, i < k → 1 ≤ c i ∧ c i ≤ 1000) : 0 ≤ sB c l P k ∧ sB c l P k ≤ 1000 * (k : Int) := by
  induction k with
  | zero => simp [sB]
  | succ k ih =>
    have h1 := ih (fun i hi => h i (by omega))
    have h2 := h k (by omega)
    unfold sB
    split <;> omega
theorem sumW_sB (hk : k ≤ 1048576) (h : ∀ i, i < k → 1 ≤ c i ∧ c i ≤ 1000) : sumW (sel c l P k) = sB c l P k := by
  induction k with
  | zero => rfl
  | succ k ih =>
    have h1 := ih (by omega) (fun i hi => h i (by omega))
    have h2 := sB_le (l := l) (P := P) (fun i hi => h i (by omega : i < k + 1)) (k := k)
    have h3 := h k (by omega)
    cases hp : P (l k) with
    | true =>
      rw [sel_yes hp, sumW_snoc, h1, sB_yes hp, ← IntWalk.i64_left]
      exact IntWalk.i64_in _ (by omega)
    | false => rw [sel_no hp, h1, sB_no hp]
theorem coef_of (h : validB n c l bd = true) : ∀ i, i < n → 1 ≤ c i ∧ c i ≤ 1000 := fun i hi => by
  unfold validB at h
  rw [Bool.and_eq_true] at h
  exact okAt_coef (vtB_at h.1 hi)
theorem bound_of (h : validB n c l bd = true) : 0 ≤ bd ∧ bd ≤ 20000 := by
  unfold validB at h
  simp only [Bool.and_eq_true, decide_eq_true_eq] at h
  exact h.2
end

/-- The slack of a constraint under a partial assignment. -/
def slk (n : Nat) (c l : Nat → Int) (bd : Int) (v : Nat → Int) : Int := sB c l (nfP v) n - bd
/-- Whether there is one. -/
def slkOk (n : Nat) (c l : Nat → Int) (bd : Int) (nv : Nat) (v : Nat → Int) : Bool := validB n c l bd && pvB nv v
/-- What SlackOf answers. -/
def slkV (n : Nat) (c l : Nat → Int) (bd : Int) (nv : Nat) (v : Nat → Int) : Int := if slkOk n c l bd nv v then slk n c l bd v else 0
theorem slk_bd {n : Nat} {c l : Nat → Int} {bd : Int} {v : Nat → Int} (h : validB n c l bd = true) : -20000 ≤ slk n c l bd v ∧ slk n c l bd v ≤ 1000 * (n : Int) := by
  have h1 := sB_le (l := l) (P := nfP v) (coef_of h)
  have h2 := bound_of h
  unfold slk
  omega
end Go.Proofs.Ytipblbcedkhmbaa

namespace Go.Proofs.Ytipblbcedkhmbaa
open Go.ChangeShapes Go.WideShapes Go.ChangeAt Go.RowKit Go.Shelf

/-- What EvalConstraint answers. -/
def evalV (n : Nat) (c l : Nat → Int) (bd : Int) (nv : Nat) (v : Nat → Bool) : Bool := validB n c l bd && (nv == 12 && decide (bd ≤ evW c l v n))
theorem evalV_inv {n : Nat} {c l : Nat → Int} {bd : Int} {nv : Nat} {v : Nat → Bool} (h : validB n c l bd = false) : evalV n c l bd nv v = false := by simp [evalV, h]
theorem evalV_len {n : Nat} {c l : Nat → Int} {bd : Int} {nv : Nat} {v : Nat → Bool} (h : nv ≠ 12) : evalV n c l bd nv v = false := by simp [evalV, h]
theorem evalV_yes {n : Nat} {c l : Nat → Int} {bd : Int} {v : Nat → Bool} (h : validB n c l bd = true) : evalV n c l bd 12 v = decide (bd ≤ evW c l v n) := by simp [evalV, h]

set_option maxRecDepth 100000 in
set_option maxHeartbeats 1000000 in
theorem implEval_any (A Av : Option Addr) (n cap nv capv : Nat) (bd : Int) (c l : Nat → Int) (v : Nat → Bool) (w : World) (hn : n ≤ 1048576) (hr : Rd w w.heap.size A n c l) (hrv : RdB w w.heap.size Av nv v) :
    Calls Try.prog 22 #[.agg #[.slice A n cap, .int .i64 bd], .slice Av nv capv] w fun e w' => e = .returned (.bool (evalV n c l bd nv v)) ∧ Below w.heap.size w w' := by
  cases hv : validB n c l bd with
  | false =>
    have Hfin := Lib.hid (evalV_inv (nv := nv) (v := v) hv)
    have Hv := Lib.hid hv
    clear hv
    go_enter Try.func22, Try.ntmps22
    go_wp2_with fail
    refine (implValid_any _ _ _ _ c l _ hn (hr.later (bl_alloc (bl_alloc (Below.refl _ _) _) _))).mono ?_
    rintro e w1 ⟨rfl, hb⟩
    have HB1 := Lib.hid (bl_trans (bl_alloc (bl_alloc (Below.refl w.heap.size w) _) _) hb)
    clear hb
    rw [Hv.out]
    go_wp2
    go_ret
    exact ⟨ret_bool Hfin.out.symm, HB1.out⟩
  | true =>
    by_cases hnv : nv = 12
    · subst hnv
      have Hfin := Lib.hid (evalV_yes (v := v) hv)
      have Hv := Lib.hid hv
      clear hv
      go_enter Try.func22, Try.ntmps22
      go_wp2_with fail
      refine (implValid_any _ _ _ _ c l _ hn (hr.later (bl_alloc (bl_alloc (Below.refl _ _) _) _))).mono ?_
      rintro e w1 ⟨rfl, hb⟩
      have HB1 := Lib.hid (bl_trans (bl_alloc (bl_alloc (Below.refl w.heap.size w) _) _) hb)
      have a0 : w1.cell? ⟨w.heap.size, 0, none⟩ = some (.slice A n cap) := kc hb (by go_simp)
      have a1 : w1.cell? ⟨w.heap.size, 1, none⟩ = some (.int .i64 bd) := kc hb (by go_simp)
      have b0 : w1.cell? ⟨w.heap.size + 1, 0, none⟩ = some (.slice Av 12 capv) := kc hb (by go_simp)
      clear hb
      rw [Hv.out]
      go_wp2_with fail
      go_region_held3 (fun w' => w'.cell? ⟨w.heap.size, 0, none⟩ = some (.slice A n cap) ∧ w'.cell? ⟨w.heap.size, 1, none⟩ = some (.int .i64 bd)) (go_keep)
        (first
          | (go_at_call 71; refine (coefsWhere_any _ _ _ _ _ _).mono ?_; rintro e w2 ⟨rfl, t0, t1, hsz, hb⟩; have HB2 := Lib.hid (bl_trans HB1.out.drew hb); replace a0 := kc hb a0; replace a1 := kc hb a1; replace b0 := kc hb b0; clear hb)
          | (go_at_call 70; refine (sumHolds_any _ (w.heap.size + 1) _ _ _ _ _ c l bd v hn _ Hv.out hsz t0 t1 (hr.later HB2.out) b0 (hrv.later HB2.out)).mono ?_; rintro e w3 ⟨rfl, hb⟩; have HB3 := Lib.hid (bl_trans HB2.out hb); replace a0 := kc hb a0; replace a1 := kc hb a1; replace b0 := kc hb b0; clear hb))
      go_wp2
      go_ret
      exact ⟨ret_bool Hfin.out.symm, HB3.out⟩
    · have Hfin := Lib.hid (evalV_len (n := n) (c := c) (l := l) (bd := bd) (v := v) hnv)
      have Hv := Lib.hid hv
      have hd : ((nv : Int) != 12) = true := by rw [bne_iff_ne]; omega
      clear hv hnv
      go_enter Try.func22, Try.ntmps22
      go_wp2_with fail
      refine (implValid_any _ _ _ _ c l _ hn (hr.later (bl_alloc (bl_alloc (Below.refl _ _) _) _))).mono ?_
      rintro e w1 ⟨rfl, hb⟩
      have HB1 := Lib.hid (bl_trans (bl_alloc (bl_alloc (Below.refl w.heap.size w) _) _) hb)
      have b0 : w1.cell? ⟨w.heap.size + 1, 0, none⟩ = some (.slice Av nv capv) := kc hb (by go_simp)
      clear hb
      rw [Hv.out]
      go_wp2
      go_ret
      exact ⟨ret_bool Hfin.out.symm, HB1.out⟩
end Go.Proofs.Ytipblbcedkhmbaa

namespace Go.Proofs.Ytipblbcedkhmbaa
open Go.ChangeShapes Go.WideShapes Go.ChangeAt Go.RowKit Go.Shelf

end Go.Proofs.Ytipblbcedkhmbaa

namespace Go.Proofs.Ytipblbcedkhmbaa
open Go.ChangeShapes Go.WideShapes Go.ChangeAt Go.RowKit

theorem tseq_of {n : Nat} {c l c' l' : Nat → Int} (h : ∀ i, i < n → c i = c' i ∧ l i = l' i) : tseq c l c' l' n = true := by
  induction n with
  | zero => rfl
  | succ n ih =>
    unfold tseq
    obtain ⟨h1, h2⟩ := h n (by omega)
    rw [ih fun i hi => h i (by omega), h1, h2]
    simp [teq]
theorem same_of {n : Nat} {c l c' l' : Nat → Int} {bd bd' : Int} (h : ∀ i, i < n → c i = c' i ∧ l i = l' i) (hb : bd = bd') : same n n c l c' l' bd bd' = true := by
  unfold same
  rw [tseq_of h, hb]
  simp
theorem same_refl' (n : Nat) (c l : Nat → Int) (bd : Int) : same n n c l c l bd bd = true := same_of (fun _ _ => ⟨rfl, rfl⟩) rfl
theorem Frs.to {w : World} {B : Nat} {A : Option Addr} {n : Nat} {c l c' l' : Nat → Int} (h : Frs w B A n c l) (he : ∀ i, i < n → c i = c' i ∧ l i = l' i) : Frs w B A n c' l' := by
  rcases h with h | ⟨G, e, hG, cs, hh, h1, h2⟩
  · exact .inl h
  · refine .inr ⟨G, e, hG, cs, hh, h1, fun i hi => ?_⟩
    obtain ⟨x, y⟩ := h2 i hi
    obtain ⟨e1, e2⟩ := he i hi
    rw [← e1, ← e2]
    exact ⟨x, y⟩
theorem CRes.to {w : World} {n n' : Nat} {c l c' l' : Nat → Int} {bd bd' : Int} {ok ok' : Bool} {e : Ending} {w' : World} (h : CRes w n c l bd ok e w') (hn : n = n') (he : ∀ i, i < n → c i = c' i ∧ l i = l' i) (hb : bd = bd') (hk : ok = ok') : CRes w n' c' l' bd' ok' e w' := by
  subst hn hb hk
  obtain ⟨A, cap, h1, h2, h3⟩ := h
  exact ⟨A, cap, h1, h2.to he, h3⟩

theorem wr64 {x : Int} (h : -9000000000 ≤ x ∧ x ≤ 9000000000) : wrap64 x = x := by rw [← IntWalk.i64_left]; exact IntWalk.i64_in _ (by omega)
theorem mulK_val {x k : Int} (h0 : 0 ≤ x) (h1 : x ≤ 20000) (h2 : 1 ≤ k) (h3 : k ≤ 1000) : mulK x k = x * k ∧ x ≤ x * k := by
  have a : 0 ≤ x * k := Int.mul_nonneg h0 (by omega)
  have b : x * k ≤ 20000 * 1000 := Int.mul_le_mul h1 h3 (by omega) (by omega)
  have d : x * 1 ≤ x * k := Int.mul_le_mul_of_nonneg_left h2 h0
  exact ⟨wr64 (by omega), by omega⟩
theorem divK_le_iff {x k q : Int} (hk : 1 ≤ k) : divK x k ≤ q ↔ x ≤ q * k := by
  unfold divK
  have : (x + k - 1) / k < q + 1 ↔ x + k - 1 < (q + 1) * k := Int.ediv_lt_iff_lt_mul (by omega)
  have e : (q + 1) * k = q * k + k := by rw [Int.add_mul, Int.one_mul]
  rw [e] at this
  omega
theorem divK_mul {x k : Int} (hk : 1 ≤ k) : divK (x * k) k = x := by
  have h1 := (divK_le_iff (x := x * k) (q := x) hk).2 (Int.le_refl _)
  have h2 : ¬ divK (x * k) k ≤ x - 1 := fun h => by
    have := (divK_le_iff hk).1 h
    rw [Int.sub_mul] at this
    omega
  omega
theorem divK_divK {x k n : Int} (hk : 1 ≤ k) (hn : 1 ≤ n) : divK (divK x k) n = divK x (k * n) := by
  have hkn : 1 ≤ k * n := by have := Int.mul_le_mul hk hn (by omega) (by omega); omega
  have h : ∀ q, divK (divK x k) n ≤ q ↔ divK x (k * n) ≤ q := fun q => by
    rw [divK_le_iff hn, divK_le_iff hk, divK_le_iff hkn, Int.mul_assoc, Int.mul_comm n k]
  have h1 := (h (divK x (k * n))).2 (Int.le_refl _)
  have h2 := (h (divK (divK x k) n)).1 (Int.le_refl _)
  omega
theorem divK_ge {x k : Int} (hk : 1 ≤ k) : x ≤ divK x k * k := (divK_le_iff hk).1 (Int.le_refl _)
theorem divK_in {x k b : Int} (h0 : 0 ≤ x) (h1 : x ≤ b) (hk : 1 ≤ k) : 0 ≤ divK x k ∧ divK x k ≤ b ∧ (1 ≤ x → 1 ≤ divK x k) := by
  have hb : b * 1 ≤ b * k := Int.mul_le_mul_of_nonneg_left hk (by omega)
  refine ⟨?_, (divK_le_iff hk).2 (by omega), fun hx => ?_⟩
  · have : ¬ divK x k ≤ -1 := fun h => by have := (divK_le_iff hk).1 h; omega
    omega
  · have : ¬ divK x k ≤ 0 := fun h => by have := (divK_le_iff hk).1 h; omega
    omega

/-- What a law over a drawn constraint, one rule and values needs of the rule's answer. -/
theorem infB_iff {R : Bool} {n : Nat} {c l : Nat → Int} {bd : Int} : infB R n c l bd = true ↔ R = true ∧ validB n c l bd = true := by simp [infB]
theorem inf_of {R : Bool} {n : Nat} {c l : Nat → Int} {bd : Int} (h : infB R n c l bd = true) : infN R n c l bd = n ∧ infD R n c l bd = bd := by
  unfold infN infD
  rw [h]
  exact ⟨rfl, rfl⟩

theorem evalV_sB {n : Nat} {c l : Nat → Int} {bd : Int} {v : Nat → Bool} (hn : n ≤ 1048576) (h : validB n c l bd = true) : evalV n c l bd 12 v = decide (bd ≤ sB c l (trueP v) n) := by
  rw [evalV_yes h]
  unfold evW
  rw [sumW_sB hn (coef_of h)]
theorem sB_mul {n : Nat} {c l : Nat → Int} {k : Int} {P : Int → Bool} (hc : ∀ i, i < n → 1 ≤ c i ∧ c i ≤ 1000) (h2 : 1 ≤ k) (h3 : k ≤ 1000) : sB (fun i => mulK (c i) k) l P n = sB c l P n * k := by
  induction n with
  | zero => simp [sB]
  | succ n ih =>
    have h1 := ih fun i hi => hc i (by omega)
    have hn := hc n (by omega)
    cases hp : P (l n) with
    | true =>
      rw [sB_yes (c := c) hp, sB_yes (c := fun i => mulK (c i) k) hp, h1]
      show _ + mulK (c n) k = _
      rw [(mulK_val (by omega) (by omega) h2 h3).1, Int.add_mul]
    | false => rw [sB_no (c := c) hp, sB_no (c := fun i => mulK (c i) k) hp, h1]
theorem sB_div {n : Nat} {c l : Nat → Int} {k : Int} {P : Int → Bool} (h2 : 1 ≤ k) : sB c l P n ≤ sB (fun i => divK (c i) k) l P n * k := by
  induction n with
  | zero => simp [sB]
  | succ n ih =>
    cases hp : P (l n) with
    | true =>
      rw [sB_yes (c := c) hp, sB_yes (c := fun i => divK (c i) k) hp, Int.add_mul]
      have := divK_ge (x := c n) h2
      show _ + _ ≤ _ + divK (c n) k * k
      omega
    | false => rw [sB_no (c := c) hp, sB_no (c := fun i => divK (c i) k) hp]; exact ih

/-- Multiplication is an equivalence, and division takes it back. -/
theorem mul_law {n : Nat} {c l : Nat → Int} {bd k : Int} (hn : n ≤ 1048576) (h : infB (scaR n c l bd k) n (fun i => mulK (c i) k) l (mulK bd k) = true) :
    (1 ≤ k ∧ k ≤ 1000) ∧ validB n c l bd = true ∧ validB n (fun i => mulK (c i) k) l (mulK bd k) = true ∧ (∀ i, i < n → divK (mulK (c i) k) k = c i) ∧ divK (mulK bd k) k = bd ∧ ∀ nv v, evalV n (fun i => mulK (c i) k) l (mulK bd k) nv v = evalV n c l bd nv v := by
  obtain ⟨hR, hv⟩ := infB_iff.1 h
  obtain ⟨hv0, h2, h3⟩ := scaR_iff.1 hR
  have hb := bound_of hv0
  refine ⟨⟨h2, h3⟩, hv0, hv, fun i hi => ?_, ?_, fun nv v => ?_⟩
  · have := coef_of hv0 i hi
    rw [(mulK_val (by omega) (by omega) h2 h3).1, divK_mul h2]
  · rw [(mulK_val (by omega) (by omega) h2 h3).1, divK_mul h2]
  · by_cases e : nv = 12
    · subst e
      rw [evalV_sB hn hv, evalV_sB hn hv0, sB_mul (coef_of hv0) h2 h3, (mulK_val hb.1 (by omega) h2 h3).1]
      have : bd * k ≤ sB c l (trueP v) n * k ↔ bd ≤ sB c l (trueP v) n := Int.mul_le_mul_right (by omega)
      rw [decide_eq_decide]
      exact this
    · rw [evalV_len e, evalV_len e]

theorem div_valid {n : Nat} {c l : Nat → Int} {bd k : Int} (h : validB n c l bd = true) (h2 : 1 ≤ k) : validB n (fun i => divK (c i) k) l (divK bd k) = true :=
  valid_mk h (fun i hi => by
    have hc := coef_of h i hi
    have := divK_in (x := c i) (k := k) (by omega) hc.2 h2
    exact ⟨this.2.2 hc.1, this.2.1⟩) (divK_in (bound_of h).1 (bound_of h).2 h2).1 (divK_in (bound_of h).1 (bound_of h).2 h2).2.1
theorem div_infB {n : Nat} {c l : Nat → Int} {bd k : Int} (h : validB n c l bd = true) (h2 : 1 ≤ k) (h3 : k ≤ 1000) : infB (scaR n c l bd k) n (fun i => divK (c i) k) l (divK bd k) = true :=
  infB_iff.2 ⟨scaR_iff.2 ⟨h, h2, h3⟩, div_valid h h2⟩
/-- Division is sound. -/
theorem div_law {n : Nat} {c l : Nat → Int} {bd k : Int} (hn : n ≤ 1048576) (h : infB (scaR n c l bd k) n (fun i => divK (c i) k) l (divK bd k) = true) :
    (1 ≤ k ∧ k ≤ 1000) ∧ validB n c l bd = true ∧ validB n (fun i => divK (c i) k) l (divK bd k) = true ∧ ∀ nv v, evalV n c l bd nv v = true → evalV n (fun i => divK (c i) k) l (divK bd k) nv v = true := by
  obtain ⟨hR, hv⟩ := infB_iff.1 h
  obtain ⟨hv0, h2, h3⟩ := scaR_iff.1 hR
  refine ⟨⟨h2, h3⟩, hv0, hv, fun nv v he => ?_⟩
  by_cases e : nv = 12
  · subst e
    rw [evalV_sB hn hv0, decide_eq_true_eq] at he
    rw [evalV_sB hn hv, decide_eq_true_eq, divK_le_iff h2]
    exact Int.le_trans he (sB_div h2)
  · rw [evalV_len e] at he
    cases he
/-- Divisions compose. -/
theorem div_twice {n : Nat} {c l : Nat → Int} {bd k m : Int} (h1 : 1 ≤ k) (h2 : 1 ≤ m) : same n n (fun i => divK (divK (c i) k) m) l (fun i => divK (c i) (k * m)) l (divK (divK bd k) m) (divK bd (k * m)) = true :=
  same_of (fun _ _ => ⟨divK_divK h1 h2, rfl⟩) (divK_divK h1 h2)
end Go.Proofs.Ytipblbcedkhmbaa

namespace Go.Proofs.Ytipblbcedkhmbaa
open Go.ChangeShapes Go.WideShapes Go.ChangeAt Go.RowKit

/-- The rows of k variables from u on; the bound behind them. -/
def rowsF (f : Nat → Int) : Nat → Nat → List (Int × Int)
  | _, 0 => []
  | u, k + 1 => rowAt (f u) u ++ rowsF f (u + 1) k
def bndF (f : Nat → Int) : Int → Nat → Nat → Int
  | b, _, 0 => b
  | b, u, k + 1 => bndF f (bAt b (f u)) (u + 1) k
theorem rowsF_snoc (f : Nat → Int) : ∀ (k u : Nat), rowsF f u (k + 1) = rowsF f u k ++ rowAt (f (u + k)) (u + k) := by
  intro k
  induction k with
  | zero => intro u; simp [rowsF]
  | succ k ih =>
    intro u
    show rowAt (f u) u ++ rowsF f (u + 1) (k + 1) = (rowAt (f u) u ++ rowsF f (u + 1) k) ++ _
    rw [ih (u + 1), List.append_assoc, show u + 1 + k = u + (k + 1) by omega]
theorem bndF_snoc (f : Nat → Int) : ∀ (k u : Nat) (b : Int), bndF f b u (k + 1) = bAt (bndF f b u k) (f (u + k)) := by
  intro k
  induction k with
  | zero => intro u b; rfl
  | succ k ih =>
    intro u b
    show bndF f (bAt b (f u)) (u + 1) (k + 1) = bAt (bndF f (bAt b (f u)) (u + 1) k) _
    rw [ih (u + 1), show u + 1 + k = u + (k + 1) by omega]
theorem rowsN_F (f : Nat → Int) (v : Nat) : rowsN f v = rowsF f 1 v := by
  induction v with
  | zero => rfl
  | succ v ih =>
    rw [rowsF_snoc, ← ih, show 1 + v = v + 1 by omega]
    rfl
theorem bndN_F (f : Nat → Int) (b : Int) (v : Nat) : bndN f b v = bndF f b 1 v := by
  induction v with
  | zero => rfl
  | succ v ih =>
    rw [bndF_snoc, ← ih, show 1 + v = v + 1 by omega]
    rfl
theorem rowsF_congr {f g : Nat → Int} : ∀ (k u : Nat), (∀ v, u ≤ v → f v = g v) → rowsF f u k = rowsF g u k := by
  intro k
  induction k with
  | zero => intro u _; rfl
  | succ k ih =>
    intro u h
    unfold rowsF
    rw [h u (Nat.le_refl _), ih (u + 1) fun v hv => h v (by omega)]
theorem bndF_congr {f g : Nat → Int} : ∀ (k u : Nat) (b : Int), (∀ v, u ≤ v → f v = g v) → bndF f b u k = bndF g b u k := by
  intro k
  induction k with
  | zero => intro u _ _; rfl
  | succ k ih =>
    intro u b h
    unfold bndF
    rw [h u (Nat.le_refl _), ih (u + 1) _ fun v hv => h v (by omega)]

/-- What a term adds to the coefficient of a variable; the coefficients of negative literals. -/
def sg (z : Int × Int) (v : Nat) : Int := if z.2 = (v : Int) then z.1 else if z.2 = -(v : Int) then -z.1 else 0
def S : List (Int × Int) → Nat → Int
  | [], _ => 0
  | z :: zs, v => sg z v + S zs v
def ng (z : Int × Int) : Int := if 0 < z.2 then 0 else z.1
def Ng : List (Int × Int) → Int
  | [] => 0
  | z :: zs => ng z + Ng zs
theorem S_append (xs ys : List (Int × Int)) (v : Nat) : S (xs ++ ys) v = S xs v + S ys v := by
  induction xs with
  | nil => show S ys v = 0 + S ys v; omega
  | cons x xs ih => show sg x v + S (xs ++ ys) v = sg x v + S xs v + S ys v; rw [ih]; omega
theorem Ng_append (xs ys : List (Int × Int)) : Ng (xs ++ ys) = Ng xs + Ng ys := by
  induction xs with
  | nil => show Ng ys = 0 + Ng ys; omega
  | cons x xs ih => show ng x + Ng (xs ++ ys) = ng x + Ng xs + Ng ys; rw [ih]; omega
theorem S_none {zs : List (Int × Int)} {v : Nat} (h : ∀ z ∈ zs, (v : Int) < ab z.2) : S zs v = 0 := by
  induction zs with
  | nil => rfl
  | cons z zs ih =>
    show sg z v + S zs v = 0
    rw [ih fun x hx => h x (List.mem_cons_of_mem _ hx)]
    have h1 := h z (List.mem_cons_self ..)
    unfold ab at h1
    unfold sg
    rw [if_neg (by split at h1 <;> omega), if_neg (by split at h1 <;> omega)]
    rfl
theorem Ng_nonneg {zs : List (Int × Int)} (h : srt zs) : 0 ≤ Ng zs := by
  induction zs with
  | nil => exact Int.le_refl _
  | cons z zs ih =>
    have h1 := ih h.2.2
    have h2 := h.1.2.1
    show 0 ≤ ng z + Ng zs
    unfold ng
    split <;> omega

theorem w64 {x : Int} (h : -9000000000 ≤ x ∧ x ≤ 9000000000) : wrap64 x = x := by rw [← IntWalk.i64_left]; exact IntWalk.i64_in _ (by omega)
theorem w64' {x : Int} (h : -9000000000 ≤ x ∧ x ≤ 9000000000) : IntKind.i64.wrap x = x := IntWalk.i64_in _ (by omega)

/-- One variable: the pair of its terms, off the sum of what they add. -/
theorem add_one {x y : Int × Int} {u : Nat} (hu : 1 ≤ u) (hx : x = (0, 0) ∨ (ab x.2 = (u : Int) ∧ 1 ≤ x.1 ∧ x.1 ≤ 1000)) (hy : y = (0, 0) ∨ (ab y.2 = (u : Int) ∧ 1 ≤ y.1 ∧ y.1 ≤ 1000)) (hne : ¬ (x = (0, 0) ∧ y = (0, 0))) :
    addP (x, y) = rowAt (sg x u + sg y u) u ∧ 0 ≤ (addT x y).2 ∧ (addT x y).2 ≤ 1000 ∧ (∀ b : Int, -9000000 ≤ b → b ≤ 9000000 → bAt (b - ng x - ng y) (sg x u + sg y u) = b - (addT x y).2) := by
  obtain ⟨xc, xl⟩ := x
  obtain ⟨yc, yl⟩ := y
  have key : ∀ (zc zl : Int), ((zc, zl) = ((0 : Int), (0 : Int)) ∨ (ab (zc, zl).2 = (u : Int) ∧ 1 ≤ (zc, zl).1 ∧ (zc, zl).1 ≤ 1000)) →
      (zc = 0 ∧ zl = 0) ∨ (1 ≤ zc ∧ zc ≤ 1000 ∧ (zl = (u : Int) ∨ zl = -(u : Int))) := by
    intro zc zl h
    rcases h with h | ⟨h1, h2, h3⟩
    · exact .inl (by simpa using h)
    · refine .inr ⟨h2, h3, ?_⟩
      dsimp only at h1
      unfold ab at h1
      split at h1 <;> omega
  have kx := key _ _ hx
  have ky := key _ _ hy
  have hn : ¬ ((xc = 0 ∧ xl = 0) ∧ (yc = 0 ∧ yl = 0)) := by
    rintro ⟨⟨rfl, rfl⟩, rfl, rfl⟩
    exact hne ⟨rfl, rfl⟩
  clear key hx hy hne
  have hsx : sg (xc, xl) u = if xl = (u : Int) then xc else if xl = -(u : Int) then -xc else 0 := rfl
  have hsy : sg (yc, yl) u = if yl = (u : Int) then yc else if yl = -(u : Int) then -yc else 0 := rfl
  have hgx : ng (xc, xl) = if 0 < xl then 0 else xc := rfl
  have hgy : ng (yc, yl) = if 0 < yl then 0 else yc := rfl
  have hT : addT (xc, xl) (yc, yl) = if xc < yc then (if yl = -xl then ((yc - xc, yl), xc) else ((yc + xc, yl), 0)) else (if xl = -yl then ((xc - yc, xl), yc) else ((xc + yc, xl), 0)) := rfl
  have fin : ∀ (co li ca s : Int), addT (xc, xl) (yc, yl) = ((co, li), ca) → sg (xc, xl) u + sg (yc, yl) u = s → (0 < co ∧ ((s = co ∧ li = (u : Int)) ∨ (s = -co ∧ li = -(u : Int))) ∨ (co = 0 ∧ s = 0)) → co ≤ 2000 → 0 ≤ ca → ca ≤ 1000 →
      (ca = ng (xc, xl) + ng (yc, yl) + (if s < 0 then s else 0)) →
      addP ((xc, xl), (yc, yl)) = rowAt (sg (xc, xl) u + sg (yc, yl) u) u ∧ 0 ≤ (addT (xc, xl) (yc, yl)).2 ∧ (addT (xc, xl) (yc, yl)).2 ≤ 1000 ∧ (∀ b : Int, -9000000 ≤ b → b ≤ 9000000 → bAt (b - ng (xc, xl) - ng (yc, yl)) (sg (xc, xl) u + sg (yc, yl) u) = b - (addT (xc, xl) (yc, yl)).2) := by
    intro co li ca s e1 e2 e3 e4 e5 e6 e7
    rw [e2, e1]
    refine ⟨?_, e5, e6, ?_⟩
    · unfold addP
      dsimp only
      rw [e1]
      dsimp only
      rcases e3 with ⟨h1, ⟨rfl, rfl⟩ | ⟨rfl, rfl⟩⟩ | ⟨rfl, rfl⟩
      · rw [if_pos h1, rowAt_pos h1]
      · rw [if_pos h1, rowAt_neg (by omega), Int.neg_neg, w64' (by omega)]
      · rw [if_neg (by omega), rowAt_zero (by omega) (by omega)]
    · intro b h1 h2
      unfold bAt
      dsimp only
      split
      · next h =>
        rw [if_pos h] at e7
        rw [w64 (by omega)]
        omega
      · next h =>
        rw [if_neg h] at e7
        omega
  rcases kx with ⟨rfl, rfl⟩ | ⟨x1, x2, rfl | rfl⟩
  · rcases ky with ⟨rfl, rfl⟩ | ⟨y1, y2, rfl | rfl⟩
    · exact absurd ⟨⟨rfl, rfl⟩, rfl, rfl⟩ hn
    · refine fin yc u 0 yc (by rw [hT, if_pos (by omega), if_neg (by omega)]; simp) (by rw [hsx, hsy, if_neg (by omega), if_neg (by omega), if_pos rfl]; omega) (.inl ⟨by omega, .inl ⟨rfl, rfl⟩⟩) (by omega) (by omega) (by omega) (by rw [hgx, hgy, if_neg (by omega), if_pos (by omega), if_neg (by omega)]; omega)
    · refine fin yc (-(u : Int)) 0 (-yc) (by rw [hT, if_pos (by omega), if_neg (by omega)]; simp) (by rw [hsx, hsy, if_neg (by omega), if_neg (by omega), if_neg (by omega), if_pos rfl]; omega) (.inl ⟨by omega, .inr ⟨rfl, rfl⟩⟩) (by omega) (by omega) (by omega) (by rw [hgx, hgy, if_neg (by omega), if_neg (by omega), if_pos (by omega)]; omega)
  · rcases ky with ⟨rfl, rfl⟩ | ⟨y1, y2, rfl | rfl⟩
    · refine fin xc u 0 xc (by rw [hT, if_neg (by omega), if_neg (by omega)]; simp) (by rw [hsx, hsy, if_pos rfl, if_neg (by omega), if_neg (by omega)]; omega) (.inl ⟨by omega, .inl ⟨rfl, rfl⟩⟩) (by omega) (by omega) (by omega) (by rw [hgx, hgy, if_pos (by omega), if_neg (by omega), if_neg (by omega)]; omega)
    · refine fin (xc + yc) u 0 (xc + yc) (by rw [hT]; split <;> rw [if_neg (by omega)] <;> simp <;> omega) (by rw [hsx, hsy, if_pos rfl, if_pos rfl]) (.inl ⟨by omega, .inl ⟨rfl, rfl⟩⟩) (by omega) (by omega) (by omega) (by rw [hgx, hgy, if_pos (by omega), if_pos (by omega), if_neg (by omega)]; omega)
    · by_cases h : xc < yc
      · refine fin (yc - xc) (-(u : Int)) xc (xc - yc) (by rw [hT, if_pos h, if_pos (by omega)]) (by rw [hsx, hsy, if_pos rfl, if_neg (by omega), if_pos rfl]; omega) (.inl ⟨by omega, .inr ⟨by omega, rfl⟩⟩) (by omega) (by omega) (by omega) (by rw [hgx, hgy, if_pos (by omega), if_neg (by omega), if_pos (by omega)]; omega)
      · refine fin (xc - yc) u yc (xc - yc) (by rw [hT, if_neg h, if_pos (by omega)]) (by rw [hsx, hsy, if_pos rfl, if_neg (by omega), if_pos rfl]; omega) (by omega) (by omega) (by omega) (by omega) (by rw [hgx, hgy, if_pos (by omega), if_neg (by omega), if_neg (by omega)]; omega)
  · rcases ky with ⟨rfl, rfl⟩ | ⟨y1, y2, rfl | rfl⟩
    · refine fin xc (-(u : Int)) 0 (-xc) (by rw [hT, if_neg (by omega), if_neg (by omega)]; simp) (by rw [hsx, hsy, if_neg (by omega), if_pos rfl, if_neg (by omega), if_neg (by omega)]; omega) (.inl ⟨by omega, .inr ⟨rfl, rfl⟩⟩) (by omega) (by omega) (by omega) (by rw [hgx, hgy, if_neg (by omega), if_neg (by omega), if_pos (by omega)]; omega)
    · by_cases h : xc < yc
      · refine fin (yc - xc) u xc (yc - xc) (by rw [hT, if_pos h, if_pos (by omega)]) (by rw [hsx, hsy, if_neg (by omega), if_pos rfl, if_pos rfl]; omega) (.inl ⟨by omega, .inl ⟨by omega, rfl⟩⟩) (by omega) (by omega) (by omega) (by rw [hgx, hgy, if_neg (by omega), if_pos (by omega), if_neg (by omega)]; omega)
      · refine fin (xc - yc) (-(u : Int)) yc (yc - xc) (by rw [hT, if_neg h, if_pos (by omega)]) (by rw [hsx, hsy, if_neg (by omega), if_pos rfl, if_pos rfl]; omega) (by omega) (by omega) (by omega) (by omega) (by rw [hgx, hgy, if_neg (by omega), if_pos (by omega)]; split <;> omega)
    · refine fin (xc + yc) (-(u : Int)) 0 (-(xc + yc)) (by rw [hT]; split <;> rw [if_neg (by omega)] <;> simp <;> omega) (by rw [hsx, hsy, if_neg (by omega), if_pos rfl, if_neg (by omega), if_pos rfl]; omega) (.inl ⟨by omega, .inr ⟨rfl, rfl⟩⟩) (by omega) (by omega) (by omega) (by rw [hgx, hgy, if_neg (by omega), if_neg (by omega), if_pos (by omega)]; omega)
end Go.Proofs.Ytipblbcedkhmbaa

namespace Go.Proofs.Ytipblbcedkhmbaa
open Go.ChangeShapes Go.WideShapes Go.ChangeAt Go.RowKit

theorem sg_zero (v : Nat) : sg ((0 : Int), (0 : Int)) v = 0 := by
  unfold sg
  dsimp only
  split
  · rfl
  · split <;> rfl
theorem ng_zero : ng ((0 : Int), (0 : Int)) = 0 := rfl
theorem sg_off {z : Int × Int} {u v : Nat} (h : z = (0, 0) ∨ (ab z.2 = (u : Int) ∧ 1 ≤ z.1 ∧ z.1 ≤ 1000)) (hv : u < v) : sg z v = 0 := by
  rcases h with rfl | ⟨h, _⟩
  · exact sg_zero v
  · unfold ab at h
    unfold sg
    rw [if_neg (by split at h <;> omega), if_neg (by split at h <;> omega)]
/-- What is shown of two lists and the variables u to u + k - 1. -/
def Sums (k u : Nat) (xs ys : List (Int × Int)) : Prop := ∀ b : Int, -8000000 + 1000 * (12 - (k : Int)) * -1 ≤ b + 24000 → b ≤ 8000000 - 1000 * (k : Int) → -8000000 + 1000 * (k : Int) ≤ b →
  addR (prs xs ys) = rowsF (fun v => S xs v + S ys v) u k ∧ bndF (fun v => S xs v + S ys v) (b - Ng xs - Ng ys) u k = canW b (prs xs ys)

theorem step_sum {k u : Nat} {x y : Int × Int} {xs ys xs' ys' : List (Int × Int)} (hu : 1 ≤ u) (ih : Sums k (u + 1) xs' ys') (hp : prs xs ys = (x, y) :: prs xs' ys')
    (hF : ∀ v, S xs v + S ys v = sg x v + sg y v + (S xs' v + S ys' v)) (h0 : S xs' u + S ys' u = 0) (hN : Ng xs + Ng ys = ng x + ng y + (Ng xs' + Ng ys'))
    (hx : x = (0, 0) ∨ (ab x.2 = (u : Int) ∧ 1 ≤ x.1 ∧ x.1 ≤ 1000)) (hy : y = (0, 0) ∨ (ab y.2 = (u : Int) ∧ 1 ≤ y.1 ∧ y.1 ≤ 1000)) (hne : ¬ (x = (0, 0) ∧ y = (0, 0)))
    (hb0 : 0 ≤ Ng xs' + Ng ys') (hb1 : Ng xs' + Ng ys' ≤ 100000) : Sums (k + 1) u xs ys := by
  intro b _ h2 h3
  obtain ⟨e1, e2, e3, e4⟩ := add_one hu hx hy hne
  have hk : ((k + 1 : Nat) : Int) = (k : Int) + 1 := by omega
  rw [hk] at h2 h3
  obtain ⟨i1, i2⟩ := ih (b - (addT x y).2) (by omega) (by omega) (by omega)
  have hFu : S xs u + S ys u = sg x u + sg y u := by have := hF u; omega
  have hcong : ∀ v, u + 1 ≤ v → S xs v + S ys v = S xs' v + S ys' v := fun v hv => by
    have h5 := hF v
    have h6 := sg_off hx (v := v) (by omega)
    have h7 := sg_off hy (v := v) (by omega)
    omega
  have hw : wrap64 (b - (addT x y).2) = b - (addT x y).2 := w64 (by omega)
  refine ⟨?_, ?_⟩
  · rw [hp]
    show addP (x, y) ++ addR (prs xs' ys') = rowAt (S xs u + S ys u) u ++ rowsF _ (u + 1) k
    rw [e1, hFu, i1, rowsF_congr (f := fun v => S xs v + S ys v) (g := fun v => S xs' v + S ys' v) k (u + 1) hcong]
  · rw [hp]
    show bndF _ (bAt (b - Ng xs - Ng ys) (S xs u + S ys u)) (u + 1) k = canW (wrap64 (b - (addT x y).2)) (prs xs' ys')
    have e5 := e4 (b - Ng xs' - Ng ys') (by omega) (by omega)
    rw [hFu, show b - Ng xs - Ng ys = b - Ng xs' - Ng ys' - ng x - ng y by omega, e5, hw, ← i2, bndF_congr (f := fun v => S xs v + S ys v) (g := fun v => S xs' v + S ys' v) k (u + 1) _ hcong,
      show b - Ng xs' - Ng ys' - (addT x y).2 = b - (addT x y).2 - Ng xs' - Ng ys' by omega]

theorem skip_sum {k u : Nat} {xs ys : List (Int × Int)} (ih : Sums k (u + 1) xs ys) (h0 : S xs u + S ys u = 0) : Sums (k + 1) u xs ys := by
  intro b _ h2 h3
  have hk : ((k + 1 : Nat) : Int) = (k : Int) + 1 := by omega
  rw [hk] at h2 h3
  obtain ⟨i1, i2⟩ := ih b (by omega) (by omega) (by omega)
  refine ⟨?_, ?_⟩
  · show _ = rowAt (S xs u + S ys u) u ++ rowsF _ (u + 1) k
    rw [h0, rowAt_zero (by omega) (by omega)]
    exact i1
  · show bndF _ (bAt (b - Ng xs - Ng ys) (S xs u + S ys u)) (u + 1) k = _
    rw [h0, show bAt (b - Ng xs - Ng ys) 0 = b - Ng xs - Ng ys from if_neg (by omega)]
    exact i2

/-- All variables of a list lie from u on and below t. -/
def From (u t : Nat) (xs : List (Int × Int)) : Prop := ∀ z ∈ xs, (u : Int) ≤ ab z.2 ∧ ab z.2 < (t : Int)
theorem From.up {u t : Nat} {x : Int × Int} {xs : List (Int × Int)} (h : From u t (x :: xs)) (hs : srt (x :: xs)) (hx : ab x.2 = (u : Int)) : From (u + 1) t xs := fun z hz => by
  have h1 := h z (List.mem_cons_of_mem _ hz)
  have h2 := hs.2.1 z hz
  omega
theorem From.up' {u t : Nat} {x : Int × Int} {xs : List (Int × Int)} (h : From u t (x :: xs)) (hs : srt (x :: xs)) (hx : ab x.2 ≠ (u : Int)) : From (u + 1) t (x :: xs) := fun z hz => by
  have h1 := h z hz
  have h3 := h x (List.mem_cons_self ..)
  rcases List.mem_cons.1 hz with rfl | hz
  · omega
  · have h2 := hs.2.1 z hz
    omega
theorem From.nil (u t : Nat) : From u t [] := fun z hz => by cases hz
theorem From.none {u t : Nat} {xs : List (Int × Int)} (h : From (u + 1) t xs) : S xs u = 0 := S_none fun z hz => by have := h z hz; omega

theorem all_sum : ∀ (k u : Nat) (xs ys : List (Int × Int)), 1 ≤ u → srt xs → srt ys → From u (u + k) xs → From u (u + k) ys → Ng xs + Ng ys ≤ 100000 → Sums k u xs ys := by
  intro k
  induction k with
  | zero =>
    intro u xs ys _ _ _ h h' _ b _ _ _
    have h1 : xs = [] := by
      cases xs with
      | nil => rfl
      | cons x xs => have := h x (List.mem_cons_self ..); omega
    have h2 : ys = [] := by
      cases ys with
      | nil => rfl
      | cons y ys => have := h' y (List.mem_cons_self ..); omega
    subst h1 h2
    refine ⟨rfl, ?_⟩
    show b - 0 - 0 = b
    omega
  | succ k ih =>
    intro u xs ys hu hs hs' h h' hN
    rw [show u + (k + 1) = u + 1 + k by omega] at h h'
    have n1 := Ng_nonneg hs
    have n2 := Ng_nonneg hs'
    have hasx : (∃ x xs', xs = x :: xs' ∧ ab x.2 = (u : Int)) ∨ From (u + 1) (u + 1 + k) xs := by
      cases xs with
      | nil => exact .inr (From.nil _ _)
      | cons x xs =>
        by_cases e : ab x.2 = (u : Int)
        · exact .inl ⟨x, xs, rfl, e⟩
        · exact .inr (h.up' hs e)
    have hasy : (∃ y ys', ys = y :: ys' ∧ ab y.2 = (u : Int)) ∨ From (u + 1) (u + 1 + k) ys := by
      cases ys with
      | nil => exact .inr (From.nil _ _)
      | cons y ys =>
        by_cases e : ab y.2 = (u : Int)
        · exact .inl ⟨y, ys, rfl, e⟩
        · exact .inr (h'.up' hs' e)
    rcases hasx with ⟨x, xs', rfl, ex⟩ | fx
    · have hx : x = (0, 0) ∨ (ab x.2 = (u : Int) ∧ 1 ≤ x.1 ∧ x.1 ≤ 1000) := .inr ⟨ex, hs.1.2⟩
      have hx0 : ¬ x = (0, 0) := fun e => by have := hs.1.2.1; rw [e] at this; dsimp only at this; omega
      have fx := h.up hs ex
      have z1 := Ng_nonneg hs.2.2
      have hNx : Ng (x :: xs') = ng x + Ng xs' := rfl
      have hngx : 0 ≤ ng x := by have := hs.1.2.1; unfold ng; split <;> omega
      rcases hasy with ⟨y, ys', rfl, ey⟩ | fy
      · have hy : y = (0, 0) ∨ (ab y.2 = (u : Int) ∧ 1 ≤ y.1 ∧ y.1 ≤ 1000) := .inr ⟨ey, hs'.1.2⟩
        have fy := h'.up hs' ey
        have z2 := Ng_nonneg hs'.2.2
        have hNy : Ng (y :: ys') = ng y + Ng ys' := rfl
        have hngy : 0 ≤ ng y := by have := hs'.1.2.1; unfold ng; split <;> omega
        refine step_sum hu (ih (u + 1) xs' ys' (by omega) hs.2.2 hs'.2.2 fx fy (by omega)) (prs_eq (ex.trans ey.symm)) (fun v => ?_) (by rw [fx.none, fy.none]; rfl) (by omega) hx hy (fun e => hx0 e.1) (by omega) (by omega)
        show sg x v + S xs' v + (sg y v + S ys' v) = _
        omega
      · refine step_sum hu (ih (u + 1) xs' ys (by omega) hs.2.2 hs' fx fy (by omega)) (y := (0, 0)) ?_ (fun v => ?_) (by rw [fx.none, fy.none]; rfl) (by rw [ng_zero]; omega) hx (.inl rfl) (fun e => hx0 e.1) (by omega) (by omega)
        · cases ys with
          | nil => exact prs_left
          | cons y ys =>
            have := fy y (List.mem_cons_self ..)
            exact prs_lt (by omega)
        · rw [sg_zero]
          show sg x v + S xs' v + S ys v = _
          omega
    · rcases hasy with ⟨y, ys', rfl, ey⟩ | fy
      · have hy : y = (0, 0) ∨ (ab y.2 = (u : Int) ∧ 1 ≤ y.1 ∧ y.1 ≤ 1000) := .inr ⟨ey, hs'.1.2⟩
        have hy0 : ¬ y = (0, 0) := fun e => by have := hs'.1.2.1; rw [e] at this; dsimp only at this; omega
        have fy := h'.up hs' ey
        have z2 := Ng_nonneg hs'.2.2
        have hNy : Ng (y :: ys') = ng y + Ng ys' := rfl
        have hngy : 0 ≤ ng y := by have := hs'.1.2.1; unfold ng; split <;> omega
        refine step_sum hu (ih (u + 1) xs ys' (by omega) hs hs'.2.2 fx fy (by omega)) (x := (0, 0)) ?_ (fun v => ?_) (by rw [fx.none, fy.none]; rfl) (by rw [ng_zero]; omega) (.inl rfl) hy (fun e => hy0 e.2) (by omega) (by omega)
        · cases xs with
          | nil => exact prs_right
          | cons x xs =>
            have := fx x (List.mem_cons_self ..)
            exact prs_gt (by omega)
        · rw [sg_zero]
          show S xs v + (sg y v + S ys' v) = _
          omega
      · exact skip_sum (ih (u + 1) xs ys (by omega) hs hs' fx fy hN) (by rw [fx.none, fy.none]; rfl)

theorem lst_snoc (c l : Nat → Int) : ∀ (m i : Nat), lst c l i (m + 1) = lst c l i m ++ [(c (i + m), l (i + m))] := by
  intro m
  induction m with
  | zero => intro i; rfl
  | succ m ih =>
    intro i
    show (c i, l i) :: lst c l (i + 1) (m + 1) = (c i, l i) :: (lst c l (i + 1) m ++ _)
    rw [ih (i + 1), show i + 1 + m = i + (m + 1) by omega]
theorem lst_congr {c l c' l' : Nat → Int} {n : Nat} (h : ∀ i, i < n → c i = c' i ∧ l i = l' i) : lst c l 0 n = lst c' l' 0 n := by
  induction n with
  | zero => rfl
  | succ n ih =>
    rw [lst_snoc, lst_snoc, ih fun i hi => h i (by omega), Nat.zero_add, (h n (by omega)).1, (h n (by omega)).2]
theorem lst_cat (c l c' l' : Nat → Int) (n m : Nat) : lst (cat2 n c c') (cat2 n l l') 0 (n + m) = lst c l 0 n ++ lst c' l' 0 m := by
  induction m with
  | zero =>
    rw [Nat.add_zero]
    show _ = lst c l 0 n ++ []
    rw [List.append_nil]
    exact lst_congr fun i hi => by simp [cat2, hi]
  | succ m ih =>
    have h1 : cat2 n c c' (n + m) = c' m := by unfold cat2; rw [if_neg (by omega)]; congr 1; omega
    have h2 : cat2 n l l' (n + m) = l' m := by unfold cat2; rw [if_neg (by omega)]; congr 1; omega
    rw [show n + (m + 1) = (n + m) + 1 by omega, lst_snoc, lst_snoc, ih, List.append_assoc, Nat.zero_add, Nat.zero_add, h1, h2]

theorem S_bnd {c l : Nat → Int} {n : Nat} (h : allN c l n = true) (v : Nat) : ∀ k, k ≤ n → -1000 * (k : Int) ≤ S (lst c l 0 k) v ∧ S (lst c l 0 k) v ≤ 1000 * (k : Int) := by
  intro k
  induction k with
  | zero => intro _; exact ⟨Int.le_refl _, Int.le_refl _⟩
  | succ k ih =>
    intro hk
    have h1 := ih (by omega)
    obtain ⟨_, h2, h3⟩ := okN_iff.1 (allN_at h (show k < n by omega))
    rw [lst_snoc, S_append, Nat.zero_add]
    have h4 : S [(c k, l k)] v = sg (c k, l k) v + 0 := rfl
    have h5 : sg (c k, l k) v = if l k = (v : Int) then c k else if l k = -(v : Int) then -c k else 0 := rfl
    rw [h4, h5]
    split
    · omega
    · split <;> omega
theorem net_S {c l : Nat → Int} {n : Nat} (h : allN c l n = true) (hn : n ≤ 1000) (v : Nat) : ∀ k, k ≤ n → net c l k v = S (lst c l 0 k) v := by
  intro k
  induction k with
  | zero => intro _; rfl
  | succ k ih =>
    intro hk
    have h1 := ih (by omega)
    have hb := S_bnd h v k (by omega)
    obtain ⟨_, h2, h3⟩ := okN_iff.1 (allN_at h (show k < n by omega))
    rw [lst_snoc, S_append, Nat.zero_add]
    have h4 : S [(c k, l k)] v = sg (c k, l k) v + 0 := rfl
    have h5 : sg (c k, l k) v = if l k = (v : Int) then c k else if l k = -(v : Int) then -c k else 0 := rfl
    rw [h4, h5]
    unfold net
    rw [h1]
    split
    · rw [w64 (by omega)]; omega
    · split
      · rw [w64 (by omega)]; omega
      · omega
theorem Ng_bnd {c l : Nat → Int} {n : Nat} (h : allN c l n = true) : ∀ k, k ≤ n → -1000 * (k : Int) ≤ Ng (lst c l 0 k) ∧ Ng (lst c l 0 k) ≤ 1000 * (k : Int) := by
  intro k
  induction k with
  | zero => intro _; exact ⟨Int.le_refl _, Int.le_refl _⟩
  | succ k ih =>
    intro hk
    have h1 := ih (by omega)
    obtain ⟨_, h2, h3⟩ := okN_iff.1 (allN_at h (show k < n by omega))
    rw [lst_snoc, Ng_append, Nat.zero_add]
    have h4 : Ng [(c k, l k)] = ng (c k, l k) + 0 := rfl
    have h5 : ng (c k, l k) = if 0 < l k then 0 else c k := rfl
    rw [h4, h5]
    split <;> omega
theorem nbd_Ng {c l : Nat → Int} {n : Nat} {b : Int} (h : allN c l n = true) (hn : n ≤ 1000) (hb : -1000000 ≤ b ∧ b ≤ 1000000) : ∀ k, k ≤ n → nbd c l b k = b - Ng (lst c l 0 k) := by
  intro k
  induction k with
  | zero => intro _; show b = b - 0; omega
  | succ k ih =>
    intro hk
    have h1 := ih (by omega)
    have hB := Ng_bnd h k (by omega)
    obtain ⟨_, h2, h3⟩ := okN_iff.1 (allN_at h (show k < n by omega))
    rw [lst_snoc, Ng_append, Nat.zero_add]
    have h4 : Ng [(c k, l k)] = ng (c k, l k) + 0 := rfl
    have h5 : ng (c k, l k) = if 0 < l k then 0 else c k := rfl
    rw [h4, h5]
    unfold nbd
    rw [h1]
    split
    · omega
    · rw [w64 (by omega)]; omega

theorem From_lst {n : Nat} {c l : Nat → Int} {bd : Int} (h : validB n c l bd = true) : From 1 13 (lst c l 0 n) := fun z hz => by
  obtain ⟨j, _, hj, rfl⟩ := lst_mem z hz
  have := ab_lit (litAt h (show j < n by omega))
  dsimp only
  omega

/-- Both sides' rows and bounds. -/
theorem sum_same {N N' : Nat} {c l c' l' : Nat → Int} {bd bd' : Int} (hv : validB N c l bd = true) (hv' : validB N' c' l' bd' = true) :
    addR (prs (lst c l 0 N) (lst c' l' 0 N')) = rowsN (net (cat2 N c c') (cat2 N l l') (N + N')) 12 ∧
    canW (wrap64 (bd + bd')) (prs (lst c l 0 N) (lst c' l' 0 N')) = bndN (net (cat2 N c c') (cat2 N l l') (N + N')) (nbd (cat2 N c c') (cat2 N l l') (wrap64 (bd + bd')) (N + N')) 12 := by
  have hN := valid_12 hv
  have hN' := valid_12 hv'
  have hall := allN_cat (valid_all hv) (valid_all hv')
  have b1 := valid_bd hv
  have b2 := valid_bd hv'
  have hw : wrap64 (bd + bd') = bd + bd' := w64 (by omega)
  have g1 := Ng_bnd (valid_all hv) N (Nat.le_refl _)
  have g2 := Ng_bnd (valid_all hv') N' (Nat.le_refl _)
  have hnet : net (cat2 N c c') (cat2 N l l') (N + N') = fun v => S (lst c l 0 N) v + S (lst c' l' 0 N') v := by
    funext v
    rw [net_S hall (by omega) v (N + N') (Nat.le_refl _), lst_cat, S_append]
  have hnbd : nbd (cat2 N c c') (cat2 N l l') (bd + bd') (N + N') = bd + bd' - Ng (lst c l 0 N) - Ng (lst c' l' 0 N') := by
    rw [nbd_Ng hall (by omega) (by omega) (N + N') (Nat.le_refl _), lst_cat, Ng_append]
    omega
  obtain ⟨h1, h2⟩ := all_sum 12 1 _ _ (by omega) (srt_valid hv) (srt_valid hv') (From_lst hv) (From_lst hv') (by omega) (bd + bd') (by omega) (by omega) (by omega)
  rw [hw, hnet, hnbd, rowsN_F, bndN_F]
  exact ⟨h1, h2.symm⟩

/-- The program's side, in the model's words. -/
theorem inf_fit (R : List (Int × Int)) (b : Int) : infN true R.length (rC R) (rL R) (capB b) = fitN R b ∧ infD true R.length (rC R) (rL R) (capB b) = fitD R b ∧ infB true R.length (rC R) (rL R) (capB b) = fitB R b := by
  have h : infB true R.length (rC R) (rL R) (capB b) = fitB R b := by unfold infB fitB; rw [Bool.true_and]
  refine ⟨?_, ?_, h⟩
  · unfold infN fitN; rw [h]
  · unfold infD fitD; rw [h]
end Go.Proofs.Ytipblbcedkhmbaa

namespace Go.Proofs.Ytipblbcedkhmbaa
open Go.ChangeShapes Go.WideShapes Go.ChangeAt Go.RowKit

/-- The sum of the coefficients whose literals hold. -/
def tS (P : Int → Bool) : List (Int × Int) → Int
  | [] => 0
  | z :: zs => (if P z.2 then z.1 else 0) + tS P zs
theorem tS_append (P : Int → Bool) (xs ys : List (Int × Int)) : tS P (xs ++ ys) = tS P xs + tS P ys := by
  induction xs with
  | nil => show tS P ys = 0 + _; omega
  | cons x xs ih => show _ + tS P (xs ++ ys) = _ + _ + _; rw [ih]; omega
theorem sB_tS (c l : Nat → Int) (P : Int → Bool) (n : Nat) : sB c l P n = tS P (lst c l 0 n) := by
  induction n with
  | zero => rfl
  | succ n ih =>
    rw [lst_snoc, tS_append, ← ih, Nat.zero_add]
    show _ = _ + ((if P (l n) then c n else 0) + 0)
    cases hp : P (l n) with
    | true => rw [sB_yes hp, if_pos rfl]; omega
    | false => rw [sB_no hp, if_neg (by decide)]; omega
theorem lst_rows_at : ∀ (R pre : List (Int × Int)), lst (rC (pre ++ R)) (rL (pre ++ R)) pre.length R.length = R := by
  intro R
  induction R with
  | nil => intro pre; rfl
  | cons x R ih =>
    intro pre
    have h := ih (pre ++ [x])
    rw [List.append_assoc, List.length_append] at h
    show (rC (pre ++ x :: R) pre.length, rL (pre ++ x :: R) pre.length) :: lst _ _ (pre.length + 1) R.length = _
    have e : (pre ++ x :: R).getD pre.length (0, 0) = x := by simp
    unfold rC rL
    rw [e]
    exact congrArg _ h
theorem lst_rows (R : List (Int × Int)) : lst (rC R) (rL R) 0 R.length = R := lst_rows_at R []
theorem sB_rows (P : Int → Bool) (R : List (Int × Int)) : sB (rC R) (rL R) P R.length = tS P R := by rw [sB_tS, lst_rows]

/-- The sum of a function over the variables that are true. -/
def TT (v : Nat → Bool) (f : Nat → Int) : Nat → Int
  | 0 => 0
  | k + 1 => TT v f k + (if v k then f (k + 1) else 0)
theorem TT_add (v : Nat → Bool) (f g : Nat → Int) (k : Nat) : TT v (fun u => f u + g u) k = TT v f k + TT v g k := by
  induction k with
  | zero => rfl
  | succ k ih =>
    show TT v (fun u => f u + g u) k + (if v k then f (k + 1) + g (k + 1) else 0) = (TT v f k + (if v k then f (k + 1) else 0)) + (TT v g k + (if v k then g (k + 1) else 0))
    rw [ih]
    split <;> omega
theorem TT_zero (v : Nat → Bool) (k : Nat) : TT v (fun _ => 0) k = 0 := by
  induction k with
  | zero => rfl
  | succ k ih => show TT v (fun _ => 0) k + (if v k then 0 else 0) = 0; rw [ih]; split <;> rfl
theorem TT_one (v : Nat → Bool) (z : Int × Int) (i : Nat) (x : Int) (h : ∀ u : Nat, sg z (u + 1) = if u = i then x else 0) (k : Nat) : TT v (sg z) k = if i < k then (if v i then x else 0) else 0 := by
  induction k with
  | zero => rfl
  | succ k ih =>
    show TT v (sg z) k + (if v k then sg z (k + 1) else 0) = _
    have h1 : (if v k then (if k = i then x else 0) else 0) = if k = i then (if v i then x else 0) else 0 := by
      by_cases e : k = i
      · subst e
        simp
      · simp [e]
    rw [ih, h k, h1]
    by_cases e : k = i
    · rw [if_pos e, if_neg (show ¬ i < k by omega), if_pos (show i < k + 1 by omega)]
      exact Int.zero_add _
    · by_cases hi : i < k
      · rw [if_neg e, if_pos hi, if_pos (show i < k + 1 by omega)]
        exact Int.add_zero _
      · rw [if_neg e, if_neg hi, if_neg (show ¬ i < k + 1 by omega)]
        exact Int.add_zero _
theorem term_TT (v : Nat → Bool) (z : Int × Int) (h : litB z.2 = true) : (if trueP v z.2 then z.1 else 0) = ng z + TT v (sg z) 12 := by
  obtain ⟨c, l⟩ := z
  obtain ⟨h0, h1, h2⟩ := litB_iff.1 h
  dsimp only at h0 h1 h2 ⊢
  by_cases hp : 0 < l
  · obtain ⟨i, hi, rfl⟩ : ∃ i : Nat, i < 12 ∧ l = (i : Int) + 1 := ⟨(l - 1).toNat, by omega, by omega⟩
    rw [TT_one v _ i c (fun u => by
      unfold sg
      dsimp only
      by_cases e : u = i
      · subst e
        rw [if_pos (by omega), if_pos rfl]
      · rw [if_neg (by omega), if_neg (by omega), if_neg e]), if_pos hi]
    unfold ng trueP
    dsimp only
    rw [if_pos hp, if_pos hp, show ((i : Int) + 1 - 1).toNat = i by omega]
    omega
  · obtain ⟨i, hi, rfl⟩ : ∃ i : Nat, i < 12 ∧ l = -((i : Int) + 1) := ⟨(-l - 1).toNat, by omega, by omega⟩
    rw [TT_one v _ i (-c) (fun u => by
      unfold sg
      dsimp only
      by_cases e : u = i
      · subst e
        rw [if_neg (by omega), if_pos (by omega), if_pos rfl]
      · rw [if_neg (by omega), if_neg (by omega), if_neg e]), if_pos hi]
    unfold ng trueP
    dsimp only
    rw [if_neg hp, if_neg hp, show (- -((i : Int) + 1) - 1).toNat = i by omega]
    cases v i <;> simp <;> omega
theorem tS_S (v : Nat → Bool) (zs : List (Int × Int)) (h : ∀ z ∈ zs, litB z.2 = true) : tS (trueP v) zs = Ng zs + TT v (S zs) 12 := by
  induction zs with
  | nil => show 0 = 0 + TT v (fun _ => 0) 12; rw [TT_zero]; rfl
  | cons z zs ih =>
    have h1 := ih fun y hy => h y (List.mem_cons_of_mem _ hy)
    have h2 := term_TT v z (h z (List.mem_cons_self ..))
    show (if trueP v z.2 then z.1 else 0) + tS (trueP v) zs = ng z + Ng zs + TT v (fun u => sg z u + S zs u) 12
    rw [h1, h2, TT_add]
    omega

/-- The rows and the bound of a function over the variables, under values. -/
theorem rows_val (v : Nat → Bool) (f : Nat → Int) (hf : ∀ u, -100000 ≤ f u ∧ f u ≤ 100000) (b : Int) (hb : -1000000 ≤ b ∧ b ≤ 1000000) : ∀ k, k ≤ 12 → tS (trueP v) (rowsN f k) - bndN f b k = TT v f k - b ∧ b ≤ bndN f b k ∧ bndN f b k ≤ b + 100000 * (k : Int) := by
  intro k
  induction k with
  | zero => intro _; show (0 : Int) - b = 0 - b ∧ b ≤ b ∧ b ≤ b + _; omega
  | succ k ih =>
    intro hk
    obtain ⟨h1, h2, h3⟩ := ih (by omega)
    have hfk := hf (k + 1)
    have e1 : rowsN f (k + 1) = rowsN f k ++ rowAt (f (k + 1)) (k + 1) := rfl
    have e2 : bndN f b (k + 1) = bAt (bndN f b k) (f (k + 1)) := rfl
    have e3 : TT v f (k + 1) = TT v f k + (if v k then f (k + 1) else 0) := rfl
    rw [e1, e2, e3, tS_append]
    have hp : trueP v ((k + 1 : Nat) : Int) = v k := by
      unfold trueP
      rw [if_pos (by omega), show (((k + 1 : Nat) : Int) - 1).toNat = k by omega]
    have hn : trueP v (-((k + 1 : Nat) : Int)) = !v k := by
      unfold trueP
      rw [if_neg (by omega), show (- -((k + 1 : Nat) : Int) - 1).toNat = k by omega]
    by_cases c1 : 0 < f (k + 1)
    · rw [rowAt_pos c1]
      have e4 : bAt (bndN f b k) (f (k + 1)) = bndN f b k := if_neg (by omega)
      have e5 : tS (trueP v) [(f (k + 1), ((k + 1 : Nat) : Int))] = (if v k then f (k + 1) else 0) + 0 := by
        show (if trueP v ((k + 1 : Nat) : Int) then f (k + 1) else 0) + 0 = _
        rw [hp]
      rw [e4, e5]
      omega
    · by_cases c2 : f (k + 1) < 0
      · rw [rowAt_neg c2]
        have e4 : bAt (bndN f b k) (f (k + 1)) = bndN f b k - f (k + 1) := by
          unfold bAt
          rw [if_pos c2, w64 (by omega)]
        have e5 : tS (trueP v) [(IntKind.i64.wrap (-(f (k + 1))), -((k + 1 : Nat) : Int))] = (if v k then 0 else -(f (k + 1))) + 0 := by
          show (if trueP v (-((k + 1 : Nat) : Int)) then IntKind.i64.wrap (-(f (k + 1))) else 0) + 0 = _
          rw [hn, w64' (by omega)]
          cases v k <;> rfl
        rw [e4, e5]
        cases v k <;> simp <;> omega
      · rw [rowAt_zero c1 c2]
        have e4 : bAt (bndN f b k) (f (k + 1)) = bndN f b k := if_neg (by omega)
        have e5 : f (k + 1) = 0 := by omega
        have e6 : (if v k then f (k + 1) else 0) = 0 := by rw [e5]; split <;> rfl
        have e7 : tS (trueP v) ([] : List (Int × Int)) = 0 := rfl
        rw [e4, e6, e7]
        omega
theorem tS_nonneg {P : Int → Bool} {c l : Nat → Int} {bd : Int} {n : Nat} (h : validB n c l bd = true) : 0 ≤ tS P (lst c l 0 n) := by
  rw [← sB_tS]
  exact (sB_le (coef_of h)).1
theorem fit_eval {R : List (Int × Int)} {b : Int} (hl : R.length ≤ 1048576) (h : fitB R b = true) (v : Nat → Bool) : evalV (fitN R b) (rC R) (rL R) (fitD R b) 12 v = decide (b ≤ tS (trueP v) R) := by
  have hv : validB R.length (rC R) (rL R) (capB b) = true := h
  have e1 : fitN R b = R.length := by unfold fitN; rw [if_pos h]
  have e2 : fitD R b = capB b := by unfold fitD; rw [if_pos h]
  have h0 := tS_nonneg (P := trueP v) hv
  rw [lst_rows] at h0
  rw [e1, e2, evalV_sB hl hv, sB_rows, decide_eq_decide]
  unfold capB
  split <;> omega
end Go.Proofs.Ytipblbcedkhmbaa

namespace Go.Proofs.Ytipblbcedkhmbaa
open Go.ChangeShapes Go.WideShapes Go.ChangeAt Go.RowKit

/-- The sum's numbers, valid or not. -/
def sumR (N : Nat) (c l : Nat → Int) (N' : Nat) (c' l' : Nat → Int) : List (Int × Int) := addR (prs (lst c l 0 N) (lst c' l' 0 N'))
def sumC (N : Nat) (c l : Nat → Int) (bd : Int) (N' : Nat) (c' l' : Nat → Int) (bd' : Int) : Int := canW (wrap64 (bd + bd')) (prs (lst c l 0 N) (lst c' l' 0 N'))
def sumN (N : Nat) (c l : Nat → Int) (bd : Int) (N' : Nat) (c' l' : Nat → Int) (bd' : Int) : Nat := infN (adRB N c l bd N' c' l' bd') (sumR N c l N' c' l').length (rC (sumR N c l N' c' l')) (rL (sumR N c l N' c' l')) (capB (sumC N c l bd N' c' l' bd'))
def sumD (N : Nat) (c l : Nat → Int) (bd : Int) (N' : Nat) (c' l' : Nat → Int) (bd' : Int) : Int := infD (adRB N c l bd N' c' l' bd') (sumR N c l N' c' l').length (rC (sumR N c l N' c' l')) (rL (sumR N c l N' c' l')) (capB (sumC N c l bd N' c' l' bd'))
def sumB (N : Nat) (c l : Nat → Int) (bd : Int) (N' : Nat) (c' l' : Nat → Int) (bd' : Int) : Bool := infB (adRB N c l bd N' c' l' bd') (sumR N c l N' c' l').length (rC (sumR N c l N' c' l')) (rL (sumR N c l N' c' l')) (capB (sumC N c l bd N' c' l' bd'))

theorem specAdd_gen (A A' : Option Addr) (n n' cap cap' : Nat) (HC : Hid (A = none → cap = 0)) (HC' : Hid (A' = none → cap' = 0)) (bd bd' : Int) (c l c' l' : Nat → Int) (hn : n ≤ 1048576) (hn' : n' ≤ 1048576) (w : World) (hr : Rd w w.heap.size A n c l) (hr' : Rd w w.heap.size A' n' c' l') :
    Calls Try.prog 50 #[.agg #[.slice A n cap, .int .i64 bd], .agg #[.slice A' n' cap', .int .i64 bd']] w
      (CRes w (sumN n c l bd n' c' l' bd') (rC (sumR n c l n' c' l')) (rL (sumR n c l n' c' l')) (sumD n c l bd n' c' l' bd') (sumB n c l bd n' c' l' bd')) := by
  unfold sumN sumD sumB
  cases h : adRB n c l bd n' c' l' bd' with
  | true =>
    have hv : validB n c l bd = true ∧ validB n' c' l' bd' = true := by simpa [adRB] using h
    obtain ⟨e1, e2⟩ := sum_same hv.1 hv.2
    obtain ⟨f1, f2, f3⟩ := inf_fit (sumR n c l n' c' l') (sumC n c l bd n' c' l' bd')
    have k := specAdd_val A A' n n' cap cap' HC HC' bd bd' c l c' l' (valid_12 hv.1) (valid_12 hv.2) w hr hr' hv.1 hv.2 (wrap64 (bd + bd')) (Lib.hid (IntWalk.i64_left _))
    rw [f1, f2, f3]
    rw [← e1, ← e2] at k
    exact k
  | false =>
    have k := specAdd_not A A' n n' cap cap' bd bd' c l c' l' hn hn' w hr hr' h
    have g : infB false (sumR n c l n' c' l').length (rC (sumR n c l n' c' l')) (rL (sumR n c l n' c' l')) (capB (sumC n c l bd n' c' l' bd')) = false := rfl
    have g1 : infN false (sumR n c l n' c' l').length (rC (sumR n c l n' c' l')) (rL (sumR n c l n' c' l')) (capB (sumC n c l bd n' c' l' bd')) = 0 := by unfold infN; rw [g]; rfl
    have g2 : infD false (sumR n c l n' c' l').length (rC (sumR n c l n' c' l')) (rL (sumR n c l n' c' l')) (capB (sumC n c l bd n' c' l' bd')) = 0 := by unfold infD; rw [g]; rfl
    rw [g, g1, g2]
    exact k.mono fun e w' ⟨A, cap, he, _, hb⟩ => ⟨A, cap, he, .inl rfl, hb⟩
theorem implAdd_gen (A A' : Option Addr) (n n' cap cap' : Nat) (hcap : n ≤ cap) (hcap' : n' ≤ cap') (bd bd' : Int) (c l c' l' : Nat → Int) (hn : n ≤ 1048576) (hn' : n' ≤ 1048576) (w : World) (hr : Rd w w.heap.size A n c l) (hr' : Rd w w.heap.size A' n' c' l') :
    Calls Try.prog 36 #[.agg #[.slice A n cap, .int .i64 bd], .agg #[.slice A' n' cap', .int .i64 bd']] w
      (CRes w (sumN n c l bd n' c' l' bd') (rC (sumR n c l n' c' l')) (rL (sumR n c l n' c' l')) (sumD n c l bd n' c' l' bd') (sumB n c l bd n' c' l' bd')) :=
  implAdd_any A A' n n' cap cap' hcap hcap' bd bd' c l c' l' hn hn' w hr hr'
theorem sumR_len {n n' : Nat} (c l c' l' : Nat → Int) : (sumR n c l n' c' l').length ≤ n + n' := by
  have h1 := addR_len (prs (lst c l 0 n) (lst c' l' 0 n'))
  have h2 := mrg_len ((lst c l 0 n).length + (lst c' l' 0 n').length) (lst c l 0 n) (lst c' l' 0 n')
  unfold sumR prs at *
  rw [lst_len, lst_len] at h1 h2 ⊢
  omega
theorem sumN_le {n n' : Nat} (c l c' l' : Nat → Int) (bd bd' : Int) : sumN n c l bd n' c' l' bd' ≤ n + n' :=
  Nat.le_trans (infN_le _ _ _ _ _) (sumR_len c l c' l')

/-- The sum's rows and bound, off the terms. -/
theorem sum_val {N N' : Nat} {c l c' l' : Nat → Int} {bd bd' : Int} (hv : validB N c l bd = true) (hv' : validB N' c' l' bd' = true) :
    sumR N c l N' c' l' = rowsN (fun v => S (lst c l 0 N) v + S (lst c' l' 0 N') v) 12 ∧
    sumC N c l bd N' c' l' bd' = bndN (fun v => S (lst c l 0 N) v + S (lst c' l' 0 N') v) (bd + bd' - Ng (lst c l 0 N) - Ng (lst c' l' 0 N')) 12 := by
  have hN := valid_12 hv
  have hN' := valid_12 hv'
  have hall := allN_cat (valid_all hv) (valid_all hv')
  have b1 := valid_bd hv
  have b2 := valid_bd hv'
  have hw : wrap64 (bd + bd') = bd + bd' := w64 (by omega)
  have hnet : net (cat2 N c c') (cat2 N l l') (N + N') = fun v => S (lst c l 0 N) v + S (lst c' l' 0 N') v := by
    funext v
    rw [net_S hall (by omega) v (N + N') (Nat.le_refl _), lst_cat, S_append]
  have hnbd : nbd (cat2 N c c') (cat2 N l l') (bd + bd') (N + N') = bd + bd' - Ng (lst c l 0 N) - Ng (lst c' l' 0 N') := by
    rw [nbd_Ng hall (by omega) (by omega) (N + N') (Nat.le_refl _), lst_cat, Ng_append]
    omega
  obtain ⟨h1, h2⟩ := sum_same hv hv'
  rw [hw, hnet, hnbd] at h2
  rw [hnet] at h1
  unfold sumC
  rw [hw]
  exact ⟨h1, h2⟩
theorem sum_iff {N N' : Nat} {c l c' l' : Nat → Int} {bd bd' : Int} (h : sumB N c l bd N' c' l' bd' = true) : validB N c l bd = true ∧ validB N' c' l' bd' = true ∧ fitB (sumR N c l N' c' l') (sumC N c l bd N' c' l' bd') = true ∧ sumN N c l bd N' c' l' bd' = fitN (sumR N c l N' c' l') (sumC N c l bd N' c' l' bd') ∧ sumD N c l bd N' c' l' bd' = fitD (sumR N c l N' c' l') (sumC N c l bd N' c' l' bd') := by
  obtain ⟨h1, h2⟩ := infB_iff.1 h
  have hv : validB N c l bd = true ∧ validB N' c' l' bd' = true := by simpa [adRB] using h1
  obtain ⟨f1, f2, f3⟩ := inf_fit (sumR N c l N' c' l') (sumC N c l bd N' c' l' bd')
  unfold sumN sumD
  rw [h1]
  exact ⟨hv.1, hv.2, h2, f1, f2⟩
theorem sum_comm {N N' : Nat} {c l c' l' : Nat → Int} {bd bd' : Int} (h : sumB N c l bd N' c' l' bd' = true) : sumR N' c' l' N c l = sumR N c l N' c' l' ∧ sumN N' c' l' bd' N c l bd = sumN N c l bd N' c' l' bd' ∧ sumD N' c' l' bd' N c l bd = sumD N c l bd N' c' l' bd' ∧ sumB N' c' l' bd' N c l bd = true := by
  obtain ⟨hv, hv', _⟩ := sum_iff h
  obtain ⟨h1, h2⟩ := sum_val hv hv'
  obtain ⟨h3, h4⟩ := sum_val hv' hv
  have e : (fun v => S (lst c' l' 0 N') v + S (lst c l 0 N) v) = fun v => S (lst c l 0 N) v + S (lst c' l' 0 N') v := by funext v; omega
  have e1 : sumR N' c' l' N c l = sumR N c l N' c' l' := by rw [h1, h3, e]
  have e2 : sumC N' c' l' bd' N c l bd = sumC N c l bd N' c' l' bd' := by
    rw [h2, h4, e]
    congr 1
    omega
  have e3 : adRB N' c' l' bd' N c l bd = adRB N c l bd N' c' l' bd' := by unfold adRB; rw [hv, hv']
  have hB := h
  unfold sumN sumD
  unfold sumB at hB ⊢
  rw [e1, e2, e3]
  exact ⟨rfl, rfl, rfl, hB⟩
theorem valid_lits {n : Nat} {c l : Nat → Int} {bd : Int} (h : validB n c l bd = true) : ∀ z ∈ lst c l 0 n, litB z.2 = true := fun z hz => by
  obtain ⟨j, _, hj, rfl⟩ := lst_mem z hz
  exact litAt h (by omega)
/-- Addition is sound. -/
theorem sum_sound {N N' : Nat} {c l c' l' : Nat → Int} {bd bd' : Int} (h : sumB N c l bd N' c' l' bd' = true) (nv : Nat) (v : Nat → Bool) (h1 : evalV N c l bd nv v = true) (h2 : evalV N' c' l' bd' nv v = true) : evalV (sumN N c l bd N' c' l' bd') (rC (sumR N c l N' c' l')) (rL (sumR N c l N' c' l')) (sumD N c l bd N' c' l' bd') nv v = true := by
  obtain ⟨hv, hv', hf, e1, e2⟩ := sum_iff h
  by_cases e : nv = 12
  · subst e
    have hN := valid_12 hv
    have hN' := valid_12 hv'
    have b1 := valid_bd hv
    have b2 := valid_bd hv'
    rw [evalV_sB (by omega) hv, decide_eq_true_eq, sB_tS, tS_S v _ (valid_lits hv)] at h1
    rw [evalV_sB (by omega) hv', decide_eq_true_eq, sB_tS, tS_S v _ (valid_lits hv')] at h2
    rw [e1, e2, fit_eval (by have := sumR_len (n := N) (n' := N') c l c' l'; omega) hf, decide_eq_true_eq]
    obtain ⟨g1, g2⟩ := sum_val hv hv'
    have k1 := Ng_bnd (valid_all hv) N (Nat.le_refl _)
    have k2 := Ng_bnd (valid_all hv') N' (Nat.le_refl _)
    obtain ⟨r1, _, _⟩ := rows_val v (fun u => S (lst c l 0 N) u + S (lst c' l' 0 N') u) (fun u => by
      have s1 := S_bnd (valid_all hv) u N (Nat.le_refl _)
      have s2 := S_bnd (valid_all hv') u N' (Nat.le_refl _)
      constructor <;> omega) (bd + bd' - Ng (lst c l 0 N) - Ng (lst c' l' 0 N')) (by omega) 12 (Nat.le_refl _)
    rw [← g1, ← g2, TT_add] at r1
    omega
  · rw [evalV_len e] at h1
    cases h1
theorem sum_valid {N N' : Nat} {c l c' l' : Nat → Int} {bd bd' : Int} (h : sumB N c l bd N' c' l' bd' = true) : validB (sumN N c l bd N' c' l' bd') (rC (sumR N c l N' c' l')) (rL (sumR N c l N' c' l')) (sumD N c l bd N' c' l' bd') = true := by
  obtain ⟨_, h2⟩ := infB_iff.1 h
  obtain ⟨e1, e2⟩ := inf_of h
  unfold sumN sumD
  rw [e1, e2]
  exact h2
end Go.Proofs.Ytipblbcedkhmbaa

namespace Go.Proofs.Ytipblbcedkhmbaa
open Go.ChangeShapes Go.WideShapes Go.ChangeAt Go.RowKit

theorem lit_valid {n : Int} (h : litB n = true) : validB 1 one1 (fun _ => n) 0 = true := by
  simp [validB, vtB, okAt, one1, h]
theorem lit_eval {n : Int} (h : litB n = true) (v : Nat → Bool) : evalV 1 one1 (fun _ => n) 0 12 v = true := by
  rw [evalV_sB (by omega) (lit_valid h), decide_eq_true_eq]
  exact (sB_le (coef_of (lit_valid h))).1
theorem litN_le (n : Int) : litN n ≤ 1048576 := by unfold litN; split <;> omega
/-- The axiom added to a constraint. -/
theorem licFacts (A : Option Addr) (k cap : Nat) (c l : Nat → Int) (bd n : Int) (hk : k ≤ 13) (hc : CapOk A k cap) (hn : litB n = true) : ∃ (N : Nat) (C L : Nat → Int) (BD : Int) (OK : Bool), N ≤ 1048576 ∧
    (∀ A' cap' W, litN n ≤ cap' → Rd W W.heap.size A k c l → Rd W W.heap.size A' (litN n) one1 (fun _ => n) → Calls Try.prog 36 #[.agg #[.slice A k cap, .int .i64 bd], .agg #[.slice A' (litN n) cap', .int .i64 0]] W (CRes W N C L BD OK)) ∧
    evalV (litN n) one1 (fun _ => n) 0 12 = (fun _ => true) ∧
    (OK = true → ∀ v, evalV k c l bd 12 v = true → evalV N C L BD 12 v = true) := by
  have e : litN n = 1 := by unfold litN; rw [if_pos hn]
  rw [e]
  refine ⟨sumN k c l bd 1 one1 (fun _ => n) 0, rC (sumR k c l 1 one1 (fun _ => n)), rL (sumR k c l 1 one1 (fun _ => n)), sumD k c l bd 1 one1 (fun _ => n) 0, sumB k c l bd 1 one1 (fun _ => n) 0, ?_, fun A' cap' W hc' h h' => implAdd_gen A A' k 1 cap cap' hc.2 hc' bd 0 c l one1 (fun _ => n) (by omega) (by omega) W h h', ?_, fun hok v h1 => sum_sound hok 12 v h1 (lit_eval hn v)⟩
  · have := sumN_le (n := k) (n' := 1) c l one1 (fun _ => n) bd 0
    omega
  · funext v
    exact lit_eval hn v
end Go.Proofs.Ytipblbcedkhmbaa

namespace Go.Proofs.Ytipblbcedkhmbaa
open Go.ChangeShapes Go.WideShapes Go.ChangeAt Go.RowKit Go.Shelf

set_option linter.unusedVariables false in
set_option maxRecDepth 100000 in
set_option maxHeartbeats 6400000 in
theorem lawFnLiteralAxiom_ok (A0 : Option Addr) (A1 : Option Addr) (n0 cap0 n1 cap1 : Nat) (y0 y1 : Nat → Int) (w : World) (h0 : n0 ≤ 1048576) (h1 : n1 ≤ 1048576) (hc0 : n0 ≤ cap0) (hr0 : RdY w w.heap.size A0 n0 y0) (hc1 : n1 ≤ cap1) (hr1 : RdY w w.heap.size A1 n1 y1) :
    Calls Try.prog 7 #[.slice A0 n0 cap0, .slice A1 n1 cap1] w fun e w' => e = .returned (.bool true) ∧ Below w.heap.size w w' := by
  have hm0 : n0 ≤ maxLen := by unfold maxLen; omega
  have hm1 : n1 ≤ maxLen := by unfold maxLen; omega
  have hi0 : ¬ (1048576 : Int) < (n0 : Int) := by omega
  have hi1 : ¬ (1048576 : Int) < (n1 : Int) := by omega
  go_enter Try.func7, Try.ntmps7
  go_wp2_with fail
  refine (drawLit_any _ _ _ y0 _ hm0 hc0 hr0).mono ?_
  rintro e w1 ⟨n, rfl, hb⟩
  have HB1 := Lib.hid hb
  clear hb
  go_wp2_with fail
  refine (drawEvalC_any _ _ _ y1 _ hm1 hc1 (hr1.later HB1.out)).mono ?_
  rintro e w2 ⟨Ac, k, capc, bd, c, l, Av, kv, capv, v, rfl, hk, hkv, hrc, hcc, hrv, hb⟩
  have HB2 := Lib.hid (bl_trans HB1.out hb)
  have Hc_2 := Lib.hid hrc
  have Hv_2 := Lib.hid hrv
  have hkB : k ≤ 1048576 := by omega
  have HCc := Lib.hid hcc
  clear hrc hcc hrv
  clear hb HB1
  have hN := litN_le n
  have HSame := Lib.hid (same_refl' (litN n) one1 (fun _ => n) 0)
  go_wp2_with fail
  have HAl := Lib.hid (bl_alloc (Below.refl w2.heap.size w2) (.cells #[.slice Ac k capc, .int .i64 bd] 27))
  have a0 : (w2.alloc (.cells #[.slice Ac k capc, .int .i64 bd] 27)).cell? ⟨w2.heap.size, 0, none⟩ = some (.slice Ac k capc) := by go_simp
  have a1 : (w2.alloc (.cells #[.slice Ac k capc, .int .i64 bd] 27)).cell? ⟨w2.heap.size, 1, none⟩ = some (.int .i64 bd) := by go_simp
  refine (implLitC n _).mono ?_
  rintro e w3 ⟨Ax, capx, rfl, hfx, hb1, hcx⟩
  have hb := bl_trans HAl.out hb1
  have HB3 := Lib.hid (bl_trans HB2.out hb)
  have Hc_3 := Lib.hid (Hc_2.out.later hb)
  have Hv_3 := Lib.hid (Hv_2.out.later hb)
  have Hx_3 := Lib.hid hfx.rdAt
  replace a0 := kc hb1 a0
  replace a1 := kc hb1 a1
  have za : w2.heap.size < w3.heap.size := World.block_lt_of_cell? w3 ⟨w2.heap.size, 0, none⟩ a0
  clear hfx
  clear hb hb1 HB2 Hc_2 Hv_2 HAl
  go_wp2_with fail
  have HAl := Lib.hid (bl_alloc (Below.refl w3.heap.size w3) (.cells #[.slice Ax (litN n) capx, .int .i64 0] 27))
  have b0 : (w3.alloc (.cells #[.slice Ax (litN n) capx, .int .i64 0] 27)).cell? ⟨w3.heap.size, 0, none⟩ = some (.slice Ax (litN n) capx) := by go_simp
  have b1 : (w3.alloc (.cells #[.slice Ax (litN n) capx, .int .i64 0] 27)).cell? ⟨w3.heap.size, 1, none⟩ = some (.int .i64 0) := by go_simp
  replace a0 := kc HAl.out a0
  replace a1 := kc HAl.out a1
  refine (specLit_any n _).mono ?_
  rintro e w4 ⟨As, caps, rfl, hfs, hb1⟩
  have hb := bl_trans HAl.out hb1
  have HB4 := Lib.hid (bl_trans HB3.out hb)
  have Hc_4 := Lib.hid (Hc_3.out.later hb)
  have Hv_4 := Lib.hid (Hv_3.out.later hb)
  have Hx_4 := Lib.hid (Hx_3.out.later hb)
  have Hs_4 := Lib.hid hfs.rdAt
  replace a0 := kc hb1 a0
  replace a1 := kc hb1 a1
  replace b0 := kc hb1 b0
  replace b1 := kc hb1 b1
  clear za
  have za : w2.heap.size < w4.heap.size := World.block_lt_of_cell? w4 ⟨w2.heap.size, 0, none⟩ a0
  have zb : w3.heap.size < w4.heap.size := World.block_lt_of_cell? w4 ⟨w3.heap.size, 0, none⟩ b0
  clear hfs
  clear hb hb1 HB3 Hc_3 Hv_3 Hx_3 HAl
  cases hlb : litB n with
  | false =>
    clear hlb
    clear Hc_4 Hv_4
    clear a0 a1 za
    go_wp2_with fail
    have HAl := Lib.hid (bl_alloc (Below.refl w4.heap.size w4) (.cells #[.slice As (litN n) caps, .int .i64 0] 27))
    have d0 : (w4.alloc (.cells #[.slice As (litN n) caps, .int .i64 0] 27)).cell? ⟨w4.heap.size, 0, none⟩ = some (.slice As (litN n) caps) := by go_simp
    have d1 : (w4.alloc (.cells #[.slice As (litN n) caps, .int .i64 0] 27)).cell? ⟨w4.heap.size, 1, none⟩ = some (.int .i64 0) := by go_simp
    replace b0 := kc HAl.out b0
    replace b1 := kc HAl.out b1
    refine (implSame_any _ _ _ _ _ _ _ _ one1 (fun _ => n) one1 (fun _ => n) _ hN (Hx_4.out.later HAl.out) (Hs_4.out.later HAl.out)).mono ?_
    rintro e w5 ⟨rfl, hb1⟩
    have hb := bl_trans HAl.out hb1
    have HB5 := Lib.hid (bl_trans HB4.out hb)
    have Hx_5 := Lib.hid (Hx_4.out.later hb)
    have Hs_5 := Lib.hid (Hs_4.out.later hb)
    replace b0 := kc hb1 b0
    replace b1 := kc hb1 b1
    replace d0 := kc hb1 d0
    replace d1 := kc hb1 d1
    clear zb
    have zb : w3.heap.size < w5.heap.size := World.block_lt_of_cell? w5 ⟨w3.heap.size, 0, none⟩ b0
    have zd : w4.heap.size < w5.heap.size := World.block_lt_of_cell? w5 ⟨w4.heap.size, 0, none⟩ d0
    clear hb hb1 HB4 Hx_4 Hs_4 HAl
    rw [HSame.out]
    go_wp2_with fail
    refine (implSame_any _ _ _ _ _ _ _ _ one1 (fun _ => n) one1 (fun _ => n) _ hN Hx_5.out Hs_5.out).mono ?_
    rintro e w6 ⟨rfl, hb⟩
    have HB6 := Lib.hid (bl_trans HB5.out hb)
    replace b0 := kc hb b0
    replace b1 := kc hb b1
    replace d0 := kc hb d0
    replace d1 := kc hb d1
    clear zb zd
    have zb : w3.heap.size < w6.heap.size := World.block_lt_of_cell? w6 ⟨w3.heap.size, 0, none⟩ b0
    have zd : w4.heap.size < w6.heap.size := World.block_lt_of_cell? w6 ⟨w4.heap.size, 0, none⟩ d0
    clear hb HB5 Hx_5 Hs_5
    rw [HSame.out]
    go_wp2
    go_ret
    exact ⟨rfl, HB6.out⟩
  | true =>
    obtain ⟨N2, C2, L2, B2, OK2, hN2, hA, hE1, hE2⟩ := licFacts Ac k capc c l bd n hk HCc.out hlb
    have HA := Lib.hid (fun W => hA Ax capx W hcx)
    have HE1 := Lib.hid hE1
    have HE2 := Lib.hid hE2
    clear hA hE1 hE2 hlb
    go_wp2_with fail
    have HAl := Lib.hid (bl_alloc (Below.refl w4.heap.size w4) (.cells #[.slice As (litN n) caps, .int .i64 0] 27))
    have d0 : (w4.alloc (.cells #[.slice As (litN n) caps, .int .i64 0] 27)).cell? ⟨w4.heap.size, 0, none⟩ = some (.slice As (litN n) caps) := by go_simp
    have d1 : (w4.alloc (.cells #[.slice As (litN n) caps, .int .i64 0] 27)).cell? ⟨w4.heap.size, 1, none⟩ = some (.int .i64 0) := by go_simp
    replace a0 := kc HAl.out a0
    replace a1 := kc HAl.out a1
    replace b0 := kc HAl.out b0
    replace b1 := kc HAl.out b1
    refine (implSame_any _ _ _ _ _ _ _ _ one1 (fun _ => n) one1 (fun _ => n) _ hN (Hx_4.out.later HAl.out) (Hs_4.out.later HAl.out)).mono ?_
    rintro e w5 ⟨rfl, hb1⟩
    have hb := bl_trans HAl.out hb1
    have HB5 := Lib.hid (bl_trans HB4.out hb)
    have Hc_5 := Lib.hid (Hc_4.out.later hb)
    have Hv_5 := Lib.hid (Hv_4.out.later hb)
    have Hx_5 := Lib.hid (Hx_4.out.later hb)
    replace a0 := kc hb1 a0
    replace a1 := kc hb1 a1
    replace b0 := kc hb1 b0
    replace b1 := kc hb1 b1
    replace d0 := kc hb1 d0
    replace d1 := kc hb1 d1
    clear za zb
    have za : w2.heap.size < w5.heap.size := World.block_lt_of_cell? w5 ⟨w2.heap.size, 0, none⟩ a0
    have zb : w3.heap.size < w5.heap.size := World.block_lt_of_cell? w5 ⟨w3.heap.size, 0, none⟩ b0
    have zd : w4.heap.size < w5.heap.size := World.block_lt_of_cell? w5 ⟨w4.heap.size, 0, none⟩ d0
    clear hb hb1 HB4 Hs_4 Hc_4 Hv_4 Hx_4 HAl
    rw [HSame.out]
    clear d0 d1 zd
    go_wp2_with fail
    refine (HA.out _ Hc_5.out Hx_5.out).mono ?_
    rintro e w6 ⟨Ay, capy, rfl, hfy, hb⟩
    have HB6 := Lib.hid (bl_trans HB5.out hb)
    have Hc_6 := Lib.hid (Hc_5.out.later hb)
    have Hv_6 := Lib.hid (Hv_5.out.later hb)
    have Hx_6 := Lib.hid (Hx_5.out.later hb)
    have Hy_6 := Lib.hid hfy.rdAt
    replace a0 := kc hb a0
    replace a1 := kc hb a1
    replace b0 := kc hb b0
    replace b1 := kc hb b1
    clear za zb
    have za : w2.heap.size < w6.heap.size := World.block_lt_of_cell? w6 ⟨w2.heap.size, 0, none⟩ a0
    have zb : w3.heap.size < w6.heap.size := World.block_lt_of_cell? w6 ⟨w3.heap.size, 0, none⟩ b0
    clear hfy HA
    clear hb HB5 Hc_5 Hv_5 Hx_5
    by_cases h12 : kv = 12
    · subst h12
      go_wp2_with fail
      have HAl := Lib.hid (bl_alloc (Below.refl w6.heap.size w6) (.cells #[.slice Ay N2 capy, .int .i64 B2] 27))
      have g0 : (w6.alloc (.cells #[.slice Ay N2 capy, .int .i64 B2] 27)).cell? ⟨w6.heap.size, 0, none⟩ = some (.slice Ay N2 capy) := by go_simp
      have g1 : (w6.alloc (.cells #[.slice Ay N2 capy, .int .i64 B2] 27)).cell? ⟨w6.heap.size, 1, none⟩ = some (.int .i64 B2) := by go_simp
      replace a0 := kc HAl.out a0
      replace a1 := kc HAl.out a1
      replace b0 := kc HAl.out b0
      replace b1 := kc HAl.out b1
      refine (implEval_any _ _ _ _ _ _ _ one1 (fun _ => n) v _ hN (Hx_6.out.later HAl.out) (Hv_6.out.later HAl.out)).mono ?_
      rintro e w7 ⟨rfl, hb1⟩
      have hb := bl_trans HAl.out hb1
      have HB7 := Lib.hid (bl_trans HB6.out hb)
      have Hc_7 := Lib.hid (Hc_6.out.later hb)
      have Hv_7 := Lib.hid (Hv_6.out.later hb)
      have Hy_7 := Lib.hid (Hy_6.out.later hb)
      replace a0 := kc hb1 a0
      replace a1 := kc hb1 a1
      replace b0 := kc hb1 b0
      replace b1 := kc hb1 b1
      replace g0 := kc hb1 g0
      replace g1 := kc hb1 g1
      clear za zb
      have za : w2.heap.size < w7.heap.size := World.block_lt_of_cell? w7 ⟨w2.heap.size, 0, none⟩ a0
      have zb : w3.heap.size < w7.heap.size := World.block_lt_of_cell? w7 ⟨w3.heap.size, 0, none⟩ b0
      have zg : w6.heap.size < w7.heap.size := World.block_lt_of_cell? w7 ⟨w6.heap.size, 0, none⟩ g0
      clear hb hb1 HB6 Hx_6 Hc_6 Hv_6 Hy_6 HAl
      rw [HE1.out]
      clear b0 b1 zb
      cases OK2 with
      | false =>
        clear HE2
        go_wp2
        go_ret
        exact ⟨rfl, HB7.out⟩
      | true =>
        have HE3 := Lib.hid (HE2.out rfl)
        clear HE2
        go_wp2_with fail
        refine (implEval_any _ _ _ _ _ _ _ c l v _ hkB Hc_7.out Hv_7.out).mono ?_
        rintro e w8 ⟨rfl, hb⟩
        have HB8 := Lib.hid (bl_trans HB7.out hb)
        have Hv_8 := Lib.hid (Hv_7.out.later hb)
        have Hy_8 := Lib.hid (Hy_7.out.later hb)
        replace a0 := kc hb a0
        replace a1 := kc hb a1
        replace g0 := kc hb g0
        replace g1 := kc hb g1
        clear za zg
        have za : w2.heap.size < w8.heap.size := World.block_lt_of_cell? w8 ⟨w2.heap.size, 0, none⟩ a0
        have zg : w6.heap.size < w8.heap.size := World.block_lt_of_cell? w8 ⟨w6.heap.size, 0, none⟩ g0
        clear hb HB7 Hc_7 Hv_7 Hy_7
        clear a0 a1 za
        cases hev : evalV k c l bd 12 v with
        | false =>
          clear hev HE3
          go_wp2
          go_ret
          exact ⟨rfl, HB8.out⟩
        | true =>
          have HX := Lib.hid (HE3.out v hev)
          clear hev HE3
          go_wp2_with fail
          refine (implEval_any _ _ _ _ _ _ _ C2 L2 v _ hN2 Hy_8.out Hv_8.out).mono ?_
          rintro e w9 ⟨rfl, hb⟩
          have HB9 := Lib.hid (bl_trans HB8.out hb)
          have Hv_9 := Lib.hid (Hv_8.out.later hb)
          have Hy_9 := Lib.hid (Hy_8.out.later hb)
          replace g0 := kc hb g0
          replace g1 := kc hb g1
          clear zg
          have zg : w6.heap.size < w9.heap.size := World.block_lt_of_cell? w9 ⟨w6.heap.size, 0, none⟩ g0
          clear hb HB8 Hv_8 Hy_8
          rw [HX.out]
          go_wp2
          go_ret
          exact ⟨rfl, HB9.out⟩
    · have hnd : ((kv : Int) != 12) = true := by rw [bne_iff_ne]; omega
      have HL := Lib.hid (evalV_len (n := k) (c := c) (l := l) (bd := bd) (v := v) h12)
      clear h12 HE1 HE2
      cases OK2 with
      | false =>
        go_wp2
        go_ret
        exact ⟨rfl, bl_trans HB6.out (bl_alloc (Below.refl w6.heap.size w6) _)⟩
      | true =>
        go_wp2_with fail
        have HAl := Lib.hid (bl_alloc (Below.refl w6.heap.size w6) (.cells #[.slice Ay N2 capy, .int .i64 B2] 27))
        have g0 : (w6.alloc (.cells #[.slice Ay N2 capy, .int .i64 B2] 27)).cell? ⟨w6.heap.size, 0, none⟩ = some (.slice Ay N2 capy) := by go_simp
        have g1 : (w6.alloc (.cells #[.slice Ay N2 capy, .int .i64 B2] 27)).cell? ⟨w6.heap.size, 1, none⟩ = some (.int .i64 B2) := by go_simp
        replace a0 := kc HAl.out a0
        replace a1 := kc HAl.out a1
        replace b0 := kc HAl.out b0
        replace b1 := kc HAl.out b1
        refine (implEval_any _ _ _ _ _ _ _ c l v _ hkB (Hc_6.out.later HAl.out) (Hv_6.out.later HAl.out)).mono ?_
        rintro e w7 ⟨rfl, hb1⟩
        have hb := bl_trans HAl.out hb1
        have HB7 := Lib.hid (bl_trans HB6.out hb)
        have Hc_7 := Lib.hid (Hc_6.out.later hb)
        have Hv_7 := Lib.hid (Hv_6.out.later hb)
        have Hx_7 := Lib.hid (Hx_6.out.later hb)
        have Hy_7 := Lib.hid (Hy_6.out.later hb)
        replace a0 := kc hb1 a0
        replace a1 := kc hb1 a1
        replace b0 := kc hb1 b0
        replace b1 := kc hb1 b1
        replace g0 := kc hb1 g0
        replace g1 := kc hb1 g1
        clear za zb
        have za : w2.heap.size < w7.heap.size := World.block_lt_of_cell? w7 ⟨w2.heap.size, 0, none⟩ a0
        have zb : w3.heap.size < w7.heap.size := World.block_lt_of_cell? w7 ⟨w3.heap.size, 0, none⟩ b0
        have zg : w6.heap.size < w7.heap.size := World.block_lt_of_cell? w7 ⟨w6.heap.size, 0, none⟩ g0
        clear hb hb1 HB6 Hc_6 Hv_6 Hx_6 Hy_6 HAl
        rw [HL.out]
        go_wp2
        go_ret
        exact ⟨rfl, HB7.out⟩

set_option linter.unusedVariables false in
set_option maxRecDepth 100000 in
set_option maxHeartbeats 1600000 in
theorem lawFnLiteralAxiom_walk (A0 : Option Addr) (n0 cap0 : Nat) (y0 : Nat → Int) (A1 : Option Addr) (n1 cap1 : Nat) (y1 : Nat → Int) (w : World) (hm0 : n0 ≤ maxLen) (hc0 : n0 ≤ cap0) (hr0 : RdY w w.heap.size A0 n0 y0) (hm1 : n1 ≤ maxLen) (hc1 : n1 ≤ cap1) (hr1 : RdY w w.heap.size A1 n1 y1) :
    Calls Try.prog 7 #[.slice A0 n0 cap0, .slice A1 n1 cap1] w fun e w' => e = .returned (.bool true) ∧ Below w.heap.size w w' := by
  by_cases h0 : n0 ≤ 1048576
  · by_cases h1 : n1 ≤ 1048576
    · exact lawFnLiteralAxiom_ok A0 A1 n0 cap0 n1 cap1 y0 y1 w h0 h1 hc0 hr0 hc1 hr1
    · unfold maxLen at hm1
      have hi0 : ¬ (1048576 : Int) < (n0 : Int) := by omega
      have hi1 : (1048576 : Int) < (n1 : Int) := by omega
      go_enter Try.func7, Try.ntmps7
      go_wp2
      go_ret
      exact ⟨rfl, Below.refl _ _⟩
  · unfold maxLen at hm0
    have hi0 : (1048576 : Int) < (n0 : Int) := by omega
    go_enter Try.func7, Try.ntmps7
    go_wp2
    go_ret
    exact ⟨rfl, Below.refl _ _⟩
end Go.Proofs.Ytipblbcedkhmbaa

