/- Partial assignments and the sums under them: plain facts (no claim of its own). Conditions: as each theorem states. · Contracts of the model's and the program's EvalConstraint, whole (no claim of its own). Conditions: as each theorem states. · The contract of the model's EvalConstraint, whole (no claim of its own). Conditions: as each theorem states. · Arithmetic of the laws of multiplication, division and saturation (no claim of its own). Conditions: as each theorem states. · Arithmetic of the law of weakening (no claim of its own). Conditions: as each theorem states. · A weakened constraint is covered (no claim of its own). Conditions: as each theorem states. · The walk of the law FnCoversWeaken (no claim of its own). Conditions: as each theorem states. -/
import Derived.Test.YtipblbcedkhmbaaComA
import Derived.Test.YtipblbcedkhmbaaIntA
import Derived.Test.YtipblbcedkhmbaaSumD
import Derived.Test.YtipblbcedkhmbaaEvaA
import Derived.Test.YtipblbcedkhmbaaSmeA
import Derived.Test.YtipblbcedkhmbaaScaA
import Derived.Test.YtipblbcedkhmbaaWeaA
import Derived.Test.YtipblbcedkhmbaaCovM
import Derived.Test.YtipblbcedkhmbaaWeaB
import Derived.Test.YtipblbcedkhmbaaWecC
import Derived.Test.YtipblbcedkhmbaaCovC
import Derived.Test.YtipblbcedkhmbaaDrwZ
namespace Go.Proofs.Ytipblbcedkhmbaa
open Go.ChangeShapes Go.WideShapes Go.ChangeAt Go.RowKit Go.Shelf

/-- The first k values are -1, 0 or 1. -/
def pvT (v : Nat → Int) : Nat → Bool
  | 0 => true
  | k + 1 => pvT v k && (decide (-1 ≤ v k) && decide (v k ≤ 1))
/-- Whether values are a partial assignment. -/
def pvB (n : Nat) (v : Nat → Int) : Bool := pvT v n && n == 12
theorem pvT_at {v : Nat → Int} {n k : Nat} (h : pvT v n = true) (hk : k < n) : -1 ≤ v k ∧ v k ≤ 1 := by
  induction n with
  | zero => omega
  | succ n ih =>
    unfold pvT at h
    simp only [Bool.and_eq_true, decide_eq_true_eq] at h
    by_cases e : k = n
    · subst e; exact h.2
    · exact ih h.1 (by omega)
theorem pvT_iff {v : Nat → Int} {n : Nat} : pvT v n = true ↔ ∀ i, i < n → -1 ≤ v i ∧ v i ≤ 1 := by
  constructor
  · exact fun h i hi => pvT_at h hi
  · intro h
    induction n with
    | zero => rfl
    | succ n ih =>
      unfold pvT
      rw [ih (fun i hi => h i (by omega))]
      have := h n (by omega)
      simp [this]
theorem pvB_iff {v : Nat → Int} {n : Nat} : pvB n v = true ↔ n = 12 ∧ ∀ i, i < 12 → -1 ≤ v i ∧ v i ≤ 1 := by
  unfold pvB
  rw [Bool.and_eq_true, pvT_iff, beq_iff_eq]
  constructor
  · rintro ⟨h, rfl⟩; exact ⟨rfl, h⟩
  · rintro ⟨rfl, h⟩; exact ⟨h, rfl⟩
theorem pvB_no {v : Nat → Int} {n k : Nat} (hk : k < n) (h : v k < -1 ∨ 1 < v k) : pvB n v = false := by
  cases hb : pvB n v with
  | false => rfl
  | true =>
    obtain ⟨rfl, h1⟩ := pvB_iff.1 hb
    have := h1 k hk
    omega

/-- What a literal is under a partial assignment: 1, -1 or 0. -/
def stV (v : Nat → Int) (l : Int) : Int := if 0 < l then v (l - 1).toNat else -(v (-l - 1).toNat)
theorem stV_bd {v : Nat → Int} {l : Int} (hl : litB l = true) (h : ∀ i, i < 12 → -1 ≤ v i ∧ v i ≤ 1) : -1 ≤ stV v l ∧ stV v l ≤ 1 := by
  obtain ⟨h0, h1, h2⟩ := litB_iff.1 hl
  unfold stV
  split
  · exact h _ (by omega)
  · have := h (-l - 1).toNat (by omega)
    omega
/-- A literal that is not false. -/
def nfP (v : Nat → Int) (l : Int) : Bool := decide (0 ≤ stV v l)

/-- The sum of the coefficients of those of the first k terms whose literals are chosen. -/
def sB (c l : Nat → Int) (P : Int → Bool) : Nat → Int
  | 0 => 0
  | k + 1 => if P (l k) then sB c l P k + c k else sB c l P k
section
variable {c l : Nat → Int} {P : Int → Bool} {k n : Nat} {bd : Int}
theorem sB_yes (h : P (l k) = true) : sB c l P (k + 1) = sB c l P k + c k := by show (if P (l k) then _ else _) = _; rw [if_pos h]
theorem sB_no (h : P (l k) = false) : sB c l P (k + 1) = sB c l P k := by show (if P (l k) then _ else _) = _; rw [if_neg (by rw [h]; decide)]
theorem sB_le (h : ∀ i, i < k → 1 ≤ c i ∧ c i ≤ 1000) : 0 ≤ sB c l P k ∧ sB c l P k ≤ 1000 * (k : Int) := by
  induction k with
  | zero => simp [sB]
  | succ k ih =>
    have h1 := ih (fun i hi => h i (by omega))
    have h2 := h k (by omega)
    unfold sB
    split <;> omega
theorem sumW_sB (hk : k ≤ 1048576) (h : ∀ i, i < k → 1 ≤ c i ∧ c i ≤ 1000) : sumW (sel c l P k) = sB c l P k := by
  induction k with
  | zero => rfl
  | succ k ih =>
    have h1 := ih (by omega) (fun i hi => h i (by omega))
    have h2 := sB_le (l := l) (P := P) (fun i hi => h i (by omega : i < k + 1)) (k := k)
    have h3 := h k (by omega)
    cases hp : P (l k) with
    | true =>
      rw [sel_yes hp, sumW_snoc, h1, sB_yes hp, ← IntWalk.i64_left]
      exact IntWalk.i64_in _ (by omega)
    | false => rw [sel_no hp, h1, sB_no hp]
theorem coef_of (h : validB n c l bd = true) : ∀ i, i < n → 1 ≤ c i ∧ c i ≤ 1000 := fun i hi => by
  unfold validB at h
  rw [Bool.and_eq_true] at h
  exact okAt_coef (vtB_at h.1 hi)
theorem bound_of (h : validB n c l bd = true) : 0 ≤ bd ∧ bd ≤ 20000 := by
  unfold validB at h
  simp only [Bool.and_eq_true, decide_eq_true_eq] at h
  exact h.2
end

/-- The slack of a constraint under a partial assignment. -/
def slk (n : Nat) (c l : Nat → Int) (bd : Int) (v : Nat → Int) : Int := sB c l (nfP v) n - bd
/-- Whether there is one. -/
def slkOk (n : Nat) (c l : Nat → Int) (bd : Int) (nv : Nat) (v : Nat → Int) : Bool := validB n c l bd && pvB nv v
/-- What SlackOf answers. -/
def slkV (n : Nat) (c l : Nat → Int) (bd : Int) (nv : Nat) (v : Nat → Int) : Int := if slkOk n c l bd nv v then slk n c l bd v else 0
theorem slk_bd {n : Nat} {c l : Nat → Int} {bd : Int} {v : Nat → Int} (h : validB n c l bd = true) : -20000 ≤ slk n c l bd v ∧ slk n c l bd v ≤ 1000 * (n : Int) := by
  have h1 := sB_le (l := l) (P := nfP v) (coef_of h)
  have h2 := bound_of h
  unfold slk
  omega
end Go.Proofs.Ytipblbcedkhmbaa

namespace Go.Proofs.Ytipblbcedkhmbaa
open Go.ChangeShapes Go.WideShapes Go.ChangeAt Go.RowKit Go.Shelf

/-- What EvalConstraint answers. -/
def evalV (n : Nat) (c l : Nat → Int) (bd : Int) (nv : Nat) (v : Nat → Bool) : Bool := validB n c l bd && (nv == 12 && decide (bd ≤ evW c l v n))
theorem evalV_inv {n : Nat} {c l : Nat → Int} {bd : Int} {nv : Nat} {v : Nat → Bool} (h : validB n c l bd = false) : evalV n c l bd nv v = false := by simp [evalV, h]
theorem evalV_len {n : Nat} {c l : Nat → Int} {bd : Int} {nv : Nat} {v : Nat → Bool} (h : nv ≠ 12) : evalV n c l bd nv v = false := by simp [evalV, h]
theorem evalV_yes {n : Nat} {c l : Nat → Int} {bd : Int} {v : Nat → Bool} (h : validB n c l bd = true) : evalV n c l bd 12 v = decide (bd ≤ evW c l v n) := by simp [evalV, h]

set_option maxRecDepth 100000 in
set_option maxHeartbeats 1000000 in
theorem implEval_any (A Av : Option Addr) (n cap nv capv : Nat) (bd : Int) (c l : Nat → Int) (v : Nat → Bool) (w : World) (hn : n ≤ 1048576) (hr : Rd w w.heap.size A n c l) (hrv : RdB w w.heap.size Av nv v) :
    Calls Try.prog 22 #[.agg #[.slice A n cap, .int .i64 bd], .slice Av nv capv] w fun e w' => e = .returned (.bool (evalV n c l bd nv v)) ∧ Below w.heap.size w w' := by
  cases hv : validB n c l bd with
  | false =>
    have Hfin := Lib.hid (evalV_inv (nv := nv) (v := v) hv)
    have Hv := Lib.hid hv
    clear hv
    go_enter Try.func22, Try.ntmps22
    go_wp2_with fail
    refine (implValid_any _ _ _ _ c l _ hn (hr.later (bl_alloc (bl_alloc (Below.refl _ _) _) _))).mono ?_
    rintro e w1 ⟨rfl, hb⟩
    have HB1 := Lib.hid (bl_trans (bl_alloc (bl_alloc (Below.refl w.heap.size w) _) _) hb)
    clear hb
    rw [Hv.out]
    go_wp2
    go_ret
    exact ⟨ret_bool Hfin.out.symm, HB1.out⟩
  | true =>
    by_cases hnv : nv = 12
    · subst hnv
      have Hfin := Lib.hid (evalV_yes (v := v) hv)
      have Hv := Lib.hid hv
      clear hv
      go_enter Try.func22, Try.ntmps22
      go_wp2_with fail
      refine (implValid_any _ _ _ _ c l _ hn (hr.later (bl_alloc (bl_alloc (Below.refl _ _) _) _))).mono ?_
      rintro e w1 ⟨rfl, hb⟩
      have HB1 := Lib.hid (bl_trans (bl_alloc (bl_alloc (Below.refl w.heap.size w) _) _) hb)
      have a0 : w1.cell? ⟨w.heap.size, 0, none⟩ = some (.slice A n cap) := kc hb (by go_simp)
      have a1 : w1.cell? ⟨w.heap.size, 1, none⟩ = some (.int .i64 bd) := kc hb (by go_simp)
      have b0 : w1.cell? ⟨w.heap.size + 1, 0, none⟩ = some (.slice Av 12 capv) := kc hb (by go_simp)
      clear hb
      rw [Hv.out]
      go_wp2_with fail
      go_region_held3 (fun w' => w'.cell? ⟨w.heap.size, 0, none⟩ = some (.slice A n cap) ∧ w'.cell? ⟨w.heap.size, 1, none⟩ = some (.int .i64 bd)) (go_keep)
        (first
          | (go_at_call 71; refine (coefsWhere_any _ _ _ _ _ _).mono ?_; rintro e w2 ⟨rfl, t0, t1, hsz, hb⟩; have HB2 := Lib.hid (bl_trans HB1.out.drew hb); replace a0 := kc hb a0; replace a1 := kc hb a1; replace b0 := kc hb b0; clear hb)
          | (go_at_call 70; refine (sumHolds_any _ (w.heap.size + 1) _ _ _ _ _ c l bd v hn _ Hv.out hsz t0 t1 (hr.later HB2.out) b0 (hrv.later HB2.out)).mono ?_; rintro e w3 ⟨rfl, hb⟩; have HB3 := Lib.hid (bl_trans HB2.out hb); replace a0 := kc hb a0; replace a1 := kc hb a1; replace b0 := kc hb b0; clear hb))
      go_wp2
      go_ret
      exact ⟨ret_bool Hfin.out.symm, HB3.out⟩
    · have Hfin := Lib.hid (evalV_len (n := n) (c := c) (l := l) (bd := bd) (v := v) hnv)
      have Hv := Lib.hid hv
      have hd : ((nv : Int) != 12) = true := by rw [bne_iff_ne]; omega
      clear hv hnv
      go_enter Try.func22, Try.ntmps22
      go_wp2_with fail
      refine (implValid_any _ _ _ _ c l _ hn (hr.later (bl_alloc (bl_alloc (Below.refl _ _) _) _))).mono ?_
      rintro e w1 ⟨rfl, hb⟩
      have HB1 := Lib.hid (bl_trans (bl_alloc (bl_alloc (Below.refl w.heap.size w) _) _) hb)
      have b0 : w1.cell? ⟨w.heap.size + 1, 0, none⟩ = some (.slice Av nv capv) := kc hb (by go_simp)
      clear hb
      rw [Hv.out]
      go_wp2
      go_ret
      exact ⟨ret_bool Hfin.out.symm, HB1.out⟩
end Go.Proofs.Ytipblbcedkhmbaa

namespace Go.Proofs.Ytipblbcedkhmbaa
open Go.ChangeShapes Go.WideShapes Go.ChangeAt Go.RowKit Go.Shelf

end Go.Proofs.Ytipblbcedkhmbaa

namespace Go.Proofs.Ytipblbcedkhmbaa
open Go.ChangeShapes Go.WideShapes Go.ChangeAt Go.RowKit

theorem tseq_of {n : Nat} {c l c' l' : Nat → Int} (h : ∀ i, i < n → c i = c' i ∧ l i = l' i) : tseq c l c' l' n = true := by
  induction n with
  | zero => rfl
  | succ n ih =>
    unfold tseq
    obtain ⟨h1, h2⟩ := h n (by omega)
    rw [ih fun i hi => h i (by omega), h1, h2]
    simp [teq]
theorem same_of {n : Nat} {c l c' l' : Nat → Int} {bd bd' : Int} (h : ∀ i, i < n → c i = c' i ∧ l i = l' i) (hb : bd = bd') : same n n c l c' l' bd bd' = true := by
  unfold same
  rw [tseq_of h, hb]
  simp
theorem same_refl' (n : Nat) (c l : Nat → Int) (bd : Int) : same n n c l c l bd bd = true := same_of (fun _ _ => ⟨rfl, rfl⟩) rfl
theorem Frs.to {w : World} {B : Nat} {A : Option Addr} {n : Nat} {c l c' l' : Nat → Int} (h : Frs w B A n c l) (he : ∀ i, i < n → c i = c' i ∧ l i = l' i) : Frs w B A n c' l' := by
  rcases h with h | ⟨G, e, hG, cs, hh, h1, h2⟩
  · exact .inl h
  · refine .inr ⟨G, e, hG, cs, hh, h1, fun i hi => ?_⟩
    obtain ⟨x, y⟩ := h2 i hi
    obtain ⟨e1, e2⟩ := he i hi
    rw [← e1, ← e2]
    exact ⟨x, y⟩
theorem CRes.to {w : World} {n n' : Nat} {c l c' l' : Nat → Int} {bd bd' : Int} {ok ok' : Bool} {e : Ending} {w' : World} (h : CRes w n c l bd ok e w') (hn : n = n') (he : ∀ i, i < n → c i = c' i ∧ l i = l' i) (hb : bd = bd') (hk : ok = ok') : CRes w n' c' l' bd' ok' e w' := by
  subst hn hb hk
  obtain ⟨A, cap, h1, h2, h3⟩ := h
  exact ⟨A, cap, h1, h2.to he, h3⟩

theorem wr64 {x : Int} (h : -9000000000 ≤ x ∧ x ≤ 9000000000) : wrap64 x = x := by rw [← IntWalk.i64_left]; exact IntWalk.i64_in _ (by omega)
theorem mulK_val {x k : Int} (h0 : 0 ≤ x) (h1 : x ≤ 20000) (h2 : 1 ≤ k) (h3 : k ≤ 1000) : mulK x k = x * k ∧ x ≤ x * k := by
  have a : 0 ≤ x * k := Int.mul_nonneg h0 (by omega)
  have b : x * k ≤ 20000 * 1000 := Int.mul_le_mul h1 h3 (by omega) (by omega)
  have d : x * 1 ≤ x * k := Int.mul_le_mul_of_nonneg_left h2 h0
  exact ⟨wr64 (by omega), by omega⟩
theorem divK_le_iff {x k q : Int} (hk : 1 ≤ k) : divK x k ≤ q ↔ x ≤ q * k := by
  unfold divK
  have : (x + k - 1) / k < q + 1 ↔ x + k - 1 < (q + 1) * k := Int.ediv_lt_iff_lt_mul (by omega)
  have e : (q + 1) * k = q * k + k := by rw [Int.add_mul, Int.one_mul]
  rw [e] at this
  omega
theorem divK_mul {x k : Int} (hk : 1 ≤ k) : divK (x * k) k = x := by
  have h1 := (divK_le_iff (x := x * k) (q := x) hk).2 (Int.le_refl _)
  have h2 : ¬ divK (x * k) k ≤ x - 1 := fun h => by
    have := (divK_le_iff hk).1 h
    rw [Int.sub_mul] at this
    omega
  omega
theorem divK_divK {x k n : Int} (hk : 1 ≤ k) (hn : 1 ≤ n) : divK (divK x k) n = divK x (k * n) := by
  have hkn : 1 ≤ k * n := by have := Int.mul_le_mul hk hn (by omega) (by omega); omega
  have h : ∀ q, divK (divK x k) n ≤ q ↔ divK x (k * n) ≤ q := fun q => by
    rw [divK_le_iff hn, divK_le_iff hk, divK_le_iff hkn, Int.mul_assoc, Int.mul_comm n k]
  have h1 := (h (divK x (k * n))).2 (Int.le_refl _)
  have h2 := (h (divK (divK x k) n)).1 (Int.le_refl _)
  omega
theorem divK_ge {x k : Int} (hk : 1 ≤ k) : x ≤ divK x k * k := (divK_le_iff hk).1 (Int.le_refl _)
theorem divK_in {x k b : Int} (h0 : 0 ≤ x) (h1 : x ≤ b) (hk : 1 ≤ k) : 0 ≤ divK x k ∧ divK x k ≤ b ∧ (1 ≤ x → 1 ≤ divK x k) := by
  have hb : b * 1 ≤ b * k := Int.mul_le_mul_of_nonneg_left hk (by omega)
  refine ⟨?_, (divK_le_iff hk).2 (by omega), fun hx => ?_⟩
  · have : ¬ divK x k ≤ -1 := fun h => by have := (divK_le_iff hk).1 h; omega
    omega
  · have : ¬ divK x k ≤ 0 := fun h => by have := (divK_le_iff hk).1 h; omega
    omega

/-- What a law over a drawn constraint, one rule and values needs of the rule's answer. -/
theorem infB_iff {R : Bool} {n : Nat} {c l : Nat → Int} {bd : Int} : infB R n c l bd = true ↔ R = true ∧ validB n c l bd = true := by simp [infB]
theorem inf_of {R : Bool} {n : Nat} {c l : Nat → Int} {bd : Int} (h : infB R n c l bd = true) : infN R n c l bd = n ∧ infD R n c l bd = bd := by
  unfold infN infD
  rw [h]
  exact ⟨rfl, rfl⟩

theorem evalV_sB {n : Nat} {c l : Nat → Int} {bd : Int} {v : Nat → Bool} (hn : n ≤ 1048576) (h : validB n c l bd = true) : evalV n c l bd 12 v = decide (bd ≤ sB c l (trueP v) n) := by
  rw [evalV_yes h]
  unfold evW
  rw [sumW_sB hn (coef_of h)]
theorem sB_mul {n : Nat} {c l : Nat → Int} {k : Int} {P : Int → Bool} (hc : ∀ i, i < n → 1 ≤ c i ∧ c i ≤ 1000) (h2 : 1 ≤ k) (h3 : k ≤ 1000) : sB (fun i => mulK (c i) k) l P n = sB c l P n * k := by
  induction n with
  | zero => simp [sB]
  | succ n ih =>
    have h1 := ih fun i hi => hc i (by omega)
    have hn := hc n (by omega)
    cases hp : P (l n) with
    | true =>
      rw [sB_yes (c := c) hp, sB_yes (c := fun i => mulK (c i) k) hp, h1]
      show _ + mulK (c n) k = _
      rw [(mulK_val (by omega) (by omega) h2 h3).1, Int.add_mul]
    | false => rw [sB_no (c := c) hp, sB_no (c := fun i => mulK (c i) k) hp, h1]
theorem sB_div {n : Nat} {c l : Nat → Int} {k : Int} {P : Int → Bool} (h2 : 1 ≤ k) : sB c l P n ≤ sB (fun i => divK (c i) k) l P n * k := by
  induction n with
  | zero => simp [sB]
  | succ n ih =>
    cases hp : P (l n) with
    | true =>
      rw [sB_yes (c := c) hp, sB_yes (c := fun i => divK (c i) k) hp, Int.add_mul]
      have := divK_ge (x := c n) h2
      show _ + _ ≤ _ + divK (c n) k * k
      omega
    | false => rw [sB_no (c := c) hp, sB_no (c := fun i => divK (c i) k) hp]; exact ih

/-- Multiplication is an equivalence, and division takes it back. -/
theorem mul_law {n : Nat} {c l : Nat → Int} {bd k : Int} (hn : n ≤ 1048576) (h : infB (scaR n c l bd k) n (fun i => mulK (c i) k) l (mulK bd k) = true) :
    (1 ≤ k ∧ k ≤ 1000) ∧ validB n c l bd = true ∧ validB n (fun i => mulK (c i) k) l (mulK bd k) = true ∧ (∀ i, i < n → divK (mulK (c i) k) k = c i) ∧ divK (mulK bd k) k = bd ∧ ∀ nv v, evalV n (fun i => mulK (c i) k) l (mulK bd k) nv v = evalV n c l bd nv v := by
  obtain ⟨hR, hv⟩ := infB_iff.1 h
  obtain ⟨hv0, h2, h3⟩ := scaR_iff.1 hR
  have hb := bound_of hv0
  refine ⟨⟨h2, h3⟩, hv0, hv, fun i hi => ?_, ?_, fun nv v => ?_⟩
  · have := coef_of hv0 i hi
    rw [(mulK_val (by omega) (by omega) h2 h3).1, divK_mul h2]
  · rw [(mulK_val (by omega) (by omega) h2 h3).1, divK_mul h2]
  · by_cases e : nv = 12
    · subst e
      rw [evalV_sB hn hv, evalV_sB hn hv0, sB_mul (coef_of hv0) h2 h3, (mulK_val hb.1 (by omega) h2 h3).1]
      have : bd * k ≤ sB c l (trueP v) n * k ↔ bd ≤ sB c l (trueP v) n := Int.mul_le_mul_right (by omega)
      rw [decide_eq_decide]
      exact this
    · rw [evalV_len e, evalV_len e]

theorem div_valid {n : Nat} {c l : Nat → Int} {bd k : Int} (h : validB n c l bd = true) (h2 : 1 ≤ k) : validB n (fun i => divK (c i) k) l (divK bd k) = true :=
  valid_mk h (fun i hi => by
    have hc := coef_of h i hi
    have := divK_in (x := c i) (k := k) (by omega) hc.2 h2
    exact ⟨this.2.2 hc.1, this.2.1⟩) (divK_in (bound_of h).1 (bound_of h).2 h2).1 (divK_in (bound_of h).1 (bound_of h).2 h2).2.1
theorem div_infB {n : Nat} {c l : Nat → Int} {bd k : Int} (h : validB n c l bd = true) (h2 : 1 ≤ k) (h3 : k ≤ 1000) : infB (scaR n c l bd k) n (fun i => divK (c i) k) l (divK bd k) = true :=
  infB_iff.2 ⟨scaR_iff.2 ⟨h, h2, h3⟩, div_valid h h2⟩
/-- Division is sound. -/
theorem div_law {n : Nat} {c l : Nat → Int} {bd k : Int} (hn : n ≤ 1048576) (h : infB (scaR n c l bd k) n (fun i => divK (c i) k) l (divK bd k) = true) :
    (1 ≤ k ∧ k ≤ 1000) ∧ validB n c l bd = true ∧ validB n (fun i => divK (c i) k) l (divK bd k) = true ∧ ∀ nv v, evalV n c l bd nv v = true → evalV n (fun i => divK (c i) k) l (divK bd k) nv v = true := by
  obtain ⟨hR, hv⟩ := infB_iff.1 h
  obtain ⟨hv0, h2, h3⟩ := scaR_iff.1 hR
  refine ⟨⟨h2, h3⟩, hv0, hv, fun nv v he => ?_⟩
  by_cases e : nv = 12
  · subst e
    rw [evalV_sB hn hv0, decide_eq_true_eq] at he
    rw [evalV_sB hn hv, decide_eq_true_eq, divK_le_iff h2]
    exact Int.le_trans he (sB_div h2)
  · rw [evalV_len e] at he
    cases he
/-- Divisions compose. -/
theorem div_twice {n : Nat} {c l : Nat → Int} {bd k m : Int} (h1 : 1 ≤ k) (h2 : 1 ≤ m) : same n n (fun i => divK (divK (c i) k) m) l (fun i => divK (c i) (k * m)) l (divK (divK bd k) m) (divK bd (k * m)) = true :=
  same_of (fun _ _ => ⟨divK_divK h1 h2, rfl⟩) (divK_divK h1 h2)
end Go.Proofs.Ytipblbcedkhmbaa

namespace Go.Proofs.Ytipblbcedkhmbaa
open Go.ChangeShapes Go.WideShapes Go.ChangeAt Go.RowKit

/-- The sum of the coefficients whose literals hold. -/
def tW (P : Int → Bool) : List (Int × Int) → Int
  | [] => 0
  | z :: zs => (if P z.2 then z.1 else 0) + tW P zs
theorem tW_append (P : Int → Bool) (xs ys : List (Int × Int)) : tW P (xs ++ ys) = tW P xs + tW P ys := by
  induction xs with
  | nil => show tW P ys = 0 + _; omega
  | cons x xs ih => show _ + tW P (xs ++ ys) = _ + _ + _; rw [ih]; omega
theorem lst_end (c l : Nat → Int) : ∀ (m i : Nat), lst c l i (m + 1) = lst c l i m ++ [(c (i + m), l (i + m))] := by
  intro m
  induction m with
  | zero => intro i; rfl
  | succ m ih =>
    intro i
    show (c i, l i) :: lst c l (i + 1) (m + 1) = ((c i, l i) :: lst c l (i + 1) m) ++ _
    rw [ih (i + 1), show i + 1 + m = i + (m + 1) by omega]
    rfl
theorem sB_tW (c l : Nat → Int) (P : Int → Bool) (n : Nat) : sB c l P n = tW P (lst c l 0 n) := by
  induction n with
  | zero => rfl
  | succ n ih =>
    rw [lst_end, tW_append, ← ih, Nat.zero_add]
    show _ = _ + ((if P (l n) then c n else 0) + 0)
    cases hp : P (l n) with
    | true => rw [sB_yes hp, if_pos rfl]; omega
    | false => rw [sB_no hp, if_neg (by decide)]; omega
theorem lst_kept_at : ∀ (R pre : List (Int × Int)), lst (rC (pre ++ R)) (rL (pre ++ R)) pre.length R.length = R := by
  intro R
  induction R with
  | nil => intro pre; rfl
  | cons x R ih =>
    intro pre
    have h := ih (pre ++ [x])
    rw [List.append_assoc, List.length_append] at h
    show (rC (pre ++ x :: R) pre.length, rL (pre ++ x :: R) pre.length) :: lst _ _ (pre.length + 1) R.length = _
    have e : (pre ++ x :: R).getD pre.length (0, 0) = x := by simp
    unfold rC rL
    rw [e]
    exact congrArg _ h
theorem lst_kept (R : List (Int × Int)) : lst (rC R) (rL R) 0 R.length = R := lst_kept_at R []
theorem tW_congr {P Q : Int → Bool} {zs : List (Int × Int)} (h : ∀ z ∈ zs, P z.2 = Q z.2) : tW P zs = tW Q zs := by
  induction zs with
  | nil => rfl
  | cons z zs ih =>
    show (if P z.2 then z.1 else 0) + tW P zs = (if Q z.2 then z.1 else 0) + tW Q zs
    rw [h z (List.mem_cons_self ..), ih fun y hy => h y (List.mem_cons_of_mem _ hy)]
theorem tW_nonneg {P : Int → Bool} {zs : List (Int × Int)} (h : ∀ z ∈ zs, 0 ≤ z.1) : 0 ≤ tW P zs := by
  induction zs with
  | nil => exact Int.le_refl _
  | cons z zs ih =>
    have h1 := ih fun y hy => h y (List.mem_cons_of_mem _ hy)
    have h2 := h z (List.mem_cons_self ..)
    show 0 ≤ (if P z.2 then z.1 else 0) + tW P zs
    split <;> omega
theorem kept_ne {c l : Nat → Int} {v : Int} {n : Nat} : ∀ x ∈ kept c l v n, ab x.2 ≠ v := by
  induction n with
  | zero => intro x hx; cases hx
  | succ n ih =>
    intro x hx
    unfold kept at hx
    split at hx
    · exact ih x hx
    · rename_i h
      rcases List.mem_append.1 hx with h1 | h1
      · exact ih x h1
      · rw [List.mem_singleton.1 h1]
        exact h
theorem kept_mem {c l : Nat → Int} {v : Int} {n k : Nat} (hk : k < n) (h : ab (l k) ≠ v) : (c k, l k) ∈ kept c l v n := by
  induction n with
  | zero => omega
  | succ n ih =>
    unfold kept
    by_cases e : k = n
    · subst e
      rw [if_neg h]
      exact List.mem_append_right _ (List.mem_singleton.2 rfl)
    · have := ih (by omega)
      split
      · exact this
      · exact List.mem_append_left _ this
theorem kept_val {P : Int → Bool} {c l : Nat → Int} {bd v : Int} {n : Nat} (hc : ∀ i, i < n → 1 ≤ c i ∧ c i ≤ 1000) : sB c l P n ≤ tW P (kept c l v n) + (bd - wkB c l bd v n) := by
  induction n with
  | zero => show (0 : Int) ≤ 0 + (bd - bd); omega
  | succ n ih =>
    have h1 := ih fun i hi => hc i (by omega)
    have h2 := hc n (by omega)
    have h3 : sB c l P (n + 1) ≤ sB c l P n + c n ∧ (P (l n) = false → sB c l P (n + 1) = sB c l P n) := by
      cases hp : P (l n) with
      | true => rw [sB_yes hp]; exact ⟨Int.le_refl _, fun h => by cases h⟩
      | false => rw [sB_no hp]; exact ⟨by omega, fun _ => rfl⟩
    by_cases e : ab (l n) = v
    · rw [kept_no e, wkB_yes e]
      omega
    · rw [kept_yes e, wkB_no e, tW_append]
      have e5 : tW P [(c n, l n)] = (if P (l n) then c n else 0) + 0 := rfl
      rw [e5]
      cases hp : P (l n) with
      | true => rw [if_pos rfl]; omega
      | false => rw [if_neg (by decide)]; have := h3.2 hp; omega
theorem kept_rows {n : Nat} {c l : Nat → Int} {bd v : Int} (h : validB n c l bd = true) : ∀ z ∈ kept c l v n, 1 ≤ z.1 ∧ z.1 ≤ 1000 ∧ litB z.2 = true := fun z hz => by
  obtain ⟨j, hj, rfl⟩ := kept_from z hz
  exact ⟨(coef_of h j hj).1, (coef_of h j hj).2, litAt h hj⟩
theorem trueP_upd {v : Nat → Bool} {y : Int} {ix : Nat} (hy : litB y = true) (hne : ab y ≠ (ix : Int) + 1) (z : Bool) : trueP (fun i => if i = ix then z else v i) y = trueP v y := by
  obtain ⟨h0, h1, h2⟩ := litB_iff.1 hy
  unfold trueP
  unfold ab at hne
  by_cases hp : 0 < y
  · rw [if_pos hp, if_pos hp]
    exact if_neg (by split at hne <;> omega)
  · rw [if_neg hp, if_neg hp]
    exact congrArg (!·) (if_neg (by split at hne <;> omega))

/-- Weakening is sound, and leaves nothing of the variable. -/
theorem wea_law {n : Nat} {c l : Nat → Int} {bd kk : Int} (hn : n ≤ 1048576) (h : infB (weaR n c l bd kk) (kept c l kk n).length (rC (kept c l kk n)) (rL (kept c l kk n)) (capB (wkB c l bd kk n)) = true) :
    (1 ≤ kk ∧ kk ≤ 12) ∧ validB n c l bd = true ∧ validB (kept c l kk n).length (rC (kept c l kk n)) (rL (kept c l kk n)) (capB (wkB c l bd kk n)) = true ∧
    (∀ nv v, evalV n c l bd nv v = true → evalV (kept c l kk n).length (rC (kept c l kk n)) (rL (kept c l kk n)) (capB (wkB c l bd kk n)) nv v = true) ∧
    ∀ (v : Nat → Bool) (i : Nat) (z : Bool), kk = (i : Int) + 1 → evalV (kept c l kk n).length (rC (kept c l kk n)) (rL (kept c l kk n)) (capB (wkB c l bd kk n)) 12 (fun j => if j = i then z else v j) = evalV (kept c l kk n).length (rC (kept c l kk n)) (rL (kept c l kk n)) (capB (wkB c l bd kk n)) 12 v := by
  obtain ⟨hR, hv⟩ := infB_iff.1 h
  obtain ⟨hv0, h1, h2⟩ := weaR_iff.1 hR
  have hl : (kept c l kk n).length ≤ 1048576 := Nat.le_trans (kept_le n) hn
  refine ⟨⟨h1, h2⟩, hv0, hv, fun nv v he => ?_, fun v i z hi => ?_⟩
  · by_cases e : nv = 12
    · subst e
      rw [evalV_sB hn hv0, decide_eq_true_eq] at he
      rw [evalV_sB hl hv, decide_eq_true_eq, sB_tW, lst_kept]
      have k1 := kept_val (P := trueP v) (l := l) (bd := bd) (v := kk) (coef_of hv0)
      have k2 := tW_nonneg (P := trueP v) (zs := kept c l kk n) fun y hy => by have := kept_rows hv0 y hy; omega
      unfold capB
      split <;> omega
    · rw [evalV_len e] at he
      cases he
  · rw [evalV_sB hl hv, evalV_sB hl hv, sB_tW, sB_tW, lst_kept, tW_congr fun y hy => trueP_upd (kept_rows hv0 y hy).2.2 (by rw [← hi]; exact kept_ne y hy) z]
end Go.Proofs.Ytipblbcedkhmbaa

namespace Go.Proofs.Ytipblbcedkhmbaa
open Go.ChangeShapes Go.WideShapes Go.ChangeAt Go.RowKit

theorem coefR_of {ys : List (Int × Int)} {t x : Int} (h : ∀ z ∈ ys, z.2 = t → z.1 = x) (hm : ∃ z ∈ ys, z.2 = t) : coefR ys t = x := by
  induction ys with
  | nil => obtain ⟨z, hz, _⟩ := hm; cases hz
  | cons y ys ih =>
    unfold coefR
    split
    · rename_i e
      exact h y (List.mem_cons_self ..) e
    · rename_i e
      obtain ⟨z, hz, hz2⟩ := hm
      rcases List.mem_cons.1 hz with rfl | hz
      · exact absurd hz2 e
      · exact ih (fun u hu => h u (List.mem_cons_of_mem _ hu)) ⟨z, hz, hz2⟩
theorem lit_inj {n : Nat} {c l : Nat → Int} {bd : Int} (h : validB n c l bd = true) {i j : Nat} (hi : i < n) (hj : j < n) (e : l i = l j) : i = j := by
  have hv : vtB c l n = true := by
    unfold validB at h
    rw [Bool.and_eq_true] at h
    exact h.1
  rcases Nat.lt_trichotomy i j with h1 | h1 | h1
  · have := vtB_mono hv j i h1 hj
    rw [e] at this
    omega
  · exact h1
  · have := vtB_mono hv i j h1 hi
    rw [e] at this
    omega
theorem losN_kept {n : Nat} {c l : Nat → Int} {bd kk : Int} (h : validB n c l bd = true) : ∀ k, k ≤ n → losN c l (kept c l kk n) k = bd - wkB c l bd kk k := by
  intro k
  induction k with
  | zero => intro _; show (0 : Int) = bd - bd; omega
  | succ k ih =>
    intro hk
    have h1 := ih (by omega)
    have h2 := coef_of h k (by omega)
    show losN c l (kept c l kk n) k + max0 (c k - coefR (kept c l kk n) (l k)) = _
    rw [h1]
    by_cases e : ab (l k) = kk
    · rw [wkB_yes e, coefR_none (fun z hz ez => kept_ne z hz (by rw [ez]; exact e))]
      unfold max0
      split <;> omega
    · rw [wkB_no e, coefR_of (x := c k) (fun z hz ez => by
        obtain ⟨j, hj, rfl⟩ := kept_from z hz
        have := lit_inj h hj (show k < n by omega) ez
        rw [this]) ⟨_, kept_mem (show k < n by omega) e, rfl⟩]
      unfold max0
      split <;> omega
theorem wea_cov {n : Nat} {c l : Nat → Int} {bd kk : Int} (h : validB n c l bd = true) (hv : validB (kept c l kk n).length (rC (kept c l kk n)) (rL (kept c l kk n)) (capB (wkB c l bd kk n)) = true) :
    covB n c l bd (kept c l kk n).length (rC (kept c l kk n)) (rL (kept c l kk n)) (capB (wkB c l bd kk n)) = true ∨ capB (wkB c l bd kk n) = 0 := by
  have h1 := losN_lst c l (kept c l kk n) n 0
  have h2 := losN_kept (kk := kk) h n (Nat.le_refl _)
  rw [Nat.zero_add, h2] at h1
  have h0 : losN c l (kept c l kk n) 0 = 0 := rfl
  unfold covB
  rw [h, hv, lst_kept, Bool.true_and, Bool.true_and, decide_eq_true_eq]
  unfold capB
  split
  · exact .inr rfl
  · left; omega

theorem cvwFacts (k : Nat) (c l : Nat → Int) (bd kk : Int) (hk : k ≤ 1048576) : ∃ (N : Nat) (C L : Nat → Int) (BD : Int) (OK : Bool), N ≤ 1048576 ∧
    (∀ A cap W, Rd W W.heap.size A k c l → Calls Try.prog 47 #[.agg #[.slice A k cap, .int .i64 bd], .int .i64 kk] W (CReC W N C L BD OK)) ∧
    (∀ A cap W, Rd W W.heap.size A k c l → Calls Try.prog 48 #[.agg #[.slice A k cap, .int .i64 bd], .int .i64 kk] W (CRes W N C L BD OK)) ∧
    (OK = true → covB k c l bd N C L BD = true ∨ BD = 0) := by
  refine ⟨_, rC (kept c l kk k), rL (kept c l kk k), _, _, Nat.le_trans (infN_le _ _ _ _ _) (Nat.le_trans (kept_le k) hk), fun A cap W h => implWeakenC A k cap bd kk c l W hk h, fun A cap W h => specWeaken_any A k cap bd kk c l W hk h, fun hok => ?_⟩
  obtain ⟨h1, hv0, hv, he, hx⟩ := wea_law hk hok
  obtain ⟨e1, e2⟩ := inf_of hok
  rw [e1, e2]
  exact wea_cov hv0 hv
end Go.Proofs.Ytipblbcedkhmbaa

namespace Go.Proofs.Ytipblbcedkhmbaa
open Go.ChangeShapes Go.WideShapes Go.ChangeAt Go.RowKit Go.Shelf

set_option linter.unusedVariables false in
set_option maxRecDepth 100000 in
set_option maxHeartbeats 6400000 in
theorem lawFnCoversWeaken_ok (A0 : Option Addr) (n0 cap0 : Nat) (y0 : Nat → Int) (w : World) (h0 : n0 ≤ 1048576) (hc0 : n0 ≤ cap0) (hr0 : RdY w w.heap.size A0 n0 y0) :
    Calls Try.prog 14 #[.slice A0 n0 cap0] w fun e w' => e = .returned (.bool true) ∧ Below w.heap.size w w' := by
  have hm0 : n0 ≤ maxLen := by unfold maxLen; omega
  have hi0 : ¬ (1048576 : Int) < (n0 : Int) := by omega
  go_enter Try.func14, Try.ntmps14
  go_wp2_with fail
  refine (drawWeaC_any _ _ _ y0 _ hm0 hc0 hr0).mono ?_
  rintro e w1 ⟨Ac, k, capc, bd, c, l, kk, rfl, hk, hrc, hcc, hb⟩
  have HB1 := Lib.hid hb
  have Hc_1 := Lib.hid hrc.rdAt
  have hkB : k ≤ 1048576 := by omega
  have HCc := Lib.hid hcc
  clear hrc hcc
  clear hb
  obtain ⟨N, C, L, BD, OK, hN, hI, hS, hK⟩ := cvwFacts k c l bd kk hkB
  have HI := Lib.hid hI
  have HS := Lib.hid hS
  have HK := Lib.hid hK
  have HSame := Lib.hid (same_refl' N C L BD)
  clear hI hS hK
  go_wp2_with fail
  have HAl := Lib.hid (bl_alloc (Below.refl w1.heap.size w1) (.cells #[.slice Ac k capc, .int .i64 bd] 27))
  have a0 : (w1.alloc (.cells #[.slice Ac k capc, .int .i64 bd] 27)).cell? ⟨w1.heap.size, 0, none⟩ = some (.slice Ac k capc) := by go_simp
  have a1 : (w1.alloc (.cells #[.slice Ac k capc, .int .i64 bd] 27)).cell? ⟨w1.heap.size, 1, none⟩ = some (.int .i64 bd) := by go_simp
  refine (HI.out _ _ _ (Hc_1.out.later HAl.out)).mono ?_
  rintro e w2 ⟨Ax, capx, rfl, hfx, hb1, hcx⟩
  have hb := bl_trans HAl.out hb1
  have HB2 := Lib.hid (bl_trans HB1.out hb)
  have Hc_2 := Lib.hid (Hc_1.out.later hb)
  have Hx_2 := Lib.hid hfx.rdAt
  replace a0 := kc hb1 a0
  replace a1 := kc hb1 a1
  have za : w1.heap.size < w2.heap.size := World.block_lt_of_cell? w2 ⟨w1.heap.size, 0, none⟩ a0
  clear hfx
  clear hb hb1 HB1 Hc_1 HAl
  go_wp2_with fail
  have HAl := Lib.hid (bl_alloc (Below.refl w2.heap.size w2) (.cells #[.slice Ax N capx, .int .i64 BD] 27))
  have b0 : (w2.alloc (.cells #[.slice Ax N capx, .int .i64 BD] 27)).cell? ⟨w2.heap.size, 0, none⟩ = some (.slice Ax N capx) := by go_simp
  have b1 : (w2.alloc (.cells #[.slice Ax N capx, .int .i64 BD] 27)).cell? ⟨w2.heap.size, 1, none⟩ = some (.int .i64 BD) := by go_simp
  replace a0 := kc HAl.out a0
  replace a1 := kc HAl.out a1
  refine (HS.out _ _ _ (Hc_2.out.later HAl.out)).mono ?_
  rintro e w3 ⟨As, caps, rfl, hfs, hb1⟩
  have hb := bl_trans HAl.out hb1
  have HB3 := Lib.hid (bl_trans HB2.out hb)
  have Hc_3 := Lib.hid (Hc_2.out.later hb)
  have Hx_3 := Lib.hid (Hx_2.out.later hb)
  have Hs_3 := Lib.hid hfs.rdAt
  replace a0 := kc hb1 a0
  replace a1 := kc hb1 a1
  replace b0 := kc hb1 b0
  replace b1 := kc hb1 b1
  clear za
  have za : w1.heap.size < w3.heap.size := World.block_lt_of_cell? w3 ⟨w1.heap.size, 0, none⟩ a0
  have zb : w2.heap.size < w3.heap.size := World.block_lt_of_cell? w3 ⟨w2.heap.size, 0, none⟩ b0
  clear hfs HI HS
  clear hb hb1 HB2 Hc_2 Hx_2 HAl
  cases OK with
  | false =>
    clear HK
    clear Hc_3
    clear a0 a1 za
    go_wp2_with fail
    have HAl := Lib.hid (bl_alloc (Below.refl w3.heap.size w3) (.cells #[.slice As N caps, .int .i64 BD] 27))
    have d0 : (w3.alloc (.cells #[.slice As N caps, .int .i64 BD] 27)).cell? ⟨w3.heap.size, 0, none⟩ = some (.slice As N caps) := by go_simp
    have d1 : (w3.alloc (.cells #[.slice As N caps, .int .i64 BD] 27)).cell? ⟨w3.heap.size, 1, none⟩ = some (.int .i64 BD) := by go_simp
    replace b0 := kc HAl.out b0
    replace b1 := kc HAl.out b1
    refine (implSame_any _ _ _ _ _ _ _ _ C L C L _ hN (Hx_3.out.later HAl.out) (Hs_3.out.later HAl.out)).mono ?_
    rintro e w4 ⟨rfl, hb1⟩
    have hb := bl_trans HAl.out hb1
    have HB4 := Lib.hid (bl_trans HB3.out hb)
    have Hx_4 := Lib.hid (Hx_3.out.later hb)
    have Hs_4 := Lib.hid (Hs_3.out.later hb)
    replace b0 := kc hb1 b0
    replace b1 := kc hb1 b1
    replace d0 := kc hb1 d0
    replace d1 := kc hb1 d1
    clear zb
    have zb : w2.heap.size < w4.heap.size := World.block_lt_of_cell? w4 ⟨w2.heap.size, 0, none⟩ b0
    have zd : w3.heap.size < w4.heap.size := World.block_lt_of_cell? w4 ⟨w3.heap.size, 0, none⟩ d0
    clear hb hb1 HB3 Hx_3 Hs_3 HAl
    rw [HSame.out]
    go_wp2_with fail
    refine (implSame_any _ _ _ _ _ _ _ _ C L C L _ hN Hx_4.out Hs_4.out).mono ?_
    rintro e w5 ⟨rfl, hb⟩
    have HB5 := Lib.hid (bl_trans HB4.out hb)
    replace b0 := kc hb b0
    replace b1 := kc hb b1
    replace d0 := kc hb d0
    replace d1 := kc hb d1
    clear zb zd
    have zb : w2.heap.size < w5.heap.size := World.block_lt_of_cell? w5 ⟨w2.heap.size, 0, none⟩ b0
    have zd : w3.heap.size < w5.heap.size := World.block_lt_of_cell? w5 ⟨w3.heap.size, 0, none⟩ d0
    clear hb HB4 Hx_4 Hs_4
    rw [HSame.out]
    go_wp2
    go_ret
    exact ⟨rfl, HB5.out⟩
  | true =>
    have HKt := HK.out rfl
    clear HK
    have HKt := Lib.hid HKt
    go_wp2_with fail
    have HAl := Lib.hid (bl_alloc (Below.refl w3.heap.size w3) (.cells #[.slice As N caps, .int .i64 BD] 27))
    have d0 : (w3.alloc (.cells #[.slice As N caps, .int .i64 BD] 27)).cell? ⟨w3.heap.size, 0, none⟩ = some (.slice As N caps) := by go_simp
    have d1 : (w3.alloc (.cells #[.slice As N caps, .int .i64 BD] 27)).cell? ⟨w3.heap.size, 1, none⟩ = some (.int .i64 BD) := by go_simp
    replace a0 := kc HAl.out a0
    replace a1 := kc HAl.out a1
    replace b0 := kc HAl.out b0
    replace b1 := kc HAl.out b1
    refine (implSame_any _ _ _ _ _ _ _ _ C L C L _ hN (Hx_3.out.later HAl.out) (Hs_3.out.later HAl.out)).mono ?_
    rintro e w4 ⟨rfl, hb1⟩
    have hb := bl_trans HAl.out hb1
    have HB4 := Lib.hid (bl_trans HB3.out hb)
    have Hc_4 := Lib.hid (Hc_3.out.later hb)
    have Hx_4 := Lib.hid (Hx_3.out.later hb)
    replace a0 := kc hb1 a0
    replace a1 := kc hb1 a1
    replace b0 := kc hb1 b0
    replace b1 := kc hb1 b1
    replace d0 := kc hb1 d0
    replace d1 := kc hb1 d1
    clear za zb
    have za : w1.heap.size < w4.heap.size := World.block_lt_of_cell? w4 ⟨w1.heap.size, 0, none⟩ a0
    have zb : w2.heap.size < w4.heap.size := World.block_lt_of_cell? w4 ⟨w2.heap.size, 0, none⟩ b0
    have zd : w3.heap.size < w4.heap.size := World.block_lt_of_cell? w4 ⟨w3.heap.size, 0, none⟩ d0
    clear hb hb1 HB3 Hs_3 Hc_3 Hx_3 HAl
    rw [HSame.out]
    clear d0 d1 zd
    go_wp2_with fail
    refine (implCov_any _ _ _ _ _ _ _ _ c l C L _ hkB hN HCc.out.2 hcx Hc_4.out Hx_4.out).mono ?_
    rintro e w5 ⟨rfl, hb⟩
    have HB5 := Lib.hid (bl_trans HB4.out hb)
    replace a0 := kc hb a0
    replace a1 := kc hb a1
    replace b0 := kc hb b0
    replace b1 := kc hb b1
    clear za zb
    have za : w1.heap.size < w5.heap.size := World.block_lt_of_cell? w5 ⟨w1.heap.size, 0, none⟩ a0
    have zb : w2.heap.size < w5.heap.size := World.block_lt_of_cell? w5 ⟨w2.heap.size, 0, none⟩ b0
    clear hb HB4 Hc_4 Hx_4
    cases hcv : covB k c l bd N C L BD with
    | true =>
      clear hcv
      go_wp2
      go_ret
      exact ⟨rfl, HB5.out⟩
    | false =>
      have hzd : (BD == 0) = true := beq_iff_eq.2 (HKt.out.resolve_left (fun h => by rw [hcv] at h; cases h))
      clear hcv
      go_wp2
      go_ret
      exact ⟨rfl, HB5.out⟩

set_option linter.unusedVariables false in
set_option maxRecDepth 100000 in
set_option maxHeartbeats 1600000 in
theorem lawFnCoversWeaken_walk (A0 : Option Addr) (n0 cap0 : Nat) (y0 : Nat → Int) (w : World) (hm0 : n0 ≤ maxLen) (hc0 : n0 ≤ cap0) (hr0 : RdY w w.heap.size A0 n0 y0) :
    Calls Try.prog 14 #[.slice A0 n0 cap0] w fun e w' => e = .returned (.bool true) ∧ Below w.heap.size w w' := by
  by_cases h0 : n0 ≤ 1048576
  · exact lawFnCoversWeaken_ok A0 n0 cap0 y0 w h0 hc0 hr0
  · unfold maxLen at hm0
    have hi0 : (1048576 : Int) < (n0 : Int) := by omega
    go_enter Try.func14, Try.ntmps14
    go_wp2
    go_ret
    exact ⟨rfl, Below.refl _ _⟩
end Go.Proofs.Ytipblbcedkhmbaa

