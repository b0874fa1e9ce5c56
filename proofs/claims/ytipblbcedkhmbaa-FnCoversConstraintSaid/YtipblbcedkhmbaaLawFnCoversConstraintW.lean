/- Partial assignments and the sums under them: plain facts (no claim of its own). Conditions: as each theorem states. · Contracts of the model's and the program's EvalConstraint, whole (no claim of its own). Conditions: as each theorem states. · The contract of the model's EvalConstraint, whole (no claim of its own). Conditions: as each theorem states. · Arithmetic of the laws of multiplication, division and saturation (no claim of its own). Conditions: as each theorem states. · Covering is sound (no claim of its own). Conditions: as each theorem states. · The walk of the law FnCoversConstraint (no claim of its own). Conditions: as each theorem states. -/
import Derived.Test.YtipblbcedkhmbaaComA
import Derived.Test.YtipblbcedkhmbaaIntA
import Derived.Test.YtipblbcedkhmbaaSumD
import Derived.Test.YtipblbcedkhmbaaEvaA
import Derived.Test.YtipblbcedkhmbaaSmeA
import Derived.Test.YtipblbcedkhmbaaScaA
import Derived.Test.YtipblbcedkhmbaaCovC
import Derived.Test.YtipblbcedkhmbaaDrxC
import Derived.Test.YtipblbcedkhmbaaClsA
namespace Go.Proofs.Ytipblbcedkhmbaa
open Go.ChangeShapes Go.WideShapes Go.ChangeAt Go.RowKit Go.Shelf

/-- The first k values are -1, 0 or 1. -/
def pvT (v : Nat → Int) : Nat → Bool
  | 0 => true
  | k + 1 => pvT v k && (decide (-1 ≤ v k) && decide (v k ≤ 1))
/-- Whether values are a partial assignment. -/
def pvB (n : Nat) (v : Nat → Int) : Bool := pvT v n && n == 12
theorem pvT_at {v : Nat → Int} {n k : Nat} (h : pvT v n = true) (hk : k < n) : -1 ≤ v k ∧ v k ≤ 1 := by
  induction n with
  | zero => omega
  | succ n ih =>
    unfold pvT at h
    simp only [Bool.and_eq_true, decide_eq_true_eq] at h
    by_cases e : k = n
    · subst e; exact h.2
    · exact ih h.1 (by omega)
theorem pvT_iff {v : Nat → Int} {n : Nat} : pvT v n = true ↔ ∀ i, i < n → -1 ≤ v i ∧ v i ≤ 1 := by
  constructor
  · exact fun h i hi => pvT_at h hi
  · intro h
    induction n with
    | zero => rfl
    | succ n ih =>
      unfold pvT
      rw [ih (fun i hi => h i (by omega))]
      have := h n (by omega)
      simp [this]
theorem pvB_iff {v : Nat → Int} {n : Nat} : pvB n v = true ↔ n = 12 ∧ ∀ i, i < 12 → -1 ≤ v i ∧ v i ≤ 1 := by
  unfold pvB
  rw [Bool.and_eq_true, pvT_iff, beq_iff_eq]
  constructor
  · rintro ⟨h, rfl⟩; exact ⟨rfl, h⟩
  · rintro ⟨rfl, h⟩; exact ⟨h, rfl⟩
theorem pvB_no {v : Nat → Int} {n k : Nat} (hk : k < n) (h : v k < -1 ∨ 1 < v k) : pvB n v = false := by
  cases hb : pvB n v with
  | false => rfl
  | true =>
    obtain ⟨rfl, h1⟩ := pvB_iff.1 hb
    have := h1 k hk
    omega

/-- What a literal is under a partial assignment: 1, -1 or 0. -/
def stV (v : Nat → Int) (l : Int) : Int := if 0 < l then v (l - 1).toNat else -(v (-l - 1).toNat)
theorem stV_bd {v : Nat → Int} {l : Int} (hl : litB l = true) (h : ∀ i, i < 12 → -1 ≤ v i ∧ v i ≤ 1) : -1 ≤ stV v l ∧ stV v l ≤ 1 := by
  obtain ⟨h0, h1, h2⟩ := litB_iff.1 hl
  unfold stV
  split
  · exact h _ (by omega)
  · have := h (-l - 1).toNat (by omega)
    omega
/-- A literal that is not false. -/
def nfP (v : Nat → Int) (l : Int) : Bool := decide (0 ≤ stV v l)

/-- The sum of the coefficients of those of the first k terms whose literals are chosen. -/
def sB (c l : Nat → Int) (P : Int → Bool) : Nat → Int
  | 0 => 0
  | k + 1 => if P (l k) then sB c l P k + c k else sB c l P k
section
variable {c l : Nat → Int} {P : Int → Bool} {k n : Nat} {bd : Int}
theorem sB_yes (h : P (l k) = true) : sB c l P (k + 1) = sB c l P k + c k := by show (if P (l k) then _ else _) = _; rw [if_pos h]
theorem sB_no (h : P (l k) = false) : sB c l P (k + 1) = sB c l P k := by show (if P (l k) then _ else _) = _; rw [if_neg (by rw [h]; decide)]
theorem sB_le (h : ∀ i, i < k → 1 ≤ c i ∧ c i ≤ 1000) : 0 ≤ sB c l P k ∧ sB c l P k ≤ 1000 * (k : Int) := by
  induction k with
  | zero => simp [sB]
  | succ k ih =>
    have h1 := ih (fun i hi => h i (by omega))
    have h2 := h k (by omega)
    unfold sB
    split <;> omega
theorem sumW_sB (hk : k ≤ 1048576) (h : ∀ i, i < k → 1 ≤ c i ∧ c i ≤ 1000) : sumW (sel c l P k) = sB c l P k := by
  induction k with
  | zero => rfl
  | succ k ih =>
    have h1 := ih (by omega) (fun i hi => h i (by omega))
    have h2 := sB_le (l := l) (P := P) (fun i hi => h i (by omega : i < k + 1)) (k := k)
    have h3 := h k (by omega)
    cases hp : P (l k) with
    | true =>
      rw [sel_yes hp, sumW_snoc, h1, sB_yes hp, ← IntWalk.i64_left]
      exact IntWalk.i64_in _ (by omega)
    | false => rw [sel_no hp, h1, sB_no hp]
theorem coef_of (h : validB n c l bd = true) : ∀ i, i < n → 1 ≤ c i ∧ c i ≤ 1000 := fun i hi => by
  unfold validB at h
  rw [Bool.and_eq_true] at h
  exact okAt_coef (vtB_at h.1 hi)
theorem bound_of (h : validB n c l bd = true) : 0 ≤ bd ∧ bd ≤ 20000 := by
  unfold validB at h
  simp only [Bool.and_eq_true, decide_eq_true_eq] at h
  exact h.2
end

/-- The slack of a constraint under a partial assignment. -/
def slk (n : Nat) (c l : Nat → Int) (bd : Int) (v : Nat → Int) : Int := sB c l (nfP v) n - bd
/-- Whether there is one. -/
def slkOk (n : Nat) (c l : Nat → Int) (bd : Int) (nv : Nat) (v : Nat → Int) : Bool := validB n c l bd && pvB nv v
/-- What SlackOf answers. -/
def slkV (n : Nat) (c l : Nat → Int) (bd : Int) (nv : Nat) (v : Nat → Int) : Int := if slkOk n c l bd nv v then slk n c l bd v else 0
theorem slk_bd {n : Nat} {c l : Nat → Int} {bd : Int} {v : Nat → Int} (h : validB n c l bd = true) : -20000 ≤ slk n c l bd v ∧ slk n c l bd v ≤ 1000 * (n : Int) := by
  have h1 := sB_le (l := l) (P := nfP v) (coef_of h)
  have h2 := bound_of h
  unfold slk
  omega
end Go.Proofs.Ytipblbcedkhmbaa

namespace Go.Proofs.Ytipblbcedkhmbaa
open Go.ChangeShapes Go.WideShapes Go.ChangeAt Go.RowKit Go.Shelf

/-- What EvalConstraint answers. -/
def evalV (n : Nat) (c l : Nat → Int) (bd : Int) (nv : Nat) (v : Nat → Bool) : Bool := validB n c l bd && (nv == 12 && decide (bd ≤ evW c l v n))
theorem evalV_inv {n : Nat} {c l : Nat → Int} {bd : Int} {nv : Nat} {v : Nat → Bool} (h : validB n c l bd = false) : evalV n c l bd nv v = false := by simp [evalV, h]
theorem evalV_len {n : Nat} {c l : Nat → Int} {bd : Int} {nv : Nat} {v : Nat → Bool} (h : nv ≠ 12) : evalV n c l bd nv v = false := by simp [evalV, h]
theorem evalV_yes {n : Nat} {c l : Nat → Int} {bd : Int} {v : Nat → Bool} (h : validB n c l bd = true) : evalV n c l bd 12 v = decide (bd ≤ evW c l v n) := by simp [evalV, h]

set_option maxRecDepth 100000 in
set_option maxHeartbeats 1000000 in
theorem implEval_any (A Av : Option Addr) (n cap nv capv : Nat) (bd : Int) (c l : Nat → Int) (v : Nat → Bool) (w : World) (hn : n ≤ 1048576) (hr : Rd w w.heap.size A n c l) (hrv : RdB w w.heap.size Av nv v) :
    Calls Try.prog 22 #[.agg #[.slice A n cap, .int .i64 bd], .slice Av nv capv] w fun e w' => e = .returned (.bool (evalV n c l bd nv v)) ∧ Below w.heap.size w w' := by
  cases hv : validB n c l bd with
  | false =>
    have Hfin := Lib.hid (evalV_inv (nv := nv) (v := v) hv)
    have Hv := Lib.hid hv
    clear hv
    go_enter Try.func22, Try.ntmps22
    go_wp2_with fail
    refine (implValid_any _ _ _ _ c l _ hn (hr.later (bl_alloc (bl_alloc (Below.refl _ _) _) _))).mono ?_
    rintro e w1 ⟨rfl, hb⟩
    have HB1 := Lib.hid (bl_trans (bl_alloc (bl_alloc (Below.refl w.heap.size w) _) _) hb)
    clear hb
    rw [Hv.out]
    go_wp2
    go_ret
    exact ⟨ret_bool Hfin.out.symm, HB1.out⟩
  | true =>
    by_cases hnv : nv = 12
    · subst hnv
      have Hfin := Lib.hid (evalV_yes (v := v) hv)
      have Hv := Lib.hid hv
      clear hv
      go_enter Try.func22, Try.ntmps22
      go_wp2_with fail
      refine (implValid_any _ _ _ _ c l _ hn (hr.later (bl_alloc (bl_alloc (Below.refl _ _) _) _))).mono ?_
      rintro e w1 ⟨rfl, hb⟩
      have HB1 := Lib.hid (bl_trans (bl_alloc (bl_alloc (Below.refl w.heap.size w) _) _) hb)
      have a0 : w1.cell? ⟨w.heap.size, 0, none⟩ = some (.slice A n cap) := kc hb (by go_simp)
      have a1 : w1.cell? ⟨w.heap.size, 1, none⟩ = some (.int .i64 bd) := kc hb (by go_simp)
      have b0 : w1.cell? ⟨w.heap.size + 1, 0, none⟩ = some (.slice Av 12 capv) := kc hb (by go_simp)
      clear hb
      rw [Hv.out]
      go_wp2_with fail
      go_region_held3 (fun w' => w'.cell? ⟨w.heap.size, 0, none⟩ = some (.slice A n cap) ∧ w'.cell? ⟨w.heap.size, 1, none⟩ = some (.int .i64 bd)) (go_keep)
        (first
          | (go_at_call 71; refine (coefsWhere_any _ _ _ _ _ _).mono ?_; rintro e w2 ⟨rfl, t0, t1, hsz, hb⟩; have HB2 := Lib.hid (bl_trans HB1.out.drew hb); replace a0 := kc hb a0; replace a1 := kc hb a1; replace b0 := kc hb b0; clear hb)
          | (go_at_call 70; refine (sumHolds_any _ (w.heap.size + 1) _ _ _ _ _ c l bd v hn _ Hv.out hsz t0 t1 (hr.later HB2.out) b0 (hrv.later HB2.out)).mono ?_; rintro e w3 ⟨rfl, hb⟩; have HB3 := Lib.hid (bl_trans HB2.out hb); replace a0 := kc hb a0; replace a1 := kc hb a1; replace b0 := kc hb b0; clear hb))
      go_wp2
      go_ret
      exact ⟨ret_bool Hfin.out.symm, HB3.out⟩
    · have Hfin := Lib.hid (evalV_len (n := n) (c := c) (l := l) (bd := bd) (v := v) hnv)
      have Hv := Lib.hid hv
      have hd : ((nv : Int) != 12) = true := by rw [bne_iff_ne]; omega
      clear hv hnv
      go_enter Try.func22, Try.ntmps22
      go_wp2_with fail
      refine (implValid_any _ _ _ _ c l _ hn (hr.later (bl_alloc (bl_alloc (Below.refl _ _) _) _))).mono ?_
      rintro e w1 ⟨rfl, hb⟩
      have HB1 := Lib.hid (bl_trans (bl_alloc (bl_alloc (Below.refl w.heap.size w) _) _) hb)
      have b0 : w1.cell? ⟨w.heap.size + 1, 0, none⟩ = some (.slice Av nv capv) := kc hb (by go_simp)
      clear hb
      rw [Hv.out]
      go_wp2
      go_ret
      exact ⟨ret_bool Hfin.out.symm, HB1.out⟩
end Go.Proofs.Ytipblbcedkhmbaa

namespace Go.Proofs.Ytipblbcedkhmbaa
open Go.ChangeShapes Go.WideShapes Go.ChangeAt Go.RowKit Go.Shelf

end Go.Proofs.Ytipblbcedkhmbaa

namespace Go.Proofs.Ytipblbcedkhmbaa
open Go.ChangeShapes Go.WideShapes Go.ChangeAt Go.RowKit

theorem tseq_of {n : Nat} {c l c' l' : Nat → Int} (h : ∀ i, i < n → c i = c' i ∧ l i = l' i) : tseq c l c' l' n = true := by
  induction n with
  | zero => rfl
  | succ n ih =>
    unfold tseq
    obtain ⟨h1, h2⟩ := h n (by omega)
    rw [ih fun i hi => h i (by omega), h1, h2]
    simp [teq]
theorem same_of {n : Nat} {c l c' l' : Nat → Int} {bd bd' : Int} (h : ∀ i, i < n → c i = c' i ∧ l i = l' i) (hb : bd = bd') : same n n c l c' l' bd bd' = true := by
  unfold same
  rw [tseq_of h, hb]
  simp
theorem same_refl' (n : Nat) (c l : Nat → Int) (bd : Int) : same n n c l c l bd bd = true := same_of (fun _ _ => ⟨rfl, rfl⟩) rfl
theorem Frs.to {w : World} {B : Nat} {A : Option Addr} {n : Nat} {c l c' l' : Nat → Int} (h : Frs w B A n c l) (he : ∀ i, i < n → c i = c' i ∧ l i = l' i) : Frs w B A n c' l' := by
  rcases h with h | ⟨G, e, hG, cs, hh, h1, h2⟩
  · exact .inl h
  · refine .inr ⟨G, e, hG, cs, hh, h1, fun i hi => ?_⟩
    obtain ⟨x, y⟩ := h2 i hi
    obtain ⟨e1, e2⟩ := he i hi
    rw [← e1, ← e2]
    exact ⟨x, y⟩
theorem CRes.to {w : World} {n n' : Nat} {c l c' l' : Nat → Int} {bd bd' : Int} {ok ok' : Bool} {e : Ending} {w' : World} (h : CRes w n c l bd ok e w') (hn : n = n') (he : ∀ i, i < n → c i = c' i ∧ l i = l' i) (hb : bd = bd') (hk : ok = ok') : CRes w n' c' l' bd' ok' e w' := by
  subst hn hb hk
  obtain ⟨A, cap, h1, h2, h3⟩ := h
  exact ⟨A, cap, h1, h2.to he, h3⟩

theorem wr64 {x : Int} (h : -9000000000 ≤ x ∧ x ≤ 9000000000) : wrap64 x = x := by rw [← IntWalk.i64_left]; exact IntWalk.i64_in _ (by omega)
theorem mulK_val {x k : Int} (h0 : 0 ≤ x) (h1 : x ≤ 20000) (h2 : 1 ≤ k) (h3 : k ≤ 1000) : mulK x k = x * k ∧ x ≤ x * k := by
  have a : 0 ≤ x * k := Int.mul_nonneg h0 (by omega)
  have b : x * k ≤ 20000 * 1000 := Int.mul_le_mul h1 h3 (by omega) (by omega)
  have d : x * 1 ≤ x * k := Int.mul_le_mul_of_nonneg_left h2 h0
  exact ⟨wr64 (by omega), by omega⟩
theorem divK_le_iff {x k q : Int} (hk : 1 ≤ k) : divK x k ≤ q ↔ x ≤ q * k := by
  unfold divK
  have : (x + k - 1) / k < q + 1 ↔ x + k - 1 < (q + 1) * k := Int.ediv_lt_iff_lt_mul (by omega)
  have e : (q + 1) * k = q * k + k := by rw [Int.add_mul, Int.one_mul]
  rw [e] at this
  omega
theorem divK_mul {x k : Int} (hk : 1 ≤ k) : divK (x * k) k = x := by
  have h1 := (divK_le_iff (x := x * k) (q := x) hk).2 (Int.le_refl _)
  have h2 : ¬ divK (x * k) k ≤ x - 1 := fun h => by
    have := (divK_le_iff hk).1 h
    rw [Int.sub_mul] at this
    omega
  omega
theorem divK_divK {x k n : Int} (hk : 1 ≤ k) (hn : 1 ≤ n) : divK (divK x k) n = divK x (k * n) := by
  have hkn : 1 ≤ k * n := by have := Int.mul_le_mul hk hn (by omega) (by omega); omega
  have h : ∀ q, divK (divK x k) n ≤ q ↔ divK x (k * n) ≤ q := fun q => by
    rw [divK_le_iff hn, divK_le_iff hk, divK_le_iff hkn, Int.mul_assoc, Int.mul_comm n k]
  have h1 := (h (divK x (k * n))).2 (Int.le_refl _)
  have h2 := (h (divK (divK x k) n)).1 (Int.le_refl _)
  omega
theorem divK_ge {x k : Int} (hk : 1 ≤ k) : x ≤ divK x k * k := (divK_le_iff hk).1 (Int.le_refl _)
theorem divK_in {x k b : Int} (h0 : 0 ≤ x) (h1 : x ≤ b) (hk : 1 ≤ k) : 0 ≤ divK x k ∧ divK x k ≤ b ∧ (1 ≤ x → 1 ≤ divK x k) := by
  have hb : b * 1 ≤ b * k := Int.mul_le_mul_of_nonneg_left hk (by omega)
  refine ⟨?_, (divK_le_iff hk).2 (by omega), fun hx => ?_⟩
  · have : ¬ divK x k ≤ -1 := fun h => by have := (divK_le_iff hk).1 h; omega
    omega
  · have : ¬ divK x k ≤ 0 := fun h => by have := (divK_le_iff hk).1 h; omega
    omega

/-- What a law over a drawn constraint, one rule and values needs of the rule's answer. -/
theorem infB_iff {R : Bool} {n : Nat} {c l : Nat → Int} {bd : Int} : infB R n c l bd = true ↔ R = true ∧ validB n c l bd = true := by simp [infB]
theorem inf_of {R : Bool} {n : Nat} {c l : Nat → Int} {bd : Int} (h : infB R n c l bd = true) : infN R n c l bd = n ∧ infD R n c l bd = bd := by
  unfold infN infD
  rw [h]
  exact ⟨rfl, rfl⟩

theorem evalV_sB {n : Nat} {c l : Nat → Int} {bd : Int} {v : Nat → Bool} (hn : n ≤ 1048576) (h : validB n c l bd = true) : evalV n c l bd 12 v = decide (bd ≤ sB c l (trueP v) n) := by
  rw [evalV_yes h]
  unfold evW
  rw [sumW_sB hn (coef_of h)]
theorem sB_mul {n : Nat} {c l : Nat → Int} {k : Int} {P : Int → Bool} (hc : ∀ i, i < n → 1 ≤ c i ∧ c i ≤ 1000) (h2 : 1 ≤ k) (h3 : k ≤ 1000) : sB (fun i => mulK (c i) k) l P n = sB c l P n * k := by
  induction n with
  | zero => simp [sB]
  | succ n ih =>
    have h1 := ih fun i hi => hc i (by omega)
    have hn := hc n (by omega)
    cases hp : P (l n) with
    | true =>
      rw [sB_yes (c := c) hp, sB_yes (c := fun i => mulK (c i) k) hp, h1]
      show _ + mulK (c n) k = _
      rw [(mulK_val (by omega) (by omega) h2 h3).1, Int.add_mul]
    | false => rw [sB_no (c := c) hp, sB_no (c := fun i => mulK (c i) k) hp, h1]
theorem sB_div {n : Nat} {c l : Nat → Int} {k : Int} {P : Int → Bool} (h2 : 1 ≤ k) : sB c l P n ≤ sB (fun i => divK (c i) k) l P n * k := by
  induction n with
  | zero => simp [sB]
  | succ n ih =>
    cases hp : P (l n) with
    | true =>
      rw [sB_yes (c := c) hp, sB_yes (c := fun i => divK (c i) k) hp, Int.add_mul]
      have := divK_ge (x := c n) h2
      show _ + _ ≤ _ + divK (c n) k * k
      omega
    | false => rw [sB_no (c := c) hp, sB_no (c := fun i => divK (c i) k) hp]; exact ih

/-- Multiplication is an equivalence, and division takes it back. -/
theorem mul_law {n : Nat} {c l : Nat → Int} {bd k : Int} (hn : n ≤ 1048576) (h : infB (scaR n c l bd k) n (fun i => mulK (c i) k) l (mulK bd k) = true) :
    (1 ≤ k ∧ k ≤ 1000) ∧ validB n c l bd = true ∧ validB n (fun i => mulK (c i) k) l (mulK bd k) = true ∧ (∀ i, i < n → divK (mulK (c i) k) k = c i) ∧ divK (mulK bd k) k = bd ∧ ∀ nv v, evalV n (fun i => mulK (c i) k) l (mulK bd k) nv v = evalV n c l bd nv v := by
  obtain ⟨hR, hv⟩ := infB_iff.1 h
  obtain ⟨hv0, h2, h3⟩ := scaR_iff.1 hR
  have hb := bound_of hv0
  refine ⟨⟨h2, h3⟩, hv0, hv, fun i hi => ?_, ?_, fun nv v => ?_⟩
  · have := coef_of hv0 i hi
    rw [(mulK_val (by omega) (by omega) h2 h3).1, divK_mul h2]
  · rw [(mulK_val (by omega) (by omega) h2 h3).1, divK_mul h2]
  · by_cases e : nv = 12
    · subst e
      rw [evalV_sB hn hv, evalV_sB hn hv0, sB_mul (coef_of hv0) h2 h3, (mulK_val hb.1 (by omega) h2 h3).1]
      have : bd * k ≤ sB c l (trueP v) n * k ↔ bd ≤ sB c l (trueP v) n := Int.mul_le_mul_right (by omega)
      rw [decide_eq_decide]
      exact this
    · rw [evalV_len e, evalV_len e]

theorem div_valid {n : Nat} {c l : Nat → Int} {bd k : Int} (h : validB n c l bd = true) (h2 : 1 ≤ k) : validB n (fun i => divK (c i) k) l (divK bd k) = true :=
  valid_mk h (fun i hi => by
    have hc := coef_of h i hi
    have := divK_in (x := c i) (k := k) (by omega) hc.2 h2
    exact ⟨this.2.2 hc.1, this.2.1⟩) (divK_in (bound_of h).1 (bound_of h).2 h2).1 (divK_in (bound_of h).1 (bound_of h).2 h2).2.1
theorem div_infB {n : Nat} {c l : Nat → Int} {bd k : Int} (h : validB n c l bd = true) (h2 : 1 ≤ k) (h3 : k ≤ 1000) : infB (scaR n c l bd k) n (fun i => divK (c i) k) l (divK bd k) = true :=
  infB_iff.2 ⟨scaR_iff.2 ⟨h, h2, h3⟩, div_valid h h2⟩
/-- Division is sound. -/
theorem div_law {n : Nat} {c l : Nat → Int} {bd k : Int} (hn : n ≤ 1048576) (h : infB (scaR n c l bd k) n (fun i => divK (c i) k) l (divK bd k) = true) :
    (1 ≤ k ∧ k ≤ 1000) ∧ validB n c l bd = true ∧ validB n (fun i => divK (c i) k) l (divK bd k) = true ∧ ∀ nv v, evalV n c l bd nv v = true → evalV n (fun i => divK (c i) k) l (divK bd k) nv v = true := by
  obtain ⟨hR, hv⟩ := infB_iff.1 h
  obtain ⟨hv0, h2, h3⟩ := scaR_iff.1 hR
  refine ⟨⟨h2, h3⟩, hv0, hv, fun nv v he => ?_⟩
  by_cases e : nv = 12
  · subst e
    rw [evalV_sB hn hv0, decide_eq_true_eq] at he
    rw [evalV_sB hn hv, decide_eq_true_eq, divK_le_iff h2]
    exact Int.le_trans he (sB_div h2)
  · rw [evalV_len e] at he
    cases he
/-- Divisions compose. -/
theorem div_twice {n : Nat} {c l : Nat → Int} {bd k m : Int} (h1 : 1 ≤ k) (h2 : 1 ≤ m) : same n n (fun i => divK (divK (c i) k) m) l (fun i => divK (c i) (k * m)) l (divK (divK bd k) m) (divK bd (k * m)) = true :=
  same_of (fun _ _ => ⟨divK_divK h1 h2, rfl⟩) (divK_divK h1 h2)
end Go.Proofs.Ytipblbcedkhmbaa

namespace Go.Proofs.Ytipblbcedkhmbaa
open Go.ChangeShapes Go.WideShapes Go.ChangeAt Go.RowKit

/-- The sum of the coefficients whose literals hold. -/
def tV (P : Int → Bool) : List (Int × Int) → Int
  | [] => 0
  | z :: zs => (if P z.2 then z.1 else 0) + tV P zs
theorem tV_append (P : Int → Bool) (xs ys : List (Int × Int)) : tV P (xs ++ ys) = tV P xs + tV P ys := by
  induction xs with
  | nil => show tV P ys = 0 + _; omega
  | cons x xs ih => show _ + tV P (xs ++ ys) = _ + _ + _; rw [ih]; omega
theorem lst_tail (c l : Nat → Int) : ∀ (m i : Nat), lst c l i (m + 1) = lst c l i m ++ [(c (i + m), l (i + m))] := by
  intro m
  induction m with
  | zero => intro i; rfl
  | succ m ih =>
    intro i
    show (c i, l i) :: lst c l (i + 1) (m + 1) = ((c i, l i) :: lst c l (i + 1) m) ++ _
    rw [ih (i + 1), show i + 1 + m = i + (m + 1) by omega]
    rfl
theorem sB_tV (c l : Nat → Int) (P : Int → Bool) (n : Nat) : sB c l P n = tV P (lst c l 0 n) := by
  induction n with
  | zero => rfl
  | succ n ih =>
    rw [lst_tail, tV_append, ← ih, Nat.zero_add]
    show _ = _ + ((if P (l n) then c n else 0) + 0)
    cases hp : P (l n) with
    | true => rw [sB_yes hp, if_pos rfl]; omega
    | false => rw [sB_no hp, if_neg (by decide)]; omega
/-- The coefficients in ys of the literals of xs that hold. -/
def cS (P : Int → Bool) (ys : List (Int × Int)) : List (Int × Int) → Int
  | [] => 0
  | x :: xs => (if P x.2 then coefR ys x.2 else 0) + cS P ys xs
theorem tV_los (P : Int → Bool) (ys : List (Int × Int)) : ∀ xs : List (Int × Int), tV P xs ≤ losR xs ys + cS P ys xs := by
  intro xs
  induction xs with
  | nil => show (0 : Int) ≤ 0 + 0; omega
  | cons x xs ih =>
    show (if P x.2 then x.1 else 0) + tV P xs ≤ (max0 (x.1 - coefR ys x.2) + losR xs ys) + ((if P x.2 then coefR ys x.2 else 0) + cS P ys xs)
    have h1 : x.1 - coefR ys x.2 ≤ max0 (x.1 - coefR ys x.2) ∧ 0 ≤ max0 (x.1 - coefR ys x.2) := by
      unfold max0
      split <;> omega
    cases hp : P x.2 with
    | true => rw [if_pos rfl, if_pos rfl]; omega
    | false => rw [if_neg (by decide), if_neg (by decide)]; omega
/-- How much one term adds. -/
def oS (P : Int → Bool) (y : Int × Int) : List (Int × Int) → Int
  | [] => 0
  | x :: xs => (if P x.2 then (if y.2 = x.2 then y.1 else 0) else 0) + oS P y xs
theorem oS_none {P : Int → Bool} {y : Int × Int} : ∀ {xs : List (Int × Int)}, (∀ x ∈ xs, y.2 ≠ x.2) → oS P y xs = 0 := by
  intro xs
  induction xs with
  | nil => intro _; rfl
  | cons x xs ih =>
    intro h
    show (if P x.2 then (if y.2 = x.2 then y.1 else 0) else 0) + oS P y xs = 0
    rw [ih fun z hz => h z (List.mem_cons_of_mem _ hz), if_neg (h x (List.mem_cons_self ..))]
    split <;> rfl
theorem oS_le {P : Int → Bool} {y : Int × Int} (hy : 0 ≤ y.1) : ∀ {xs : List (Int × Int)}, srt xs → oS P y xs ≤ if P y.2 then y.1 else 0 := by
  intro xs
  induction xs with
  | nil => intro _; show (0 : Int) ≤ _; split <;> omega
  | cons x xs ih =>
    intro h
    obtain ⟨_, h2, h3⟩ := h
    show (if P x.2 then (if y.2 = x.2 then y.1 else 0) else 0) + oS P y xs ≤ _
    by_cases e : y.2 = x.2
    · rw [oS_none fun z hz ez => by have := h2 z hz; rw [← ez, ← e] at this; omega, if_pos e, e]
      omega
    · rw [if_neg e]
      have := ih h3
      have h0 : (if P x.2 then (0 : Int) else 0) = 0 := by split <;> rfl
      rw [h0]
      omega
theorem cS_le {P : Int → Bool} {xs : List (Int × Int)} (hx : srt xs) : ∀ {ys : List (Int × Int)}, srt ys → cS P ys xs ≤ tV P ys := by
  intro ys
  induction ys with
  | nil =>
    intro _
    have : ∀ zs : List (Int × Int), cS P [] zs = 0 := fun zs => by
      induction zs with
      | nil => rfl
      | cons z zs ih =>
        show (if P z.2 then (0 : Int) else 0) + cS P [] zs = 0
        rw [ih]
        split <;> rfl
    rw [this]
    exact Int.le_refl _
  | cons y ys ih =>
    intro h
    obtain ⟨⟨_, h1, h1'⟩, _, h3⟩ := h
    have g1 := ih h3
    have g2 := oS_le (P := P) (y := y) (by omega) hx
    have key : ∀ zs : List (Int × Int), cS P (y :: ys) zs ≤ oS P y zs + cS P ys zs := fun zs => by
      induction zs with
      | nil => show (0 : Int) ≤ 0 + 0; omega
      | cons z zs ihz =>
        show (if P z.2 then coefR (y :: ys) z.2 else 0) + cS P (y :: ys) zs ≤ ((if P z.2 then (if y.2 = z.2 then y.1 else 0) else 0) + oS P y zs) + ((if P z.2 then coefR ys z.2 else 0) + cS P ys zs)
        have hn := (coefR_bnd h3 z.2).1
        have hc : coefR (y :: ys) z.2 = if y.2 = z.2 then y.1 else coefR ys z.2 := rfl
        rw [hc]
        cases hp : P z.2 with
        | true =>
          rw [if_pos rfl, if_pos rfl, if_pos rfl]
          split <;> omega
        | false =>
          rw [if_neg (by decide), if_neg (by decide), if_neg (by decide)]
          omega
    have := key xs
    show _ ≤ (if P y.2 then y.1 else 0) + tV P ys
    omega
/-- Covering is sound. -/
theorem cov_sound {n n' : Nat} {c l c' l' : Nat → Int} {bd bd' : Int} (hn : n ≤ 1048576) (hn' : n' ≤ 1048576) (h : covB n c l bd n' c' l' bd' = true) (nv : Nat) (v : Nat → Bool) (he : evalV n c l bd nv v = true) : evalV n' c' l' bd' nv v = true := by
  unfold covB at h
  simp only [Bool.and_eq_true, decide_eq_true_eq] at h
  obtain ⟨hv, hv', hle⟩ := h
  by_cases e : nv = 12
  · subst e
    rw [evalV_sB hn hv, decide_eq_true_eq, sB_tV] at he
    rw [evalV_sB hn' hv', decide_eq_true_eq, sB_tV]
    have h1 := tV_los (trueP v) (lst c' l' 0 n') (lst c l 0 n)
    have h2 := cS_le (P := trueP v) (srt_valid hv) (srt_valid hv')
    omega
  · rw [evalV_len e] at he
    cases he
theorem coefR_at {ys : List (Int × Int)} {t x : Int} (h : ∀ z ∈ ys, z.2 = t → z.1 = x) (hm : ∃ z ∈ ys, z.2 = t) : coefR ys t = x := by
  induction ys with
  | nil => obtain ⟨z, hz, _⟩ := hm; cases hz
  | cons y ys ih =>
    unfold coefR
    split
    · rename_i e
      exact h y (List.mem_cons_self ..) e
    · rename_i e
      obtain ⟨z, hz, hz2⟩ := hm
      rcases List.mem_cons.1 hz with rfl | hz
      · exact absurd hz2 e
      · exact ih (fun u hu => h u (List.mem_cons_of_mem _ hu)) ⟨z, hz, hz2⟩
theorem srt_one : ∀ {xs : List (Int × Int)}, srt xs → ∀ x ∈ xs, ∀ z ∈ xs, z.2 = x.2 → z.1 = x.1 := by
  intro xs
  induction xs with
  | nil => intro _ x hx; cases hx
  | cons y ys ih =>
    intro h x hx z hz e
    obtain ⟨_, h2, h3⟩ := h
    rcases List.mem_cons.1 hx with hx1 | hx1
    · rcases List.mem_cons.1 hz with hz1 | hz1
      · rw [hx1, hz1]
      · have := h2 z hz1
        rw [e, hx1] at this
        omega
    · rcases List.mem_cons.1 hz with hz1 | hz1
      · have := h2 x hx1
        rw [← e, hz1] at this
        omega
      · exact ih h3 x hx1 z hz1 e
theorem los_self {xs : List (Int × Int)} (h : srt xs) : ∀ {zs : List (Int × Int)}, (∀ z ∈ zs, z ∈ xs) → losR zs xs = 0 := by
  intro zs
  induction zs with
  | nil => intro _; rfl
  | cons z zs ih =>
    intro hz
    have hm := hz z (List.mem_cons_self ..)
    show max0 (z.1 - coefR xs z.2) + losR zs xs = 0
    rw [ih fun u hu => hz u (List.mem_cons_of_mem _ hu), coefR_at (srt_one h z hm) ⟨z, hm, rfl⟩, Int.sub_self]
    rfl
/-- A valid constraint covers itself. -/
theorem cov_self (n : Nat) (c l : Nat → Int) (bd : Int) : covB n c l bd n c l bd = validB n c l bd := by
  unfold covB
  cases hv : validB n c l bd with
  | false => rfl
  | true =>
    rw [los_self (srt_valid hv) fun z hz => hz, Int.sub_zero]
    simp
end Go.Proofs.Ytipblbcedkhmbaa

namespace Go.Proofs.Ytipblbcedkhmbaa
open Go.ChangeShapes Go.WideShapes Go.ChangeAt Go.RowKit Go.Shelf

set_option linter.unusedVariables false in
set_option maxRecDepth 100000 in
set_option maxHeartbeats 6400000 in
theorem lawFnCoversConstraint_ok (A0 : Option Addr) (A1 : Option Addr) (n0 cap0 n1 cap1 : Nat) (y0 y1 : Nat → Int) (w : World) (h0 : n0 ≤ 1048576) (h1 : n1 ≤ 1048576) (hc0 : n0 ≤ cap0) (hr0 : RdY w w.heap.size A0 n0 y0) (hc1 : n1 ≤ cap1) (hr1 : RdY w w.heap.size A1 n1 y1) :
    Calls Try.prog 13 #[.slice A0 n0 cap0, .slice A1 n1 cap1] w fun e w' => e = .returned (.bool true) ∧ Below w.heap.size w w' := by
  have hm0 : n0 ≤ maxLen := by unfold maxLen; omega
  have hm1 : n1 ≤ maxLen := by unfold maxLen; omega
  have hi0 : ¬ (1048576 : Int) < (n0 : Int) := by omega
  have hi1 : ¬ (1048576 : Int) < (n1 : Int) := by omega
  go_enter Try.func13, Try.ntmps13
  go_wp2_with fail
  refine (drawCov_any _ _ _ y0 _ hm0 hc0 hr0).mono ?_
  rintro e w1 ⟨Ac, k, capc, bd, c, l, Ab, kb, capb, bdb, cb, lb, rfl, hk, hkb, hrc, hrb, hcc, hcb, hb⟩
  have HB1 := Lib.hid hb
  have Hc_1 := Lib.hid hrc
  have Hb_1 := Lib.hid hrb
  have hkB : k ≤ 1048576 := by omega
  have hkbB : kb ≤ 1048576 := by omega
  clear hrc hrb
  clear hb
  go_wp2_with fail
  have HAl := Lib.hid (bl_alloc (bl_alloc (Below.refl w1.heap.size w1) (.cells #[.slice Ac k capc, .int .i64 bd] 27)) (.cells #[.slice Ab kb capb, .int .i64 bdb] 27))
  have a0 : ((w1.alloc (.cells #[.slice Ac k capc, .int .i64 bd] 27)).alloc (.cells #[.slice Ab kb capb, .int .i64 bdb] 27)).cell? ⟨w1.heap.size, 0, none⟩ = some (.slice Ac k capc) := by go_simp
  have a1 : ((w1.alloc (.cells #[.slice Ac k capc, .int .i64 bd] 27)).alloc (.cells #[.slice Ab kb capb, .int .i64 bdb] 27)).cell? ⟨w1.heap.size, 1, none⟩ = some (.int .i64 bd) := by go_simp
  have b0 : ((w1.alloc (.cells #[.slice Ac k capc, .int .i64 bd] 27)).alloc (.cells #[.slice Ab kb capb, .int .i64 bdb] 27)).cell? ⟨(w1.heap.size + 1), 0, none⟩ = some (.slice Ab kb capb) := by go_simp
  have b1 : ((w1.alloc (.cells #[.slice Ac k capc, .int .i64 bd] 27)).alloc (.cells #[.slice Ab kb capb, .int .i64 bdb] 27)).cell? ⟨(w1.heap.size + 1), 1, none⟩ = some (.int .i64 bdb) := by go_simp
  refine (drawEval_any _ _ _ y1 _ hm1 hc1 (hr1.later (bl_trans HB1.out HAl.out))).mono ?_
  rintro e w2 ⟨Ad, k2, capd, bd2, c2, l2, Av, kv, capv, v, rfl, hk2, hkv, hrd, hrv, hb1⟩
  have hb := bl_trans HAl.out hb1
  have HB2 := Lib.hid (bl_trans HB1.out hb)
  have Hc_2 := Lib.hid (Hc_1.out.later hb)
  have Hb_2 := Lib.hid (Hb_1.out.later hb)
  have Hv_2 := Lib.hid hrv
  replace a0 := kc hb1 a0
  replace a1 := kc hb1 a1
  replace b0 := kc hb1 b0
  replace b1 := kc hb1 b1
  have za : w1.heap.size < w2.heap.size := World.block_lt_of_cell? w2 ⟨w1.heap.size, 0, none⟩ a0
  have zb : (w1.heap.size + 1) < w2.heap.size := World.block_lt_of_cell? w2 ⟨(w1.heap.size + 1), 0, none⟩ b0
  clear hrd hrv
  clear hb hb1 HB1 Hc_1 Hb_1 HAl
  go_wp2_with fail
  have HAl := Lib.hid (bl_alloc (Below.refl w2.heap.size w2) (.cells #[.slice Ad k2 capd, .int .i64 bd2] 27))
  have u0 : (w2.alloc (.cells #[.slice Ad k2 capd, .int .i64 bd2] 27)).cell? ⟨w2.heap.size, 0, none⟩ = some (.slice Ad k2 capd) := by go_simp
  have u1 : (w2.alloc (.cells #[.slice Ad k2 capd, .int .i64 bd2] 27)).cell? ⟨w2.heap.size, 1, none⟩ = some (.int .i64 bd2) := by go_simp
  replace a0 := kc HAl.out a0
  replace a1 := kc HAl.out a1
  replace b0 := kc HAl.out b0
  replace b1 := kc HAl.out b1
  refine (implCov_any _ _ _ _ _ _ _ _ c l cb lb _ hkB hkbB hcc hcb (Hc_2.out.later HAl.out) (Hb_2.out.later HAl.out)).mono ?_
  rintro e w3 ⟨rfl, hb1⟩
  have hb := bl_trans HAl.out hb1
  have HB3 := Lib.hid (bl_trans HB2.out hb)
  have Hc_3 := Lib.hid (Hc_2.out.later hb)
  have Hb_3 := Lib.hid (Hb_2.out.later hb)
  have Hv_3 := Lib.hid (Hv_2.out.later hb)
  replace a0 := kc hb1 a0
  replace a1 := kc hb1 a1
  replace b0 := kc hb1 b0
  replace b1 := kc hb1 b1
  replace u0 := kc hb1 u0
  replace u1 := kc hb1 u1
  clear za zb
  have za : w1.heap.size < w3.heap.size := World.block_lt_of_cell? w3 ⟨w1.heap.size, 0, none⟩ a0
  have zb : (w1.heap.size + 1) < w3.heap.size := World.block_lt_of_cell? w3 ⟨(w1.heap.size + 1), 0, none⟩ b0
  have zu : w2.heap.size < w3.heap.size := World.block_lt_of_cell? w3 ⟨w2.heap.size, 0, none⟩ u0
  clear hb hb1 HB2 Hc_2 Hb_2 Hv_2 HAl
  clear u0 u1 zu
  have HCS := Lib.hid (cov_self k c l bd)
  have HSo := Lib.hid (fun h => cov_sound (c := c) (l := l) (c' := cb) (l' := lb) (bd := bd) (bd' := bdb) hkB hkbB h kv v)
  cases hcv : covB k c l bd kb cb lb bdb with
  | false =>
    have Hcv := Lib.hid hcv
    clear hcv HSo
    go_wp2_with fail
    refine region_class (C := Cls w3) (by kernel_rfl) (by kernel_rfl) (Below.refl w3.heap.size w3).drew ?_
    refine BigFrame.wpQuiet_want (by rfl) (fun K hK => quiet_val (v := .bool false) (fun w' hw => ?_) (hK _ ?_))
    · clear a0 a1 b0 b1 hK K
      go_simp
    clear hK K
    simp only [Act.put, List.setIfInBounds_toArray, List.set_cons_succ, List.set_cons_zero]
    refine BigFrame.wpQuiet_want (by rfl) (fun K hK => quiet_val (v := .agg #[.slice Ac k capc, .int .i64 bd]) (fun w' hw => ?_) (hK _ ?_))
    · have e0 := kc hw a0
      have e1 := kc hw a1
      clear a0 a1 b0 b1 hK K
      go_simp
    clear hK K
    simp only [Act.put, List.setIfInBounds_toArray, List.set_cons_succ, List.set_cons_zero]
    refine BigFrame.wpQuiet_want (by rfl) (fun K hK => quiet_val (v := .agg #[.slice Ab kb capb, .int .i64 bdb]) (fun w' hw => ?_) (hK _ ?_))
    · have e0 := kc hw b0
      have e1 := kc hw b1
      clear a0 a1 b0 b1 hK K
      go_simp
    clear hK K
    simp only [Act.put, List.setIfInBounds_toArray, List.set_cons_succ, List.set_cons_zero]
    refine BigFrame.wpQuiet_want (by rfl) (fun K hK => quiet_enter (v := .bool false) (f := 53) (args := #[.agg #[.slice Ac k capc, .int .i64 bd], .agg #[.slice Ab kb capb, .int .i64 bdb]]) (fun w' hw => ?_) (fun w' hw => ?_) (hK _ ?_))
    · go_simp
    · refine (specCov_any _ _ _ _ _ _ _ _ c l cb lb _ hkB hkbB (Hc_3.out.later hw) (Hb_3.out.later hw)).mono ?_
      rintro e w8 ⟨rfl, hb⟩
      exact ⟨by rw [Hcv.out], bl_trans hw hb⟩
    clear hK K
    simp only [Act.put, List.setIfInBounds_toArray, List.set_cons_succ, List.set_cons_zero]
    refine BigFrame.wpQuiet_want (by rfl) (fun K hK => quiet_val (v := .bool false) (fun w' hw => ?_) (hK _ ?_))
    · clear a0 a1 b0 b1 hK K
      go_simp
    clear hK K
    simp only [Act.put, List.setIfInBounds_toArray, List.set_cons_succ, List.set_cons_zero]
    refine BigFrame.wpQuiet_want (by rfl) (fun K hK => quiet_val (v := .bool false) (fun w' hw => ?_) (hK _ ?_))
    · clear a0 a1 b0 b1 hK K
      go_simp
    clear hK K
    simp only [Act.put, List.setIfInBounds_toArray, List.set_cons_succ, List.set_cons_zero]
    refine BigFrame.wpQuiet_want (by rfl) (fun K hK => quiet_val (v := .agg #[.slice Ac k capc, .int .i64 bd]) (fun w' hw => ?_) (hK _ ?_))
    · have e0 := kc hw a0
      have e1 := kc hw a1
      clear a0 a1 b0 b1 hK K
      go_simp
    clear hK K
    simp only [Act.put, List.setIfInBounds_toArray, List.set_cons_succ, List.set_cons_zero]
    refine BigFrame.wpQuiet_want (by rfl) (fun K hK => quiet_val (v := .agg #[.slice Ac k capc, .int .i64 bd]) (fun w' hw => ?_) (hK _ ?_))
    · have e0 := kc hw a0
      have e1 := kc hw a1
      clear a0 a1 b0 b1 hK K
      go_simp
    clear hK K
    simp only [Act.put, List.setIfInBounds_toArray, List.set_cons_succ, List.set_cons_zero]
    refine BigFrame.wpQuiet_want (by rfl) (fun K hK => quiet_enter (v := .bool (validB k c l bd)) (f := 52) (args := #[.agg #[.slice Ac k capc, .int .i64 bd], .agg #[.slice Ac k capc, .int .i64 bd]]) (fun w' hw => ?_) (fun w' hw => ?_) (hK _ ?_))
    · go_simp
    · refine (implCov_any _ _ _ _ _ _ _ _ c l c l _ hkB hkB hcc hcc (Hc_3.out.later hw) (Hc_3.out.later hw)).mono ?_
      rintro e w8 ⟨rfl, hb⟩
      exact ⟨by rw [HCS.out], bl_trans hw hb⟩
    clear hK K
    simp only [Act.put, List.setIfInBounds_toArray, List.set_cons_succ, List.set_cons_zero]
    refine BigFrame.wpQuiet_want (by rfl) (fun K hK => quiet_val (v := .agg #[.slice Ac k capc, .int .i64 bd]) (fun w' hw => ?_) (hK _ ?_))
    · have e0 := kc hw a0
      have e1 := kc hw a1
      clear a0 a1 b0 b1 hK K
      go_simp
    clear hK K
    simp only [Act.put, List.setIfInBounds_toArray, List.set_cons_succ, List.set_cons_zero]
    refine BigFrame.wpQuiet_want (by rfl) (fun K hK => quiet_enter (v := .bool (validB k c l bd)) (f := 21) (args := #[.agg #[.slice Ac k capc, .int .i64 bd]]) (fun w' hw => ?_) (fun w' hw => ?_) (hK _ ?_))
    · go_simp
    · refine (implValid_any _ _ _ _ c l _ hkB (Hc_3.out.later hw)).mono ?_
      rintro e w8 ⟨rfl, hb⟩
      exact ⟨rfl, bl_trans hw hb⟩
    clear hK K
    simp only [Act.put, List.setIfInBounds_toArray, List.set_cons_succ, List.set_cons_zero]
    refine BigFrame.wpQuiet_want (by rfl) (fun K hK => quiet_val (v := .bool false) (fun w' hw => ?_) (hK _ ?_))
    · clear a0 a1 b0 b1 hK K
      go_simp
    clear hK K
    simp only [Act.put, List.setIfInBounds_toArray, List.set_cons_succ, List.set_cons_zero]
    refine BigFrame.wpQuiet_want (by rfl) (fun K hK => quiet_val (v := .bool false) (fun w' hw => ?_) (hK _ ?_))
    · clear a0 a1 b0 b1 hK K
      go_simp
    clear hK K
    simp only [Act.put, List.setIfInBounds_toArray, List.set_cons_succ, List.set_cons_zero]
    refine wpQuiet_nil ?_
    intro w' hw'
    have HBw := Lib.hid (bl_trans HB3.out hw')
    have Hc_w := Lib.hid (Hc_3.out.later hw')
    have Hb_w := Lib.hid (Hb_3.out.later hw')
    have Hv_w := Lib.hid (Hv_3.out.later hw')
    replace a0 := kc hw' a0
    replace a1 := kc hw' a1
    replace b0 := kc hw' b0
    replace b1 := kc hw' b1
    clear za zb
    have za : w1.heap.size < w'.heap.size := World.block_lt_of_cell? w' ⟨w1.heap.size, 0, none⟩ a0
    have zb : (w1.heap.size + 1) < w'.heap.size := World.block_lt_of_cell? w' ⟨(w1.heap.size + 1), 0, none⟩ b0
    clear hw' HB3 Hc_3 Hb_3 Hv_3
    go_wp2
    go_ret
    exact ⟨rfl, HBw.out⟩
  | true =>
    have HSc := Lib.hid (HSo.out hcv)
    have Hcv := Lib.hid hcv
    clear hcv HSo
    go_wp2_with fail
    refine region_class (C := Cls w3) (by kernel_rfl) (by kernel_rfl) (Below.refl w3.heap.size w3).drew ?_
    refine BigFrame.wpQuiet_want (by rfl) (fun K hK => quiet_val (v := .bool true) (fun w' hw => ?_) (hK _ ?_))
    · clear a0 a1 b0 b1 hK K
      go_simp
    clear hK K
    simp only [Act.put, List.setIfInBounds_toArray, List.set_cons_succ, List.set_cons_zero]
    refine BigFrame.wpQuiet_want (by rfl) (fun K hK => quiet_val (v := .agg #[.slice Ac k capc, .int .i64 bd]) (fun w' hw => ?_) (hK _ ?_))
    · have e0 := kc hw a0
      have e1 := kc hw a1
      clear a0 a1 b0 b1 hK K
      go_simp
    clear hK K
    simp only [Act.put, List.setIfInBounds_toArray, List.set_cons_succ, List.set_cons_zero]
    refine BigFrame.wpQuiet_want (by rfl) (fun K hK => quiet_val (v := .agg #[.slice Ab kb capb, .int .i64 bdb]) (fun w' hw => ?_) (hK _ ?_))
    · have e0 := kc hw b0
      have e1 := kc hw b1
      clear a0 a1 b0 b1 hK K
      go_simp
    clear hK K
    simp only [Act.put, List.setIfInBounds_toArray, List.set_cons_succ, List.set_cons_zero]
    refine BigFrame.wpQuiet_want (by rfl) (fun K hK => quiet_enter (v := .bool true) (f := 53) (args := #[.agg #[.slice Ac k capc, .int .i64 bd], .agg #[.slice Ab kb capb, .int .i64 bdb]]) (fun w' hw => ?_) (fun w' hw => ?_) (hK _ ?_))
    · go_simp
    · refine (specCov_any _ _ _ _ _ _ _ _ c l cb lb _ hkB hkbB (Hc_3.out.later hw) (Hb_3.out.later hw)).mono ?_
      rintro e w8 ⟨rfl, hb⟩
      exact ⟨by rw [Hcv.out], bl_trans hw hb⟩
    clear hK K
    simp only [Act.put, List.setIfInBounds_toArray, List.set_cons_succ, List.set_cons_zero]
    refine BigFrame.wpQuiet_want (by rfl) (fun K hK => quiet_val (v := .bool false) (fun w' hw => ?_) (hK _ ?_))
    · clear a0 a1 b0 b1 hK K
      go_simp
    clear hK K
    simp only [Act.put, List.setIfInBounds_toArray, List.set_cons_succ, List.set_cons_zero]
    refine BigFrame.wpQuiet_want (by rfl) (fun K hK => quiet_val (v := .bool false) (fun w' hw => ?_) (hK _ ?_))
    · clear a0 a1 b0 b1 hK K
      go_simp
    clear hK K
    simp only [Act.put, List.setIfInBounds_toArray, List.set_cons_succ, List.set_cons_zero]
    refine BigFrame.wpQuiet_want (by rfl) (fun K hK => quiet_val (v := .agg #[.slice Ac k capc, .int .i64 bd]) (fun w' hw => ?_) (hK _ ?_))
    · have e0 := kc hw a0
      have e1 := kc hw a1
      clear a0 a1 b0 b1 hK K
      go_simp
    clear hK K
    simp only [Act.put, List.setIfInBounds_toArray, List.set_cons_succ, List.set_cons_zero]
    refine BigFrame.wpQuiet_want (by rfl) (fun K hK => quiet_val (v := .agg #[.slice Ac k capc, .int .i64 bd]) (fun w' hw => ?_) (hK _ ?_))
    · have e0 := kc hw a0
      have e1 := kc hw a1
      clear a0 a1 b0 b1 hK K
      go_simp
    clear hK K
    simp only [Act.put, List.setIfInBounds_toArray, List.set_cons_succ, List.set_cons_zero]
    refine BigFrame.wpQuiet_want (by rfl) (fun K hK => quiet_enter (v := .bool (validB k c l bd)) (f := 52) (args := #[.agg #[.slice Ac k capc, .int .i64 bd], .agg #[.slice Ac k capc, .int .i64 bd]]) (fun w' hw => ?_) (fun w' hw => ?_) (hK _ ?_))
    · go_simp
    · refine (implCov_any _ _ _ _ _ _ _ _ c l c l _ hkB hkB hcc hcc (Hc_3.out.later hw) (Hc_3.out.later hw)).mono ?_
      rintro e w8 ⟨rfl, hb⟩
      exact ⟨by rw [HCS.out], bl_trans hw hb⟩
    clear hK K
    simp only [Act.put, List.setIfInBounds_toArray, List.set_cons_succ, List.set_cons_zero]
    refine BigFrame.wpQuiet_want (by rfl) (fun K hK => quiet_val (v := .agg #[.slice Ac k capc, .int .i64 bd]) (fun w' hw => ?_) (hK _ ?_))
    · have e0 := kc hw a0
      have e1 := kc hw a1
      clear a0 a1 b0 b1 hK K
      go_simp
    clear hK K
    simp only [Act.put, List.setIfInBounds_toArray, List.set_cons_succ, List.set_cons_zero]
    refine BigFrame.wpQuiet_want (by rfl) (fun K hK => quiet_enter (v := .bool (validB k c l bd)) (f := 21) (args := #[.agg #[.slice Ac k capc, .int .i64 bd]]) (fun w' hw => ?_) (fun w' hw => ?_) (hK _ ?_))
    · go_simp
    · refine (implValid_any _ _ _ _ c l _ hkB (Hc_3.out.later hw)).mono ?_
      rintro e w8 ⟨rfl, hb⟩
      exact ⟨rfl, bl_trans hw hb⟩
    clear hK K
    simp only [Act.put, List.setIfInBounds_toArray, List.set_cons_succ, List.set_cons_zero]
    refine BigFrame.wpQuiet_want (by rfl) (fun K hK => quiet_val (v := .bool false) (fun w' hw => ?_) (hK _ ?_))
    · clear a0 a1 b0 b1 hK K
      go_simp
    clear hK K
    simp only [Act.put, List.setIfInBounds_toArray, List.set_cons_succ, List.set_cons_zero]
    refine BigFrame.wpQuiet_want (by rfl) (fun K hK => quiet_val (v := .bool false) (fun w' hw => ?_) (hK _ ?_))
    · clear a0 a1 b0 b1 hK K
      go_simp
    clear hK K
    simp only [Act.put, List.setIfInBounds_toArray, List.set_cons_succ, List.set_cons_zero]
    refine wpQuiet_nil ?_
    intro w' hw'
    have HBw := Lib.hid (bl_trans HB3.out hw')
    have Hc_w := Lib.hid (Hc_3.out.later hw')
    have Hb_w := Lib.hid (Hb_3.out.later hw')
    have Hv_w := Lib.hid (Hv_3.out.later hw')
    replace a0 := kc hw' a0
    replace a1 := kc hw' a1
    replace b0 := kc hw' b0
    replace b1 := kc hw' b1
    clear za zb
    have za : w1.heap.size < w'.heap.size := World.block_lt_of_cell? w' ⟨w1.heap.size, 0, none⟩ a0
    have zb : (w1.heap.size + 1) < w'.heap.size := World.block_lt_of_cell? w' ⟨(w1.heap.size + 1), 0, none⟩ b0
    clear hw' HB3 Hc_3 Hb_3 Hv_3
    go_wp2_with fail
    refine (implEval_any _ _ _ _ _ _ _ c l v _ hkB Hc_w.out Hv_w.out).mono ?_
    rintro e w4 ⟨rfl, hb⟩
    have HB4 := Lib.hid (bl_trans HBw.out hb)
    have Hb_4 := Lib.hid (Hb_w.out.later hb)
    have Hv_4 := Lib.hid (Hv_w.out.later hb)
    replace a0 := kc hb a0
    replace a1 := kc hb a1
    replace b0 := kc hb b0
    replace b1 := kc hb b1
    clear za zb
    have za : w1.heap.size < w4.heap.size := World.block_lt_of_cell? w4 ⟨w1.heap.size, 0, none⟩ a0
    have zb : (w1.heap.size + 1) < w4.heap.size := World.block_lt_of_cell? w4 ⟨(w1.heap.size + 1), 0, none⟩ b0
    clear hb HBw Hc_w Hb_w Hv_w
    clear a0 a1 za
    cases hev : evalV k c l bd kv v with
    | false =>
      clear hev
      go_wp2
      go_ret
      exact ⟨rfl, HB4.out⟩
    | true =>
      have HX := Lib.hid (HSc.out hev)
      clear hev HSc
      go_wp2_with fail
      refine (implEval_any _ _ _ _ _ _ _ cb lb v _ hkbB Hb_4.out Hv_4.out).mono ?_
      rintro e w5 ⟨rfl, hb⟩
      have HB5 := Lib.hid (bl_trans HB4.out hb)
      have Hb_5 := Lib.hid (Hb_4.out.later hb)
      have Hv_5 := Lib.hid (Hv_4.out.later hb)
      replace b0 := kc hb b0
      replace b1 := kc hb b1
      clear zb
      have zb : (w1.heap.size + 1) < w5.heap.size := World.block_lt_of_cell? w5 ⟨(w1.heap.size + 1), 0, none⟩ b0
      clear hb HB4 Hb_4 Hv_4
      rw [HX.out]
      go_wp2
      go_ret
      exact ⟨rfl, HB5.out⟩

set_option linter.unusedVariables false in
set_option maxRecDepth 100000 in
set_option maxHeartbeats 1600000 in
theorem lawFnCoversConstraint_walk (A0 : Option Addr) (n0 cap0 : Nat) (y0 : Nat → Int) (A1 : Option Addr) (n1 cap1 : Nat) (y1 : Nat → Int) (w : World) (hm0 : n0 ≤ maxLen) (hc0 : n0 ≤ cap0) (hr0 : RdY w w.heap.size A0 n0 y0) (hm1 : n1 ≤ maxLen) (hc1 : n1 ≤ cap1) (hr1 : RdY w w.heap.size A1 n1 y1) :
    Calls Try.prog 13 #[.slice A0 n0 cap0, .slice A1 n1 cap1] w fun e w' => e = .returned (.bool true) ∧ Below w.heap.size w w' := by
  by_cases h0 : n0 ≤ 1048576
  · by_cases h1 : n1 ≤ 1048576
    · exact lawFnCoversConstraint_ok A0 A1 n0 cap0 n1 cap1 y0 y1 w h0 h1 hc0 hr0 hc1 hr1
    · unfold maxLen at hm1
      have hi0 : ¬ (1048576 : Int) < (n0 : Int) := by omega
      have hi1 : (1048576 : Int) < (n1 : Int) := by omega
      go_enter Try.func13, Try.ntmps13
      go_wp2
      go_ret
      exact ⟨rfl, Below.refl _ _⟩
  · unfold maxLen at hm0
    have hi0 : (1048576 : Int) < (n0 : Int) := by omega
    go_enter Try.func13, Try.ntmps13
    go_wp2
    go_ret
    exact ⟨rfl, Below.refl _ _⟩
end Go.Proofs.Ytipblbcedkhmbaa

