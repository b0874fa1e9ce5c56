/- Partial assignments and the sums under them: plain facts (no claim of its own). Conditions: as each theorem states. · Contracts of the model's and the program's EvalConstraint, whole (no claim of its own). Conditions: as each theorem states. · The contract of the model's EvalConstraint, whole (no claim of its own). Conditions: as each theorem states. · Arithmetic of the laws of multiplication, division and saturation (no claim of its own). Conditions: as each theorem states. · Contracts of the program's rows of literals (no claim of its own). Conditions: as each theorem states. · Contract of the program's BlockingClause (no claim of its own). Conditions: as each theorem states. · Contract of the model's BlockingClause (no claim of its own). Conditions: as each theorem states. · What the law of blocking clauses needs (no claim of its own). Conditions: as each theorem states. · The walk of the law FnBlockingClause (no claim of its own). Conditions: as each theorem states. -/
import Derived.Test.YtfkgcniphgigeaaComA
import Derived.Test.YtfkgcniphgigeaaIntA
import Derived.Test.YtfkgcniphgigeaaSumD
import Derived.Test.YtfkgcniphgigeaaEvaA
import Derived.Test.YtfkgcniphgigeaaSmeA
import Derived.Test.YtfkgcniphgigeaaScaA
import Derived.Test.YtfkgcniphgigeaaBlkM
import Derived.Test.YtfkgcniphgigeaaBoolA
import Derived.Deep.AppendLies
import Derived.Test.YtfkgcniphgigeaaDrwK
import Derived.Test.YtfkgcniphgigeaaClsA
namespace Go.Proofs.Ytfkgcniphgigeaa
open Go.ChangeShapes Go.WideShapes Go.ChangeAt Go.RowKit Go.Shelf

/-- The first k values are -1, 0 or 1. -/
def pvT (v : Nat → Int) : Nat → Bool
  | 0 => true
  | k + 1 => pvT v k && (decide (-1 ≤ v k) && decide (v k ≤ 1))
/-- Whether values are a partial assignment. -/
def pvB (n : Nat) (v : Nat → Int) : Bool := pvT v n && n == 12
theorem pvT_at {v : Nat → Int} {n k : Nat} (h : pvT v n = true) (hk : k < n) : -1 ≤ v k ∧ v k ≤ 1 := by
  induction n with
  | zero => omega
  | succ n ih =>
    unfold pvT at h
    simp only [Bool.and_eq_true, decide_eq_true_eq] at h
    by_cases e : k = n
    · subst e; exact h.2
    · exact ih h.1 (by omega)
theorem pvT_iff {v : Nat → Int} {n : Nat} : pvT v n = true ↔ ∀ i, i < n → -1 ≤ v i ∧ v i ≤ 1 := by
  constructor
  · exact fun h i hi => pvT_at h hi
  · intro h
    induction n with
    | zero => rfl
    | succ n ih =>
      unfold pvT
      rw [ih (fun i hi => h i (by omega))]
      have := h n (by omega)
      simp [this]
theorem pvB_iff {v : Nat → Int} {n : Nat} : pvB n v = true ↔ n = 12 ∧ ∀ i, i < 12 → -1 ≤ v i ∧ v i ≤ 1 := by
  unfold pvB
  rw [Bool.and_eq_true, pvT_iff, beq_iff_eq]
  constructor
  · rintro ⟨h, rfl⟩; exact ⟨rfl, h⟩
  · rintro ⟨rfl, h⟩; exact ⟨h, rfl⟩
theorem pvB_no {v : Nat → Int} {n k : Nat} (hk : k < n) (h : v k < -1 ∨ 1 < v k) : pvB n v = false := by
  cases hb : pvB n v with
  | false => rfl
  | true =>
    obtain ⟨rfl, h1⟩ := pvB_iff.1 hb
    have := h1 k hk
    omega

/-- What a literal is under a partial assignment: 1, -1 or 0. -/
def stV (v : Nat → Int) (l : Int) : Int := if 0 < l then v (l - 1).toNat else -(v (-l - 1).toNat)
theorem stV_bd {v : Nat → Int} {l : Int} (hl : litB l = true) (h : ∀ i, i < 12 → -1 ≤ v i ∧ v i ≤ 1) : -1 ≤ stV v l ∧ stV v l ≤ 1 := by
  obtain ⟨h0, h1, h2⟩ := litB_iff.1 hl
  unfold stV
  split
  · exact h _ (by omega)
  · have := h (-l - 1).toNat (by omega)
    omega
/-- A literal that is not false. -/
def nfP (v : Nat → Int) (l : Int) : Bool := decide (0 ≤ stV v l)

/-- The sum of the coefficients of those of the first k terms whose literals are chosen. -/
def sB (c l : Nat → Int) (P : Int → Bool) : Nat → Int
  | 0 => 0
  | k + 1 => if P (l k) then sB c l P k + c k else sB c l P k
section
variable {c l : Nat → Int} {P : Int → Bool} {k n : Nat} {bd : Int}
theorem sB_yes (h : P (l k) = true) : sB c l P (k + 1) = sB c l P k + c k := by show (if P (l k) then _ else _) = _; rw [if_pos h]
theorem sB_no (h : P (l k) = false) : sB c l P (k + 1) = sB c l P k := by show (if P (l k) then _ else _) = _; rw [if_neg (by rw [h]; decide)]
theorem sB_le (h : ∀ i, i < k → 1 ≤ c i ∧ c i ≤ 1000) : 0 ≤ sB c l P k ∧ sB c l P k ≤ 1000 * (k : Int) := by
  induction k with
  | zero => simp [sB]
  | succ k ih =>
    have h1 := ih (fun i hi => h i (by omega))
    have h2 := h k (by omega)
    unfold sB
    split <;> omega
theorem sumW_sB (hk : k ≤ 1048576) (h : ∀ i, i < k → 1 ≤ c i ∧ c i ≤ 1000) : sumW (sel c l P k) = sB c l P k := by
  induction k with
  | zero => rfl
  | succ k ih =>
    have h1 := ih (by omega) (fun i hi => h i (by omega))
    have h2 := sB_le (l := l) (P := P) (fun i hi => h i (by omega : i < k + 1)) (k := k)
    have h3 := h k (by omega)
    cases hp : P (l k) with
    | true =>
      rw [sel_yes hp, sumW_snoc, h1, sB_yes hp, ← IntWalk.i64_left]
      exact IntWalk.i64_in _ (by omega)
    | false => rw [sel_no hp, h1, sB_no hp]
theorem coef_of (h : validB n c l bd = true) : ∀ i, i < n → 1 ≤ c i ∧ c i ≤ 1000 := fun i hi => by
  unfold validB at h
  rw [Bool.and_eq_true] at h
  exact okAt_coef (vtB_at h.1 hi)
theorem bound_of (h : validB n c l bd = true) : 0 ≤ bd ∧ bd ≤ 20000 := by
  unfold validB at h
  simp only [Bool.and_eq_true, decide_eq_true_eq] at h
  exact h.2
end

/-- The slack of a constraint under a partial assignment. -/
def slk (n : Nat) (c l : Nat → Int) (bd : Int) (v : Nat → Int) : Int := sB c l (nfP v) n - bd
/-- Whether there is one. -/
def slkOk (n : Nat) (c l : Nat → Int) (bd : Int) (nv : Nat) (v : Nat → Int) : Bool := validB n c l bd && pvB nv v
/-- What SlackOf answers. -/
def slkV (n : Nat) (c l : Nat → Int) (bd : Int) (nv : Nat) (v : Nat → Int) : Int := if slkOk n c l bd nv v then slk n c l bd v else 0
theorem slk_bd {n : Nat} {c l : Nat → Int} {bd : Int} {v : Nat → Int} (h : validB n c l bd = true) : -20000 ≤ slk n c l bd v ∧ slk n c l bd v ≤ 1000 * (n : Int) := by
  have h1 := sB_le (l := l) (P := nfP v) (coef_of h)
  have h2 := bound_of h
  unfold slk
  omega
end Go.Proofs.Ytfkgcniphgigeaa

namespace Go.Proofs.Ytfkgcniphgigeaa
open Go.ChangeShapes Go.WideShapes Go.ChangeAt Go.RowKit Go.Shelf

/-- What EvalConstraint answers. -/
def evalV (n : Nat) (c l : Nat → Int) (bd : Int) (nv : Nat) (v : Nat → Bool) : Bool := validB n c l bd && (nv == 12 && decide (bd ≤ evW c l v n))
theorem evalV_inv {n : Nat} {c l : Nat → Int} {bd : Int} {nv : Nat} {v : Nat → Bool} (h : validB n c l bd = false) : evalV n c l bd nv v = false := by simp [evalV, h]
theorem evalV_len {n : Nat} {c l : Nat → Int} {bd : Int} {nv : Nat} {v : Nat → Bool} (h : nv ≠ 12) : evalV n c l bd nv v = false := by simp [evalV, h]
theorem evalV_yes {n : Nat} {c l : Nat → Int} {bd : Int} {v : Nat → Bool} (h : validB n c l bd = true) : evalV n c l bd 12 v = decide (bd ≤ evW c l v n) := by simp [evalV, h]

set_option maxRecDepth 100000 in
set_option maxHeartbeats 1000000 in
theorem implEval_any (A Av : Option Addr) (n cap nv capv : Nat) (bd : Int) (c l : Nat → Int) (v : Nat → Bool) (w : World) (hn : n ≤ 1048576) (hr : Rd w w.heap.size A n c l) (hrv : RdB w w.heap.size Av nv v) :
    Calls Try.prog 16 #[.agg #[.slice A n cap, .int .i64 bd], .slice Av nv capv] w fun e w' => e = .returned (.bool (evalV n c l bd nv v)) ∧ Below w.heap.size w w' := by
  cases hv : validB n c l bd with
  | false =>
    have Hfin := Lib.hid (evalV_inv (nv := nv) (v := v) hv)
    have Hv := Lib.hid hv
    clear hv
    go_enter Try.func16, Try.ntmps16
    go_wp2_with fail
    refine (implValid_any _ _ _ _ c l _ hn (hr.later (bl_alloc (bl_alloc (Below.refl _ _) _) _))).mono ?_
    rintro e w1 ⟨rfl, hb⟩
    have HB1 := Lib.hid (bl_trans (bl_alloc (bl_alloc (Below.refl w.heap.size w) _) _) hb)
    clear hb
    rw [Hv.out]
    go_wp2
    go_ret
    exact ⟨ret_bool Hfin.out.symm, HB1.out⟩
  | true =>
    by_cases hnv : nv = 12
    · subst hnv
      have Hfin := Lib.hid (evalV_yes (v := v) hv)
      have Hv := Lib.hid hv
      clear hv
      go_enter Try.func16, Try.ntmps16
      go_wp2_with fail
      refine (implValid_any _ _ _ _ c l _ hn (hr.later (bl_alloc (bl_alloc (Below.refl _ _) _) _))).mono ?_
      rintro e w1 ⟨rfl, hb⟩
      have HB1 := Lib.hid (bl_trans (bl_alloc (bl_alloc (Below.refl w.heap.size w) _) _) hb)
      have a0 : w1.cell? ⟨w.heap.size, 0, none⟩ = some (.slice A n cap) := kc hb (by go_simp)
      have a1 : w1.cell? ⟨w.heap.size, 1, none⟩ = some (.int .i64 bd) := kc hb (by go_simp)
      have b0 : w1.cell? ⟨w.heap.size + 1, 0, none⟩ = some (.slice Av 12 capv) := kc hb (by go_simp)
      clear hb
      rw [Hv.out]
      go_wp2_with fail
      go_region_held3 (fun w' => w'.cell? ⟨w.heap.size, 0, none⟩ = some (.slice A n cap) ∧ w'.cell? ⟨w.heap.size, 1, none⟩ = some (.int .i64 bd)) (go_keep)
        (first
          | (go_at_call 32; refine (coefsWhere_any _ _ _ _ _ _).mono ?_; rintro e w2 ⟨rfl, t0, t1, hsz, hb⟩; have HB2 := Lib.hid (bl_trans HB1.out.drew hb); replace a0 := kc hb a0; replace a1 := kc hb a1; replace b0 := kc hb b0; clear hb)
          | (go_at_call 31; refine (sumHolds_any _ (w.heap.size + 1) _ _ _ _ _ c l bd v hn _ Hv.out hsz t0 t1 (hr.later HB2.out) b0 (hrv.later HB2.out)).mono ?_; rintro e w3 ⟨rfl, hb⟩; have HB3 := Lib.hid (bl_trans HB2.out hb); replace a0 := kc hb a0; replace a1 := kc hb a1; replace b0 := kc hb b0; clear hb))
      go_wp2
      go_ret
      exact ⟨ret_bool Hfin.out.symm, HB3.out⟩
    · have Hfin := Lib.hid (evalV_len (n := n) (c := c) (l := l) (bd := bd) (v := v) hnv)
      have Hv := Lib.hid hv
      have hd : ((nv : Int) != 12) = true := by rw [bne_iff_ne]; omega
      clear hv hnv
      go_enter Try.func16, Try.ntmps16
      go_wp2_with fail
      refine (implValid_any _ _ _ _ c l _ hn (hr.later (bl_alloc (bl_alloc (Below.refl _ _) _) _))).mono ?_
      rintro e w1 ⟨rfl, hb⟩
      have HB1 := Lib.hid (bl_trans (bl_alloc (bl_alloc (Below.refl w.heap.size w) _) _) hb)
      have b0 : w1.cell? ⟨w.heap.size + 1, 0, none⟩ = some (.slice Av nv capv) := kc hb (by go_simp)
      clear hb
      rw [Hv.out]
      go_wp2
      go_ret
      exact ⟨ret_bool Hfin.out.symm, HB1.out⟩
end Go.Proofs.Ytfkgcniphgigeaa

namespace Go.Proofs.Ytfkgcniphgigeaa
open Go.ChangeShapes Go.WideShapes Go.ChangeAt Go.RowKit Go.Shelf

end Go.Proofs.Ytfkgcniphgigeaa

namespace Go.Proofs.Ytfkgcniphgigeaa
open Go.ChangeShapes Go.WideShapes Go.ChangeAt Go.RowKit

theorem tseq_of {n : Nat} {c l c' l' : Nat → Int} (h : ∀ i, i < n → c i = c' i ∧ l i = l' i) : tseq c l c' l' n = true := by
  induction n with
  | zero => rfl
  | succ n ih =>
    unfold tseq
    obtain ⟨h1, h2⟩ := h n (by omega)
    rw [ih fun i hi => h i (by omega), h1, h2]
    simp [teq]
theorem same_of {n : Nat} {c l c' l' : Nat → Int} {bd bd' : Int} (h : ∀ i, i < n → c i = c' i ∧ l i = l' i) (hb : bd = bd') : same n n c l c' l' bd bd' = true := by
  unfold same
  rw [tseq_of h, hb]
  simp
theorem same_refl' (n : Nat) (c l : Nat → Int) (bd : Int) : same n n c l c l bd bd = true := same_of (fun _ _ => ⟨rfl, rfl⟩) rfl
theorem Frs.to {w : World} {B : Nat} {A : Option Addr} {n : Nat} {c l c' l' : Nat → Int} (h : Frs w B A n c l) (he : ∀ i, i < n → c i = c' i ∧ l i = l' i) : Frs w B A n c' l' := by
  rcases h with h | ⟨G, e, hG, cs, hh, h1, h2⟩
  · exact .inl h
  · refine .inr ⟨G, e, hG, cs, hh, h1, fun i hi => ?_⟩
    obtain ⟨x, y⟩ := h2 i hi
    obtain ⟨e1, e2⟩ := he i hi
    rw [← e1, ← e2]
    exact ⟨x, y⟩
theorem CRes.to {w : World} {n n' : Nat} {c l c' l' : Nat → Int} {bd bd' : Int} {ok ok' : Bool} {e : Ending} {w' : World} (h : CRes w n c l bd ok e w') (hn : n = n') (he : ∀ i, i < n → c i = c' i ∧ l i = l' i) (hb : bd = bd') (hk : ok = ok') : CRes w n' c' l' bd' ok' e w' := by
  subst hn hb hk
  obtain ⟨A, cap, h1, h2, h3⟩ := h
  exact ⟨A, cap, h1, h2.to he, h3⟩

theorem wr64 {x : Int} (h : -9000000000 ≤ x ∧ x ≤ 9000000000) : wrap64 x = x := by rw [← IntWalk.i64_left]; exact IntWalk.i64_in _ (by omega)
theorem mulK_val {x k : Int} (h0 : 0 ≤ x) (h1 : x ≤ 20000) (h2 : 1 ≤ k) (h3 : k ≤ 1000) : mulK x k = x * k ∧ x ≤ x * k := by
  have a : 0 ≤ x * k := Int.mul_nonneg h0 (by omega)
  have b : x * k ≤ 20000 * 1000 := Int.mul_le_mul h1 h3 (by omega) (by omega)
  have d : x * 1 ≤ x * k := Int.mul_le_mul_of_nonneg_left h2 h0
  exact ⟨wr64 (by omega), by omega⟩
theorem divK_le_iff {x k q : Int} (hk : 1 ≤ k) : divK x k ≤ q ↔ x ≤ q * k := by
  unfold divK
  have : (x + k - 1) / k < q + 1 ↔ x + k - 1 < (q + 1) * k := Int.ediv_lt_iff_lt_mul (by omega)
  have e : (q + 1) * k = q * k + k := by rw [Int.add_mul, Int.one_mul]
  rw [e] at this
  omega
theorem divK_mul {x k : Int} (hk : 1 ≤ k) : divK (x * k) k = x := by
  have h1 := (divK_le_iff (x := x * k) (q := x) hk).2 (Int.le_refl _)
  have h2 : ¬ divK (x * k) k ≤ x - 1 := fun h => by
    have := (divK_le_iff hk).1 h
    rw [Int.sub_mul] at this
    omega
  omega
theorem divK_divK {x k n : Int} (hk : 1 ≤ k) (hn : 1 ≤ n) : divK (divK x k) n = divK x (k * n) := by
  have hkn : 1 ≤ k * n := by have := Int.mul_le_mul hk hn (by omega) (by omega); omega
  have h : ∀ q, divK (divK x k) n ≤ q ↔ divK x (k * n) ≤ q := fun q => by
    rw [divK_le_iff hn, divK_le_iff hk, divK_le_iff hkn, Int.mul_assoc, Int.mul_comm n k]
  have h1 := (h (divK x (k * n))).2 (Int.le_refl _)
  have h2 := (h (divK (divK x k) n)).1 (Int.le_refl _)
  omega
theorem divK_ge {x k : Int} (hk : 1 ≤ k) : x ≤ divK x k * k := (divK_le_iff hk).1 (Int.le_refl _)
theorem divK_in {x k b : Int} (h0 : 0 ≤ x) (h1 : x ≤ b) (hk : 1 ≤ k) : 0 ≤ divK x k ∧ divK x k ≤ b ∧ (1 ≤ x → 1 ≤ divK x k) := by
  have hb : b * 1 ≤ b * k := Int.mul_le_mul_of_nonneg_left hk (by omega)
  refine ⟨?_, (divK_le_iff hk).2 (by omega), fun hx => ?_⟩
  · have : ¬ divK x k ≤ -1 := fun h => by have := (divK_le_iff hk).1 h; omega
    omega
  · have : ¬ divK x k ≤ 0 := fun h => by have := (divK_le_iff hk).1 h; omega
    omega

/-- What a law over a drawn constraint, one rule and values needs of the rule's answer. -/
theorem infB_iff {R : Bool} {n : Nat} {c l : Nat → Int} {bd : Int} : infB R n c l bd = true ↔ R = true ∧ validB n c l bd = true := by simp [infB]
theorem inf_of {R : Bool} {n : Nat} {c l : Nat → Int} {bd : Int} (h : infB R n c l bd = true) : infN R n c l bd = n ∧ infD R n c l bd = bd := by
  unfold infN infD
  rw [h]
  exact ⟨rfl, rfl⟩

theorem evalV_sB {n : Nat} {c l : Nat → Int} {bd : Int} {v : Nat → Bool} (hn : n ≤ 1048576) (h : validB n c l bd = true) : evalV n c l bd 12 v = decide (bd ≤ sB c l (trueP v) n) := by
  rw [evalV_yes h]
  unfold evW
  rw [sumW_sB hn (coef_of h)]
theorem sB_mul {n : Nat} {c l : Nat → Int} {k : Int} {P : Int → Bool} (hc : ∀ i, i < n → 1 ≤ c i ∧ c i ≤ 1000) (h2 : 1 ≤ k) (h3 : k ≤ 1000) : sB (fun i => mulK (c i) k) l P n = sB c l P n * k := by
  induction n with
  | zero => simp [sB]
  | succ n ih =>
    have h1 := ih fun i hi => hc i (by omega)
    have hn := hc n (by omega)
    cases hp : P (l n) with
    | true =>
      rw [sB_yes (c := c) hp, sB_yes (c := fun i => mulK (c i) k) hp, h1]
      show _ + mulK (c n) k = _
      rw [(mulK_val (by omega) (by omega) h2 h3).1, Int.add_mul]
    | false => rw [sB_no (c := c) hp, sB_no (c := fun i => mulK (c i) k) hp, h1]
theorem sB_div {n : Nat} {c l : Nat → Int} {k : Int} {P : Int → Bool} (h2 : 1 ≤ k) : sB c l P n ≤ sB (fun i => divK (c i) k) l P n * k := by
  induction n with
  | zero => simp [sB]
  | succ n ih =>
    cases hp : P (l n) with
    | true =>
      rw [sB_yes (c := c) hp, sB_yes (c := fun i => divK (c i) k) hp, Int.add_mul]
      have := divK_ge (x := c n) h2
      show _ + _ ≤ _ + divK (c n) k * k
      omega
    | false => rw [sB_no (c := c) hp, sB_no (c := fun i => divK (c i) k) hp]; exact ih

/-- Multiplication is an equivalence, and division takes it back. -/
theorem mul_law {n : Nat} {c l : Nat → Int} {bd k : Int} (hn : n ≤ 1048576) (h : infB (scaR n c l bd k) n (fun i => mulK (c i) k) l (mulK bd k) = true) :
    (1 ≤ k ∧ k ≤ 1000) ∧ validB n c l bd = true ∧ validB n (fun i => mulK (c i) k) l (mulK bd k) = true ∧ (∀ i, i < n → divK (mulK (c i) k) k = c i) ∧ divK (mulK bd k) k = bd ∧ ∀ nv v, evalV n (fun i => mulK (c i) k) l (mulK bd k) nv v = evalV n c l bd nv v := by
  obtain ⟨hR, hv⟩ := infB_iff.1 h
  obtain ⟨hv0, h2, h3⟩ := scaR_iff.1 hR
  have hb := bound_of hv0
  refine ⟨⟨h2, h3⟩, hv0, hv, fun i hi => ?_, ?_, fun nv v => ?_⟩
  · have := coef_of hv0 i hi
    rw [(mulK_val (by omega) (by omega) h2 h3).1, divK_mul h2]
  · rw [(mulK_val (by omega) (by omega) h2 h3).1, divK_mul h2]
  · by_cases e : nv = 12
    · subst e
      rw [evalV_sB hn hv, evalV_sB hn hv0, sB_mul (coef_of hv0) h2 h3, (mulK_val hb.1 (by omega) h2 h3).1]
      have : bd * k ≤ sB c l (trueP v) n * k ↔ bd ≤ sB c l (trueP v) n := Int.mul_le_mul_right (by omega)
      rw [decide_eq_decide]
      exact this
    · rw [evalV_len e, evalV_len e]

theorem div_valid {n : Nat} {c l : Nat → Int} {bd k : Int} (h : validB n c l bd = true) (h2 : 1 ≤ k) : validB n (fun i => divK (c i) k) l (divK bd k) = true :=
  valid_mk h (fun i hi => by
    have hc := coef_of h i hi
    have := divK_in (x := c i) (k := k) (by omega) hc.2 h2
    exact ⟨this.2.2 hc.1, this.2.1⟩) (divK_in (bound_of h).1 (bound_of h).2 h2).1 (divK_in (bound_of h).1 (bound_of h).2 h2).2.1
theorem div_infB {n : Nat} {c l : Nat → Int} {bd k : Int} (h : validB n c l bd = true) (h2 : 1 ≤ k) (h3 : k ≤ 1000) : infB (scaR n c l bd k) n (fun i => divK (c i) k) l (divK bd k) = true :=
  infB_iff.2 ⟨scaR_iff.2 ⟨h, h2, h3⟩, div_valid h h2⟩
/-- Division is sound. -/
theorem div_law {n : Nat} {c l : Nat → Int} {bd k : Int} (hn : n ≤ 1048576) (h : infB (scaR n c l bd k) n (fun i => divK (c i) k) l (divK bd k) = true) :
    (1 ≤ k ∧ k ≤ 1000) ∧ validB n c l bd = true ∧ validB n (fun i => divK (c i) k) l (divK bd k) = true ∧ ∀ nv v, evalV n c l bd nv v = true → evalV n (fun i => divK (c i) k) l (divK bd k) nv v = true := by
  obtain ⟨hR, hv⟩ := infB_iff.1 h
  obtain ⟨hv0, h2, h3⟩ := scaR_iff.1 hR
  refine ⟨⟨h2, h3⟩, hv0, hv, fun nv v he => ?_⟩
  by_cases e : nv = 12
  · subst e
    rw [evalV_sB hn hv0, decide_eq_true_eq] at he
    rw [evalV_sB hn hv, decide_eq_true_eq, divK_le_iff h2]
    exact Int.le_trans he (sB_div h2)
  · rw [evalV_len e] at he
    cases he
/-- Divisions compose. -/
theorem div_twice {n : Nat} {c l : Nat → Int} {bd k m : Int} (h1 : 1 ≤ k) (h2 : 1 ≤ m) : same n n (fun i => divK (divK (c i) k) m) l (fun i => divK (c i) (k * m)) l (divK (divK bd k) m) (divK bd (k * m)) = true :=
  same_of (fun _ _ => ⟨divK_divK h1 h2, rfl⟩) (divK_divK h1 h2)
end Go.Proofs.Ytfkgcniphgigeaa

namespace Go.Proofs.Ytfkgcniphgigeaa
open Go.ChangeShapes Go.WideShapes Go.ChangeAt Go.RowKit

theorem Try.infoLit : (Try.prog.info? 44).map (fun i => (i.zero, i.size, i.bytes)) = some (some (.int .i64 0), 1, 8) := by kernel_rfl

/-- A row of ints of the call's own, read. -/
theorem rdI_row {w : World} {B n : Nat} {T : TypeId} {u : Value} {f : Nat → Int} (h : w.ownsRow B T 1 u n ((vlst f n).map (Value.int .i64))) : ∃ A cap, u = .slice A n cap ∧ RdI w w.heap.size A n f := by
  have hlt := h.lt
  rcases h.2 with ⟨rfl, hz⟩ | ⟨g, cap, cur, rfl, hg, hh, hnc, _, hsz, htk⟩
  · have : n = 0 := hz
    exact ⟨none, 0, by rw [this], fun h => absurd h (by omega)⟩
  · refine ⟨_, cap, rfl, fun _ => ⟨g, 0, rfl, (hlt g rfl).2, fun i hi => ?_⟩⟩
    have hx : ((vlst f n).map (Value.int .i64))[i]? = some (.int .i64 (f i)) := by
      rw [List.getElem?_map, vlst_get f hi]
      rfl
    rw [← htk, List.getElem?_take_of_lt (by omega)] at hx
    rw [Nat.zero_add]
    exact (cell_of_row w g _ cur _ _ hh).trans (by simpa using hx)

set_option maxRecDepth 100000 in
set_option maxHeartbeats 1600000 in
theorem trueLits_any (A : Option Addr) (n cap : Nat) (v : Nat → Bool) (w : World) (hn : n ≤ 1048576) (hr : RdB w w.heap.size A n v) :
    Calls Try.prog 20 #[.slice A n cap] w fun e w' => ∃ A' cap', e = .returned (.slice A' n cap') ∧ RdI w' w'.heap.size A' n (truL v) ∧ Below w.heap.size w w' := by
  go_enter Try.func20, Try.ntmps20
  go_wp2
  obtain ⟨i0, hi, hz0, hz1, hz2⟩ := info_parts Try.infoLit
  have Hi := Lib.hid hi
  have Hz0 := Lib.hid hz0
  have Hz1 := Lib.hid hz1
  have Hz2 := Lib.hid hz2
  clear hi hz0 hz1 hz2
  go_loopw [3, 9] (fun o i wr => ∃ (j : Nat) (ov : Value), ov = o ∧ j ≤ n ∧ i = .int .i64 j ∧ wr.ownsRow w.heap.size 44 1 ov j ((vlst (truL v) j).map (Value.int .i64)) ∧ Below w.heap.size w wr) (fun _ i _ => n - (iOf i).toNat)
  case atStart => exact ⟨0, _, rfl, Nat.zero_le _, rfl, World.ownsRow_nil _ _ _ _, Below.refl _ _⟩
  case round =>
    obtain ⟨j, ov, rfl, hj, rfl, hown, hb⟩ := hrel
    have Hown := Lib.hid hown
    by_cases hlt : j < n
    · obtain ⟨b, off, rfl, hbl, hc⟩ := (hr.below hb) (by omega)
      have hc1 := hc j hlt
      have hzb : b < wr.heap.size := Nat.lt_of_lt_of_le hbl hb.size
      have hzw : w.heap.size ≤ wr.heap.size := hb.size
      have hltI : (j : Int) < (n : Int) := by omega
      have hj0 : (0 : Int) ≤ (j : Int) := by omega
      have HB := Lib.hid hb
      cases hv : v j with
      | true =>
        rw [hv] at hc1
        have HX := Lib.hid (show (j : Int) + 1 = (truL v) j from by unfold truL; rw [hv]; rfl)
        have HrowA := Lib.hid (hown.alloc (.cells #[.int .i64 ((j : Int) + 1)] 44))
        have HbA := Lib.hid (bl_alloc hb (.cells #[.int .i64 ((j : Int) + 1)] 44))
        have News := Lib.hid (World.news_of_block (w := wr.alloc (.cells #[.int .i64 ((j : Int) + 1)] 44)) (B := wr.heap.size) (cs := #[.int .i64 ((j : Int) + 1)]) (t := 44) (fr := (0, 0)) (heap_alloc_new wr _))
        clear hc hown hb hr
        go_wp2_with (at_builtin; refine wpList_plain (by rfl) fun K' hK' => ?_; refine wp_append_lies _ _ _ _ (by rfl) w.heap.size 44 i0 _ 1 8 Try.underlying45 Hi.out Hz0.out Hz1.out Hz2.out rfl (by omega) ov j _ (by rfl) HrowA.out ⟨wr.heap.size, 0, none⟩ 1 1 [.int .i64 ((j : Int) + 1)] (by rfl) (by rfl) (News.out) (by simp [Value.oneCell']) (by omega) (by unfold maxLen; omega) (by omega) (by simp; omega) (wr.heap.size + 1) (by simp) ?_; intro gg cap1 w4 hown3 hgrow hat3 hlt3; refine hK' _ _ ?_; clear hK' K')
        go_roundw
        case rel =>
          refine ⟨j + 1, _, rfl, by omega, by go_num, ?_, HbA.out.grown hgrow HbA.out.size (fun j e => (Hown.out.lt j e).1)⟩
          rw [show vlst (truL v) (j + 1) = vlst (truL v) j ++ [(truL v) j] from rfl, List.map_append, ← HX.out]
          exact hown3
        case measure => simp [iOf]; omega
      | false =>
        rw [hv] at hc1
        have hw1 : wrap64 (-((j : Int) + 1)) = -((j : Int) + 1) := IntWalk.i64_left _ ▸ IntWalk.i64_in _ (by omega)
        have hw2 : IntKind.i64.wrap (-((j : Int) + 1)) = -((j : Int) + 1) := IntWalk.i64_in _ (by omega)
        have HX := Lib.hid (show -((j : Int) + 1) = (truL v) j from by unfold truL; rw [hv]; rfl)
        have HrowA := Lib.hid (hown.alloc (.cells #[.int .i64 (-((j : Int) + 1))] 44))
        have HbA := Lib.hid (bl_alloc hb (.cells #[.int .i64 (-((j : Int) + 1))] 44))
        have News := Lib.hid (World.news_of_block (w := wr.alloc (.cells #[.int .i64 (-((j : Int) + 1))] 44)) (B := wr.heap.size) (cs := #[.int .i64 (-((j : Int) + 1))]) (t := 44) (fr := (0, 0)) (heap_alloc_new wr _))
        clear hc hown hb hr
        go_wp2_with (at_builtin; refine wpList_plain (by rfl) fun K' hK' => ?_; refine wp_append_lies _ _ _ _ (by rfl) w.heap.size 44 i0 _ 1 8 Try.underlying45 Hi.out Hz0.out Hz1.out Hz2.out rfl (by omega) ov j _ (by rfl) HrowA.out ⟨wr.heap.size, 0, none⟩ 1 1 [.int .i64 (-((j : Int) + 1))] (by rfl) (by rfl) (News.out) (by simp [Value.oneCell']) (by omega) (by unfold maxLen; omega) (by omega) (by simp; omega) (wr.heap.size + 1) (by simp) ?_; intro gg cap1 w4 hown3 hgrow hat3 hlt3; refine hK' _ _ ?_; clear hK' K')
        go_roundw
        case rel =>
          refine ⟨j + 1, _, rfl, by omega, by go_num, ?_, HbA.out.grown hgrow HbA.out.size (fun j e => (Hown.out.lt j e).1)⟩
          rw [show vlst (truL v) (j + 1) = vlst (truL v) j ++ [(truL v) j] from rfl, List.map_append, ← HX.out]
          exact hown3
        case measure => simp [iOf]; omega
    · have e : j = n := by omega
      subst e
      obtain ⟨A', cap', rfl, hF⟩ := rdI_row Hown.out
      have HF := Lib.hid hF
      have HB := Lib.hid hb
      clear hF hb hown Hown hr
      go_wp2
      go_ret
      exact ⟨A', cap', rfl, HF.out, HB.out⟩

set_option maxRecDepth 100000 in
set_option maxHeartbeats 1600000 in
theorem negations_any (A : Option Addr) (n cap : Nat) (f : Nat → Int) (w : World) (hn : n ≤ 1048576) (hf : ∀ i, i < n → -1048576 ≤ f i ∧ f i ≤ 1048576) (hr : RdI w w.heap.size A n f) :
    Calls Try.prog 19 #[.slice A n cap] w fun e w' => ∃ A' cap', e = .returned (.slice A' n cap') ∧ RdI w' w'.heap.size A' n (fun i => -(f i)) ∧ Below w.heap.size w w' := by
  go_enter Try.func19, Try.ntmps19
  go_wp2
  obtain ⟨i0, hi, hz0, hz1, hz2⟩ := info_parts Try.infoInt
  have Hi := Lib.hid hi
  have Hz0 := Lib.hid hz0
  have Hz1 := Lib.hid hz1
  have Hz2 := Lib.hid hz2
  clear hi hz0 hz1 hz2
  go_loopw [3, 8] (fun o i wr => ∃ (j : Nat) (ov : Value), ov = o ∧ j ≤ n ∧ i = .int .i64 j ∧ wr.ownsRow w.heap.size 3 1 ov j ((vlst (fun i => -(f i)) j).map (Value.int .i64)) ∧ Below w.heap.size w wr) (fun _ i _ => n - (iOf i).toNat)
  case atStart => exact ⟨0, _, rfl, Nat.zero_le _, rfl, World.ownsRow_nil _ _ _ _, Below.refl _ _⟩
  case round =>
    obtain ⟨j, ov, rfl, hj, rfl, hown, hb⟩ := hrel
    have Hown := Lib.hid hown
    by_cases hlt : j < n
    · obtain ⟨b, off, rfl, hbl, hc⟩ := (hr.below hb) (by omega)
      have hc1 := hc j hlt
      have hzb : b < wr.heap.size := Nat.lt_of_lt_of_le hbl hb.size
      have hzw : w.heap.size ≤ wr.heap.size := hb.size
      have hltI : (j : Int) < (n : Int) := by omega
      have hj0 : (0 : Int) ≤ (j : Int) := by omega
      have HB := Lib.hid hb
      obtain ⟨y, hy⟩ : ∃ y : Int, f j = y := ⟨_, rfl⟩
      have hfj := hf j hlt
      rw [hy] at hc1 hfj
      obtain ⟨z, hz⟩ : ∃ z : Int, -y = z := ⟨_, rfl⟩
      have hw1 : wrap64 (-y) = z := by rw [← hz]; exact IntWalk.i64_left _ ▸ IntWalk.i64_in _ (by omega)
      have hw2 : IntKind.i64.wrap (-y) = z := by rw [← hz]; exact IntWalk.i64_in _ (by omega)
      have HX := Lib.hid (show z = (fun i => -(f i)) j from by rw [← hz, ← hy])
      clear hf hfj hz hy
      have HrowA := Lib.hid (hown.alloc (.cells #[.int .i64 (z)] 3))
      have HbA := Lib.hid (bl_alloc hb (.cells #[.int .i64 (z)] 3))
      have News := Lib.hid (World.news_of_block (w := wr.alloc (.cells #[.int .i64 (z)] 3)) (B := wr.heap.size) (cs := #[.int .i64 (z)]) (t := 3) (fr := (0, 0)) (heap_alloc_new wr _))
      clear hc hown hb hr
      go_wp2_with (at_builtin; refine wpList_plain (by rfl) fun K' hK' => ?_; refine wp_append_lies _ _ _ _ (by rfl) w.heap.size 3 i0 _ 1 8 Try.underlying42 Hi.out Hz0.out Hz1.out Hz2.out rfl (by omega) ov j _ (by rfl) HrowA.out ⟨wr.heap.size, 0, none⟩ 1 1 [.int .i64 (z)] (by rfl) (by rfl) (News.out) (by simp [Value.oneCell']) (by omega) (by unfold maxLen; omega) (by omega) (by simp; omega) (wr.heap.size + 1) (by simp) ?_; intro gg cap1 w4 hown3 hgrow hat3 hlt3; refine hK' _ _ ?_; clear hK' K')
      go_roundw
      case rel =>
        refine ⟨j + 1, _, rfl, by omega, by go_num, ?_, HbA.out.grown hgrow HbA.out.size (fun j e => (Hown.out.lt j e).1)⟩
        rw [show vlst (fun i => -(f i)) (j + 1) = vlst (fun i => -(f i)) j ++ [(fun i => -(f i)) j] from rfl, List.map_append, ← HX.out]
        exact hown3
      case measure => simp [iOf]; omega
    · have e : j = n := by omega
      subst e
      obtain ⟨A', cap', rfl, hF⟩ := rdI_row Hown.out
      have HF := Lib.hid hF
      have HB := Lib.hid hb
      clear hF hb hown Hown hr
      go_wp2
      go_ret
      exact ⟨A', cap', rfl, HF.out, HB.out⟩
end Go.Proofs.Ytfkgcniphgigeaa

namespace Go.Proofs.Ytfkgcniphgigeaa
open Go.ChangeShapes Go.WideShapes Go.ChangeAt Go.RowKit

set_option maxRecDepth 100000 in
set_option maxHeartbeats 1600000 in
theorem implBlock_any (A : Option Addr) (n cap : Nat) (v : Nat → Bool) (w : World) (hn : n ≤ 1048576) (hr : RdB w w.heap.size A n v) :
    Calls Try.prog 7 #[.slice A n cap] w (CRes w (bcN n v) one1 (rL (clF 12 (blkL v))) (bcD n v) (bcB n v)) := by
  by_cases h12 : n = 12
  · subst h12
    have HX := Lib.hid (show bcN 12 v = clN 12 (blkL v) ∧ bcD 12 v = clD 12 (blkL v) ∧ bcB 12 v = clB 12 (blkL v) from ⟨(blk_nums v).1.symm, (blk_nums v).2.symm, (blk_ok v).symm⟩)
    have HR := Lib.hid hr
    have HV := Lib.hid (show (fun i => -(truL v i)) = blkL v from funext (blk_tru v))
    have HF := Lib.hid (show ∀ i, i < 12 → -1048576 ≤ truL v i ∧ truL v i ≤ 1048576 from fun i hi => by unfold truL; split <;> omega)
    clear hr
    go_enter Try.func7, Try.ntmps7
    go_wp2_with fail
    refine (trueLits_any _ _ _ v _ (by omega) (HR.out.later (by repeat (first | exact Below.refl _ _ | refine bl_alloc ?_ _)))).mono ?_
    rintro e w1 ⟨A1, cap1, rfl, hr1, hb⟩
    have HB1 := Lib.hid (bl_trans (bl_alloc (Below.refl w.heap.size w) _) hb)
    have r0 : w1.cell? ⟨w.heap.size, 0, none⟩ = some (.slice none 0 0) := kc hb (by go_simp)
    have r1 : w1.cell? ⟨w.heap.size, 1, none⟩ = some (.int .i64 0) := kc hb (by go_simp)
    have f0 : w1.frozen? ⟨w.heap.size, 0, none⟩ = false := kf hb (by simp) (by go_simp)
    have f1 : w1.frozen? ⟨w.heap.size, 1, none⟩ = false := kf hb (by simp) (by go_simp)
    have q1 : w.heap.size < w1.heap.size := World.block_lt_of_cell? w1 _ r0
    have HR1 := Lib.hid hr1
    clear hb hr1
    go_wp2_with fail
    refine (negations_any _ _ _ (truL v) _ (by omega) HF.out HR1.out).mono ?_
    rintro e w2 ⟨A2, cap2, rfl, hr2, hb⟩
    rw [HV.out] at hr2
    have HB2 := Lib.hid (bl_trans HB1.out hb)
    replace r0 := kc hb r0
    replace r1 := kc hb r1
    replace f0 := kf hb q1 f0
    replace f1 := kf hb q1 f1
    have q2 : w.heap.size < w2.heap.size := World.block_lt_of_cell? w2 _ r0
    have HR2 := Lib.hid hr2
    clear hb hr2
    go_wp2_with fail
    refine (implClause_any _ _ _ (blkL v) _ (by omega) HR2.out).mono ?_
    rintro e w3 ⟨A3, cap3, rfl, hF, hb⟩
    have HB3 := Lib.hid (bl_trans HB2.out hb)
    have HF3 := Lib.hid (hF.more (B' := w.heap.size + 1) (by omega))
    replace r0 := kc hb r0
    replace r1 := kc hb r1
    replace f0 := kf hb q2 f0
    replace f1 := kf hb q2 f1
    clear hb hF
    go_wp2
    refine bodyPost_ret (v := .tuple #[.agg #[.slice A3 (clN 12 (blkL v)) cap3, .int .i64 (clD 12 (blkL v))], .bool (clB 12 (blkL v))]) (by simp [results, Try.results7, go_sem, r0, r1]) rfl ?_
    obtain ⟨x1, x2, x3⟩ := HX.out
    rw [x1, x2, x3]
    exact ⟨A3, cap3, rfl, ((HF3.out.far' (by simp) (by simp) _).far' (by simp) (by simp) _).more (by omega), (HB3.out.setCell (by simp) _).setCell (by simp) _⟩
  · have hni : ¬ (n : Int) = 12 := by omega
    have hX : bcN n v = 0 ∧ bcD n v = 0 ∧ bcB n v = false := ⟨if_neg h12, if_neg h12, by simp [bcB, h12]⟩
    rw [hX.1, hX.2.1, hX.2.2]
    clear hX hr
    go_enter Try.func7, Try.ntmps7
    go_wp2
    refine bodyPost_ret (v := .tuple #[.agg #[.slice none 0 0, .int .i64 0], .bool false]) (by simp [results, Try.results7, go_sem]) rfl ?_
    exact ⟨none, 0, rfl, .inl rfl, by repeat (first | exact Below.refl _ _ | refine bl_alloc ?_ _ | refine Below.setCell ?_ (by simp) _)⟩
end Go.Proofs.Ytfkgcniphgigeaa

namespace Go.Proofs.Ytfkgcniphgigeaa
open Go.ChangeShapes Go.WideShapes Go.ChangeAt Go.RowKit

set_option maxRecDepth 100000 in
set_option maxHeartbeats 3200000 in
theorem specBlock_any (A : Option Addr) (n cap : Nat) (v : Nat → Bool) (w : World) (hn : n ≤ 1048576) (hr : RdB w w.heap.size A n v) :
    Calls Try.prog 5 #[.slice A n cap] w (CRes w (bcN n v) one1 (rL (clF 12 (blkL v))) (bcD n v) (bcB n v)) := by
  by_cases h12 : n = 12
  · subst h12
    go_enter Try.func5, Try.ntmps5
    go_wp2
    obtain ⟨j0, hi, hz0, hz1, hz2⟩ := info_parts Try.infoTerm
    have Hi := Lib.hid hi
    have Hz0 := Lib.hid hz0
    have Hz1 := Lib.hid hz1
    have Hz2 := Lib.hid hz2
    clear hi hz0 hz1 hz2
    have hX : bcN 12 v = (clF 12 (blkL v)).length ∧ bcD 12 v = 1 ∧ bcB 12 v = true := ⟨(blk_len v (Nat.le_refl 12)).symm, rfl, rfl⟩
    have HX := Lib.hid hX
    clear hX
    have r0 : ((w.alloc (.cells #[.slice none 0 0, .int .i64 0] 25)).alloc (.cells #[.slice none 0 0, .int .i64 1] 25)).cell? ⟨w.heap.size, 0, none⟩ = some (.slice none 0 0) := by go_simp
    have r1 : ((w.alloc (.cells #[.slice none 0 0, .int .i64 0] 25)).alloc (.cells #[.slice none 0 0, .int .i64 1] 25)).cell? ⟨w.heap.size, 1, none⟩ = some (.int .i64 0) := by go_simp
    have f0 : ((w.alloc (.cells #[.slice none 0 0, .int .i64 0] 25)).alloc (.cells #[.slice none 0 0, .int .i64 1] 25)).frozen? ⟨w.heap.size, 0, none⟩ = false := by go_simp
    have f1 : ((w.alloc (.cells #[.slice none 0 0, .int .i64 0] 25)).alloc (.cells #[.slice none 0 0, .int .i64 1] 25)).frozen? ⟨w.heap.size, 1, none⟩ = false := by go_simp
    have hb0 : Below w.heap.size w ((w.alloc (.cells #[.slice none 0 0, .int .i64 0] 25)).alloc (.cells #[.slice none 0 0, .int .i64 1] 25)) := bl_alloc (bl_alloc (Below.refl _ _) _) _
    have hd0 : DsjLoop (w.heap.size + 1) ((w.alloc (.cells #[.slice none 0 0, .int .i64 0] 25)).alloc (.cells #[.slice none 0 0, .int .i64 1] 25)) (clR (seenA (blkL v) 12) 0) ((w.alloc (.cells #[.slice none 0 0, .int .i64 0] 25)).alloc (.cells #[.slice none 0 0, .int .i64 1] 25)) := ⟨_, by go_simp, by go_simp, by go_simp, by go_simp, World.ownsRow_nil _ _ _ _, Below.refl _ _⟩
    generalize ((w.alloc (.cells #[.slice none 0 0, .int .i64 0] 25)).alloc (.cells #[.slice none 0 0, .int .i64 1] 25)) = W0 at *
    have R0 := Lib.hid r0
    have R1 := Lib.hid r1
    have F0 := Lib.hid f0
    have F1 := Lib.hid f1
    have HB0 := Lib.hid hb0
    clear r0 r1 f0 f1 hb0
    go_loopw [5, 6] (fun i _ wx => ∃ j : Nat, j ≤ 12 ∧ i = .int .i64 j ∧ DsjLoop (w.heap.size + 1) W0 (clR (seenA (blkL v) 12) j) wx) (fun i _ _ => 12 - (iOf i).toNat)
    case atStart => exact ⟨0, Nat.zero_le _, rfl, hd0⟩
    case round =>
      obtain ⟨j, hj, rfl, ov, old⟩ := hrel
      have Old := Lib.hid old
      have hbw := old.bel
      by_cases hlt : j < 12
      · obtain ⟨b, off, rfl, hbl, hc⟩ := hr (by omega)
        have hc1 := (hbw.cell (p := ⟨b, off + j, none⟩) (by show b < w.heap.size + 1; omega)).trans ((HB0.out.cell (p := ⟨b, off + j, none⟩) hbl).trans (hc j hlt))
        obtain ⟨o0, o1, g0, g1, hown, hb⟩ := old
        have hOl : w.heap.size + 1 < wr.heap.size := World.block_lt_of_cell? wr ⟨w.heap.size + 1, 0, none⟩ o0
        have hzb : b < wr.heap.size := by omega
        have hltI : (j : Int) < 12 := by omega
        have hj0 : (0 : Int) ≤ (j : Int) := by omega
        have hRl := blk_len v (k := j) (by omega)
        have HRl := Lib.hid hRl
        have Hrow := Lib.hid (blk_row v hlt)
        clear hc hb o1 g1 hRl hr
        cases hv : v j with
        | true =>
          rw [hv] at hc1
          obtain ⟨z, hz⟩ : ∃ z : Int, -((j : Int) + 1) = z := ⟨_, rfl⟩
          have hw1 : wrap64 (-((j : Int) + 1)) = z := by rw [← hz]; exact IntWalk.i64_left _ ▸ IntWalk.i64_in _ (by omega)
          have hw2 : IntKind.i64.wrap (-((j : Int) + 1)) = z := by rw [← hz]; exact IntWalk.i64_in _ (by omega)
          have HXX := Lib.hid (show z = blkL v j from by unfold blkL; rw [hv, ← hz]; rfl)
          clear hz
          go_upto_region 10 with fail
          clear hw1 hw2
          have hbX : Below wr.heap.size wr (wr.alloc (.cells #[.int .i64 1, .int .i64 z] 40)) := (bl_alloc (Below.refl _ _) _)
          have HbX := Lib.hid (bl_alloc hbX (.cells #[.int .i64 1, .int .i64 z] 40))
          have hsz : (wr.alloc (.cells #[.int .i64 1, .int .i64 z] 40)).heap.size = wr.heap.size + 1 := by simp
          have HrowA := Lib.hid ((row_sameD hown (fun g e => by
            obtain ⟨o, h1, _⟩ := row_at hown e
            exact hbX.block g (Array.getElem?_eq_some_iff.1 h1).1)).alloc (.cells #[.int .i64 1, .int .i64 z] 40))
          have hne := heap_alloc_new (wr.alloc (.cells #[.int .i64 1, .int .i64 z] 40)) (.cells #[.int .i64 1, .int .i64 z] 40)
          rw [hsz] at hne
          have News := Lib.hid (World.news_of_block (w := (wr.alloc (.cells #[.int .i64 1, .int .i64 z] 40)).alloc (.cells #[.int .i64 1, .int .i64 z] 40)) (B := wr.heap.size + 1) (cs := #[.int .i64 1, .int .i64 z]) (t := 40) (fr := (0, 0)) hne)
          have Hsz := Lib.hid hsz
          clear hown hbX hne hsz hbw
          go_wp2_with (at_builtin; refine wpList_plain (by rfl) fun K' hK' => ?_; refine wp_append_lies _ _ _ _ (by rfl) (w.heap.size + 1 + 1) 40 j0 _ 2 16 Try.underlying23 Hi.out Hz0.out Hz1.out Hz2.out rfl (by omega) ov (clR (seenA (blkL v) 12) j).length _ (by rfl) HrowA.out ⟨wr.heap.size + 1, 0, none⟩ 1 1 [.int .i64 1, .int .i64 z] (by rfl) (by rfl) (News.out) (by simp [Value.oneCell']) (by omega) (by rw [HRl.out]; unfold maxLen; omega) (by rw [HRl.out]; omega) (by rw [World.size_alloc, Hsz.out]; omega) (wr.heap.size + 1 + 1) (by rw [World.size_alloc, Hsz.out]) ?_; intro gg cap1 w4 hown3 hgrow hat3 hlt3; have t0 := dsj_t0 Old.out HbX.out hgrow; have u0 := dsj_u0 Old.out HbX.out hgrow; refine hK' _ _ ?_; clear hK' K')
          go_roundw
          case rel =>
            refine ⟨j + 1, by omega, by go_num, ?_⟩
            rw [Hrow.out, ← HXX.out]
            exact dsj_step Old.out HbX.out hown3 hgrow
          case measure => simp [iOf]; omega
        | false =>
          rw [hv] at hc1
          have HXX := Lib.hid (show (j : Int) + 1 = blkL v j from by unfold blkL; rw [hv]; rfl)
          have hbX : Below wr.heap.size wr (wr.alloc (.cells #[.int .i64 1, .int .i64 ((j : Int) + 1)] 40)) := (bl_alloc (Below.refl _ _) _)
          have HbX := Lib.hid (bl_alloc hbX (.cells #[.int .i64 1, .int .i64 ((j : Int) + 1)] 40))
          have hsz : (wr.alloc (.cells #[.int .i64 1, .int .i64 ((j : Int) + 1)] 40)).heap.size = wr.heap.size + 1 := by simp
          have HrowA := Lib.hid ((row_sameD hown (fun g e => by
            obtain ⟨o, h1, _⟩ := row_at hown e
            exact hbX.block g (Array.getElem?_eq_some_iff.1 h1).1)).alloc (.cells #[.int .i64 1, .int .i64 ((j : Int) + 1)] 40))
          have hne := heap_alloc_new (wr.alloc (.cells #[.int .i64 1, .int .i64 ((j : Int) + 1)] 40)) (.cells #[.int .i64 1, .int .i64 ((j : Int) + 1)] 40)
          rw [hsz] at hne
          have News := Lib.hid (World.news_of_block (w := (wr.alloc (.cells #[.int .i64 1, .int .i64 ((j : Int) + 1)] 40)).alloc (.cells #[.int .i64 1, .int .i64 ((j : Int) + 1)] 40)) (B := wr.heap.size + 1) (cs := #[.int .i64 1, .int .i64 ((j : Int) + 1)]) (t := 40) (fr := (0, 0)) hne)
          have Hsz := Lib.hid hsz
          clear hown hbX hne hsz hbw
          go_wp2_with (at_builtin; refine wpList_plain (by rfl) fun K' hK' => ?_; refine wp_append_lies _ _ _ _ (by rfl) (w.heap.size + 1 + 1) 40 j0 _ 2 16 Try.underlying23 Hi.out Hz0.out Hz1.out Hz2.out rfl (by omega) ov (clR (seenA (blkL v) 12) j).length _ (by rfl) HrowA.out ⟨wr.heap.size + 1, 0, none⟩ 1 1 [.int .i64 1, .int .i64 ((j : Int) + 1)] (by rfl) (by rfl) (News.out) (by simp [Value.oneCell']) (by omega) (by rw [HRl.out]; unfold maxLen; omega) (by rw [HRl.out]; omega) (by rw [World.size_alloc, Hsz.out]; omega) (wr.heap.size + 1 + 1) (by rw [World.size_alloc, Hsz.out]) ?_; intro gg cap1 w4 hown3 hgrow hat3 hlt3; have t0 := dsj_t0 Old.out HbX.out hgrow; have u0 := dsj_u0 Old.out HbX.out hgrow; refine hK' _ _ ?_; clear hK' K')
          go_roundw
          case rel =>
            refine ⟨j + 1, by omega, by go_num, ?_⟩
            rw [Hrow.out, ← HXX.out]
            exact dsj_step Old.out HbX.out hown3 hgrow
          case measure => simp [iOf]; omega
      · have e : j = 12 := by omega
        subst e
        obtain ⟨A', cap', rfl, hF⟩ := frs_of_row (by have h := old.own; rw [show clR (seenA (blkL v) 12) 12 = clF 12 (blkL v) from rfl, clF_flat] at h; exact h)
        obtain ⟨o0, o1, g0, g1, -, hb⟩ := old
        have r0 := (hb.cell (p := ⟨w.heap.size, 0, none⟩) (Nat.lt_succ_self _)).trans R0.out
        have r1 := (hb.cell (p := ⟨w.heap.size, 1, none⟩) (Nat.lt_succ_self _)).trans R1.out
        have f0 := (hb.frozen (p := ⟨w.heap.size, 0, none⟩) (Nat.lt_succ_self _)).trans F0.out
        have f1 := (hb.frozen (p := ⟨w.heap.size, 1, none⟩) (Nat.lt_succ_self _)).trans F1.out
        have HF := Lib.hid hF
        have HB2 := Lib.hid (HB0.out.trans (hb.mono (Nat.le_succ _)))
        clear hF hb HB0 R0 R1 F0 F1 hbw Old hr
        go_wp2
        refine bodyPost_ret (v := .tuple #[.agg #[.slice A' (clF 12 (blkL v)).length cap', .int .i64 1], .bool true]) (by simp [results, Try.results5, go_sem, r0, r1]) rfl ?_
        obtain ⟨x1, x2, x3⟩ := HX.out
        rw [x1, x2, x3]
        exact ⟨_, _, rfl, ((HF.out.far' (p := ⟨w.heap.size, 0, none⟩) rfl (by show w.heap.size < w.heap.size + 1 + 1; omega) _).far' (p := ⟨w.heap.size, 1, none⟩) rfl (by show w.heap.size < w.heap.size + 1 + 1; omega) _).more (by omega), (HB2.out.setCell (p := ⟨w.heap.size, 0, none⟩) (Nat.le_refl _) _).setCell (p := ⟨w.heap.size, 1, none⟩) (Nat.le_refl _) _⟩
  · have hni : ¬ (n : Int) = 12 := by omega
    have hX : bcN n v = 0 ∧ bcD n v = 0 ∧ bcB n v = false := ⟨if_neg h12, if_neg h12, by simp [bcB, h12]⟩
    rw [hX.1, hX.2.1, hX.2.2]
    clear hX hr
    go_enter Try.func5, Try.ntmps5
    go_wp2
    refine bodyPost_ret (v := .tuple #[.agg #[.slice none 0 0, .int .i64 0], .bool false]) (by simp [results, Try.results5, go_sem]) rfl ?_
    exact ⟨none, 0, rfl, .inl rfl, by repeat (first | exact Below.refl _ _ | refine bl_alloc ?_ _ | refine Below.setCell ?_ (by simp) _)⟩
end Go.Proofs.Ytfkgcniphgigeaa

namespace Go.Proofs.Ytfkgcniphgigeaa
open Go.ChangeShapes Go.WideShapes Go.ChangeAt Go.RowKit

/-- Two rows of Booleans are alike. -/
def eqVB (v o : Nat → Bool) : Nat → Bool
  | 0 => true
  | k + 1 => eqVB v o k && (v k == o k)
theorem eqVB_no {v o : Nat → Bool} {n k : Nat} (h : (v k == o k) = false) (hk : k < n) : eqVB v o n = false := by
  induction n with
  | zero => omega
  | succ n ih =>
    unfold eqVB
    by_cases e : k = n
    · subst e; rw [h, Bool.and_false]
    · rw [ih (by omega), Bool.false_and]
theorem eqVB_yes {v o : Nat → Bool} {k : Nat} (h : eqVB v o k = true) (h1 : (v k == o k) = true) : eqVB v o (k + 1) = true := by
  unfold eqVB
  rw [h, h1]
  rfl

set_option maxRecDepth 100000 in
set_option maxHeartbeats 800000 in
theorem cpBools_any (A A' : Option Addr) (n cap cap' : Nat) (v o : Nat → Bool) (w : World) (hn : n ≤ 1048576) (hr : RdB w w.heap.size A n v) (hr' : RdB w w.heap.size A' n o) :
    Calls Try.prog 17 #[.slice A n cap, .slice A' n cap'] w fun e w' => e = .returned (.bool (eqVB v o n)) ∧ Below w.heap.size w w' := by
  go_enter Try.func17, Try.ntmps17
  go_wp2
  go_loopw [5] (fun i wr => ∃ k : Nat, k ≤ n ∧ i = .int .i64 k ∧ eqVB v o k = true ∧ Below w.heap.size w wr) (fun i _ => n - (iOf i).toNat)
  case atStart => exact ⟨0, Nat.zero_le _, rfl, rfl, Below.refl _ _⟩
  case round =>
    obtain ⟨k, hk, rfl, heq, hb⟩ := hrel
    have Heq := Lib.hid heq
    clear heq
    by_cases hlt : k < n
    · obtain ⟨b, off, rfl, hbl, hc⟩ := (hr.below hb) (by omega)
      obtain ⟨b', off', rfl, hbl', hc'⟩ := (hr'.below hb) (by omega)
      have hc1 := hc k hlt
      have hc2 := hc' k hlt
      clear hc hc' hr hr'
      have hlt' : (k : Int) < (n : Int) := by omega
      have hk0 : (0 : Int) ≤ (k : Int) := by omega
      cases hd : (v k == o k) with
      | true =>
        have Hn := Lib.hid (eqVB_yes Heq.out hd)
        have e1 : v k = o k := by simpa using hd
        rw [e1] at hc1
        clear hd e1
        generalize o k = x at hc1 hc2
        go_wp2_with fail
        go_quiet (fail)
        go_wp2
        go_roundw
        case rel => exact ⟨k + 1, by omega, by go_num, Hn.out, bl_drewN hb _⟩
        case measure => simp [iOf]; omega
      | false =>
        have Hn := Lib.hid (eqVB_no (n := n) hd hlt)
        have e1 : (v k == o k) = false := hd
        clear hd
        cases hx : v k with
        | true =>
          have hy : o k = false := by cases hy : o k with | false => rfl | true => rw [hx, hy] at e1; cases e1
          rw [hx] at hc1
          rw [hy] at hc2
          clear hx hy e1
          go_wp2_with fail
          go_quiet (fail)
          go_wp2
          go_ret
          exact ⟨ret_bool Hn.out.symm, bl_drewN hb _⟩
        | false =>
          have hy : o k = true := by cases hy : o k with | true => rfl | false => rw [hx, hy] at e1; cases e1
          rw [hx] at hc1
          rw [hy] at hc2
          clear hx hy e1
          go_wp2_with fail
          go_quiet (fail)
          go_wp2
          go_ret
          exact ⟨ret_bool Hn.out.symm, bl_drewN hb _⟩
    · have e : k = n := by omega
      subst e
      go_wp2
      go_ret
      exact ⟨ret_bool Heq.out.symm, hb⟩

theorem drawBlk_any (A : Option Addr) (n cap : Nat) (y : Nat → Int) (w : World) (hm : n ≤ maxLen) (hcap : n ≤ cap) (hr : RdY w w.heap.size A n y) :
    Calls Try.prog 13 #[.slice A n cap] w fun e w' => ∃ Av kv capv v, e = .returned (.slice Av kv capv) ∧ kv ≤ 12 ∧ RdB w' w'.heap.size Av kv v ∧ Below w.heap.size w w' := by
  go_enter Try.func13, Try.ntmps13
  go_wp2_with fail
  refine (open_any _ _ _ y _ hm hcap hr).mono ?_
  rintro e w1 ⟨rfl, hb, hrd, hz1⟩
  have HB1 := Lib.hid hb
  have RD1 := Lib.hid hrd
  clear hb hrd
  go_wp2_with fail
  refine (values_any w.heap.size 0 _ (by omega) RD1.out).mono ?_
  rintro e w2 ⟨Av, kv, capv, v, rfl, hk, hF, hg, _⟩
  have HF := Lib.hid hF.rd
  have HB2 := Lib.hid (gr_bel HB1.out hg (Nat.le_refl _) : Below w.heap.size w w2)
  clear hF hg
  go_wp2
  go_ret
  exact ⟨Av, kv, capv, v, rfl, hk, HF.out, HB2.out⟩

theorem blk_L (v : Nat → Bool) {i : Nat} (h : i < 12) : rL (clF 12 (blkL v)) i = blkL v i := by
  have key : ∀ k, k ≤ 12 → i < k → (clR (seenA (blkL v) 12) k).getD i (0, 0) = (1, blkL v i) := by
    intro k
    induction k with
    | zero => intro _ hi; omega
    | succ k ih =>
      intro hk hi
      rw [blk_row v (by omega)]
      by_cases e : i = k
      · subst e
        rw [List.getD, List.getElem?_append_right (by rw [blk_len v (by omega)]; exact Nat.le_refl _), blk_len v (by omega)]
        simp
      · rw [List.getD, List.getElem?_append_left (by rw [blk_len v (by omega)]; omega)]
        exact ih (by omega) (by omega)
  show ((clR (seenA (blkL v) 12) 12).getD i (0, 0)).2 = _
  rw [key 12 (Nat.le_refl _) h]

theorem blk_valid (v : Nat → Bool) : validB 12 one1 (rL (clF 12 (blkL v))) 1 = true := by
  have h : vtB one1 (rL (clF 12 (blkL v))) 12 = true := vtB_of fun k hk => okAt_iff.2 ⟨by rw [blk_L v hk]; exact blk_lit v hk, by show (1 : Int) ≤ 1; omega, by show (1 : Int) ≤ 1000; omega, by
    cases k with
    | zero =>
      show (0 : Int) < ab _
      rw [blk_L v hk, blk_ab]; omega
    | succ k =>
      show ab _ < ab _
      rw [blk_L v hk, blk_L v (show k < 12 by omega), blk_ab, blk_ab]; omega⟩
  simp [validB, h]

theorem blk_true (v o : Nat → Bool) (i : Nat) : trueP o (blkL v i) = !(v i == o i) := by
  have e1 : ((i : Int) + 1 - 1).toNat = i := by omega
  have e2 : (- -((i : Int) + 1) - 1).toNat = i := by omega
  unfold trueP blkL
  cases v i with
  | true =>
    show (if (0 : Int) < -((i : Int) + 1) then o (-((i : Int) + 1) - 1).toNat else !o (- -((i : Int) + 1) - 1).toNat) = _
    rw [if_neg (by omega), e2]
    cases o i <;> rfl
  | false =>
    show (if (0 : Int) < (i : Int) + 1 then o ((i : Int) + 1 - 1).toNat else !o (-((i : Int) + 1) - 1).toNat) = _
    rw [if_pos (by omega), e1]
    cases o i <;> rfl

theorem blk_eval (v o : Nat → Bool) : evalV 12 one1 (rL (clF 12 (blkL v))) 1 12 o = !eqVB v o 12 := by
  rw [evalV_sB (by omega) (blk_valid v)]
  have key : ∀ k, k ≤ 12 → 0 ≤ sB one1 (rL (clF 12 (blkL v))) (trueP o) k ∧ (sB one1 (rL (clF 12 (blkL v))) (trueP o) k = 0 ↔ eqVB v o k = true) := by
    intro k
    induction k with
    | zero => intro _; exact ⟨Int.le_refl _, fun _ => rfl, fun _ => rfl⟩
    | succ k ih =>
      intro hk
      obtain ⟨h1, h2⟩ := ih (by omega)
      have hP : trueP o (rL (clF 12 (blkL v)) k) = !(v k == o k) := by rw [blk_L v (by omega)]; exact blk_true v o k
      cases hd : (v k == o k) with
      | true =>
        rw [hd] at hP
        rw [sB_no hP]
        refine ⟨h1, h2.trans ?_⟩
        have e : eqVB v o (k + 1) = (eqVB v o k && (v k == o k)) := rfl
        rw [e, hd, Bool.and_true]
      | false =>
        rw [hd] at hP
        rw [sB_yes hP]
        refine ⟨by show 0 ≤ _ + (1 : Int); omega, fun h => ?_, fun h => ?_⟩
        · exfalso
          have : sB one1 (rL (clF 12 (blkL v))) (trueP o) k + (1 : Int) = 0 := h
          omega
        · have e : eqVB v o (k + 1) = (eqVB v o k && (v k == o k)) := rfl
          rw [e, hd, Bool.and_false] at h
          cases h
  obtain ⟨h1, h2⟩ := key 12 (Nat.le_refl _)
  cases he : eqVB v o 12 with
  | true =>
    have := h2.2 he
    simp; omega
  | false =>
    have : ¬ sB one1 (rL (clF 12 (blkL v))) (trueP o) 12 = 0 := fun h => by rw [h2.1 h] at he; cases he
    simp; omega

theorem blcFacts (n : Nat) (v : Nat → Bool) (hn : n ≤ 1048576) : ∃ (N : Nat) (C L : Nat → Int) (BD : Int) (OK : Bool), N ≤ 1048576 ∧
    (∀ A cap W, RdB W W.heap.size A n v → Calls Try.prog 7 #[.slice A n cap] W (CRes W N C L BD OK)) ∧
    (∀ A cap W, RdB W W.heap.size A n v → Calls Try.prog 5 #[.slice A n cap] W (CRes W N C L BD OK)) ∧
    (OK = true → n = 12 ∧ validB N C L BD = true ∧ ∀ o, evalV N C L BD 12 o = !eqVB v o 12) := by
  refine ⟨_, _, _, _, _, bcN_le n v, fun A cap W h => implBlock_any A n cap v W hn h, fun A cap W h => specBlock_any A n cap v W hn h, fun hok => ?_⟩
  have e : n = 12 := of_decide_eq_true hok
  subst e
  exact ⟨rfl, blk_valid v, blk_eval v⟩
end Go.Proofs.Ytfkgcniphgigeaa

namespace Go.Proofs.Ytfkgcniphgigeaa
open Go.ChangeShapes Go.WideShapes Go.ChangeAt Go.RowKit Go.Shelf

set_option linter.unusedVariables false in
set_option maxRecDepth 100000 in
set_option maxHeartbeats 6400000 in
theorem lawFnBlockingClause_ok (A0 : Option Addr) (A1 : Option Addr) (n0 cap0 n1 cap1 : Nat) (y0 y1 : Nat → Int) (w : World) (h0 : n0 ≤ 1048576) (h1 : n1 ≤ 1048576) (hc0 : n0 ≤ cap0) (hr0 : RdY w w.heap.size A0 n0 y0) (hc1 : n1 ≤ cap1) (hr1 : RdY w w.heap.size A1 n1 y1) :
    Calls Try.prog 4 #[.slice A0 n0 cap0, .slice A1 n1 cap1] w fun e w' => e = .returned (.bool true) ∧ Below w.heap.size w w' := by
  have hm0 : n0 ≤ maxLen := by unfold maxLen; omega
  have hm1 : n1 ≤ maxLen := by unfold maxLen; omega
  have hi0 : ¬ (1048576 : Int) < (n0 : Int) := by omega
  have hi1 : ¬ (1048576 : Int) < (n1 : Int) := by omega
  go_enter Try.func4, Try.ntmps4
  go_wp2_with fail
  refine (drawBlk_any _ _ _ y0 _ hm0 hc0 hr0).mono ?_
  rintro e w1 ⟨Av, kv, capv, v, rfl, hkv, hrv, hb⟩
  have HB1 := Lib.hid hb
  have Hv_1 := Lib.hid hrv
  have hkvB : kv ≤ 1048576 := by omega
  clear hrv
  clear hb
  go_wp2_with fail
  refine (drawBlk_any _ _ _ y1 _ hm1 hc1 (hr1.later HB1.out)).mono ?_
  rintro e w2 ⟨Ao, ko, capo, o, rfl, hko, hro, hb⟩
  have HB2 := Lib.hid (bl_trans HB1.out hb)
  have Hv_2 := Lib.hid (Hv_1.out.later hb)
  have Ho_2 := Lib.hid hro
  have hkoB : ko ≤ 1048576 := by omega
  clear hro
  clear hb HB1 Hv_1
  obtain ⟨N, C, L, BD, OK, hN, hI, hS, hK⟩ := blcFacts kv v hkvB
  have HI := Lib.hid hI
  have HS := Lib.hid hS
  have HK := Lib.hid hK
  have HSame := Lib.hid (same_refl' N C L BD)
  clear hI hS hK
  go_wp2_with fail
  refine (HI.out _ _ _ Hv_2.out).mono ?_
  rintro e w3 ⟨Ax, capx, rfl, hfx, hb⟩
  have HB3 := Lib.hid (bl_trans HB2.out hb)
  have Hv_3 := Lib.hid (Hv_2.out.later hb)
  have Ho_3 := Lib.hid (Ho_2.out.later hb)
  have Hx_3 := Lib.hid hfx.rdAt
  clear hfx
  clear hb HB2 Hv_2 Ho_2
  go_wp2_with fail
  have HAl := Lib.hid (bl_alloc (Below.refl w3.heap.size w3) (.cells #[.slice Ax N capx, .int .i64 BD] 25))
  have b0 : (w3.alloc (.cells #[.slice Ax N capx, .int .i64 BD] 25)).cell? ⟨w3.heap.size, 0, none⟩ = some (.slice Ax N capx) := by go_simp
  have b1 : (w3.alloc (.cells #[.slice Ax N capx, .int .i64 BD] 25)).cell? ⟨w3.heap.size, 1, none⟩ = some (.int .i64 BD) := by go_simp
  refine (HS.out _ _ _ (Hv_3.out.later HAl.out)).mono ?_
  rintro e w4 ⟨As, caps, rfl, hfs, hb1⟩
  have hb := bl_trans HAl.out hb1
  have HB4 := Lib.hid (bl_trans HB3.out hb)
  have Hv_4 := Lib.hid (Hv_3.out.later hb)
  have Ho_4 := Lib.hid (Ho_3.out.later hb)
  have Hx_4 := Lib.hid (Hx_3.out.later hb)
  have Hs_4 := Lib.hid hfs.rdAt
  replace b0 := kc hb1 b0
  replace b1 := kc hb1 b1
  have zb : w3.heap.size < w4.heap.size := World.block_lt_of_cell? w4 ⟨w3.heap.size, 0, none⟩ b0
  clear hfs HI HS
  clear hb hb1 HB3 Hv_3 Ho_3 Hx_3 HAl
  cases OK with
  | false =>
    clear HK
    clear Hv_4 Ho_4
    go_wp2_with fail
    have HAl := Lib.hid (bl_alloc (Below.refl w4.heap.size w4) (.cells #[.slice As N caps, .int .i64 BD] 25))
    have d0 : (w4.alloc (.cells #[.slice As N caps, .int .i64 BD] 25)).cell? ⟨w4.heap.size, 0, none⟩ = some (.slice As N caps) := by go_simp
    have d1 : (w4.alloc (.cells #[.slice As N caps, .int .i64 BD] 25)).cell? ⟨w4.heap.size, 1, none⟩ = some (.int .i64 BD) := by go_simp
    replace b0 := kc HAl.out b0
    replace b1 := kc HAl.out b1
    refine (implSame_any _ _ _ _ _ _ _ _ C L C L _ hN (Hx_4.out.later HAl.out) (Hs_4.out.later HAl.out)).mono ?_
    rintro e w5 ⟨rfl, hb1⟩
    have hb := bl_trans HAl.out hb1
    have HB5 := Lib.hid (bl_trans HB4.out hb)
    have Hx_5 := Lib.hid (Hx_4.out.later hb)
    have Hs_5 := Lib.hid (Hs_4.out.later hb)
    replace b0 := kc hb1 b0
    replace b1 := kc hb1 b1
    replace d0 := kc hb1 d0
    replace d1 := kc hb1 d1
    clear zb
    have zb : w3.heap.size < w5.heap.size := World.block_lt_of_cell? w5 ⟨w3.heap.size, 0, none⟩ b0
    have zd : w4.heap.size < w5.heap.size := World.block_lt_of_cell? w5 ⟨w4.heap.size, 0, none⟩ d0
    clear hb hb1 HB4 Hx_4 Hs_4 HAl
    rw [HSame.out]
    go_wp2_with fail
    refine (implSame_any _ _ _ _ _ _ _ _ C L C L _ hN Hx_5.out Hs_5.out).mono ?_
    rintro e w6 ⟨rfl, hb⟩
    have HB6 := Lib.hid (bl_trans HB5.out hb)
    replace b0 := kc hb b0
    replace b1 := kc hb b1
    replace d0 := kc hb d0
    replace d1 := kc hb d1
    clear zb zd
    have zb : w3.heap.size < w6.heap.size := World.block_lt_of_cell? w6 ⟨w3.heap.size, 0, none⟩ b0
    have zd : w4.heap.size < w6.heap.size := World.block_lt_of_cell? w6 ⟨w4.heap.size, 0, none⟩ d0
    clear hb HB5 Hx_5 Hs_5
    rw [HSame.out]
    go_wp2
    go_ret
    exact ⟨rfl, HB6.out⟩
  | true =>
    obtain ⟨h12, hV, hE⟩ := HK.out rfl
    subst h12
    have HV := Lib.hid hV
    have HE := Lib.hid (hE o)
    clear hV hE HK
    go_wp2_with fail
    have HAl := Lib.hid (bl_alloc (Below.refl w4.heap.size w4) (.cells #[.slice As N caps, .int .i64 BD] 25))
    have d0 : (w4.alloc (.cells #[.slice As N caps, .int .i64 BD] 25)).cell? ⟨w4.heap.size, 0, none⟩ = some (.slice As N caps) := by go_simp
    have d1 : (w4.alloc (.cells #[.slice As N caps, .int .i64 BD] 25)).cell? ⟨w4.heap.size, 1, none⟩ = some (.int .i64 BD) := by go_simp
    replace b0 := kc HAl.out b0
    replace b1 := kc HAl.out b1
    refine (implSame_any _ _ _ _ _ _ _ _ C L C L _ hN (Hx_4.out.later HAl.out) (Hs_4.out.later HAl.out)).mono ?_
    rintro e w5 ⟨rfl, hb1⟩
    have hb := bl_trans HAl.out hb1
    have HB5 := Lib.hid (bl_trans HB4.out hb)
    have Hv_5 := Lib.hid (Hv_4.out.later hb)
    have Ho_5 := Lib.hid (Ho_4.out.later hb)
    have Hx_5 := Lib.hid (Hx_4.out.later hb)
    have Hs_5 := Lib.hid (Hs_4.out.later hb)
    replace b0 := kc hb1 b0
    replace b1 := kc hb1 b1
    replace d0 := kc hb1 d0
    replace d1 := kc hb1 d1
    clear zb
    have zb : w3.heap.size < w5.heap.size := World.block_lt_of_cell? w5 ⟨w3.heap.size, 0, none⟩ b0
    have zd : w4.heap.size < w5.heap.size := World.block_lt_of_cell? w5 ⟨w4.heap.size, 0, none⟩ d0
    clear hb hb1 HB4 Hv_4 Ho_4 Hx_4 Hs_4 HAl
    rw [HSame.out]
    by_cases h12 : ko = 12
    · subst h12
      clear Hs_5
      clear d0 d1 zd
      obtain ⟨q, hq⟩ : ∃ q : Bool, eqVB v o 12 = q := ⟨_, rfl⟩
      have HQ := Lib.hid hq
      clear hq
      go_wp2_with fail
      refine (implValid_any _ _ _ _ C L _ hN Hx_5.out).mono ?_
      rintro e w6 ⟨rfl, hb⟩
      have HB6 := Lib.hid (bl_trans HB5.out hb)
      have Hv_6 := Lib.hid (Hv_5.out.later hb)
      have Ho_6 := Lib.hid (Ho_5.out.later hb)
      have Hx_6 := Lib.hid (Hx_5.out.later hb)
      replace b0 := kc hb b0
      replace b1 := kc hb b1
      clear zb
      have zb : w3.heap.size < w6.heap.size := World.block_lt_of_cell? w6 ⟨w3.heap.size, 0, none⟩ b0
      clear hb HB5 Hv_5 Ho_5 Hx_5
      rw [HV.out]
      go_wp2_with fail
      refine (implEval_any _ _ _ _ _ _ _ C L o _ hN Hx_6.out Ho_6.out).mono ?_
      rintro e w7 ⟨rfl, hb⟩
      have HB7 := Lib.hid (bl_trans HB6.out hb)
      have Hv_7 := Lib.hid (Hv_6.out.later hb)
      have Ho_7 := Lib.hid (Ho_6.out.later hb)
      replace b0 := kc hb b0
      replace b1 := kc hb b1
      clear zb
      have zb : w3.heap.size < w7.heap.size := World.block_lt_of_cell? w7 ⟨w3.heap.size, 0, none⟩ b0
      clear hb HB6 Hx_6 Hv_6 Ho_6
      rw [HE.out, HQ.out]
      go_wp2_with fail
      refine (cpBools_any _ _ 12 _ _ v o _ (by omega) Hv_7.out Ho_7.out).mono ?_
      rintro e w8 ⟨rfl, hb⟩
      have HB8 := Lib.hid (bl_trans HB7.out hb)
      have Hv_8 := Lib.hid (Hv_7.out.later hb)
      have Ho_8 := Lib.hid (Ho_7.out.later hb)
      replace b0 := kc hb b0
      replace b1 := kc hb b1
      clear zb
      have zb : w3.heap.size < w8.heap.size := World.block_lt_of_cell? w8 ⟨w3.heap.size, 0, none⟩ b0
      clear hb HB7 Hv_7 Ho_7
      rw [HQ.out]
      cases q with
      | false =>
        go_wp2
        go_ret
        exact ⟨rfl, HB8.out⟩
      | true =>
        go_wp2
        go_ret
        exact ⟨rfl, HB8.out⟩
    · have hnd : ((ko : Int) != 12) = true := by rw [bne_iff_ne]; omega
      clear h12 HE HV
      clear Hv_5 Ho_5
      go_wp2_with fail
      refine (implSame_any _ _ _ _ _ _ _ _ C L C L _ hN Hx_5.out Hs_5.out).mono ?_
      rintro e w6 ⟨rfl, hb⟩
      have HB6 := Lib.hid (bl_trans HB5.out hb)
      replace b0 := kc hb b0
      replace b1 := kc hb b1
      replace d0 := kc hb d0
      replace d1 := kc hb d1
      clear zb zd
      have zb : w3.heap.size < w6.heap.size := World.block_lt_of_cell? w6 ⟨w3.heap.size, 0, none⟩ b0
      have zd : w4.heap.size < w6.heap.size := World.block_lt_of_cell? w6 ⟨w4.heap.size, 0, none⟩ d0
      clear hb HB5 Hx_5 Hs_5
      rw [HSame.out]
      go_wp2
      go_ret
      exact ⟨rfl, HB6.out⟩

set_option linter.unusedVariables false in
set_option maxRecDepth 100000 in
set_option maxHeartbeats 1600000 in
theorem lawFnBlockingClause_walk (A0 : Option Addr) (n0 cap0 : Nat) (y0 : Nat → Int) (A1 : Option Addr) (n1 cap1 : Nat) (y1 : Nat → Int) (w : World) (hm0 : n0 ≤ maxLen) (hc0 : n0 ≤ cap0) (hr0 : RdY w w.heap.size A0 n0 y0) (hm1 : n1 ≤ maxLen) (hc1 : n1 ≤ cap1) (hr1 : RdY w w.heap.size A1 n1 y1) :
    Calls Try.prog 4 #[.slice A0 n0 cap0, .slice A1 n1 cap1] w fun e w' => e = .returned (.bool true) ∧ Below w.heap.size w w' := by
  by_cases h0 : n0 ≤ 1048576
  · by_cases h1 : n1 ≤ 1048576
    · exact lawFnBlockingClause_ok A0 A1 n0 cap0 n1 cap1 y0 y1 w h0 h1 hc0 hr0 hc1 hr1
    · unfold maxLen at hm1
      have hi0 : ¬ (1048576 : Int) < (n0 : Int) := by omega
      have hi1 : (1048576 : Int) < (n1 : Int) := by omega
      go_enter Try.func4, Try.ntmps4
      go_wp2
      go_ret
      exact ⟨rfl, Below.refl _ _⟩
  · unfold maxLen at hm0
    have hi0 : (1048576 : Int) < (n0 : Int) := by omega
    go_enter Try.func4, Try.ntmps4
    go_wp2
    go_ret
    exact ⟨rfl, Below.refl _ _⟩
end Go.Proofs.Ytfkgcniphgigeaa

