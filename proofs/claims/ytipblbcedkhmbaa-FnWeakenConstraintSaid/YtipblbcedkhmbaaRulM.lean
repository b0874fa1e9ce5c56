/- Arithmetic of the laws of multiplication, division and saturation (no claim of its own). Conditions: as each theorem states. -/
import Derived.Test.YtipblbcedkhmbaaSmeA
import Derived.Test.YtipblbcedkhmbaaScaA
import Derived.Test.YtipblbcedkhmbaaParA
import Derived.Test.YtipblbcedkhmbaaEvaC
namespace Go.Proofs.Ytipblbcedkhmbaa
open Go.ChangeShapes Go.WideShapes Go.ChangeAt Go.RowKit

theorem tseq_of {n : Nat} {c l c' l' : Nat → Int} (h : ∀ i, i < n → c i = c' i ∧ l i = l' i) : tseq c l c' l' n = true := by
  induction n with
  | zero => rfl
  | succ n ih =>
    unfold tseq
    obtain ⟨h1, h2⟩ := h n (by omega)
    rw [ih fun i hi => h i (by omega), h1, h2]
    simp [teq]
theorem same_of {n : Nat} {c l c' l' : Nat → Int} {bd bd' : Int} (h : ∀ i, i < n → c i = c' i ∧ l i = l' i) (hb : bd = bd') : same n n c l c' l' bd bd' = true := by
  unfold same
  rw [tseq_of h, hb]
  simp
theorem same_refl' (n : Nat) (c l : Nat → Int) (bd : Int) : same n n c l c l bd bd = true := same_of (fun _ _ => ⟨rfl, rfl⟩) rfl
theorem Frs.to {w : World} {B : Nat} {A : Option Addr} {n : Nat} {c l c' l' : Nat → Int} (h : Frs w B A n c l) (he : ∀ i, i < n → c i = c' i ∧ l i = l' i) : Frs w B A n c' l' := by
  rcases h with h | ⟨G, e, hG, cs, hh, h1, h2⟩
  · exact .inl h
  · refine .inr ⟨G, e, hG, cs, hh, h1, fun i hi => ?_⟩
    obtain ⟨x, y⟩ := h2 i hi
    obtain ⟨e1, e2⟩ := he i hi
    rw [← e1, ← e2]
    exact ⟨x, y⟩
theorem CRes.to {w : World} {n n' : Nat} {c l c' l' : Nat → Int} {bd bd' : Int} {ok ok' : Bool} {e : Ending} {w' : World} (h : CRes w n c l bd ok e w') (hn : n = n') (he : ∀ i, i < n → c i = c' i ∧ l i = l' i) (hb : bd = bd') (hk : ok = ok') : CRes w n' c' l' bd' ok' e w' := by
  subst hn hb hk
  obtain ⟨A, cap, h1, h2, h3⟩ := h
  exact ⟨A, cap, h1, h2.to he, h3⟩

theorem wr64 {x : Int} (h : -9000000000 ≤ x ∧ x ≤ 9000000000) : wrap64 x = x := by rw [← IntWalk.i64_left]; exact IntWalk.i64_in _ (by omega)
theorem mulK_val {x k : Int} (h0 : 0 ≤ x) (h1 : x ≤ 20000) (h2 : 1 ≤ k) (h3 : k ≤ 1000) : mulK x k = x * k ∧ x ≤ x * k := by
  have a : 0 ≤ x * k := Int.mul_nonneg h0 (by omega)
  have b : x * k ≤ 20000 * 1000 := Int.mul_le_mul h1 h3 (by omega) (by omega)
  have d : x * 1 ≤ x * k := Int.mul_le_mul_of_nonneg_left h2 h0
  exact ⟨wr64 (by omega), by omega⟩
theorem divK_le_iff {x k q : Int} (hk : 1 ≤ k) : divK x k ≤ q ↔ x ≤ q * k := by
  unfold divK
  have : (x + k - 1) / k < q + 1 ↔ x + k - 1 < (q + 1) * k := Int.ediv_lt_iff_lt_mul (by omega)
  have e : (q + 1) * k = q * k + k := by rw [Int.add_mul, Int.one_mul]
  rw [e] at this
  omega
theorem divK_mul {x k : Int} (hk : 1 ≤ k) : divK (x * k) k = x := by
  have h1 := (divK_le_iff (x := x * k) (q := x) hk).2 (Int.le_refl _)
  have h2 : ¬ divK (x * k) k ≤ x - 1 := fun h => by
    have := (divK_le_iff hk).1 h
    rw [Int.sub_mul] at this
    omega
  omega
theorem divK_divK {x k n : Int} (hk : 1 ≤ k) (hn : 1 ≤ n) : divK (divK x k) n = divK x (k * n) := by
  have hkn : 1 ≤ k * n := by have := Int.mul_le_mul hk hn (by omega) (by omega); omega
  have h : ∀ q, divK (divK x k) n ≤ q ↔ divK x (k * n) ≤ q := fun q => by
    rw [divK_le_iff hn, divK_le_iff hk, divK_le_iff hkn, Int.mul_assoc, Int.mul_comm n k]
  have h1 := (h (divK x (k * n))).2 (Int.le_refl _)
  have h2 := (h (divK (divK x k) n)).1 (Int.le_refl _)
  omega
theorem divK_ge {x k : Int} (hk : 1 ≤ k) : x ≤ divK x k * k := (divK_le_iff hk).1 (Int.le_refl _)
theorem divK_in {x k b : Int} (h0 : 0 ≤ x) (h1 : x ≤ b) (hk : 1 ≤ k) : 0 ≤ divK x k ∧ divK x k ≤ b ∧ (1 ≤ x → 1 ≤ divK x k) := by
  have hb : b * 1 ≤ b * k := Int.mul_le_mul_of_nonneg_left hk (by omega)
  refine ⟨?_, (divK_le_iff hk).2 (by omega), fun hx => ?_⟩
  · have : ¬ divK x k ≤ -1 := fun h => by have := (divK_le_iff hk).1 h; omega
    omega
  · have : ¬ divK x k ≤ 0 := fun h => by have := (divK_le_iff hk).1 h; omega
    omega

/-- What a law over a drawn constraint, one rule and values needs of the rule's answer. -/
theorem infB_iff {R : Bool} {n : Nat} {c l : Nat → Int} {bd : Int} : infB R n c l bd = true ↔ R = true ∧ validB n c l bd = true := by simp [infB]
theorem inf_of {R : Bool} {n : Nat} {c l : Nat → Int} {bd : Int} (h : infB R n c l bd = true) : infN R n c l bd = n ∧ infD R n c l bd = bd := by
  unfold infN infD
  rw [h]
  exact ⟨rfl, rfl⟩

theorem evalV_sB {n : Nat} {c l : Nat → Int} {bd : Int} {v : Nat → Bool} (hn : n ≤ 1048576) (h : validB n c l bd = true) : evalV n c l bd 12 v = decide (bd ≤ sB c l (trueP v) n) := by
  rw [evalV_yes h]
  unfold evW
  rw [sumW_sB hn (coef_of h)]
theorem sB_mul {n : Nat} {c l : Nat → Int} {k : Int} {P : Int → Bool} (hc : ∀ i, i < n → 1 ≤ c i ∧ c i ≤ 1000) (h2 : 1 ≤ k) (h3 : k ≤ 1000) : sB (fun i => mulK (c i) k) l P n = sB c l P n * k := by
  induction n with
  | zero => simp [sB]
  | succ n ih =>
    have h1 := ih fun i hi => hc i (by omega)
    have hn := hc n (by omega)
    cases hp : P (l n) with
    | true =>
      rw [sB_yes (c := c) hp, sB_yes (c := fun i => mulK (c i) k) hp, h1]
      show _ + mulK (c n) k = _
      rw [(mulK_val (by omega) (by omega) h2 h3).1, Int.add_mul]
    | false => rw [sB_no (c := c) hp, sB_no (c := fun i => mulK (c i) k) hp, h1]
theorem sB_div {n : Nat} {c l : Nat → Int} {k : Int} {P : Int → Bool} (h2 : 1 ≤ k) : sB c l P n ≤ sB (fun i => divK (c i) k) l P n * k := by
  induction n with
  | zero => simp [sB]
  | succ n ih =>
    cases hp : P (l n) with
    | true =>
      rw [sB_yes (c := c) hp, sB_yes (c := fun i => divK (c i) k) hp, Int.add_mul]
      have := divK_ge (x := c n) h2
      show _ + _ ≤ _ + divK (c n) k * k
      omega
    | false => rw [sB_no (c := c) hp, sB_no (c := fun i => divK (c i) k) hp]; exact ih

/-- Multiplication is an equivalence, and division takes it back. -/
theorem mul_law {n : Nat} {c l : Nat → Int} {bd k : Int} (hn : n ≤ 1048576) (h : infB (scaR n c l bd k) n (fun i => mulK (c i) k) l (mulK bd k) = true) :
    (1 ≤ k ∧ k ≤ 1000) ∧ validB n c l bd = true ∧ validB n (fun i => mulK (c i) k) l (mulK bd k) = true ∧ (∀ i, i < n → divK (mulK (c i) k) k = c i) ∧ divK (mulK bd k) k = bd ∧ ∀ nv v, evalV n (fun i => mulK (c i) k) l (mulK bd k) nv v = evalV n c l bd nv v := by
  obtain ⟨hR, hv⟩ := infB_iff.1 h
  obtain ⟨hv0, h2, h3⟩ := scaR_iff.1 hR
  have hb := bound_of hv0
  refine ⟨⟨h2, h3⟩, hv0, hv, fun i hi => ?_, ?_, fun nv v => ?_⟩
  · have := coef_of hv0 i hi
    rw [(mulK_val (by omega) (by omega) h2 h3).1, divK_mul h2]
  · rw [(mulK_val (by omega) (by omega) h2 h3).1, divK_mul h2]
  · by_cases e : nv = 12
    · subst e
      rw [evalV_sB hn hv, evalV_sB hn hv0, sB_mul (coef_of hv0) h2 h3, (mulK_val hb.1 (by omega) h2 h3).1]
      have : bd * k ≤ sB c l (trueP v) n * k ↔ bd ≤ sB c l (trueP v) n := Int.mul_le_mul_right (by omega)
      rw [decide_eq_decide]
      exact this
    · rw [evalV_len e, evalV_len e]

theorem div_valid {n : Nat} {c l : Nat → Int} {bd k : Int} (h : validB n c l bd = true) (h2 : 1 ≤ k) : validB n (fun i => divK (c i) k) l (divK bd k) = true :=
  valid_mk h (fun i hi => by
    have hc := coef_of h i hi
    have := divK_in (x := c i) (k := k) (by omega) hc.2 h2
    exact ⟨this.2.2 hc.1, this.2.1⟩) (divK_in (bound_of h).1 (bound_of h).2 h2).1 (divK_in (bound_of h).1 (bound_of h).2 h2).2.1
theorem div_infB {n : Nat} {c l : Nat → Int} {bd k : Int} (h : validB n c l bd = true) (h2 : 1 ≤ k) (h3 : k ≤ 1000) : infB (scaR n c l bd k) n (fun i => divK (c i) k) l (divK bd k) = true :=
  infB_iff.2 ⟨scaR_iff.2 ⟨h, h2, h3⟩, div_valid h h2⟩
/-- Division is sound. -/
theorem div_law {n : Nat} {c l : Nat → Int} {bd k : Int} (hn : n ≤ 1048576) (h : infB (scaR n c l bd k) n (fun i => divK (c i) k) l (divK bd k) = true) :
    (1 ≤ k ∧ k ≤ 1000) ∧ validB n c l bd = true ∧ validB n (fun i => divK (c i) k) l (divK bd k) = true ∧ ∀ nv v, evalV n c l bd nv v = true → evalV n (fun i => divK (c i) k) l (divK bd k) nv v = true := by
  obtain ⟨hR, hv⟩ := infB_iff.1 h
  obtain ⟨hv0, h2, h3⟩ := scaR_iff.1 hR
  refine ⟨⟨h2, h3⟩, hv0, hv, fun nv v he => ?_⟩
  by_cases e : nv = 12
  · subst e
    rw [evalV_sB hn hv0, decide_eq_true_eq] at he
    rw [evalV_sB hn hv, decide_eq_true_eq, divK_le_iff h2]
    exact Int.le_trans he (sB_div h2)
  · rw [evalV_len e] at he
    cases he
/-- Divisions compose. -/
theorem div_twice {n : Nat} {c l : Nat → Int} {bd k m : Int} (h1 : 1 ≤ k) (h2 : 1 ≤ m) : same n n (fun i => divK (divK (c i) k) m) l (fun i => divK (c i) (k * m)) l (divK (divK bd k) m) (divK bd (k * m)) = true :=
  same_of (fun _ _ => ⟨divK_divK h1 h2, rfl⟩) (divK_divK h1 h2)
end Go.Proofs.Ytipblbcedkhmbaa
