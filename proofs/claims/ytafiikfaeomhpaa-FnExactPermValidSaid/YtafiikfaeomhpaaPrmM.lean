/- Permutations of five: what is asked of them (no claim of its own). Conditions: as each theorem states. -/
import Derived.Test.YtafiikfaeomhpaaDifM
import Derived.Test.YtafiikfaeomhpaaCvoA
namespace Go.Proofs.Ytafiikfaeomhpaa
open Go.ChangeShapes Go.WideShapes Go.ChangeAt Go.RowKit

/-- The images of five cells: those that are not given are their own. -/
def exP (n : Nat) (c : Nat → Int) (i : Nat) : Int := if i < n then c i else (i : Int)
theorem exP_at {n i : Nat} {c : Nat → Int} (h : i < n) : exP n c i = c i := if_pos h
theorem exP_out {n i : Nat} {c : Nat → Int} (h : ¬ i < n) : exP n c i = (i : Int) := if_neg h
/-- Element i of the sorted row. -/
def srA (c : Nat → Int) (i : Nat) : Int := (srt c 5).getD i 0
def eq5 (u v : Nat → Int) : Bool := u 0 == v 0 && (u 1 == v 1 && (u 2 == v 2 && (u 3 == v 3 && u 4 == v 4)))
theorem eq5_iff {u v : Nat → Int} : eq5 u v = true ↔ ∀ i, i < 5 → u i = v i := by
  unfold eq5
  simp only [Bool.and_eq_true, beq_iff_eq]
  constructor
  · rintro ⟨h0, h1, h2, h3, h4⟩ i hi
    have : i = 0 ∨ i = 1 ∨ i = 2 ∨ i = 3 ∨ i = 4 := by omega
    rcases this with rfl | rfl | rfl | rfl | rfl <;> assumption
  · intro h
    exact ⟨h 0 (by omega), h 1 (by omega), h 2 (by omega), h 3 (by omega), h 4 (by omega)⟩
theorem list5 {l : List Int} (h : l.length = 5) : ∃ a b c d e, l = [a, b, c, d, e] := by
  rcases l with _ | ⟨a, _ | ⟨b, _ | ⟨c, _ | ⟨d, _ | ⟨e, _ | ⟨f, t⟩⟩⟩⟩⟩⟩ <;> simp at h
  exact ⟨a, b, c, d, e, rfl⟩
/-- Five numbers, sorted, are 0 to 4 exactly if they are different and lie there. -/
theorem srt_id {u : Nat → Int} : srt u 5 = [0, 1, 2, 3, 4] ↔ (∀ i, i < 5 → 0 ≤ u i ∧ u i ≤ 4) ∧ ∀ i, i < 5 → ∀ k, k < i → u k ≠ u i := by
  have hnd : (∀ i, i < 5 → ∀ k, k < i → u k ≠ u i) ↔ (vlst u 5).Nodup := by
    rw [vlst_nodup, prE_iff]
    refine forall_congr' fun i => forall_congr' fun _ => ?_
    unfold newB
    rw [prE_iff]
    refine forall_congr' fun k => forall_congr' fun _ => ?_
    rw [bne_iff_ne]
  rw [hnd, ← (srt_perm u 5).nodup_iff]
  have hm : ∀ x, x ∈ srt u 5 ↔ ∃ i, i < 5 ∧ u i = x := fun x => by rw [(srt_perm u 5).mem_iff, mem_vlst]
  constructor
  · intro h
    rw [h] at hm ⊢
    refine ⟨fun i hi => ?_, by decide⟩
    have := (hm (u i)).2 ⟨i, hi, rfl⟩
    simp only [List.mem_cons, List.not_mem_nil, or_false] at this
    omega
  · rintro ⟨hb, hd⟩
    have hs := srt_sorted u 5
    obtain ⟨a, b, c, d, e, hl⟩ := list5 (srt_length u 5)
    rw [hl] at hd hs hm ⊢
    have hr : ∀ x, x ∈ [a, b, c, d, e] → 0 ≤ x ∧ x ≤ 4 := fun x hx => by
      obtain ⟨i, hi, rfl⟩ := (hm x).1 hx
      exact hb i hi
    have ra := hr a (by simp)
    have re := hr e (by simp)
    simp only [List.pairwise_cons, List.mem_cons, List.not_mem_nil, or_false, List.Nodup, forall_eq_or_imp, forall_eq] at hs hd
    obtain ⟨⟨s1, s2, s3, s4⟩, ⟨s5, s6, s7⟩, ⟨s8, s9⟩, s10, -⟩ := hs
    obtain ⟨⟨d1, d2, d3, d4⟩, ⟨d5, d6, d7⟩, ⟨d8, d9⟩, d10, -⟩ := hd
    have e0 : a = 0 := by omega
    have e1 : b = 1 := by omega
    have e2 : c = 2 := by omega
    have e3 : d = 3 := by omega
    have e4 : e = 4 := by omega
    subst e0 e1 e2 e3 e4
    rfl
def idn (i : Nat) : Int := (i : Int)
theorem srA_id {u : Nat → Int} : eq5 (srA u) idn = true ↔ srt u 5 = [0, 1, 2, 3, 4] := by
  rw [eq5_iff]
  obtain ⟨a, b, c, d, e, hl⟩ := list5 (srt_length u 5)
  unfold srA idn
  rw [hl]
  constructor
  · intro h
    have h0 := h 0 (by omega)
    have h1 := h 1 (by omega)
    have h2 := h 2 (by omega)
    have h3 := h 3 (by omega)
    have h4 := h 4 (by omega)
    simp at h0 h1 h2 h3 h4
    subst h0 h1 h2 h3 h4
    rfl
  · intro h
    injection h with h0 h
    injection h with h1 h
    injection h with h2 h
    injection h with h3 h
    injection h with h4 h
    subst h0 h1 h2 h3 h4
    intro i hi
    have : i = 0 ∨ i = 1 ∨ i = 2 ∨ i = 3 ∨ i = 4 := by omega
    rcases this with rfl | rfl | rfl | rfl | rfl <;> rfl
/-- The images of the cells of a model with n cells are a permutation of them. -/
theorem exP_ok {n : Nat} {c : Nat → Int} (h1 : 1 ≤ n) (h5 : n ≤ 5) : eq5 (srA (exP n c)) idn = varB n ⟨n, c⟩ := by
  have hv : varB n ⟨n, c⟩ = true ↔ ∀ i, i < n → (0 ≤ c i ∧ c i ≤ n - 1) ∧ ∀ k, k < i → c k ≠ c i := by
    unfold varB
    simp only [Bool.and_eq_true, decide_eq_true_eq]
    rw [prE_iff]
    constructor
    · rintro ⟨h, -⟩ i hi
      have := h i hi
      rw [Bool.and_eq_true] at this
      unfold betB newB at this
      rw [prE_iff] at this
      simp only [Bool.and_eq_true, decide_eq_true_eq, bne_iff_ne] at this
      exact this
    · intro h
      refine ⟨fun i hi => ?_, h1⟩
      have := h i hi
      rw [Bool.and_eq_true]
      unfold betB newB
      rw [prE_iff]
      simp only [Bool.and_eq_true, decide_eq_true_eq, bne_iff_ne]
      exact this
  have key : eq5 (srA (exP n c)) idn = true ↔ varB n ⟨n, c⟩ = true := by
    rw [srA_id, srt_id, hv]
    constructor
    · rintro ⟨hb, hd⟩ i hi
      have hdi : ∀ k, k < i → c k ≠ c i := fun k hk => by
        have := hd i (by omega) k hk
        rw [exP_at hi, exP_at (by omega)] at this
        exact this
      refine ⟨?_, hdi⟩
      have hbi := hb i (by omega)
      rw [exP_at hi] at hbi
      refine ⟨hbi.1, ?_⟩
      by_cases hlt : c i < n
      · omega
      · exfalso
        obtain ⟨j, hj⟩ : ∃ j : Nat, c i = (j : Int) := ⟨(c i).toNat, by omega⟩
        have := hd j (by omega) i (by omega)
        rw [exP_at hi, exP_out (by omega)] at this
        exact this hj
    · intro h
      refine ⟨fun i hi => ?_, fun i hi k hk => ?_⟩
      · by_cases hin : i < n
        · rw [exP_at hin]
          have := (h i hin).1
          omega
        · rw [exP_out hin]
          omega
      · by_cases hin : i < n
        · rw [exP_at hin, exP_at (by omega)]
          exact (h i hin).2 k hk
        · rw [exP_out hin]
          by_cases hkn : k < n
          · rw [exP_at hkn]
            have := (h k hkn).1
            omega
          · rw [exP_out hkn]
            omega
  cases h2 : varB n ⟨n, c⟩ with
  | true => exact key.2 h2
  | false =>
    cases h3 : eq5 (srA (exP n c)) idn with
    | false => rfl
    | true => rw [key.1 h3] at h2; cases h2
/-- The values behind k moves: the image of each cell has its value. -/
def mvF (p v : Nat → Int) : Nat → Nat → Int
  | 0, _ => 0
  | k + 1, j => if (j : Int) = p k then v k else mvF p v k j
theorem mvF_at {p v : Nat → Int} {k i j : Nat} (hd : ∀ a, a < k → ∀ b, b < a → p b ≠ p a) (hi : i < k) (hj : p i = (j : Int)) : mvF p v k j = v i := by
  induction k with
  | zero => omega
  | succ k ih =>
    unfold mvF
    by_cases e : i = k
    · subst e
      rw [if_pos hj.symm]
    · rw [if_neg (fun h => hd k (by omega) i (by omega) (by rw [hj, h]))]
      exact ih (fun a ha => hd a (by omega)) (by omega)
theorem mvF_congr {p v p' v' : Nat → Int} {k j : Nat} (hp : ∀ i, i < k → p i = p' i) (hv : ∀ i, i < k → v i = v' i) : mvF p v k j = mvF p' v' k j := by
  induction k with
  | zero => rfl
  | succ k ih =>
    unfold mvF
    rw [hp k (by omega), hv k (by omega), ih (fun i hi => hp i (by omega)) (fun i hi => hv i (by omega))]
theorem mvF_ext {n : Nat} {p v : Nat → Int} {m j : Nat} (hj : j < n) : mvF (exP n p) (cvV n v) (n + m) j = mvF p v n j := by
  induction m with
  | zero => exact mvF_congr (fun i hi => exP_at hi) (fun i hi => if_pos hi)
  | succ m ih =>
    show (if (j : Int) = exP n p (n + m) then cvV n v (n + m) else mvF (exP n p) (cvV n v) (n + m) j) = _
    rw [exP_out (by omega), if_neg (by omega)]
    exact ih
theorem mvF_five {n : Nat} {p v : Nat → Int} {j : Nat} (h5 : n ≤ 5) (hj : j < n) : mvF (exP n p) (cvV n v) 5 j = mvF p v n j := by
  have := mvF_ext (p := p) (v := v) (m := 5 - n) hj
  rwa [show n + (5 - n) = 5 by omega] at this
/-- The image of each cell has its size. -/
def kpB (n : Nat) (s p : Nat → Int) : Bool := prE (fun i => s i == s (p i).toNat) n
theorem keeps_eq {n : Nat} {s p : Nat → Int} (h1 : 1 ≤ n) (h5 : n ≤ 5) (hv : varB n ⟨n, p⟩ = true) : eq5 (mvF (exP n p) (cvV n s) 5) (cvV n s) = kpB n s p := by
  have hid := srA_id.1 ((exP_ok h1 h5).trans hv)
  obtain ⟨hb, hd⟩ := srt_id.1 hid
  have hsur : ∀ j : Nat, j < 5 → ∃ i, i < 5 ∧ exP n p i = (j : Int) := fun j hj => by
    have : (j : Int) ∈ srt (exP n p) 5 := by
      rw [hid]
      have : j = 0 ∨ j = 1 ∨ j = 2 ∨ j = 3 ∨ j = 4 := by omega
      rcases this with rfl | rfl | rfl | rfl | rfl <;> simp
    rw [(srt_perm _ 5).mem_iff, mem_vlst] at this
    exact this
  have hlt : ∀ i, i < n → 0 ≤ p i ∧ p i < n := fun i hi => by
    have h2 := hb i (by omega)
    rw [exP_at hi] at h2
    refine ⟨h2.1, ?_⟩
    by_cases h3 : p i < n
    · exact h3
    · obtain ⟨j, hj⟩ : ∃ j : Nat, p i = (j : Int) := ⟨(p i).toNat, by omega⟩
      have := hd j (by omega) i (by omega)
      rw [exP_at hi, exP_out (by omega)] at this
      exact absurd hj this
  have key : eq5 (mvF (exP n p) (cvV n s) 5) (cvV n s) = true ↔ kpB n s p = true := by
    rw [eq5_iff]
    unfold kpB
    rw [prE_iff]
    constructor
    · intro h i hi
      obtain ⟨j, hj⟩ : ∃ j : Nat, p i = (j : Int) := ⟨(p i).toNat, by have := hlt i hi; omega⟩
      have hjn : j < n := by have := hlt i hi; omega
      have h2 := h j (by omega)
      rw [mvF_at hd (show i < 5 by omega) (by rw [exP_at hi, hj])] at h2
      unfold cvV at h2
      rw [if_pos hi, if_pos hjn] at h2
      rw [beq_iff_eq, hj]
      exact h2
    · intro h j hj
      obtain ⟨i, hi, he⟩ := hsur j hj
      rw [mvF_at hd hi he]
      by_cases hin : i < n
      · rw [exP_at hin] at he
        have h2 := h i hin
        rw [beq_iff_eq, he] at h2
        have hjn : j < n := by have := hlt i hin; omega
        unfold cvV
        rw [if_pos hin, if_pos hjn]
        exact h2
      · rw [exP_out hin] at he
        have : i = j := by omega
        subst this
        rfl
  cases h2 : kpB n s p with
  | true => exact key.2 h2
  | false =>
    cases h3 : eq5 (mvF (exP n p) (cvV n s) 5) (cvV n s) with
    | false => rfl
    | true => rw [key.1 h3] at h2; cases h2
/-- PermValid. -/
def pmB (s : Lst) (n : Nat) (q : Nat → Rul) (p : Lst) : Bool := modB s n q && (p.n == s.n && (varB s.n p && kpB s.n s.x p.x))
/-- A permutation of n cells. -/
structure PmF (n : Nat) (p : Nat → Int) : Prop where
  lt : ∀ i, i < n → 0 ≤ p i ∧ p i < n
  dif : ∀ a, a < n → ∀ b, b < a → p b ≠ p a
  sur : ∀ j : Nat, j < n → ∃ i, i < n ∧ p i = (j : Int)
theorem varB_iff {n : Nat} {p : Nat → Int} (h1 : 1 ≤ n) : varB n ⟨n, p⟩ = true ↔ (∀ i, i < n → 0 ≤ p i ∧ p i < n) ∧ ∀ a, a < n → ∀ b, b < a → p b ≠ p a := by
  unfold varB
  simp only [Bool.and_eq_true, decide_eq_true_eq]
  rw [prE_iff]
  constructor
  · rintro ⟨h, -⟩
    refine ⟨fun i hi => ?_, fun a ha b hb => ?_⟩
    · have := h i hi
      rw [Bool.and_eq_true] at this
      have h2 := this.1
      unfold betB at h2
      simp only [Bool.and_eq_true, decide_eq_true_eq] at h2
      omega
    · have := h a ha
      rw [Bool.and_eq_true] at this
      have h2 := this.2
      unfold newB at h2
      rw [prE_iff] at h2
      have := h2 b hb
      rwa [bne_iff_ne] at this
  · rintro ⟨h, hd⟩
    refine ⟨fun i hi => ?_, h1⟩
    rw [Bool.and_eq_true]
    refine ⟨?_, ?_⟩
    · unfold betB
      simp only [Bool.and_eq_true, decide_eq_true_eq]
      have := h i hi
      omega
    · unfold newB
      rw [prE_iff]
      intro b hb
      rw [bne_iff_ne]
      exact hd i hi b hb
theorem varB_pm {n : Nat} {p : Nat → Int} (h1 : 1 ≤ n) (h5 : n ≤ 5) (hv : varB n ⟨n, p⟩ = true) : PmF n p := by
  obtain ⟨hl, hd⟩ := (varB_iff h1).1 hv
  refine ⟨hl, hd, fun j hj => ?_⟩
  have hid := srA_id.1 ((exP_ok h1 h5).trans hv)
  have : (j : Int) ∈ srt (exP n p) 5 := by
    rw [hid]
    have : j = 0 ∨ j = 1 ∨ j = 2 ∨ j = 3 ∨ j = 4 := by omega
    rcases this with rfl | rfl | rfl | rfl | rfl <;> simp
  rw [(srt_perm _ 5).mem_iff, mem_vlst] at this
  obtain ⟨i, hi, he⟩ := this
  by_cases hin : i < n
  · rw [exP_at hin] at he
    exact ⟨i, hin, he⟩
  · rw [exP_out hin] at he
    omega
/-- The inverse. -/
def bkF (n : Nat) (p : Nat → Int) : Nat → Int := mvF p idn n
theorem bkF_at {n : Nat} {p : Nat → Int} (h : PmF n p) {i j : Nat} (hi : i < n) (hj : p i = (j : Int)) : bkF n p j = (i : Int) := mvF_at h.dif hi hj
theorem bkF_pm {n : Nat} {p : Nat → Int} (h1 : 1 ≤ n) (h : PmF n p) : varB n ⟨n, bkF n p⟩ = true := by
  rw [varB_iff h1]
  refine ⟨fun j hj => ?_, fun a ha b hb => ?_⟩
  · obtain ⟨i, hi, he⟩ := h.sur j hj
    rw [bkF_at h hi he]
    omega
  · obtain ⟨i, hi, he⟩ := h.sur a ha
    obtain ⟨k, hk, hf⟩ := h.sur b (by omega)
    rw [bkF_at h hi he, bkF_at h hk hf]
    intro e
    have : k = i := by omega
    subst this
    rw [he] at hf
    omega
theorem bkF_kp {n : Nat} {s p : Nat → Int} (h : PmF n p) (hk : kpB n s p = true) : kpB n s (bkF n p) = true := by
  unfold kpB at hk ⊢
  rw [prE_iff] at hk ⊢
  intro j hj
  obtain ⟨i, hi, he⟩ := h.sur j hj
  have := hk i hi
  rw [he] at this
  rw [bkF_at h hi he]
  rw [beq_iff_eq] at this ⊢
  exact this.symm
theorem bkF_mv {n : Nat} {p c : Nat → Int} (h1 : 1 ≤ n) (h : PmF n p) {i : Nat} (hi : i < n) : mvF (bkF n p) (mvF p c n) n i = c i := by
  obtain ⟨j, hj⟩ : ∃ j : Nat, p i = (j : Int) := ⟨(p i).toNat, by have := h.lt i hi; omega⟩
  have hjn : j < n := by have := h.lt i hi; omega
  have hd := ((varB_iff h1).1 (bkF_pm h1 h)).2
  rw [mvF_at hd hjn (bkF_at h hi hj)]
  exact mvF_at h.dif hi hj
theorem mvF_bd {n : Nat} {s p c : Nat → Int} (h : PmF n p) (hk : kpB n s p = true) (hc : ∀ i, i < n → 0 ≤ c i ∧ c i ≤ s i) {j : Nat} (hj : j < n) : 0 ≤ mvF p c n j ∧ mvF p c n j ≤ s j := by
  obtain ⟨i, hi, he⟩ := h.sur j hj
  rw [mvF_at h.dif hi he]
  have h2 := prE_iff.1 hk i hi
  rw [he, beq_iff_eq] at h2
  have := hc i hi
  have e : s (Int.toNat (j : Int)) = s j := rfl
  rw [e] at h2
  omega
end Go.Proofs.Ytafiikfaeomhpaa
