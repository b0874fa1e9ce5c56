/- Permutations of five: what is asked of them (no claim of its own). Conditions: as each theorem states. · Arrays of five numbers compared (no claim of its own). Conditions: as each theorem states. · Permutations as arrays: the program's side (no claim of its own). Conditions: as each theorem states. · Permutations as arrays: sorted, and whether sizes are kept (no claim of its own). Conditions: as each theorem states. · Permutations of a model's cells: the program's side (no claim of its own). Conditions: as each theorem states. · PermValid: both sides (no claim of its own). Conditions: as each theorem states. -/
import Derived.Test.YtafiikfaeomhpaaDifM
import Derived.Test.YtafiikfaeomhpaaCvoA
import Derived.Test.YtafiikfaeomhpaaLsv
import Derived.Lib.SlKeysI
import Derived.Shelf.GgSortFunc.Compose
import Derived.Test.YtafiikfaeomhpaaCviA
import Derived.Deep.RegionHeld3
import Derived.Test.YtafiikfaeomhpaaMvsC
import Derived.Deep.QuietTactic
namespace Go.Proofs.Ytafiikfaeomhpaa
open Go.ChangeShapes Go.WideShapes Go.ChangeAt Go.RowKit

/-- The images of five cells: those that are not given are their own. -/
def exP (n : Nat) (c : Nat → Int) (i : Nat) : Int := if i < n then c i else (i : Int)
theorem exP_at {n i : Nat} {c : Nat → Int} (h : i < n) : exP n c i = c i := if_pos h
theorem exP_out {n i : Nat} {c : Nat → Int} (h : ¬ i < n) : exP n c i = (i : Int) := if_neg h
/-- Element i of the sorted row. -/
def srA (c : Nat → Int) (i : Nat) : Int := (srt c 5).getD i 0
def eq5 (u v : Nat → Int) : Bool := u 0 == v 0 && (u 1 == v 1 && (u 2 == v 2 && (u 3 == v 3 && u 4 == v 4)))
theorem eq5_iff {u v : Nat → Int} : eq5 u v = true ↔ ∀ i, i < 5 → u i = v i := by
  unfold eq5
  simp only [Bool.and_eq_true, beq_iff_eq]
  constructor
  · rintro ⟨h0, h1, h2, h3, h4⟩ i hi
    have : i = 0 ∨ i = 1 ∨ i = 2 ∨ i = 3 ∨ i = 4 := by omega
    rcases this with rfl | rfl | rfl | rfl | rfl <;> assumption
  · intro h
    exact ⟨h 0 (by omega), h 1 (by omega), h 2 (by omega), h 3 (by omega), h 4 (by omega)⟩
theorem list5 {l : List Int} (h : l.length = 5) : ∃ a b c d e, l = [a, b, c, d, e] := by
  rcases l with _ | ⟨a, _ | ⟨b, _ | ⟨c, _ | ⟨d, _ | ⟨e, _ | ⟨f, t⟩⟩⟩⟩⟩⟩ <;> simp at h
  exact ⟨a, b, c, d, e, rfl⟩
/-- Five numbers, sorted, are 0 to 4 exactly if they are different and lie there. -/
theorem srt_id {u : Nat → Int} : srt u 5 = [0, 1, 2, 3, 4] ↔ (∀ i, i < 5 → 0 ≤ u i ∧ u i ≤ 4) ∧ ∀ i, i < 5 → ∀ k, k < i → u k ≠ u i := by
  have hnd : (∀ i, i < 5 → ∀ k, k < i → u k ≠ u i) ↔ (vlst u 5).Nodup := by
    rw [vlst_nodup, prE_iff]
    refine forall_congr' fun i => forall_congr' fun _ => ?_
    unfold newB
    rw [prE_iff]
    refine forall_congr' fun k => forall_congr' fun _ => ?_
    rw [bne_iff_ne]
  rw [hnd, ← (srt_perm u 5).nodup_iff]
  have hm : ∀ x, x ∈ srt u 5 ↔ ∃ i, i < 5 ∧ u i = x := fun x => by rw [(srt_perm u 5).mem_iff, mem_vlst]
  constructor
  · intro h
    rw [h] at hm ⊢
    refine ⟨fun i hi => ?_, by decide⟩
    have := (hm (u i)).2 ⟨i, hi, rfl⟩
    simp only [List.mem_cons, List.not_mem_nil, or_false] at this
    omega
  · rintro ⟨hb, hd⟩
    have hs := srt_sorted u 5
    obtain ⟨a, b, c, d, e, hl⟩ := list5 (srt_length u 5)
    rw [hl] at hd hs hm ⊢
    have hr : ∀ x, x ∈ [a, b, c, d, e] → 0 ≤ x ∧ x ≤ 4 := fun x hx => by
      obtain ⟨i, hi, rfl⟩ := (hm x).1 hx
      exact hb i hi
    have ra := hr a (by simp)
    have re := hr e (by simp)
    simp only [List.pairwise_cons, List.mem_cons, List.not_mem_nil, or_false, List.Nodup, forall_eq_or_imp, forall_eq] at hs hd
    obtain ⟨⟨s1, s2, s3, s4⟩, ⟨s5, s6, s7⟩, ⟨s8, s9⟩, s10, -⟩ := hs
    obtain ⟨⟨d1, d2, d3, d4⟩, ⟨d5, d6, d7⟩, ⟨d8, d9⟩, d10, -⟩ := hd
    have e0 : a = 0 := by omega
    have e1 : b = 1 := by omega
    have e2 : c = 2 := by omega
    have e3 : d = 3 := by omega
    have e4 : e = 4 := by omega
    subst e0 e1 e2 e3 e4
    rfl
def idn (i : Nat) : Int := (i : Int)
theorem srA_id {u : Nat → Int} : eq5 (srA u) idn = true ↔ srt u 5 = [0, 1, 2, 3, 4] := by
  rw [eq5_iff]
  obtain ⟨a, b, c, d, e, hl⟩ := list5 (srt_length u 5)
  unfold srA idn
  rw [hl]
  constructor
  · intro h
    have h0 := h 0 (by omega)
    have h1 := h 1 (by omega)
    have h2 := h 2 (by omega)
    have h3 := h 3 (by omega)
    have h4 := h 4 (by omega)
    simp at h0 h1 h2 h3 h4
    subst h0 h1 h2 h3 h4
    rfl
  · intro h
    injection h with h0 h
    injection h with h1 h
    injection h with h2 h
    injection h with h3 h
    injection h with h4 h
    subst h0 h1 h2 h3 h4
    intro i hi
    have : i = 0 ∨ i = 1 ∨ i = 2 ∨ i = 3 ∨ i = 4 := by omega
    rcases this with rfl | rfl | rfl | rfl | rfl <;> rfl
/-- The images of the cells of a model with n cells are a permutation of them. -/
theorem exP_ok {n : Nat} {c : Nat → Int} (h1 : 1 ≤ n) (h5 : n ≤ 5) : eq5 (srA (exP n c)) idn = varB n ⟨n, c⟩ := by
  have hv : varB n ⟨n, c⟩ = true ↔ ∀ i, i < n → (0 ≤ c i ∧ c i ≤ n - 1) ∧ ∀ k, k < i → c k ≠ c i := by
    unfold varB
    simp only [Bool.and_eq_true, decide_eq_true_eq]
    rw [prE_iff]
    constructor
    · rintro ⟨h, -⟩ i hi
      have := h i hi
      rw [Bool.and_eq_true] at this
      unfold betB newB at this
      rw [prE_iff] at this
      simp only [Bool.and_eq_true, decide_eq_true_eq, bne_iff_ne] at this
      exact this
    · intro h
      refine ⟨fun i hi => ?_, h1⟩
      have := h i hi
      rw [Bool.and_eq_true]
      unfold betB newB
      rw [prE_iff]
      simp only [Bool.and_eq_true, decide_eq_true_eq, bne_iff_ne]
      exact this
  have key : eq5 (srA (exP n c)) idn = true ↔ varB n ⟨n, c⟩ = true := by
    rw [srA_id, srt_id, hv]
    constructor
    · rintro ⟨hb, hd⟩ i hi
      have hdi : ∀ k, k < i → c k ≠ c i := fun k hk => by
        have := hd i (by omega) k hk
        rw [exP_at hi, exP_at (by omega)] at this
        exact this
      refine ⟨?_, hdi⟩
      have hbi := hb i (by omega)
      rw [exP_at hi] at hbi
      refine ⟨hbi.1, ?_⟩
      by_cases hlt : c i < n
      · omega
      · exfalso
        obtain ⟨j, hj⟩ : ∃ j : Nat, c i = (j : Int) := ⟨(c i).toNat, by omega⟩
        have := hd j (by omega) i (by omega)
        rw [exP_at hi, exP_out (by omega)] at this
        exact this hj
    · intro h
      refine ⟨fun i hi => ?_, fun i hi k hk => ?_⟩
      · by_cases hin : i < n
        · rw [exP_at hin]
          have := (h i hin).1
          omega
        · rw [exP_out hin]
          omega
      · by_cases hin : i < n
        · rw [exP_at hin, exP_at (by omega)]
          exact (h i hin).2 k hk
        · rw [exP_out hin]
          by_cases hkn : k < n
          · rw [exP_at hkn]
            have := (h k hkn).1
            omega
          · rw [exP_out hkn]
            omega
  cases h2 : varB n ⟨n, c⟩ with
  | true => exact key.2 h2
  | false =>
    cases h3 : eq5 (srA (exP n c)) idn with
    | false => rfl
    | true => rw [key.1 h3] at h2; cases h2
/-- The values behind k moves: the image of each cell has its value. -/
def mvF (p v : Nat → Int) : Nat → Nat → Int
  | 0, _ => 0
  | k + 1, j => if (j : Int) = p k then v k else mvF p v k j
theorem mvF_at {p v : Nat → Int} {k i j : Nat} (hd : ∀ a, a < k → ∀ b, b < a → p b ≠ p a) (hi : i < k) (hj : p i = (j : Int)) : mvF p v k j = v i := by
  induction k with
  | zero => omega
  | succ k ih =>
    unfold mvF
    by_cases e : i = k
    · subst e
      rw [if_pos hj.symm]
    · rw [if_neg (fun h => hd k (by omega) i (by omega) (by rw [hj, h]))]
      exact ih (fun a ha => hd a (by omega)) (by omega)
theorem mvF_congr {p v p' v' : Nat → Int} {k j : Nat} (hp : ∀ i, i < k → p i = p' i) (hv : ∀ i, i < k → v i = v' i) : mvF p v k j = mvF p' v' k j := by
  induction k with
  | zero => rfl
  | succ k ih =>
    unfold mvF
    rw [hp k (by omega), hv k (by omega), ih (fun i hi => hp i (by omega)) (fun i hi => hv i (by omega))]
theorem mvF_ext {n : Nat} {p v : Nat → Int} {m j : Nat} (hj : j < n) : mvF (exP n p) (cvV n v) (n + m) j = mvF p v n j := by
  induction m with
  | zero => exact mvF_congr (fun i hi => exP_at hi) (fun i hi => if_pos hi)
  | succ m ih =>
    show (if (j : Int) = exP n p (n + m) then cvV n v (n + m) else mvF (exP n p) (cvV n v) (n + m) j) = _
    rw [exP_out (by omega), if_neg (by omega)]
    exact ih
theorem mvF_five {n : Nat} {p v : Nat → Int} {j : Nat} (h5 : n ≤ 5) (hj : j < n) : mvF (exP n p) (cvV n v) 5 j = mvF p v n j := by
  have := mvF_ext (p := p) (v := v) (m := 5 - n) hj
  rwa [show n + (5 - n) = 5 by omega] at this
/-- The image of each cell has its size. -/
def kpB (n : Nat) (s p : Nat → Int) : Bool := prE (fun i => s i == s (p i).toNat) n
theorem keeps_eq {n : Nat} {s p : Nat → Int} (h1 : 1 ≤ n) (h5 : n ≤ 5) (hv : varB n ⟨n, p⟩ = true) : eq5 (mvF (exP n p) (cvV n s) 5) (cvV n s) = kpB n s p := by
  have hid := srA_id.1 ((exP_ok h1 h5).trans hv)
  obtain ⟨hb, hd⟩ := srt_id.1 hid
  have hsur : ∀ j : Nat, j < 5 → ∃ i, i < 5 ∧ exP n p i = (j : Int) := fun j hj => by
    have : (j : Int) ∈ srt (exP n p) 5 := by
      rw [hid]
      have : j = 0 ∨ j = 1 ∨ j = 2 ∨ j = 3 ∨ j = 4 := by omega
      rcases this with rfl | rfl | rfl | rfl | rfl <;> simp
    rw [(srt_perm _ 5).mem_iff, mem_vlst] at this
    exact this
  have hlt : ∀ i, i < n → 0 ≤ p i ∧ p i < n := fun i hi => by
    have h2 := hb i (by omega)
    rw [exP_at hi] at h2
    refine ⟨h2.1, ?_⟩
    by_cases h3 : p i < n
    · exact h3
    · obtain ⟨j, hj⟩ : ∃ j : Nat, p i = (j : Int) := ⟨(p i).toNat, by omega⟩
      have := hd j (by omega) i (by omega)
      rw [exP_at hi, exP_out (by omega)] at this
      exact absurd hj this
  have key : eq5 (mvF (exP n p) (cvV n s) 5) (cvV n s) = true ↔ kpB n s p = true := by
    rw [eq5_iff]
    unfold kpB
    rw [prE_iff]
    constructor
    · intro h i hi
      obtain ⟨j, hj⟩ : ∃ j : Nat, p i = (j : Int) := ⟨(p i).toNat, by have := hlt i hi; omega⟩
      have hjn : j < n := by have := hlt i hi; omega
      have h2 := h j (by omega)
      rw [mvF_at hd (show i < 5 by omega) (by rw [exP_at hi, hj])] at h2
      unfold cvV at h2
      rw [if_pos hi, if_pos hjn] at h2
      rw [beq_iff_eq, hj]
      exact h2
    · intro h j hj
      obtain ⟨i, hi, he⟩ := hsur j hj
      rw [mvF_at hd hi he]
      by_cases hin : i < n
      · rw [exP_at hin] at he
        have h2 := h i hin
        rw [beq_iff_eq, he] at h2
        have hjn : j < n := by have := hlt i hin; omega
        unfold cvV
        rw [if_pos hin, if_pos hjn]
        exact h2
      · rw [exP_out hin] at he
        have : i = j := by omega
        subst this
        rfl
  cases h2 : kpB n s p with
  | true => exact key.2 h2
  | false =>
    cases h3 : eq5 (mvF (exP n p) (cvV n s) 5) (cvV n s) with
    | false => rfl
    | true => rw [key.1 h3] at h2; cases h2
/-- PermValid. -/
def pmB (s : Lst) (n : Nat) (q : Nat → Rul) (p : Lst) : Bool := modB s n q && (p.n == s.n && (varB s.n p && kpB s.n s.x p.x))
/-- A permutation of n cells. -/
structure PmF (n : Nat) (p : Nat → Int) : Prop where
  lt : ∀ i, i < n → 0 ≤ p i ∧ p i < n
  dif : ∀ a, a < n → ∀ b, b < a → p b ≠ p a
  sur : ∀ j : Nat, j < n → ∃ i, i < n ∧ p i = (j : Int)
theorem varB_iff {n : Nat} {p : Nat → Int} (h1 : 1 ≤ n) : varB n ⟨n, p⟩ = true ↔ (∀ i, i < n → 0 ≤ p i ∧ p i < n) ∧ ∀ a, a < n → ∀ b, b < a → p b ≠ p a := by
  unfold varB
  simp only [Bool.and_eq_true, decide_eq_true_eq]
  rw [prE_iff]
  constructor
  · rintro ⟨h, -⟩
    refine ⟨fun i hi => ?_, fun a ha b hb => ?_⟩
    · have := h i hi
      rw [Bool.and_eq_true] at this
      have h2 := this.1
      unfold betB at h2
      simp only [Bool.and_eq_true, decide_eq_true_eq] at h2
      omega
    · have := h a ha
      rw [Bool.and_eq_true] at this
      have h2 := this.2
      unfold newB at h2
      rw [prE_iff] at h2
      have := h2 b hb
      rwa [bne_iff_ne] at this
  · rintro ⟨h, hd⟩
    refine ⟨fun i hi => ?_, h1⟩
    rw [Bool.and_eq_true]
    refine ⟨?_, ?_⟩
    · unfold betB
      simp only [Bool.and_eq_true, decide_eq_true_eq]
      have := h i hi
      omega
    · unfold newB
      rw [prE_iff]
      intro b hb
      rw [bne_iff_ne]
      exact hd i hi b hb
theorem varB_pm {n : Nat} {p : Nat → Int} (h1 : 1 ≤ n) (h5 : n ≤ 5) (hv : varB n ⟨n, p⟩ = true) : PmF n p := by
  obtain ⟨hl, hd⟩ := (varB_iff h1).1 hv
  refine ⟨hl, hd, fun j hj => ?_⟩
  have hid := srA_id.1 ((exP_ok h1 h5).trans hv)
  have : (j : Int) ∈ srt (exP n p) 5 := by
    rw [hid]
    have : j = 0 ∨ j = 1 ∨ j = 2 ∨ j = 3 ∨ j = 4 := by omega
    rcases this with rfl | rfl | rfl | rfl | rfl <;> simp
  rw [(srt_perm _ 5).mem_iff, mem_vlst] at this
  obtain ⟨i, hi, he⟩ := this
  by_cases hin : i < n
  · rw [exP_at hin] at he
    exact ⟨i, hin, he⟩
  · rw [exP_out hin] at he
    omega
/-- The inverse. -/
def bkF (n : Nat) (p : Nat → Int) : Nat → Int := mvF p idn n
theorem bkF_at {n : Nat} {p : Nat → Int} (h : PmF n p) {i j : Nat} (hi : i < n) (hj : p i = (j : Int)) : bkF n p j = (i : Int) := mvF_at h.dif hi hj
theorem bkF_pm {n : Nat} {p : Nat → Int} (h1 : 1 ≤ n) (h : PmF n p) : varB n ⟨n, bkF n p⟩ = true := by
  rw [varB_iff h1]
  refine ⟨fun j hj => ?_, fun a ha b hb => ?_⟩
  · obtain ⟨i, hi, he⟩ := h.sur j hj
    rw [bkF_at h hi he]
    omega
  · obtain ⟨i, hi, he⟩ := h.sur a ha
    obtain ⟨k, hk, hf⟩ := h.sur b (by omega)
    rw [bkF_at h hi he, bkF_at h hk hf]
    intro e
    have : k = i := by omega
    subst this
    rw [he] at hf
    omega
theorem bkF_kp {n : Nat} {s p : Nat → Int} (h : PmF n p) (hk : kpB n s p = true) : kpB n s (bkF n p) = true := by
  unfold kpB at hk ⊢
  rw [prE_iff] at hk ⊢
  intro j hj
  obtain ⟨i, hi, he⟩ := h.sur j hj
  have := hk i hi
  rw [he] at this
  rw [bkF_at h hi he]
  rw [beq_iff_eq] at this ⊢
  exact this.symm
theorem bkF_mv {n : Nat} {p c : Nat → Int} (h1 : 1 ≤ n) (h : PmF n p) {i : Nat} (hi : i < n) : mvF (bkF n p) (mvF p c n) n i = c i := by
  obtain ⟨j, hj⟩ : ∃ j : Nat, p i = (j : Int) := ⟨(p i).toNat, by have := h.lt i hi; omega⟩
  have hjn : j < n := by have := h.lt i hi; omega
  have hd := ((varB_iff h1).1 (bkF_pm h1 h)).2
  rw [mvF_at hd hjn (bkF_at h hi hj)]
  exact mvF_at h.dif hi hj
theorem mvF_bd {n : Nat} {s p c : Nat → Int} (h : PmF n p) (hk : kpB n s p = true) (hc : ∀ i, i < n → 0 ≤ c i ∧ c i ≤ s i) {j : Nat} (hj : j < n) : 0 ≤ mvF p c n j ∧ mvF p c n j ≤ s j := by
  obtain ⟨i, hi, he⟩ := h.sur j hj
  rw [mvF_at h.dif hi he]
  have h2 := prE_iff.1 hk i hi
  rw [he, beq_iff_eq] at h2
  have := hc i hi
  have e : s (Int.toNat (j : Int)) = s j := rfl
  rw [e] at h2
  omega
end Go.Proofs.Ytafiikfaeomhpaa

namespace Go.Proofs.Ytafiikfaeomhpaa
open Go.ChangeShapes Go.WideShapes Go.ChangeAt Go.RowKit

set_option linter.unusedSimpArgs false in
theorem eqRunP (u v : Nat → Int) (w : World) : (Op.equalIn 10000 64 (.agg #[.int .i64 (u 0), .int .i64 (u 1), .int .i64 (u 2), .int .i64 (u 3), .int .i64 (u 4)]) (.agg #[.int .i64 (v 0), .int .i64 (v 1), .int .i64 (v 2), .int .i64 (v 3), .int .i64 (v 4)])).run Try.prog w = .ok (eq5 u v) w := by
  have u3 := Try.underlying3
  have a3 := Try.isAgg3
  have z3 := Try.sizeOf3
  rw [show (10000 : Nat) = 9999 + 1 from rfl, Op.equalIn]
  simp only [Sem.run_bind, run_underlying Try.underlying64, Result.andThen_ok]
  simp only [Std.Legacy.Range.forIn_eq_forIn_range', Std.Legacy.Range.size, Nat.sub_zero, Nat.add_sub_cancel, Nat.div_one, List.range'_succ, List.range'_zero, List.forIn_cons, List.forIn_nil]
  go_simp
  unfold eq5
  by_cases h0 : u 0 = v 0
  · by_cases h1 : u 1 = v 1
    · by_cases h2 : u 2 = v 2
      · by_cases h3 : u 3 = v 3
        · by_cases h4 : u 4 = v 4 <;> simp [h0, h1, h2, h3, h4]
        · simp [h0, h1, h2, h3]
      · simp [h0, h1, h2]
    · simp [h0, h1]
  · simp [h0]
set_option linter.unusedSimpArgs false in
theorem eqRunC (u v : Nat → Int) (w : World) : (Op.equalIn 10000 69 (.agg #[.int .i64 (u 0), .int .i64 (u 1), .int .i64 (u 2), .int .i64 (u 3), .int .i64 (u 4)]) (.agg #[.int .i64 (v 0), .int .i64 (v 1), .int .i64 (v 2), .int .i64 (v 3), .int .i64 (v 4)])).run Try.prog w = .ok (eq5 u v) w := by
  have u3 := Try.underlying3
  have a3 := Try.isAgg3
  have z3 := Try.sizeOf3
  rw [show (10000 : Nat) = 9999 + 1 from rfl, Op.equalIn]
  simp only [Sem.run_bind, run_underlying Try.underlying69, Result.andThen_ok]
  simp only [Std.Legacy.Range.forIn_eq_forIn_range', Std.Legacy.Range.size, Nat.sub_zero, Nat.add_sub_cancel, Nat.div_one, List.range'_succ, List.range'_zero, List.forIn_cons, List.forIn_nil]
  go_simp
  unfold eq5
  by_cases h0 : u 0 = v 0
  · by_cases h1 : u 1 = v 1
    · by_cases h2 : u 2 = v 2
      · by_cases h3 : u 3 = v 3
        · by_cases h4 : u 4 = v 4 <;> simp [h0, h1, h2, h3, h4]
        · simp [h0, h1, h2, h3]
      · simp [h0, h1, h2]
    · simp [h0, h1]
  · simp [h0]
end Go.Proofs.Ytafiikfaeomhpaa

namespace Go.Proofs.Ytafiikfaeomhpaa
open Go.ChangeShapes Go.WideShapes Go.ChangeAt Go.RowKit Go.Shelf

theorem own5_new {w : World} {T : TypeId} (u : Nat → Int) : OwnV (w.alloc (.cells #[.int .i64 0, .int .i64 0, .int .i64 0, .int .i64 0, .int .i64 0] T)) w.heap.size T 5 0 u :=
  ⟨_, heap_alloc_new _ _, by simp, fun i hi => absurd hi (by omega)⟩
theorem own5_box {w : World} {T : TypeId} (u : Nat → Int) : OwnV (w.alloc (.cells #[.int .i64 (u 0), .int .i64 (u 1), .int .i64 (u 2), .int .i64 (u 3), .int .i64 (u 4)] T)) w.heap.size T 5 5 u := by
  refine ⟨_, heap_alloc_new _ _, by simp, fun i hi => ?_⟩
  have : i = 0 ∨ i = 1 ∨ i = 2 ∨ i = 3 ∨ i = 4 := by omega
  rcases this with rfl | rfl | rfl | rfl | rfl <;> rfl
theorem OwnV.valP {w : World} {G n : Nat} {T : TypeId} {v : Nat → Int} (h : OwnV w G T n n v) {j : Nat} (hj : j < n) : w.cell? ⟨G, j, none⟩ = some (.int .i64 (v j)) := by
  obtain ⟨cs, h1, h2, h3⟩ := h
  exact (cell_of_row _ G j cs _ _ h1).trans (h3 j hj)
theorem OwnV.farP {w : World} {G n k : Nat} {T : TypeId} {v : Nat → Int} (h : OwnV w G T n k v) {p : Addr} (hp : G ≠ p.block) (u : Value) : OwnV (w.setCell p u) G T n k v :=
  by obtain ⟨cs, h1, h2, h3⟩ := h; exact ⟨cs, (Below.heap_setCell w p u G hp).trans h1, h2, h3⟩

/-- What stands in a box of five numbers: handed back as an array. -/
structure Bx5 (w : World) (G : Nat) : Prop where
  c0 : ∃ v, w.cell? ⟨G, 0, none⟩ = some v
  c1 : ∃ v, w.cell? ⟨G, 1, none⟩ = some v
  c2 : ∃ v, w.cell? ⟨G, 2, none⟩ = some v
  c3 : ∃ v, w.cell? ⟨G, 3, none⟩ = some v
  c4 : ∃ v, w.cell? ⟨G, 4, none⟩ = some v

set_option linter.unusedVariables false in
set_option linter.unusedSimpArgs false in
set_option maxRecDepth 100000 in
set_option maxHeartbeats 1600000 in
theorem identity_any (w : World) :
    Calls Try.prog 78 #[] w fun e w' => e = .returned (arr5 idn) ∧ Below w.heap.size w w' := by
  have hb1 := bl_alloc (bl_alloc (Below.refl w.heap.size w) (.cells #[.int .i64 0, .int .i64 0, .int .i64 0, .int .i64 0, .int .i64 0] 64)) (.cells #[.int .i64 0, .int .i64 0, .int .i64 0, .int .i64 0, .int .i64 0] 64)
  have hz := (own5_new (w := w) (T := 64) idn).at_ (w' := (w.alloc (.cells #[.int .i64 0, .int .i64 0, .int .i64 0, .int .i64 0, .int .i64 0] 64)).alloc (.cells #[.int .i64 0, .int .i64 0, .int .i64 0, .int .i64 0, .int .i64 0] 64)) ((bl_alloc (Below.refl _ (w.alloc (.cells #[.int .i64 0, .int .i64 0, .int .i64 0, .int .i64 0, .int .i64 0] 64))) _).block _ (by simp))
  have ho := own5_new (w := w.alloc (.cells #[.int .i64 0, .int .i64 0, .int .i64 0, .int .i64 0, .int .i64 0] 64)) (T := 64) idn
  have hsz : (w.alloc (.cells #[.int .i64 0, .int .i64 0, .int .i64 0, .int .i64 0, .int .i64 0] 64)).heap.size = w.heap.size + 1 := by simp
  rw [hsz] at ho
  have HB := Lib.hid hb1
  have HZ := Lib.hid hz
  have HO := Lib.hid ho
  clear hb1 hz ho hsz
  go_enter Try.func78, Try.ntmps78
  go_wp2
  generalize ((w.alloc (.cells #[.int .i64 0, .int .i64 0, .int .i64 0, .int .i64 0, .int .i64 0] 64)).alloc (.cells #[.int .i64 0, .int .i64 0, .int .i64 0, .int .i64 0, .int .i64 0] 64)) = W1 at *
  go_loopw [3] (fun i wr => ∃ k : Nat, k ≤ 5 ∧ i = .int .i64 k ∧ OwnV wr (w.heap.size + 1) 64 5 k idn ∧ OwnV wr w.heap.size 64 5 0 idn ∧ Below w.heap.size w wr) (fun i _ => 5 - (intOf i).toNat)
  case atStart => exact ⟨0, Nat.zero_le _, rfl, HO.out, HZ.out, HB.out⟩
  case round =>
    obtain ⟨k, hk, rfl, hown, hz, hb⟩ := hrel
    by_cases hlt : k < 5
    · obtain ⟨y1, hy1⟩ := hown.cell hlt
      have hf1 := hown.frozen k
      have hltI : (k : Int) < (5 : Int) := by omega
      have hk0 : (0 : Int) ≤ (k : Int) := by omega
      have Hput := Lib.hid (hown.put hlt)
      have HBk := Lib.hid hb
      have HZk := Lib.hid hz
      clear hown hb hz
      go_wp2
      go_roundw
      case rel => exact ⟨k + 1, by omega, by go_num, Hput.out, HZk.out.farP (by simp) _, HBk.out.setCell (Nat.le_succ _) _⟩
      case measure => simp [intOf]; omega
    · obtain rfl : k = 5 := by omega
      have c0 := hown.valP (j := 0) (by omega)
      have c1 := hown.valP (j := 1) (by omega)
      have c2 := hown.valP (j := 2) (by omega)
      have c3 := hown.valP (j := 3) (by omega)
      have c4 := hown.valP (j := 4) (by omega)
      obtain ⟨y0, z0⟩ := hz.cell (j := 0) (by omega)
      obtain ⟨y1, z1⟩ := hz.cell (j := 1) (by omega)
      obtain ⟨y2, z2⟩ := hz.cell (j := 2) (by omega)
      obtain ⟨y3, z3⟩ := hz.cell (j := 3) (by omega)
      obtain ⟨y4, z4⟩ := hz.cell (j := 4) (by omega)
      have f0 := hz.frozen 0
      have f1 := hz.frozen 1
      have f2 := hz.frozen 2
      have f3 := hz.frozen 3
      have f4 := hz.frozen 4
      have HBk := Lib.hid hb
      clear hown hz hb
      go_wp2
      refine bodyPost_ret (v := arr5 idn) (by simp [results, Try.results78, go_sem, z0, z1, z2, z3, z4, arr5]) rfl ?_
      refine ⟨rfl, ?_⟩
      exact ((((HBk.out.setCell (p := ⟨w.heap.size, 0, none⟩) (Nat.le_refl _) _).setCell (p := ⟨w.heap.size, 1, none⟩) (Nat.le_refl _) _).setCell (p := ⟨w.heap.size, 2, none⟩) (Nat.le_refl _) _).setCell (p := ⟨w.heap.size, 3, none⟩) (Nat.le_refl _) _).setCell (p := ⟨w.heap.size, 4, none⟩) (Nat.le_refl _) _
theorem OwnV.setP {w : World} {G n j : Nat} {T : TypeId} {v v' : Nat → Int} (h : OwnV w G T n n v) (hj : j < n) {z : Int} (e : v' j = z) (he : ∀ i, i ≠ j → v' i = v i) : OwnV (w.setCell ⟨G, j, none⟩ (.int .i64 z)) G T n n v' := by
  obtain ⟨cs, hh, h1, h2⟩ := h
  refine ⟨cs.setIfInBounds j (.int .i64 z), by simp [World.setCell, Array.getElem?_modify, hh], by simp [h1], fun i hi => ?_⟩
  rw [Array.getElem?_setIfInBounds]
  by_cases e2 : i = j
  · subst e2
    rw [if_pos rfl, if_pos (by omega), e]
  · rw [if_neg (fun e' => e2 e'.symm), he i e2]
    exact h2 i hi
theorem OwnV.put5 {w : World} {H : Nat} {T : TypeId} {v v' : Nat → Int} (h : OwnV w H T 5 0 v') : OwnV (((((w.setCell ⟨H, 0, none⟩ (.int .i64 (v 0))).setCell ⟨H, 1, none⟩ (.int .i64 (v 1))).setCell ⟨H, 2, none⟩ (.int .i64 (v 2))).setCell ⟨H, 3, none⟩ (.int .i64 (v 3))).setCell ⟨H, 4, none⟩ (.int .i64 (v 4))) H T 5 5 v :=
  ((((OwnV.put (v := v) h.zero (by omega)).put (by omega)).put (by omega)).put (by omega)).put (by omega)
theorem OwnV.far5 {w : World} {G H n k : Nat} {T : TypeId} {x : Nat → Int} (h : OwnV w G T n k x) (hne : G ≠ H) (v : Nat → Int) : OwnV (((((w.setCell ⟨H, 0, none⟩ (.int .i64 (v 0))).setCell ⟨H, 1, none⟩ (.int .i64 (v 1))).setCell ⟨H, 2, none⟩ (.int .i64 (v 2))).setCell ⟨H, 3, none⟩ (.int .i64 (v 3))).setCell ⟨H, 4, none⟩ (.int .i64 (v 4))) G T n k x :=
  ((((h.farP hne _).farP hne _).farP hne _).farP hne _).farP hne _
theorem bel5 {B : Nat} {w0 w : World} {H : Nat} (hb : Below B w0 w) (hle : B ≤ H) (v : Nat → Int) : Below B w0 (((((w.setCell ⟨H, 0, none⟩ (.int .i64 (v 0))).setCell ⟨H, 1, none⟩ (.int .i64 (v 1))).setCell ⟨H, 2, none⟩ (.int .i64 (v 2))).setCell ⟨H, 3, none⟩ (.int .i64 (v 3))).setCell ⟨H, 4, none⟩ (.int .i64 (v 4))) :=
  ((((hb.setCell hle _).setCell hle _).setCell hle _).setCell hle _).setCell hle _
theorem cells5_at (v : Nat → Int) {k : Nat} (h : k < 5) : (#[Value.int .i64 (v 0), .int .i64 (v 1), .int .i64 (v 2), .int .i64 (v 3), .int .i64 (v 4)] : Array Value)[k]? = some (.int .i64 (v k)) := by
  have : k = 0 ∨ k = 1 ∨ k = 2 ∨ k = 3 ∨ k = 4 := by omega
  rcases this with rfl | rfl | rfl | rfl | rfl <;> rfl
theorem run_idx5 (v : Nat → Int) {k : Nat} (h : k < 5) (W : World) : (Instr.index 64 (arr5 v) (.int .i64 (k : Int))).run Try.prog W = .ok (.int .i64 (v k)) W := by
  have h1 := run_part_plain (P := Try.prog) (e := 3) (by kernel_rfl) (w := W) (cells5_at v h)
  obtain ⟨i0, hi, hz0, hz1, hz2⟩ := info_parts Try.infoInt
  have h2 : (sizeOf 3).run Try.prog W = .ok 1 W := by simp [sizeOf, typeInfo, hi, hz1]
  have hk : (0 : Int) ≤ k ∧ (k : Int) < 5 := by omega
  unfold Instr.index arr5
  simp only [asIntOf, Sem.run_bind, Sem.run_pure, Result.andThen_ok, run_underlying Try.underlying64]
  rw [if_pos (by simpa using hk)]
  simp only [Sem.run_bind, h2, Result.andThen_ok, Nat.mul_one, Int.toNat_natCast]
  exact h1

set_option linter.unusedVariables false in
set_option linter.unusedSimpArgs false in
set_option maxRecDepth 100000 in
set_option maxHeartbeats 1600000 in
theorem move_any (p v : Nat → Int) (w : World) (hp : ∀ i, i < 5 → 0 ≤ p i ∧ p i ≤ 4) :
    Calls Try.prog 46 #[arr5 p, arr5 v] w fun e w' => e = .returned (arr5 (mvF p v 5)) ∧ Below w.heap.size w w' := by
  obtain ⟨WA, hWA⟩ : ∃ W, w.alloc (.cells #[.int .i64 (p 0), .int .i64 (p 1), .int .i64 (p 2), .int .i64 (p 3), .int .i64 (p 4)] 64) = W := ⟨_, rfl⟩
  obtain ⟨WB, hWB⟩ : ∃ W, WA.alloc (.cells #[.int .i64 (v 0), .int .i64 (v 1), .int .i64 (v 2), .int .i64 (v 3), .int .i64 (v 4)] 69) = W := ⟨_, rfl⟩
  obtain ⟨WC, hWC⟩ : ∃ W, WB.alloc (.cells #[.int .i64 0, .int .i64 0, .int .i64 0, .int .i64 0, .int .i64 0] 69) = W := ⟨_, rfl⟩
  obtain ⟨WD, hWD⟩ : ∃ W, WC.alloc (.cells #[.int .i64 0, .int .i64 0, .int .i64 0, .int .i64 0, .int .i64 0] 69) = W := ⟨_, rfl⟩
  have sA : WA.heap.size = w.heap.size + 1 := by rw [← hWA]; simp
  have sB : WB.heap.size = w.heap.size + 2 := by rw [← hWB]; simp [sA]
  have sC : WC.heap.size = w.heap.size + 3 := by rw [← hWC]; simp [sB]
  have bA : Below w.heap.size w WA := by rw [← hWA]; exact bl_alloc (Below.refl _ _) _
  have bB : Below WA.heap.size WA WB := by rw [← hWB]; exact bl_alloc (Below.refl _ _) _
  have bC : Below WB.heap.size WB WC := by rw [← hWC]; exact bl_alloc (Below.refl _ _) _
  have bD : Below WC.heap.size WC WD := by rw [← hWD]; exact bl_alloc (Below.refl _ _) _
  have o1 : OwnV WA w.heap.size 64 5 5 p := by rw [← hWA]; exact own5_box p
  have o2 : OwnV WB (w.heap.size + 1) 69 5 5 v := by rw [← hWB, ← sA]; exact own5_box v
  have o3 : OwnV WC (w.heap.size + 2) 69 5 0 v := by rw [← hWC, ← sB]; exact own5_new v
  have o4 : OwnV WD (w.heap.size + 3) 69 5 5 (mvF p v 0) := by
    rw [← hWD, ← sC]
    have := own5_box (w := WC) (T := 69) (fun _ => 0)
    exact this
  have O1 := Lib.hid (((o1.below bB).below bC).below bD)
  have O2 := Lib.hid ((o2.below bC).below bD)
  have O3 := Lib.hid (o3.below bD)
  have O4 := Lib.hid o4
  have HB := Lib.hid (bl_trans (bl_trans (bl_trans bA bB) bC) bD)
  have HI := Lib.hid (fun (k : Nat) (h : k < 5) => run_idx5 p h)
  have HP := Lib.hid hp
  clear bA bB bC bD o1 o2 o3 o4 hp
  unfold arr5 at HI
  unfold arr5
  go_enter Try.func46, Try.ntmps46
  have d0 := O1.out.valP (j := 0) (by omega)
  have d1 := O1.out.valP (j := 1) (by omega)
  have d2 := O1.out.valP (j := 2) (by omega)
  have d3 := O1.out.valP (j := 3) (by omega)
  have d4 := O1.out.valP (j := 4) (by omega)
  go_wp2
  clear hWA hWB hWC hWD sA sB sC d0 d1 d2 d3 d4
  go_loopw [9] (fun i wr => ∃ k : Nat, k ≤ 5 ∧ i = .int .i64 k ∧ OwnV wr (w.heap.size + 3) 69 5 5 (mvF p v k) ∧ OwnV wr (w.heap.size + 1) 69 5 5 v ∧ OwnV wr (w.heap.size + 2) 69 5 0 v ∧ Below w.heap.size w wr) (fun i _ => 5 - (intOf i).toNat)
  case atStart => exact ⟨0, Nat.zero_le _, rfl, O4.out, O2.out, O3.out, HB.out⟩
  case round =>
    obtain ⟨k, hk, rfl, hown, hv, hz, hb⟩ := hrel
    by_cases hlt : k < 5
    · obtain ⟨j, hj⟩ : ∃ j : Nat, p k = (j : Int) := ⟨(p k).toNat, by have := HP.out k hlt; omega⟩
      have hj5 : j < 5 := by have := HP.out k hlt; omega
      have hix := HI.out k hlt
      rw [hj] at hix
      obtain ⟨y1, hy1⟩ := hown.cell hj5
      have hf1 := hown.frozen j
      have hvk := hv.valP hlt
      have hltI : (k : Int) < (5 : Int) := by omega
      have hk0 : (0 : Int) ≤ (k : Int) := by omega
      have hj5' : (j : Int) < 5 := by omega
      have hj0 : (0 : Int) ≤ (j : Int) := by omega
      have Hput := Lib.hid (hown.setP (v' := mvF p v (k + 1)) hj5 (z := v k) (by show (if (j : Int) = p k then v k else mvF p v k j) = v k; rw [if_pos hj.symm]) (fun i hi => by show (if (i : Int) = p k then v k else mvF p v k i) = mvF p v k i; rw [if_neg (by rw [hj]; omega)]))
      have HBk := Lib.hid hb
      have HVk := Lib.hid hv
      have HZk := Lib.hid hz
      clear hown hb hz hv hj
      go_wp2
      go_roundw
      case rel => exact ⟨k + 1, by omega, by go_num, Hput.out, HVk.out.farP (by simp) _, HZk.out.farP (by simp) _, HBk.out.setCell (by simp) _⟩
      case measure => simp [intOf]; omega
    · obtain rfl : k = 5 := by omega
      have c0 := hown.valP (j := 0) (by omega)
      have c1 := hown.valP (j := 1) (by omega)
      have c2 := hown.valP (j := 2) (by omega)
      have c3 := hown.valP (j := 3) (by omega)
      have c4 := hown.valP (j := 4) (by omega)
      obtain ⟨y0, z0⟩ := hz.cell (j := 0) (by omega)
      obtain ⟨y1, z1⟩ := hz.cell (j := 1) (by omega)
      obtain ⟨y2, z2⟩ := hz.cell (j := 2) (by omega)
      obtain ⟨y3, z3⟩ := hz.cell (j := 3) (by omega)
      obtain ⟨y4, z4⟩ := hz.cell (j := 4) (by omega)
      have f0 := hz.frozen 0
      have f1 := hz.frozen 1
      have f2 := hz.frozen 2
      have f3 := hz.frozen 3
      have f4 := hz.frozen 4
      have HBk := Lib.hid hb
      clear hown hz hb hv
      obtain ⟨u, hu⟩ : ∃ u, mvF p v 5 = u := ⟨_, rfl⟩
      rw [hu] at c0 c1 c2 c3 c4
      have Hu := Lib.hid hu
      clear hu
      go_wp2
      refine bodyPost_ret (v := arr5 u) (by simp [results, Try.results46, go_sem, z0, z1, z2, z3, z4, arr5]) rfl ?_
      rw [Hu.out]
      refine ⟨rfl, ?_⟩
      exact ((((HBk.out.setCell (p := ⟨w.heap.size + 2, 0, none⟩) (Nat.le_add_right _ _) _).setCell (p := ⟨w.heap.size + 2, 1, none⟩) (Nat.le_add_right _ _) _).setCell (p := ⟨w.heap.size + 2, 2, none⟩) (Nat.le_add_right _ _) _).setCell (p := ⟨w.heap.size + 2, 3, none⟩) (Nat.le_add_right _ _) _).setCell (p := ⟨w.heap.size + 2, 4, none⟩) (Nat.le_add_right _ _) _
end Go.Proofs.Ytafiikfaeomhpaa

namespace Go.Proofs.Ytafiikfaeomhpaa
open Go.ChangeShapes Go.WideShapes Go.ChangeAt Go.RowKit Go.Shelf

theorem vl5 (u : Nat → Int) : vlst u 5 = [u 0, u 1, u 2, u 3, u 4] := rfl
theorem OwnV.holds5 {w : World} {G : Nat} {T : TypeId} {u : Nat → Int} (h : OwnV w G T 5 5 u) : Go.Sort.Holds Go.encZ w G 0 (vlst u 5).toArray := by
  intro j hj
  rw [vl5] at hj ⊢
  have hj5 : j < 5 := by simpa using hj
  refine ⟨?_, by rw [Nat.zero_add]; exact h.frozen j⟩
  rw [Nat.zero_add, h.valP hj5]
  have : j = 0 ∨ j = 1 ∨ j = 2 ∨ j = 3 ∨ j = 4 := by omega
  rcases this with rfl | rfl | rfl | rfl | rfl <;> rfl
theorem holds_srA {w : World} {G : Nat} {u : Nat → Int} (h : Go.Sort.Holds Go.encZ w G 0 (srt u 5).toArray) {j : Nat} (hj : j < 5) : w.cell? ⟨G, j, none⟩ = some (.int .i64 (srA u j)) := by
  obtain ⟨a, b, c, d, e, hl⟩ := list5 (srt_length u 5)
  have := (h j (by rw [hl]; simpa using hj)).1
  rw [Nat.zero_add] at this
  rw [this]
  unfold srA
  rw [hl]
  have : j = 0 ∨ j = 1 ∨ j = 2 ∨ j = 3 ∨ j = 4 := by omega
  rcases this with rfl | rfl | rfl | rfl | rfl <;> rfl

set_option linter.unusedVariables false in
set_option linter.unusedSimpArgs false in
set_option maxRecDepth 100000 in
set_option maxHeartbeats 1600000 in
theorem psorted_any (u : Nat → Int) (w : World) :
    Calls Try.prog 79 #[arr5 u] w fun e w' => e = .returned (arr5 (srA u)) ∧ Below w.heap.size w w' := by
  obtain ⟨WA, hWA⟩ : ∃ W, w.alloc (.cells #[.int .i64 (u 0), .int .i64 (u 1), .int .i64 (u 2), .int .i64 (u 3), .int .i64 (u 4)] 64) = W := ⟨_, rfl⟩
  obtain ⟨WB, hWB⟩ : ∃ W, WA.alloc (.cells #[.int .i64 0, .int .i64 0, .int .i64 0, .int .i64 0, .int .i64 0] 64) = W := ⟨_, rfl⟩
  have sA : WA.heap.size = w.heap.size + 1 := by rw [← hWA]; simp
  have sB : WB.heap.size = w.heap.size + 2 := by rw [← hWB]; simp [sA]
  have bA : Below w.heap.size w WA := by rw [← hWA]; exact bl_alloc (Below.refl _ _) _
  have bB : Below WA.heap.size WA WB := by rw [← hWB]; exact bl_alloc (Below.refl _ _) _
  have o1 : OwnV WA w.heap.size 64 5 5 u := by rw [← hWA]; exact own5_box u
  have o2 : OwnV WB (w.heap.size + 1) 64 5 0 u := by rw [← hWB, ← sA]; exact own5_new u
  have o1B := o1.below bB
  have hS := AnyM.slices_Sort_int Try.sortV w.heap.size 0 5 (vlst u 5) WB o1B.holds5 (by omega) (by rw [vlst_length]; omega)
  rw [vlst_length, show ((vlst u 5).mergeSort fun x y => decide (x ≤ y)) = srt u 5 from rfl] at hS
  change Calls Try.prog 104 _ _ _ at hS
  have hS2 : Calls Try.prog 104 #[.slice (some ⟨w.heap.size, 0, none⟩) 5 5] WB fun e w' => e = .returned (.tuple #[]) ∧ ∃ m os, w' = sortWorld Go.encZ WB w.heap.size 0 m (srt u 5).toArray os := hS
  have HS := Lib.hid hS2
  have HH := Lib.hid o1B.holds5
  have HB := Lib.hid (bl_trans bA bB)
  have O2 := Lib.hid o2
  have SB := Lib.hid sB
  clear bA bB o1 o2 o1B hS hS2
  unfold arr5
  go_enter Try.func79, Try.ntmps79
  go_wp2_with fail
  clear hWA hWB sA sB
  refine HS.out.mono ?_
  rintro e w2 ⟨rfl, m, os, rfl⟩
  have hgl : w.heap.size < WB.heap.size := by have := SB.out; omega
  have hd : (srt u 5).toArray.size = (vlst u 5).toArray.size := by simp [srt_length, vlst_length]
  have hx : Go.Sort.Holds Go.encZ (sortWorld Go.encZ WB w.heap.size 0 m (srt u 5).toArray os) w.heap.size 0 (srt u 5).toArray := holds_sortWorld Go.encZ WB w.heap.size 0 m (vlst u 5).toArray (srt u 5).toArray os hgl HH.out hd
  have hg : WB.grownBy (sortWorld Go.encZ WB w.heap.size 0 m (srt u 5).toArray os) (some w.heap.size) := grownBy_sorted_i _
  generalize sortWorld Go.encZ WB w.heap.size 0 m (srt u 5).toArray os = W at *
  have oz := O2.out.at_ (hg.block (w.heap.size + 1) (by have := SB.out; omega) (by simp))
  have HBW := Lib.hid (HB.out.grown hg HB.out.size (fun k e => by cases e; exact Nat.le_refl _))
  have c0 := holds_srA hx (j := 0) (by omega)
  have c1 := holds_srA hx (j := 1) (by omega)
  have c2 := holds_srA hx (j := 2) (by omega)
  have c3 := holds_srA hx (j := 3) (by omega)
  have c4 := holds_srA hx (j := 4) (by omega)
  obtain ⟨yz0, z0⟩ := oz.cell (j := 0) (by omega)
  obtain ⟨yz1, z1⟩ := oz.cell (j := 1) (by omega)
  obtain ⟨yz2, z2⟩ := oz.cell (j := 2) (by omega)
  obtain ⟨yz3, z3⟩ := oz.cell (j := 3) (by omega)
  obtain ⟨yz4, z4⟩ := oz.cell (j := 4) (by omega)
  have fz0 := oz.frozen 0
  have fz1 := oz.frozen 1
  have fz2 := oz.frozen 2
  have fz3 := oz.frozen 3
  have fz4 := oz.frozen 4
  clear oz hx hg hd hgl HH HS HB O2 SB
  obtain ⟨x, hx⟩ : ∃ x, srA u = x := ⟨_, rfl⟩
  rw [hx] at c0 c1 c2 c3 c4
  have Hx := Lib.hid hx
  clear hx
  go_wp2
  refine bodyPost_ret (v := arr5 x) (by simp [results, Try.results79, go_sem, z0, z1, z2, z3, z4, arr5]) rfl ?_
  rw [Hx.out]
  exact ⟨rfl, (((((HBW.out.setCell (p := ⟨w.heap.size + 1, 0, none⟩) (Nat.le_succ _) _).setCell (p := ⟨w.heap.size + 1, 1, none⟩) (Nat.le_succ _) _).setCell (p := ⟨w.heap.size + 1, 2, none⟩) (Nat.le_succ _) _).setCell (p := ⟨w.heap.size + 1, 3, none⟩) (Nat.le_succ _) _).setCell (p := ⟨w.heap.size + 1, 4, none⟩) (Nat.le_succ _) _)⟩

set_option linter.unusedVariables false in
set_option linter.unusedSimpArgs false in
set_option maxRecDepth 100000 in
set_option maxHeartbeats 1600000 in
theorem keeps_any (s : Lst) (n : Nat) (As Ar : Option Addr) (cs cr : Nat) (p : Nat → Int) (w : World) (h1 : 1 ≤ s.n) (h5 : s.n ≤ 5) (hp : ∀ i, i < 5 → 0 ≤ p i ∧ p i ≤ 4) (hs : RdI w w.heap.size As s.n s.x) :
    Calls Try.prog 80 #[.agg #[.slice As s.n cs, .slice Ar n cr], arr5 p] w fun e w' => e = .returned (.bool (eq5 (mvF p (cvV s.n s.x) 5) (cvV s.n s.x))) ∧ Below w.heap.size w w' := by
  have a0 : (w.alloc (.cells #[.slice As s.n cs, .slice Ar n cr] 30)).cell? ⟨w.heap.size, 0, none⟩ = some (.slice As s.n cs) := by go_simp
  obtain ⟨WA, hWA⟩ : ∃ W, w.alloc (.cells #[.slice As s.n cs, .slice Ar n cr] 30) = W := ⟨_, rfl⟩
  rw [hWA] at a0
  obtain ⟨WB, hWB⟩ : ∃ W, WA.alloc (.cells #[.int .i64 (p 0), .int .i64 (p 1), .int .i64 (p 2), .int .i64 (p 3), .int .i64 (p 4)] 64) = W := ⟨_, rfl⟩
  have sA : WA.heap.size = w.heap.size + 1 := by rw [← hWA]; simp
  have sB : WB.heap.size = w.heap.size + 2 := by rw [← hWB]; simp [sA]
  have bA : Below w.heap.size w WA := by rw [← hWA]; exact bl_alloc (Below.refl _ _) _
  have bB : Below WA.heap.size WA WB := by rw [← hWB]; exact bl_alloc (Below.refl _ _) _
  replace a0 := kc bB a0
  have o1 : OwnV WB (w.heap.size + 1) 64 5 5 p := by rw [← hWB, ← sA]; exact own5_box p
  have HB := Lib.hid (bl_trans bA bB)
  have HR := Lib.hid (hs.later HB.out)
  have O1 := Lib.hid o1
  have HP := Lib.hid hp
  have SB := Lib.hid sB
  clear bA bB o1 hs hp
  obtain ⟨v, hv⟩ : ∃ v, cvV s.n s.x = v := ⟨_, rfl⟩
  rw [hv]
  obtain ⟨x, hx⟩ : ∃ x, mvF p v 5 = x := ⟨_, rfl⟩
  rw [hx]
  have HX := Lib.hid hx
  clear hx
  have HV := Lib.hid hv
  clear hv
  unfold arr5
  go_enter Try.func80, Try.ntmps80
  go_wp2_with fail
  clear hWA hWB sA sB
  refine (cvo_any s.n cs As s.x _ h5 h1 HR.out).mono ?_
  rw [HV.out]
  rintro e w2 ⟨rfl, hb⟩
  have o1 := O1.out.below hb
  have hz2 : w.heap.size + 2 ≤ w2.heap.size := by have := SB.out; have := hb.size; omega
  have HB2 := Lib.hid (bl_trans HB.out hb)
  clear hb HR a0 O1 HB SB
  unfold arr5
  obtain ⟨W3, hW3⟩ : ∃ W, w2.alloc (.cells #[.int .i64 0, .int .i64 0, .int .i64 0, .int .i64 0, .int .i64 0] 69) = W := ⟨_, rfl⟩
  have hb := bl_alloc (Below.refl w2.heap.size w2) (.cells #[.int .i64 0, .int .i64 0, .int .i64 0, .int .i64 0, .int .i64 0] 69)
  have o2 := own5_new (w := w2) (T := 69) v
  rw [hW3] at hb o2
  replace o1 := o1.below hb
  have HB3 := Lib.hid (bl_trans HB2.out hb)
  obtain ⟨H, hH⟩ : ∃ H, w2.heap.size = H := ⟨_, rfl⟩
  rw [hH] at o2 hz2
  obtain ⟨yz0, z0⟩ := o2.cell (j := 0) (by omega)
  obtain ⟨yz1, z1⟩ := o2.cell (j := 1) (by omega)
  obtain ⟨yz2, z2⟩ := o2.cell (j := 2) (by omega)
  obtain ⟨yz3, z3⟩ := o2.cell (j := 3) (by omega)
  obtain ⟨yz4, z4⟩ := o2.cell (j := 4) (by omega)
  have fz0 := o2.frozen 0
  have fz1 := o2.frozen 1
  have fz2 := o2.frozen 2
  have fz3 := o2.frozen 3
  have fz4 := o2.frozen 4
  have o3 := o2.put5 (v := v)
  have o4 := o1.far5 (H := H) (by omega) v
  have hle : w.heap.size ≤ H := by omega
  have hbb := bel5 HB3.out hle v
  have HO3 := Lib.hid o3
  have HO4 := Lib.hid o4
  have HBB := Lib.hid hbb
  clear o1 o2 o3 o4 hbb hb HB2 HB3
  go_wp2
  clear hW3 z0 z1 z2 z3 z4 fz0 fz1 fz2 fz3 fz4
  generalize (((((W3.setCell ⟨H, 0, none⟩ (.int .i64 (v 0))).setCell ⟨H, 1, none⟩ (.int .i64 (v 1))).setCell ⟨H, 2, none⟩ (.int .i64 (v 2))).setCell ⟨H, 3, none⟩ (.int .i64 (v 3))).setCell ⟨H, 4, none⟩ (.int .i64 (v 4))) = W4 at *
  have c0 := HO4.out.valP (j := 0) (by omega)
  have c1 := HO4.out.valP (j := 1) (by omega)
  have c2 := HO4.out.valP (j := 2) (by omega)
  have c3 := HO4.out.valP (j := 3) (by omega)
  have c4 := HO4.out.valP (j := 4) (by omega)
  have d0 := HO3.out.valP (j := 0) (by omega)
  have d1 := HO3.out.valP (j := 1) (by omega)
  have d2 := HO3.out.valP (j := 2) (by omega)
  have d3 := HO3.out.valP (j := 3) (by omega)
  have d4 := HO3.out.valP (j := 4) (by omega)
  have hE := eqRunC (mvF p v 5) v
  have hm := fun W => move_any p v W HP.out
  rw [HX.out] at hE hm
  unfold arr5 at hm
  have HM := Lib.hid hm
  clear HO3 HO4 HP hm HX
  go_region_held3 (fun w' => w'.cell? ⟨w.heap.size + 1, 0, none⟩ = some (.int .i64 (p 0)) ∧ w'.cell? ⟨w.heap.size + 1, 1, none⟩ = some (.int .i64 (p 1)) ∧ w'.cell? ⟨w.heap.size + 1, 2, none⟩ = some (.int .i64 (p 2)) ∧ w'.cell? ⟨w.heap.size + 1, 3, none⟩ = some (.int .i64 (p 3)) ∧ w'.cell? ⟨w.heap.size + 1, 4, none⟩ = some (.int .i64 (p 4)) ∧ w'.cell? ⟨H, 0, none⟩ = some (.int .i64 (v 0)) ∧ w'.cell? ⟨H, 1, none⟩ = some (.int .i64 (v 1)) ∧ w'.cell? ⟨H, 2, none⟩ = some (.int .i64 (v 2)) ∧ w'.cell? ⟨H, 3, none⟩ = some (.int .i64 (v 3)) ∧ w'.cell? ⟨H, 4, none⟩ = some (.int .i64 (v 4))) (go_keep)
    ((go_at_call 46; refine (HM.out _).mono ?_; rintro e w5 ⟨rfl, hb⟩; have HB5 := Lib.hid (Below.trans (B := w.heap.size) (a := w) (by first | exact HBB.out | exact HBB.out.drew | exact HBB.out.drew.drew) (hb.mono (by first | exact HBB.out.size | exact HBB.out.drew.size | exact HBB.out.drew.drew.size))); replace c0 := kc hb c0; replace c1 := kc hb c1; replace c2 := kc hb c2; replace c3 := kc hb c3; replace c4 := kc hb c4; replace d0 := kc hb d0; replace d1 := kc hb d1; replace d2 := kc hb d2; replace d3 := kc hb d3; replace d4 := kc hb d4; clear hb))
  go_wp2
  go_ret
  exact ⟨rfl, by first | exact HB5.out | exact HB5.out.drew⟩
end Go.Proofs.Ytafiikfaeomhpaa

namespace Go.Proofs.Ytafiikfaeomhpaa
open Go.ChangeShapes Go.WideShapes Go.ChangeAt Go.RowKit Go.Shelf

theorem fit5n (c : Nat → Int) (n : Nat) : 0 + ((vlst c (Nat.min n 5)).map vI).length ≤ [Value.int .i64 (idn 0), .int .i64 (idn 1), .int .i64 (idn 2), .int .i64 (idn 3), .int .i64 (idn 4)].length := by
  rw [len_vlst]
  have : Nat.min n 5 ≤ 5 := Nat.min_le_right _ _
  simpa using this
theorem spl5 {w : World} {G : Nat} {T : TypeId} {c : Nat → Int} {n : Nat} (h : w.heap[G]? = some (.cells (splice [Value.int .i64 (idn 0), .int .i64 (idn 1), .int .i64 (idn 2), .int .i64 (idn 3), .int .i64 (idn 4)] 0 ((vlst c (Nat.min n 5)).map vI)).toArray T (0, 0))) : OwnV w G T 5 5 (exP n c) := by
  have hm5 : Nat.min n 5 ≤ 5 := Nat.min_le_right _ _
  refine ⟨_, h, ?_, fun i hi => ?_⟩
  · rw [List.size_toArray, length_splice _ _ _ (fit5n c n)]
    exact Nat.le_refl 5
  · rw [List.getElem?_toArray]
    unfold splice
    rw [len_vlst, List.take_zero, List.nil_append, Nat.zero_add]
    by_cases h1 : i < Nat.min n 5
    · have h2 : i < n := Nat.lt_of_lt_of_le h1 (Nat.min_le_left _ _)
      rw [List.getElem?_append_left (by rw [len_vlst]; exact h1), List.getElem?_map, vlst_get c h1, exP_at h2]
      rfl
    · have h2 : ¬ i < n := fun h3 => h1 (Nat.lt_min.2 ⟨h3, hi⟩)
      rw [List.getElem?_append_right (by rw [len_vlst]; omega), len_vlst, List.getElem?_drop, show Nat.min n 5 + (i - Nat.min n 5) = i by omega, exP_out h2]
      have : i = 0 ∨ i = 1 ∨ i = 2 ∨ i = 3 ∨ i = 4 := by omega
      rcases this with rfl | rfl | rfl | rfl | rfl <;> rfl
theorem heap5 {w : World} {H : Nat} {T : TypeId} {v : Nat → Int} (h : w.heap[H]? = some (.cells #[.int .i64 0, .int .i64 0, .int .i64 0, .int .i64 0, .int .i64 0] T (0, 0))) : (((((w.setCell ⟨H, 0, none⟩ (.int .i64 (v 0))).setCell ⟨H, 1, none⟩ (.int .i64 (v 1))).setCell ⟨H, 2, none⟩ (.int .i64 (v 2))).setCell ⟨H, 3, none⟩ (.int .i64 (v 3))).setCell ⟨H, 4, none⟩ (.int .i64 (v 4))).heap[H]? = some (.cells [Value.int .i64 (v 0), .int .i64 (v 1), .int .i64 (v 2), .int .i64 (v 3), .int .i64 (v 4)].toArray T (0, 0)) := by
  simp [World.setCell, Array.getElem?_modify, h]
theorem rd_src {w : World} {A : Option Addr} {n m : Nat} {c : Nat → Int} (h : RdI w w.heap.size A n c) (hm : m ≤ n) : 0 < ((vlst c m).map vI).length → ∃ ad, A = some ad ∧ ∀ j v, ((vlst c m).map vI)[j]? = some v → w.cell? (ad.add j) = some v := by
  intro h0
  rw [len_vlst] at h0
  obtain ⟨b, off, rfl, -, hc⟩ := h (by omega)
  exact ⟨_, rfl, src_vlst fun i hi => hc i (by omega)⟩

set_option linter.unusedVariables false in
set_option linter.unusedSimpArgs false in
set_option maxRecDepth 100000 in
set_option maxHeartbeats 1600000 in
theorem perm_any (s p : Lst) (n : Nat) (q : Nat → Rul) (As Ar Ap : Option Addr) (cs cr cp : Nat) (w : World) (p1 : s.n ≤ 1048576) (p2 : p.n ≤ 1048576) (p3 : n ≤ 1048576) (p4 : ∀ i, i < n → (q i).fit 1048576) (hs : RdI w w.heap.size As s.n s.x) (hr : RdRs w w.heap.size Ar n q) (hp : RdI w w.heap.size Ap p.n p.x) :
    Calls Try.prog 42 #[.agg #[.slice As s.n cs, .slice Ar n cr], .slice Ap p.n cp] w fun e w' => ∃ u, e = .returned (.tuple #[arr5 u, .bool (pmB s n q p)]) ∧ (pmB s n q p = true → u = exP p.n p.x) ∧ Below w.heap.size w w' := by
  have a0 : (w.alloc (.cells #[.slice As s.n cs, .slice Ar n cr] 30)).cell? ⟨w.heap.size, 0, none⟩ = some (.slice As s.n cs) := by go_simp
  have a1 : (w.alloc (.cells #[.slice As s.n cs, .slice Ar n cr] 30)).cell? ⟨w.heap.size, 1, none⟩ = some (.slice Ar n cr) := by go_simp
  obtain ⟨WA, hWA⟩ : ∃ W, w.alloc (.cells #[.slice As s.n cs, .slice Ar n cr] 30) = W := ⟨_, rfl⟩
  rw [hWA] at a0 a1
  obtain ⟨WB, hWB⟩ : ∃ W, WA.alloc (.cells #[.int .i64 0, .int .i64 0, .int .i64 0, .int .i64 0, .int .i64 0] 64) = W := ⟨_, rfl⟩
  have sA : WA.heap.size = w.heap.size + 1 := by rw [← hWA]; simp
  have sB : WB.heap.size = w.heap.size + 2 := by rw [← hWB]; simp [sA]
  have bA : Below w.heap.size w WA := by rw [← hWA]; exact bl_alloc (Below.refl _ _) _
  have bB : Below WA.heap.size WA WB := by rw [← hWB]; exact bl_alloc (Below.refl _ _) _
  replace a0 := kc bB a0
  replace a1 := kc bB a1
  have o2 : OwnV WB (w.heap.size + 1) 64 5 0 idn := by rw [← hWB, ← sA]; exact own5_new idn
  have HB := Lib.hid (bl_trans bA bB)
  have HS := Lib.hid hs
  have HR := Lib.hid hr
  have HP := Lib.hid hp
  have P4 := Lib.hid p4
  have O2 := Lib.hid o2
  have SB := Lib.hid sB
  clear bA bB o2 hs hr hp p4
  have hid := fun W => identity_any W
  unfold arr5 at hid
  have HI := Lib.hid hid
  clear hid
  go_enter Try.func42, Try.ntmps42
  go_wp2_with fail
  clear hWA hWB sA sB
  refine (HI.out _).mono ?_
  rintro e w2 ⟨rfl, hb⟩
  have HB2 := Lib.hid (bl_trans HB.out hb)
  replace a0 := kc hb a0
  replace a1 := kc hb a1
  have oz := O2.out.below hb
  have hz2 : w.heap.size + 2 ≤ w2.heap.size := by have := SB.out; have := hb.size; omega
  clear hb O2 HB SB
  obtain ⟨W3, hW3⟩ : ∃ W, w2.alloc (.cells #[.int .i64 0, .int .i64 0, .int .i64 0, .int .i64 0, .int .i64 0] 64) = W := ⟨_, rfl⟩
  have hb := bl_alloc (Below.refl w2.heap.size w2) (.cells #[.int .i64 0, .int .i64 0, .int .i64 0, .int .i64 0, .int .i64 0] 64)
  have o3 := own5_new (w := w2) (T := 64) idn
  rw [hW3] at hb o3
  have hh : W3.heap[w2.heap.size]? = some (.cells #[.int .i64 0, .int .i64 0, .int .i64 0, .int .i64 0, .int .i64 0] 64 (0, 0)) := by rw [← hW3]; exact heap_alloc_new _ _
  replace oz := oz.below hb
  replace a0 := kc hb a0
  replace a1 := kc hb a1
  have HB3 := Lib.hid (bl_trans HB2.out hb)
  obtain ⟨G, hG⟩ : ∃ G, w2.heap.size = G := ⟨_, rfl⟩
  rw [hG] at o3 hz2 hh
  have hle : w.heap.size ≤ G := by omega
  obtain ⟨yz0, z0⟩ := o3.cell (j := 0) (by omega)
  obtain ⟨yz1, z1⟩ := o3.cell (j := 1) (by omega)
  obtain ⟨yz2, z2⟩ := o3.cell (j := 2) (by omega)
  obtain ⟨yz3, z3⟩ := o3.cell (j := 3) (by omega)
  obtain ⟨yz4, z4⟩ := o3.cell (j := 4) (by omega)
  have fz0 := o3.frozen 0
  have fz1 := o3.frozen 1
  have fz2 := o3.frozen 2
  have fz3 := o3.frozen 3
  have fz4 := o3.frozen 4
  have hbb := bel5 HB3.out hle idn
  have o4 := oz.far5 (H := G) (by omega) idn
  have HBB := Lib.hid hbb
  have HO4 := Lib.hid o4
  have hh4 := heap5 (v := idn) hh
  have hb5 := bel5 (Below.refl G W3) (Nat.le_refl _) idn
  replace a0 := (hb5.cell (p := ⟨w.heap.size, 0, none⟩) (show w.heap.size < G by omega)).trans a0
  replace a1 := (hb5.cell (p := ⟨w.heap.size, 1, none⟩) (show w.heap.size < G by omega)).trans a1
  have HH4 := Lib.hid hh4
  have A0 := Lib.hid a0
  have A1 := Lib.hid a1
  clear hb hbb o3 o4 oz HB2 hh hh4 a0 a1 hb5
  go_upto_region 2 with fail
  clear hW3 z0 z1 z2 z3 z4 fz0 fz1 fz2 fz3 fz4
  generalize (((((W3.setCell ⟨G, 0, none⟩ (.int .i64 (idn 0))).setCell ⟨G, 1, none⟩ (.int .i64 (idn 1))).setCell ⟨G, 2, none⟩ (.int .i64 (idn 2))).setCell ⟨G, 3, none⟩ (.int .i64 (idn 3))).setCell ⟨G, 4, none⟩ (.int .i64 (idn 4))) = W4 at *
  have HP4 := Lib.hid (rd_src (HP.out.later HBB.out) (Nat.min_le_left p.n 5))
  go_wp2_with (with_reducible show wpList _ _ _ _ _ _; with_reducible refine wpList_copy_splice rfl (.tmp 8) (.tmp 9) 22 22 rfl 3 Try.underlying22 (by kernel_rfl) (some ⟨G, 0, none⟩) Ap 5 5 p.n cp rfl rfl G 0 [Value.int .i64 (idn 0), .int .i64 (idn 1), .int .i64 (idn 2), .int .i64 (idn 3), .int .i64 (idn 4)] 64 HH4.out ((vlst p.x (Nat.min p.n 5)).map vI) (len_vlst p.x (Nat.min p.n 5)) (fun h0 => ⟨rfl, HP4.out h0⟩) (fit5n p.x p.n) (one_vlst p.x _) G W4 (Below.refl G W4) (Nat.le_refl _) ?_; intro W5 hg5 hb5; have a0 := (hb5.cell (p := ⟨w.heap.size, 0, none⟩) (show w.heap.size < G by omega)).trans A0.out; have a1 := (hb5.cell (p := ⟨w.heap.size, 1, none⟩) (show w.heap.size < G by omega)).trans A1.out; have HG5 := Lib.hid (spl5 hg5.out); have oz := HO4.out.at_ (hb5.block (w.heap.size + 1) (show w.heap.size + 1 < G by omega)); have HB5 := Lib.hid (Below.trans HBB.out (hb5.mono hle)); have HZ5 := Lib.hid oz; clear hg5 hb5 HH4 HP4 oz HO4 HBB A0 A1)
  have hGl : G < W5.heap.size := HG5.out.lt
  refine (implValidM_any s n q _ _ _ _ _ p1 p3 P4.out (HS.out.later HB5.out) (HR.out.later HB5.out)).mono ?_
  rintro e w6 ⟨rfl, hb⟩
  have HB6 := Lib.hid (bl_trans HB5.out hb)
  replace a0 := kc hb a0
  replace a1 := kc hb a1
  have HG6 := Lib.hid (HG5.out.below hb)
  have HZ6 := Lib.hid (HZ5.out.below hb)
  clear hb HB5 HG5 HZ5 HB3
  have HNO := Lib.hid (fun (hx : pmB s n q p = false) => trivial)
  cases hm : modB s n q with
  | false =>
    have Hp := Lib.hid (show pmB s n q p = false from by unfold pmB; rw [hm]; rfl)
    clear hm a0 a1
    have oz := HZ6.out
    obtain ⟨yz0, z0⟩ := oz.cell (j := 0) (by omega)
    obtain ⟨yz1, z1⟩ := oz.cell (j := 1) (by omega)
    obtain ⟨yz2, z2⟩ := oz.cell (j := 2) (by omega)
    obtain ⟨yz3, z3⟩ := oz.cell (j := 3) (by omega)
    obtain ⟨yz4, z4⟩ := oz.cell (j := 4) (by omega)
    have fz0 := oz.frozen 0
    have fz1 := oz.frozen 1
    have fz2 := oz.frozen 2
    have fz3 := oz.frozen 3
    have fz4 := oz.frozen 4
    clear oz
    go_wp2
    refine bodyPost_ret (v := .tuple #[arr5 (fun _ => 0), .bool false]) (by simp [results, Try.results42, go_sem, z0, z1, z2, z3, z4, arr5]) rfl ?_
    exact ⟨_, by rw [Hp.out], fun h => (by rw [Hp.out] at h; cases h), bel5 (H := w.heap.size + 1) HB6.out (Nat.le_succ _) (fun _ => 0)⟩
  | true =>
    have hm2 := hm
    unfold modB at hm2
    simp only [Bool.and_eq_true, decide_eq_true_eq] at hm2
    have hs1 : 1 ≤ s.n := hm2.1.1
    have hs5 : s.n ≤ 5 := hm2.1.2
    have Hm := Lib.hid hm
    clear hm hm2
    by_cases d1 : p.n ≠ s.n
    · have d2 := int_ne d1
      have Hp := Lib.hid (show pmB s n q p = false from by unfold pmB; simp [d1])
      clear d1 hs1 hs5
      have oz := HZ6.out
      obtain ⟨yz0, z0⟩ := oz.cell (j := 0) (by omega)
      obtain ⟨yz1, z1⟩ := oz.cell (j := 1) (by omega)
      obtain ⟨yz2, z2⟩ := oz.cell (j := 2) (by omega)
      obtain ⟨yz3, z3⟩ := oz.cell (j := 3) (by omega)
      obtain ⟨yz4, z4⟩ := oz.cell (j := 4) (by omega)
      have fz0 := oz.frozen 0
      have fz1 := oz.frozen 1
      have fz2 := oz.frozen 2
      have fz3 := oz.frozen 3
      have fz4 := oz.frozen 4
      clear oz
      go_wp2
      refine bodyPost_ret (v := .tuple #[arr5 (fun _ => 0), .bool false]) (by simp [results, Try.results42, go_sem, z0, z1, z2, z3, z4, arr5]) rfl ?_
      exact ⟨_, by rw [Hp.out], fun h => (by rw [Hp.out] at h; cases h), bel5 (H := w.heap.size + 1) HB6.out (Nat.le_succ _) (fun _ => 0)⟩
    have d2 : p.n = s.n := by omega
    have Hd := Lib.hid (show pmB s n q p = (varB s.n p && kpB s.n s.x p.x) from by unfold pmB; rw [Hm.out]; simp [d2])
    clear d1
    obtain ⟨pn, px⟩ := p
    obtain ⟨sn, sx⟩ := s
    simp only at d2
    subst d2
    simp only at p1 p2 HS HP Hd a0 HB6 HG6 HZ6 hs1 hs5 ⊢
    have hx1 := exP_ok (c := px) hs1 hs5
    have hx2 := fun hv => keeps_eq (s := sx) (p := px) hs1 hs5 hv
    have hx3 := fun (hv : varB pn ⟨pn, px⟩ = true) => (srt_id.1 (srA_id.1 (hx1.trans hv))).1
    obtain ⟨u, hu⟩ : ∃ u, exP pn px = u := ⟨_, rfl⟩
    rw [hu] at hx1 hx2 hx3 HG6
    have HU := Lib.hid hu
    have HX1 := Lib.hid hx1
    have HX2 := Lib.hid hx2
    have HX3 := Lib.hid hx3
    have S1 := Lib.hid hs1
    have S5 := Lib.hid hs5
    have HSo := Lib.hid (fun W => psorted_any u W)
    have HSo2 := HSo.out
    have HKp := fun W => keeps_any ⟨pn, sx⟩ n As Ar cs cr u W
    unfold arr5 at HSo2
    have HSo3 := Lib.hid HSo2
    have hE := eqRunP (srA u) idn
    have HE := Lib.hid hE
    clear hu hx1 hx2 hx3 hs1 hs5 HSo HSo2 HKp hE
    have c0 := HG6.out.valP (j := 0) (by omega)
    have c1 := HG6.out.valP (j := 1) (by omega)
    have c2 := HG6.out.valP (j := 2) (by omega)
    have c3 := HG6.out.valP (j := 3) (by omega)
    have c4 := HG6.out.valP (j := 4) (by omega)
    go_wp2_with fail
    refine (HSo3.out _).mono ?_
    rintro e w7 ⟨rfl, hb⟩
    have HB7 := Lib.hid (bl_trans HB6.out hb)
    replace a0 := kc hb a0
    replace a1 := kc hb a1
    have HG7 := Lib.hid (HG6.out.below hb)
    have HZ7 := Lib.hid (HZ6.out.below hb)
    clear hb HB6 HG6 HZ6 c0 c1 c2 c3 c4
    obtain ⟨y, hy⟩ : ∃ y, srA u = y := ⟨_, rfl⟩
    rw [hy] at HE HX1
    rw [hy]
    clear hy
    go_wp2_with fail
    refine (HI.out _).mono ?_
    rintro e w8 ⟨rfl, hb⟩
    have HB8 := Lib.hid (bl_trans HB7.out hb)
    replace a0 := kc hb a0
    replace a1 := kc hb a1
    have HG8 := Lib.hid (HG7.out.below hb)
    have HZ8 := Lib.hid (HZ7.out.below hb)
    clear hb HB7 HG7 HZ7
    have hE := HE.out
    cases hv : varB pn ⟨pn, px⟩ with
    | false =>
      rw [HX1.out.trans hv] at hE
      have Hp := Lib.hid (show pmB ⟨pn, sx⟩ n q ⟨pn, px⟩ = false from by rw [Hd.out, hv]; rfl)
      clear hv a0 a1
      have oz := HZ8.out
      obtain ⟨yz0, z0⟩ := oz.cell (j := 0) (by omega)
      obtain ⟨yz1, z1⟩ := oz.cell (j := 1) (by omega)
      obtain ⟨yz2, z2⟩ := oz.cell (j := 2) (by omega)
      obtain ⟨yz3, z3⟩ := oz.cell (j := 3) (by omega)
      obtain ⟨yz4, z4⟩ := oz.cell (j := 4) (by omega)
      have fz0 := oz.frozen 0
      have fz1 := oz.frozen 1
      have fz2 := oz.frozen 2
      have fz3 := oz.frozen 3
      have fz4 := oz.frozen 4
      clear oz
      go_wp2
      refine bodyPost_ret (v := .tuple #[arr5 (fun _ => 0), .bool false]) (by simp [results, Try.results42, go_sem, z0, z1, z2, z3, z4, arr5]) rfl ?_
      exact ⟨_, by rw [Hp.out], fun h => (by rw [Hp.out] at h; cases h), bel5 (H := w.heap.size + 1) HB8.out (Nat.le_succ _) (fun _ => 0)⟩
    | true =>
      rw [HX1.out.trans hv] at hE
      have hk := HX2.out hv
      have HP5 := Lib.hid (HX3.out hv)
      have Hd2 := Lib.hid (show pmB ⟨pn, sx⟩ n q ⟨pn, px⟩ = kpB pn sx px from by rw [Hd.out, hv]; rfl)
      have Hk := Lib.hid hk
      clear hv hk
      have c0 := HG8.out.valP (j := 0) (by omega)
      have c1 := HG8.out.valP (j := 1) (by omega)
      have c2 := HG8.out.valP (j := 2) (by omega)
      have c3 := HG8.out.valP (j := 3) (by omega)
      have c4 := HG8.out.valP (j := 4) (by omega)
      go_wp2_with fail
      refine (keeps_any ⟨pn, sx⟩ n As Ar cs cr u w8 S1.out S5.out HP5.out (HS.out.later HB8.out)).mono ?_
      rintro e w9 ⟨rfl, hb⟩
      have HB9 := Lib.hid (bl_trans HB8.out hb)
      have HG9 := Lib.hid (HG8.out.below hb)
      have HZ9 := Lib.hid (HZ8.out.below hb)
      simp only
      rw [Hk.out]
      clear hb HB8 HG8 HZ8 c0 c1 c2 c3 c4 hE a0 a1
      have oz := HZ9.out
      obtain ⟨yz0, z0⟩ := oz.cell (j := 0) (by omega)
      obtain ⟨yz1, z1⟩ := oz.cell (j := 1) (by omega)
      obtain ⟨yz2, z2⟩ := oz.cell (j := 2) (by omega)
      obtain ⟨yz3, z3⟩ := oz.cell (j := 3) (by omega)
      obtain ⟨yz4, z4⟩ := oz.cell (j := 4) (by omega)
      have fz0 := oz.frozen 0
      have fz1 := oz.frozen 1
      have fz2 := oz.frozen 2
      have fz3 := oz.frozen 3
      have fz4 := oz.frozen 4
      clear oz
      cases hq : kpB pn sx px with
      | false =>
        have Hp := Lib.hid (Hd2.out.trans hq)
        clear hq
        go_wp2
        refine bodyPost_ret (v := .tuple #[arr5 (fun _ => 0), .bool false]) (by simp [results, Try.results42, go_sem, z0, z1, z2, z3, z4, arr5]) rfl ?_
        exact ⟨_, by rw [Hp.out], fun h => (by rw [Hp.out] at h; cases h), bel5 (H := w.heap.size + 1) HB9.out (Nat.le_succ _) (fun _ => 0)⟩
      | true =>
        have Hp := Lib.hid (Hd2.out.trans hq)
        clear hq
        have c0 := HG9.out.valP (j := 0) (by omega)
        have c1 := HG9.out.valP (j := 1) (by omega)
        have c2 := HG9.out.valP (j := 2) (by omega)
        have c3 := HG9.out.valP (j := 3) (by omega)
        have c4 := HG9.out.valP (j := 4) (by omega)
        go_wp2
        refine bodyPost_ret (v := .tuple #[arr5 u, .bool true]) (by simp [results, Try.results42, go_sem, z0, z1, z2, z3, z4, arr5]) rfl ?_
        exact ⟨_, by rw [Hp.out], fun _ => HU.out.symm, bel5 (H := w.heap.size + 1) HB9.out (Nat.le_succ _) u⟩
end Go.Proofs.Ytafiikfaeomhpaa

namespace Go.Proofs.Ytafiikfaeomhpaa
open Go.ChangeShapes Go.WideShapes Go.ChangeAt Go.RowKit Go.Shelf

set_option linter.unusedVariables false in
set_option linter.unusedSimpArgs false in
set_option maxRecDepth 100000 in
set_option maxHeartbeats 1600000 in
theorem implPV_any (s p : Lst) (n : Nat) (q : Nat → Rul) (As Ar Ap : Option Addr) (cs cr cp : Nat) (w : World) (p1 : s.n ≤ 1048576) (p2 : p.n ≤ 1048576) (p3 : n ≤ 1048576) (p4 : ∀ i, i < n → (q i).fit 1048576) (hs : RdI w w.heap.size As s.n s.x) (hr : RdRs w w.heap.size Ar n q) (hp : RdI w w.heap.size Ap p.n p.x) :
    Calls Try.prog 13 #[.agg #[.slice As s.n cs, .slice Ar n cr], .slice Ap p.n cp] w fun e w' => e = .returned (.bool (pmB s n q p)) ∧ Below w.heap.size w w' := by
  have a0 : (w.alloc (.cells #[.slice As s.n cs, .slice Ar n cr] 30)).cell? ⟨w.heap.size, 0, none⟩ = some (.slice As s.n cs) := by go_simp
  have a1 : (w.alloc (.cells #[.slice As s.n cs, .slice Ar n cr] 30)).cell? ⟨w.heap.size, 1, none⟩ = some (.slice Ar n cr) := by go_simp
  have HB := Lib.hid (bl_alloc (Below.refl w.heap.size w) (.cells #[.slice As s.n cs, .slice Ar n cr] 30))
  have HS := Lib.hid hs
  have HR := Lib.hid hr
  have HP := Lib.hid hp
  have P4 := Lib.hid p4
  clear hs hr hp p4
  go_enter Try.func13, Try.ntmps13
  go_wp2_with fail
  generalize (w.alloc (.cells #[.slice As s.n cs, .slice Ar n cr] 30)) = w1 at *
  refine (perm_any s p n q As Ar Ap cs cr cp w1 p1 p2 p3 P4.out (HS.out.later HB.out) (HR.out.later HB.out) (HP.out.later HB.out)).mono ?_
  rintro e w2 ⟨u, rfl, -, hb⟩
  have HB2 := Lib.hid (bl_trans HB.out hb)
  clear hb a0 a1 HB
  obtain ⟨W3, hW3⟩ : ∃ W, w2.alloc (.cells #[.int .i64 0, .int .i64 0, .int .i64 0, .int .i64 0, .int .i64 0] 64) = W := ⟨_, rfl⟩
  have hb := bl_alloc (Below.refl w2.heap.size w2) (.cells #[.int .i64 0, .int .i64 0, .int .i64 0, .int .i64 0, .int .i64 0] 64)
  have o3 := own5_new (w := w2) (T := 64) idn
  rw [hW3] at hb o3
  have HB3 := Lib.hid (bl_trans HB2.out hb)
  obtain ⟨G, hG⟩ : ∃ G, w2.heap.size = G := ⟨_, rfl⟩
  have hle : w.heap.size ≤ G := by rw [← hG]; exact HB2.out.size
  rw [hG] at o3
  obtain ⟨yz0, z0⟩ := o3.cell (j := 0) (by omega)
  obtain ⟨yz1, z1⟩ := o3.cell (j := 1) (by omega)
  obtain ⟨yz2, z2⟩ := o3.cell (j := 2) (by omega)
  obtain ⟨yz3, z3⟩ := o3.cell (j := 3) (by omega)
  obtain ⟨yz4, z4⟩ := o3.cell (j := 4) (by omega)
  have fz0 := o3.frozen 0
  have fz1 := o3.frozen 1
  have fz2 := o3.frozen 2
  have fz3 := o3.frozen 3
  have fz4 := o3.frozen 4
  unfold arr5
  clear o3 hb HB2
  go_wp2
  go_ret
  exact ⟨rfl, bel5 (H := G) HB3.out hle u⟩

set_option linter.unusedVariables false in
set_option linter.unusedSimpArgs false in
set_option maxRecDepth 100000 in
set_option maxHeartbeats 1600000 in
theorem specPV_any (s p : Lst) (n : Nat) (q : Nat → Rul) (As Ar Ap : Option Addr) (cs cr cp : Nat) (w : World) (p1 : s.n ≤ 1048576) (p2 : p.n ≤ 1048576) (p3 : n ≤ 1048576) (p4 : ∀ i, i < n → (q i).fit 1048576) (hs : RdI w w.heap.size As s.n s.x) (hr : RdRs w w.heap.size Ar n q) (hp : RdI w w.heap.size Ap p.n p.x) :
    Calls Try.prog 10 #[.agg #[.slice As s.n cs, .slice Ar n cr], .slice Ap p.n cp] w fun e w' => e = .returned (.bool (pmB s n q p)) ∧ Below w.heap.size w w' := by
  have a0 : (w.alloc (.cells #[.slice As s.n cs, .slice Ar n cr] 30)).cell? ⟨w.heap.size, 0, none⟩ = some (.slice As s.n cs) := by go_simp
  have a1 : (w.alloc (.cells #[.slice As s.n cs, .slice Ar n cr] 30)).cell? ⟨w.heap.size, 1, none⟩ = some (.slice Ar n cr) := by go_simp
  have HB := Lib.hid (bl_alloc (Below.refl w.heap.size w) (.cells #[.slice As s.n cs, .slice Ar n cr] 30))
  have HS := Lib.hid hs
  have HR := Lib.hid hr
  have HP := Lib.hid hp
  have P4 := Lib.hid p4
  clear hs hr hp p4
  go_enter Try.func10, Try.ntmps10
  go_wp2_with fail
  generalize (w.alloc (.cells #[.slice As s.n cs, .slice Ar n cr] 30)) = w1 at *
  refine (specValidM_any s n q _ _ _ _ _ p1 p3 P4.out (HS.out.later HB.out) (HR.out.later HB.out)).mono ?_
  rintro e w2 ⟨rfl, hb⟩
  have HB2 := Lib.hid (bl_trans HB.out hb)
  replace a0 := kc hb a0
  replace a1 := kc hb a1
  clear hb HB
  cases hm : modB s n q with
  | false =>
    have Hp := Lib.hid (show pmB s n q p = false from by unfold pmB; rw [hm]; rfl)
    clear hm
    go_wp2
    go_ret
    exact ⟨ret_bool (by rw [Hp.out]), HB2.out⟩
  | true =>
    have Hm := Lib.hid hm
    clear hm
    by_cases d1 : p.n ≠ s.n
    · have d2 := int_ne d1
      have Hp := Lib.hid (show pmB s n q p = false from by unfold pmB; simp [d1])
      clear d1
      go_wp2
      go_ret
      exact ⟨ret_bool (by rw [Hp.out]), HB2.out⟩
    have d2 : p.n = s.n := by omega
    have Hd := Lib.hid (show pmB s n q p = (varB s.n p && kpB s.n s.x p.x) from by unfold pmB; rw [Hm.out]; simp [d2])
    clear d1
    obtain ⟨pn, px⟩ := p
    obtain ⟨sn, sx⟩ := s
    simp only at d2
    subst d2
    simp only at p1 p2 HS HP Hd a0 HB2 ⊢
    have h1 : 1 ≤ pn := by
      have := Hm.out
      unfold modB at this
      simp only [Bool.and_eq_true, decide_eq_true_eq] at this
      exact this.1.1
    have H1 := Lib.hid h1
    clear h1
    go_wp2_with fail
    refine (l6Vars_any As Ar Ap pn cs n cr cp ⟨pn, px⟩ _ p2 (HP.out.later HB2.out)).mono ?_
    rintro e w3 ⟨rfl, hb⟩
    have HB3 := Lib.hid (bl_trans HB2.out hb)
    replace a0 := kc hb a0
    replace a1 := kc hb a1
    clear hb HB2
    cases hv : varB pn ⟨pn, px⟩ with
    | false =>
      have Hp := Lib.hid (show pmB ⟨pn, sx⟩ n q ⟨pn, px⟩ = false from by rw [Hd.out, hv]; rfl)
      clear hv
      go_wp2
      go_ret
      exact ⟨ret_bool (by rw [Hp.out]), HB3.out⟩
    | true =>
      have Hd2 := Lib.hid (show ∀ z, kpB pn sx px = z → pmB ⟨pn, sx⟩ n q ⟨pn, px⟩ = z from fun z hz => by rw [Hd.out, hv]; exact hz)
      have HV := Lib.hid ((varB_iff H1.out).1 hv).1
      clear hv
      have hs2 := HS.out.later HB3.out
      have hp2 := HP.out.later HB3.out
      obtain ⟨X0, hX0⟩ : ∃ X0, w.heap.size = X0 := ⟨_, rfl⟩
      rw [hX0] at a0 a1 ⊢
      have HX0 := Lib.hid hX0
      clear hX0
      go_wp2
      go_loopw [5] (fun i wr => ∃ k : Nat, k ≤ pn ∧ i = .int .i64 k ∧ prE (fun i => sx i == sx (px i).toNat) k = true ∧ Below w3.heap.size w3 wr) (fun i _ => pn - (intOf i).toNat)
      case atStart => exact ⟨0, Nat.zero_le _, rfl, rfl, Below.refl _ _⟩
      case round =>
        obtain ⟨k, hk, rfl, hp, hb⟩ := hrel
        have Hp := Lib.hid hp
        have HBk := Lib.hid hb
        clear hp
        by_cases hlt : k < pn
        · obtain ⟨b, off, rfl, hbl, hcs⟩ := (hs2.below HBk.out) (by omega)
          obtain ⟨b2, off2, rfl, hbl2, hcp⟩ := (hp2.below HBk.out) (by omega)
          obtain ⟨j, hj⟩ : ∃ j : Nat, px k = (j : Int) := ⟨(px k).toNat, by have := HV.out k hlt; omega⟩
          have hjn : j < pn := by have := HV.out k hlt; omega
          have c1 := hcs k hlt
          have c2 := hcp k hlt
          have c3 := hcs j hjn
          rw [hj] at c2
          have He : (sx k == sx (px k).toNat) = (sx k == sx j) := by rw [hj]; rfl
          have hlt' : (k : Int) < (pn : Int) := by omega
          have hk0 : (0 : Int) ≤ (k : Int) := by omega
          have hjn' : (j : Int) < (pn : Int) := by omega
          have hj0 : (0 : Int) ≤ (j : Int) := by omega
          replace a0 := kc hb a0
          clear hcs hcp hs2 hp2 hj hb a1
          by_cases q1 : sx k = sx j
          · have Hy := Lib.hid (prE_yes (e := fun i => sx i == sx (px i).toNat) Hp.out (by rw [He, beq_iff_eq]; exact q1))
            clear He
            go_wp2_with fail
            try go_quiet (fail)
            try go_wp2
            go_roundw
            case rel => exact ⟨k + 1, by omega, by go_num, Hy.out, by first | exact HBk.out | exact bl_drewN HBk.out _⟩
            case measure => simp [intOf]; omega
          · have Hn := Lib.hid (Hd2.out false (prE_no (e := fun i => sx i == sx (px i).toNat) hlt (by rw [He, beq_eq_false_iff_ne]; exact q1)))
            clear He
            go_wp2_with fail
            try go_quiet (fail)
            try go_wp2
            go_ret
            exact ⟨ret_bool (by rw [Hn.out]), by exact bl_trans HB3.out (by first | exact HBk.out | exact bl_drewN HBk.out _)⟩
        · obtain rfl : k = pn := by omega
          have Hy := Lib.hid (Hd2.out true Hp.out)
          go_wp2
          go_ret
          exact ⟨ret_bool (by rw [Hy.out]), by exact bl_trans HB3.out HBk.out⟩
end Go.Proofs.Ytafiikfaeomhpaa

