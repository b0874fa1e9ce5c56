/- The draw of SplitCubes' argument (no claim of its own). Conditions: as each theorem states. · The solutions of a problem, counted cube by cube (no claim of its own). Conditions: as each theorem states. -/
import Derived.Test.YtnfkhakgikbbeaaGreatCdrZ
import Derived.Test.YtnfkhakgikbbeaaGreatCcZ
import Derived.Test.YtnfkhakgikbbeaaGreatSrcV
namespace Go.Proofs.YtnfkhakgikbbeaaGreat
open Go.ChangeShapes Go.WideShapes Go.ChangeAt Go.RowKit

/-- What the draw of variables leaves. -/
def DSp (w : World) (e : Ending) (w' : World) : Prop := ∃ A k cap c, e = .returned (.slice A k cap) ∧ k ≤ 5 ∧ RdI w' w'.heap.size A k c ∧ Below w.heap.size w w'

set_option maxRecDepth 100000 in
set_option maxHeartbeats 3200000 in
theorem drawSplit_any (A : Option Addr) (n cap : Nat) (y : Nat → Int) (w : World) (hm : n ≤ maxLen) (hcap : n ≤ cap) (hr : RdY w w.heap.size A n y) :
    Calls Tryz.prog 6 #[.slice A n cap] w (DSp w) := by
  go_enter Tryz.func6, Tryz.ntmps6
  go_wp2_with fail
  refine (open_any _ _ _ y _ hm hcap hr).mono ?_
  rintro e w1 ⟨rfl, hb, hrd, hz1⟩
  have HB1 := Lib.hid hb
  have RD1 := Lib.hid hrd
  clear hb hrd hr
  go_wp2_with fail
  refine (l12Draw_any w.heap.size 0 _ (by omega) RD1.out).mono ?_
  rintro e w4 ⟨A4, k4, cap4, rfl, hk4, hts, hg, hr⟩
  obtain ⟨A9, cap9, c9, e9, hF9⟩ := hts.ints
  cases e9
  have HI := Lib.hid hF9.rdAt
  have HBz := Lib.hid (gr_bel9 HB1.out hg (Nat.le_refl _))
  clear hts hg hr hF9
  go_wp2
  go_ret
  exact ⟨A4, k4, cap4, c9, rfl, hk4, HI.out, HBz.out⟩
end Go.Proofs.YtnfkhakgikbbeaaGreat

namespace Go.Proofs.YtnfkhakgikbbeaaGreat
open Go.ChangeShapes Go.WideShapes Go.ChangeAt Go.RowKit

/-- The sum of the first k numbers. -/
def sumT (f : Nat → Nat) : Nat → Nat
  | 0 => 0
  | k + 1 => sumT f k + f k
theorem sumT_add (f g : Nat → Nat) (k : Nat) : sumT (fun j => f j + g j) k = sumT f k + sumT g k := by
  induction k with
  | zero => rfl
  | succ k ih =>
    show sumT (fun j => f j + g j) k + (f k + g k) = _
    rw [ih]
    show _ = (sumT f k + f k) + (sumT g k + g k)
    omega
theorem sumT_eq {f g : Nat → Nat} {k : Nat} (h : ∀ j, j < k → f j = g j) : sumT f k = sumT g k := by
  induction k with
  | zero => rfl
  | succ k ih =>
    show sumT f k + f k = sumT g k + g k
    rw [ih fun j hj => h j (by omega), h k (by omega)]
theorem sumT_zero (k : Nat) : sumT (fun _ => 0) k = 0 := by
  induction k with
  | zero => rfl
  | succ k ih => show sumT (fun _ => 0) k + 0 = 0; rw [ih]
theorem sumT_cnt (f : Nat → Bool) (k : Nat) : sumT (fun j => if f j = true then 1 else 0) k = cntT f k := by
  induction k with
  | zero => rfl
  | succ k ih =>
    show sumT (fun j => if f j = true then 1 else 0) k + _ = cntT f k + _
    rw [ih]
theorem sumT_mono {f : Nat → Nat} {j k : Nat} (h : j ≤ k) : sumT f j ≤ sumT f k := by
  induction k with
  | zero =>
    obtain rfl : j = 0 := by omega
    exact Nat.le_refl _
  | succ k ih =>
    by_cases e : j = k + 1
    · subst e; exact Nat.le_refl _
    · have := ih (by omega)
      show sumT f j ≤ sumT f k + f k
      omega
/-- A list, split by tests of which exactly one holds. -/
theorem split_len {q : Nat → Bool} {h : Nat → Nat → Bool} {M : Nat} (h1 : ∀ k, cntT (fun j => h j k) M = 1) (L : List Nat) : sumT (fun j => (L.filter fun k => q k && h j k).length) M = (L.filter q).length := by
  induction L with
  | nil => exact sumT_zero M
  | cons x L ih =>
    have e : sumT (fun j => ((x :: L).filter fun k => q k && h j k).length) M = sumT (fun j => (if (q x && h j x) = true then 1 else 0) + (L.filter fun k => q k && h j k).length) M := sumT_eq fun j _ => by
      show ((x :: L).filter fun k => q k && h j k).length = (if (q x && h j x) = true then 1 else 0) + (L.filter fun k => q k && h j k).length
      rw [List.filter_cons]
      split
      · rw [List.length_cons]; omega
      · omega
    rw [e, sumT_add (fun j => if (q x && h j x) = true then 1 else 0) (fun j => (L.filter fun k => q k && h j k).length), ih, List.filter_cons]
    cases hq : q x with
    | true =>
      rw [if_pos rfl, List.length_cons]
      simp only [Bool.true_and]
      rw [sumT_cnt (fun j => h j x), h1 x]
      omega
    | false =>
      simp only [Bool.false_and]
      have e2 : sumT (fun _ => if false = true then 1 else 0) M = 0 := sumT_zero M
      rw [e2]
      simp
theorem und_qS {kl m : Nat} {p : Nat → Con} {c : Nat → Int} (hl : litR c m = true) (k : Nat) : qS (undP kl p c) (kl + m) k = (qS p kl k && holdR c (valN k) m) := und_allE hl
theorem und_yes9 {kl m : Nat} {p : Nat → Con} {c : Nat → Int} (hv : probB kl p = true) (hu : varsB m c = true) (hk : kl ≤ 16) (j : Nat) : undOk kl p m (cbL c m j).x = true ∧ undN kl p m (cbL c m j).x = kl + m :=
  und_yes hv (cb_cube hu j) (by have := vars_4 hu; omega)
/-- The counts of all cubes add up. -/
theorem cnt_cubes {kl m : Nat} {p : Nat → Con} {c : Nat → Int} (hv : probB kl p = true) (hu : varsB m c = true) (hk : kl ≤ 16) : sumT (fun j => cntS (kl + m) (undP kl p (cbL c m j).x)) (2 ^ m) = cntS kl p := by
  have hb := vars_bd hu
  have e : sumT (fun j => cntS (kl + m) (undP kl p (cbL c m j).x)) (2 ^ m) = sumT (fun j => ((List.range 4096).filter fun k => qS p kl k && holdR (cbL c m j).x (valN k) m).length) (2 ^ m) := sumT_eq fun j _ => by
    show cntS (kl + m) (undP kl p (cbL c m j).x) = _
    unfold cntS
    rw [if_pos (und_prob (und_yes9 hv hu hk j).1)]
    unfold sols
    rw [solL_none, show qS (undP kl p (cbL c m j).x) (kl + m) = (fun k => qS p kl k && holdR (cbL c m j).x (valN k) m) from funext fun k => und_qS (cube_parts (cb_cube hu j)).1 k]
  rw [e, split_len (fun k => one_holds fun i hi => by have := hb i hi; omega)]
  unfold cntS
  rw [if_pos hv]
  unfold sols
  rw [solL_none]
theorem cntS_le8 (m : Nat) (p : Nat → Con) : cntS m p ≤ 4096 := by
  unfold cntS
  split
  · exact sols_len m p
  · omega
end Go.Proofs.YtnfkhakgikbbeaaGreat

