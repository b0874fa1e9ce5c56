/- Of the cubes of some variables exactly one holds; the laws' comparison of lists (no claim of its own). Conditions: as each theorem states. -/
import Derived.Test.YtjfcgehmeecnfaaCbsP
import Derived.Test.YtjfcgehmeecnfaaCpiA
namespace Go.Proofs.Ytjfcgehmeecnfaa
open Go.ChangeShapes Go.WideShapes Go.ChangeAt Go.RowKit

/-- How many of the first k hold. -/
def cntT (f : Nat → Bool) : Nat → Nat
  | 0 => 0
  | k + 1 => cntT f k + (if f k = true then 1 else 0)
theorem cntT_le (f : Nat → Bool) (k : Nat) : cntT f k ≤ k := by
  induction k with
  | zero => exact Nat.le_refl _
  | succ k ih =>
    show cntT f k + (if f k = true then 1 else 0) ≤ k + 1
    split <;> omega
theorem cntT_double {f g : Nat → Bool} (m : Nat) (h : ∀ j, (if f (2 * j) = true then 1 else 0) + (if f (2 * j + 1) = true then 1 else 0) = (if g j = true then 1 else 0)) : cntT f (2 * m) = cntT g m := by
  induction m with
  | zero => rfl
  | succ m ih =>
    show cntT f (2 * m) + (if f (2 * m) = true then 1 else 0) + (if f (2 * m + 1) = true then 1 else 0) = cntT g m + (if g m = true then 1 else 0)
    rw [ih, ← h m]
    omega
theorem holdR_eq {c c' : Nat → Int} {v : Nat → Bool} {n : Nat} (h : ∀ i, i < n → c i = c' i) : holdR c v n = holdR c' v n := by
  induction n with
  | zero => rfl
  | succ n ih =>
    unfold holdR
    rw [ih fun i hi => h i (by omega), h n (by omega)]
theorem trueP_ng {v : Nat → Bool} {x : Int} (h : x ≠ 0) : trueP v (-x) = !trueP v x := by
  unfold trueP
  by_cases hp : 0 < x
  · rw [if_neg (by omega), if_pos hp, show (-(-x) - 1).toNat = (x - 1).toNat by omega]
  · rw [if_pos (by omega), if_neg hp, Bool.not_not]
theorem one_holds {c : Nat → Int} {v : Nat → Bool} : ∀ {n : Nat}, (∀ i, i < n → c i ≠ 0) → cntT (fun j => holdR (cbL c n j).x v n) (2 ^ n) = 1 := by
  intro n
  induction n with
  | zero => intro _; rfl
  | succ n ih =>
    intro h
    rw [Nat.pow_succ, Nat.mul_comm, cntT_double (g := fun j => holdR (cbL c n j).x v n)]
    · exact ih fun i hi => h i (by omega)
    · intro j
      have h0 : holdR (cbL c (n + 1) (2 * j)).x v (n + 1) = (holdR (cbL c n j).x v n && trueP v (c n)) := by
        show (holdR (cbL c (n + 1) (2 * j)).x v n && trueP v ((cbL c (n + 1) (2 * j)).x n)) = _
        rw [holdR_eq (c := (cbL c (n + 1) (2 * j)).x) (c' := (cbL c n j).x) (fun i hi => cb_old (b := 0) (by omega) hi), cb_pos]
      have h1 : holdR (cbL c (n + 1) (2 * j + 1)).x v (n + 1) = (holdR (cbL c n j).x v n && !trueP v (c n)) := by
        show (holdR (cbL c (n + 1) (2 * j + 1)).x v n && trueP v ((cbL c (n + 1) (2 * j + 1)).x n)) = _
        rw [holdR_eq (c := (cbL c (n + 1) (2 * j + 1)).x) (c' := (cbL c n j).x) (fun i hi => cb_old (b := 1) (by omega) hi), cb_neg, trueP_ng (h n (Nat.lt_succ_self n))]
      rw [h0, h1]
      cases holdR (cbL c n j).x v n <;> cases trueP v (c n) <;> rfl
theorem cb_cube {c : Nat → Int} {n : Nat} (h : varsB n c = true) (j : Nat) : cubeB n (cbL c n j).x = true := by
  have hb := vars_bd h
  have hl : ∀ k, k ≤ n → litR (cbL c n j).x k = true := by
    intro k
    induction k with
    | zero => intro _; rfl
    | succ k ih =>
      intro hk
      have h1 := hb k (by omega)
      refine litR_yes (ih (by omega)) (litB_iff.2 ?_)
      show (if bitN n j k = true then -(c k) else c k) ≠ 0 ∧ -12 ≤ (if bitN n j k = true then -(c k) else c k) ∧ (if bitN n j k = true then -(c k) else c k) ≤ 12
      split <;> omega
  unfold cubeB
  rw [hl n (Nat.le_refl _), varsB_eq (c' := c) (fun i hi => by
    have h1 := hb i hi
    show ab (if bitN n j i = true then -(c i) else c i) = c i
    unfold ab
    split <;> split <;> omega), h]
  rfl
theorem cb_holds {c : Nat → Int} {n : Nat} {v : Nat → Bool} (h : varsB n c = true) : cntT (fun j => holdsB n (cbL c n j).x 12 v) (2 ^ n) = 1 := by
  have hb := vars_bd h
  rw [show (fun j => holdsB n (cbL c n j).x 12 v) = fun j => holdR (cbL c n j).x v n from funext fun j => holds_eq (cb_cube h j)]
  exact one_holds fun i hi => by have := hb i hi; omega

set_option maxRecDepth 100000 in
set_option maxHeartbeats 1600000 in
theorem cpLists_same (A A' : Option Addr) (n cap cap' : Nat) (r : Nat → Lst) (w : World) (hn : n ≤ 1048576) (hn' : ∀ i, i < n → (r i).n ≤ 1048576) (hr : RdL w w.heap.size A n r) (hr' : RdL w w.heap.size A' n r) :
    Calls Try.prog 36 #[.slice A n cap, .slice A' n cap'] w fun e w' => e = .returned (.bool true) ∧ Below w.heap.size w w' := by
  have HR := Lib.hid hr
  have HR' := Lib.hid hr'
  have HN := Lib.hid hn'
  clear hr hr' hn'
  go_enter Try.func36, Try.ntmps36
  go_wp2
  go_loopw [5] (fun i wr => ∃ k : Nat, k ≤ n ∧ i = .int .i64 k ∧ Below w.heap.size w wr) (fun i _ => n - (intOf i).toNat)
  case atStart => exact ⟨0, Nat.zero_le _, rfl, Below.refl _ _⟩
  case round =>
    obtain ⟨k, hk, rfl, hb⟩ := hrel
    have HB := Lib.hid hb
    clear hb
    by_cases hlt : k < n
    · obtain ⟨b, off, rfl, hbl, hc⟩ := (HR.out.below HB.out) (by omega)
      obtain ⟨b', off', rfl, hbl', hc'⟩ := (HR'.out.below HB.out) (by omega)
      obtain ⟨Ai, ci, hx0, hx2⟩ := hc k hlt
      obtain ⟨Aj, cj, hy0, hy2⟩ := hc' k hlt
      have HX := Lib.hid ((hx2.more HB.out.size).later ((Below.refl _ _).drew))
      have HY := Lib.hid ((hy2.more HB.out.size).later ((Below.refl _ _).drew))
      have hq := HN.out k hlt
      have hltI : (k : Int) < (n : Int) := by omega
      have hk0 : (0 : Int) ≤ (k : Int) := by omega
      have hsz := HB.out.size
      clear hc hc' hx2 hy2
      go_wp2_with fail
      go_still_tail 8, (by kernel_rfl)
      change wpList _ _ _ _ _ wr.drew
      go_wp2_with (go_at_call 74; refine (cpInts_refl _ _ _ _ _ (r k).x _ hq HX.out HY.out).mono ?_; rintro e w' ⟨rfl, hb1⟩)
      go_roundw
      case rel => exact ⟨k + 1, by omega, by go_num, bl_trans HB.out.drew hb1⟩
      case measure => simp [intOf]; omega
    · have e : k = n := by omega
      subst e
      go_wp2
      go_ret
      exact ⟨rfl, HB.out⟩
end Go.Proofs.Ytjfcgehmeecnfaa
