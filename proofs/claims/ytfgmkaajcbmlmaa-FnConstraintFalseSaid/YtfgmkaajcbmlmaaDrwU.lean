/- The draw of ConstraintFalse's argument, and values that make all literals true (no claim of its own). Conditions: as each theorem states. -/
import Derived.Test.YtfgmkaajcbmlmaaDrwV
import Derived.Test.YtfgmkaajcbmlmaaFalC
import Derived.Test.YtfgmkaajcbmlmaaEvlA
import Derived.Laws.OwnMore
namespace Go.Proofs.Ytfgmkaajcbmlmaa
open Go.ChangeShapes Go.WideShapes Go.ChangeAt Go.RowKit Go.Shelf

set_option maxRecDepth 100000 in
set_option maxHeartbeats 3200000 in
theorem drawFls_any (A : Option Addr) (n cap : Nat) (y : Nat → Int) (w : World) (hm : n ≤ maxLen) (hcap : n ≤ cap) (hr : RdY w w.heap.size A n y) :
    Calls Try.prog 28 #[.slice A n cap] w (DCv w) := by
  have HR := Lib.hid hr
  clear hr
  go_enter Try.func28, Try.ntmps28
  go_wp2_with fail
  have HB0 := Lib.hid (bl_alloc (Below.refl w.heap.size w) (.cells #[.slice none 0 0, .int .i64 0] 25))
  have r0 : Cel (w.alloc (.cells #[.slice none 0 0, .int .i64 0] 25)) w.heap.size 0 (.slice none 0 0) := ⟨by go_simp, by go_simp⟩
  have r1 : Cel (w.alloc (.cells #[.slice none 0 0, .int .i64 0] 25)) w.heap.size 1 (.int .i64 0) := ⟨by go_simp, by go_simp⟩
  have hz : w.heap.size < (w.alloc (.cells #[.slice none 0 0, .int .i64 0] 25)).heap.size := by simp
  have R0 := Lib.hid r0
  have R1 := Lib.hid r1
  have Hz := Lib.hid hz
  clear r0 r1 hz
  refine (drawCv_any _ _ _ y _ hm hcap (HR.out.later HB0.out)).mono ?_
  rintro e w1 ⟨Ac, k, capc, bd, c, l, rfl, hk, hrd, hb⟩
  have HB1 := Lib.hid (bl_trans HB0.out hb)
  obtain ⟨b0, f0⟩ := R0.out.below hb
  obtain ⟨b1, f1⟩ := R1.out.below hb
  have Hrd := Lib.hid hrd
  clear hb hrd R0 R1
  go_wp2
  refine bodyPost_ret (v := .agg #[.slice Ac k capc, .int .i64 bd]) (by simp [results, Try.results28, go_sem, b0, b1]) rfl ?_
  exact ⟨_, _, _, _, c, l, rfl, hk, ((Hrd.out.far rfl Hz.out _).far rfl Hz.out _).more (Nat.le_of_lt Hz.out), (HB1.out.setCell (Nat.le_refl _) _).setCell (Nat.le_refl _) _⟩

/-- The values that the positive ones among the first literals make true. -/
def uP (l : Nat → Int) : Nat → Nat → Bool
  | 0 => fun _ => false
  | k + 1 => if 0 < l k then (fun x => if x = (l k - 1).toNat then true else uP l k x) else uP l k
theorem made12 (l : Nat → Int) (W : World) : OwnB (W.alloc (.cells (madeCells #[.bool false] 12) 4)) W.heap.size 12 12 (uP l 0) :=
  ⟨_, heap_alloc_new _ _, by simp [size_madeCells], fun i hi => by
    rw [← Array.getElem?_toList, toList_madeCells_one, List.getElem?_replicate, if_pos hi]
    rfl⟩
theorem uP_pos {l : Nat → Int} {k ix : Nat} (h : l k = (ix : Int) + 1) : uP l (k + 1) = fun x => if x = ix then true else uP l k x := by
  show (if 0 < l k then _ else _) = _
  rw [if_pos (by omega)]
  funext x
  rw [show (l k - 1).toNat = ix by omega]
theorem uP_no {l : Nat → Int} {k : Nat} (h : ¬ 0 < l k) : uP l (k + 1) = uP l k := by
  show (if 0 < l k then _ else _) = _
  rw [if_neg h]
theorem uP_iff {l : Nat → Int} {k x : Nat} : uP l k x = true ↔ ∃ j, j < k ∧ 0 < l j ∧ x = (l j - 1).toNat := by
  induction k with
  | zero => exact ⟨fun h => Bool.noConfusion (show false = true from h), fun ⟨j, h, _⟩ => absurd h (by omega)⟩
  | succ k ih =>
    by_cases hp : 0 < l k
    · rw [uP_pos (ix := (l k - 1).toNat) (by omega)]
      show (if x = (l k - 1).toNat then true else uP l k x) = true ↔ _
      by_cases e : x = (l k - 1).toNat
      · rw [if_pos e]
        exact ⟨fun _ => ⟨k, by omega, hp, e⟩, fun _ => rfl⟩
      · rw [if_neg e, ih]
        constructor
        · exact fun ⟨j, h1, h2, h3⟩ => ⟨j, by omega, h2, h3⟩
        · intro ⟨j, h1, h2, h3⟩
          by_cases ej : j = k
          · subst ej; exact absurd h3 e
          · exact ⟨j, by omega, h2, h3⟩
    · rw [uP_no hp, ih]
      constructor
      · exact fun ⟨j, h1, h2, h3⟩ => ⟨j, by omega, h2, h3⟩
      · intro ⟨j, h1, h2, h3⟩
        by_cases ej : j = k
        · subst ej; exact absurd h2 hp
        · exact ⟨j, by omega, h2, h3⟩
theorem uP_true {n : Nat} {c l : Nat → Int} {bd : Int} (hval : validB n c l bd = true) {j : Nat} (hj : j < n) : trueP (uP l n) (l j) = true := by
  obtain ⟨h0, h1, h2⟩ := litB_iff.1 (litAt hval hj)
  unfold trueP
  by_cases hp : 0 < l j
  · rw [if_pos hp, uP_iff]
    exact ⟨j, hj, hp, rfl⟩
  · rw [if_neg hp, Bool.not_eq_true']
    cases hu : uP l n (-l j - 1).toNat with
    | false => rfl
    | true =>
      obtain ⟨i, hi, hip, e⟩ := uP_iff.1 hu
      have hne : i ≠ j := by intro e'; subst e'; exact hp hip
      have hab := ab_ne hval hi hj hne
      unfold ab at hab
      rw [if_neg (by omega), if_pos (by omega)] at hab
      omega
theorem false_eval {n : Nat} {c l : Nat → Int} {bd : Int} (hn : n ≤ 1048576) (hval : validB n c l bd = true) : evalV n c l bd 12 (uP l n) = !falseV n c l bd := by
  rw [evalV_yes hval]
  unfold falseV
  rw [hval, Bool.true_and]
  have h1 : evW c l (uP l n) n = totW c l n := by
    unfold evW totW
    rw [sumW_sB hn (coef_of hval), sumW_sB hn (coef_of hval)]
    have h2 := sB_mono (c := c) (l := l) (P := trueP (uP l n)) (Q := fun _ => true) (coef_of hval) (fun _ _ _ => rfl)
    have h3 := sB_mono (c := c) (l := l) (P := fun _ => true) (Q := trueP (uP l n)) (coef_of hval) (fun i hi _ => uP_true hval hi)
    omega
  rw [h1, Bool.eq_iff_iff, Bool.not_eq_true', decide_eq_true_eq, decide_eq_false_iff_not]
  omega
end Go.Proofs.Ytfgmkaajcbmlmaa
