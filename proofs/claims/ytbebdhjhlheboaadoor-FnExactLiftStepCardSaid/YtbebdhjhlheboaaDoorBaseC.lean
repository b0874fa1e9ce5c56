/- Contracts of the copying and comparing helpers of the exact laws (no claim of its own). Conditions: as each theorem states. -/
import Derived.Test.YtbebdhjhlheboaaDoorBaseB
import Derived.StillTailTactics
namespace Go.Proofs.YtbebdhjhlheboaaDoor
open Go.ChangeShapes Go.WideShapes Go.ChangeAt Go.RowKit

theorem bcell {W w1 : World} (hb : Below W.heap.size W w1) : (∀ b o, b < W.heap.size → w1.cell? ⟨b, o, none⟩ = W.cell? ⟨b, o, none⟩) ∧ (∀ b o, b < W.heap.size → w1.frozen? ⟨b, o, none⟩ = W.frozen? ⟨b, o, none⟩) :=
  ⟨fun b o h => hb.cell (p := ⟨b, o, none⟩) h, fun b o h => hb.frozen (p := ⟨b, o, none⟩) h⟩

theorem OwnT.far {w : World} {G n k : Nat} {c l : Nat → Int} (h : OwnT w G n k c l) {p : Addr} (hp : G ≠ p.block) (u : Value) : OwnT (w.setCell p u) G n k c l := by
  obtain ⟨cs, hh, h1, h2⟩ := h
  exact ⟨cs, (Below.heap_setCell w p u G hp).trans hh, h1, h2⟩

theorem ret_bool {a b : Bool} (h : a = b) : Ending.returned (.bool a) = .returned (.bool b) := by rw [h]

set_option maxHeartbeats 400000 in
theorem toConstraint_any (A : Option Addr) (n cap : Nat) (bd : Int) (c l : Nat → Int) (w : World) (hn : n ≤ 1048576) (hr : Rd w w.heap.size A n c l) :
    Calls Tryd.prog 23 #[.agg #[.slice A n cap, .int .i64 bd]] w fun e w' =>
      ∃ G, e = .returned (.agg #[.slice (some ⟨G, 0, none⟩) n n, .int .i64 bd]) ∧ w.heap.size ≤ G ∧ OwnT w' G n n c l ∧ Below w.heap.size w w' := by
  go_enter Tryd.func23, Tryd.ntmps23
  go_wp2_with (go_at_call 54; refine (toTermS_any _ _ _ c l _ hn ((hr.below (by repeat (first | exact Below.refl _ _ | refine bl_alloc ?_ _))).more (by simp; omega))).mono ?_; rintro e w' ⟨G, rfl, hG, hown, hb⟩; have hbb := Lib.hid hb; obtain ⟨hc, hf⟩ := bcell hb; clear hb; simp at hG)
  refine bodyPost_ret (v := .agg #[.slice (some ⟨G, 0, none⟩) n n, .int .i64 bd]) (by simp [results, Tryd.results23, go_sem, hc]) rfl ⟨G, rfl, ?_, ?_, ?_⟩
  · omega
  · exact (((hown.far (by simp; omega) _).far (by simp; omega) _).far (by simp; omega) _).far (by simp; omega) _
  · exact ((((bl_trans (bl_alloc (bl_alloc (bl_alloc (Below.refl _ _) _) _) _) hbb.out).setCell (by simp; omega) _).setCell (by simp; omega) _).setCell (by simp) _).setCell (by simp) _

/-- The first k terms are equal. -/
def tseq (c l c' l' : Nat → Int) : Nat → Bool
  | 0 => true
  | k + 1 => tseq c l c' l' k && teq (c k) (l k) (c' k) (l' k)

theorem tseq_no {c l c' l' : Nat → Int} {n k : Nat} (hk : k < n) (h : (!teq (c k) (l k) (c' k) (l' k)) = true) : tseq c l c' l' n = false := by
  induction n with
  | zero => omega
  | succ n ih =>
    by_cases e : k = n
    · subst e
      unfold tseq
      rw [Bool.not_eq_true'] at h
      simp [h]
    · unfold tseq
      simp [ih (by omega)]
theorem tseq_yes {c l c' l' : Nat → Int} {k : Nat} (h0 : tseq c l c' l' k = true) (h : (!teq (c k) (l k) (c' k) (l' k)) = false) : tseq c l c' l' (k + 1) = true := by
  unfold tseq
  rw [h0]
  simpa using h
theorem tseq_refl (c l : Nat → Int) (n : Nat) : tseq c l c l n = true := by
  induction n with
  | zero => rfl
  | succ n ih => unfold tseq; simp [ih, teq]

set_option maxRecDepth 100000 in
set_option maxHeartbeats 400000 in
theorem eqTermS_same (A A' : Option Addr) (n cap cap' : Nat) (c l c' l' : Nat → Int) (w : World) (hn : n ≤ 1048576) (hr : Rd w w.heap.size A n c l) (hr' : Rd w w.heap.size A' n c' l') :
    Calls Tryd.prog 61 #[.slice A n cap, .slice A' n cap'] w fun e w' => e = .returned (.bool (tseq c l c' l' n)) ∧ Below w.heap.size w w' := by
  go_enter Tryd.func61, Tryd.ntmps61
  go_wp2
  go_loopw [5] (fun i wr => ∃ k : Nat, k ≤ n ∧ i = .int .i64 k ∧ tseq c l c' l' k = true ∧ Below w.heap.size w wr) (fun i _ => n - (intOf i).toNat)
  case atStart => exact ⟨0, Nat.zero_le _, rfl, rfl, Below.refl _ _⟩
  case round =>
    obtain ⟨k, hk, rfl, heq, hb⟩ := hrel
    have Heq := Lib.hid heq
    clear heq
    by_cases hlt : k < n
    · obtain ⟨b, off, rfl, hbl, hc⟩ := (hr.below hb) (by omega)
      obtain ⟨b', off', rfl, hbl', hc'⟩ := (hr'.below hb) (by omega)
      obtain ⟨hc1, hc2⟩ := hc k hlt
      obtain ⟨hc3, hc4⟩ := hc' k hlt
      clear hc hc' hr hr'
      have hlt' : (k : Int) < (n : Int) := by omega
      have hk0 : (0 : Int) ≤ (k : Int) := by omega
      go_wp2_with fail
      go_still_tail 8, (by kernel_rfl)
      change wpList _ _ _ _ _ wr.drew
      go_wp2_with (go_at_call 74; refine (eqTerm_any _ _ _ _ _).mono ?_; rintro e w' ⟨rfl, hb1⟩)
      · go_ret
        exact ⟨ret_bool (tseq_no hlt (by assumption)).symm, hb.drew.trans (hb1.mono hb.size)⟩
      · have ht : (!teq (c k) (l k) (c' k) (l' k)) = false := by assumption
        go_roundw
        case rel => exact ⟨k + 1, by omega, by go_num, tseq_yes Heq.out ht, hb.drew.trans (hb1.mono hb.size)⟩
        case measure => simp [intOf]; omega
    · have e : k = n := by omega
      subst e
      go_wp2
      go_ret
      exact ⟨ret_bool Heq.out.symm, hb⟩

/-- Two constraints with the same number of terms are compared. -/
def ceq (n : Nat) (c l c' l' : Nat → Int) (bd bd' : Int) : Bool := tseq c l c' l' n && bd == bd'

set_option maxHeartbeats 400000 in
theorem eqConstraint_same (A A' : Option Addr) (n cap cap' : Nat) (bd bd' : Int) (c l c' l' : Nat → Int) (w : World) (hn : n ≤ 1048576) (hr : Rd w w.heap.size A n c l) (hr' : Rd w w.heap.size A' n c' l') :
    Calls Tryd.prog 29 #[.agg #[.slice A n cap, .int .i64 bd], .agg #[.slice A' n cap', .int .i64 bd']] w fun e w' => e = .returned (.bool (ceq n c l c' l' bd bd')) ∧ Below w.heap.size w w' := by
  go_enter Tryd.func29, Tryd.ntmps29
  go_wp2_with (go_at_call 61; refine (eqTermS_same _ _ _ _ _ c l c' l' _ hn ((hr.below (by repeat (first | exact Below.refl _ _ | refine bl_alloc ?_ _))).more (by simp; omega)) ((hr'.below (by repeat (first | exact Below.refl _ _ | refine bl_alloc ?_ _))).more (by simp; omega))).mono ?_; rintro e w' ⟨rfl, hb⟩; have hbb := Lib.hid hb; obtain ⟨hc, hf⟩ := bcell hb; clear hb)
  all_goals go_ret
  all_goals refine ⟨ret_bool ?_, bl_trans (bl_alloc (bl_alloc (Below.refl _ _) _) _) hbb.out⟩
  all_goals simp_all [ceq]
end Go.Proofs.YtbebdhjhlheboaaDoor
