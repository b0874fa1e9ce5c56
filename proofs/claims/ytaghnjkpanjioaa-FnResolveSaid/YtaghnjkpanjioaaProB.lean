/- Contracts of the model's and the program's ProblemValid (no claim of its own). Conditions: as each theorem states. -/
import Derived.Test.YtaghnjkpanjioaaProA
namespace Go.Proofs.Ytaghnjkpanjioaa
open Go.ChangeShapes Go.WideShapes Go.ChangeAt Go.RowKit

/-- One of the first k is so. -/
def anyQ (q : Nat → Bool) : Nat → Bool
  | 0 => false
  | k + 1 => anyQ q k || q k
theorem anyQ_of {q : Nat → Bool} {n k : Nat} (hk : k < n) (h : q k = true) : anyQ q n = true := by
  induction n with
  | zero => omega
  | succ n ih =>
    unfold anyQ
    by_cases e : k = n
    · subst e; rw [h, Bool.or_true]
    · rw [ih (by omega), Bool.true_or]
theorem anyQ_step {q : Nat → Bool} {k : Nat} (h : anyQ q k = false) (h1 : q k = false) : anyQ q (k + 1) = false := by
  unfold anyQ
  rw [h, h1]
  rfl
theorem anyQ_not (p : Nat → Con) (n : Nat) : (!anyQ (fun k => !validB (p k).n (p k).c (p k).l (p k).bd) n) = allV p n := by
  induction n with
  | zero => rfl
  | succ n ih =>
    unfold anyQ allV
    rw [← ih, Bool.not_or, Bool.not_not]

set_option maxRecDepth 100000 in
set_option maxHeartbeats 800000 in
theorem specProblem_any (A : Option Addr) (n cap : Nat) (p : Nat → Con) (w : World) (hn : n ≤ 1048576) (hn' : ∀ i, i < n → (p i).n ≤ 1048576) (hr : RdP w w.heap.size A n p) :
    Calls Try.prog 94 #[.slice A n cap] w fun e w' => e = .returned (.bool (probB n p)) ∧ Below w.heap.size w w' := by
  go_enter Try.func94, Try.ntmps94
  go_wp2
  go_loopw [3] (fun i wr => ∃ k : Nat, k ≤ n ∧ i = .int .i64 k ∧ allV p k = true ∧ Below w.heap.size w wr) (fun i _ => n - (intOf i).toNat)
  case atStart => exact ⟨0, Nat.zero_le _, rfl, rfl, Below.refl _ _⟩
  case round =>
    obtain ⟨k, hk, rfl, hp, hb⟩ := hrel
    have Hp := Lib.hid hp
    clear hp
    by_cases hlt : k < n
    · have hnk := hn' k hlt
      obtain ⟨b, off, rfl, hbl, hc⟩ := (hr.below hb) (by omega)
      obtain ⟨Ai, ci, hc1, hc2, hrk⟩ := hc k hlt
      have Hrk := Lib.hid (hrk.more hb.size)
      clear hc hr hn' hrk
      cases hv : validB (p k).n (p k).c (p k).l (p k).bd with
      | true =>
        have Hgo := Lib.hid (allV_yes Hp.out hv)
        have Hv := Lib.hid hv
        clear hv
        go_wp2_with fail
        refine (specValid_any _ _ _ _ (p k).c (p k).l _ hnk Hrk.out).mono ?_
        rintro e w1 ⟨rfl, hb1⟩
        rw [Hv.out]
        go_wp2
        go_roundw
        case rel => exact ⟨k + 1, by omega, by go_num, Hgo.out, hb.trans (hb1.mono hb.size)⟩
        case measure => simp [intOf]; omega
      | false =>
        have Hno := Lib.hid (show probB n p = false from by unfold probB; rw [allV_no hv hlt]; rfl)
        have Hv := Lib.hid hv
        clear hv
        go_wp2_with fail
        refine (specValid_any _ _ _ _ (p k).c (p k).l _ hnk Hrk.out).mono ?_
        rintro e w1 ⟨rfl, hb1⟩
        rw [Hv.out]
        go_wp2
        go_ret
        exact ⟨ret_bool Hno.out.symm, hb.trans (hb1.mono hb.size)⟩
    · have e : k = n := by omega
      subst e
      clear hr
      have Hfin := Lib.hid (show probB k p = decide ((k : Int) ≤ 400) from by unfold probB; rw [Hp.out, Bool.true_and, Bool.eq_iff_iff]; simp; omega)
      go_wp2
      go_ret
      exact ⟨ret_bool Hfin.out.symm, hb⟩

end Go.Proofs.Ytaghnjkpanjioaa
