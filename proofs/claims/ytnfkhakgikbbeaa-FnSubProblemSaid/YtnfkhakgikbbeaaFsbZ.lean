/- Contracts of the model's and the program's ConstraintSame (no claim of its own). Conditions: as each theorem states. · The laws' comparison of two problems that say the same (no claim of its own). Conditions: as each theorem states. · A part of a problem has no fewer solutions (no claim of its own). Conditions: as each theorem states. -/
import Derived.Test.YtnfkhakgikbbeaaComA
import Derived.Test.YtnfkhakgikbbeaaValidB
import Derived.Laws.StructEq
import Derived.Test.YtnfkhakgikbbeaaProB
import Derived.Test.YtnfkhakgikbbeaaSubM
import Derived.Test.YtnfkhakgikbbeaaSrcV
namespace Go.Proofs.Ytnfkhakgikbbeaa
open Go.ChangeShapes Go.WideShapes Go.ChangeAt Go.RowKit

theorem teq_no1 {c l c' l' : Int} (h : ¬ c = c') : (!teq c l c' l') = true := by simp [teq, h]
theorem teq_no2 {c l c' l' : Int} (h : ¬ l = l') : (!teq c l c' l') = true := by simp [teq, h]
theorem teq_yes {c l c' l' : Int} (h : c = c') (h' : l = l') : (!teq c l c' l') = false := by simp [teq, h, h']

/-- Two constraints are equal in every field. -/
def same (n n' : Nat) (c l c' l' : Nat → Int) (bd bd' : Int) : Bool := bd == bd' && (n == n' && tseq c l c' l' n)

set_option maxRecDepth 100000 in
set_option maxHeartbeats 800000 in
theorem slicesEqual_same (A A' : Option Addr) (n cap cap' : Nat) (c l c' l' : Nat → Int) (w : World) (hn : n ≤ 1048576) (hr : Rd w w.heap.size A n c l) (hr' : Rd w w.heap.size A' n c' l') :
    Calls Try.prog 44 #[.slice A n cap, .slice A' n cap'] w fun e w' => e = .returned (.bool (tseq c l c' l' n)) ∧ Below w.heap.size w w' := by
  go_enter Try.func44, Try.ntmps44
  go_wp2
  go_loopw [13, 5] (fun i _ wr => ∃ k : Nat, k ≤ n ∧ i = .int .i64 k ∧ tseq c l c' l' k = true ∧ Below w.heap.size w wr) (fun i _ _ => n - (intOf i).toNat)
  case atStart => exact ⟨0, Nat.zero_le _, rfl, rfl, Below.refl _ _⟩
  case round =>
    obtain ⟨k, hk, rfl, heq, hb⟩ := hrel
    have Heq := Lib.hid heq
    clear heq
    by_cases hlt : k < n
    · obtain ⟨b, off, rfl, hbl, hc⟩ := (hr.below hb) (by omega)
      obtain ⟨b', off', rfl, hbl', hc'⟩ := (hr'.below hb) (by omega)
      obtain ⟨hc1, hc2⟩ := hc k hlt
      obtain ⟨hc3, hc4⟩ := hc' k hlt
      clear hc hc' hr hr'
      have hlt' : (k : Int) < (n : Int) := by omega
      have hk0 : (0 : Int) ≤ (k : Int) := by omega
      by_cases h1 : c k = c' k
      · by_cases h2 : l k = l' k
        · have Ht := Lib.hid (teq_yes h1 h2)
          go_wp2_with fail
          go_quiet (fail)
          go_wp2
          go_roundw
          case rel => exact ⟨k + 1, by omega, by go_num, tseq_yes Heq.out Ht.out, bl_drewN hb _⟩
          case measure => simp [intOf]; omega
        · have Ht := Lib.hid (teq_no2 (c := c k) (c' := c' k) h2)
          go_wp2_with fail
          go_quiet (fail)
          go_wp2
          go_ret
          exact ⟨ret_bool (tseq_no hlt Ht.out).symm, bl_drewN hb _⟩
      · have Ht := Lib.hid (teq_no1 (l := l k) (l' := l' k) h1)
        go_wp2_with fail
        go_quiet (fail)
        go_wp2
        go_ret
        exact ⟨ret_bool (tseq_no hlt Ht.out).symm, bl_drewN hb _⟩
    · have e : k = n := by omega
      subst e
      go_wp2
      go_ret
      exact ⟨ret_bool Heq.out.symm, hb⟩

theorem same_no {n n' : Nat} {c l c' l' : Nat → Int} {bd bd' : Int} (h : bd ≠ bd' ∨ n ≠ n') : same n n' c l c' l' bd bd' = false := by
  rcases h with h | h <;> simp [same, h]

set_option maxRecDepth 100000 in
set_option maxHeartbeats 800000 in
theorem slicesEqual_len (A A' : Option Addr) (n n' cap cap' : Nat) (w : World) (hne : n ≠ n') :
    Calls Try.prog 44 #[.slice A n cap, .slice A' n' cap'] w fun e w' => e = .returned (.bool false) ∧ Below w.heap.size w w' := by
  have hd : ((n : Int) != (n' : Int)) = true := by rw [bne_iff_ne]; omega
  go_enter Try.func44, Try.ntmps44
  go_wp2
  go_ret
  exact ⟨rfl, Below.refl _ _⟩

theorem slicesEqual_any (A A' : Option Addr) (n n' cap cap' : Nat) (c l c' l' : Nat → Int) (w : World) (hn : n ≤ 1048576) (hr : Rd w w.heap.size A n c l) (hr' : Rd w w.heap.size A' n' c' l') :
    Calls Try.prog 44 #[.slice A n cap, .slice A' n' cap'] w fun e w' => e = .returned (.bool (n == n' && tseq c l c' l' n)) ∧ Below w.heap.size w w' := by
  by_cases h : n = n'
  · subst h
    exact (slicesEqual_same A A' n cap cap' c l c' l' w hn hr hr').mono fun e w' ⟨he, hb⟩ => ⟨by rw [he]; simp, hb⟩
  · exact (slicesEqual_len A A' n n' cap cap' w h).mono fun e w' ⟨he, hb⟩ => ⟨by rw [he]; simp [h], hb⟩

set_option maxRecDepth 100000 in
set_option maxHeartbeats 800000 in
theorem implSame_any (A A' : Option Addr) (n n' cap cap' : Nat) (bd bd' : Int) (c l c' l' : Nat → Int) (w : World) (hn : n ≤ 1048576) (hr : Rd w w.heap.size A n c l) (hr' : Rd w w.heap.size A' n' c' l') :
    Calls Try.prog 25 #[.agg #[.slice A n cap, .int .i64 bd], .agg #[.slice A' n' cap', .int .i64 bd']] w fun e w' => e = .returned (.bool (same n n' c l c' l' bd bd')) ∧ Below w.heap.size w w' := by
  by_cases hbd : bd = bd'
  · subst hbd
    go_enter Try.func25, Try.ntmps25
    go_wp2_with (go_at_call 44; refine (slicesEqual_any _ _ _ _ _ _ c l c' l' _ hn ((hr.below (by repeat (first | exact Below.refl _ _ | refine bl_alloc ?_ _))).more (by simp; omega)) ((hr'.below (by repeat (first | exact Below.refl _ _ | refine bl_alloc ?_ _))).more (by simp; omega))).mono ?_; rintro e w' ⟨rfl, hb⟩)
    go_ret
    exact ⟨ret_bool (by simp [same]), bl_trans (bl_alloc (bl_alloc (Below.refl _ _) _) _) hb⟩
  · have hne := same_no (n := n) (n' := n') (c := c) (l := l) (c' := c') (l' := l') (.inl hbd)
    have Hne := Lib.hid hne
    clear hne
    have hd : (bd == bd') = false := by simpa using hbd
    clear hbd
    go_enter Try.func25, Try.ntmps25
    go_wp2
    go_ret
    exact ⟨ret_bool Hne.out.symm, bl_alloc (bl_alloc (Below.refl _ _) _) _⟩
end Go.Proofs.Ytnfkhakgikbbeaa

namespace Go.Proofs.Ytnfkhakgikbbeaa
open Go.ChangeShapes Go.WideShapes Go.ChangeAt Go.RowKit

theorem same_refl9 (n : Nat) (c l : Nat → Int) (bd : Int) : same n n c l c l bd bd = true := by simp [same, tseq_refl]

set_option maxRecDepth 100000 in
set_option maxHeartbeats 1600000 in
theorem cpProblem_same (A A' : Option Addr) (n cap cap' : Nat) (p : Nat → Con) (w : World) (hn : n ≤ 1048576) (hn' : ∀ i, i < n → (p i).n ≤ 1048576) (hr : RdP w w.heap.size A n p) (hr' : RdP w w.heap.size A' n p) :
    Calls Try.prog 8 #[.slice A n cap, .slice A' n cap'] w fun e w' => e = .returned (.bool true) ∧ Below w.heap.size w w' := by
  have HR := Lib.hid hr
  have HR' := Lib.hid hr'
  have HN := Lib.hid hn'
  clear hr hr' hn'
  go_enter Try.func8, Try.ntmps8
  go_wp2
  go_loopw [5] (fun i wr => ∃ k : Nat, k ≤ n ∧ i = .int .i64 k ∧ Below w.heap.size w wr) (fun i _ => n - (intOf i).toNat)
  case atStart => exact ⟨0, Nat.zero_le _, rfl, Below.refl _ _⟩
  case round =>
    obtain ⟨k, hk, rfl, hb⟩ := hrel
    have HB := Lib.hid hb
    clear hb
    by_cases hlt : k < n
    · obtain ⟨b, off, rfl, hbl, hc⟩ := (HR.out.later HB.out) (by omega)
      obtain ⟨b', off', rfl, hbl', hc'⟩ := (HR'.out.later HB.out) (by omega)
      obtain ⟨Ai, ci, hx0, hx1, hx2⟩ := hc k hlt
      obtain ⟨Aj, cj, hy0, hy1, hy2⟩ := hc' k hlt
      have HX := Lib.hid (hx2.later ((Below.refl _ _).drew))
      have HY := Lib.hid (hy2.later ((Below.refl _ _).drew))
      have hq := HN.out k hlt
      have Hs := Lib.hid (same_refl9 (p k).n (p k).c (p k).l (p k).bd)
      have hltI : (k : Int) < (n : Int) := by omega
      have hk0 : (0 : Int) ≤ (k : Int) := by omega
      clear hc hc' hx2 hy2
      go_wp2_with fail
      go_still_tail 8, (by kernel_rfl)
      change wpList _ _ _ _ _ wr.drew
      go_wp2_with (go_at_call 25; refine (implSame_any _ _ _ _ _ _ _ _ _ _ _ _ _ hq HX.out HY.out).mono ?_; rintro e w' ⟨rfl, hb1⟩; rw [Hs.out])
      go_roundw
      case rel => exact ⟨k + 1, by omega, by go_num, bl_trans HB.out.drew hb1⟩
      case measure => simp [intOf]; omega
    · have e : k = n := by omega
      subst e
      go_wp2
      go_ret
      exact ⟨rfl, HB.out⟩
end Go.Proofs.Ytnfkhakgikbbeaa

namespace Go.Proofs.Ytnfkhakgikbbeaa
open Go.ChangeShapes Go.WideShapes Go.ChangeAt Go.RowKit

theorem allE_of9 {p : Nat → Con} {v : Nat → Bool} {n : Nat} (h : ∀ i, i < n → evalV (p i).n (p i).c (p i).l (p i).bd 12 v = true) : allE p v n = true := by
  induction n with
  | zero => rfl
  | succ n ih => exact allE_yes (ih fun i hi => h i (by omega)) (h n (by omega))
theorem allE_at9 {p : Nat → Con} {v : Nat → Bool} {n i : Nat} (h : allE p v n = true) (hi : i < n) : evalV (p i).n (p i).c (p i).l (p i).bd 12 v = true := by
  cases hq : evalV (p i).n (p i).c (p i).l (p i).bd 12 v with
  | true => rfl
  | false => rw [allE_no hi hq] at h; cases h
theorem allV_of {p : Nat → Con} {n : Nat} (h : ∀ i, i < n → validB (p i).n (p i).c (p i).l (p i).bd = true) : allV p n = true := by
  induction n with
  | zero => rfl
  | succ n ih =>
    show (allV p n && validB (p n).n (p n).c (p n).l (p n).bd) = true
    rw [ih fun i hi => h i (by omega), h n (by omega)]
    rfl
theorem sub_prob {n : Nat} {p : Nat → Con} {nk : Nat} {c : Nat → Int} (h : subOk n p nk c = true) : probB nk (subK p c) = true := by
  obtain ⟨h1, h2⟩ := sub_ok h
  have h3 : allV (subK p c) nk = true := allV_of fun i hi => by
    have := keep_ge h2 hi
    have h9 := allV_at (p := p) (prob_V h1) (show (c i).toNat < n by omega)
    exact h9
  have h4 := keep_le h2
  have h5 := prob_400 h1
  unfold probB
  rw [h3, decide_eq_true (show nk ≤ 400 by omega)]
  rfl
theorem sub_qS {n : Nat} {p : Nat → Con} {nk : Nat} {c : Nat → Int} (h : subOk n p nk c = true) {k : Nat} (hq : qS p n k = true) : qS (subK p c) nk k = true :=
  allE_of9 fun i hi => by
    have := keep_ge (sub_ok h).2 hi
    have h9 := allE_at9 (p := p) hq (show (c i).toNat < n by omega)
    exact h9
theorem sub_cnt {n : Nat} {p : Nat → Con} {nk : Nat} {c : Nat → Int} (h : subOk n p nk c = true) : cntS n p ≤ cntS nk (subK p c) := by
  unfold cntS
  rw [if_pos (sub_ok h).1, if_pos (sub_prob h)]
  unfold sols
  rw [solL_none, solL_none, ← List.countP_eq_length_filter, ← List.countP_eq_length_filter]
  exact List.countP_mono_left fun x _ hx => sub_qS h hx
theorem cntS_le9 (m : Nat) (p : Nat → Con) : cntS m p ≤ 4096 := by
  unfold cntS
  split
  · exact sols_len m p
  · omega
end Go.Proofs.Ytnfkhakgikbbeaa

