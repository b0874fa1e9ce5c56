/- Contracts of the model's and the program's ProblemValid (no claim of its own). Conditions: as each theorem states. -/
import Derived.Test.YtckaeaclclhapaaProA
namespace Go.Proofs.Ytckaeaclclhapaa
open Go.ChangeShapes Go.WideShapes Go.ChangeAt Go.RowKit

/-- One of the first k is so. -/
def anyQ (q : Nat → Bool) : Nat → Bool
  | 0 => false
  | k + 1 => anyQ q k || q k
theorem anyQ_of {q : Nat → Bool} {n k : Nat} (hk : k < n) (h : q k = true) : anyQ q n = true := by
  induction n with
  | zero => omega
  | succ n ih =>
    unfold anyQ
    by_cases e : k = n
    · subst e; rw [h, Bool.or_true]
    · rw [ih (by omega), Bool.true_or]
theorem anyQ_step {q : Nat → Bool} {k : Nat} (h : anyQ q k = false) (h1 : q k = false) : anyQ q (k + 1) = false := by
  unfold anyQ
  rw [h, h1]
  rfl
theorem anyQ_not (p : Nat → Con) (n : Nat) : (!anyQ (fun k => !validB (p k).n (p k).c (p k).l (p k).bd) n) = allV p n := by
  induction n with
  | zero => rfl
  | succ n ih =>
    unfold anyQ allV
    rw [← ih, Bool.not_or, Bool.not_not]

set_option maxRecDepth 100000 in
set_option maxHeartbeats 800000 in
theorem invalid_any (A : Option Addr) (n cap : Nat) (bd : Int) (c l : Nat → Int) (w : World) (hn : n ≤ 1048576) (hr : Rd w w.heap.size A n c l) :
    Calls Try.prog 38 #[.agg #[.slice A n cap, .int .i64 bd]] w fun e w' => e = .returned (.bool (!validB n c l bd)) ∧ Below w.heap.size w w' := by
  go_enter Try.func38, Try.ntmps38
  go_wp2_with fail
  refine (implValid_any _ _ _ _ c l _ hn (hr.later (bl_alloc (Below.refl _ _) _))).mono ?_
  rintro e w1 ⟨rfl, hb⟩
  have HB := Lib.hid (bl_trans (bl_alloc (Below.refl w.heap.size w) _) hb)
  clear hb
  go_wp2
  go_ret
  exact ⟨rfl, HB.out⟩

set_option maxRecDepth 100000 in
set_option maxHeartbeats 1600000 in
theorem indexInv_any (A : Option Addr) (n cap : Nat) (p : Nat → Con) (q : Nat → Bool)  (w : World) (hn : n ≤ 1048576) (hr : RdP w w.heap.size A n p)
    (hf : ∀ (k : Nat) (Ai : Option Addr) (ci : Nat) (X : World), k < n → Below w.heap.size w X → Rd X X.heap.size Ai (p k).n (p k).c (p k).l → Calls Try.prog 38 #[.agg #[.slice Ai (p k).n ci, .int .i64 (p k).bd]] X fun e X' => e = .returned (.bool (q k)) ∧ Below X.heap.size X X') :
    Calls Try.prog 47 #[.slice A n cap, .func (.func 38) #[] #[]] w fun e w' => ∃ m : Int, e = .returned (.int .i64 m) ∧ decide (0 ≤ m) = anyQ q n ∧ Below w.heap.size w w' := by
  go_enter Try.func47, Try.ntmps47
  go_wp2
  go_loopw [8] (fun i wr => ∃ k : Nat, k ≤ n ∧ i = .int .i64 k ∧ anyQ q k = false ∧ Below w.heap.size w wr) (fun i _ => n - (intOf i).toNat)
  case atStart => exact ⟨0, Nat.zero_le _, rfl, rfl, Below.refl _ _⟩
  case round =>
    obtain ⟨k, hk, rfl, hp, hb⟩ := hrel
    have Hp := Lib.hid hp
    clear hp
    by_cases hlt : k < n
    · obtain ⟨b, off, rfl, hbl, hc⟩ := (hr.below hb) (by omega)
      obtain ⟨Ai, ci, hc1, hc2, hrk⟩ := hc k hlt
      have Hcall := Lib.hid (hf k Ai ci wr hlt hb (hrk.more hb.size))
      clear hc hr hf hrk
      cases hq : q k with
      | true =>
        have Hfin := Lib.hid (show decide (0 ≤ (k : Int)) = anyQ q n from by rw [anyQ_of hlt hq]; simp)
        rw [hq] at Hcall
        have Hq := Lib.hid hq
        clear hq
        go_wp2_with fail
        refine Hcall.out.mono ?_
        rintro e w1 ⟨rfl, hb1⟩
        go_wp2
        go_ret
        exact ⟨_, rfl, Hfin.out, hb.trans (hb1.mono hb.size)⟩
      | false =>
        have Hno := Lib.hid (anyQ_step Hp.out hq)
        rw [hq] at Hcall
        clear hq
        go_wp2_with fail
        refine Hcall.out.mono ?_
        rintro e w1 ⟨rfl, hb1⟩
        go_wp2
        go_roundw
        case rel => exact ⟨k + 1, by omega, by go_num, Hno.out, hb.trans (hb1.mono hb.size)⟩
        case measure => simp [intOf]; omega
    · have e : k = n := by omega
      subst e
      go_wp2
      go_ret
      exact ⟨-1, rfl, by rw [Hp.out]; rfl, hb⟩

set_option maxRecDepth 100000 in
set_option maxHeartbeats 800000 in
theorem containsInv_any (A : Option Addr) (n cap : Nat) (p : Nat → Con) (q : Nat → Bool)  (w : World) (hn : n ≤ 1048576) (hr : RdP w w.heap.size A n p)
    (hf : ∀ (k : Nat) (Ai : Option Addr) (ci : Nat) (X : World), k < n → Below w.heap.size w X → Rd X X.heap.size Ai (p k).n (p k).c (p k).l → Calls Try.prog 38 #[.agg #[.slice Ai (p k).n ci, .int .i64 (p k).bd]] X fun e X' => e = .returned (.bool (q k)) ∧ Below X.heap.size X X') :
    Calls Try.prog 39 #[.slice A n cap, .func (.func 38) #[] #[]] w fun e w' => e = .returned (.bool (anyQ q n)) ∧ Below w.heap.size w w' := by
  have Hc := Lib.hid (indexInv_any A n cap p q  w hn hr hf)
  clear hf
  go_enter Try.func39, Try.ntmps39
  go_wp2_with fail
  refine Hc.out.mono ?_
  rintro e w1 ⟨m, rfl, hm, hb⟩
  have Hm := Lib.hid hm
  clear hm
  go_wp2
  go_ret
  exact ⟨ret_bool Hm.out, hb⟩

set_option maxRecDepth 100000 in
set_option maxHeartbeats 800000 in
theorem implProblem_any (A : Option Addr) (n cap : Nat) (p : Nat → Con) (w : World) (hn : n ≤ 1048576) (hn' : ∀ i, i < n → (p i).n ≤ 1048576) (hr : RdP w w.heap.size A n p) :
    Calls Try.prog 20 #[.slice A n cap] w fun e w' => e = .returned (.bool (probB n p)) ∧ Below w.heap.size w w' := by
  by_cases h4 : n ≤ 400
  · have h4i : (n : Int) ≤ 400 := by omega
    have Hfin := Lib.hid (show probB n p = !anyQ (fun k => !validB (p k).n (p k).c (p k).l (p k).bd) n from by rw [anyQ_not]; unfold probB; simp [h4])
    have Hc := Lib.hid (containsInv_any A n cap p (fun k => !validB (p k).n (p k).c (p k).l (p k).bd) w hn hr (fun k Ai ci X hk _ hq => invalid_any Ai (p k).n ci (p k).bd (p k).c (p k).l X (hn' k hk) hq))
    clear hr hn'
    generalize (anyQ (fun k => !validB (p k).n (p k).c (p k).l (p k).bd) n) = Q at Hc Hfin
    go_enter Try.func20, Try.ntmps20
    go_wp2_with fail
    refine Hc.out.mono ?_
    rintro e w1 ⟨rfl, hb⟩
    go_wp2
    go_ret
    exact ⟨ret_bool Hfin.out.symm, hb⟩
  · have h4i : ¬ (n : Int) ≤ 400 := by omega
    have Hfin := Lib.hid (show probB n p = false from by unfold probB; simp [h4])
    clear hr hn'
    go_enter Try.func20, Try.ntmps20
    go_wp2
    go_ret
    exact ⟨ret_bool Hfin.out.symm, Below.refl _ _⟩
end Go.Proofs.Ytckaeaclclhapaa
