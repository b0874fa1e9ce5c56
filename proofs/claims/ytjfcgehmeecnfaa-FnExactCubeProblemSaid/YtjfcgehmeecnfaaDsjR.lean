/- Contracts of the program's disjunction: whether it is ready (no claim of its own). Conditions: as each theorem states. -/
import Derived.Test.YtjfcgehmeecnfaaDsjM
import Derived.Test.YtjfcgehmeecnfaaIntA
import Derived.Test.YtjfcgehmeecnfaaProB
namespace Go.Proofs.Ytjfcgehmeecnfaa
open Go.ChangeShapes Go.WideShapes Go.ChangeAt Go.RowKit

set_option maxRecDepth 100000 in
set_option maxHeartbeats 1600000 in
theorem indexDj_any (A : Option Addr) (n cap : Nat) (v : Nat → Int) (q : Nat → Bool)  (w : World) (hn : n ≤ 1048576) (hr : RdI w w.heap.size A n v)
    (hf : ∀ (k : Nat) (X : World), k < n → Below w.heap.size w X → Calls Try.prog 128 #[.int .i64 (v k)] X fun e X' => e = .returned (.bool (q k)) ∧ Below X.heap.size X X') :
    Calls Try.prog 133 #[.slice A n cap, .func (.func 128) #[] #[]] w fun e w' => ∃ m : Int, e = .returned (.int .i64 m) ∧ decide (0 ≤ m) = anyQ q n ∧ Below w.heap.size w w' := by
  go_enter Try.func133, Try.ntmps133
  go_wp2
  go_loopw [8] (fun i wr => ∃ k : Nat, k ≤ n ∧ i = .int .i64 k ∧ anyQ q k = false ∧ Below w.heap.size w wr) (fun i _ => n - (intOf i).toNat)
  case atStart => exact ⟨0, Nat.zero_le _, rfl, rfl, Below.refl _ _⟩
  case round =>
    obtain ⟨k, hk, rfl, hp, hb⟩ := hrel
    have Hp := Lib.hid hp
    clear hp
    by_cases hlt : k < n
    · obtain ⟨b, off, rfl, hbl, hc⟩ := (hr.below hb) (by omega)
      have hc1 := hc k hlt
      have Hcall := Lib.hid (hf k wr hlt hb)
      clear hc hr hf
      cases hq : q k with
      | true =>
        have Hfin := Lib.hid (show decide (0 ≤ (k : Int)) = anyQ q n from by rw [anyQ_of hlt hq]; simp)
        rw [hq] at Hcall
        have Hq := Lib.hid hq
        clear hq
        go_wp2_with fail
        refine Hcall.out.mono ?_
        rintro e w1 ⟨rfl, hb1⟩
        go_wp2
        go_ret
        exact ⟨_, rfl, Hfin.out, hb.trans (hb1.mono hb.size)⟩
      | false =>
        have Hno := Lib.hid (anyQ_step Hp.out hq)
        rw [hq] at Hcall
        clear hq
        go_wp2_with fail
        refine Hcall.out.mono ?_
        rintro e w1 ⟨rfl, hb1⟩
        go_wp2
        go_roundw
        case rel => exact ⟨k + 1, by omega, by go_num, Hno.out, hb.trans (hb1.mono hb.size)⟩
        case measure => simp [intOf]; omega
    · have e : k = n := by omega
      subst e
      go_wp2
      go_ret
      exact ⟨-1, rfl, by rw [Hp.out]; rfl, hb⟩

set_option maxRecDepth 100000 in
set_option maxHeartbeats 800000 in
theorem containsDj_any (A : Option Addr) (n cap : Nat) (v : Nat → Int) (q : Nat → Bool)  (w : World) (hn : n ≤ 1048576) (hr : RdI w w.heap.size A n v)
    (hf : ∀ (k : Nat) (X : World), k < n → Below w.heap.size w X → Calls Try.prog 128 #[.int .i64 (v k)] X fun e X' => e = .returned (.bool (q k)) ∧ Below X.heap.size X X') :
    Calls Try.prog 127 #[.slice A n cap, .func (.func 128) #[] #[]] w fun e w' => e = .returned (.bool (anyQ q n)) ∧ Below w.heap.size w w' := by
  have Hc := Lib.hid (indexDj_any A n cap v q  w hn hr hf)
  clear hf
  go_enter Try.func127, Try.ntmps127
  go_wp2_with fail
  refine Hc.out.mono ?_
  rintro e w1 ⟨m, rfl, hm, hb⟩
  have Hm := Lib.hid hm
  clear hm
  go_wp2
  go_ret
  exact ⟨ret_bool Hm.out, hb⟩

set_option maxHeartbeats 800000 in
theorem djNot_any (n : Int) (w : World) :
    Calls Try.prog 128 #[.int .i64 n] w fun e w' => e = .returned (.bool (!litB n)) ∧ Below w.heap.size w w' := by
  have HL := Lib.hid (litValid_any n)
  go_enter Try.func128, Try.ntmps128
  go_wp2_with (go_at_call 77; refine (HL.out _).mono ?_; rintro e w' ⟨rfl, rfl⟩)
  go_ret
  exact ⟨rfl, by repeat (first | exact Below.refl _ _ | refine bl_alloc ?_ _ | refine Below.drew ?_)⟩

/-- Whether a row of literals is ready. -/
def djR (n : Nat) (lt : Nat → Int) : Bool := decide (n ≤ 40) && !anyQ (fun k => !litB (lt k)) n
theorem djR_iff {n : Nat} {lt : Nat → Int} : djR n lt = true ↔ n ≤ 40 ∧ ∀ i, i < n → litB (lt i) = true := by
  have key : ∀ m, anyQ (fun k => !litB (lt k)) m = false ↔ ∀ i, i < m → litB (lt i) = true := fun m => by
    induction m with
    | zero => exact ⟨fun _ i hi => absurd hi (by omega), fun _ => rfl⟩
    | succ m ih =>
      unfold anyQ
      rw [Bool.or_eq_false_iff, ih]
      constructor
      · rintro ⟨h1, h2⟩ i hi
        by_cases e : i = m
        · subst e; simpa using h2
        · exact h1 i (by omega)
      · exact fun h => ⟨fun i hi => h i (by omega), by simpa using h m (by omega)⟩
  unfold djR
  rw [Bool.and_eq_true, decide_eq_true_eq, Bool.not_eq_true', key]

set_option maxHeartbeats 1600000 in
theorem djReady_any (A : Option Addr) (n cap : Nat) (lt : Nat → Int) (w : World) (hn : n ≤ 1048576) (hr : RdI w w.heap.size A n lt) :
    Calls Try.prog 121 #[.slice A n cap] w fun e w' => e = .returned (.bool (djR n lt)) ∧ Below w.heap.size w w' := by
  have HC := Lib.hid (fun (W : World) (hb : Below w.heap.size w W) => containsDj_any A n cap lt (fun k => !litB (lt k)) W hn (hr.later hb) (fun k X _ _ => djNot_any (lt k) X))
  clear hr
  by_cases h : n ≤ 40
  · have hi : (n : Int) ≤ 40 := by omega
    have HR := Lib.hid (show djR n lt = !anyQ (fun k => !litB (lt k)) n from by simp [djR, h])
    clear h
    go_enter Try.func121, Try.ntmps121
    go_wp2_with fail
    refine (HC.out _ (by repeat (first | exact Below.refl _ _ | refine bl_alloc ?_ _ | refine Below.drew ?_))).mono ?_
    rintro e w1 ⟨rfl, hb⟩
    have HB := Lib.hid hb
    clear hb
    go_wp2
    go_ret
    exact ⟨ret_bool HR.out.symm, bl_trans (by repeat (first | exact Below.refl _ _ | refine bl_alloc ?_ _ | refine Below.drew ?_)) HB.out⟩
  · have hi : ¬ (n : Int) ≤ 40 := by omega
    have HR := Lib.hid (show djR n lt = false from by simp [djR, h])
    clear h
    go_enter Try.func121, Try.ntmps121
    go_wp2
    go_ret
    exact ⟨ret_bool HR.out.symm, by repeat (first | exact Below.refl _ _ | refine bl_alloc ?_ _ | refine Below.drew ?_)⟩
end Go.Proofs.Ytjfcgehmeecnfaa
