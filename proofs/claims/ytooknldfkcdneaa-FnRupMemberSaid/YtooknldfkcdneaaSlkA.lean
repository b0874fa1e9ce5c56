/- Contracts of the model's SlackOf (no claim of its own). Conditions: as each theorem states. -/
import Derived.Test.YtooknldfkcdneaaParB
namespace Go.Proofs.Ytooknldfkcdneaa
open Go.ChangeShapes Go.WideShapes Go.ChangeAt Go.RowKit Go.Shelf

set_option maxHeartbeats 800000 in
theorem l3State_any (A : Option Addr) (cap : Nat) (v : Nat → Int) (n : Int) (w : World) (hl : litB n = true) (hr : RdI w w.heap.size A 12 v) (hv : ∀ i, i < 12 → -1 ≤ v i ∧ v i ≤ 1) :
    Calls Try.prog 90 #[.slice A 12 cap, .int .i64 n] w fun e w' => e = .returned (.int .i64 (stV v n)) ∧ w = w' := by
  obtain ⟨h0, h1, h2⟩ := litB_iff.1 hl
  obtain ⟨b, off, rfl, _, hc⟩ := hr (by omega)
  by_cases hp : 0 < n
  · obtain ⟨i, hi, rfl⟩ : ∃ i : Nat, i < 12 ∧ n = (i : Int) + 1 := ⟨(n - 1).toNat, by omega, by omega⟩
    have hci := hc i hi
    have hfin : stV v ((i : Int) + 1) = v i := by
      unfold stV
      rw [if_pos hp]
      congr 1
      omega
    have Hfin := Lib.hid hfin
    clear hc hfin h0 hl hv
    go_enter Try.func90, Try.ntmps90
    go_wp2
    go_ret
    exact ⟨ret_int Hfin.out.symm, rfl⟩
  · obtain ⟨i, hi, rfl⟩ : ∃ i : Nat, i < 12 ∧ n = -((i : Int) + 1) := ⟨(-n - 1).toNat, by omega, by omega⟩
    have hci := hc i hi
    obtain ⟨hv0, hv1⟩ := hv i hi
    have hfin : stV v (-((i : Int) + 1)) = -(v i) := by
      unfold stV
      rw [if_neg hp]
      congr 2
      omega
    have Hfin := Lib.hid hfin
    have hw1 : IntKind.i64.wrap (- -((i : Int) + 1)) = (i : Int) + 1 := by rw [IntWalk.i64_in _ (by omega)]; omega
    clear hc hfin h0 hl hv
    go_enter Try.func90, Try.ntmps90
    go_wp2
    go_ret
    exact ⟨ret_int (by rw [Hfin.out]), rfl⟩

theorem litAt' {n : Nat} {c l : Nat → Int} {bd : Int} (h : validB n c l bd = true) {k : Nat} (hk : k < n) : litB (l k) = true := litAt h hk

set_option maxRecDepth 100000 in
set_option maxHeartbeats 1000000 in
theorem l3Slack_any (A Av : Option Addr) (n cap capv : Nat) (bd : Int) (c l : Nat → Int) (v : Nat → Int) (w : World) (hn : n ≤ 1048576) (hr : Rd w w.heap.size A n c l) (hrv : RdI w w.heap.size Av 12 v) (hval : validB n c l bd = true) (hv : ∀ i, i < 12 → -1 ≤ v i ∧ v i ≤ 1) :
    Calls Try.prog 68 #[.agg #[.slice A n cap, .int .i64 bd], .slice Av 12 capv] w fun e w' => e = .returned (.int .i64 (slk n c l bd v)) ∧ Below w.heap.size w w' := by
  have hbd := bound_of hval
  have Hval := Lib.hid hval
  have HV := Lib.hid hv
  clear hval hv
  go_enter Try.func68, Try.ntmps68
  go_wp2
  go_loopw [5, 6] (fun t i wr => ∃ k : Nat, k ≤ n ∧ i = .int .i64 k ∧ t = .int .i64 (sB c l (nfP v) k - bd) ∧ wr.cell? ⟨w.heap.size, 0, none⟩ = some (.slice A n cap) ∧ wr.cell? ⟨w.heap.size, 1, none⟩ = some (.int .i64 bd) ∧ Below w.heap.size w wr) (fun _ i _ => n - (intOf i).toNat)
  case atStart => exact ⟨0, Nat.zero_le _, rfl, by congr 1; simp [sB], by go_simp, by go_simp, bl_alloc (Below.refl _ _) _⟩
  case round =>
    obtain ⟨k, hk, rfl, rfl, hx0, hx1, hb⟩ := hrel
    have hsb := sB_le (l := l) (P := nfP v) (k := k) (fun i hi => coef_of Hval.out i (by omega))
    by_cases hlt : k < n
    · have hL := Lib.hid (litAt Hval.out hlt)
      have hco := coef_of Hval.out k hlt
      have hrv' := Lib.hid (hrv.later hb)
      obtain ⟨b, off, rfl, hbl, hc⟩ := (hr.below hb) (by omega)
      obtain ⟨hc1, hc2⟩ := hc k hlt
      clear hc hr hrv
      by_cases hp : 0 ≤ stV v (l k)
      · have hs : sB c l (nfP v) k - bd + c k = sB c l (nfP v) (k + 1) - bd := by
          rw [sB_yes (show nfP v (l k) = true from decide_eq_true hp)]
          omega
        have Hs := Lib.hid hs
        clear hs
        go_wp2_with fail
        refine (l3State_any _ _ v _ _ hL.out hrv'.out HV.out).mono ?_
        rintro e w' ⟨rfl, rfl⟩
        go_wp2
        go_roundw
        case rel => exact ⟨k + 1, by omega, by go_num, by rw [Hs.out], hx0, hx1, hb⟩
        case measure => simp [intOf]; omega
      · have hs : sB c l (nfP v) k - bd = sB c l (nfP v) (k + 1) - bd := by
          rw [sB_no (show nfP v (l k) = false from decide_eq_false hp)]
        have Hs := Lib.hid hs
        clear hs
        go_wp2_with fail
        refine (l3State_any _ _ v _ _ hL.out hrv'.out HV.out).mono ?_
        rintro e w' ⟨rfl, rfl⟩
        go_wp2
        go_roundw
        case rel => exact ⟨k + 1, by omega, by go_num, by rw [Hs.out], hx0, hx1, hb⟩
        case measure => simp [intOf]; omega
    · have e : k = n := by omega
      subst e
      clear hr hrv
      go_wp2
      go_ret
      exact ⟨rfl, hb⟩

/-- What a function that answers an int and a Boolean leaves. -/
def IRes (w : World) (x : Int) (ok : Bool) (e : Ending) (w' : World) : Prop := e = .returned (.tuple #[.int .i64 x, .bool ok]) ∧ Below w.heap.size w w'
theorem slk_inv {n : Nat} {c l : Nat → Int} {bd : Int} {nv : Nat} {v : Nat → Int} (h : slkOk n c l bd nv v = false) : slkV n c l bd nv v = 0 := by unfold slkV; rw [h]; rfl
theorem slk_yes {n : Nat} {c l : Nat → Int} {bd : Int} {nv : Nat} {v : Nat → Int} (h : slkOk n c l bd nv v = true) : slkV n c l bd nv v = slk n c l bd v := by unfold slkV; rw [h]; rfl

end Go.Proofs.Ytooknldfkcdneaa
