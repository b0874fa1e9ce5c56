/- Contracts of the program's SlackOf (no claim of its own). Conditions: as each theorem states. -/
import Derived.Test.YtfgmkaajcbmlmaaNotF
import Derived.Test.YtfgmkaajcbmlmaaSumQ
import Derived.Deep.RegionHeld3
import Derived.Laws.Cover3
import Derived.Deep.MidRow
namespace Go.Proofs.Ytfgmkaajcbmlmaa
open Go.ChangeShapes Go.WideShapes Go.ChangeAt Go.RowKit Go.Shelf

/-- Twelve values, as a list of cells. -/
def cl12 (v : Nat → Int) : List Value := [.int .i64 (v 0), .int .i64 (v 1), .int .i64 (v 2), .int .i64 (v 3), .int .i64 (v 4), .int .i64 (v 5), .int .i64 (v 6), .int .i64 (v 7), .int .i64 (v 8), .int .i64 (v 9), .int .i64 (v 10), .int .i64 (v 11)]
theorem cl12_at (v : Nat → Int) (j : Nat) (x : Value) (h : (cl12 v)[j]? = some x) : j < 12 ∧ x = .int .i64 (v j) := by
  have hj : j < 12 := (List.getElem?_eq_some_iff.1 h).1
  refine ⟨hj, ?_⟩
  have h2 := cells12_at v hj
  rw [show (cells12 v)[j]? = (cl12 v)[j]? from by rw [show cells12 v = (cl12 v).toArray from rfl, List.getElem?_toArray], h] at h2
  exact Option.some.inj h2
theorem range12 {w : World} {b off : Nat} {v : Nat → Int} (h : ∀ i, i < 12 → w.cell? ⟨b, off + i, none⟩ = some (.int .i64 (v i))) : w.rangeAt b off (cl12 v) := fun j x hx => by
  obtain ⟨hj, rfl⟩ := cl12_at v j x hx
  exact h j hj
theorem range_kc {W w1 : World} (hb : Below W.heap.size W w1) {b o : Nat} {cs : List Value} (h : W.rangeAt b o cs) : w1.rangeAt b o cs := fun j v hv => kc hb (h j v hv)

theorem sumNF_any (B1 : Nat) (A : Option Addr) (len cap : Nat) (c l : Nat → Int) (bd : Int) (v : Nat → Int) (hlen : len ≤ 1048576) (w : World) (hval : validB len c l bd = true) (hv : ∀ i, i < 12 → -1 ≤ v i ∧ v i ≤ 1)
    (hB1 : B1 + 1 < w.heap.size) (ht : w.cell? ⟨B1, 0, none⟩ = some (.slice A len cap)) (hc : w.cell? ⟨B1 + 1, 0, none⟩ = some (.func (.func 42) #[arrV v] #[])) (hr : Rd w w.heap.size A len c l) :
    Calls Try.prog 40 #[.func (.func 73) #[] #[.pointer (some ⟨B1, 0, none⟩), .pointer (some ⟨B1 + 1, 0, none⟩)]] w fun e W' => e = .returned (.int .i64 (sB c l (nfP v) len)) ∧ Below w.heap.size w W' := by
  have h := (callsIn_wide (n := 6)).1 (sumOfQ_in Fence.wide 6 trivial trivial rfl (by omega) B1 A len cap c l hlen 42 (arrV v) (nfP v) trivial (enters_of Try.func42 (by kernel_rfl) rfl) w
    (fun k X hk hX => callsIn_wide.2 (notFalse_any v (l k) X (litAt hval hk) hv)) hB1 ht hc hr)
  rw [sumW_sB hlen (coef_of hval)] at h
  exact h

set_option maxRecDepth 100000 in
set_option maxHeartbeats 3200000 in
theorem implSlack_val (A Av : Option Addr) (n cap capv : Nat) (bd : Int) (c l : Nat → Int) (v : Nat → Int) (w : World) (hn : n ≤ 1048576) (hr : Rd w w.heap.size A n c l) (hrv : RdI w w.heap.size Av 12 v) (hv : validB n c l bd = true) (hp : pvB 12 v = true) :
    Calls Try.prog 12 #[.agg #[.slice A n cap, .int .i64 bd], .slice Av 12 capv] w (IRes w (slk n c l bd v) true) := by
  obtain ⟨_, hvv⟩ := pvB_iff.1 hp
  have hs := sB_le (l := l) (P := nfP v) (coef_of hv)
  have hbd := bound_of hv
  have hsum : IntKind.i64.wrap (sB c l (nfP v) n - bd) = sB c l (nfP v) n - bd := IntWalk.i64_in _ (by omega)
  have Hsum := Lib.hid hsum
  have HV := Lib.hid hvv
  have Hv := Lib.hid hv
  have Hp := Lib.hid hp
  clear hv hp hvv hsum
  go_enter Try.func12, Try.ntmps12
  go_wp2_with fail
  refine (implValid_any _ _ _ _ c l _ hn (hr.later (bl_alloc (Below.refl _ _) _))).mono ?_
  rintro e w1 ⟨rfl, hb⟩
  have HB1 := Lib.hid (bl_trans (bl_alloc (Below.refl w.heap.size w) _) hb)
  have a0 : w1.cell? ⟨w.heap.size, 0, none⟩ = some (.slice A n cap) := kc hb (by go_simp)
  have a1 : w1.cell? ⟨w.heap.size, 1, none⟩ = some (.int .i64 bd) := kc hb (by go_simp)
  clear hb
  rw [Hv.out]
  go_wp2_with fail
  refine (implPartial_any _ _ _ v _ (by omega) (hrv.later HB1.out)).mono ?_
  rintro e w' ⟨rfl, hw⟩
  replace hw := hw.symm
  subst hw
  rw [Hp.out]
  obtain ⟨b, off, rfl, hbl, hc⟩ := (hrv.later HB1.out) (by omega)
  have s0 : w1.rangeAt b off (cl12 v) := range12 hc
  have hu := Try.underlying65
  have hsz12 : (Try.prog.info? 65).map (·.size) = some (cl12 v).length := by kernel_rfl
  clear hc hrv
  go_wp2_with fail
  have hsum := Hsum.out
  have hat : ∀ W, (Instr.arrayAt 65 (.slice (some ⟨b, off, none⟩) 12 capv)).run Try.prog W = .ok (.pointer (some ⟨b, off, none⟩)) W := fun W => run_arrayAt W 65 _ 12 _ 12 capv Try.underlying65 (Nat.le_refl _)
  go_region_held3 (fun w' => w'.cell? ⟨w.heap.size, 0, none⟩ = some (.slice A n cap) ∧ w'.cell? ⟨w.heap.size, 1, none⟩ = some (.int .i64 bd) ∧ w'.rangeAt b off (cl12 v)) (go_keep)
    (first
      | (go_at_call 41; refine (coefsWhereQ_any _ _ _ _ _ _).mono ?_; rintro e w2 ⟨rfl, t0, t1, hsz, hb⟩; have HB2 := Lib.hid (bl_trans HB1.out.drew hb); replace a0 := kc hb a0; replace a1 := kc hb a1; replace s0 := range_kc hb s0; clear hb)
      | (go_at_call 40; refine (sumNF_any _ _ _ _ c l bd v hn _ Hv.out HV.out hsz t0 t1 (hr.later HB2.out)).mono ?_; rintro e w3 ⟨rfl, hb⟩; have HB3 := Lib.hid (bl_trans HB2.out hb); replace a0 := kc hb a0; replace a1 := kc hb a1; replace s0 := range_kc hb s0; clear hb))
  go_wp2
  go_ret2
  exact ⟨rfl, HB3.out⟩
end Go.Proofs.Ytfgmkaajcbmlmaa
