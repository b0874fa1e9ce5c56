/- Contracts of the reference's fixing of a constraint (no claim of its own). Conditions: as each theorem states. -/
import Derived.Test.YtbebdhjhlheboaaFixM
import Derived.Test.YtbebdhjhlheboaaSlkA
import Derived.Test.YtbebdhjhlheboaaOutC
import Derived.StillTailTactics
namespace Go.Proofs.Ytbebdhjhlheboaa
open Go.ChangeShapes Go.WideShapes Go.ChangeAt Go.RowKit

/-- What the fixing of a constraint leaves. -/
def FxRes (w : World) (v : Nat → Int) (x : Con) (e : Ending) (w' : World) : Prop :=
  ∃ A cap, e = .returned (.agg #[.slice A (fxCon v x).n cap, .int .i64 (fxCon v x).bd]) ∧ Frs w' w.heap.size A (fxCon v x).n (fxCon v x).c (fxCon v x).l ∧ Below w.heap.size w w'

set_option maxRecDepth 100000 in
set_option maxHeartbeats 3200000 in
theorem l13Fix_any (A Av : Option Addr) (n cap capv : Nat) (bd : Int) (c l : Nat → Int) (v : Nat → Int) (w : World) (hn : n ≤ 1048576) (hr : Rd w w.heap.size A n c l) (hrv : RdI w w.heap.size Av 12 v) (hval : validB n c l bd = true) (hv : ∀ i, i < 12 → -1 ≤ v i ∧ v i ≤ 1) :
    Calls Try.prog 45 #[.agg #[.slice A n cap, .int .i64 bd], .slice Av 12 capv] w (FxRes w v ⟨n, bd, c, l⟩) := by
  have hbd := vb_bd hval
  have Hval := Lib.hid hval
  have HV := Lib.hid hv
  clear hval hv
  have hfx0 : fxS c l bd v 0 = bd := rfl
  go_enter Try.func45, Try.ntmps45
  go_wp2
  go_loopw [6] (fun i wr => ∃ k : Nat, k ≤ n ∧ i = .int .i64 k ∧ Out w (w.heap.size + 1 + 1) ((w.heap.size + 1 + 1, 1, .int .i64 (fxS c l bd v k)) :: [(w.heap.size, 0, .slice A n cap), (w.heap.size + 1, 0, .slice none 0 0), (w.heap.size + 1, 1, .int .i64 0)]) (pkC (fxR c l v n)) (pkL (fxR c l v n)) (fxR c l v k).length wr) (fun i _ => n - (intOf i).toNat)
  case atStart =>
    refine ⟨0, Nat.zero_le _, rfl, .slice none 0 0, ⟨by go_simp, by go_simp⟩, World.ownsRow_nil _ _ _ _, fun x hx => ?_, by repeat (first | exact Below.refl _ _ | refine bl_alloc ?_ _ | refine Below.drew ?_), by omega⟩
    rw [hfx0] at hx
    simp only [List.mem_cons, List.not_mem_nil, or_false] at hx
    rcases hx with rfl | rfl | rfl | rfl
    all_goals exact ⟨by first | (simp; done) | (simp; omega), by go_simp, by go_simp⟩
  case round =>
    obtain ⟨k, hk, rfl, ov, old⟩ := hrel
    have b00 := (old.at_ (j := w.heap.size) (o := 0) (v := .slice A n cap) (by simp)).1
    obtain ⟨r0, f0⟩ := old.at_ (j := w.heap.size + 1) (o := 0) (v := .slice none 0 0) (by simp)
    obtain ⟨r1, f1⟩ := old.at_ (j := w.heap.size + 1) (o := 1) (v := .int .i64 0) (by simp)
    obtain ⟨o1, g1⟩ := old.at_ (j := w.heap.size + 1 + 1) (o := 1) (v := .int .i64 (fxS c l bd v k)) (by simp)
    obtain ⟨o0, g0⟩ := old.o0
    have Old := Lib.hid old
    have hbw := old.bel
    have hz : w.heap.size + 1 + 1 < wr.heap.size := World.block_lt_of_cell? wr _ o0
    have hrg := fxS_le (c := c) (l := l) (v := v) (bd := bd) (n := k) (fun i hi => vb_coef Hval.out i (by omega))
    clear old hfx0
    by_cases hlt : k < n
    · have hco := vb_coef Hval.out k hlt
      have hL := Lib.hid (litAt Hval.out hlt)
      have hst := stV_bd hL.out HV.out
      have HRV := Lib.hid (hrv.later hbw)
      obtain ⟨b, off, rfl, hbl, hc⟩ := (hr.below hbw) (by omega)
      obtain ⟨hc1, hc2⟩ := hc k hlt
      have hzb : b < wr.heap.size := Nat.lt_of_lt_of_le hbl hbw.size
      have hkI : (k : Int) < (n : Int) := by omega
      have hkJ : (0 : Int) ≤ (k : Int) := by omega
      have hq1 : w.heap.size + 1 < wr.heap.size := by omega
      have hq0 : w.heap.size < wr.heap.size := by omega
      clear hc hr hbw hrv
      by_cases he : stV v (l k) = 0
      · have hkp := Lib.hid (fxR_yes (c := c) (l := l) (v := v) (k := k) he)
        have hwk := Lib.hid (fxS_no (c := c) (l := l) (v := v) (bd := bd) (k := k) (by omega))
        obtain ⟨hX, hY⟩ := pk_at (c := c) (l := l) (q := fxQ l v) hlt (decide_eq_true he)
        have HX := Lib.hid (show pkC (fxR c l v n) (fxR c l v k).length = c k from hX)
        have HY := Lib.hid (show pkL (fxR c l v n) (fxR c l v k).length = l k from hY)
        have hkl : (fxR c l v k).length ≤ 1048576 := by have := fxR_le (c := c) (l := l) (v := v) k; omega
        have hcall := fun W (hW : W = wr) => l3State_any Av capv v (l k) W hL.out (by rw [hW]; exact HRV.out) HV.out
        rw [he] at hcall
        have Hcall := Lib.hid hcall
        clear hX hY hrg hst he hcall
        go_wp2_with fail
        refine (Hcall.out _ rfl).mono ?_
        rintro e w' ⟨rfl, hw⟩
        subst hw
        go_upto_region 7 with fail
        go_region_law (refine step_appG (by rfl) _ _ (by rfl) Old.out (by repeat (first | exact Below.refl _ _ | refine bl_alloc ?_ _ | refine Below.drew ?_)) (by rfl) (by rfl) (alloc_eq (by first | assumption | rfl | simp)) HX.out HY.out hkl ?_; intro gg cap1 w3 t0 u0 hout)
        all_goals
          go_wp2
          go_roundw
          case rel => exact ⟨k + 1, by omega, by go_num, by rw [hkp.out, hwk.out, List.length_append]; exact hout⟩
          case measure => simp [intOf]; omega
      · have hkp := Lib.hid (fxR_no (c := c) (l := l) (v := v) (k := k) he)
        by_cases he1 : stV v (l k) = 1
        · have hwk := Lib.hid (fxS_yes (c := c) (l := l) (v := v) (bd := bd) (k := k) he1)
          have hw64 : IntKind.i64.wrap (fxS c l bd v k - c k) = fxS c l bd v k - c k := IntWalk.i64_in _ (by omega)
          have low3 : ∀ x ∈ [(w.heap.size, 0, Value.slice (some ⟨b, off, none⟩) n cap), (w.heap.size + 1, 0, .slice none 0 0), (w.heap.size + 1, 1, .int .i64 0)], x.1 < w.heap.size + 1 + 1 := by
            intro x hx
            simp only [List.mem_cons, List.not_mem_nil, or_false] at hx
            rcases hx with rfl | rfl | rfl
            all_goals (dsimp only; omega)
          have hcall := fun W (hW : W = wr) => l3State_any Av capv v (l k) W hL.out (by rw [hW]; exact HRV.out) HV.out
          rw [he1] at hcall
          have Hcall := Lib.hid hcall
          clear hrg hst he he1 hcall
          go_wp2_with fail
          refine (Hcall.out _ rfl).mono ?_
          rintro e w' ⟨rfl, hw⟩
          subst hw
          go_upto_region 9 with fail
          go_still_tail 10, (by kernel_rfl)
          change wpList _ _ _ _ _ wr.drew
          go_wp2
          go_roundw
          case rel =>
            refine ⟨k + 1, by omega, by go_num, ?_⟩
            rw [hwk.out, hkp.out]
            exact ⟨_, (Old.out.setB low3).below ((Below.refl _ _).drew)⟩
          case measure => simp [intOf]; omega
        · have hwk := Lib.hid (fxS_no (c := c) (l := l) (v := v) (bd := bd) (k := k) he1)
          have h2 : stV v (l k) = -1 := by omega
          have hcall := fun W (hW : W = wr) => l3State_any Av capv v (l k) W hL.out (by rw [hW]; exact HRV.out) HV.out
          rw [h2] at hcall
          have Hcall := Lib.hid hcall
          clear hrg hst he he1 hcall h2
          go_wp2_with fail
          refine (Hcall.out _ rfl).mono ?_
          rintro e w' ⟨rfl, hw⟩
          subst hw
          go_wp2
          go_roundw
          case rel => exact ⟨k + 1, by omega, by go_num, by rw [hwk.out, hkp.out]; exact ⟨_, Old.out⟩⟩
          case measure => simp [intOf]; omega
    · have e : k = n := by omega
      subst e
      obtain ⟨A', cap', rfl, hF⟩ := Old.out.frs
      have HF := Lib.hid hF
      have HB := Lib.hid hbw
      have hq1 : w.heap.size + 1 < wr.heap.size := by omega
      clear hF hbw hr hrg hrv
      by_cases hneg : fxS c l bd v k < 0
      · have hcp := Lib.hid (show fxP (fxS c l bd v k) = 0 from if_pos hneg)
        go_wp2
        refine bodyPost_ret (v := .agg #[.slice A' (fxR c l v k).length cap', .int .i64 0]) (by simp [results, Try.results45, go_sem, r0, r1]) rfl ?_
        refine ⟨A', cap', by show _ = Ending.returned (.agg #[.slice A' (fxR c l v k).length cap', .int .i64 (fxP (fxS c l bd v k))]); rw [hcp.out], ?_, ?_⟩
        · exact (((HF.out.far (by simp) (by simp) _).far (by simp) (by first | (simp; done) | (simp; omega)) _).far (by simp) (by first | (simp; done) | (simp; omega)) _).more (by omega)
        · exact ((HB.out.setCell (by first | (simp; done) | (simp; omega)) _).setCell (by simp) _).setCell (by simp) _
      · have hcp := Lib.hid (show fxP (fxS c l bd v k) = fxS c l bd v k from if_neg hneg)
        go_wp2
        refine bodyPost_ret (v := .agg #[.slice A' (fxR c l v k).length cap', .int .i64 (fxS c l bd v k)]) (by simp [results, Try.results45, go_sem, r0, r1]) rfl ?_
        refine ⟨A', cap', by show _ = Ending.returned (.agg #[.slice A' (fxR c l v k).length cap', .int .i64 (fxP (fxS c l bd v k))]); rw [hcp.out], ?_, ?_⟩
        · exact ((HF.out.far (by simp) (by first | (simp; done) | (simp; omega)) _).far (by simp) (by first | (simp; done) | (simp; omega)) _).more (by omega)
        · exact (HB.out.setCell (by simp) _).setCell (by simp) _
end Go.Proofs.Ytbebdhjhlheboaa
