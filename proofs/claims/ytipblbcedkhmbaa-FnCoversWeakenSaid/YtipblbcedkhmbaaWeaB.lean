/- Contracts of the model's WeakenConstraint (no claim of its own). Conditions: as each theorem states. -/
import Derived.Test.YtipblbcedkhmbaaWeaA
import Derived.Test.YtipblbcedkhmbaaOutC
import Derived.StillTailTactics
namespace Go.Proofs.Ytipblbcedkhmbaa
open Go.ChangeShapes Go.WideShapes Go.ChangeAt Go.RowKit

set_option maxRecDepth 100000 in
set_option maxHeartbeats 1600000 in
theorem specWeaken_inv (A : Option Addr) (n cap : Nat) (bd kk : Int) (c l f f' : Nat → Int) (w : World) (hn : n ≤ 1048576) (hr : Rd w w.heap.size A n c l) (hR : weaR n c l bd kk = false) :
    Calls Try.prog 48 #[.agg #[.slice A n cap, .int .i64 bd], .int .i64 kk] w (CRes w 0 f f' 0 false) := by
  cases hv : validB n c l bd with
  | false =>
    have Hv := Lib.hid hv
    clear hv hR
    go_enter Try.func48, Try.ntmps48
    go_wp2_with fail
    refine (specValid_any _ _ _ _ c l _ hn (hr.later (bl_alloc (bl_alloc (Below.refl _ _) _) _))).mono ?_
    rintro e w1 ⟨rfl, hb⟩
    have HB1 := Lib.hid (bl_trans (bl_alloc (bl_alloc (Below.refl w.heap.size w) _) _) hb)
    have r0 : w1.cell? ⟨w.heap.size + 1, 0, none⟩ = some (.slice none 0 0) := kc hb (by go_simp)
    have r1 : w1.cell? ⟨w.heap.size + 1, 1, none⟩ = some (.int .i64 0) := kc hb (by go_simp)
    have f0 : w1.frozen? ⟨w.heap.size + 1, 0, none⟩ = false := kf hb (by simp) (by go_simp)
    have f1 : w1.frozen? ⟨w.heap.size + 1, 1, none⟩ = false := kf hb (by simp) (by go_simp)
    clear hb
    rw [Hv.out]
    go_wp2
    refine bodyPost_ret (v := .tuple #[.agg #[.slice none 0 0, .int .i64 0], .bool false]) (by simp [results, Try.results48, go_sem, r0, r1]) rfl ?_
    exact ⟨none, 0, rfl, .inl rfl, (HB1.out.setCell (by simp) _).setCell (by simp) _⟩
  | true =>
    have hk : kk < 1 ∨ 12 < kk := by
      unfold weaR at hR
      rw [hv] at hR
      simp at hR
      omega
    have Hv := Lib.hid hv
    clear hv hR
    rcases hk with hk | hk
    all_goals
      go_enter Try.func48, Try.ntmps48
      go_wp2_with fail
      refine (specValid_any _ _ _ _ c l _ hn (hr.later (bl_alloc (bl_alloc (Below.refl _ _) _) _))).mono ?_
      rintro e w1 ⟨rfl, hb⟩
      have HB1 := Lib.hid (bl_trans (bl_alloc (bl_alloc (Below.refl w.heap.size w) _) _) hb)
      have r0 : w1.cell? ⟨w.heap.size + 1, 0, none⟩ = some (.slice none 0 0) := kc hb (by go_simp)
      have r1 : w1.cell? ⟨w.heap.size + 1, 1, none⟩ = some (.int .i64 0) := kc hb (by go_simp)
      have f0 : w1.frozen? ⟨w.heap.size + 1, 0, none⟩ = false := kf hb (by simp) (by go_simp)
      have f1 : w1.frozen? ⟨w.heap.size + 1, 1, none⟩ = false := kf hb (by simp) (by go_simp)
      clear hb
      rw [Hv.out]
      go_wp2
      refine bodyPost_ret (v := .tuple #[.agg #[.slice none 0 0, .int .i64 0], .bool false]) (by simp [results, Try.results48, go_sem, r0, r1]) rfl ?_
      exact ⟨none, 0, rfl, .inl rfl, (HB1.out.setCell (by simp) _).setCell (by simp) _⟩


set_option maxRecDepth 100000 in
set_option maxHeartbeats 3200000 in
theorem specWeaken_val (A : Option Addr) (n cap : Nat) (bd kk : Int) (c l : Nat → Int) (w : World) (hn : n ≤ 1048576) (hr : Rd w w.heap.size A n c l) (hv : validB n c l bd = true) (hk1 : 1 ≤ kk) (hk2 : kk ≤ 12) :
    Calls Try.prog 48 #[.agg #[.slice A n cap, .int .i64 bd], .int .i64 kk] w (CRes w (kept c l kk n).length (rC (kept c l kk n)) (rL (kept c l kk n)) (capB (wkB c l bd kk n)) true) := by
  have Hv := Lib.hid hv
  have hbd := valid_bd hv
  clear hv
  go_enter Try.func48, Try.ntmps48
  go_wp2_with fail
  refine (specValid_any _ _ _ _ c l _ hn (hr.later (bl_alloc (bl_alloc (Below.refl _ _) _) _))).mono ?_
  rintro e w1 ⟨rfl, hb⟩
  have HB1 := Lib.hid (bl_trans (bl_alloc (bl_alloc (Below.refl w.heap.size w) _) _) hb)
  have c00 : Cel w1 w.heap.size 0 (.slice A n cap) := ⟨kc hb (by go_simp), kf hb (by first | (simp; done) | (simp; omega)) (by go_simp)⟩
  have a1 : w1.cell? ⟨w.heap.size, 1, none⟩ = some (.int .i64 bd) := kc hb (by go_simp)
  have c10 : Cel w1 (w.heap.size + 1) 0 (.slice none 0 0) := ⟨kc hb (by go_simp), kf hb (by first | (simp; done) | (simp; omega)) (by go_simp)⟩
  have c11 : Cel w1 (w.heap.size + 1) 1 (.int .i64 0) := ⟨kc hb (by go_simp), kf hb (by first | (simp; done) | (simp; omega)) (by go_simp)⟩
  have C00 := Lib.hid c00
  have C10 := Lib.hid c10
  have C11 := Lib.hid c11
  have a0 := c00.1
  have q1 : w.heap.size + 1 < w1.heap.size := World.block_lt_of_cell? w1 _ c10.1
  have q0 : w.heap.size < w1.heap.size := by omega
  clear hb c00 c10 c11
  rw [Hv.out]
  go_wp2
  go_loopw [7] (fun i wr => ∃ k : Nat, k ≤ n ∧ i = .int .i64 k ∧ Out w w1.heap.size ((w1.heap.size, 1, .int .i64 (wkB c l bd kk k)) :: [(w.heap.size, 0, .slice A n cap), (w.heap.size + 1, 0, .slice none 0 0), (w.heap.size + 1, 1, .int .i64 0)]) (rC (kept c l kk n)) (rL (kept c l kk n)) (kept c l kk k).length wr) (fun i _ => n - (intOf i).toNat)
  case atStart =>
    have hal := bl_alloc (Below.refl w1.heap.size w1) (.cells #[.slice none 0 0, .int .i64 bd] 27)
    refine ⟨0, Nat.zero_le _, rfl, .slice none 0 0, ⟨by go_simp, by go_simp⟩, World.ownsRow_nil _ _ _ _, fun x hx => ?_, bl_trans HB1.out hal, by omega⟩
    simp only [List.mem_cons, List.not_mem_nil, or_false] at hx
    rcases hx with rfl | rfl | rfl | rfl
    · exact ⟨.inr ⟨rfl, by simp⟩, by unfold wkB; constructor <;> go_simp⟩
    · exact ⟨.inl (by show w.heap.size < _; omega), C00.out.below hal⟩
    · exact ⟨.inl (by show w.heap.size + 1 < _; omega), C10.out.below hal⟩
    · exact ⟨.inl (by show w.heap.size + 1 < _; omega), C11.out.below hal⟩
  case round =>
    obtain ⟨k, hk, rfl, ov, old⟩ := hrel
    have b00 := (old.at_ (j := w.heap.size) (o := 0) (v := .slice A n cap) (by simp)).1
    obtain ⟨r0, f0⟩ := old.at_ (j := w.heap.size + 1) (o := 0) (v := .slice none 0 0) (by simp)
    obtain ⟨r1, f1⟩ := old.at_ (j := w.heap.size + 1) (o := 1) (v := .int .i64 0) (by simp)
    obtain ⟨o1, g1⟩ := old.at_ (j := w1.heap.size) (o := 1) (v := .int .i64 (wkB c l bd kk k)) (by simp)
    obtain ⟨o0, g0⟩ := old.o0
    have Old := Lib.hid old
    have hbw := old.bel
    have hz : w1.heap.size < wr.heap.size := World.block_lt_of_cell? wr _ o0
    have hrg := wkB_le (c := c) (l := l) (v := kk) (bd := bd) (n := k) (fun i hi => valid_coef Hv.out (by omega))
    clear old a0 a1
    by_cases hlt : k < n
    · have hco := valid_coef Hv.out hlt
      have hL := litAt Hv.out hlt
      obtain ⟨_, hl1, hl2⟩ := litB_iff.1 hL
      obtain ⟨b, off, rfl, hbl, hc⟩ := (hr.below hbw) (by omega)
      obtain ⟨hc1, hc2⟩ := hc k hlt
      have hzb : b < wr.heap.size := Nat.lt_of_lt_of_le hbl hbw.size
      have hkI : (k : Int) < (n : Int) := by omega
      have hkJ : (0 : Int) ≤ (k : Int) := by omega
      have hq1 : w.heap.size + 1 < wr.heap.size := by omega
      have hq0 : w.heap.size < wr.heap.size := by omega
      clear hc hr hbw hL
      by_cases he : ab (l k) = kk
      · have hkp := Lib.hid (kept_no (c := c) (l := l) (v := kk) he)
        have hwk := Lib.hid (wkB_yes (c := c) (l := l) (v := kk) (bd := bd) he)
        have hw64 : IntKind.i64.wrap (wkB c l bd kk k - c k) = wkB c l bd kk k - c k := IntWalk.i64_in _ (by omega)
        have low3 : ∀ x ∈ [(w.heap.size, 0, Value.slice (some ⟨b, off, none⟩) n cap), (w.heap.size + 1, 0, .slice none 0 0), (w.heap.size + 1, 1, .int .i64 0)], x.1 < w1.heap.size := by
          intro x hx
          simp only [List.mem_cons, List.not_mem_nil, or_false] at hx
          rcases hx with rfl | rfl | rfl
          all_goals (dsimp only; omega)
        have heq : (ab (l k) == kk) = true := by simp [he]
        clear hrg
        go_upto_region 8 with (go_at_call 72; refine (l1Abs_any _ _ (by omega) (by omega)).mono ?_; rintro e w' ⟨rfl, hw⟩; replace hw := hw.symm; subst hw)
        go_still_tail 10, (by kernel_rfl)
        change wpList _ _ _ _ _ wr.drew
        go_wp2
        go_roundw
        case rel =>
          refine ⟨k + 1, by omega, by go_num, ?_⟩
          rw [hwk.out, hkp.out]
          exact ⟨_, (Old.out.setB low3).below ((Below.refl _ _).drew)⟩
        case measure => simp [intOf]; omega
      · have hkp := Lib.hid (kept_yes (c := c) (l := l) (v := kk) he)
        have hwk := Lib.hid (wkB_no (c := c) (l := l) (v := kk) (bd := bd) he)
        obtain ⟨hX, hY⟩ := kept_at (c := c) (l := l) (v := kk) hlt he
        have HX := Lib.hid hX
        have HY := Lib.hid hY
        have hkl : (kept c l kk k).length ≤ 1048576 := by have := kept_le (c := c) (l := l) (v := kk) k; omega
        have heq : (ab (l k) == kk) = false := by simp [he]
        clear hX hY hrg
        go_upto_region 9 with (go_at_call 72; refine (l1Abs_any _ _ (by omega) (by omega)).mono ?_; rintro e w' ⟨rfl, hw⟩; replace hw := hw.symm; subst hw)
        go_region_law (refine step_appG (by rfl) _ _ (by rfl) Old.out (by repeat (first | exact Below.refl _ _ | refine bl_alloc ?_ _ | refine Below.drew ?_)) (by rfl) (by rfl) (alloc_eq (by first | assumption | rfl | simp)) HX.out HY.out hkl ?_; intro gg cap1 w3 t0 u0 hout)
        all_goals
          go_wp2
          go_roundw
          case rel => exact ⟨k + 1, by omega, by go_num, by rw [hkp.out, hwk.out, List.length_append]; exact hout⟩
          case measure => simp [intOf]; omega
    · have e : k = n := by omega
      subst e
      obtain ⟨A', cap', rfl, hF⟩ := Old.out.frs
      have hF1 := hF.more (B' := w.heap.size + 1 + 1) (by omega)
      have HF := Lib.hid hF1
      have HF0 := Lib.hid hF
      have HB := Lib.hid hbw
      clear hF hF1 hbw hr hrg
      by_cases hneg : wkB c l bd kk k < 0
      · have hcp := Lib.hid (show capB (wkB c l bd kk k) = 0 from if_pos hneg)
        go_wp2
        refine bodyPost_ret (v := .tuple #[.agg #[.slice A' (kept c l kk k).length cap', .int .i64 0], .bool true]) (by simp [results, Try.results48, go_sem, r0, r1]) rfl ?_
        rw [hcp.out]
        exact ⟨A', cap', rfl, (((HF0.out.far' (by simp) (by simp) _).far' (by simp) (by simp; omega) _).far' (by simp) (by simp; omega) _).more (by omega), ((HB.out.setCell (by simp; omega) _).setCell (by simp) _).setCell (by simp) _⟩
      · have hcp := Lib.hid (show capB (wkB c l bd kk k) = wkB c l bd kk k from if_neg hneg)
        go_wp2
        refine bodyPost_ret (v := .tuple #[.agg #[.slice A' (kept c l kk k).length cap', .int .i64 (wkB c l bd kk k)], .bool true]) (by simp [results, Try.results48, go_sem, r0, r1]) rfl ?_
        rw [hcp.out]
        exact ⟨A', cap', rfl, ((HF.out.far' (by simp) (by simp) _).far' (by simp) (by simp) _).more (by omega), (HB.out.setCell (by simp) _).setCell (by simp) _⟩

theorem specWeaken_any (A : Option Addr) (n cap : Nat) (bd kk : Int) (c l : Nat → Int) (w : World) (hn : n ≤ 1048576) (hr : Rd w w.heap.size A n c l) :
    Calls Try.prog 48 #[.agg #[.slice A n cap, .int .i64 bd], .int .i64 kk] w (CRes w (infN (weaR n c l bd kk) (kept c l kk n).length (rC (kept c l kk n)) (rL (kept c l kk n)) (capB (wkB c l bd kk n))) (rC (kept c l kk n)) (rL (kept c l kk n)) (infD (weaR n c l bd kk) (kept c l kk n).length (rC (kept c l kk n)) (rL (kept c l kk n)) (capB (wkB c l bd kk n))) (infB (weaR n c l bd kk) (kept c l kk n).length (rC (kept c l kk n)) (rL (kept c l kk n)) (capB (wkB c l bd kk n)))) := by
  cases hR : weaR n c l bd kk with
  | false => exact specWeaken_inv A n cap bd kk c l _ _ w hn hr hR
  | true =>
    obtain ⟨hv, h1, h2⟩ := weaR_iff.1 hR
    have hok := kept_ok kk hv
    have hB : infB true (kept c l kk n).length (rC (kept c l kk n)) (rL (kept c l kk n)) (capB (wkB c l bd kk n)) = true := by unfold infB; rw [hok]; rfl
    have hN : infN true (kept c l kk n).length (rC (kept c l kk n)) (rL (kept c l kk n)) (capB (wkB c l bd kk n)) = (kept c l kk n).length := by unfold infN; rw [hB]; rfl
    have hD : infD true (kept c l kk n).length (rC (kept c l kk n)) (rL (kept c l kk n)) (capB (wkB c l bd kk n)) = capB (wkB c l bd kk n) := by unfold infD; rw [hB]; rfl
    rw [hB, hN, hD]
    exact specWeaken_val A n cap bd kk c l w hn hr hv h1 h2
end Go.Proofs.Ytipblbcedkhmbaa
