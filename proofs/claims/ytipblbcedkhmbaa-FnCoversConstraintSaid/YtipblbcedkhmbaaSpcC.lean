/- The model's weakening and saturation, with their slices' room (no claim of its own). Conditions: as each theorem states. -/
import Derived.Test.YtipblbcedkhmbaaLicA
import Derived.Test.YtipblbcedkhmbaaWeaA
import Derived.Test.YtipblbcedkhmbaaSatA
import Derived.Test.YtipblbcedkhmbaaOutC
import Derived.StillTailTactics
import Derived.Outline
namespace Go.Proofs.Ytipblbcedkhmbaa
open Go.ChangeShapes Go.WideShapes Go.ChangeAt Go.RowKit

theorem row_cap {w : World} {B n s cap : Nat} {T : TypeId} {A : Option Addr} {xs : List Value} (h : w.ownsRow B T s (.slice A n cap) n xs) (_hs : 0 < s) : n ≤ cap := by
  rcases h.2 with ⟨hov, hk⟩ | ⟨g, cap', cur, hov, hg, hh, hnc, _, hsz, htk⟩
  · omega
  · cases hov
    exact hnc

set_option maxRecDepth 100000 in
set_option maxHeartbeats 1600000 in
theorem specWeakenC_inv (A : Option Addr) (n cap : Nat) (bd kk : Int) (c l f f' : Nat → Int) (w : World) (hn : n ≤ 1048576) (hr : Rd w w.heap.size A n c l) (hR : weaR n c l bd kk = false) :
    Calls Try.prog 48 #[.agg #[.slice A n cap, .int .i64 bd], .int .i64 kk] w (CReC w 0 f f' 0 false) := by
  cases hv : validB n c l bd with
  | false =>
    have Hv := Lib.hid hv
    clear hv hR
    go_enter Try.func48, Try.ntmps48
    go_wp2_with fail
    refine (specValid_any _ _ _ _ c l _ hn (hr.later (bl_alloc (bl_alloc (Below.refl _ _) _) _))).mono ?_
    rintro e w1 ⟨rfl, hb⟩
    have HB1 := Lib.hid (bl_trans (bl_alloc (bl_alloc (Below.refl w.heap.size w) _) _) hb)
    have r0 : w1.cell? ⟨w.heap.size + 1, 0, none⟩ = some (.slice none 0 0) := kc hb (by go_simp)
    have r1 : w1.cell? ⟨w.heap.size + 1, 1, none⟩ = some (.int .i64 0) := kc hb (by go_simp)
    have f0 : w1.frozen? ⟨w.heap.size + 1, 0, none⟩ = false := kf hb (by simp) (by go_simp)
    have f1 : w1.frozen? ⟨w.heap.size + 1, 1, none⟩ = false := kf hb (by simp) (by go_simp)
    clear hb
    rw [Hv.out]
    go_wp2
    refine bodyPost_ret (v := .tuple #[.agg #[.slice none 0 0, .int .i64 0], .bool false]) (by simp [results, Try.results48, go_sem, r0, r1]) rfl ?_
    exact ⟨none, 0, rfl, .inl rfl, (HB1.out.setCell (by simp) _).setCell (by simp) _, Nat.le_refl 0⟩
  | true =>
    have hk : kk < 1 ∨ 12 < kk := by
      unfold weaR at hR
      rw [hv] at hR
      simp at hR
      omega
    have Hv := Lib.hid hv
    clear hv hR
    rcases hk with hk | hk
    all_goals
      go_enter Try.func48, Try.ntmps48
      go_wp2_with fail
      refine (specValid_any _ _ _ _ c l _ hn (hr.later (bl_alloc (bl_alloc (Below.refl _ _) _) _))).mono ?_
      rintro e w1 ⟨rfl, hb⟩
      have HB1 := Lib.hid (bl_trans (bl_alloc (bl_alloc (Below.refl w.heap.size w) _) _) hb)
      have r0 : w1.cell? ⟨w.heap.size + 1, 0, none⟩ = some (.slice none 0 0) := kc hb (by go_simp)
      have r1 : w1.cell? ⟨w.heap.size + 1, 1, none⟩ = some (.int .i64 0) := kc hb (by go_simp)
      have f0 : w1.frozen? ⟨w.heap.size + 1, 0, none⟩ = false := kf hb (by simp) (by go_simp)
      have f1 : w1.frozen? ⟨w.heap.size + 1, 1, none⟩ = false := kf hb (by simp) (by go_simp)
      clear hb
      rw [Hv.out]
      go_wp2
      refine bodyPost_ret (v := .tuple #[.agg #[.slice none 0 0, .int .i64 0], .bool false]) (by simp [results, Try.results48, go_sem, r0, r1]) rfl ?_
      exact ⟨none, 0, rfl, .inl rfl, (HB1.out.setCell (by simp) _).setCell (by simp) _, Nat.le_refl 0⟩


set_option maxRecDepth 100000 in
set_option maxHeartbeats 3200000 in
theorem specWeakenC_val (A : Option Addr) (n cap : Nat) (bd kk : Int) (c l : Nat → Int) (w : World) (hn : n ≤ 1048576) (hr : Rd w w.heap.size A n c l) (hv : validB n c l bd = true) (hk1 : 1 ≤ kk) (hk2 : kk ≤ 12) :
    Calls Try.prog 48 #[.agg #[.slice A n cap, .int .i64 bd], .int .i64 kk] w (CReC w (kept c l kk n).length (rC (kept c l kk n)) (rL (kept c l kk n)) (capB (wkB c l bd kk n)) true) := by
  have Hv := Lib.hid hv
  have hbd := valid_bd hv
  clear hv
  go_enter Try.func48, Try.ntmps48
  go_wp2_with fail
  refine (specValid_any _ _ _ _ c l _ hn (hr.later (bl_alloc (bl_alloc (Below.refl _ _) _) _))).mono ?_
  rintro e w1 ⟨rfl, hb⟩
  have HB1 := Lib.hid (bl_trans (bl_alloc (bl_alloc (Below.refl w.heap.size w) _) _) hb)
  have c00 : Cel w1 w.heap.size 0 (.slice A n cap) := ⟨kc hb (by go_simp), kf hb (by first | (simp; done) | (simp; omega)) (by go_simp)⟩
  have a1 : w1.cell? ⟨w.heap.size, 1, none⟩ = some (.int .i64 bd) := kc hb (by go_simp)
  have c10 : Cel w1 (w.heap.size + 1) 0 (.slice none 0 0) := ⟨kc hb (by go_simp), kf hb (by first | (simp; done) | (simp; omega)) (by go_simp)⟩
  have c11 : Cel w1 (w.heap.size + 1) 1 (.int .i64 0) := ⟨kc hb (by go_simp), kf hb (by first | (simp; done) | (simp; omega)) (by go_simp)⟩
  have C00 := Lib.hid c00
  have C10 := Lib.hid c10
  have C11 := Lib.hid c11
  have a0 := c00.1
  have q1 : w.heap.size + 1 < w1.heap.size := World.block_lt_of_cell? w1 _ c10.1
  have q0 : w.heap.size < w1.heap.size := by omega
  clear hb c00 c10 c11
  rw [Hv.out]
  go_wp2
  go_loopw [7] (fun i wr => ∃ k : Nat, k ≤ n ∧ i = .int .i64 k ∧ Out w w1.heap.size ((w1.heap.size, 1, .int .i64 (wkB c l bd kk k)) :: [(w.heap.size, 0, .slice A n cap), (w.heap.size + 1, 0, .slice none 0 0), (w.heap.size + 1, 1, .int .i64 0)]) (rC (kept c l kk n)) (rL (kept c l kk n)) (kept c l kk k).length wr) (fun i _ => n - (intOf i).toNat)
  case atStart =>
    have hal := bl_alloc (Below.refl w1.heap.size w1) (.cells #[.slice none 0 0, .int .i64 bd] 27)
    refine ⟨0, Nat.zero_le _, rfl, .slice none 0 0, ⟨by go_simp, by go_simp⟩, World.ownsRow_nil _ _ _ _, fun x hx => ?_, bl_trans HB1.out hal, by omega⟩
    simp only [List.mem_cons, List.not_mem_nil, or_false] at hx
    rcases hx with rfl | rfl | rfl | rfl
    · exact ⟨.inr ⟨rfl, by simp⟩, by unfold wkB; constructor <;> go_simp⟩
    · exact ⟨.inl (by show w.heap.size < _; omega), C00.out.below hal⟩
    · exact ⟨.inl (by show w.heap.size + 1 < _; omega), C10.out.below hal⟩
    · exact ⟨.inl (by show w.heap.size + 1 < _; omega), C11.out.below hal⟩
  case round =>
    obtain ⟨k, hk, rfl, ov, old⟩ := hrel
    have b00 := (old.at_ (j := w.heap.size) (o := 0) (v := .slice A n cap) (by simp)).1
    obtain ⟨r0, f0⟩ := old.at_ (j := w.heap.size + 1) (o := 0) (v := .slice none 0 0) (by simp)
    obtain ⟨r1, f1⟩ := old.at_ (j := w.heap.size + 1) (o := 1) (v := .int .i64 0) (by simp)
    obtain ⟨o1, g1⟩ := old.at_ (j := w1.heap.size) (o := 1) (v := .int .i64 (wkB c l bd kk k)) (by simp)
    obtain ⟨o0, g0⟩ := old.o0
    have Old := Lib.hid old
    have hbw := old.bel
    have hz : w1.heap.size < wr.heap.size := World.block_lt_of_cell? wr _ o0
    have hrg := wkB_le (c := c) (l := l) (v := kk) (bd := bd) (n := k) (fun i hi => valid_coef Hv.out (by omega))
    clear old a0 a1
    by_cases hlt : k < n
    · have hco := valid_coef Hv.out hlt
      have hL := litAt Hv.out hlt
      obtain ⟨_, hl1, hl2⟩ := litB_iff.1 hL
      obtain ⟨b, off, rfl, hbl, hc⟩ := (hr.below hbw) (by omega)
      obtain ⟨hc1, hc2⟩ := hc k hlt
      have hzb : b < wr.heap.size := Nat.lt_of_lt_of_le hbl hbw.size
      have hkI : (k : Int) < (n : Int) := by omega
      have hkJ : (0 : Int) ≤ (k : Int) := by omega
      have hq1 : w.heap.size + 1 < wr.heap.size := by omega
      have hq0 : w.heap.size < wr.heap.size := by omega
      clear hc hr hbw hL
      by_cases he : ab (l k) = kk
      · have hkp := Lib.hid (kept_no (c := c) (l := l) (v := kk) he)
        have hwk := Lib.hid (wkB_yes (c := c) (l := l) (v := kk) (bd := bd) he)
        have hw64 : IntKind.i64.wrap (wkB c l bd kk k - c k) = wkB c l bd kk k - c k := IntWalk.i64_in _ (by omega)
        have low3 : ∀ x ∈ [(w.heap.size, 0, Value.slice (some ⟨b, off, none⟩) n cap), (w.heap.size + 1, 0, .slice none 0 0), (w.heap.size + 1, 1, .int .i64 0)], x.1 < w1.heap.size := by
          intro x hx
          simp only [List.mem_cons, List.not_mem_nil, or_false] at hx
          rcases hx with rfl | rfl | rfl
          all_goals (dsimp only; omega)
        have heq : (ab (l k) == kk) = true := by simp [he]
        clear hrg
        go_upto_region 8 with (go_at_call 72; refine (l1Abs_any _ _ (by omega) (by omega)).mono ?_; rintro e w' ⟨rfl, hw⟩; replace hw := hw.symm; subst hw)
        go_still_tail 10, (by kernel_rfl)
        change wpList _ _ _ _ _ wr.drew
        go_wp2
        go_roundw
        case rel =>
          refine ⟨k + 1, by omega, by go_num, ?_⟩
          rw [hwk.out, hkp.out]
          exact ⟨_, (Old.out.setB low3).below ((Below.refl _ _).drew)⟩
        case measure => simp [intOf]; omega
      · have hkp := Lib.hid (kept_yes (c := c) (l := l) (v := kk) he)
        have hwk := Lib.hid (wkB_no (c := c) (l := l) (v := kk) (bd := bd) he)
        obtain ⟨hX, hY⟩ := kept_at (c := c) (l := l) (v := kk) hlt he
        have HX := Lib.hid hX
        have HY := Lib.hid hY
        have hkl : (kept c l kk k).length ≤ 1048576 := by have := kept_le (c := c) (l := l) (v := kk) k; omega
        have heq : (ab (l k) == kk) = false := by simp [he]
        clear hX hY hrg
        go_upto_region 9 with (go_at_call 72; refine (l1Abs_any _ _ (by omega) (by omega)).mono ?_; rintro e w' ⟨rfl, hw⟩; replace hw := hw.symm; subst hw)
        go_region_law (refine step_appG (by rfl) _ _ (by rfl) Old.out (by repeat (first | exact Below.refl _ _ | refine bl_alloc ?_ _ | refine Below.drew ?_)) (by rfl) (by rfl) (alloc_eq (by first | assumption | rfl | simp)) HX.out HY.out hkl ?_; intro gg cap1 w3 t0 u0 hout)
        all_goals
          go_wp2
          go_roundw
          case rel => exact ⟨k + 1, by omega, by go_num, by rw [hkp.out, hwk.out, List.length_append]; exact hout⟩
          case measure => simp [intOf]; omega
    · have e : k = n := by omega
      subst e
      obtain ⟨A', cap', rfl, hF⟩ := Old.out.frs
      have hcap := row_cap Old.out.own (by omega)
      have hF1 := hF.more (B' := w.heap.size + 1 + 1) (by omega)
      have HF := Lib.hid hF1
      have HF0 := Lib.hid hF
      have HB := Lib.hid hbw
      clear hF hF1 hbw hr hrg
      by_cases hneg : wkB c l bd kk k < 0
      · have hcp := Lib.hid (show capB (wkB c l bd kk k) = 0 from if_pos hneg)
        go_wp2
        refine bodyPost_ret (v := .tuple #[.agg #[.slice A' (kept c l kk k).length cap', .int .i64 0], .bool true]) (by simp [results, Try.results48, go_sem, r0, r1]) rfl ?_
        rw [hcp.out]
        exact ⟨A', cap', rfl, (((HF0.out.far' (by simp) (by simp) _).far' (by simp) (by simp; omega) _).far' (by simp) (by simp; omega) _).more (by omega), ((HB.out.setCell (by simp; omega) _).setCell (by simp) _).setCell (by simp) _, hcap⟩
      · have hcp := Lib.hid (show capB (wkB c l bd kk k) = wkB c l bd kk k from if_neg hneg)
        go_wp2
        refine bodyPost_ret (v := .tuple #[.agg #[.slice A' (kept c l kk k).length cap', .int .i64 (wkB c l bd kk k)], .bool true]) (by simp [results, Try.results48, go_sem, r0, r1]) rfl ?_
        rw [hcp.out]
        exact ⟨A', cap', rfl, ((HF.out.far' (by simp) (by simp) _).far' (by simp) (by simp) _).more (by omega), (HB.out.setCell (by simp) _).setCell (by simp) _, hcap⟩

theorem specWeakenC_any (A : Option Addr) (n cap : Nat) (bd kk : Int) (c l : Nat → Int) (w : World) (hn : n ≤ 1048576) (hr : Rd w w.heap.size A n c l) :
    Calls Try.prog 48 #[.agg #[.slice A n cap, .int .i64 bd], .int .i64 kk] w (CReC w (infN (weaR n c l bd kk) (kept c l kk n).length (rC (kept c l kk n)) (rL (kept c l kk n)) (capB (wkB c l bd kk n))) (rC (kept c l kk n)) (rL (kept c l kk n)) (infD (weaR n c l bd kk) (kept c l kk n).length (rC (kept c l kk n)) (rL (kept c l kk n)) (capB (wkB c l bd kk n))) (infB (weaR n c l bd kk) (kept c l kk n).length (rC (kept c l kk n)) (rL (kept c l kk n)) (capB (wkB c l bd kk n)))) := by
  cases hR : weaR n c l bd kk with
  | false => exact specWeakenC_inv A n cap bd kk c l _ _ w hn hr hR
  | true =>
    obtain ⟨hv, h1, h2⟩ := weaR_iff.1 hR
    have hok := kept_ok kk hv
    have hB : infB true (kept c l kk n).length (rC (kept c l kk n)) (rL (kept c l kk n)) (capB (wkB c l bd kk n)) = true := by unfold infB; rw [hok]; rfl
    have hN : infN true (kept c l kk n).length (rC (kept c l kk n)) (rL (kept c l kk n)) (capB (wkB c l bd kk n)) = (kept c l kk n).length := by unfold infN; rw [hB]; rfl
    have hD : infD true (kept c l kk n).length (rC (kept c l kk n)) (rL (kept c l kk n)) (capB (wkB c l bd kk n)) = capB (wkB c l bd kk n) := by unfold infD; rw [hB]; rfl
    rw [hB, hN, hD]
    exact specWeakenC_val A n cap bd kk c l w hn hr hv h1 h2
set_option maxRecDepth 100000 in
set_option maxHeartbeats 1600000 in
theorem l2SatC (A : Option Addr) (n cap : Nat) (bd : Int) (c l : Nat → Int) (w : World) (hn : n ≤ 1048576) (hr : Rd w w.heap.size A n c l) (h0 : 0 ≤ bd) :
    Calls Try.prog 87 #[.agg #[.slice A n cap, .int .i64 bd]] w (AReC w (satN n bd) (minC c bd) l bd) := by
  go_enter Try.func87, Try.ntmps87
  go_wp2
  go_loopw [4] (fun i wr => ∃ k : Nat, k ≤ n ∧ (bd = 0 → k = 0) ∧ i = .int .i64 k ∧ Out w (w.heap.size + 1 + 1) [(w.heap.size, 0, .slice A n cap), (w.heap.size, 1, .int .i64 bd), (w.heap.size + 1, 0, .slice none 0 0), (w.heap.size + 1, 1, .int .i64 0), (w.heap.size + 1 + 1, 1, .int .i64 bd)] (minC c bd) l k wr) (fun i _ => n - (intOf i).toNat)
  case atStart =>
    refine ⟨0, Nat.zero_le _, fun _ => rfl, rfl, .slice none 0 0, ⟨by go_simp, by go_simp⟩, World.ownsRow_nil _ _ _ _, fun x hx => ?_, by repeat (first | exact Below.refl _ _ | refine bl_alloc ?_ _ | refine Below.drew ?_), by omega⟩
    simp only [List.mem_cons, List.not_mem_nil, or_false] at hx
    rcases hx with rfl | rfl | rfl | rfl | rfl
    all_goals exact ⟨by first | (simp; done) | (simp; omega), by go_simp, by go_simp⟩
  case round =>
    obtain ⟨k, hk, hk0, rfl, ov, old⟩ := hrel
    obtain ⟨a0, -⟩ := old.at_ (j := w.heap.size) (o := 0) (v := .slice A n cap) (by simp)
    obtain ⟨a1, -⟩ := old.at_ (j := w.heap.size) (o := 1) (v := .int .i64 bd) (by simp)
    obtain ⟨r0, f0⟩ := old.at_ (j := w.heap.size + 1) (o := 0) (v := .slice none 0 0) (by simp)
    obtain ⟨r1, f1⟩ := old.at_ (j := w.heap.size + 1) (o := 1) (v := .int .i64 0) (by simp)
    obtain ⟨o1, -⟩ := old.at_ (j := w.heap.size + 1 + 1) (o := 1) (v := .int .i64 bd) (by simp)
    have o0 := old.o0.1
    have hzr := World.block_lt_of_cell? wr _ o0
    have hz2 : w.heap.size + 1 + 1 < wr.heap.size := hzr
    have hz1 : w.heap.size + 1 < wr.heap.size := by omega
    have hz0 : w.heap.size < wr.heap.size := by omega
    have Old := Lib.hid old
    have Hk0 := Lib.hid hk0
    have hbw := old.bel
    clear hzr hk0 old
    by_cases hlt : k < n ∧ 0 < bd
    · obtain ⟨hlt, hbp⟩ := hlt
      obtain ⟨b, off, rfl, hbl, hc⟩ := (hr.below hbw) (by omega)
      obtain ⟨hc1, hc2⟩ := hc k hlt
      have hzb : b < wr.heap.size := Nat.lt_of_lt_of_le hbl hbw.size
      have hkI : (k : Int) < (n : Int) := by omega
      have hkJ : (0 : Int) ≤ (k : Int) := by omega
      clear hc hr hbw
      by_cases hm : bd < c k
      · have hX : minC c bd k = bd := by unfold minC; rw [if_pos hm]
        have HX := Lib.hid hX
        clear hX
        go_wp2_with (at_builtin; refine wpList_plain (by rfl) fun K' hK' => ?_; refine wp_app1 _ _ (by rfl) (Old.out.below (by repeat (first | exact Below.refl _ _ | refine bl_alloc ?_ _ | refine Below.setCell ?_ (by simp) _))) (by rfl) (by simp; rfl) (by rfl) HX.out rfl (by omega) ?_; intro gg cap1 w3 t0 u0 hout; refine hK' _ _ ?_; clear hK' K')
        go_roundw
        case rel => exact ⟨k + 1, by omega, fun e => by omega, by go_num, hout⟩
        case measure => simp [intOf]; omega
      · have hX : minC c bd k = c k := by unfold minC; rw [if_neg hm]
        have HX := Lib.hid hX
        clear hX
        go_wp2_with (at_builtin; refine wpList_plain (by rfl) fun K' hK' => ?_; refine wp_app1 _ _ (by rfl) (Old.out.below (by repeat (first | exact Below.refl _ _ | refine bl_alloc ?_ _ | refine Below.setCell ?_ (by simp) _))) (by rfl) (by simp; rfl) (by rfl) HX.out rfl (by omega) ?_; intro gg cap1 w3 t0 u0 hout; refine hK' _ _ ?_; clear hK' K')
        go_roundw
        case rel => exact ⟨k + 1, by omega, fun e => by omega, by go_num, hout⟩
        case measure => simp [intOf]; omega
    · have e : k = satN n bd := by
        unfold satN
        split
        · exact Hk0.out (by assumption)
        · omega
      obtain ⟨A', cap', rfl, hF⟩ := Old.out.frs
      have hcap := row_cap Old.out.own (by omega)
      have HF := Lib.hid hF
      have HB := Lib.hid hbw
      have hlt' : k < n → bd ≤ 0 := fun h => by omega
      clear hF hbw hlt Old Hk0 hr
      have fin : ∀ wz : World, wz = (wr.setCell ⟨w.heap.size + 1, 0, none⟩ (.slice A' k cap')).setCell ⟨w.heap.size + 1, 1, none⟩ (.int .i64 bd) → AReC w (satN n bd) (minC c bd) l bd (.returned (.agg #[.slice A' k cap', .int .i64 bd])) wz := by
        rintro wz rfl
        rw [← e]
        exact ⟨A', cap', rfl, ((HF.out.far' (by simp) (by simp) _).far' (by simp) (by simp) _).more (by omega), (HB.out.setCell (by simp) _).setCell (by simp) _, hcap⟩
      have Fin := Lib.hid fin
      clear fin e
      by_cases hlt : k < n
      · have hb0 := hlt' hlt
        clear hlt'
        go_wp2
        refine bodyPost_ret (v := .agg #[.slice A' k cap', .int .i64 bd]) (by simp [results, Try.results87, go_sem, r0, r1]) rfl ?_
        exact Fin.out _ rfl
      · clear hlt'
        go_wp2
        refine bodyPost_ret (v := .agg #[.slice A' k cap', .int .i64 bd]) (by simp [results, Try.results87, go_sem, r0, r1]) rfl ?_
        exact Fin.out _ rfl

set_option maxRecDepth 100000 in
set_option maxHeartbeats 800000 in
theorem specSatC (A : Option Addr) (n cap : Nat) (bd : Int) (c l : Nat → Int) (w : World) (hn : n ≤ 1048576) (hr : Rd w w.heap.size A n c l) :
    Calls Try.prog 45 #[.agg #[.slice A n cap, .int .i64 bd]] w (CReC w (infN (validB n c l bd) (satN n bd) (minC c bd) l bd) (minC c bd) l (infD (validB n c l bd) (satN n bd) (minC c bd) l bd) (infB (validB n c l bd) (satN n bd) (minC c bd) l bd)) := by
  cases hv : validB n c l bd with
  | false =>
    have Hv := Lib.hid hv
    clear hv
    go_enter Try.func45, Try.ntmps45
    go_wp2_with fail
    refine (specValid_any _ _ _ _ c l _ hn (hr.later (bl_alloc (bl_alloc (Below.refl _ _) _) _))).mono ?_
    rintro e w1 ⟨rfl, hb⟩
    have HB1 := Lib.hid (bl_trans (bl_alloc (bl_alloc (Below.refl w.heap.size w) _) _) hb)
    have r0 : w1.cell? ⟨w.heap.size + 1, 0, none⟩ = some (.slice none 0 0) := kc hb (by go_simp)
    have r1 : w1.cell? ⟨w.heap.size + 1, 1, none⟩ = some (.int .i64 0) := kc hb (by go_simp)
    have f0 : w1.frozen? ⟨w.heap.size + 1, 0, none⟩ = false := kf hb (by simp) (by go_simp)
    have f1 : w1.frozen? ⟨w.heap.size + 1, 1, none⟩ = false := kf hb (by simp) (by go_simp)
    clear hb
    rw [Hv.out]
    go_wp2
    refine bodyPost_ret (v := .tuple #[.agg #[.slice none 0 0, .int .i64 0], .bool false]) (by simp [results, Try.results45, go_sem, r0, r1]) rfl ?_
    exact ⟨none, 0, rfl, .inl rfl, (HB1.out.setCell (by simp) _).setCell (by simp) _, Nat.le_refl 0⟩
  | true =>
    have h2 := satValid hv
    have hN : infN true (satN n bd) (minC c bd) l bd = satN n bd := by unfold infN infB; rw [h2]; rfl
    have hD : infD true (satN n bd) (minC c bd) l bd = bd := by unfold infD infB; rw [h2]; rfl
    have hB : infB true (satN n bd) (minC c bd) l bd = true := by unfold infB; rw [h2]; rfl
    rw [hN, hD, hB]
    have hb0 := (valid_bd hv).1
    have Hv := Lib.hid hv
    clear hv hN hD hB h2
    go_enter Try.func45, Try.ntmps45
    go_wp2_with fail
    refine (specValid_any _ _ _ _ c l _ hn (hr.later (bl_alloc (bl_alloc (Below.refl _ _) _) _))).mono ?_
    rintro e w1 ⟨rfl, hb⟩
    have HB1 := Lib.hid (bl_trans (bl_alloc (bl_alloc (Below.refl w.heap.size w) _) _) hb)
    have a0 : w1.cell? ⟨w.heap.size, 0, none⟩ = some (.slice A n cap) := kc hb (by go_simp)
    have a1 : w1.cell? ⟨w.heap.size, 1, none⟩ = some (.int .i64 bd) := kc hb (by go_simp)
    have r0 : w1.cell? ⟨w.heap.size + 1, 0, none⟩ = some (.slice none 0 0) := kc hb (by go_simp)
    have r1 : w1.cell? ⟨w.heap.size + 1, 1, none⟩ = some (.int .i64 0) := kc hb (by go_simp)
    have f0 : w1.frozen? ⟨w.heap.size + 1, 0, none⟩ = false := kf hb (by simp) (by go_simp)
    have f1 : w1.frozen? ⟨w.heap.size + 1, 1, none⟩ = false := kf hb (by simp) (by go_simp)
    have q1 : w.heap.size + 1 < w1.heap.size := World.block_lt_of_cell? w1 _ r0
    clear hb
    rw [Hv.out]
    go_wp2_with fail
    refine (l2SatC _ _ _ _ c l _ hn (hr.later HB1.out) hb0).mono ?_
    rintro e w2 ⟨A', cap', rfl, hF, hb, hcap⟩
    have HB2 := Lib.hid (bl_trans HB1.out hb)
    have HF := Lib.hid hF
    replace r0 := kc hb r0
    replace r1 := kc hb r1
    replace f0 := kf hb q1 f0
    replace f1 := kf hb q1 f1
    clear hb hF
    go_wp2
    refine bodyPost_ret (v := .tuple #[.agg #[.slice A' (satN n bd) cap', .int .i64 bd], .bool true]) (by simp [results, Try.results45, go_sem, r0, r1]) rfl ?_
    exact ⟨A', cap', rfl, ((HF.out.far' (by simp) (by simp; omega) _).far' (by simp) (by simp; omega) _).more (by omega), (HB2.out.setCell (by simp) _).setCell (by simp) _, hcap⟩
/-- What a rule of the model leaves, whatever it says. -/
def SRes (w : World) (n : Nat) (e : Ending) (w' : World) : Prop := ∃ A' n' cap' bd' ok, e = .returned (.tuple #[.agg #[.slice A' n' cap', .int .i64 bd'], .bool ok]) ∧ n' ≤ n ∧ n' ≤ cap' ∧ FE w' w.heap.size A' n' ∧ Below w.heap.size w w'
theorem specWeakenE (A : Option Addr) (n cap : Nat) (bd kk : Int) (c l : Nat → Int) (w : World) (hn : n ≤ 1048576) (hr : Rd w w.heap.size A n c l) :
    Calls Try.prog 48 #[.agg #[.slice A n cap, .int .i64 bd], .int .i64 kk] w (SRes w n) :=
  (specWeakenC_any A n cap bd kk c l w hn hr).mono fun _ _ ⟨A', cap', he, hf, hb, hc⟩ => ⟨A', _, cap', _, _, he, Nat.le_trans (infN_le _ _ _ _ _) (kept_le n), hc, ⟨_, _, hf⟩, hb⟩
theorem specSatE (A : Option Addr) (n cap : Nat) (bd : Int) (c l : Nat → Int) (w : World) (hn : n ≤ 1048576) (hr : Rd w w.heap.size A n c l) :
    Calls Try.prog 45 #[.agg #[.slice A n cap, .int .i64 bd]] w (SRes w n) :=
  (specSatC A n cap bd c l w hn hr).mono fun _ _ ⟨A', cap', he, hf, hb, hc⟩ => ⟨A', _, cap', _, _, he, Nat.le_trans (infN_le _ _ _ _ _) (by unfold satN; split <;> omega), hc, ⟨_, _, hf⟩, hb⟩
end Go.Proofs.Ytipblbcedkhmbaa
