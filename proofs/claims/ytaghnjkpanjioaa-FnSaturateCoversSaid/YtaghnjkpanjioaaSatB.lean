/- Contracts of the model's SaturateConstraint (no claim of its own). Conditions: as each theorem states. -/
import Derived.Test.YtaghnjkpanjioaaSatA
import Derived.Outline
namespace Go.Proofs.Ytaghnjkpanjioaa
open Go.ChangeShapes Go.WideShapes Go.ChangeAt Go.RowKit

set_option maxRecDepth 100000 in
set_option maxHeartbeats 1600000 in
theorem l2Sat_any (A : Option Addr) (n cap : Nat) (bd : Int) (c l : Nat → Int) (w : World) (hn : n ≤ 1048576) (hr : Rd w w.heap.size A n c l) (h0 : 0 ≤ bd) :
    Calls Try.prog 51 #[.agg #[.slice A n cap, .int .i64 bd]] w (ARes w (satN n bd) (minC c bd) l bd) := by
  go_enter Try.func51, Try.ntmps51
  go_wp2
  go_loopw [4] (fun i wr => ∃ k : Nat, k ≤ n ∧ (bd = 0 → k = 0) ∧ i = .int .i64 k ∧ Out w (w.heap.size + 1 + 1) [(w.heap.size, 0, .slice A n cap), (w.heap.size, 1, .int .i64 bd), (w.heap.size + 1, 0, .slice none 0 0), (w.heap.size + 1, 1, .int .i64 0), (w.heap.size + 1 + 1, 1, .int .i64 bd)] (minC c bd) l k wr) (fun i _ => n - (intOf i).toNat)
  case atStart =>
    refine ⟨0, Nat.zero_le _, fun _ => rfl, rfl, .slice none 0 0, ⟨by go_simp, by go_simp⟩, World.ownsRow_nil _ _ _ _, fun x hx => ?_, by repeat (first | exact Below.refl _ _ | refine bl_alloc ?_ _ | refine Below.drew ?_), by omega⟩
    simp only [List.mem_cons, List.not_mem_nil, or_false] at hx
    rcases hx with rfl | rfl | rfl | rfl | rfl
    all_goals exact ⟨by first | (simp; done) | (simp; omega), by go_simp, by go_simp⟩
  case round =>
    obtain ⟨k, hk, hk0, rfl, ov, old⟩ := hrel
    obtain ⟨a0, -⟩ := old.at_ (j := w.heap.size) (o := 0) (v := .slice A n cap) (by simp)
    obtain ⟨a1, -⟩ := old.at_ (j := w.heap.size) (o := 1) (v := .int .i64 bd) (by simp)
    obtain ⟨r0, f0⟩ := old.at_ (j := w.heap.size + 1) (o := 0) (v := .slice none 0 0) (by simp)
    obtain ⟨r1, f1⟩ := old.at_ (j := w.heap.size + 1) (o := 1) (v := .int .i64 0) (by simp)
    obtain ⟨o1, -⟩ := old.at_ (j := w.heap.size + 1 + 1) (o := 1) (v := .int .i64 bd) (by simp)
    have o0 := old.o0.1
    have hzr := World.block_lt_of_cell? wr _ o0
    have hz2 : w.heap.size + 1 + 1 < wr.heap.size := hzr
    have hz1 : w.heap.size + 1 < wr.heap.size := by omega
    have hz0 : w.heap.size < wr.heap.size := by omega
    have Old := Lib.hid old
    have Hk0 := Lib.hid hk0
    have hbw := old.bel
    clear hzr hk0 old
    by_cases hlt : k < n ∧ 0 < bd
    · obtain ⟨hlt, hbp⟩ := hlt
      obtain ⟨b, off, rfl, hbl, hc⟩ := (hr.below hbw) (by omega)
      obtain ⟨hc1, hc2⟩ := hc k hlt
      have hzb : b < wr.heap.size := Nat.lt_of_lt_of_le hbl hbw.size
      have hkI : (k : Int) < (n : Int) := by omega
      have hkJ : (0 : Int) ≤ (k : Int) := by omega
      clear hc hr hbw
      by_cases hm : bd < c k
      · have hX : minC c bd k = bd := by unfold minC; rw [if_pos hm]
        have HX := Lib.hid hX
        clear hX
        go_wp2_with (at_builtin; refine wpList_plain (by rfl) fun K' hK' => ?_; refine wp_app1 _ _ (by rfl) (Old.out.below (by repeat (first | exact Below.refl _ _ | refine bl_alloc ?_ _ | refine Below.setCell ?_ (by simp) _))) (by rfl) (by simp; rfl) (by rfl) HX.out rfl (by omega) ?_; intro gg cap1 w3 t0 u0 hout; refine hK' _ _ ?_; clear hK' K')
        go_roundw
        case rel => exact ⟨k + 1, by omega, fun e => by omega, by go_num, hout⟩
        case measure => simp [intOf]; omega
      · have hX : minC c bd k = c k := by unfold minC; rw [if_neg hm]
        have HX := Lib.hid hX
        clear hX
        go_wp2_with (at_builtin; refine wpList_plain (by rfl) fun K' hK' => ?_; refine wp_app1 _ _ (by rfl) (Old.out.below (by repeat (first | exact Below.refl _ _ | refine bl_alloc ?_ _ | refine Below.setCell ?_ (by simp) _))) (by rfl) (by simp; rfl) (by rfl) HX.out rfl (by omega) ?_; intro gg cap1 w3 t0 u0 hout; refine hK' _ _ ?_; clear hK' K')
        go_roundw
        case rel => exact ⟨k + 1, by omega, fun e => by omega, by go_num, hout⟩
        case measure => simp [intOf]; omega
    · have e : k = satN n bd := by
        unfold satN
        split
        · exact Hk0.out (by assumption)
        · omega
      obtain ⟨A', cap', rfl, hF⟩ := Old.out.frs
      have HF := Lib.hid hF
      have HB := Lib.hid hbw
      have hlt' : k < n → bd ≤ 0 := fun h => by omega
      clear hF hbw hlt Old Hk0 hr
      have fin : ∀ wz : World, wz = (wr.setCell ⟨w.heap.size + 1, 0, none⟩ (.slice A' k cap')).setCell ⟨w.heap.size + 1, 1, none⟩ (.int .i64 bd) → ARes w (satN n bd) (minC c bd) l bd (.returned (.agg #[.slice A' k cap', .int .i64 bd])) wz := by
        rintro wz rfl
        rw [← e]
        exact ⟨A', cap', rfl, ((HF.out.far' (by simp) (by simp) _).far' (by simp) (by simp) _).more (by omega), (HB.out.setCell (by simp) _).setCell (by simp) _⟩
      have Fin := Lib.hid fin
      clear fin e
      by_cases hlt : k < n
      · have hb0 := hlt' hlt
        clear hlt'
        go_wp2
        refine bodyPost_ret (v := .agg #[.slice A' k cap', .int .i64 bd]) (by simp [results, Try.results51, go_sem, r0, r1]) rfl ?_
        exact Fin.out _ rfl
      · clear hlt'
        go_wp2
        refine bodyPost_ret (v := .agg #[.slice A' k cap', .int .i64 bd]) (by simp [results, Try.results51, go_sem, r0, r1]) rfl ?_
        exact Fin.out _ rfl

set_option maxRecDepth 100000 in
set_option maxHeartbeats 800000 in
theorem specSat_any (A : Option Addr) (n cap : Nat) (bd : Int) (c l : Nat → Int) (w : World) (hn : n ≤ 1048576) (hr : Rd w w.heap.size A n c l) :
    Calls Try.prog 18 #[.agg #[.slice A n cap, .int .i64 bd]] w (CRes w (infN (validB n c l bd) (satN n bd) (minC c bd) l bd) (minC c bd) l (infD (validB n c l bd) (satN n bd) (minC c bd) l bd) (infB (validB n c l bd) (satN n bd) (minC c bd) l bd)) := by
  cases hv : validB n c l bd with
  | false =>
    have Hv := Lib.hid hv
    clear hv
    go_enter Try.func18, Try.ntmps18
    go_wp2_with fail
    refine (specValid_any _ _ _ _ c l _ hn (hr.later (bl_alloc (bl_alloc (Below.refl _ _) _) _))).mono ?_
    rintro e w1 ⟨rfl, hb⟩
    have HB1 := Lib.hid (bl_trans (bl_alloc (bl_alloc (Below.refl w.heap.size w) _) _) hb)
    have r0 : w1.cell? ⟨w.heap.size + 1, 0, none⟩ = some (.slice none 0 0) := kc hb (by go_simp)
    have r1 : w1.cell? ⟨w.heap.size + 1, 1, none⟩ = some (.int .i64 0) := kc hb (by go_simp)
    have f0 : w1.frozen? ⟨w.heap.size + 1, 0, none⟩ = false := kf hb (by simp) (by go_simp)
    have f1 : w1.frozen? ⟨w.heap.size + 1, 1, none⟩ = false := kf hb (by simp) (by go_simp)
    clear hb
    rw [Hv.out]
    go_wp2
    refine bodyPost_ret (v := .tuple #[.agg #[.slice none 0 0, .int .i64 0], .bool false]) (by simp [results, Try.results18, go_sem, r0, r1]) rfl ?_
    exact ⟨none, 0, rfl, .inl rfl, (HB1.out.setCell (by simp) _).setCell (by simp) _⟩
  | true =>
    have h2 := satValid hv
    have hN : infN true (satN n bd) (minC c bd) l bd = satN n bd := by unfold infN infB; rw [h2]; rfl
    have hD : infD true (satN n bd) (minC c bd) l bd = bd := by unfold infD infB; rw [h2]; rfl
    have hB : infB true (satN n bd) (minC c bd) l bd = true := by unfold infB; rw [h2]; rfl
    rw [hN, hD, hB]
    have hb0 := (valid_bd hv).1
    have Hv := Lib.hid hv
    clear hv hN hD hB h2
    go_enter Try.func18, Try.ntmps18
    go_wp2_with fail
    refine (specValid_any _ _ _ _ c l _ hn (hr.later (bl_alloc (bl_alloc (Below.refl _ _) _) _))).mono ?_
    rintro e w1 ⟨rfl, hb⟩
    have HB1 := Lib.hid (bl_trans (bl_alloc (bl_alloc (Below.refl w.heap.size w) _) _) hb)
    have a0 : w1.cell? ⟨w.heap.size, 0, none⟩ = some (.slice A n cap) := kc hb (by go_simp)
    have a1 : w1.cell? ⟨w.heap.size, 1, none⟩ = some (.int .i64 bd) := kc hb (by go_simp)
    have r0 : w1.cell? ⟨w.heap.size + 1, 0, none⟩ = some (.slice none 0 0) := kc hb (by go_simp)
    have r1 : w1.cell? ⟨w.heap.size + 1, 1, none⟩ = some (.int .i64 0) := kc hb (by go_simp)
    have f0 : w1.frozen? ⟨w.heap.size + 1, 0, none⟩ = false := kf hb (by simp) (by go_simp)
    have f1 : w1.frozen? ⟨w.heap.size + 1, 1, none⟩ = false := kf hb (by simp) (by go_simp)
    have q1 : w.heap.size + 1 < w1.heap.size := World.block_lt_of_cell? w1 _ r0
    clear hb
    rw [Hv.out]
    go_wp2_with fail
    refine (l2Sat_any _ _ _ _ c l _ hn (hr.later HB1.out) hb0).mono ?_
    rintro e w2 ⟨A', cap', rfl, hF, hb⟩
    have HB2 := Lib.hid (bl_trans HB1.out hb)
    have HF := Lib.hid hF
    replace r0 := kc hb r0
    replace r1 := kc hb r1
    replace f0 := kf hb q1 f0
    replace f1 := kf hb q1 f1
    clear hb hF
    go_wp2
    refine bodyPost_ret (v := .tuple #[.agg #[.slice A' (satN n bd) cap', .int .i64 bd], .bool true]) (by simp [results, Try.results18, go_sem, r0, r1]) rfl ?_
    exact ⟨A', cap', rfl, ((HF.out.far' (by simp) (by simp; omega) _).far' (by simp) (by simp; omega) _).more (by omega), (HB2.out.setCell (by simp) _).setCell (by simp) _⟩
end Go.Proofs.Ytaghnjkpanjioaa
