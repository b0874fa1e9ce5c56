/- Weakening, with its slice's room (no claim of its own). Conditions: as each theorem states. -/
import Derived.Test.YtipblbcedkhmbaaLicA
import Derived.Test.YtipblbcedkhmbaaWeaC
namespace Go.Proofs.Ytipblbcedkhmbaa
open Go.ChangeShapes Go.WideShapes Go.ChangeAt Go.RowKit Go.Shelf

theorem row_cap {w : World} {B n s cap : Nat} {T : TypeId} {A : Option Addr} {xs : List Value} (h : w.ownsRow B T s (.slice A n cap) n xs) (_hs : 0 < s) : n ≤ cap := by
  rcases h.2 with ⟨hov, hk⟩ | ⟨g, cap', cur, hov, hg, hh, hnc, _, hsz, htk⟩
  · omega
  · cases hov
    exact hnc
set_option maxRecDepth 100000 in
set_option maxHeartbeats 1600000 in
theorem weaApplyC (A : Option Addr) (n cap : Nat) (bd kk : Int) (c l : Nat → Int) (w : World) (hn : n ≤ 1048576) (hr : Rd w w.heap.size A n c l) (hv : validB n c l bd = true) :
    Calls Try.prog 173 #[.agg #[.slice A n cap, .int .i64 bd, .int .i64 kk]] w (AReC w (kept c l kk n).length (rC (kept c l kk n)) (rL (kept c l kk n)) (capB (wkB c l bd kk n))) := by
  have hbd := valid_bd hv
  have hcap0 : capB (wkB c l bd kk 0) = bd := by unfold capB wkB; rw [if_neg (by omega)]
  have Hcap0 := Lib.hid hcap0
  have Hv := Lib.hid hv
  clear hv hcap0
  go_enter Try.func173, Try.ntmps173
  go_wp2
  go_loopw [14] (fun i wr => ∃ k : Nat, k ≤ n ∧ i = .int .i64 k ∧ Out w (w.heap.size + 1 + 1) ((w.heap.size + 1 + 1, 1, .int .i64 (capB (wkB c l bd kk k))) :: [(w.heap.size, 2, .int .i64 kk), (w.heap.size + 1, 0, .slice none 0 0), (w.heap.size + 1, 1, .int .i64 0)]) (rC (kept c l kk n)) (rL (kept c l kk n)) (kept c l kk k).length wr) (fun i _ => n - (intOf i).toNat)
  case atStart =>
    refine ⟨0, Nat.zero_le _, rfl, .slice none 0 0, ⟨by go_simp, by go_simp⟩, World.ownsRow_nil _ _ _ _, fun x hx => ?_, by repeat (first | exact Below.refl _ _ | refine bl_alloc ?_ _ | refine Below.drew ?_), by omega⟩
    rw [Hcap0.out] at hx
    simp only [List.mem_cons, List.not_mem_nil, or_false] at hx
    rcases hx with rfl | rfl | rfl | rfl
    all_goals exact ⟨by first | (simp; done) | (simp; omega), by go_simp, by go_simp⟩
  case round =>
    obtain ⟨k, hk, rfl, ov, old⟩ := hrel
    have a2 := (old.at_ (j := w.heap.size) (o := 2) (v := .int .i64 kk) (by simp)).1
    obtain ⟨r0, f0⟩ := old.at_ (j := w.heap.size + 1) (o := 0) (v := .slice none 0 0) (by simp)
    obtain ⟨r1, f1⟩ := old.at_ (j := w.heap.size + 1) (o := 1) (v := .int .i64 0) (by simp)
    obtain ⟨o1, g1⟩ := old.at_ (j := w.heap.size + 1 + 1) (o := 1) (v := .int .i64 (capB (wkB c l bd kk k))) (by simp)
    obtain ⟨o0, g0⟩ := old.o0
    have hz2 : w.heap.size + 1 + 1 < wr.heap.size := World.block_lt_of_cell? wr _ o0
    have hz1 : w.heap.size + 1 < wr.heap.size := by omega
    have hz0 : w.heap.size < wr.heap.size := by omega
    have Old := Lib.hid old
    have hbw := old.bel
    clear old
    by_cases hlt : k < n
    · have hL := litAt Hv.out hlt
      obtain ⟨_, hl1, hl2⟩ := litB_iff.1 hL
      have hvar : ∀ X : World, Calls Try.prog 67 #[.int .i64 (l k)] X fun e w'' => e = .returned (.int .i64 (ab (l k))) ∧ w'' = X := fun X => (litVariable_any _ _ hl1 hl2).mono fun e w'' ⟨h1, h2⟩ => ⟨h1, h2.symm⟩
      have hco := valid_coef Hv.out hlt
      obtain ⟨b, off, rfl, hbl, hc⟩ := (hr.below hbw) (by omega)
      obtain ⟨hc1, hc2⟩ := hc k hlt
      have hzb : b < wr.heap.size := Nat.lt_of_lt_of_le hbl hbw.size
      have hkI : (k : Int) < (n : Int) := by omega
      have hkJ : (0 : Int) ≤ (k : Int) := by omega
      have hal : Below wr.heap.size wr (wr.alloc (.cells #[.int .i64 (c k), .int .i64 (l k)] 35)).drew := (bl_alloc (Below.refl _ _) _).drew
      clear hc hr hbw hL
      go_upto_region 5 with fail
      refine wp_region_still_lit (by kernel_rfl) (by kernel_rfl) ?_
      change wpStill _ _ (wr.alloc (.cells #[.int .i64 (c k), .int .i64 (l k)] 35)).drew _ _ _
      have t0 : (wr.alloc (.cells #[.int .i64 (c k), .int .i64 (l k)] 35)).drew.cell? ⟨wr.heap.size, 0, none⟩ = some (.int .i64 (c k)) := by go_simp
      have t1 : (wr.alloc (.cells #[.int .i64 (c k), .int .i64 (l k)] 35)).drew.cell? ⟨wr.heap.size, 1, none⟩ = some (.int .i64 (l k)) := by go_simp
      have hzX : (wr.alloc (.cells #[.int .i64 (c k), .int .i64 (l k)] 35)).drew.heap.size = wr.heap.size + 1 := by simp [World.drew]
      have OldX := Lib.hid (Old.out.below hal)
      obtain ⟨p0, h0⟩ := OldX.out.o0
      obtain ⟨p1, h1⟩ := OldX.out.at_ (j := w.heap.size + 1 + 1) (o := 1) (v := .int .i64 (capB (wkB c l bd kk k))) (by simp)
      replace a2 := kc hal a2
      clear Old hal o0 g0 o1 g1 r0 r1 f0 f1 hc1 hc2 hzb
      by_cases he : ab (l k) = kk
      · have hrg := wkB_le (c := c) (l := l) (v := kk) (bd := bd) (n := k) (fun i hi => valid_coef Hv.out (by omega))
        have hcp : 0 ≤ capB (wkB c l bd kk k) ∧ capB (wkB c l bd kk k) ≤ 20000 := by unfold capB; split <;> omega
        have hw64 : wrap64 (capB (wkB c l bd kk k) - c k) = capB (wkB c l bd kk k) - c k := by rw [← IntWalk.i64_left]; exact IntWalk.i64_in _ (by omega)
        have hq := Lib.hid (show (if wrap64 (capB (wkB c l bd kk k) - c k) < 0 then 0 else wrap64 (capB (wkB c l bd kk k) - c k)) = capB (wkB c l bd kk (k + 1)) from by rw [hw64]; exact wkB_cap_step hlt Hv.out he)
        have low3 : ∀ x ∈ [(w.heap.size, 2, Value.int .i64 kk), (w.heap.size + 1, 0, .slice none 0 0), (w.heap.size + 1, 1, .int .i64 0)], x.1 < w.heap.size + 1 + 1 := by
          intro x hx
          simp only [List.mem_cons, List.not_mem_nil, or_false] at hx
          rcases hx with rfl | rfl | rfl
          all_goals (dsimp only; omega)
        clear hrg hcp hw64
        have hkp := Lib.hid (kept_no (c := c) (l := l) (v := kk) he)
        have heq : (ab (l k) == kk) = true := by simp [he]
        repeat (first | still_step | still_call (hvar _))
        refine wpStill_nil ?_
        change Exit.then _ _ _ _ (wr.alloc (.cells #[.int .i64 (c k), .int .i64 (l k)] 35)).drew
        generalize (wr.alloc (.cells #[.int .i64 (c k), .int .i64 (l k)] 35)).drew = X at *
        clear hvar
        go_wp2
        go_roundw
        case rel =>
          refine ⟨k + 1, by omega, by go_num, ?_⟩
          rw [hq.out, hkp.out]
          exact ⟨_, OldX.out.setB low3⟩
        case measure => simp [intOf]; omega
      · have hkp := Lib.hid (kept_yes (c := c) (l := l) (v := kk) he)
        have hwk := Lib.hid (wkB_no (c := c) (l := l) (v := kk) (bd := bd) he)
        obtain ⟨hX, hY⟩ := kept_at (c := c) (l := l) (v := kk) hlt he
        have HX := Lib.hid hX
        have HY := Lib.hid hY
        have hkl : (kept c l kk k).length ≤ 1048576 := by have := kept_le (c := c) (l := l) (v := kk) k; omega
        have heq : (ab (l k) == kk) = false := by simp [he]
        clear hX hY
        repeat (first | still_step | still_call (hvar _))
        refine wpStill_nil ?_
        change Exit.then _ _ _ _ (wr.alloc (.cells #[.int .i64 (c k), .int .i64 (l k)] 35)).drew
        generalize (wr.alloc (.cells #[.int .i64 (c k), .int .i64 (l k)] 35)).drew = X at *
        clear hvar
        go_wp2_with (at_builtin; refine wpList_plain (by rfl) fun K' hK' => ?_; refine wp_appG _ _ (by rfl) OldX.out (by repeat (first | exact Below.refl _ _ | refine bl_alloc ?_ _)) (by rfl) (by rfl) (alloc_eq (by first | assumption | rfl | simp)) HX.out HY.out hkl ?_; intro gg cap1 w3 t0 u0 hout; refine hK' _ _ ?_; clear hK' K')
        go_roundw
        case rel => exact ⟨k + 1, by omega, by go_num, by rw [hkp.out, hwk.out, List.length_append]; exact hout⟩
        case measure => simp [intOf]; omega
    · have e : k = n := by omega
      subst e
      obtain ⟨A', cap', rfl, hF⟩ := Old.out.frs
      have hcap := row_cap Old.out.own (by omega)
      have HF := Lib.hid hF
      have HB := Lib.hid hbw
      clear hF hbw Old hr
      go_wp2
      refine bodyPost_ret (v := .agg #[.slice A' (kept c l kk k).length cap', .int .i64 (capB (wkB c l bd kk k))]) (by simp [results, Try.results173, go_sem, r0, r1]) rfl ?_
      exact ⟨A', cap', rfl, ((HF.out.far' (by simp) (by simp) _).far' (by simp) (by simp) _).more (by omega), (HB.out.setCell (by simp) _).setCell (by simp) _, hcap⟩

theorem implWeakenC (A : Option Addr) (n cap : Nat) (bd kk : Int) (c l : Nat → Int) (w : World) (hn : n ≤ 1048576) (hr : Rd w w.heap.size A n c l) :
    Calls Try.prog 47 #[.agg #[.slice A n cap, .int .i64 bd], .int .i64 kk] w (CReC w (infN (weaR n c l bd kk) (kept c l kk n).length (rC (kept c l kk n)) (rL (kept c l kk n)) (capB (wkB c l bd kk n))) (rC (kept c l kk n)) (rL (kept c l kk n)) (infD (weaR n c l bd kk) (kept c l kk n).length (rC (kept c l kk n)) (rL (kept c l kk n)) (capB (wkB c l bd kk n))) (infB (weaR n c l bd kk) (kept c l kk n).length (rC (kept c l kk n)) (rL (kept c l kk n)) (capB (wkB c l bd kk n)))) := by
  have hm1 : ∀ w : World, (method 291 106 (.agg #[.slice A n cap, .int .i64 bd, .int .i64 kk]) "loop.example/cuttingplanes/impl.ready").run Try.prog w = .ok (174, .agg #[.slice A n cap, .int .i64 bd, .int .i64 kk]) w := fun _ => by kernel_rfl
  have hm2 : ∀ w : World, (method 291 106 (.agg #[.slice A n cap, .int .i64 bd, .int .i64 kk]) "loop.example/cuttingplanes/impl.apply").run Try.prog w = .ok (173, .agg #[.slice A n cap, .int .i64 bd, .int .i64 kk]) w := fun _ => by kernel_rfl
  have hkl : (kept c l kk n).length ≤ 1048576 := by have := kept_le (c := c) (l := l) (v := kk) n; omega
  have HI := Lib.hid (fun (W : World) (hb : Below w.heap.size w W) => infer_anyC 106 (.agg #[.slice A n cap, .int .i64 bd, .int .i64 kk]) 174 173 (weaR n c l bd kk) (kept c l kk n).length (rC (kept c l kk n)) (rL (kept c l kk n)) (capB (wkB c l bd kk n)) W hkl hm1 hm2
    (enters_of Try.func174 (by kernel_rfl) rfl) (enters_of Try.func173 (by kernel_rfl) rfl)
    (fun W' hb' => weaReady_any A n cap bd kk c l W' hn (hr.later (bl_trans hb hb'))) (fun hR W' hb' => weaApplyC A n cap bd kk c l W' hn (hr.later (bl_trans hb hb')) (weaR_iff.1 hR).1))
  clear hm1 hm2 hr hkl
  go_enter Try.func47, Try.ntmps47
  go_wp2_with fail
  refine (HI.out _ (by repeat (first | exact Below.refl _ _ | refine bl_alloc ?_ _ | refine Below.drew ?_))).mono ?_
  rintro e w1 ⟨A', cap', rfl, hF, hb, hcap⟩
  have HF := Lib.hid hF
  have HB := Lib.hid (bl_trans (bl_alloc (bl_alloc (Below.refl w.heap.size w) _) _) hb)
  have r0 : w1.cell? ⟨w.heap.size + 1, 0, none⟩ = some (.slice none 0 0) := kc hb (by go_simp)
  have r1 : w1.cell? ⟨w.heap.size + 1, 1, none⟩ = some (.int .i64 0) := kc hb (by go_simp)
  have f0 : w1.frozen? ⟨w.heap.size + 1, 0, none⟩ = false := kf hb (by simp) (by go_simp)
  have f1 : w1.frozen? ⟨w.heap.size + 1, 1, none⟩ = false := kf hb (by simp) (by go_simp)
  clear hF hb
  go_wp2
  refine bodyPost_ret (v := .tuple #[.agg #[.slice A' (infN (weaR n c l bd kk) (kept c l kk n).length (rC (kept c l kk n)) (rL (kept c l kk n)) (capB (wkB c l bd kk n))) cap', .int .i64 (infD (weaR n c l bd kk) (kept c l kk n).length (rC (kept c l kk n)) (rL (kept c l kk n)) (capB (wkB c l bd kk n)))], .bool (infB (weaR n c l bd kk) (kept c l kk n).length (rC (kept c l kk n)) (rL (kept c l kk n)) (capB (wkB c l bd kk n)))]) (by simp [results, Try.results47, go_sem, r0, r1]) rfl ?_
  exact ⟨A', cap', rfl, ((HF.out.far' (by simp) (by simp) _).far' (by simp) (by simp) _).more (by first | (simp; done) | (simp; omega)), (HB.out.setCell (by simp) _).setCell (by simp) _, hcap⟩
end Go.Proofs.Ytipblbcedkhmbaa
