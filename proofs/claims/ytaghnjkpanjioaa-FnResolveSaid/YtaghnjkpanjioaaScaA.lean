/- Contracts of the program's scaling: MultiplyConstraint and DivideConstraint (no claim of its own). Conditions: as each theorem states. -/
import Derived.Test.YtaghnjkpanjioaaInfA
import Derived.Test.YtaghnjkpanjioaaCloA
import Derived.Shelf.Abstract
import Derived.StillTailTactics
import Derived.Outline
namespace Go.Proofs.Ytaghnjkpanjioaa
open Go.ChangeShapes Go.WideShapes Go.ChangeAt Go.RowKit Go.Shelf

/-- Whether the arguments of a scaling are as the rule describes them. -/
def scaR (n : Nat) (c l : Nat → Int) (bd k : Int) : Bool := validB n c l bd && (decide (1 ≤ k) && decide (k ≤ 1000))
theorem scaR_iff {n : Nat} {c l : Nat → Int} {bd k : Int} : scaR n c l bd k = true ↔ validB n c l bd = true ∧ 1 ≤ k ∧ k ≤ 1000 := by simp [scaR]

set_option maxRecDepth 100000 in
set_option maxHeartbeats 800000 in
theorem scaReady_any (A : Option Addr) (n cap : Nat) (bd kk : Int) (g : Nat) (c l : Nat → Int) (w : World) (hn : n ≤ 1048576) (hr : Rd w w.heap.size A n c l) :
    Calls Try.prog 173 #[.agg #[.slice A n cap, .int .i64 bd, .int .i64 kk, .func (.func g) #[] #[]]] w fun e w' => e = .returned (.bool (scaR n c l bd kk)) ∧ Below w.heap.size w w' := by
  cases hv : validB n c l bd with
  | false =>
    have hR : scaR n c l bd kk = false := by unfold scaR; rw [hv]; rfl
    rw [hR]
    have Hv := Lib.hid hv
    clear hv hR
    go_enter Try.func173, Try.ntmps173
    go_wp2_with fail
    refine (implValid_any _ _ _ _ c l _ hn (hr.later (bl_alloc (Below.refl _ _) _))).mono ?_
    rintro e w1 ⟨rfl, hb⟩
    have HB := Lib.hid (bl_trans (bl_alloc (Below.refl w.heap.size w) _) hb)
    clear hb
    rw [Hv.out]
    go_wp2
    go_ret
    exact ⟨rfl, HB.out⟩
  | true =>
    have hR : scaR n c l bd kk = (decide (1 ≤ kk) && decide (kk ≤ 1000)) := by unfold scaR; rw [hv]; rfl
    have HR := Lib.hid hR
    have Hv := Lib.hid hv
    clear hv hR
    go_enter Try.func173, Try.ntmps173
    go_wp2_with fail
    refine (implValid_any _ _ _ _ c l _ hn (hr.later (bl_alloc (Below.refl _ _) _))).mono ?_
    rintro e w1 ⟨rfl, hb⟩
    have HB := Lib.hid (bl_trans (bl_alloc (Below.refl w.heap.size w) _) hb)
    have a2 : w1.cell? ⟨w.heap.size, 2, none⟩ = some (.int .i64 kk) := kc hb (by go_simp)
    clear hb
    rw [Hv.out]
    by_cases h1 : 1 ≤ kk
    · by_cases h2 : kk ≤ 1000
      · go_wp2
        go_ret
        exact ⟨ret_bool (by rw [HR.out]; simp [h1, h2]), HB.out⟩
      · go_wp2
        go_ret
        exact ⟨ret_bool (by rw [HR.out, decide_eq_false (show ¬ kk ≤ 1000 by omega), Bool.and_false]), HB.out⟩
    · go_wp2
      go_ret
      exact ⟨ret_bool (by rw [HR.out, decide_eq_false (show ¬ 1 ≤ kk by omega), Bool.false_and]), HB.out⟩

set_option maxRecDepth 100000 in
set_option maxHeartbeats 1600000 in
theorem scaDiv_any (A : Option Addr) (n cap : Nat) (bd kk : Int) (f : Int → Int) (c l : Nat → Int) (w : World) (hn : n ≤ 1048576) (hr : Rd w w.heap.size A n c l)
    (hg : ∀ x W, (x = bd ∨ ∃ i, i < n ∧ x = c i) → Calls Try.prog 73 #[.int .i64 x, .int .i64 kk] W fun e w' => e = .returned (.int .i64 (f x)) ∧ w' = W) :
    Calls Try.prog 172 #[.agg #[.slice A n cap, .int .i64 bd, .int .i64 kk, .func (.func 73) #[] #[]]] w (ARes w n (fun i => f (c i)) l (f bd)) := by
  have Hg := Lib.hid hg
  clear hg
  go_enter Try.func172, Try.ntmps172
  go_wp2_with fail
  refine (clone_any _ _ _ c l _ hn (hr.later (bl_alloc (bl_alloc (Below.refl _ _) _) _))).mono ?_
  rintro e w1 ⟨A', cap', rfl, hF, hb⟩
  have HB1 := Lib.hid (bl_trans (bl_alloc (bl_alloc (Below.refl w.heap.size w) _) _) hb)
  have a1 : w1.cell? ⟨w.heap.size, 1, none⟩ = some (.int .i64 bd) := kc hb (by go_simp)
  have a2 : w1.cell? ⟨w.heap.size, 2, none⟩ = some (.int .i64 kk) := kc hb (by go_simp)
  have a3 : w1.cell? ⟨w.heap.size, 3, none⟩ = some (.func (.func 73) #[] #[]) := kc hb (by go_simp)
  have r0 : w1.cell? ⟨w.heap.size + 1, 0, none⟩ = some (.slice none 0 0) := kc hb (by go_simp)
  have r1 : w1.cell? ⟨w.heap.size + 1, 1, none⟩ = some (.int .i64 0) := kc hb (by go_simp)
  have f0 : w1.frozen? ⟨w.heap.size + 1, 0, none⟩ = false := kf hb (by simp) (by go_simp)
  have f1 : w1.frozen? ⟨w.heap.size + 1, 1, none⟩ = false := kf hb (by simp) (by go_simp)
  have hF2 := hF.more (B' := w.heap.size + 2) (by simp)
  clear hb hF hr
  go_wp2
  go_loopw [11] (fun i wr => ∃ k : Nat, k ≤ n ∧ i = .int .i64 k ∧ Frs wr (w.heap.size + 2) A' n (mix (fun i => f (c i)) c k) l ∧ Below (w.heap.size + 2) w1 wr) (fun i _ => n - (intOf i).toNat)
  case atStart => exact ⟨0, Nat.zero_le _, rfl, by rw [mix_zero]; exact hF2, Below.refl _ _⟩
  case round =>
    obtain ⟨k, hk, rfl, hown, hb⟩ := hrel
    have b1 := (hb.cell (p := ⟨w.heap.size, 1, none⟩) (by show w.heap.size < _; omega)).trans a1
    have b2 := (hb.cell (p := ⟨w.heap.size, 2, none⟩) (by show w.heap.size < _; omega)).trans a2
    have b3 := (hb.cell (p := ⟨w.heap.size, 3, none⟩) (by show w.heap.size < _; omega)).trans a3
    by_cases hlt : k < n
    · obtain ⟨G, rfl, hG, hu⟩ : ∃ G, A' = some ⟨G, 0, none⟩ ∧ w.heap.size + 2 ≤ G ∧ OwnU wr G n n (mix (fun i => f (c i)) c k) l := by
        rcases hown with h | h
        · omega
        · exact h
      obtain ⟨cs, hh, hsz, hat⟩ := hu
      have hcl : wr.cell? ⟨G, k * 2, none⟩ = some (.int .i64 (c k)) := by
        have := (hat k hlt).1
        rw [mix_at] at this
        exact (cell_of_row wr G _ cs _ _ hh).trans this
      have hfr : wr.frozen? ⟨G, k * 2, none⟩ = false := frozen_row hh _
      have hu : OwnU wr G n n (mix (fun i => f (c i)) c k) l := ⟨cs, hh, hsz, hat⟩
      have Hu := Lib.hid hu
      have Hb := Lib.hid hb
      have hcall := fun X => Hg.out (c k) X (.inr ⟨k, hlt, rfl⟩)
      have hkI : (k : Int) < (n : Int) := by omega
      have hkJ : (0 : Int) ≤ (k : Int) := by omega
      clear hown hb hu hat hh hsz
      go_upto_region 5 with fail
      refine wp_region_still_tail 14 (by kernel_rfl) (by kernel_rfl) ?_
      change wpStill _ _ wr.drew (fun a' => wpList _ _ _ _ a' wr.drew) _ _
      simp only [List.take_succ_cons, List.take_zero, List.drop_succ_cons, List.drop_zero]
      repeat (first | still_step | still_call (hcall _))
      refine wpStill_nil ?_
      go_wp2
      go_roundw
      case rel => exact ⟨k + 1, by omega, by go_num, .inr ⟨G, rfl, hG, (Hu.out.coef hlt rfl).at_ rfl⟩, (Hb.out.setCell hG _).drew⟩
      case measure => simp [intOf]; omega
    · have e : k = n := by omega
      subst e
      have s0 := (hb.cell (p := ⟨w.heap.size + 1, 0, none⟩) (by show w.heap.size + 1 < _; omega)).trans r0
      have s1 := (hb.cell (p := ⟨w.heap.size + 1, 1, none⟩) (by show w.heap.size + 1 < _; omega)).trans r1
      have g0 := (hb.frozen (p := ⟨w.heap.size + 1, 0, none⟩) (by show w.heap.size + 1 < _; omega)).trans f0
      have g1 := (hb.frozen (p := ⟨w.heap.size + 1, 1, none⟩) (by show w.heap.size + 1 < _; omega)).trans f1
      have hF := frs_mixed hown
      have HF := Lib.hid hF
      have HB := Lib.hid (HB1.out.trans (hb.mono (by omega)))
      have hcall := fun X => Hg.out bd X (.inl rfl)
      clear hown hb hF
      go_wp2_with (go_at_call 73; refine (hcall _).mono ?_; rintro e w' ⟨rfl, rfl⟩)
      refine bodyPost_ret (v := .agg #[.slice A' k cap', .int .i64 (f bd)]) (by simp [results, Try.results172, go_sem, s0, s1]) rfl ?_
      exact ⟨A', cap', rfl, ((HF.out.far' (by simp) (by simp) _).far' (by simp) (by simp) _).more (by omega), (HB.out.setCell (by simp) _).setCell (by simp) _⟩


/-- A product, as Go computes it; a quotient, rounded up, as Go computes it. -/
def mulK (x k : Int) : Int := wrap64 (x * k)
def divK (x k : Int) : Int := (x + k - 1) / k

theorem up_any (x k : Int) (w : World) (h0 : 0 ≤ x) (h1 : x ≤ 20000) (h2 : 1 ≤ k) (h3 : k ≤ 1000) :
    Calls Try.prog 73 #[.int .i64 x, .int .i64 k] w fun e w' => e = .returned (.int .i64 (divK x k)) ∧ w' = w := by
  have hk : (k == 0) = false := by simp; omega
  have hk1 : k ≠ 0 := by omega
  go_enter Try.func73, Try.ntmps73
  go_wp2
  go_ret
  exact ⟨rfl, rfl⟩

theorem implDivide_any (A : Option Addr) (n cap : Nat) (bd kk : Int) (c l : Nat → Int) (w : World) (hn : n ≤ 1048576) (hr : Rd w w.heap.size A n c l) :
    Calls Try.prog 41 #[.agg #[.slice A n cap, .int .i64 bd], .int .i64 kk] w (CRes w (infN (scaR n c l bd kk) n (fun i => divK (c i) kk) l (divK bd kk)) (fun i => divK (c i) kk) l (infD (scaR n c l bd kk) n (fun i => divK (c i) kk) l (divK bd kk)) (infB (scaR n c l bd kk) n (fun i => divK (c i) kk) l (divK bd kk))) := by
  have hm1 : ∀ w : World, (method 300 107 (.agg #[.slice A n cap, .int .i64 bd, .int .i64 kk, .func (.func 73) #[] #[]]) "loop.example/cuttingplanes/impl.ready").run Try.prog w = .ok (173, .agg #[.slice A n cap, .int .i64 bd, .int .i64 kk, .func (.func 73) #[] #[]]) w := fun _ => by kernel_rfl
  have hm2 : ∀ w : World, (method 300 107 (.agg #[.slice A n cap, .int .i64 bd, .int .i64 kk, .func (.func 73) #[] #[]]) "loop.example/cuttingplanes/impl.apply").run Try.prog w = .ok (172, .agg #[.slice A n cap, .int .i64 bd, .int .i64 kk, .func (.func 73) #[] #[]]) w := fun _ => by kernel_rfl
  have HI := Lib.hid (fun (W : World) (hb : Below w.heap.size w W) => infer_any 107 (.agg #[.slice A n cap, .int .i64 bd, .int .i64 kk, .func (.func 73) #[] #[]]) 173 172 (scaR n c l bd kk) n (fun i => divK (c i) kk) l (divK bd kk) W hn hm1 hm2
    (enters_of Try.func173 (by kernel_rfl) rfl) (enters_of Try.func172 (by kernel_rfl) rfl)
    (fun W' hb' => scaReady_any A n cap bd kk 73 c l W' hn (hr.later (bl_trans hb hb'))) (fun hR W' hb' => scaDiv_any A n cap bd kk (fun x => divK x kk) c l W' hn (hr.later (bl_trans hb hb')) (fun x W hx => by
      obtain ⟨hv, h2, h3⟩ := scaR_iff.1 hR
      rcases hx with rfl | ⟨i, hi, rfl⟩
      · exact up_any _ kk W (valid_bd hv).1 (valid_bd hv).2 h2 h3
      · have := valid_coef hv hi
        exact up_any _ kk W (by omega) (by omega) h2 h3)))
  clear hm1 hm2 hr
  go_enter Try.func41, Try.ntmps41
  go_wp2_with fail
  refine (HI.out _ (by repeat (first | exact Below.refl _ _ | refine bl_alloc ?_ _ | refine Below.drew ?_))).mono ?_
  rintro e w1 ⟨A', cap', rfl, hF, hb⟩
  have HF := Lib.hid hF
  have HB := Lib.hid (bl_trans (bl_alloc (bl_alloc (Below.refl w.heap.size w) _) _) hb)
  have r0 : w1.cell? ⟨w.heap.size + 1, 0, none⟩ = some (.slice none 0 0) := kc hb (by go_simp)
  have r1 : w1.cell? ⟨w.heap.size + 1, 1, none⟩ = some (.int .i64 0) := kc hb (by go_simp)
  have f0 : w1.frozen? ⟨w.heap.size + 1, 0, none⟩ = false := kf hb (by simp) (by go_simp)
  have f1 : w1.frozen? ⟨w.heap.size + 1, 1, none⟩ = false := kf hb (by simp) (by go_simp)
  clear hF hb
  go_wp2
  refine bodyPost_ret (v := .tuple #[.agg #[.slice A' (infN (scaR n c l bd kk) n (fun i => divK (c i) kk) l (divK bd kk)) cap', .int .i64 (infD (scaR n c l bd kk) n (fun i => divK (c i) kk) l (divK bd kk))], .bool (infB (scaR n c l bd kk) n (fun i => divK (c i) kk) l (divK bd kk))]) (by simp [results, Try.results41, go_sem, r0, r1]) rfl ?_
  exact ⟨A', cap', rfl, ((HF.out.far' (by simp) (by simp) _).far' (by simp) (by simp) _).more (by first | (simp; done) | (simp; omega)), (HB.out.setCell (by simp) _).setCell (by simp) _⟩
end Go.Proofs.Ytaghnjkpanjioaa
