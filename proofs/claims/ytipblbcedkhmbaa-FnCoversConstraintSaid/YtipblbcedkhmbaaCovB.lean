/- Contracts of the model's CoversConstraint (no claim of its own). Conditions: as each theorem states. -/
import Derived.Test.YtipblbcedkhmbaaCovM
import Derived.StillTailTactics
import Derived.Deep.DeepCutAuto
import Derived.Outline
import Derived.Deep.RegionHeld3
namespace Go.Proofs.Ytipblbcedkhmbaa
open Go.ChangeShapes Go.WideShapes Go.ChangeAt Go.RowKit

set_option maxRecDepth 100000 in
set_option maxHeartbeats 800000 in
theorem l2Coef_any (A : Option Addr) (n cap : Nat) (bd t : Int) (c l : Nat → Int) (w : World) (hn : n ≤ 1048576) (hr : Rd w w.heap.size A n c l) :
    Calls Try.prog 103 #[.agg #[.slice A n cap, .int .i64 bd], .int .i64 t] w fun e w' => e = .returned (.int .i64 (coefR (lst c l 0 n) t)) ∧ Below w.heap.size w w' := by
  go_enter Try.func103, Try.ntmps103
  go_wp2
  go_loopw [5] (fun i wr => ∃ k : Nat, k ≤ n ∧ i = .int .i64 k ∧ coefR (lst c l k (n - k)) t = coefR (lst c l 0 n) t ∧ wr.cell? ⟨w.heap.size, 0, none⟩ = some (.slice A n cap) ∧ Below w.heap.size w wr ∧ w.heap.size < wr.heap.size) (fun i _ => n - (intOf i).toNat)
  case atStart => exact ⟨0, Nat.zero_le _, rfl, rfl, by go_simp, bl_alloc (Below.refl _ _) _, by simp⟩
  case round =>
    obtain ⟨k, hk, rfl, hcf, a0, hb, hz⟩ := hrel
    by_cases hlt : k < n
    · obtain ⟨b, off, rfl, hbl, hc⟩ := (hr.below hb) (by omega)
      obtain ⟨hc1, hc2⟩ := hc k hlt
      have hkI : (k : Int) < (n : Int) := by omega
      have hkJ : (0 : Int) ≤ (k : Int) := by omega
      have Hb := Lib.hid hb
      have hst : coefR (lst c l k (n - k)) t = if l k = t then c k else coefR (lst c l (k + 1) (n - (k + 1))) t := by
        obtain ⟨q, hq⟩ : ∃ q, n - k = q + 1 := ⟨n - k - 1, by omega⟩
        rw [hq, show n - (k + 1) = q by omega]
        rfl
      have Hst := Lib.hid hst
      have Hcf := Lib.hid hcf
      clear hc hr hb hst hcf
      by_cases he : l k = t
      · have hq : (l k == t) = true := by simp [he]
        have hv := Lib.hid (show coefR (lst c l 0 n) t = c k from by rw [← Hcf.out, Hst.out, if_pos he])
        clear he
        go_wp2
        go_ret
        exact ⟨ret_int hv.out.symm, by repeat (first | exact Hb.out | refine bl_alloc ?_ _ | refine Below.drew ?_)⟩
      · have hq : (l k == t) = false := by simp [he]
        have hv := Lib.hid (show coefR (lst c l (k + 1) (n - (k + 1))) t = coefR (lst c l 0 n) t from by rw [← Hcf.out, Hst.out, if_neg he])
        clear he
        go_wp2
        go_roundw
        case rel => exact ⟨k + 1, by omega, by go_num, hv.out, a0, Hb.out, hz⟩
        case measure => simp [intOf]; omega
    · have e : k = n := by omega
      subst e
      have hv := Lib.hid (show coefR (lst c l 0 k) t = 0 from by rw [← hcf, Nat.sub_self]; rfl)
      have Hb := Lib.hid hb
      clear hr hcf hb
      go_wp2
      go_ret
      exact ⟨ret_int hv.out.symm, Hb.out⟩

def losN (c l : Nat → Int) (ys : List (Int × Int)) : Nat → Int
  | 0 => 0
  | k + 1 => losN c l ys k + max0 (c k - coefR ys (l k))
theorem losN_lst (c l : Nat → Int) (ys : List (Int × Int)) : ∀ m i, losN c l ys i + losR (lst c l i m) ys = losN c l ys (i + m) := by
  intro m
  induction m with
  | zero => intro i; simp [lst, losR]
  | succ m ih =>
    intro i
    have := ih (i + 1)
    show losN c l ys i + (max0 (c i - coefR ys (l i)) + losR (lst c l (i + 1) m) ys) = _
    rw [show i + (m + 1) = (i + 1) + m by omega, ← this]
    show _ = losN c l ys i + max0 (c i - coefR ys (l i)) + losR (lst c l (i + 1) m) ys
    omega

theorem coefR_bnd {ys : List (Int × Int)} (h : srt ys) (t : Int) : 0 ≤ coefR ys t ∧ coefR ys t ≤ 1000 := by
  induction ys with
  | nil => exact ⟨Int.le_refl _, by show (0 : Int) ≤ 1000; omega⟩
  | cons y ys ih =>
    unfold coefR
    split
    · have := h.1.2; omega
    · exact ih h.2.2
theorem losN_bnd {c l : Nat → Int} {ys : List (Int × Int)} {n : Nat} (hc : ∀ i, i < n → 1 ≤ c i ∧ c i ≤ 1000) (h : srt ys) : ∀ k, k ≤ n → 0 ≤ losN c l ys k ∧ losN c l ys k ≤ 1000 * (k : Int) := by
  intro k
  induction k with
  | zero => intro _; exact ⟨Int.le_refl _, by show (0 : Int) ≤ 1000 * 0; omega⟩
  | succ k ih =>
    intro hk
    have h1 := ih (by omega)
    have h2 := hc k (by omega)
    have h3 := coefR_bnd h (l k)
    unfold losN max0
    split <;> omega
theorem valid_coef' {n : Nat} {c l : Nat → Int} {bd : Int} (h : validB n c l bd = true) {i : Nat} (hi : i < n) : 1 ≤ c i ∧ c i ≤ 1000 := by
  unfold validB at h
  rw [Bool.and_eq_true] at h
  exact okAt_coef (vtB_at h.1 hi)

set_option maxRecDepth 100000 in
set_option maxHeartbeats 1600000 in
theorem l2Covers_any (A A' : Option Addr) (N N' cap cap' : Nat) (bd bd' : Int) (c l c' l' : Nat → Int) (hN : N ≤ 1048576) (hN' : N' ≤ 1048576) (w : World)
    (hr : Rd w w.heap.size A N c l) (hr' : Rd w w.heap.size A' N' c' l') (hv : validB N c l bd = true) (hv' : validB N' c' l' bd' = true) :
    Calls Try.prog 90 #[.agg #[.slice A N cap, .int .i64 bd], .agg #[.slice A' N' cap', .int .i64 bd']] w fun e w' => e = .returned (.bool (decide (bd' ≤ wrap64 (bd - losN c l (lst c' l' 0 N') N)))) ∧ Below w.heap.size w w' := by
  have Hv := Lib.hid hv
  have Hv' := Lib.hid hv'
  clear hv hv'
  go_enter Try.func90, Try.ntmps90
  go_wp2
  go_loopw [5, 6] (fun s i wr => ∃ k : Nat, k ≤ N ∧ i = .int .i64 k ∧ s = .int .i64 (losN c l (lst c' l' 0 N') k) ∧ wr.cell? ⟨w.heap.size, 0, none⟩ = some (.slice A N cap) ∧ wr.cell? ⟨w.heap.size, 1, none⟩ = some (.int .i64 bd) ∧ wr.cell? ⟨w.heap.size + 1, 0, none⟩ = some (.slice A' N' cap') ∧ wr.cell? ⟨w.heap.size + 1, 1, none⟩ = some (.int .i64 bd') ∧ Below w.heap.size w wr) (fun _ i _ => N - (intOf i).toNat)
  case atStart => exact ⟨0, Nat.zero_le _, rfl, rfl, by go_simp, by go_simp, by go_simp, by go_simp, bl_alloc (bl_alloc (Below.refl _ _) _) _⟩
  case round =>
    obtain ⟨k, hk, rfl, rfl, a0, a1, b0, b1, hb⟩ := hrel
    by_cases hlt : k < N
    · obtain ⟨b, off, rfl, hbl, hc⟩ := (hr.below hb) (by omega)
      obtain ⟨hc1, hc2⟩ := hc k hlt
      have hkI : (k : Int) < (N : Int) := by omega
      have hkJ : (0 : Int) ≤ (k : Int) := by omega
      have Hb := Lib.hid hb
      have hco := valid_coef' Hv.out hlt
      have hcr := coefR_bnd (srt_valid Hv'.out) (l k)
      have hls := losN_bnd (c := c) (l := l) (ys := lst c' l' 0 N') (fun i hi => valid_coef' Hv.out hi) (srt_valid Hv'.out) k hk
      have hw1 : IntKind.i64.wrap (c k - coefR (lst c' l' 0 N') (l k)) = c k - coefR (lst c' l' 0 N') (l k) := IntWalk.i64_in _ (by omega)
      have hw2 : wrap64 (losN c l (lst c' l' 0 N') k + (c k - coefR (lst c' l' 0 N') (l k))) = losN c l (lst c' l' 0 N') k + (c k - coefR (lst c' l' 0 N') (l k)) := by rw [← IntWalk.i64_left]; exact IntWalk.i64_in _ (by omega)
      have Hst := Lib.hid (show losN c l (lst c' l' 0 N') (k + 1) = losN c l (lst c' l' 0 N') k + max0 (c k - coefR (lst c' l' 0 N') (l k)) from rfl)
      clear hc hr hb hco hcr hls
      generalize hcf : coefR (lst c' l' 0 N') (l k) = cf at *
      have Hcf := Lib.hid hcf
      clear hcf
      go_upto_region 5 with fail
      go_region_held3 (fun w' => w'.cell? ⟨w.heap.size, 0, none⟩ = some (.slice (some ⟨b, off, none⟩) N cap) ∧ w'.cell? ⟨w.heap.size + 1, 0, none⟩ = some (.slice A' N' cap') ∧ w'.cell? ⟨w.heap.size + 1, 1, none⟩ = some (.int .i64 bd') ∧ w'.cell? ⟨b, off + k * 2, none⟩ = some (.int .i64 (c k)) ∧ w'.cell? ⟨b, off + k * 2 + 1, none⟩ = some (.int .i64 (l k))) (go_keep)
        (first
          | (go_at_call 103; refine (l2Coef_any _ _ _ _ _ c' l' wr.drew hN' (hr'.later Hb.out.drew)).mono ?_; rintro e w2 ⟨rfl, hb2⟩; rw [Hcf.out]; have HB2 := Lib.hid (bl_trans Hb.out.drew hb2); replace a0 := kc hb2 a0; replace a1 := kc hb2 a1; replace b0 := kc hb2 b0; replace b1 := kc hb2 b1; replace hc1 := kc hb2 hc1; replace hc2 := kc hb2 hc2; clear hb2))
      by_cases hd : 0 < c k - cf
      · have hv := Lib.hid (show losN c l (lst c' l' 0 N') (k + 1) = losN c l (lst c' l' 0 N') k + (c k - cf) from by rw [Hst.out]; unfold max0; rw [if_neg (by omega)])
        go_wp2
        go_roundw
        case rel => exact ⟨k + 1, by omega, by go_num, by rw [hv.out, hw2], a0, a1, b0, b1, HB2.out⟩
        case measure => simp [intOf]; omega
      · have hv := Lib.hid (show losN c l (lst c' l' 0 N') (k + 1) = losN c l (lst c' l' 0 N') k from by rw [Hst.out]; unfold max0; split <;> omega)
        go_wp2
        go_roundw
        case rel => exact ⟨k + 1, by omega, by go_num, by rw [hv.out], a0, a1, b0, b1, HB2.out⟩
        case measure => simp [intOf]; omega
    · have e : k = N := by omega
      subst e
      have Hb := Lib.hid hb
      clear hr hr' hb
      go_wp2
      go_ret
      exact ⟨rfl, Hb.out⟩

/-- Whether one constraint covers another. -/
def covB (N : Nat) (c l : Nat → Int) (bd : Int) (N' : Nat) (c' l' : Nat → Int) (bd' : Int) : Bool :=
  validB N c l bd && (validB N' c' l' bd' && decide (bd' ≤ bd - losR (lst c l 0 N) (lst c' l' 0 N')))

set_option maxRecDepth 100000 in
set_option maxHeartbeats 800000 in
theorem specCov_any (A A' : Option Addr) (N N' cap cap' : Nat) (bd bd' : Int) (c l c' l' : Nat → Int) (w : World) (hN : N ≤ 1048576) (hN' : N' ≤ 1048576)
    (hr : Rd w w.heap.size A N c l) (hr' : Rd w w.heap.size A' N' c' l') :
    Calls Try.prog 53 #[.agg #[.slice A N cap, .int .i64 bd], .agg #[.slice A' N' cap', .int .i64 bd']] w fun e w' => e = .returned (.bool (covB N c l bd N' c' l' bd')) ∧ Below w.heap.size w w' := by
  cases hv : validB N c l bd with
  | false =>
    have hR : covB N c l bd N' c' l' bd' = false := by unfold covB; rw [hv]; rfl
    rw [hR]
    have Hv := Lib.hid hv
    clear hv hR
    go_enter Try.func53, Try.ntmps53
    go_wp2_with fail
    refine (specValid_any _ _ _ _ c l _ hN (hr.later (bl_alloc (bl_alloc (Below.refl _ _) _) _))).mono ?_
    rintro e w1 ⟨rfl, hb⟩
    have HB1 := Lib.hid (bl_trans (bl_alloc (bl_alloc (Below.refl w.heap.size w) _) _) hb)
    clear hb
    rw [Hv.out]
    go_wp2
    go_ret
    exact ⟨rfl, HB1.out⟩
  | true =>
    cases hv' : validB N' c' l' bd' with
    | false =>
      have hR : covB N c l bd N' c' l' bd' = false := by unfold covB; rw [hv, hv']; rfl
      rw [hR]
      have Hv := Lib.hid hv
      have Hv' := Lib.hid hv'
      clear hv hv' hR
      go_enter Try.func53, Try.ntmps53
      go_wp2_with fail
      refine (specValid_any _ _ _ _ c l _ hN (hr.later (bl_alloc (bl_alloc (Below.refl _ _) _) _))).mono ?_
      rintro e w1 ⟨rfl, hb⟩
      have HB1 := Lib.hid (bl_trans (bl_alloc (bl_alloc (Below.refl w.heap.size w) _) _) hb)
      have b0 : w1.cell? ⟨w.heap.size + 1, 0, none⟩ = some (.slice A' N' cap') := kc hb (by go_simp)
      have b1 : w1.cell? ⟨w.heap.size + 1, 1, none⟩ = some (.int .i64 bd') := kc hb (by go_simp)
      clear hb
      rw [Hv.out]
      go_wp2_with fail
      refine (specValid_any _ _ _ _ c' l' _ hN' (hr'.later HB1.out)).mono ?_
      rintro e w2 ⟨rfl, hb⟩
      have HB2 := Lib.hid (bl_trans HB1.out hb)
      clear hb
      rw [Hv'.out]
      go_wp2
      go_ret
      exact ⟨rfl, HB2.out⟩
    | true =>
      have hR : covB N c l bd N' c' l' bd' = decide (bd' ≤ wrap64 (bd - losN c l (lst c' l' 0 N') N)) := by
        have h1 := losN_lst c l (lst c' l' 0 N') N 0
        have h2 : losN c l (lst c' l' 0 N') 0 = 0 := rfl
        rw [h2, Nat.zero_add, Int.zero_add] at h1
        have h3 := losN_bnd (c := c) (l := l) (ys := lst c' l' 0 N') (fun i hi => valid_coef' hv hi) (srt_valid hv') N (Nat.le_refl _)
        have h4 : 0 ≤ bd ∧ bd ≤ 20000 := by
          have := hv
          unfold validB at this
          rw [Bool.and_eq_true] at this
          simpa using this.2
        have h5 : wrap64 (bd - losN c l (lst c' l' 0 N') N) = bd - losN c l (lst c' l' 0 N') N := by rw [← IntWalk.i64_left]; exact IntWalk.i64_in _ (by omega)
        unfold covB
        rw [hv, hv', h5, h1]
        rfl
      rw [hR]
      have Hv := Lib.hid hv
      have Hv' := Lib.hid hv'
      clear hv hv' hR
      go_enter Try.func53, Try.ntmps53
      go_wp2_with fail
      refine (specValid_any _ _ _ _ c l _ hN (hr.later (bl_alloc (bl_alloc (Below.refl _ _) _) _))).mono ?_
      rintro e w1 ⟨rfl, hb⟩
      have HB1 := Lib.hid (bl_trans (bl_alloc (bl_alloc (Below.refl w.heap.size w) _) _) hb)
      have a0 : w1.cell? ⟨w.heap.size, 0, none⟩ = some (.slice A N cap) := kc hb (by go_simp)
      have a1 : w1.cell? ⟨w.heap.size, 1, none⟩ = some (.int .i64 bd) := kc hb (by go_simp)
      have b0 : w1.cell? ⟨w.heap.size + 1, 0, none⟩ = some (.slice A' N' cap') := kc hb (by go_simp)
      have b1 : w1.cell? ⟨w.heap.size + 1, 1, none⟩ = some (.int .i64 bd') := kc hb (by go_simp)
      clear hb
      rw [Hv.out]
      go_wp2_with fail
      refine (specValid_any _ _ _ _ c' l' _ hN' (hr'.later HB1.out)).mono ?_
      rintro e w2 ⟨rfl, hb⟩
      have HB2 := Lib.hid (bl_trans HB1.out hb)
      replace a0 := kc hb a0
      replace a1 := kc hb a1
      replace b0 := kc hb b0
      replace b1 := kc hb b1
      clear hb
      rw [Hv'.out]
      go_wp2_with fail
      refine (l2Covers_any _ _ _ _ _ _ _ _ c l c' l' hN hN' _ (hr.later HB2.out) (hr'.later HB2.out) Hv.out Hv'.out).mono ?_
      rintro e w3 ⟨rfl, hb⟩
      have HB3 := Lib.hid (bl_trans HB2.out hb)
      clear hb
      go_wp2
      go_ret
      exact ⟨rfl, HB3.out⟩
end Go.Proofs.Ytipblbcedkhmbaa
