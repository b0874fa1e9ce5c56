/- Contracts of the model's AddConstraints (no claim of its own). Conditions: as each theorem states. -/
import Derived.Test.YtipblbcedkhmbaaAddB
import Derived.Outline
import Derived.Test.YtipblbcedkhmbaaAddR
namespace Go.Proofs.Ytipblbcedkhmbaa
open Go.ChangeShapes Go.WideShapes Go.ChangeAt Go.RowKit Go.Shelf

theorem cat_zero (f g : Nat → Int) : cat2 0 f g = g := by funext i; simp [cat2]
theorem allN_of {c l : Nat → Int} {n : Nat} (h : ∀ k, k < n → okN c l k = true) : allN c l n = true := by
  induction n with
  | zero => rfl
  | succ n ih => exact allN_succ (ih fun k hk => h k (by omega)) (h n (by omega))
theorem allN_cat {c l c' l' : Nat → Int} {n m : Nat} (h : allN c l n = true) (h' : allN c' l' m = true) : allN (cat2 n c c') (cat2 n l l') (n + m) = true := by
  refine allN_of fun k hk => ?_
  by_cases e : k < n
  · have := allN_at h e
    unfold okN at this ⊢
    simp only [cat2, if_pos e]
    exact this
  · have := allN_at h' (show k - n < m by omega)
    unfold okN at this ⊢
    simp only [cat2, if_neg e]
    exact this
theorem valid_all {n : Nat} {c l : Nat → Int} {bd : Int} (h : validB n c l bd = true) : allN c l n = true :=
  allN_of fun k hk => okN_iff.2 ⟨litAt h hk, by have := valid_coef h hk; omega, by have := valid_coef h hk; omega⟩

set_option maxRecDepth 100000 in
set_option maxHeartbeats 1600000 in
theorem specAdd_val (A A' : Option Addr) (N N' cap cap' : Nat) (HC : Hid (A = none → cap = 0)) (HC' : Hid (A' = none → cap' = 0)) (bd bd' : Int) (c l c' l' : Nat → Int) (hN : N ≤ 12) (hN' : N' ≤ 12) (w : World) (hr : Rd w w.heap.size A N c l) (hr' : Rd w w.heap.size A' N' c' l') (hv : validB N c l bd = true) (hv' : validB N' c' l' bd' = true) (BB : Int) (HS : Hid (IntKind.i64.wrap (bd + bd') = BB)) :
    Calls Try.prog 50 #[.agg #[.slice A N cap, .int .i64 bd], .agg #[.slice A' N' cap', .int .i64 bd']] w
      (CRes w (fitN (rowsN (net (cat2 N c c') (cat2 N l l') (N + N')) 12) (bndN (net (cat2 N c c') (cat2 N l l') (N + N')) (nbd (cat2 N c c') (cat2 N l l') BB (N + N')) 12))
        (rC (rowsN (net (cat2 N c c') (cat2 N l l') (N + N')) 12)) (rL (rowsN (net (cat2 N c c') (cat2 N l l') (N + N')) 12))
        (fitD (rowsN (net (cat2 N c c') (cat2 N l l') (N + N')) 12) (bndN (net (cat2 N c c') (cat2 N l l') (N + N')) (nbd (cat2 N c c') (cat2 N l l') BB (N + N')) 12))
        (fitB (rowsN (net (cat2 N c c') (cat2 N l l') (N + N')) 12) (bndN (net (cat2 N c c') (cat2 N l l') (N + N')) (nbd (cat2 N c c') (cat2 N l l') BB (N + N')) 12))) := by
  have Hv := Lib.hid hv
  have Hv' := Lib.hid hv'
  clear hv hv'
  go_enter Try.func50, Try.ntmps50
  go_wp2_with fail
  refine (specValid_any _ _ _ _ c l _ (by omega) (hr.later (bl_alloc (bl_alloc (bl_alloc (Below.refl _ _) _) _) _))).mono ?_
  rintro e w1 ⟨rfl, hb⟩
  have HB1 := Lib.hid (bl_trans (bl_alloc (bl_alloc (bl_alloc (Below.refl w.heap.size w) _) _) _) hb)
  have a0 : w1.cell? ⟨w.heap.size, 0, none⟩ = some (.slice A N cap) := kc hb (by go_simp)
  have a1 : w1.cell? ⟨w.heap.size, 1, none⟩ = some (.int .i64 bd) := kc hb (by go_simp)
  have b0 : w1.cell? ⟨w.heap.size + 1, 0, none⟩ = some (.slice A' N' cap') := kc hb (by go_simp)
  have b1 : w1.cell? ⟨w.heap.size + 1, 1, none⟩ = some (.int .i64 bd') := kc hb (by go_simp)
  have r0 : w1.cell? ⟨w.heap.size + 1 + 1, 0, none⟩ = some (.slice none 0 0) := kc hb (by go_simp)
  have r1 : w1.cell? ⟨w.heap.size + 1 + 1, 1, none⟩ = some (.int .i64 0) := kc hb (by go_simp)
  have f0 : w1.frozen? ⟨w.heap.size + 1 + 1, 0, none⟩ = false := kf hb (by first | (simp; done) | (simp; omega)) (by go_simp)
  have f1 : w1.frozen? ⟨w.heap.size + 1 + 1, 1, none⟩ = false := kf hb (by first | (simp; done) | (simp; omega)) (by go_simp)
  clear hb
  rw [Hv.out]
  go_wp2_with fail
  refine (specValid_any _ _ _ _ c' l' _ (by omega) (hr'.later HB1.out)).mono ?_
  rintro e w2 ⟨rfl, hb⟩
  have HB2 := Lib.hid (bl_trans HB1.out hb)
  have q1 : w.heap.size + 1 + 1 < w1.heap.size := World.block_lt_of_cell? w1 _ r0
  replace a0 := kc hb a0
  replace a1 := kc hb a1
  replace b0 := kc hb b0
  replace b1 := kc hb b1
  replace r0 := kc hb r0
  replace r1 := kc hb r1
  replace f0 := kf hb q1 f0
  replace f1 := kf hb q1 f1
  have q2 : w.heap.size + 1 + 1 < w2.heap.size := World.block_lt_of_cell? w2 _ r0
  have q3 : w.heap.size + 1 < w2.heap.size := by omega
  have q4 : w.heap.size < w2.heap.size := by omega
  clear hb
  rw [Hv'.out]
  go_wp2_with fail
  have hall : allN (cat2 N c c') (cat2 N l l') (N + N') = true := allN_cat (valid_all Hv.out) (valid_all Hv'.out)
  have hsum := HS.out
  have Hr := Lib.hid hr
  have Hr' := Lib.hid hr'
  have Hall := Lib.hid hall
  have A0 := Lib.hid a0
  have A1 := Lib.hid a1
  have B0 := Lib.hid b0
  have B1 := Lib.hid b1
  have S2 := Lib.hid (World.block_lt_of_cell? w2 _ r0)
  clear hr hr' hall
  go_region_held3 (fun w' => w'.cell? ⟨w.heap.size, 0, none⟩ = some (.slice A N cap) ∧ w'.cell? ⟨w.heap.size, 1, none⟩ = some (.int .i64 bd) ∧ w'.cell? ⟨w.heap.size + 1, 0, none⟩ = some (.slice A' N' cap') ∧ w'.cell? ⟨w.heap.size + 1, 1, none⟩ = some (.int .i64 bd')) (go_keep)
    (first
      | (go_at_call 63; refine (l1Net_any A4 (N + N') cap4 _ (cat2 N c c') (cat2 N l l') _ (by omega) hF4.out.rdAt Hall.out).mono ?_; rintro e w5 ⟨G, rfl, hG, hown5, hb⟩; have HB25 := Lib.hid (HB4.out.trans (hb.mono HB4.out.size)); have HB5 := Lib.hid (bl_trans HB2.out HB25.out); replace a0 := kc hb a0; replace a1 := kc hb a1; replace b0 := kc hb b0; replace b1 := kc hb b1; clear hb)
      | (refine step_appR (by rfl) _ _ (by rfl) (by rfl) (by rfl) (by rfl) (B0 := w2.heap.size) (n := 0) (c := c) (l := l) (by first | exact (World.ownsRow_made w2 #[] 0 (Nat.le_refl _) (Nat.zero_le _) (by simp)).drew | exact World.ownsRow_made w2.drew #[] 0 (Nat.le_refl _) (Nat.zero_le _) (by simp)) (Rd.later Hr.out (bl_trans HB2.out (by first | exact ((Below.refl w2.heap.size w2).alloc (Nat.le_refl _) _).drew | exact (Below.refl w2.heap.size w2).drew.alloc (Nat.le_refl _) _))) HC.out (by simp) (by omega) ?_; intro v3 w3 hown3 hb3; rw [Nat.zero_add, cat_zero, cat_zero] at hown3; have HB3 := Lib.hid (Below.trans (B := w2.heap.size) (a := w2) (by first | exact ((Below.refl w2.heap.size w2).alloc (Nat.le_refl _) _).drew | exact (Below.refl w2.heap.size w2).drew.alloc (Nat.le_refl _) _) hb3); clear hb3; have a0 := (HB3.out.cell q4).trans A0.out; have a1 := (HB3.out.cell q4).trans A1.out; have b0 := (HB3.out.cell q3).trans B0.out; have b1 := (HB3.out.cell q3).trans B1.out)
      | (refine step_appR (by rfl) _ _ (by rfl) (by rfl) (by rfl) (by rfl) hown3 (Rd.later Hr'.out (bl_trans HB2.out HB3.out)) HC'.out HB3.out.size (by omega) ?_; intro v4 w4 hown4 hb4; obtain ⟨A4, cap4, rfl, hF4'⟩ := frs_of_row hown4; have hF4 := Lib.hid hF4'; clear hF4' hown4 hown3; have HB4 := Lib.hid (HB3.out.trans hb4); clear hb4; have a0 := (HB4.out.cell q4).trans A0.out; have a1 := (HB4.out.cell q4).trans A1.out; have b0 := (HB4.out.cell q3).trans B0.out; have b1 := (HB4.out.cell q3).trans B1.out))
  replace r0 := kc HB25.out r0
  replace r1 := kc HB25.out r1
  replace f0 := kf HB25.out S2.out f0
  replace f1 := kf HB25.out S2.out f1
  have hq1 : w.heap.size + 1 + 1 < w5.heap.size := World.block_lt_of_cell? w5 _ r0
  clear a0 a1 b0 b1
  generalize net (cat2 N c c') (cat2 N l l') (N + N') = F at *
  generalize nbd (cat2 N c c') (cat2 N l l') BB (N + N') = Z at *
  clear hsum Hall hN hN' HC HC' Hr Hr' A0 A1 B0 B1 hF4 HB4
  go_wp2_with fail
  refine (l1Normal_walk G F Z _ hown5).mono ?_
  rintro e w6 ⟨A2, cap2, rfl, hF, hb⟩
  have HB6 := Lib.hid (bl_trans HB5.out hb)
  have HF := Lib.hid (hF.more (B' := w.heap.size + 1 + 1 + 1) (by omega))
  replace r0 := kc hb r0
  replace r1 := kc hb r1
  replace f0 := kf hb hq1 f0
  replace f1 := kf hb hq1 f1
  clear hF hb hown5
  clear a0 a1 b0 b1
  clear a0 a1 b0 b1
  generalize fitN (rowsN F 12) (bndN F Z 12) = fn at *
  generalize fitD (rowsN F 12) (bndN F Z 12) = fd at *
  generalize fitB (rowsN F 12) (bndN F Z 12) = fb at *
  go_wp2
  refine bodyPost_ret (v := .tuple #[.agg #[.slice A2 fn cap2, .int .i64 fd], .bool fb]) (by simp [results, Try.results50, go_sem, r0, r1]) rfl ?_
  exact ⟨A2, cap2, rfl, ((HF.out.far (by simp) (by simp) _).far (by simp) (by simp) _).more (by omega), (HB6.out.setCell (by first | (simp; done) | (simp; omega)) _).setCell (by first | (simp; done) | (simp; omega)) _⟩

set_option maxRecDepth 100000 in
set_option maxHeartbeats 1600000 in
theorem specAdd_not (A A' : Option Addr) (N N' cap cap' : Nat) (bd bd' : Int) (c l c' l' : Nat → Int) (hN : N ≤ 1048576) (hN' : N' ≤ 1048576) (w : World) (hr : Rd w w.heap.size A N c l) (hr' : Rd w w.heap.size A' N' c' l') (hno : adRB N c l bd N' c' l' bd' = false) :
    Calls Try.prog 50 #[.agg #[.slice A N cap, .int .i64 bd], .agg #[.slice A' N' cap', .int .i64 bd']] w (CRes w 0 (rC []) (rL []) 0 false) := by
  have Hr' := Lib.hid hr'
  clear hr'
  go_enter Try.func50, Try.ntmps50
  go_wp2_with fail
  refine (specValid_any _ _ _ _ c l _ hN (hr.later (bl_alloc (bl_alloc (bl_alloc (Below.refl _ _) _) _) _))).mono ?_
  rintro e w1 ⟨rfl, hb⟩
  have HB1 := Lib.hid (bl_trans (bl_alloc (bl_alloc (bl_alloc (Below.refl w.heap.size w) _) _) _) hb)
  have b0 : w1.cell? ⟨w.heap.size + 1, 0, none⟩ = some (.slice A' N' cap') := kc hb (by go_simp)
  have b1 : w1.cell? ⟨w.heap.size + 1, 1, none⟩ = some (.int .i64 bd') := kc hb (by go_simp)
  have r0 : w1.cell? ⟨w.heap.size + 1 + 1, 0, none⟩ = some (.slice none 0 0) := kc hb (by go_simp)
  have r1 : w1.cell? ⟨w.heap.size + 1 + 1, 1, none⟩ = some (.int .i64 0) := kc hb (by go_simp)
  have f0 : w1.frozen? ⟨w.heap.size + 1 + 1, 0, none⟩ = false := kf hb (by first | (simp; done) | (simp; omega)) (by go_simp)
  have f1 : w1.frozen? ⟨w.heap.size + 1 + 1, 1, none⟩ = false := kf hb (by first | (simp; done) | (simp; omega)) (by go_simp)
  clear hb hr
  cases hv : validB N c l bd with
  | false =>
    clear hno
    go_wp2
    refine bodyPost_ret (v := .tuple #[.agg #[.slice none 0 0, .int .i64 0], .bool false]) (by simp [results, Try.results50, go_sem, r0, r1]) rfl ?_
    exact ⟨none, 0, rfl, .inl rfl, (HB1.out.setCell (by first | (simp; done) | (simp; omega)) _).setCell (by first | (simp; done) | (simp; omega)) _⟩
  | true =>
    have hv' : validB N' c' l' bd' = false := by unfold adRB at hno; rw [hv, Bool.true_and] at hno; exact hno
    have Hv' := Lib.hid hv'
    clear hno hv hv'
    go_wp2_with fail
    refine (specValid_any _ _ _ _ c' l' _ hN' (Hr'.out.later HB1.out)).mono ?_
    rintro e w2 ⟨rfl, hb⟩
    have HB2 := Lib.hid (bl_trans HB1.out hb)
    have q1 : w.heap.size + 1 + 1 < w1.heap.size := World.block_lt_of_cell? w1 _ r0
    replace r0 := kc hb r0
    replace r1 := kc hb r1
    replace f0 := kf hb q1 f0
    replace f1 := kf hb q1 f1
    clear hb
    rw [Hv'.out]
    go_wp2
    refine bodyPost_ret (v := .tuple #[.agg #[.slice none 0 0, .int .i64 0], .bool false]) (by simp [results, Try.results50, go_sem, r0, r1]) rfl ?_
    exact ⟨none, 0, rfl, .inl rfl, (HB2.out.setCell (by first | (simp; done) | (simp; omega)) _).setCell (by first | (simp; done) | (simp; omega)) _⟩
end Go.Proofs.Ytipblbcedkhmbaa
