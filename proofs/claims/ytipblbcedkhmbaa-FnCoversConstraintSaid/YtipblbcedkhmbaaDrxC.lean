/- The draw of covering's arguments (no claim of its own). Conditions: as each theorem states. -/
import Derived.Test.YtipblbcedkhmbaaDrwY
import Derived.Test.YtipblbcedkhmbaaSpcC
namespace Go.Proofs.Ytipblbcedkhmbaa
open Go.ChangeShapes Go.WideShapes Go.ChangeAt Go.RowKit

theorem newbox {w0 W w1 : World} (hb : Below W.heap.size W w1) (hW : W.heap = (w0.alloc (.cells #[.slice none 0 0, .int .i64 0] 27)).heap) :
    w1.cell? ⟨w0.heap.size, 0, none⟩ = some (.slice none 0 0) ∧ w1.cell? ⟨w0.heap.size, 1, none⟩ = some (.int .i64 0) ∧ w1.frozen? ⟨w0.heap.size, 0, none⟩ = false ∧ w1.frozen? ⟨w0.heap.size, 1, none⟩ = false := by
  have hlt : w0.heap.size < W.heap.size := by rw [hW]; simp
  have h := (hb.block w0.heap.size hlt).trans (congrArg (fun h => h[w0.heap.size]?) hW)
  have h2 : w1.heap[w0.heap.size]? = some (.cells #[.slice none 0 0, .int .i64 0] 27) := h.trans (heap_alloc_new w0 _)
  refine ⟨?_, ?_, ?_, ?_⟩ <;> simp [World.cell?, World.frozen?, h2]
theorem newboxG {w0 W w1 : World} {R : Nat} (hb : Gr R W w1) (hW : W.heap = (w0.alloc (.cells #[.slice none 0 0, .int .i64 0] 27)).heap) (hR : R < w0.heap.size) :
    w1.cell? ⟨w0.heap.size, 0, none⟩ = some (.slice none 0 0) ∧ w1.cell? ⟨w0.heap.size, 1, none⟩ = some (.int .i64 0) ∧ w1.frozen? ⟨w0.heap.size, 0, none⟩ = false ∧ w1.frozen? ⟨w0.heap.size, 1, none⟩ = false := by
  have hlt : w0.heap.size < W.heap.size := by rw [hW]; simp
  have h := (hb.block w0.heap.size hlt (by intro e; cases e; omega)).trans (congrArg (fun h => h[w0.heap.size]?) hW)
  have h2 : w1.heap[w0.heap.size]? = some (.cells #[.slice none 0 0, .int .i64 0] 27) := h.trans (heap_alloc_new w0 _)
  refine ⟨?_, ?_, ?_, ?_⟩ <;> simp [World.cell?, World.frozen?, h2]

/-- What the draw of two constraints leaves. -/
def DCo (w : World) (e : Ending) (w' : World) : Prop := ∃ Aa ka capa bda ca la Ab kb capb bdb cb lb, e = .returned (.tuple #[.agg #[.slice Aa ka capa, .int .i64 bda], .agg #[.slice Ab kb capb, .int .i64 bdb]]) ∧ ka ≤ 13 ∧ kb ≤ 13 ∧ Rd w' w'.heap.size Aa ka ca la ∧ Rd w' w'.heap.size Ab kb cb lb ∧ ka ≤ capa ∧ kb ≤ capb ∧ Below w.heap.size w w'

set_option maxRecDepth 100000 in
set_option maxHeartbeats 6400000 in
theorem drawCov_any (A : Option Addr) (n cap : Nat) (y : Nat → Int) (w : World) (hm : n ≤ maxLen) (hcap : n ≤ cap) (hr : RdY w w.heap.size A n y) :
    Calls Try.prog 51 #[.slice A n cap] w (DCo w) := by
  have HR := Lib.hid hr
  clear hr
  go_enter Try.func51, Try.ntmps51
  go_upto_region 1 with fail
  have HB0 := Lib.hid (bl_alloc (bl_alloc (Below.refl w.heap.size w) (.cells #[.slice none 0 0, .int .i64 0] 27)) (.cells #[.slice none 0 0, .int .i64 0] 27))
  have r0 : Cel ((w.alloc (.cells #[.slice none 0 0, .int .i64 0] 27)).alloc (.cells #[.slice none 0 0, .int .i64 0] 27)) w.heap.size 0 (.slice none 0 0) := ⟨by go_simp, by go_simp⟩
  have r1 : Cel ((w.alloc (.cells #[.slice none 0 0, .int .i64 0] 27)).alloc (.cells #[.slice none 0 0, .int .i64 0] 27)) w.heap.size 1 (.int .i64 0) := ⟨by go_simp, by go_simp⟩
  have r2 : Cel ((w.alloc (.cells #[.slice none 0 0, .int .i64 0] 27)).alloc (.cells #[.slice none 0 0, .int .i64 0] 27)) (w.heap.size + 1) 0 (.slice none 0 0) := ⟨by go_simp, by go_simp⟩
  have r3 : Cel ((w.alloc (.cells #[.slice none 0 0, .int .i64 0] 27)).alloc (.cells #[.slice none 0 0, .int .i64 0] 27)) (w.heap.size + 1) 1 (.int .i64 0) := ⟨by go_simp, by go_simp⟩
  have hz0 : w.heap.size + 1 < ((w.alloc (.cells #[.slice none 0 0, .int .i64 0] 27)).alloc (.cells #[.slice none 0 0, .int .i64 0] 27)).heap.size := by simp
  generalize ((w.alloc (.cells #[.slice none 0 0, .int .i64 0] 27)).alloc (.cells #[.slice none 0 0, .int .i64 0] 27)) = W0 at *
  have R0 := Lib.hid r0
  have R1 := Lib.hid r1
  have R2 := Lib.hid r2
  have R3 := Lib.hid r3
  clear r0 r1 r2 r3
  go_wp2_with fail
  refine (open_any _ _ _ y _ hm hcap (HR.out.later HB0.out)).mono ?_
  rintro e w1 ⟨rfl, hb, hrd, hz1⟩
  have HB1 := Lib.hid (bl_trans HB0.out hb)
  have RD1 := Lib.hid hrd
  have S0 := Lib.hid (R0.out.below hb)
  have S1 := Lib.hid (R1.out.below hb)
  have S2 := Lib.hid (R2.out.below hb)
  have S3 := Lib.hid (R3.out.below hb)
  clear hb hrd R0 R1 R2 R3
  go_wp2_with fail
  refine (constraint_any W0.heap.size 0 _ (by omega) RD1.out).mono ?_
  rintro e w2 ⟨Ac, k, capc, bd, rfl, hk, hfe, hg, hr, hcp⟩
  obtain ⟨c, l, hfr⟩ := hfe
  have Hrd := Lib.hid hfr.rdAt
  have G2 := Lib.hid hg
  have RD2 := Lib.hid hr
  have T0 := Lib.hid (hg.cel S0.out (by omega))
  have T1 := Lib.hid (hg.cel S1.out (by omega))
  have T2 := Lib.hid (hg.cel S2.out (by omega))
  have T3 := Lib.hid (hg.cel S3.out (by omega))
  have HCp := Lib.hid hcp
  clear hfr hg hr hcp S0 S1 S2 S3 RD1
  go_wp2_with fail
  refine (mutate_any W0.heap.size (0 + 200) _ _ _ _ c l _ (by omega) (by omega) RD2.out Hrd.out HCp.out).mono ?_
  rintro e w3 ⟨Ad, k2, capd, bd2, rfl, hk2, hfe, hg, hr, hcp⟩
  have HCa := Lib.hid hcp
  have FE3 := Lib.hid hfe
  have G3 := Lib.hid (G2.out.trans hg)
  have RD3 := Lib.hid hr
  have U0 := Lib.hid (hg.cel T0.out (by omega))
  have U1 := Lib.hid (hg.cel T1.out (by omega))
  have U2 := Lib.hid (hg.cel T2.out (by omega))
  have U3 := Lib.hid (hg.cel T3.out (by omega))
  have hz3 : W0.heap.size < w3.heap.size := by have := hr.lt; omega
  have hz23 : w2.heap.size ≤ w3.heap.size := hg.size
  have hz12 : w1.heap.size ≤ w2.heap.size := G2.out.size
  clear hfe hg hr hcp T0 T1 T2 T3 G2 RD2 Hrd HCp
  go_wp2_with fail
  have HAl := Lib.hid (bl_alloc (Below.refl w3.heap.size w3) (.cells #[.slice Ad k2 capd, .int .i64 bd2] 27))
  have p0 : (w3.alloc (.cells #[.slice Ad k2 capd, .int .i64 bd2] 27)).cell? ⟨w3.heap.size, 0, none⟩ = some (.slice Ad k2 capd) := by go_simp
  have p1 : (w3.alloc (.cells #[.slice Ad k2 capd, .int .i64 bd2] 27)).cell? ⟨w3.heap.size, 1, none⟩ = some (.int .i64 bd2) := by go_simp
  have f0' : (w3.alloc (.cells #[.slice Ad k2 capd, .int .i64 bd2] 27)).frozen? ⟨w3.heap.size, 0, none⟩ = false := by go_simp
  have f1' : (w3.alloc (.cells #[.slice Ad k2 capd, .int .i64 bd2] 27)).frozen? ⟨w3.heap.size, 1, none⟩ = false := by go_simp
  have hz4 : w3.heap.size < (w3.alloc (.cells #[.slice Ad k2 capd, .int .i64 bd2] 27)).heap.size := by simp
  have FE4 := Lib.hid (FE3.out.bel HAl.out)
  have G4 := Lib.hid (G3.out.bel HAl.out)
  have RD4 := Lib.hid (RD3.out.bel HAl.out)
  have V0 := Lib.hid (U0.out.below HAl.out)
  have V1 := Lib.hid (U1.out.below HAl.out)
  have V2 := Lib.hid (U2.out.below HAl.out)
  have V3 := Lib.hid (U3.out.below HAl.out)
  clear FE3 G3 RD3 U0 U1 U2 U3 HAl
  generalize (w3.alloc (.cells #[.slice Ad k2 capd, .int .i64 bd2] 27)) = W4 at *
  have P0 : Hid (Cel W4 w3.heap.size 0 (.slice Ad k2 capd)) := Lib.hid ⟨p0, f0'⟩
  have P1 : Hid (Cel W4 w3.heap.size 1 (.int .i64 bd2)) := Lib.hid ⟨p1, f1'⟩
  clear f0' f1'
  have hn1 : ¬ w3.heap.size = w.heap.size := by omega
  have hn2 : ¬ w.heap.size = w3.heap.size := by omega
  have hn3 : ¬ w3.heap.size = w.heap.size + 1 := by omega
  have hn4 : ¬ w.heap.size + 1 = w3.heap.size := by omega
  have hq1 : w.heap.size ≠ W0.heap.size := by omega
  have hq5 : w.heap.size + 1 ≠ W0.heap.size := by omega
  have hq2 : w3.heap.size ≠ W0.heap.size := by omega
  have hq3 : W0.heap.size < w2.heap.size := by omega
  have hq4 : W0.heap.size < W4.heap.size := by omega
  have hKa : 0 + 200 + 10 ≤ 800000 := by omega
  have hKb : 0 + 200 + 10 + 200 ≤ 900000 := by omega
  refine (pick_any W0.heap.size (0 + 200 + 10) 4 _ (by omega) RD4.out).mono ?_
  rintro e w5 ⟨x, rfl, hx0, hx1, hg, hr⟩
  have FE5 := Lib.hid (FE4.out.gr hg hq3)
  have G5 := Lib.hid (G4.out.trans hg)
  have RD5 := Lib.hid hr
  have V50 := Lib.hid (hg.cel V0.out hq1)
  have V51 := Lib.hid (hg.cel V1.out hq1)
  have V52 := Lib.hid (hg.cel V2.out hq5)
  have V53 := Lib.hid (hg.cel V3.out hq5)
  have P50 := Lib.hid (hg.cel P0.out hq2)
  have P51 := Lib.hid (hg.cel P1.out hq2)
  replace p0 := P50.out.1
  replace p1 := P51.out.1
  have hz5 : W4.heap.size ≤ w5.heap.size := hg.size
  have hq6 : W0.heap.size < w5.heap.size := by omega
  clear hg hr FE4 G4 RD4 V0 V1 V2 V3 P0 P1 hKa hKb
  by_cases h0 : x = 0
  · subst h0
    clear hx0 hx1
    have HD := Lib.hid (RD5.out.bel ((Below.refl w5.heap.size w5).drew))
    have hKa : 0 + 200 + 10 + 1 ≤ 800000 := by omega
    have hKb : 0 + 200 + 10 + 1 + 200 ≤ 900000 := by omega
    go_wp2_with fail
    go_region_held3 (fun w' => w'.cell? ⟨w3.heap.size, 0, none⟩ = some (.slice Ad k2 capd) ∧ w'.cell? ⟨w3.heap.size, 1, none⟩ = some (.int .i64 bd2)) (go_keep)
      (first
        | (go_at_call 58; refine (constraint_any W0.heap.size _ _ hKa HD.out).mono ?_; rintro e w6 ⟨Ae, k5, cape, bd5, rfl, hk5, hfe, hg, hr, hcp⟩; obtain ⟨c5, l5, hfr⟩ := hfe; have Hrd5 := Lib.hid hfr.rdAt; have hn5 : k5 ≤ 1000 := Nat.le_trans hk5 (by decide); have hg' := (Gr.of (R := W0.heap.size) (Below.refl w5.heap.size w5).drew).trans hg; have FE6 := Lib.hid (FE5.out.gr hg' hq3); have G6 := Lib.hid (G5.out.trans hg'); have RD6 := Lib.hid hr; have HC5 := Lib.hid hcp; have X0 := Lib.hid (hg'.cel V50.out hq1); have X1 := Lib.hid (hg'.cel V51.out hq1); have X2 := Lib.hid (hg'.cel V52.out hq5); have X3 := Lib.hid (hg'.cel V53.out hq5); have Y0 := Lib.hid (hg'.cel P50.out hq2); have Y1 := Lib.hid (hg'.cel P51.out hq2); replace p0 := Y0.out.1; replace p1 := Y1.out.1; have hz6 := hg'.size; clear hfr hg hr hcp hg')
        | (go_at_call 57; refine (mutate_any W0.heap.size _ _ _ _ _ c5 l5 _ hKb hn5 RD6.out Hrd5.out HC5.out).mono ?_; rintro e w7 ⟨Af, k6, capf, bd6, rfl, hk6, hfe6, hg, hr, hcp⟩; have FF := Lib.hid hfe6; have FE7 := Lib.hid (FE6.out.gr hg hq3); have G7 := Lib.hid (G6.out.trans hg); have HC6 := Lib.hid hcp; obtain ⟨b0, f0⟩ := hg.cel X0.out hq1; obtain ⟨b1, f1⟩ := hg.cel X1.out hq1; obtain ⟨b2, f2⟩ := hg.cel X2.out hq5; obtain ⟨b3, f3⟩ := hg.cel X3.out hq5; replace p0 := (hg.cel Y0.out hq2).1; replace p1 := (hg.cel Y1.out hq2).1; have hz7 := hg.size; clear hg hr hcp hfe6))
    go_wp2
    refine bodyPost_ret (v := .tuple #[.agg #[.slice Ad k2 capd, .int .i64 (bd2)], .agg #[.slice Af k6 capf, .int .i64 (bd6)]]) (by simp [results, Try.results51, go_sem, b0, b1, b2, b3]) rfl ?_
    obtain ⟨c8, l8, hfr8⟩ := (((FE7.out.set_ (p := ⟨w.heap.size, 0, none⟩) (by show w.heap.size < _; omega) (.slice Ad k2 capd)).set_ (p := ⟨w.heap.size, 1, none⟩) (by show w.heap.size < _; omega) (.int .i64 (bd2))).set_ (p := ⟨w.heap.size + 1, 0, none⟩) (by show w.heap.size + 1 < _; omega) (.slice Af k6 capf)).set_ (p := ⟨w.heap.size + 1, 1, none⟩) (by show w.heap.size + 1 < _; omega) (.int .i64 (bd6))
    obtain ⟨c9, l9, hfr9⟩ := (((FF.out.set_ (p := ⟨w.heap.size, 0, none⟩) (by show w.heap.size < _; omega) (.slice Ad k2 capd)).set_ (p := ⟨w.heap.size, 1, none⟩) (by show w.heap.size < _; omega) (.int .i64 (bd2))).set_ (p := ⟨w.heap.size + 1, 0, none⟩) (by show w.heap.size + 1 < _; omega) (.slice Af k6 capf)).set_ (p := ⟨w.heap.size + 1, 1, none⟩) (by show w.heap.size + 1 < _; omega) (.int .i64 (bd6))
    exact ⟨_, _, _, _, c8, l8, _, _, _, _, c9, l9, rfl, by omega, by omega, hfr8.rdAt, hfr9.rdAt, HCa.out.2, HC6.out.2, ((((gr_bel HB1.out G7.out (by omega)).setCell (Nat.le_refl _) _).setCell (Nat.le_refl _) _).setCell (by show w.heap.size ≤ w.heap.size + 1; omega) _).setCell (by show w.heap.size ≤ w.heap.size + 1; omega) _⟩
  · by_cases h1 : x = 1
    · subst h1
      clear hx0 hx1 h0
      have hk2B : k2 ≤ 1048576 := by omega
      have hKp : 0 + 200 + 10 + 1 ≤ 1000000 := by omega
      have zu5 : w3.heap.size < w5.heap.size := by omega
      have nu5a : ¬ w3.heap.size = w5.heap.size := by omega
      have nu5b : ¬ w5.heap.size = w3.heap.size := by omega
      go_wp2_with fail
      go_cut [6] (fun s6 wx => ∃ (H : Nat) (Ab : Option Addr) (nb capb : Nat) (bdb : Int), s6 = .pointer (some ⟨H, 0, none⟩) ∧ nb ≤ k2 ∧ nb ≤ capb ∧ w5.heap.size ≤ H ∧ wx.cell? ⟨H, 0, none⟩ = some (.slice Ab nb capb) ∧ wx.cell? ⟨H, 1, none⟩ = some (.int .i64 bdb) ∧ FE wx w5.heap.size Ab nb ∧ Gr W0.heap.size w5 wx)
      case first =>
        go_region_held3 (fun w' => w'.cell? ⟨w3.heap.size, 0, none⟩ = some (.slice Ad k2 capd) ∧ w'.cell? ⟨w3.heap.size, 1, none⟩ = some (.int .i64 bd2)) (go_keep) (first | ((go_at_call 56; refine (pick_any W0.heap.size _ 4 _ hKp (RD5.out.bel (by repeat (first | exact Below.refl _ _ | refine bl_alloc ?_ _ | refine Below.drew ?_)))).mono ?_; rintro e u6 ⟨yy, rfl, hy0, hy1, hg, hr⟩; have hgx : Gr W0.heap.size w5 u6 := (Gr.of (by repeat (first | exact Below.refl _ _ | refine bl_alloc ?_ _ | refine Below.drew ?_))).trans hg; (try (have hnb := newboxG (w0 := w5) hg rfl hq6; have v0 := hnb.1; have v1 := hnb.2.1; have g0 := hnb.2.2.1; have g1 := hnb.2.2.2; clear hnb)); have FE6 := Lib.hid (FE5.out.gr hgx hq3); obtain ⟨ca, la, hfa⟩ := FE6.out; have Hra := Lib.hid hfa.rdAt; have HG6 := Lib.hid hgx; have p0 := (hgx.cel P50.out hq2).1; have p1 := (hgx.cel P51.out hq2).1; have zu6 : w3.heap.size < u6.heap.size := World.block_lt_of_cell? u6 ⟨w3.heap.size, 0, none⟩ p0; have nu6a : ¬ w3.heap.size = u6.heap.size := Nat.ne_of_lt zu6; have nu6b : ¬ u6.heap.size = w3.heap.size := Nat.ne_of_gt zu6; have hz6 : w5.heap.size ≤ u6.heap.size := hgx.size; clear hg hr hgx hy0 hy1 hfa)) | ((go_at_call 48; refine (specWeakenE _ _ _ _ _ ca la _ hk2B (Rd.later Hra.out (by repeat (first | exact Below.refl _ _ | refine bl_alloc ?_ _ | refine Below.drew ?_)))).mono ?_; rintro e u7 ⟨Ab, nb, capb, bdb, okb, rfl, hnb, hcb, hfb, hb⟩; have hbx : Below u6.heap.size u6 u7 := bl_trans (by repeat (first | exact Below.refl _ _ | refine bl_alloc ?_ _ | refine Below.drew ?_)) hb; (try (have zb := World.block_lt_of_cell? _ _ v0; have g0 := kf hbx (World.block_lt_of_cell? _ _ v0) g0; have g1 := kf hbx (World.block_lt_of_cell? _ _ v1) g1; have v0 := kc hbx v0; have v1 := kc hbx v1)); (first | (have hnw := newbox (w0 := u6) hb rfl; have v0 := hnw.1; have v1 := hnw.2.1; have g0 := hnw.2.2.1; have g1 := hnw.2.2.2; clear hnw) | (skip)); have FF := Lib.hid hfb; have HG7 := Lib.hid (HG6.out.bel hbx); have HB7 := Lib.hid hbx; have p0 := kc hbx p0; have p1 := kc hbx p1; have zu7 : w3.heap.size < u7.heap.size := World.block_lt_of_cell? u7 ⟨w3.heap.size, 0, none⟩ p0; have nu7a : ¬ w3.heap.size = u7.heap.size := Nat.ne_of_lt zu7; have nu7b : ¬ u7.heap.size = w3.heap.size := Nat.ne_of_gt zu7; have hz7 := hbx.size; clear hb hbx hfb)))
        all_goals go_wp2_with fail
        all_goals go_meet
        all_goals first
          | exact ⟨u7.heap.size, Ab, nb, capb, bdb, rfl, hnb, hcb, by omega, by go_simp, by go_simp, (FF.out.bel (bl_alloc (Below.refl _ _) _)).more (by omega), HG7.out.bel (bl_alloc (Below.refl _ _) _)⟩
          | exact ⟨u6.heap.size, Ab, nb, capb, bdb, rfl, hnb, hcb, by omega, by go_simp, by go_simp, ((FF.out.set_ (by simp) _).set_ (by simp) _).more (by simp; omega), (HG7.out.set (p := ⟨u6.heap.size, 0, none⟩) (.inr (by show w5.heap.size ≤ u6.heap.size; omega)) _).set (p := ⟨u6.heap.size, 1, none⟩) (.inr (by show w5.heap.size ≤ u6.heap.size; omega)) _⟩
          | exact ⟨w5.heap.size, Ab, nb, capb, bdb, rfl, hnb, hcb, Nat.le_refl _, by go_simp, by go_simp, ((FF.out.set_ (by exact zb) _).set_ (by exact zb) _).more (by omega), (HG7.out.set (p := ⟨w5.heap.size, 0, none⟩) (.inr (Nat.le_refl _)) _).set (p := ⟨w5.heap.size, 1, none⟩) (.inr (Nat.le_refl _)) _⟩
      case rest =>
      obtain ⟨H, Ab, nb, capb, bdb, rfl, hnb, hcb, hH, v0, v1, hff, hgx⟩ := hcut
      have FE7 := Lib.hid (FE5.out.gr hgx hq3)
      have FF := Lib.hid hff
      have G7 := Lib.hid (G5.out.trans hgx)
      obtain ⟨b0, f0⟩ := hgx.cel V50.out hq1
      obtain ⟨b1, f1⟩ := hgx.cel V51.out hq1
      obtain ⟨b2, f2⟩ := hgx.cel V52.out hq5
      obtain ⟨b3, f3⟩ := hgx.cel V53.out hq5
      replace p0 := (hgx.cel P50.out hq2).1
      replace p1 := (hgx.cel P51.out hq2).1
      have hz7 := hgx.size
      clear hff hgx
      generalize wc = w7 at *
      go_wp2_with fail
      have hm1 : ¬ H = w.heap.size := by omega
      have hm2 : ¬ w.heap.size = H := by omega
      have hm3 : ¬ H = w.heap.size + 1 := by omega
      have hm4 : ¬ w.heap.size + 1 = H := by omega
      go_region_held3 (fun w' => w'.cell? ⟨w3.heap.size, 0, none⟩ = some (.slice Ad k2 capd) ∧ w'.cell? ⟨w3.heap.size, 1, none⟩ = some (.int .i64 bd2) ∧ w'.cell? ⟨H, 0, none⟩ = some (.slice Ab nb capb) ∧ w'.cell? ⟨H, 1, none⟩ = some (.int .i64 bdb)) (go_keep) (fail)
      go_wp2
      refine bodyPost_ret (v := .tuple #[.agg #[.slice Ad k2 capd, .int .i64 (bd2)], .agg #[.slice Ab nb capb, .int .i64 (bdb)]]) (by simp [results, Try.results51, go_sem, b0, b1, b2, b3]) rfl ?_
      obtain ⟨c8, l8, hfr8⟩ := (((FE7.out.set_ (p := ⟨w.heap.size, 0, none⟩) (by show w.heap.size < _; omega) (.slice Ad k2 capd)).set_ (p := ⟨w.heap.size, 1, none⟩) (by show w.heap.size < _; omega) (.int .i64 (bd2))).set_ (p := ⟨w.heap.size + 1, 0, none⟩) (by show w.heap.size + 1 < _; omega) (.slice Ab nb capb)).set_ (p := ⟨w.heap.size + 1, 1, none⟩) (by show w.heap.size + 1 < _; omega) (.int .i64 (bdb))
      obtain ⟨c9, l9, hfr9⟩ := (((FF.out.set_ (p := ⟨w.heap.size, 0, none⟩) (by show w.heap.size < _; omega) (.slice Ad k2 capd)).set_ (p := ⟨w.heap.size, 1, none⟩) (by show w.heap.size < _; omega) (.int .i64 (bd2))).set_ (p := ⟨w.heap.size + 1, 0, none⟩) (by show w.heap.size + 1 < _; omega) (.slice Ab nb capb)).set_ (p := ⟨w.heap.size + 1, 1, none⟩) (by show w.heap.size + 1 < _; omega) (.int .i64 (bdb))
      exact ⟨_, _, _, _, c8, l8, _, _, _, _, c9, l9, rfl, by omega, by omega, hfr8.rdAt.later (Below.refl _ _).drew, hfr9.rdAt.later (Below.refl _ _).drew, HCa.out.2, hcb, (((((gr_bel HB1.out G7.out (by omega)).setCell (Nat.le_refl _) _).setCell (Nat.le_refl _) _).setCell (by show w.heap.size ≤ w.heap.size + 1; omega) _).setCell (by show w.heap.size ≤ w.heap.size + 1; omega) _).drew⟩
    · by_cases h2 : x = 2
      · subst h2
        clear hx0 hx1 h0 h1
        obtain ⟨ca, la, hfa⟩ := FE5.out
        have Hra := Lib.hid hfa.rdAt
        have hk2B : k2 ≤ 1048576 := by omega
        have hz50 : w3.heap.size < w5.heap.size := by omega
        clear hfa
        go_wp2_with fail
        refine (specSatE _ _ _ _ ca la _ hk2B Hra.out).mono ?_
        rintro e w7 ⟨Ab, nb, capb, bdb, okb, rfl, hnb, hcb, hfb, hb⟩
        have FE7 := Lib.hid (FE5.out.bel hb)
        have FF := Lib.hid hfb
        have G7 := Lib.hid (G5.out.bel hb)
        obtain ⟨b0, f0⟩ := V50.out.below hb
        obtain ⟨b1, f1⟩ := V51.out.below hb
        obtain ⟨b2, f2⟩ := V52.out.below hb
        obtain ⟨b3, f3⟩ := V53.out.below hb
        replace p0 := (P50.out.below hb).1
        replace p1 := (P51.out.below hb).1
        have hz7 := hb.size
        clear hb hfb Hra
        have hz70 : w.heap.size < w7.heap.size := by omega
        have hz71 : w.heap.size + 1 < w7.heap.size := by omega
        have hz73 : w3.heap.size < w7.heap.size := by omega
        have HAl7 := Lib.hid (bl_alloc (Below.refl w7.heap.size w7) (.cells #[.slice Ab nb capb, .int .i64 bdb] 27))
        go_wp2_with fail
        have v0 : (w7.alloc (.cells #[.slice Ab nb capb, .int .i64 bdb] 27)).cell? ⟨w7.heap.size, 0, none⟩ = some (.slice Ab nb capb) := by go_simp
        have v1 : (w7.alloc (.cells #[.slice Ab nb capb, .int .i64 bdb] 27)).cell? ⟨w7.heap.size, 1, none⟩ = some (.int .i64 bdb) := by go_simp
        have hz8 : w7.heap.size < (w7.alloc (.cells #[.slice Ab nb capb, .int .i64 bdb] 27)).heap.size := by simp
        replace b0 := kc HAl7.out b0
        replace b1 := kc HAl7.out b1
        replace b2 := kc HAl7.out b2
        replace b3 := kc HAl7.out b3
        replace f0 := kf HAl7.out hz70 f0
        replace f1 := kf HAl7.out hz70 f1
        replace f2 := kf HAl7.out hz71 f2
        replace f3 := kf HAl7.out hz71 f3
        replace p0 := kc HAl7.out p0
        replace p1 := kc HAl7.out p1
        have FE8 := Lib.hid (FE7.out.bel HAl7.out)
        have FF8 := Lib.hid (FF.out.bel HAl7.out)
        have G8 := Lib.hid (G7.out.bel HAl7.out)
        clear HAl7 FE7 FF G7
        generalize (w7.alloc (.cells #[.slice Ab nb capb, .int .i64 bdb] 27)) = w8 at *
        have hm1 : ¬ w7.heap.size = w.heap.size := by omega
        have hm2 : ¬ w.heap.size = w7.heap.size := by omega
        have hm3 : ¬ w7.heap.size = w.heap.size + 1 := by omega
        have hm4 : ¬ w.heap.size + 1 = w7.heap.size := by omega
        go_region_held3 (fun w' => w'.cell? ⟨w3.heap.size, 0, none⟩ = some (.slice Ad k2 capd) ∧ w'.cell? ⟨w3.heap.size, 1, none⟩ = some (.int .i64 bd2) ∧ w'.cell? ⟨w7.heap.size, 0, none⟩ = some (.slice Ab nb capb) ∧ w'.cell? ⟨w7.heap.size, 1, none⟩ = some (.int .i64 bdb)) (go_keep) (fail)
        go_wp2
        refine bodyPost_ret (v := .tuple #[.agg #[.slice Ab nb capb, .int .i64 (bdb)], .agg #[.slice Ad k2 capd, .int .i64 (bd2)]]) (by simp [results, Try.results51, go_sem, b0, b1, b2, b3]) rfl ?_
        obtain ⟨c8, l8, hfr8⟩ := (((FF8.out.set_ (p := ⟨w.heap.size, 0, none⟩) (by show w.heap.size < _; omega) (.slice Ab nb capb)).set_ (p := ⟨w.heap.size, 1, none⟩) (by show w.heap.size < _; omega) (.int .i64 (bdb))).set_ (p := ⟨w.heap.size + 1, 0, none⟩) (by show w.heap.size + 1 < _; omega) (.slice Ad k2 capd)).set_ (p := ⟨w.heap.size + 1, 1, none⟩) (by show w.heap.size + 1 < _; omega) (.int .i64 (bd2))
        obtain ⟨c9, l9, hfr9⟩ := (((FE8.out.set_ (p := ⟨w.heap.size, 0, none⟩) (by show w.heap.size < _; omega) (.slice Ab nb capb)).set_ (p := ⟨w.heap.size, 1, none⟩) (by show w.heap.size < _; omega) (.int .i64 (bdb))).set_ (p := ⟨w.heap.size + 1, 0, none⟩) (by show w.heap.size + 1 < _; omega) (.slice Ad k2 capd)).set_ (p := ⟨w.heap.size + 1, 1, none⟩) (by show w.heap.size + 1 < _; omega) (.int .i64 (bd2))
        exact ⟨_, _, _, _, c8, l8, _, _, _, _, c9, l9, rfl, by omega, by omega, hfr8.rdAt.later (Below.refl _ _).drew, hfr9.rdAt.later (Below.refl _ _).drew, hcb, HCa.out.2, (((((gr_bel HB1.out G8.out (by omega)).setCell (Nat.le_refl _) _).setCell (Nat.le_refl _) _).setCell (by show w.heap.size ≤ w.heap.size + 1; omega) _).setCell (by show w.heap.size ≤ w.heap.size + 1; omega) _).drew⟩
      · have d0 : (x == 0) = false := by rw [beq_eq_false_iff_ne]; exact h0
        have d1 : (x == 1) = false := by rw [beq_eq_false_iff_ne]; exact h1
        have d2 : (x == 2) = false := by rw [beq_eq_false_iff_ne]; exact h2
        clear hx0 hx1 h0 h1 h2
        obtain ⟨ca, la, hfa⟩ := FE5.out
        have Hra := Lib.hid hfa.rdAt
        have hk2B : k2 ≤ 1048576 := by omega
        have hz50 : w3.heap.size < w5.heap.size := by omega
        clear hfa
        go_wp2_with fail
        refine (copy_any _ _ _ _ ca la _ hk2B Hra.out HCa.out.1).mono ?_
        rintro e w7 ⟨Ab, capb, rfl, hts, hb⟩
        have FE7 := Lib.hid (FE5.out.bel hb)
        have HCb := Lib.hid hts.capOk
        have TS7 := Lib.hid hts
        obtain ⟨A9, cap9, e9, hfe9⟩ := hts.fe
        cases e9
        have FF := Lib.hid hfe9
        have G7 := Lib.hid (G5.out.bel hb)
        have RD7 := Lib.hid (RD5.out.bel hb)
        have Z0 := Lib.hid (V50.out.below hb)
        have Z1 := Lib.hid (V51.out.below hb)
        have Z2 := Lib.hid (V52.out.below hb)
        have Z3 := Lib.hid (V53.out.below hb)
        have Y0 := Lib.hid (P50.out.below hb)
        have Y1 := Lib.hid (P51.out.below hb)
        replace p0 := Y0.out.1
        replace p1 := Y1.out.1
        have hz7 := hb.size
        clear hb hts hfe9 Hra d0 d1 d2
        by_cases hk0 : 0 < k2
        · obtain ⟨G, capq, e', hcc, hG1, hG2, _, _⟩ := TS7.out.open hk0
          cases e'
          obtain ⟨c9, l9, hfr9⟩ := FF.out
          obtain ⟨b9, off9, e9', hb9, hc9⟩ := hfr9.rdAt hk0
          cases e9'
          obtain ⟨hc90, _⟩ := hc9 0 hk0
          simp only [Nat.zero_mul, Nat.add_zero] at hc90
          have hG3 : w5.heap.size ≤ G := hG1
          obtain ⟨Ga, ea, _, hGa, _, _⟩ := FE5.out.open hk0
          have HEA := Lib.hid ea
          clear ea
          have HAl8 := Lib.hid (bl_alloc (Below.refl w7.heap.size w7) (.cells #[.slice (some ⟨G, 0, none⟩) k2 capb, .int .i64 bd2] 27))
          have q0 : Cel (w7.alloc (.cells #[.slice (some ⟨G, 0, none⟩) k2 capb, .int .i64 bd2] 27)) w7.heap.size 0 (.slice (some ⟨G, 0, none⟩) k2 capb) := ⟨by go_simp, by go_simp⟩
          have q1 : Cel (w7.alloc (.cells #[.slice (some ⟨G, 0, none⟩) k2 capb, .int .i64 bd2] 27)) w7.heap.size 1 (.int .i64 bd2) := ⟨by go_simp, by go_simp⟩
          have hz8 : w7.heap.size < (w7.alloc (.cells #[.slice (some ⟨G, 0, none⟩) k2 capb, .int .i64 bd2] 27)).heap.size := by simp
          have hmG1 : ¬ w7.heap.size = G := by omega
          have hmG2 : ¬ G = w7.heap.size := by omega
          have FE8 := Lib.hid (FE7.out.bel HAl8.out)
          have FF8 := Lib.hid ((show FE w7 w5.heap.size (some ⟨G, 0, none⟩) k2 from ⟨c9, l9, hfr9⟩).bel HAl8.out)
          have G8 := Lib.hid (G7.out.bel HAl8.out)
          have RD8 := Lib.hid (RD7.out.bel HAl8.out)
          have A0 := Lib.hid (Z0.out.below HAl8.out)
          have A1 := Lib.hid (Z1.out.below HAl8.out)
          have A2 := Lib.hid (Z2.out.below HAl8.out)
          have A3 := Lib.hid (Z3.out.below HAl8.out)
          have B0 := Lib.hid (Y0.out.below HAl8.out)
          have B1 := Lib.hid (Y1.out.below HAl8.out)
          have hc8 := kc HAl8.out hc90
          have hz73 : w3.heap.size < w7.heap.size := by omega
          replace p0 := B0.out.1
          replace p1 := B1.out.1
          have hkI : (0 : Int) < (k2 : Int) := by omega
          have hkJ : 0 < k2 * 2 := by omega
          have hRG : W0.heap.size < G := by omega
          have hKp : 0 + 200 + 10 + 1 ≤ 1000000 := by omega
          have hqb : w7.heap.size ≠ W0.heap.size := by omega
          go_wp2_with fail
          clear HAl8 FE7 FF G7 RD7 Z0 Z1 Z2 Z3 Y0 Y1 hfr9 hc9 hc90 TS7
          generalize (w7.alloc (.cells #[.slice (some ⟨G, 0, none⟩) k2 capb, .int .i64 bd2] 27)) = w8 at *
          have Q0 : Hid (Cel w8 w7.heap.size 0 (.slice (some ⟨G, 0, none⟩) k2 capb)) := Lib.hid q0
          have Q1 : Hid (Cel w8 w7.heap.size 1 (.int .i64 bd2)) := Lib.hid q1
          have hq8 := q0.1
          clear q0 q1
          have HD := Lib.hid (RD8.out.bel ((Below.refl w8.heap.size w8).drew))
          have hf8 := (FF8.out.open hk0)
          obtain ⟨Gx, ex, _, _, hcx, hfx⟩ := hf8
          cases ex
          have hfz := hfx 0
          clear hcx hfx
          have HC0 := Lib.hid (show Cel w8 G 0 (.int .i64 (c9 0)) from ⟨hc8, hfz⟩)
          have hGR : G ≠ W0.heap.size := by omega
          go_region_law (first | (go_simp; go_at_call 56; refine (pick_any W0.heap.size _ 3 _ hKp HD.out).mono ?_; rintro e w9 ⟨yy, rfl, hy0, hy1, hg, hr⟩; have hg' := (Gr.of (R := W0.heap.size) (Below.refl w8.heap.size w8).drew).trans hg; have FE9 := Lib.hid (FE8.out.gr hg' hq3); have FF9 := Lib.hid (FF8.out.gr hg' hq6); have G9 := Lib.hid (G8.out.trans hg'); have A50 := Lib.hid (hg'.cel A0.out hq1); have A51 := Lib.hid (hg'.cel A1.out hq1); have A52 := Lib.hid (hg'.cel A2.out hq5); have A53 := Lib.hid (hg'.cel A3.out hq5); have B50 := Lib.hid (hg'.cel B0.out hq2); have B51 := Lib.hid (hg'.cel B1.out hq2); have Q50 := Lib.hid (hg'.cel Q0.out hqb); have Q51 := Lib.hid (hg'.cel Q1.out hqb); replace hq8 := Q50.out.1; have HC1 := hg'.cel HC0.out hGR; replace hc8 := HC1.1; have hfz := HC1.2; have hz9 := hg'.size; clear hg hr hg' hy0 hy1 HC1))
          all_goals
            have FE10 := Lib.hid (fe_far FE9.out (p := ⟨G, 0, none⟩) (fun Gq e h => by have e2 := HEA.out; rw [e2] at e; cases e; have h2 : G = Ga := h; omega) (.int .i64 (IntKind.i64.wrap (IntKind.i64.wrap (c9 0 + yy) - 1))))
            have FF10 := Lib.hid (FF9.out.store 0 (IntKind.i64.wrap (IntKind.i64.wrap (c9 0 + yy) - 1)))
            have G10 := Lib.hid (G9.out.set (p := ⟨G, 0, none⟩) (.inr (by show w1.heap.size ≤ G; omega)) (.int .i64 (IntKind.i64.wrap (IntKind.i64.wrap (c9 0 + yy) - 1))))
            obtain ⟨b0, f0⟩ := A50.out.set (O' := G) (o' := 0) (u := .int .i64 (IntKind.i64.wrap (IntKind.i64.wrap (c9 0 + yy) - 1))) (by omega)
            obtain ⟨b1, f1⟩ := A51.out.set (O' := G) (o' := 0) (u := .int .i64 (IntKind.i64.wrap (IntKind.i64.wrap (c9 0 + yy) - 1))) (by omega)
            obtain ⟨b2, f2⟩ := A52.out.set (O' := G) (o' := 0) (u := .int .i64 (IntKind.i64.wrap (IntKind.i64.wrap (c9 0 + yy) - 1))) (by omega)
            obtain ⟨b3, f3⟩ := A53.out.set (O' := G) (o' := 0) (u := .int .i64 (IntKind.i64.wrap (IntKind.i64.wrap (c9 0 + yy) - 1))) (by omega)
            replace p0 := (B50.out.set (O' := G) (o' := 0) (u := .int .i64 (IntKind.i64.wrap (IntKind.i64.wrap (c9 0 + yy) - 1))) (by omega)).1
            replace p1 := (B51.out.set (O' := G) (o' := 0) (u := .int .i64 (IntKind.i64.wrap (IntKind.i64.wrap (c9 0 + yy) - 1))) (by omega)).1
            have v0 := (Q50.out.set (O' := G) (o' := 0) (u := .int .i64 (IntKind.i64.wrap (IntKind.i64.wrap (c9 0 + yy) - 1))) (by omega)).1
            have v1 := (Q51.out.set (O' := G) (o' := 0) (u := .int .i64 (IntKind.i64.wrap (IntKind.i64.wrap (c9 0 + yy) - 1))) (by omega)).1
            clear FE9 FF9 G9 A50 A51 A52 A53 B50 B51 Q50 Q51 FE8 FF8 G8 A0 A1 A2 A3 B0 B1 Q0 Q1 hq8 hc8 hfz HC0 HD RD8 RD5 FE5 G5 V50 V51 V52 V53 P50 P51
            generalize w9.setCell ⟨G, 0, none⟩ (.int .i64 (IntKind.i64.wrap (IntKind.i64.wrap (c9 0 + yy) - 1))) = w10 at *
            go_wp2_with fail
            have hm1 : ¬ w7.heap.size = w.heap.size := by omega
            have hm2 : ¬ w.heap.size = w7.heap.size := by omega
            have hm3 : ¬ w7.heap.size = w.heap.size + 1 := by omega
            have hm4 : ¬ w.heap.size + 1 = w7.heap.size := by omega
            go_region_held3 (fun w' => w'.cell? ⟨w3.heap.size, 0, none⟩ = some (.slice Ad k2 capd) ∧ w'.cell? ⟨w3.heap.size, 1, none⟩ = some (.int .i64 bd2) ∧ w'.cell? ⟨w7.heap.size, 0, none⟩ = some (.slice (some ⟨G, 0, none⟩) k2 capb) ∧ w'.cell? ⟨w7.heap.size, 1, none⟩ = some (.int .i64 bd2)) (go_keep) (fail)
            go_wp2
            refine bodyPost_ret (v := .tuple #[.agg #[.slice Ad k2 capd, .int .i64 (bd2)], .agg #[.slice (some ⟨G, 0, none⟩) k2 capb, .int .i64 (bd2)]]) (by simp [results, Try.results51, go_sem, b0, b1, b2, b3]) rfl ?_
            obtain ⟨c8, l8, hfr8⟩ := (((FE10.out.set_ (p := ⟨w.heap.size, 0, none⟩) (by show w.heap.size < _; omega) (.slice Ad k2 capd)).set_ (p := ⟨w.heap.size, 1, none⟩) (by show w.heap.size < _; omega) (.int .i64 (bd2))).set_ (p := ⟨w.heap.size + 1, 0, none⟩) (by show w.heap.size + 1 < _; omega) (.slice (some ⟨G, 0, none⟩) k2 capb)).set_ (p := ⟨w.heap.size + 1, 1, none⟩) (by show w.heap.size + 1 < _; omega) (.int .i64 (bd2))
            obtain ⟨c9, l9, hfr9⟩ := (((FF10.out.set_ (p := ⟨w.heap.size, 0, none⟩) (by show w.heap.size < _; omega) (.slice Ad k2 capd)).set_ (p := ⟨w.heap.size, 1, none⟩) (by show w.heap.size < _; omega) (.int .i64 (bd2))).set_ (p := ⟨w.heap.size + 1, 0, none⟩) (by show w.heap.size + 1 < _; omega) (.slice (some ⟨G, 0, none⟩) k2 capb)).set_ (p := ⟨w.heap.size + 1, 1, none⟩) (by show w.heap.size + 1 < _; omega) (.int .i64 (bd2))
            exact ⟨_, _, _, _, c8, l8, _, _, _, _, c9, l9, rfl, by omega, by omega, hfr8.rdAt.later (Below.refl _ _).drew, hfr9.rdAt.later (Below.refl _ _).drew, HCa.out.2, HCb.out.2, (((((gr_bel HB1.out G10.out (by omega)).setCell (Nat.le_refl _) _).setCell (Nat.le_refl _) _).setCell (by show w.heap.size ≤ w.heap.size + 1; omega) _).setCell (by show w.heap.size ≤ w.heap.size + 1; omega) _).drew⟩
        · obtain rfl : k2 = 0 := by omega
          have hnb : 0 ≤ 0 := Nat.le_refl 0
          obtain ⟨b0, f0⟩ := Z0.out
          obtain ⟨b1, f1⟩ := Z1.out
          obtain ⟨b2, f2⟩ := Z2.out
          obtain ⟨b3, f3⟩ := Z3.out
          have hz70 : w.heap.size < w7.heap.size := by omega
          have hz71 : w.heap.size + 1 < w7.heap.size := by omega
          have hz73 : w3.heap.size < w7.heap.size := by omega
          have HAl7 := Lib.hid (bl_alloc (Below.refl w7.heap.size w7) (.cells #[.slice Ab 0 capb, .int .i64 bd2] 27))
          go_wp2_with fail
          have v0 : (w7.alloc (.cells #[.slice Ab 0 capb, .int .i64 bd2] 27)).cell? ⟨w7.heap.size, 0, none⟩ = some (.slice Ab 0 capb) := by go_simp
          have v1 : (w7.alloc (.cells #[.slice Ab 0 capb, .int .i64 bd2] 27)).cell? ⟨w7.heap.size, 1, none⟩ = some (.int .i64 bd2) := by go_simp
          have hz8 : w7.heap.size < (w7.alloc (.cells #[.slice Ab 0 capb, .int .i64 bd2] 27)).heap.size := by simp
          replace b0 := kc HAl7.out b0
          replace b1 := kc HAl7.out b1
          replace b2 := kc HAl7.out b2
          replace b3 := kc HAl7.out b3
          replace f0 := kf HAl7.out hz70 f0
          replace f1 := kf HAl7.out hz70 f1
          replace f2 := kf HAl7.out hz71 f2
          replace f3 := kf HAl7.out hz71 f3
          replace p0 := kc HAl7.out p0
          replace p1 := kc HAl7.out p1
          have FE8 := Lib.hid (FE7.out.bel HAl7.out)
          have FF8 := Lib.hid (FF.out.bel HAl7.out)
          have G8 := Lib.hid (G7.out.bel HAl7.out)
          clear HAl7 FE7 FF G7
          generalize (w7.alloc (.cells #[.slice Ab 0 capb, .int .i64 bd2] 27)) = w8 at *
          have hm1 : ¬ w7.heap.size = w.heap.size := by omega
          have hm2 : ¬ w.heap.size = w7.heap.size := by omega
          have hm3 : ¬ w7.heap.size = w.heap.size + 1 := by omega
          have hm4 : ¬ w.heap.size + 1 = w7.heap.size := by omega
          go_region_held3 (fun w' => w'.cell? ⟨w3.heap.size, 0, none⟩ = some (.slice Ad 0 capd) ∧ w'.cell? ⟨w3.heap.size, 1, none⟩ = some (.int .i64 bd2) ∧ w'.cell? ⟨w7.heap.size, 0, none⟩ = some (.slice Ab 0 capb) ∧ w'.cell? ⟨w7.heap.size, 1, none⟩ = some (.int .i64 bd2)) (go_keep) (fail)
          go_wp2
          refine bodyPost_ret (v := .tuple #[.agg #[.slice Ad 0 capd, .int .i64 (bd2)], .agg #[.slice Ab 0 capb, .int .i64 (bd2)]]) (by simp [results, Try.results51, go_sem, b0, b1, b2, b3]) rfl ?_
          obtain ⟨c8, l8, hfr8⟩ := (((FE8.out.set_ (p := ⟨w.heap.size, 0, none⟩) (by show w.heap.size < _; omega) (.slice Ad 0 capd)).set_ (p := ⟨w.heap.size, 1, none⟩) (by show w.heap.size < _; omega) (.int .i64 (bd2))).set_ (p := ⟨w.heap.size + 1, 0, none⟩) (by show w.heap.size + 1 < _; omega) (.slice Ab 0 capb)).set_ (p := ⟨w.heap.size + 1, 1, none⟩) (by show w.heap.size + 1 < _; omega) (.int .i64 (bd2))
          obtain ⟨c9, l9, hfr9⟩ := (((FF8.out.set_ (p := ⟨w.heap.size, 0, none⟩) (by show w.heap.size < _; omega) (.slice Ad 0 capd)).set_ (p := ⟨w.heap.size, 1, none⟩) (by show w.heap.size < _; omega) (.int .i64 (bd2))).set_ (p := ⟨w.heap.size + 1, 0, none⟩) (by show w.heap.size + 1 < _; omega) (.slice Ab 0 capb)).set_ (p := ⟨w.heap.size + 1, 1, none⟩) (by show w.heap.size + 1 < _; omega) (.int .i64 (bd2))
          exact ⟨_, _, _, _, c8, l8, _, _, _, _, c9, l9, rfl, by omega, by omega, hfr8.rdAt.later (Below.refl _ _).drew, hfr9.rdAt.later (Below.refl _ _).drew, HCa.out.2, HCb.out.2, (((((gr_bel HB1.out G8.out (by omega)).setCell (Nat.le_refl _) _).setCell (Nat.le_refl _) _).setCell (by show w.heap.size ≤ w.heap.size + 1; omega) _).setCell (by show w.heap.size ≤ w.heap.size + 1; omega) _).drew⟩
end Go.Proofs.Ytipblbcedkhmbaa
