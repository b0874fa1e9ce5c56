/- The walk of the law FnDivideTwice (no claim of its own). Conditions: as each theorem states. -/
import Derived.Test.YtipblbcedkhmbaaMulF
import Derived.Test.YtipblbcedkhmbaaDrwX
import Derived.Test.YtipblbcedkhmbaaClsA
namespace Go.Proofs.Ytipblbcedkhmbaa
open Go.ChangeShapes Go.WideShapes Go.ChangeAt Go.RowKit Go.Shelf

set_option linter.unusedVariables false in
set_option maxRecDepth 100000 in
set_option maxHeartbeats 6400000 in
theorem lawFnDivideTwice_ok (A0 : Option Addr) (A1 : Option Addr) (n0 cap0 n1 cap1 : Nat) (y0 y1 : Nat → Int) (w : World) (h0 : n0 ≤ 1048576) (h1 : n1 ≤ 1048576) (hc0 : n0 ≤ cap0) (hr0 : RdY w w.heap.size A0 n0 y0) (hc1 : n1 ≤ cap1) (hr1 : RdY w w.heap.size A1 n1 y1) :
    Calls Try.prog 15 #[.slice A0 n0 cap0, .slice A1 n1 cap1] w fun e w' => e = .returned (.bool true) ∧ Below w.heap.size w w' := by
  have hm0 : n0 ≤ maxLen := by unfold maxLen; omega
  have hm1 : n1 ≤ maxLen := by unfold maxLen; omega
  have hi0 : ¬ (1048576 : Int) < (n0 : Int) := by omega
  have hi1 : ¬ (1048576 : Int) < (n1 : Int) := by omega
  go_enter Try.func15, Try.ntmps15
  go_wp2_with fail
  refine (drawDiv_any _ _ _ y0 _ hm0 hc0 hr0).mono ?_
  rintro e w1 ⟨Ac, k, capc, bd, c, l, kk, rfl, hk, hrc, hb⟩
  have HB1 := Lib.hid hb
  have Hc_1 := Lib.hid hrc.rdAt
  have hkB : k ≤ 1048576 := by omega
  clear hrc
  clear hb
  obtain ⟨mm, hmod, hm5⟩ : ∃ mm : Nat, Int.tmod (n1 : Int) 5 = (mm : Int) ∧ mm < 5 := ⟨n1 % 5, by rw [Int.tmod_eq_emod_of_nonneg (by omega)]; simp, Nat.mod_lt _ (by omega)⟩
  have hw5 : IntKind.i64.wrap (1 + (mm : Int)) = 1 + (mm : Int) := IntWalk.i64_in _ (by omega)
  have hw6 : wrap64 (1 + (mm : Int)) = 1 + (mm : Int) := wr64 (by omega)
  obtain ⟨N, C, L, BD, OK, hN, hI, hS, hK⟩ := divFacts k c l bd kk hkB
  have HI := Lib.hid hI
  have HS := Lib.hid hS
  have HK := Lib.hid hK
  have HSame := Lib.hid (same_refl' N C L BD)
  clear hI hS hK
  go_wp2_with fail
  have HAl := Lib.hid (bl_alloc (Below.refl w1.heap.size w1) (.cells #[.slice Ac k capc, .int .i64 bd] 27))
  have a0 : (w1.alloc (.cells #[.slice Ac k capc, .int .i64 bd] 27)).cell? ⟨w1.heap.size, 0, none⟩ = some (.slice Ac k capc) := by go_simp
  have a1 : (w1.alloc (.cells #[.slice Ac k capc, .int .i64 bd] 27)).cell? ⟨w1.heap.size, 1, none⟩ = some (.int .i64 bd) := by go_simp
  refine (HI.out _ _ _ (Hc_1.out.later HAl.out)).mono ?_
  rintro e w2 ⟨Ax, capx, rfl, hfx, hb1⟩
  have hb := bl_trans HAl.out hb1
  have HB2 := Lib.hid (bl_trans HB1.out hb)
  have Hc_2 := Lib.hid (Hc_1.out.later hb)
  have Hx_2 := Lib.hid hfx.rdAt
  replace a0 := kc hb1 a0
  replace a1 := kc hb1 a1
  have za : w1.heap.size < w2.heap.size := World.block_lt_of_cell? w2 ⟨w1.heap.size, 0, none⟩ a0
  clear hfx
  clear hb hb1 HB1 Hc_1 HAl
  go_wp2_with fail
  have HAl := Lib.hid (bl_alloc (Below.refl w2.heap.size w2) (.cells #[.slice Ax N capx, .int .i64 BD] 27))
  have b0 : (w2.alloc (.cells #[.slice Ax N capx, .int .i64 BD] 27)).cell? ⟨w2.heap.size, 0, none⟩ = some (.slice Ax N capx) := by go_simp
  have b1 : (w2.alloc (.cells #[.slice Ax N capx, .int .i64 BD] 27)).cell? ⟨w2.heap.size, 1, none⟩ = some (.int .i64 BD) := by go_simp
  replace a0 := kc HAl.out a0
  replace a1 := kc HAl.out a1
  refine (HS.out _ _ _ (Hc_2.out.later HAl.out)).mono ?_
  rintro e w3 ⟨As, caps, rfl, hfs, hb1⟩
  have hb := bl_trans HAl.out hb1
  have HB3 := Lib.hid (bl_trans HB2.out hb)
  have Hc_3 := Lib.hid (Hc_2.out.later hb)
  have Hx_3 := Lib.hid (Hx_2.out.later hb)
  have Hs_3 := Lib.hid hfs.rdAt
  replace a0 := kc hb1 a0
  replace a1 := kc hb1 a1
  replace b0 := kc hb1 b0
  replace b1 := kc hb1 b1
  clear za
  have za : w1.heap.size < w3.heap.size := World.block_lt_of_cell? w3 ⟨w1.heap.size, 0, none⟩ a0
  have zb : w2.heap.size < w3.heap.size := World.block_lt_of_cell? w3 ⟨w2.heap.size, 0, none⟩ b0
  clear hfs HI HS
  clear hb hb1 HB2 Hc_2 Hx_2 HAl
  cases OK with
  | false =>
    clear HK
    clear Hc_3
    clear a0 a1 za
    go_wp2_with fail
    have HAl := Lib.hid (bl_alloc (Below.refl w3.heap.size w3) (.cells #[.slice As N caps, .int .i64 BD] 27))
    have d0 : (w3.alloc (.cells #[.slice As N caps, .int .i64 BD] 27)).cell? ⟨w3.heap.size, 0, none⟩ = some (.slice As N caps) := by go_simp
    have d1 : (w3.alloc (.cells #[.slice As N caps, .int .i64 BD] 27)).cell? ⟨w3.heap.size, 1, none⟩ = some (.int .i64 BD) := by go_simp
    replace b0 := kc HAl.out b0
    replace b1 := kc HAl.out b1
    refine (implSame_any _ _ _ _ _ _ _ _ C L C L _ hN (Hx_3.out.later HAl.out) (Hs_3.out.later HAl.out)).mono ?_
    rintro e w4 ⟨rfl, hb1⟩
    have hb := bl_trans HAl.out hb1
    have HB4 := Lib.hid (bl_trans HB3.out hb)
    have Hx_4 := Lib.hid (Hx_3.out.later hb)
    have Hs_4 := Lib.hid (Hs_3.out.later hb)
    replace b0 := kc hb1 b0
    replace b1 := kc hb1 b1
    replace d0 := kc hb1 d0
    replace d1 := kc hb1 d1
    clear zb
    have zb : w2.heap.size < w4.heap.size := World.block_lt_of_cell? w4 ⟨w2.heap.size, 0, none⟩ b0
    have zd : w3.heap.size < w4.heap.size := World.block_lt_of_cell? w4 ⟨w3.heap.size, 0, none⟩ d0
    clear hb hb1 HB3 Hx_3 Hs_3 HAl
    rw [HSame.out]
    go_wp2_with fail
    refine (implSame_any _ _ _ _ _ _ _ _ C L C L _ hN Hx_4.out Hs_4.out).mono ?_
    rintro e w5 ⟨rfl, hb⟩
    have HB5 := Lib.hid (bl_trans HB4.out hb)
    replace b0 := kc hb b0
    replace b1 := kc hb b1
    replace d0 := kc hb d0
    replace d1 := kc hb d1
    clear zb zd
    have zb : w2.heap.size < w5.heap.size := World.block_lt_of_cell? w5 ⟨w2.heap.size, 0, none⟩ b0
    have zd : w3.heap.size < w5.heap.size := World.block_lt_of_cell? w5 ⟨w3.heap.size, 0, none⟩ d0
    clear hb HB4 Hx_4 Hs_4
    rw [HSame.out]
    go_wp2
    go_ret
    exact ⟨rfl, HB5.out⟩
  | true =>
    obtain ⟨⟨hk1, hk2⟩, _, _, hT⟩ := HK.out rfl
    obtain ⟨N1, C1, L1, B1, N2, C2, L2, B2, Q, hN1, hI1, hI2, hQ⟩ := hT (1 + (mm : Int)) (by omega) (by omega)
    have HI1 := Lib.hid hI1
    have HI2 := Lib.hid hI2
    have HQ := Lib.hid hQ
    have hwk : IntKind.i64.wrap (kk * (1 + (mm : Int))) = kk * (1 + (mm : Int)) := IntWalk.i64_in _ (by have a : 0 ≤ kk * (1 + (mm : Int)) := Int.mul_nonneg (by omega) (by omega); have b : kk * (1 + (mm : Int)) ≤ 1000 * 5 := Int.mul_le_mul hk2 (by omega) (by omega) (by omega); omega)
    have hwl : wrap64 (kk * (1 + (mm : Int))) = kk * (1 + (mm : Int)) := by rw [← IntWalk.i64_left]; exact hwk
    clear hI1 hI2 hQ hT HK hk1 hk2
    go_wp2_with fail
    have HAl := Lib.hid (bl_alloc (Below.refl w3.heap.size w3) (.cells #[.slice As N caps, .int .i64 BD] 27))
    have d0 : (w3.alloc (.cells #[.slice As N caps, .int .i64 BD] 27)).cell? ⟨w3.heap.size, 0, none⟩ = some (.slice As N caps) := by go_simp
    have d1 : (w3.alloc (.cells #[.slice As N caps, .int .i64 BD] 27)).cell? ⟨w3.heap.size, 1, none⟩ = some (.int .i64 BD) := by go_simp
    replace a0 := kc HAl.out a0
    replace a1 := kc HAl.out a1
    replace b0 := kc HAl.out b0
    replace b1 := kc HAl.out b1
    refine (implSame_any _ _ _ _ _ _ _ _ C L C L _ hN (Hx_3.out.later HAl.out) (Hs_3.out.later HAl.out)).mono ?_
    rintro e w4 ⟨rfl, hb1⟩
    have hb := bl_trans HAl.out hb1
    have HB4 := Lib.hid (bl_trans HB3.out hb)
    have Hc_4 := Lib.hid (Hc_3.out.later hb)
    have Hx_4 := Lib.hid (Hx_3.out.later hb)
    replace a0 := kc hb1 a0
    replace a1 := kc hb1 a1
    replace b0 := kc hb1 b0
    replace b1 := kc hb1 b1
    replace d0 := kc hb1 d0
    replace d1 := kc hb1 d1
    clear za zb
    have za : w1.heap.size < w4.heap.size := World.block_lt_of_cell? w4 ⟨w1.heap.size, 0, none⟩ a0
    have zb : w2.heap.size < w4.heap.size := World.block_lt_of_cell? w4 ⟨w2.heap.size, 0, none⟩ b0
    have zd : w3.heap.size < w4.heap.size := World.block_lt_of_cell? w4 ⟨w3.heap.size, 0, none⟩ d0
    clear hb hb1 HB3 Hs_3 Hc_3 Hx_3 HAl
    rw [HSame.out]
    clear d0 d1 zd
    go_wp2_with fail
    refine (HI1.out _ _ _ Hx_4.out).mono ?_
    rintro e w5 ⟨Ay, capy, rfl, hfy, hb⟩
    have HB5 := Lib.hid (bl_trans HB4.out hb)
    have Hc_5 := Lib.hid (Hc_4.out.later hb)
    have Hx_5 := Lib.hid (Hx_4.out.later hb)
    have Hy_5 := Lib.hid hfy.rdAt
    replace a0 := kc hb a0
    replace a1 := kc hb a1
    replace b0 := kc hb b0
    replace b1 := kc hb b1
    clear za zb
    have za : w1.heap.size < w5.heap.size := World.block_lt_of_cell? w5 ⟨w1.heap.size, 0, none⟩ a0
    have zb : w2.heap.size < w5.heap.size := World.block_lt_of_cell? w5 ⟨w2.heap.size, 0, none⟩ b0
    clear hfy HI1
    clear hb HB4 Hc_4 Hx_4
    go_wp2_with fail
    have HAl := Lib.hid (bl_alloc (Below.refl w5.heap.size w5) (.cells #[.slice Ay N1 capy, .int .i64 B1] 27))
    have g0 : (w5.alloc (.cells #[.slice Ay N1 capy, .int .i64 B1] 27)).cell? ⟨w5.heap.size, 0, none⟩ = some (.slice Ay N1 capy) := by go_simp
    have g1 : (w5.alloc (.cells #[.slice Ay N1 capy, .int .i64 B1] 27)).cell? ⟨w5.heap.size, 1, none⟩ = some (.int .i64 B1) := by go_simp
    replace a0 := kc HAl.out a0
    replace a1 := kc HAl.out a1
    replace b0 := kc HAl.out b0
    replace b1 := kc HAl.out b1
    refine (HI2.out _ _ _ (Hc_5.out.later HAl.out)).mono ?_
    rintro e w6 ⟨Az, capz, rfl, hfz, hb1⟩
    have hb := bl_trans HAl.out hb1
    have HB6 := Lib.hid (bl_trans HB5.out hb)
    have Hy_6 := Lib.hid (Hy_5.out.later hb)
    have Hz_6 := Lib.hid hfz.rdAt
    replace a0 := kc hb1 a0
    replace a1 := kc hb1 a1
    replace b0 := kc hb1 b0
    replace b1 := kc hb1 b1
    replace g0 := kc hb1 g0
    replace g1 := kc hb1 g1
    clear za zb
    have za : w1.heap.size < w6.heap.size := World.block_lt_of_cell? w6 ⟨w1.heap.size, 0, none⟩ a0
    have zb : w2.heap.size < w6.heap.size := World.block_lt_of_cell? w6 ⟨w2.heap.size, 0, none⟩ b0
    have zg : w5.heap.size < w6.heap.size := World.block_lt_of_cell? w6 ⟨w5.heap.size, 0, none⟩ g0
    clear hfz HI2
    clear hb hb1 HB5 Hc_5 Hx_5 Hy_5 HAl
    clear a0 a1 b0 b1 za zb
    cases Q with
    | false =>
      go_wp2
      go_ret
      exact ⟨rfl, bl_trans HB6.out (bl_alloc (Below.refl w6.heap.size w6) _)⟩
    | true =>
      have HQ1 := Lib.hid (HQ.out rfl)
      clear HQ
      go_wp2_with fail
      have HAl := Lib.hid (bl_alloc (Below.refl w6.heap.size w6) (.cells #[.slice Az N2 capz, .int .i64 B2] 27))
      have h0 : (w6.alloc (.cells #[.slice Az N2 capz, .int .i64 B2] 27)).cell? ⟨w6.heap.size, 0, none⟩ = some (.slice Az N2 capz) := by go_simp
      have h1 : (w6.alloc (.cells #[.slice Az N2 capz, .int .i64 B2] 27)).cell? ⟨w6.heap.size, 1, none⟩ = some (.int .i64 B2) := by go_simp
      replace g0 := kc HAl.out g0
      replace g1 := kc HAl.out g1
      refine (implSame_any _ _ _ _ _ _ _ _ C1 L1 C2 L2 _ hN1 (Hy_6.out.later HAl.out) (Hz_6.out.later HAl.out)).mono ?_
      rintro e w7 ⟨rfl, hb1⟩
      have hb := bl_trans HAl.out hb1
      have HB7 := Lib.hid (bl_trans HB6.out hb)
      have Hy_7 := Lib.hid (Hy_6.out.later hb)
      have Hz_7 := Lib.hid (Hz_6.out.later hb)
      replace g0 := kc hb1 g0
      replace g1 := kc hb1 g1
      replace h0 := kc hb1 h0
      replace h1 := kc hb1 h1
      clear zg
      have zg : w5.heap.size < w7.heap.size := World.block_lt_of_cell? w7 ⟨w5.heap.size, 0, none⟩ g0
      have zh : w6.heap.size < w7.heap.size := World.block_lt_of_cell? w7 ⟨w6.heap.size, 0, none⟩ h0
      clear hb hb1 HB6 Hy_6 Hz_6 HAl
      rw [HQ1.out]
      go_wp2
      go_ret
      exact ⟨rfl, HB7.out⟩

set_option linter.unusedVariables false in
set_option maxRecDepth 100000 in
set_option maxHeartbeats 1600000 in
theorem lawFnDivideTwice_walk (A0 : Option Addr) (n0 cap0 : Nat) (y0 : Nat → Int) (A1 : Option Addr) (n1 cap1 : Nat) (y1 : Nat → Int) (w : World) (hm0 : n0 ≤ maxLen) (hc0 : n0 ≤ cap0) (hr0 : RdY w w.heap.size A0 n0 y0) (hm1 : n1 ≤ maxLen) (hc1 : n1 ≤ cap1) (hr1 : RdY w w.heap.size A1 n1 y1) :
    Calls Try.prog 15 #[.slice A0 n0 cap0, .slice A1 n1 cap1] w fun e w' => e = .returned (.bool true) ∧ Below w.heap.size w w' := by
  by_cases h0 : n0 ≤ 1048576
  · by_cases h1 : n1 ≤ 1048576
    · exact lawFnDivideTwice_ok A0 A1 n0 cap0 n1 cap1 y0 y1 w h0 h1 hc0 hr0 hc1 hr1
    · unfold maxLen at hm1
      have hi0 : ¬ (1048576 : Int) < (n0 : Int) := by omega
      have hi1 : (1048576 : Int) < (n1 : Int) := by omega
      go_enter Try.func15, Try.ntmps15
      go_wp2
      go_ret
      exact ⟨rfl, Below.refl _ _⟩
  · unfold maxLen at hm0
    have hi0 : (1048576 : Int) < (n0 : Int) := by omega
    go_enter Try.func15, Try.ntmps15
    go_wp2
    go_ret
    exact ⟨rfl, Below.refl _ _⟩
end Go.Proofs.Ytipblbcedkhmbaa
