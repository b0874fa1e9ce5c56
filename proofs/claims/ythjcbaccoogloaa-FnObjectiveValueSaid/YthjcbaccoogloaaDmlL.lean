/- Draws of objectives (no claim of its own). Conditions: as each theorem states. -/
import Derived.Test.YthjcbaccoogloaaRgt
namespace Go.Proofs.Ythjcbaccoogloaa
open Go.ChangeShapes Go.WideShapes Go.ChangeAt Go.RowKit

set_option linter.unusedVariables false in
set_option linter.unusedSimpArgs false in
set_option maxRecDepth 100000 in
set_option maxHeartbeats 6400000 in
theorem coefs_any (R K : Nat) (As Ar : Option Addr) (sn cs n cr lo hi : Nat) (w : World) (hK : K ≤ 900000) (hs : sn ≤ 10) (hsz : TI w lo hi (.slice As sn cs) sn) (h : Rdr w R K) (hlo : R < lo) (hhi : hi ≤ w.heap.size) :
    Calls Try.prog 81 #[.pointer (some ⟨R, 0, none⟩), .agg #[.slice As sn cs, .slice Ar n cr]] w fun e w' => ∃ V k, e = .returned V ∧ k ≤ 11 ∧ TS w' w.heap.size 3 1 V k ∧ Gr R w w' ∧ Rdr w' R (K + 20) := by
  have hRw := h.lt
  have HR := Lib.hid h
  have HS := Lib.hid hsz
  clear h hsz
  go_enter Try.func81, Try.ntmps81
  go_wp2
  have c0 : Cel ((w.alloc (.cells #[.slice As sn cs, .slice Ar n cr] 26)).alloc (.cells #[] 3)) w.heap.size 0 (.slice As sn cs) := ⟨by go_simp, by go_simp⟩
  have ts0 := ts_lit (w.alloc (.cells #[.slice As sn cs, .slice Ar n cr] 26)) 3 1
  have hb0 := bl_alloc (bl_alloc (Below.refl w.heap.size w) (.cells #[.slice As sn cs, .slice Ar n cr] 26)) (.cells #[] 3)
  have hz0 : (w.alloc (.cells #[.slice As sn cs, .slice Ar n cr] 26)).heap.size = w.heap.size + 1 := by simp
  have hz1 : ((w.alloc (.cells #[.slice As sn cs, .slice Ar n cr] 26)).alloc (.cells #[] 3)).heap.size = w.heap.size + 1 + 1 := by simp
  rw [hz0] at ts0
  have C0 := Lib.hid c0
  have T0 := Lib.hid ts0
  have B0 := Lib.hid hb0
  clear c0 ts0 hb0 hz0
  generalize ((w.alloc (.cells #[.slice As sn cs, .slice Ar n cr] 26)).alloc (.cells #[] 3)) = w1 at *
  go_loopw [5, 6] (fun t i wr => ∃ j : Nat, j ≤ sn ∧ i = .int .i64 j ∧ TS wr (w.heap.size + 1) 3 1 t j ∧ Cel wr w.heap.size 0 (.slice As sn cs) ∧ Gr R w wr ∧ Rdr wr R (K + j)) (fun _ i _ => sn - (intOf i).toNat)
  case atStart => exact ⟨0, Nat.zero_le _, rfl, T0.out, C0.out, Gr.of B0.out, HR.out.bel B0.out⟩
  case round =>
    obtain ⟨j, hj, rfl, hts, c0, hgr, hrd⟩ := hrel
    have TSk := Lib.hid hts
    have GR := Lib.hid hgr
    have RD := Lib.hid hrd
    have C1 := Lib.hid c0
    obtain ⟨c0a, c0b⟩ := c0
    obtain ⟨A1, cap1, rfl⟩ := ts_head hts
    have hzr : w.heap.size < wr.heap.size := World.block_lt_of_cell? wr ⟨w.heap.size, 0, none⟩ c0a
    have hzr2 : w.heap.size + 1 ≤ wr.heap.size := by omega
    clear hts hgr hrd
    by_cases hlt : j < sn
    · have hlt' : (j : Int) < (sn : Int) := by omega
      have hj0 : (0 : Int) ≤ (j : Int) := by omega
      have HAl := Lib.hid (bl_alloc (Below.refl wr.heap.size wr) (.cells #[.int .i64 1, .int .i64 (-1), .int .i64 2, .int .i64 0, .int .i64 (-2), .int .i64 3] 3))
      have hRl : wr.heap.size ≠ R := by omega
      go_wp2_with fail
      refine (num_any R (K + j) wr.heap.size 6 _ _ _ (by omega) (RD.out.bel HAl.out) hRl (heap_alloc_new wr _) (by rfl) (by omega) (by omega) (lit_all [1, -1, 2, 0, -2, 3])).mono ?_
      rintro e w2 ⟨x, rfl, _, hg, hr⟩
      have TS2 := Lib.hid ((TSk.out.bel HAl.out).gr hg (by omega))
      have GR2 := Lib.hid ((GR.out.bel HAl.out).trans hg)
      have RD2 := Lib.hid hr
      have C2 := Lib.hid (hg.cel (C1.out.below HAl.out) (by omega))
      have hz2 : w.heap.size + 1 ≤ w2.heap.size := by have h1 := HAl.out.size; have h2 := hg.size; omega
      have HA2 := Lib.hid (bl_alloc (Below.refl w2.heap.size w2) (.cells #[.int .i64 x] 3))
      clear hg hr c0a c0b TSk GR RD C1 HAl
      go_wp2_with (at_builtin; refine wpList_plain (by rfl) fun K' hK' => ?_; refine wp_ts1 _ _ 23 (by rfl) Try.underlying23 Try.infoInt (TS2.out.bel HA2.out) (by first | (simp; done) | (simp; omega)) (by rfl) (by rfl) (heap_alloc_new _ _) (by omega) ?_; intro gg cap1 w9 hts9 hgr9; refine hK' _ _ ?_; clear hK' K')
      go_roundw
      case rel => exact ⟨j + 1, by omega, by go_num, hts9, (C2.out.below HA2.out).grow hgr9 (fun b e => by have := TS2.out.lt2 b e; omega), (GR2.out.bel HA2.out).grow hgr9 (fun b e => by have := TS2.out.lt2 b e; omega), (RD2.out.bel HA2.out).grow hgr9 (fun b e => by have := TS2.out.lt2 b e; omega)⟩
      case measure => simp [intOf]; omega
    · obtain rfl : j = sn := by omega
      go_wp2_with fail
      refine (pick_any R (K + j) 30 _ (by omega) RD.out).mono ?_
      rintro e w2 ⟨x, rfl, hx0, hx1, hg, hr⟩
      have TS2 := Lib.hid (TSk.out.gr hg (by omega))
      have GR2 := Lib.hid (GR.out.trans hg)
      have RD2 := Lib.hid hr
      have hz2 : w.heap.size + 1 ≤ w2.heap.size := Nat.le_trans hzr2 hg.size
      clear hg hr c0a c0b TSk GR RD C1
      by_cases h0 : x = 0
      · subst h0
        clear hx0 hx1
        by_cases hj0 : 0 < j
        · have hj0' : (0 : Int) < (j : Int) := by omega
          obtain ⟨g, cp, e, _, hg1, hg2, hcell, hfr⟩ := TS2.out.open hj0
          cases e
          obtain ⟨u0, hu0⟩ := hcell 0 (by omega)
          have hf0 := hfr 0
          clear hcell hfr
          go_wp2_with fail
          have HAl := Lib.hid (bl_alloc (Below.refl w2.heap.size w2) (.cells #[.int .i64 10, .int .i64 (-10), .int .i64 9, .int .i64 9223372036854775807] 3))
          refine (num_any R (K + j + 1) w2.heap.size 4 _ _ _ (by omega) (RD2.out.bel HAl.out) (by omega) (heap_alloc_new w2 _) (by rfl) (by omega) (by omega) (lit_all [10, -10, 9, 9223372036854775807])).mono ?_
          rintro e w3 ⟨z, rfl, _, hg, hr⟩
          have TS3 := Lib.hid ((TS2.out.bel HAl.out).gr hg (by omega))
          have GR3 := Lib.hid ((GR2.out.bel HAl.out).trans hg)
          have RD3 := Lib.hid hr
          obtain ⟨g', cap'', e', _, _, hg3, hcell, hfro⟩ := TS3.out.open hj0
          cases e'
          obtain ⟨u0, hu0⟩ := hcell 0 (by omega)
          have hf0 := hfro 0
          clear hg hr hcell hfro
          go_wp2
          go_ret
          exact ⟨_, j, rfl, by omega, ts_more (TS3.out.store 0 z) (by omega), GR3.out.set (.inr (by show w.heap.size ≤ g; omega)) _, (RD3.out.set (by show R < g; omega) _).more (by omega)⟩
        · obtain rfl : j = 0 := by omega
          go_wp2
          go_ret
          exact ⟨_, 0, rfl, by omega, ts_more TS2.out (by omega), GR2.out, RD2.out.more (by omega)⟩
      · have hd0 : (x == 0) = false := by rw [beq_eq_false_iff_ne]; exact h0
        by_cases h1 : x = 1
        · subst h1
          clear hx0 hx1 h0 hd0
          have HAl := Lib.hid (bl_alloc (Below.refl w2.heap.size w2) (.cells #[.int .i64 1] 3))
          go_wp2_with (at_builtin; refine wpList_plain (by rfl) fun K' hK' => ?_; refine wp_ts1 _ _ 23 (by rfl) Try.underlying23 Try.infoInt (TS2.out.bel HAl.out) (by first | (simp; done) | (simp; omega)) (by rfl) (by rfl) (heap_alloc_new _ _) (by omega) ?_; intro gg cap1 w9 hts9 hgr9; refine hK' _ _ ?_; clear hK' K')
          go_ret
          exact ⟨_, j + 1, rfl, by omega, ts_more hts9 (by omega), (GR2.out.bel HAl.out).grow hgr9 (fun b e => by have := TS2.out.lt2 b e; omega), ((RD2.out.bel HAl.out).grow hgr9 (fun b e => by have := TS2.out.lt2 b e; omega)).more (by omega)⟩
        · have hd1 : (x == 1) = false := by rw [beq_eq_false_iff_ne]; exact h1
          clear hx0 hx1
          go_wp2
          go_ret
          exact ⟨_, j, rfl, by omega, ts_more TS2.out (by omega), GR2.out, RD2.out.more (by omega)⟩

structure FOb (w4 : World) (R X Y : Nat) (vm v0 v1 : Value) (Bc : Option Addr) (kb : Nat) (cj : Nat) (L : Nat → Bool) (w : World) (u3 u4 u17 u18 u19 u20 u21 : Value) : Prop where
  gr : L 5 = false → Gr R w4 w
  rd0 : L 5 = false → L 4 = false → Rdr w R 2030
  rd1 : L 5 = false → L 4 = true → Rdr w R 2050
  b0 : L 0 = true → u17 = vm
  b1 : L 1 = true → u18 = .slice Bc kb cj
  b2 : L 2 = true → u19 = .pointer (some ⟨R, 0, none⟩)
  b3 : L 3 = true → u20 = vm
  b4 : L 4 = true → ∃ V kc cc, u21 = .slice V kc cc ∧ kc ≤ 11 ∧ (L 5 = false → TI w w4.heap.size w.heap.size (.slice V kc cc) kc)
  fin : L 5 = true → ∃ w'', Gr R w4 w'' ∧ w = (w''.setCell ⟨Y, 0, none⟩ v0).setCell ⟨Y, 1, none⟩ v1 ∧ ∃ V kc cc, u21 = .slice V kc cc ∧ kc ≤ 11 ∧ TI w'' w4.heap.size w''.heap.size (.slice V kc cc) kc
  b6 : L 6 = true → u3 = u18
  b7 : L 7 = true → u4 = u21

set_option linter.unusedVariables false in
set_option linter.unusedSimpArgs false in
set_option maxRecDepth 100000 in
set_option maxHeartbeats 6400000 in
theorem drawObj_any (A : Option Addr) (n0 cap0 : Nat) (y : Nat → Int) (w : World) (hm : n0 ≤ maxLen) (hcap : n0 ≤ cap0) (hr : RdY w w.heap.size A n0 y) :
    Calls Try.prog 36 #[.slice A n0 cap0] w fun e w' => ∃ As cs Ar cr sn n Bc kb cj Ac kc cc, e = .returned (.tuple #[.agg #[.slice As sn cs, .slice Ar n cr], .slice Bc kb cj, .slice Ac kc cc]) ∧ MT w w' As Ar sn cs n cr ∧ kb ≤ 11 ∧ TI w' w.heap.size w'.heap.size (.slice Bc kb cj) kb ∧ kc ≤ 11 ∧ TI w' w.heap.size w'.heap.size (.slice Ac kc cc) kc := by
  have HY0 := Lib.hid (bl_alloc (Below.refl w.heap.size w) (.cells #[.slice none 0 0, .slice none 0 0] 26))
  have y0 : Cel (w.alloc (.cells #[.slice none 0 0, .slice none 0 0] 26)) w.heap.size 0 (.slice none 0 0) := ⟨by go_simp, by go_simp⟩
  have y1 : Cel (w.alloc (.cells #[.slice none 0 0, .slice none 0 0] 26)) w.heap.size 1 (.slice none 0 0) := ⟨by go_simp, by go_simp⟩
  have hz0 : (w.alloc (.cells #[.slice none 0 0, .slice none 0 0] 26)).heap.size = w.heap.size + 1 := by simp
  have Y0 := Lib.hid y0
  have Y1 := Lib.hid y1
  clear y0 y1
  go_enter Try.func36, Try.ntmps36
  go_wp2_with fail
  refine (open_any _ _ _ y _ hm hcap (hr.later HY0.out)).mono ?_
  rintro e w1 ⟨rfl, hb, hrd, hz1⟩
  have hb1 := bl_trans HY0.out hb
  have Y0a := Lib.hid (Y0.out.below hb)
  have Y1a := Lib.hid (Y1.out.below hb)
  rw [hz0] at hrd hz1
  have HB1 := Lib.hid hb1
  have RD1 := Lib.hid hrd
  clear hb hb1 hrd hr Y0 Y1
  go_wp2_with fail
  refine (model_any (w.heap.size + 1) 0 _ (by omega) RD1.out).mono ?_
  rintro e w2 ⟨Aa, ca, Ab, cb, sa, na, rfl, hsa, hna, hti, her, hg, hrd⟩
  have Y0b := Lib.hid (hg.cel Y0a.out (by omega))
  have Y1b := Lib.hid (hg.cel Y1a.out (by omega))
  have HB2 := Lib.hid (gr_bel8 HB1.out hg (by omega))
  have TI2 := Lib.hid hti
  have ER2 := Lib.hid her
  have RD2 := Lib.hid hrd
  have hz2 : w.heap.size + 1 < w2.heap.size := Nat.lt_of_lt_of_le hz1 hg.size
  clear hti her hg hrd Y0a Y1a HB1 RD1
  go_wp2_with fail
  refine (mutate_any (w.heap.size + 1) (0 + 2000) _ _ _ _ _ _ _ _ _ (by omega) hsa hna TI2.out (ER2.out) RD2.out).mono ?_
  rintro e w3 ⟨As, cs, Ar, cr, sn, n, rfl, hsn, hn, hti, her, hg, hrd⟩
  have hz3 : w.heap.size + 1 < w3.heap.size := Nat.lt_of_lt_of_le hz2 hg.size
  have Y0c := hg.cel Y0b.out (by omega)
  have Y1c := hg.cel Y1b.out (by omega)
  have hb3 := gr_bel8 HB2.out hg (by omega)
  have hal := bl_alloc (Below.refl w3.heap.size w3) (.cells #[.slice As sn cs, .slice Ar n cr] 26)
  have DX4 : Hid (DX w (w3.alloc (.cells #[.slice As sn cs, .slice Ar n cr] 26)) (w.heap.size + 1) 2010 w3.heap.size w.heap.size (.slice As sn cs) (.slice Ar n cr)) := Lib.hid ⟨by omega, by omega, by omega, by omega, by omega, by omega, ⟨_, Y0c.below hal⟩, ⟨_, Y1c.below hal⟩, ⟨by go_simp, by go_simp⟩, ⟨by go_simp, by go_simp⟩, bl_trans hb3 hal, hrd.bel hal⟩
  have TI4 := Lib.hid (hti.kept (gb_of hal) oth_none)
  have ER4 := Lib.hid (her.kept (gb_of hal) oth_none)
  have hz4 : (w3.alloc (.cells #[.slice As sn cs, .slice Ar n cr] 26)).heap.size = w3.heap.size + 1 := by simp
  clear hti her hg hrd hb3 hal Y0b Y1b Y0c Y1c HB2 TI2 ER2 RD2 hz0 HY0
  have hz23 : w.heap.size + 1 < w2.heap.size := hz2
  go_wp2_with fail
  generalize (w3.alloc (.cells #[.slice As sn cs, .slice Ar n cr] 26)) = w3b at *
  obtain ⟨X, hX⟩ : ∃ X, w3.heap.size = X := ⟨_, rfl⟩
  rw [hX] at DX4 TI4 ER4 hz4 ⊢
  have hR2 : w.heap.size + 1 < w2.heap.size := by omega
  have hXR0 := DX4.out.hXR
  refine (coefs_any (w.heap.size + 1) 2010 _ _ _ _ _ _ w2.heap.size X _ (by omega) hsn TI4.out DX4.out.rd hR2 (by omega)).mono ?_
  rintro e w4 ⟨VB, kb, rfl, hkb, hts, hg, hr⟩
  obtain ⟨Bc, cj, rfl⟩ := ts_head hts
  have DX5 := Lib.hid (DX4.out.ask hg hr)
  have TI5 := Lib.hid (TI4.out.kept hg (oth_some (.inl hR2)))
  have ER5 := Lib.hid (ER4.out.kept hg (oth_some (.inl hR2)))
  have TB5 := Lib.hid (hts.ti (Nat.le_refl _))
  have hz5 : X + 1 ≤ w4.heap.size := by have := hg.size; omega
  have hz6b : w3b.heap.size = X + 1 := hz4
  clear hg hr hts DX4 TI4 ER4
  have DX4 := DX5
  have TI4 := TI5
  have ER4 := ER5
  clear DX5 TI5 ER5
  go_upto_region 4 with fail
  have hR2 : w.heap.size + 1 < w2.heap.size := by omega
  have hX4 : X ≤ w4.heap.size := by omega
  have hXR := DX4.out.hXR
  have hYR := DX4.out.hYR
  have hR4 : w.heap.size + 1 < w4.heap.size := by omega
  refine region_steps2 (J := fun _ L a' w' => ∃ u3 u4 u17 u18 u19 u20 u21 : Value, a' = ⟨#[.slice A n0 cap0, undef, .pointer (some ⟨w.heap.size, 0, none⟩), u3, u4, .pointer (some ⟨w.heap.size + 1, 0, none⟩), .pointer (some ⟨X, 0, none⟩), .slice Bc kb cj, .slice A n0 cap0, .pointer (some ⟨w.heap.size + 1, 0, none⟩), .pointer (some ⟨w.heap.size + 1, 0, none⟩), .pointer (some ⟨w.heap.size + 1, 0, none⟩), .agg #[.slice Aa sa ca, .slice Ab na cb], .agg #[.slice As sn cs, .slice Ar n cr], .pointer (some ⟨w.heap.size + 1, 0, none⟩), .agg #[.slice As sn cs, .slice Ar n cr], .slice Bc kb cj, u17, u18, u19, u20, u21], []⟩ ∧ FOb w4 (w.heap.size + 1) X (w.heap.size) (.agg #[.slice As sn cs, .slice Ar n cr]) (.slice As sn cs) (.slice Ar n cr) Bc kb cj L w' u3 u4 u17 u18 u19 u20 u21) [[], [], [], [], [2, 3], [0, 4], [1, 5], [4, 6]] (by kernel_rfl) (by kernel_rfl) ?_ ⟨?_, ?_, ?_, ?_, ?_, ?_, ?_, ?_, trivial⟩ ?_
  · intro L hL
    exact ⟨_, _, _, _, _, _, _, rfl, ⟨fun _ => Gr.of (Below.refl w4.heap.size w4).drew, fun _ _ => DX4.out.rd.bel (Below.refl w4.heap.size w4).drew, fun _ h => tf h (hL 4 (by decide)), fun h => tf h (hL 0 (by decide)), fun h => tf h (hL 1 (by decide)), fun h => tf h (hL 2 (by decide)), fun h => tf h (hL 3 (by decide)), fun h => tf h (hL 4 (by decide)), fun h => tf h (hL 5 (by decide)), fun h => tf h (hL 6 (by decide)), fun h => tf h (hL 7 (by decide))⟩⟩
  · intro L hL hd hc a w5 hI K' hK'
    obtain ⟨u3, u4, u17, u18, u19, u20, u21, rfl, hF⟩ := hI
    have h7 : L 5 = false := by
      cases h : L 5 with
      | false => rfl
      | true => exact tf (hc 5 0 (by simp) (h)) hL
    have hgr := hF.gr h7
    have z0 := (hgr.cel DX4.out.x0 hXR).1
    have z1 := (hgr.cel DX4.out.x1 hXR).1
    go_simp
    refine hK' _ _ ⟨_, _, _, _, _, _, _, rfl, ⟨hF.gr, hF.rd0, hF.rd1, fun _ => rfl, hF.b1, hF.b2, hF.b3, hF.b4, fun h => tf h h7, hF.b6, hF.b7⟩⟩
  · intro L hL hd hc a w5 hI K' hK'
    obtain ⟨u3, u4, u17, u18, u19, u20, u21, rfl, hF⟩ := hI
    go_simp
    refine hK' _ _ ⟨_, _, _, _, _, _, _, rfl, ⟨hF.gr, hF.rd0, hF.rd1, hF.b0, fun _ => rfl, hF.b2, hF.b3, hF.b4, hF.fin, fun h => tf (hc 6 1 (by simp) (h)) hL, hF.b7⟩⟩
  · intro L hL hd hc a w5 hI K' hK'
    obtain ⟨u3, u4, u17, u18, u19, u20, u21, rfl, hF⟩ := hI
    have h7 : L 5 = false := by
      cases h : L 5 with
      | false => rfl
      | true => exact tf (hc 4 2 (by simp) (hc 5 4 (by simp) (h))) hL
    have hgr := hF.gr h7
    go_simp
    refine hK' _ _ ⟨_, _, _, _, _, _, _, rfl, ⟨hF.gr, hF.rd0, hF.rd1, hF.b0, hF.b1, fun _ => rfl, hF.b3, hF.b4, fun h => tf h h7, hF.b6, hF.b7⟩⟩
  · intro L hL hd hc a w5 hI K' hK'
    obtain ⟨u3, u4, u17, u18, u19, u20, u21, rfl, hF⟩ := hI
    have h7 : L 5 = false := by
      cases h : L 5 with
      | false => rfl
      | true => exact tf (hc 4 3 (by simp) (hc 5 4 (by simp) (h))) hL
    have hgr := hF.gr h7
    have z0 := (hgr.cel DX4.out.x0 hXR).1
    have z1 := (hgr.cel DX4.out.x1 hXR).1
    go_simp
    refine hK' _ _ ⟨_, _, _, _, _, _, _, rfl, ⟨hF.gr, hF.rd0, hF.rd1, hF.b0, hF.b1, hF.b2, fun _ => rfl, hF.b4, fun h => tf h h7, hF.b6, hF.b7⟩⟩
  · intro L hL hd hc a w5 hI K' hK'
    obtain ⟨u3, u4, u17, u18, u19, u20, u21, rfl, hF⟩ := hI
    have h7 : L 5 = false := by
      cases h : L 5 with
      | false => rfl
      | true => exact tf (hc 5 4 (by simp) (h)) hL
    have hgr := hF.gr h7
    have hsz := hgr.size
    have hrd := hF.rd0 h7 hL
    obtain rfl := hF.b2 (hd 2 (by simp))
    obtain rfl := hF.b3 (hd 3 (by simp))
    go_simp; go_at_call 57
    refine (dcells_any (w.heap.size + 1) 2030 _ _ _ _ _ _ w2.heap.size X _ (by omega) hsn (TI4.out.kept hgr (oth_some (.inl hR2))) hrd hR2 (by omega)).mono ?_
    rintro e w6 ⟨V, kc, rfl, hkc, hts, hg, hr⟩
    obtain ⟨Ac, cc, rfl⟩ := ts_head hts
    go_simp
    refine hK' _ _ ⟨_, _, _, _, _, _, _, rfl, ⟨fun _ => hgr.trans hg, fun _ h => tf (show true = true from rfl) h, fun _ _ => hr, hF.b0, hF.b1, hF.b2, hF.b3, fun _ => ⟨_, _, _, rfl, hkc, fun _ => (hts.ti (Nat.le_refl _)).more (by omega) (Nat.le_refl _)⟩, fun h => tf h h7, hF.b6, fun h => tf (hc 7 4 (by simp) (h)) hL⟩⟩
  · intro L hL hd hc a w5 hI K' hK'
    obtain ⟨u3, u4, u17, u18, u19, u20, u21, rfl, hF⟩ := hI
    have hgr := hF.gr hL
    obtain rfl := hF.b0 (hd 0 (by simp))
    obtain ⟨V4, kc4, cc4, rfl, hk4, ht4⟩ := hF.b4 (hd 4 (by simp))
    obtain ⟨yv0, yq0⟩ := DX4.out.y0
    obtain ⟨yv1, yq1⟩ := DX4.out.y1
    obtain ⟨ya, yb⟩ := hgr.cel yq0 hYR
    obtain ⟨yc, yd⟩ := hgr.cel yq1 hYR
    go_simp
    refine hK' _ _ ⟨_, _, _, _, _, _, _, rfl, ⟨fun h => tf (show true = true from rfl) h, fun h _ => tf (show true = true from rfl) h, fun h _ => tf (show true = true from rfl) h, hF.b0, hF.b1, hF.b2, hF.b3, fun _ => ⟨_, _, _, rfl, hk4, fun h => tf (show true = true from rfl) h⟩, fun _ => ⟨w5, hgr, rfl, _, _, _, rfl, hk4, ht4 hL⟩, hF.b6, hF.b7⟩⟩
  · intro L hL hd hc a w5 hI K' hK'
    obtain ⟨u3, u4, u17, u18, u19, u20, u21, rfl, hF⟩ := hI
    go_simp
    refine hK' _ _ ⟨_, _, _, _, _, _, _, rfl, ⟨hF.gr, hF.rd0, hF.rd1, hF.b0, hF.b1, hF.b2, hF.b3, hF.b4, hF.fin, fun _ => rfl, hF.b7⟩⟩
  · intro L hL hd hc a w5 hI K' hK'
    obtain ⟨u3, u4, u17, u18, u19, u20, u21, rfl, hF⟩ := hI
    go_simp
    refine hK' _ _ ⟨_, _, _, _, _, _, _, rfl, ⟨hF.gr, hF.rd0, hF.rd1, hF.b0, hF.b1, hF.b2, hF.b3, hF.b4, hF.fin, hF.b6, fun _ => rfl⟩⟩
  · intro L hL a' w5 hI
    obtain ⟨u3, u4, u17, u18, u19, u20, u21, rfl, hF⟩ := hI
    obtain ⟨w6, hgr, rfl, V, kc, cc, e21, hkc, hti⟩ := hF.fin (hL 5)
    have e18 := hF.b1 (hL 1)
    obtain rfl := hF.b6 (hL 6)
    obtain rfl := hF.b7 (hL 7)
    subst e18
    subst e21
    clear hF hL
    have DX6 := Lib.hid (DX4.out.grr hgr)
    have TI6 := Lib.hid (TI4.out.kept hgr (oth_some (.inl hR2)))
    have ER6 := Lib.hid (ER4.out.kept hgr (oth_some (.inl hR2)))
    have TC6 := Lib.hid hti
    have TB6 := Lib.hid (TB5.out.kept hgr (oth_some (.inl (by omega))))
    have hz6 := hgr.size
    obtain ⟨f1, f2⟩ := DX6.out.fin' (.slice As sn cs) (.slice Ar n cr)
    have f3 := f1.size
    obtain ⟨yv0, yq0⟩ := DX6.out.y0
    obtain ⟨yv1, yq1⟩ := DX6.out.y1
    have g0 := (Cel.put (u := .slice As sn cs) yq0).set (u := .slice Ar n cr) (O' := w.heap.size) (o' := 1) (.inr (by omega))
    have g1 := Cel.put (u := .slice Ar n cr) (yq1.set (u := .slice As sn cs) (O' := w.heap.size) (o' := 0) (.inr (by omega)))
    obtain ⟨g0, -⟩ := g0
    obtain ⟨g1, -⟩ := g1
    go_wp2
    refine bodyPost_ret (v := .tuple #[.agg #[.slice As sn cs, .slice Ar n cr], .slice Bc kb cj, .slice V kc cc]) (by simp [results, Try.results36, go_sem, g0, g1]) rfl ?_
    have h := MT.mk' (w0 := w) TI6.out ER6.out hsn hn f1 (by omega) (by omega) f2 (by omega) (by omega) (by omega) (by omega)
    exact ⟨As, cs, Ar, cr, sn, n, Bc, kb, cj, V, kc, cc, rfl, h, hkb, (TB6.out.kept f1 (oth_some (.inl (by omega)))).more (by omega) (by omega), hkc, (TC6.out.kept f1 (oth_some (.inl (by omega)))).more (by omega) f3⟩
end Go.Proofs.Ythjcbaccoogloaa
