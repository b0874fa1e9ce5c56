/- Draws of models with numbers and cells (no claim of its own). Conditions: as each theorem states. -/
import Derived.Test.YthjcbaccoogloaaDmJ
namespace Go.Proofs.Ythjcbaccoogloaa
open Go.ChangeShapes Go.WideShapes Go.ChangeAt Go.RowKit

/-- What stays of the bundle when only the reader has turned. -/
structure DY (w0 w : World) (Y : Nat) : Prop where
  hY : w0.heap.size ≤ Y
  y0 : ∃ v, Cel w Y 0 v
  y1 : ∃ v, Cel w Y 1 v
  bl : Below w0.heap.size w0 w
theorem DX.grr {w0 w w' : World} {R K X Y : Nat} {v0 v1 : Value} (h : DX w0 w R K X Y v0 v1) (hg : Gr R w w') : DY w0 w' Y :=
  ⟨h.hY, h.y0.imp fun _ q => hg.cel q h.hYR, h.y1.imp fun _ q => hg.cel q h.hYR, gr_bel8 h.bl hg h.hR⟩
theorem DY.fin' {w0 w : World} {Y : Nat} (h : DY w0 w Y) (u u' : Value) : w.grownBy ((w.setCell ⟨Y, 0, none⟩ u).setCell ⟨Y, 1, none⟩ u') (some Y) ∧ Below w0.heap.size w0 ((w.setCell ⟨Y, 0, none⟩ u).setCell ⟨Y, 1, none⟩ u') :=
  ⟨Gr.trans (gb_set _ ⟨Y, 0, none⟩ _) (gb_set _ ⟨Y, 1, none⟩ _), (h.bl.setCell h.hY _).setCell h.hY _⟩

structure FHo (w4 : World) (R X Y : Nat) (vm v0 v1 : Value) (L : Nat → Bool) (w : World) (u3 u4 u13 u14 u15 u16 u17 u18 u19 : Value) : Prop where
  gr : L 7 = false → Gr R w4 w
  rd0 : L 7 = false → L 3 = false → Rdr w R 2010
  rd1 : L 7 = false → L 3 = true → L 6 = false → Rdr w R 2011
  rd2 : L 7 = false → L 6 = true → Rdr w R 2031
  b0 : L 0 = true → u13 = vm
  b1 : L 1 = true → u14 = .pointer (some ⟨R, 0, none⟩)
  b2 : L 2 = true → ∃ b, u15 = .slice (some ⟨b, 0, none⟩) 6 6 ∧ b ≠ R ∧ (L 3 = false → w.heap[b]? = some (.cells #[.int .i64 0, .int .i64 0, .int .i64 1, .int .i64 2, .int .i64 (-1), .int .i64 8] 3 (0, 0)))
  b3 : L 3 = true → ∃ z : Int, u16 = .int .i64 z
  b4 : L 4 = true → u17 = .pointer (some ⟨R, 0, none⟩)
  b5 : L 5 = true → u18 = vm
  b6 : L 6 = true → ∃ V kc cc, u19 = .slice V kc cc ∧ kc ≤ 11 ∧ (L 7 = false → TI w w4.heap.size w.heap.size (.slice V kc cc) kc)
  fin : L 7 = true → ∃ w'', Gr R w4 w'' ∧ w = (w''.setCell ⟨Y, 0, none⟩ v0).setCell ⟨Y, 1, none⟩ v1 ∧ ∃ V kc cc, u19 = .slice V kc cc ∧ kc ≤ 11 ∧ TI w'' w4.heap.size w''.heap.size (.slice V kc cc) kc
  b8 : L 8 = true → u3 = u16
  b9 : L 9 = true → u4 = u19

set_option linter.unusedVariables false in
set_option linter.unusedSimpArgs false in
set_option maxRecDepth 100000 in
set_option maxHeartbeats 6400000 in
theorem drawHolds_any (A : Option Addr) (n0 cap0 : Nat) (y : Nat → Int) (w : World) (hm : n0 ≤ maxLen) (hcap : n0 ≤ cap0) (hr : RdY w w.heap.size A n0 y) :
    Calls Try.prog 18 #[.slice A n0 cap0] w fun e w' => ∃ As cs Ar cr sn n, ∃ rule : Int, ∃ Ac kc cc, e = .returned (.tuple #[.agg #[.slice As sn cs, .slice Ar n cr], .int .i64 rule, .slice Ac kc cc]) ∧ MT w w' As Ar sn cs n cr ∧ kc ≤ 11 ∧ TI w' w.heap.size w'.heap.size (.slice Ac kc cc) kc := by
  have HY0 := Lib.hid (bl_alloc (Below.refl w.heap.size w) (.cells #[.slice none 0 0, .slice none 0 0] 26))
  have y0 : Cel (w.alloc (.cells #[.slice none 0 0, .slice none 0 0] 26)) w.heap.size 0 (.slice none 0 0) := ⟨by go_simp, by go_simp⟩
  have y1 : Cel (w.alloc (.cells #[.slice none 0 0, .slice none 0 0] 26)) w.heap.size 1 (.slice none 0 0) := ⟨by go_simp, by go_simp⟩
  have hz0 : (w.alloc (.cells #[.slice none 0 0, .slice none 0 0] 26)).heap.size = w.heap.size + 1 := by simp
  have Y0 := Lib.hid y0
  have Y1 := Lib.hid y1
  clear y0 y1
  go_enter Try.func18, Try.ntmps18
  go_wp2_with fail
  refine (open_any _ _ _ y _ hm hcap (hr.later HY0.out)).mono ?_
  rintro e w1 ⟨rfl, hb, hrd, hz1⟩
  have hb1 := bl_trans HY0.out hb
  have Y0a := Lib.hid (Y0.out.below hb)
  have Y1a := Lib.hid (Y1.out.below hb)
  rw [hz0] at hrd hz1
  have HB1 := Lib.hid hb1
  have RD1 := Lib.hid hrd
  clear hb hb1 hrd hr Y0 Y1
  go_wp2_with fail
  refine (model_any (w.heap.size + 1) 0 _ (by omega) RD1.out).mono ?_
  rintro e w2 ⟨Aa, ca, Ab, cb, sa, na, rfl, hsa, hna, hti, her, hg, hrd⟩
  have Y0b := Lib.hid (hg.cel Y0a.out (by omega))
  have Y1b := Lib.hid (hg.cel Y1a.out (by omega))
  have HB2 := Lib.hid (gr_bel8 HB1.out hg (by omega))
  have TI2 := Lib.hid hti
  have ER2 := Lib.hid her
  have RD2 := Lib.hid hrd
  have hz2 : w.heap.size + 1 < w2.heap.size := Nat.lt_of_lt_of_le hz1 hg.size
  clear hti her hg hrd Y0a Y1a HB1 RD1
  go_wp2_with fail
  refine (mutate_any (w.heap.size + 1) (0 + 2000) _ _ _ _ _ _ _ _ _ (by omega) hsa hna TI2.out (ER2.out) RD2.out).mono ?_
  rintro e w3 ⟨As, cs, Ar, cr, sn, n, rfl, hsn, hn, hti, her, hg, hrd⟩
  have hz3 : w.heap.size + 1 < w3.heap.size := Nat.lt_of_lt_of_le hz2 hg.size
  have Y0c := hg.cel Y0b.out (by omega)
  have Y1c := hg.cel Y1b.out (by omega)
  have hb3 := gr_bel8 HB2.out hg (by omega)
  have hal := bl_alloc (Below.refl w3.heap.size w3) (.cells #[.slice As sn cs, .slice Ar n cr] 26)
  have DX4 : Hid (DX w (w3.alloc (.cells #[.slice As sn cs, .slice Ar n cr] 26)) (w.heap.size + 1) 2010 w3.heap.size w.heap.size (.slice As sn cs) (.slice Ar n cr)) := Lib.hid ⟨by omega, by omega, by omega, by omega, by omega, by omega, ⟨_, Y0c.below hal⟩, ⟨_, Y1c.below hal⟩, ⟨by go_simp, by go_simp⟩, ⟨by go_simp, by go_simp⟩, bl_trans hb3 hal, hrd.bel hal⟩
  have TI4 := Lib.hid (hti.kept (gb_of hal) oth_none)
  have ER4 := Lib.hid (her.kept (gb_of hal) oth_none)
  have hz4 : (w3.alloc (.cells #[.slice As sn cs, .slice Ar n cr] 26)).heap.size = w3.heap.size + 1 := by simp
  clear hti her hg hrd hb3 hal Y0b Y1b Y0c Y1c HB2 TI2 ER2 RD2 hz0 HY0
  have hz23 : w.heap.size + 1 < w2.heap.size := hz2
  go_upto_region 3 with fail
  generalize (w3.alloc (.cells #[.slice As sn cs, .slice Ar n cr] 26)) = w4 at *
  obtain ⟨X, hX⟩ : ∃ X, w3.heap.size = X := ⟨_, rfl⟩
  rw [hX] at DX4 TI4 ER4 hz4 ⊢
  have hR2 : w.heap.size + 1 < w2.heap.size := by omega
  have hX4 : X ≤ w4.heap.size := by omega
  have hXR := DX4.out.hXR
  have hYR := DX4.out.hYR
  have hR4 : w.heap.size + 1 < w4.heap.size := by omega
  refine region_steps (J := fun _ L a' w' => ∃ u3 u4 u13 u14 u15 u16 u17 u18 u19 : Value, a' = ⟨#[.slice A n0 cap0, undef, .pointer (some ⟨w.heap.size, 0, none⟩), u3, u4, .pointer (some ⟨w.heap.size + 1, 0, none⟩), .pointer (some ⟨X, 0, none⟩), .slice A n0 cap0, .pointer (some ⟨w.heap.size + 1, 0, none⟩), .pointer (some ⟨w.heap.size + 1, 0, none⟩), .pointer (some ⟨w.heap.size + 1, 0, none⟩), .agg #[.slice Aa sa ca, .slice Ab na cb], .agg #[.slice As sn cs, .slice Ar n cr], u13, u14, u15, u16, u17, u18, u19], []⟩ ∧ FHo w4 (w.heap.size + 1) X (w.heap.size) (.agg #[.slice As sn cs, .slice Ar n cr]) (.slice As sn cs) (.slice Ar n cr) L w' u3 u4 u13 u14 u15 u16 u17 u18 u19) [[], [], [], [1, 2], [], [], [3, 4, 5], [0, 6], [3, 7], [6, 8]] (by kernel_rfl) (by kernel_rfl) ?_ ⟨?_, ?_, ?_, ?_, ?_, ?_, ?_, ?_, ?_, ?_, trivial⟩ ?_
  · intro L hL
    exact ⟨_, _, _, _, _, _, _, _, _, rfl, ⟨fun _ => Gr.of (Below.refl w4.heap.size w4).drew, fun _ _ => DX4.out.rd.bel (Below.refl w4.heap.size w4).drew, fun _ h _ => tf h (hL 3 (by decide)), fun _ h => tf h (hL 6 (by decide)), fun h => tf h (hL 0 (by decide)), fun h => tf h (hL 1 (by decide)), fun h => tf h (hL 2 (by decide)), fun h => tf h (hL 3 (by decide)), fun h => tf h (hL 4 (by decide)), fun h => tf h (hL 5 (by decide)), fun h => tf h (hL 6 (by decide)), fun h => tf h (hL 7 (by decide)), fun h => tf h (hL 8 (by decide)), fun h => tf h (hL 9 (by decide))⟩⟩
  · intro L hL hd hc a w5 hI K' hK'
    obtain ⟨u3, u4, u13, u14, u15, u16, u17, u18, u19, rfl, hF⟩ := hI
    have h7 : L 7 = false := by
      cases h : L 7 with
      | false => rfl
      | true => exact tf (hc 7 0 (by simp) (h)) hL
    have hgr := hF.gr h7
    have z0 := (hgr.cel DX4.out.x0 hXR).1
    have z1 := (hgr.cel DX4.out.x1 hXR).1
    go_simp
    refine hK' _ _ ⟨_, _, _, _, _, _, _, _, _, rfl, ⟨hF.gr, hF.rd0, hF.rd1, hF.rd2, fun _ => rfl, hF.b1, hF.b2, hF.b3, hF.b4, hF.b5, hF.b6, fun h => tf h h7, hF.b8, hF.b9⟩⟩
  · intro L hL hd hc a w5 hI K' hK'
    obtain ⟨u3, u4, u13, u14, u15, u16, u17, u18, u19, rfl, hF⟩ := hI
    have h7 : L 7 = false := by
      cases h : L 7 with
      | false => rfl
      | true => exact tf (hc 3 1 (by simp) (hc 6 3 (by simp) (hc 7 6 (by simp) (h)))) hL
    have hgr := hF.gr h7
    go_simp
    refine hK' _ _ ⟨_, _, _, _, _, _, _, _, _, rfl, ⟨hF.gr, hF.rd0, hF.rd1, hF.rd2, hF.b0, fun _ => rfl, hF.b2, hF.b3, hF.b4, hF.b5, hF.b6, fun h => tf h h7, hF.b8, hF.b9⟩⟩
  · intro L hL hd hc a w5 hI K' hK'
    obtain ⟨u3, u4, u13, u14, u15, u16, u17, u18, u19, rfl, hF⟩ := hI
    have h7 : L 7 = false := by
      cases h : L 7 with
      | false => rfl
      | true => exact tf (hc 3 2 (by simp) (hc 6 3 (by simp) (hc 7 6 (by simp) (h)))) hL
    have hgr := hF.gr h7
    have hsz := hgr.size
    have hal := bl_alloc (Below.refl w5.heap.size w5) (.cells #[.int .i64 0, .int .i64 0, .int .i64 1, .int .i64 2, .int .i64 (-1), .int .i64 8] 3)
    go_simp
    refine hK' _ _ ⟨_, _, _, _, _, _, _, _, _, rfl, ⟨fun _ => hgr.bel hal, fun h a => (hF.rd0 h a).bel hal, fun h a b => (hF.rd1 h a b).bel hal, fun h a => (hF.rd2 h a).bel hal, hF.b0, hF.b1, fun _ => ⟨_, rfl, (by omega), fun _ => heap_alloc_new _ _⟩, hF.b3, hF.b4, hF.b5, fun h => tf (hc 3 2 (by simp) (hc 6 3 (by simp) (h))) hL, fun h => tf h h7, hF.b8, hF.b9⟩⟩
  · intro L hL hd hc a w5 hI K' hK'
    obtain ⟨u3, u4, u13, u14, u15, u16, u17, u18, u19, rfl, hF⟩ := hI
    have h7 : L 7 = false := by
      cases h : L 7 with
      | false => rfl
      | true => exact tf (hc 6 3 (by simp) (hc 7 6 (by simp) (h))) hL
    have hgr := hF.gr h7
    have hsz := hgr.size
    have hrd := hF.rd0 h7 hL
    obtain ⟨b, rfl, hb1, hb2⟩ := hF.b2 (hd 2 (by simp))
    have hb := hb2 hL
    obtain rfl := hF.b1 (hd 1 (by simp))
    go_simp; go_at_call 56
    refine (num_any (w.heap.size + 1) 2010 b 6 _ _ w5 (by omega) hrd hb1 hb (by rfl) (by omega) (by omega) (lit_all [0, 0, 1, 2, -1, 8])).mono ?_
    rintro e w6 ⟨z, rfl, -, hg, hr⟩
    go_simp
    refine hK' _ _ ⟨_, _, _, _, _, _, _, _, _, rfl, ⟨fun _ => hgr.trans hg, fun _ h => tf (show true = true from rfl) h, fun _ _ _ => hr, fun _ h => tf (hc 6 3 (by simp) (h)) hL, hF.b0, hF.b1, fun _ => ⟨b, rfl, hb1, fun h3 => tf (show true = true from rfl) h3⟩, fun _ => ⟨_, rfl⟩, hF.b4, hF.b5, fun h => tf (hc 6 3 (by simp) (h)) hL, fun h => tf h h7, fun h => tf (hc 8 3 (by simp) (h)) hL, hF.b9⟩⟩
  · intro L hL hd hc a w5 hI K' hK'
    obtain ⟨u3, u4, u13, u14, u15, u16, u17, u18, u19, rfl, hF⟩ := hI
    have h7 : L 7 = false := by
      cases h : L 7 with
      | false => rfl
      | true => exact tf (hc 6 4 (by simp) (hc 7 6 (by simp) (h))) hL
    have hgr := hF.gr h7
    go_simp
    refine hK' _ _ ⟨_, _, _, _, _, _, _, _, _, rfl, ⟨hF.gr, hF.rd0, hF.rd1, hF.rd2, hF.b0, hF.b1, hF.b2, hF.b3, fun _ => rfl, hF.b5, hF.b6, fun h => tf h h7, hF.b8, hF.b9⟩⟩
  · intro L hL hd hc a w5 hI K' hK'
    obtain ⟨u3, u4, u13, u14, u15, u16, u17, u18, u19, rfl, hF⟩ := hI
    have h7 : L 7 = false := by
      cases h : L 7 with
      | false => rfl
      | true => exact tf (hc 6 5 (by simp) (hc 7 6 (by simp) (h))) hL
    have hgr := hF.gr h7
    have z0 := (hgr.cel DX4.out.x0 hXR).1
    have z1 := (hgr.cel DX4.out.x1 hXR).1
    go_simp
    refine hK' _ _ ⟨_, _, _, _, _, _, _, _, _, rfl, ⟨hF.gr, hF.rd0, hF.rd1, hF.rd2, hF.b0, hF.b1, hF.b2, hF.b3, hF.b4, fun _ => rfl, hF.b6, fun h => tf h h7, hF.b8, hF.b9⟩⟩
  · intro L hL hd hc a w5 hI K' hK'
    obtain ⟨u3, u4, u13, u14, u15, u16, u17, u18, u19, rfl, hF⟩ := hI
    have h7 : L 7 = false := by
      cases h : L 7 with
      | false => rfl
      | true => exact tf (hc 7 6 (by simp) (h)) hL
    have hgr := hF.gr h7
    have hsz := hgr.size
    have hrd := hF.rd1 h7 (hd 3 (by simp)) hL
    obtain rfl := hF.b4 (hd 4 (by simp))
    obtain rfl := hF.b5 (hd 5 (by simp))
    go_simp; go_at_call 57
    refine (dcells_any (w.heap.size + 1) 2011 _ _ _ _ _ _ w2.heap.size X _ (by omega) hsn (TI4.out.kept hgr (oth_some (.inl hR2))) hrd hR2 (by omega)).mono ?_
    rintro e w6 ⟨V, kc, rfl, hkc, hts, hg, hr⟩
    obtain ⟨Ac, cc, rfl⟩ := ts_head hts
    go_simp
    refine hK' _ _ ⟨_, _, _, _, _, _, _, _, _, rfl, ⟨fun _ => hgr.trans hg, fun _ h => tf (hd 3 (by simp)) h, fun _ _ h => tf (show true = true from rfl) h, fun _ _ => hr, hF.b0, hF.b1, fun h => by obtain ⟨b, e, h1, h2⟩ := hF.b2 h; exact ⟨b, e, h1, fun h3 => (hg.block b (Array.getElem?_eq_some_iff.1 (h2 h3)).1 (by intro e; cases e; exact h1 rfl)).trans (h2 h3)⟩, hF.b3, hF.b4, hF.b5, fun _ => ⟨_, _, _, rfl, hkc, fun _ => (hts.ti (Nat.le_refl _)).more (by omega) (Nat.le_refl _)⟩, fun h => tf h h7, hF.b8, fun h => tf (hc 9 6 (by simp) (h)) hL⟩⟩
  · intro L hL hd hc a w5 hI K' hK'
    obtain ⟨u3, u4, u13, u14, u15, u16, u17, u18, u19, rfl, hF⟩ := hI
    have hgr := hF.gr hL
    obtain rfl := hF.b0 (hd 0 (by simp))
    obtain ⟨V6, kc6, cc6, rfl, hk6, ht6⟩ := hF.b6 (hd 6 (by simp))
    obtain ⟨yv0, yq0⟩ := DX4.out.y0
    obtain ⟨yv1, yq1⟩ := DX4.out.y1
    obtain ⟨ya, yb⟩ := hgr.cel yq0 hYR
    obtain ⟨yc, yd⟩ := hgr.cel yq1 hYR
    go_simp
    refine hK' _ _ ⟨_, _, _, _, _, _, _, _, _, rfl, ⟨fun h => tf (show true = true from rfl) h, fun h _ => tf (show true = true from rfl) h, fun h _ _ => tf (show true = true from rfl) h, fun h _ => tf (show true = true from rfl) h, hF.b0, hF.b1, fun h => by obtain ⟨b, e, h1, h2⟩ := hF.b2 h; exact ⟨b, e, h1, fun h3 => tf (hc 6 3 (by simp) (hd 6 (by simp))) h3⟩, hF.b3, hF.b4, hF.b5, fun _ => ⟨_, _, _, rfl, hk6, fun h => tf (show true = true from rfl) h⟩, fun _ => ⟨w5, hgr, rfl, _, _, _, rfl, hk6, ht6 hL⟩, hF.b8, hF.b9⟩⟩
  · intro L hL hd hc a w5 hI K' hK'
    obtain ⟨u3, u4, u13, u14, u15, u16, u17, u18, u19, rfl, hF⟩ := hI
    go_simp
    refine hK' _ _ ⟨_, _, _, _, _, _, _, _, _, rfl, ⟨hF.gr, hF.rd0, hF.rd1, hF.rd2, hF.b0, hF.b1, hF.b2, hF.b3, hF.b4, hF.b5, hF.b6, hF.fin, fun _ => rfl, hF.b9⟩⟩
  · intro L hL hd hc a w5 hI K' hK'
    obtain ⟨u3, u4, u13, u14, u15, u16, u17, u18, u19, rfl, hF⟩ := hI
    go_simp
    refine hK' _ _ ⟨_, _, _, _, _, _, _, _, _, rfl, ⟨hF.gr, hF.rd0, hF.rd1, hF.rd2, hF.b0, hF.b1, hF.b2, hF.b3, hF.b4, hF.b5, hF.b6, hF.fin, hF.b8, fun _ => rfl⟩⟩
  · intro L hL a' w5 hI
    obtain ⟨u3, u4, u13, u14, u15, u16, u17, u18, u19, rfl, hF⟩ := hI
    obtain ⟨z, e16⟩ := hF.b3 (hL 3)
    obtain ⟨w6, hgr, rfl, V, kc, cc, e19, hkc, hti⟩ := hF.fin (hL 7)
    obtain rfl := hF.b8 (hL 8)
    obtain rfl := hF.b9 (hL 9)
    subst e16
    subst e19
    clear hF hL
    have DX6 := Lib.hid (DX4.out.grr hgr)
    have TI6 := Lib.hid (TI4.out.kept hgr (oth_some (.inl hR2)))
    have ER6 := Lib.hid (ER4.out.kept hgr (oth_some (.inl hR2)))
    have TC6 := Lib.hid hti
    have hz6 := hgr.size
    obtain ⟨f1, f2⟩ := DX6.out.fin' (.slice As sn cs) (.slice Ar n cr)
    have f3 := f1.size
    obtain ⟨yv0, yq0⟩ := DX6.out.y0
    obtain ⟨yv1, yq1⟩ := DX6.out.y1
    have g0 := (Cel.put (u := .slice As sn cs) yq0).set (u := .slice Ar n cr) (O' := w.heap.size) (o' := 1) (.inr (by omega))
    have g1 := Cel.put (u := .slice Ar n cr) (yq1.set (u := .slice As sn cs) (O' := w.heap.size) (o' := 0) (.inr (by omega)))
    obtain ⟨g0, -⟩ := g0
    obtain ⟨g1, -⟩ := g1
    go_wp2
    refine bodyPost_ret (v := .tuple #[.agg #[.slice As sn cs, .slice Ar n cr], .int .i64 z, .slice V kc cc]) (by simp [results, Try.results18, go_sem, g0, g1]) rfl ?_
    have h := MT.mk' (w0 := w) TI6.out ER6.out hsn hn f1 (by omega) (by omega) f2 (by omega) (by omega) (by omega) (by omega)
    exact ⟨As, cs, Ar, cr, sn, n, z, V, kc, cc, rfl, h, hkc, (TC6.out.kept f1 (oth_some (.inl (by omega)))).more (by omega) f3⟩

structure FBv (w4 : World) (R X Y : Nat) (vm v0 v1 : Value) (L : Nat → Bool) (w : World) (u3 u4 u13 u14 u15 u16 u17 u18 u19 : Value) : Prop where
  gr : L 7 = false → Gr R w4 w
  rd0 : L 7 = false → L 3 = false → Rdr w R 2010
  rd1 : L 7 = false → L 3 = true → L 6 = false → Rdr w R 2011
  rd2 : L 7 = false → L 6 = true → Rdr w R 2012
  b0 : L 0 = true → u13 = vm
  b1 : L 1 = true → u14 = .pointer (some ⟨R, 0, none⟩)
  b2 : L 2 = true → ∃ b, u15 = .slice (some ⟨b, 0, none⟩) 6 6 ∧ b ≠ R ∧ (L 3 = false → w.heap[b]? = some (.cells #[.int .i64 0, .int .i64 1, .int .i64 2, .int .i64 3, .int .i64 (-1), .int .i64 5] 3 (0, 0)))
  b3 : L 3 = true → ∃ z : Int, u16 = .int .i64 z
  b4 : L 4 = true → u17 = .pointer (some ⟨R, 0, none⟩)
  b5 : L 5 = true → ∃ b, u18 = .slice (some ⟨b, 0, none⟩) 6 6 ∧ b ≠ R ∧ (L 6 = false → w.heap[b]? = some (.cells #[.int .i64 0, .int .i64 1, .int .i64 2, .int .i64 3, .int .i64 (-1), .int .i64 4] 3 (0, 0)))
  b6 : L 6 = true → ∃ z : Int, u19 = .int .i64 z
  fin : L 7 = true → ∃ w'', Gr R w4 w'' ∧ w = (w''.setCell ⟨Y, 0, none⟩ v0).setCell ⟨Y, 1, none⟩ v1
  b8 : L 8 = true → u3 = u16
  b9 : L 9 = true → u4 = u19

set_option linter.unusedVariables false in
set_option linter.unusedSimpArgs false in
set_option maxRecDepth 100000 in
set_option maxHeartbeats 6400000 in
theorem drawBool_any (A : Option Addr) (n0 cap0 : Nat) (y : Nat → Int) (w : World) (hm : n0 ≤ maxLen) (hcap : n0 ≤ cap0) (hr : RdY w w.heap.size A n0 y) :
    Calls Try.prog 20 #[.slice A n0 cap0] w fun e w' => ∃ As cs Ar cr sn n, ∃ cell val : Int, e = .returned (.tuple #[.agg #[.slice As sn cs, .slice Ar n cr], .int .i64 cell, .int .i64 val]) ∧ MT w w' As Ar sn cs n cr := by
  have HY0 := Lib.hid (bl_alloc (Below.refl w.heap.size w) (.cells #[.slice none 0 0, .slice none 0 0] 26))
  have y0 : Cel (w.alloc (.cells #[.slice none 0 0, .slice none 0 0] 26)) w.heap.size 0 (.slice none 0 0) := ⟨by go_simp, by go_simp⟩
  have y1 : Cel (w.alloc (.cells #[.slice none 0 0, .slice none 0 0] 26)) w.heap.size 1 (.slice none 0 0) := ⟨by go_simp, by go_simp⟩
  have hz0 : (w.alloc (.cells #[.slice none 0 0, .slice none 0 0] 26)).heap.size = w.heap.size + 1 := by simp
  have Y0 := Lib.hid y0
  have Y1 := Lib.hid y1
  clear y0 y1
  go_enter Try.func20, Try.ntmps20
  go_wp2_with fail
  refine (open_any _ _ _ y _ hm hcap (hr.later HY0.out)).mono ?_
  rintro e w1 ⟨rfl, hb, hrd, hz1⟩
  have hb1 := bl_trans HY0.out hb
  have Y0a := Lib.hid (Y0.out.below hb)
  have Y1a := Lib.hid (Y1.out.below hb)
  rw [hz0] at hrd hz1
  have HB1 := Lib.hid hb1
  have RD1 := Lib.hid hrd
  clear hb hb1 hrd hr Y0 Y1
  go_wp2_with fail
  refine (model_any (w.heap.size + 1) 0 _ (by omega) RD1.out).mono ?_
  rintro e w2 ⟨Aa, ca, Ab, cb, sa, na, rfl, hsa, hna, hti, her, hg, hrd⟩
  have Y0b := Lib.hid (hg.cel Y0a.out (by omega))
  have Y1b := Lib.hid (hg.cel Y1a.out (by omega))
  have HB2 := Lib.hid (gr_bel8 HB1.out hg (by omega))
  have TI2 := Lib.hid hti
  have ER2 := Lib.hid her
  have RD2 := Lib.hid hrd
  have hz2 : w.heap.size + 1 < w2.heap.size := Nat.lt_of_lt_of_le hz1 hg.size
  clear hti her hg hrd Y0a Y1a HB1 RD1
  go_wp2_with fail
  refine (mutate_any (w.heap.size + 1) (0 + 2000) _ _ _ _ _ _ _ _ _ (by omega) hsa hna TI2.out (ER2.out) RD2.out).mono ?_
  rintro e w3 ⟨As, cs, Ar, cr, sn, n, rfl, hsn, hn, hti, her, hg, hrd⟩
  have hz3 : w.heap.size + 1 < w3.heap.size := Nat.lt_of_lt_of_le hz2 hg.size
  have Y0c := hg.cel Y0b.out (by omega)
  have Y1c := hg.cel Y1b.out (by omega)
  have hb3 := gr_bel8 HB2.out hg (by omega)
  have hal := bl_alloc (Below.refl w3.heap.size w3) (.cells #[.slice As sn cs, .slice Ar n cr] 26)
  have DX4 : Hid (DX w (w3.alloc (.cells #[.slice As sn cs, .slice Ar n cr] 26)) (w.heap.size + 1) 2010 w3.heap.size w.heap.size (.slice As sn cs) (.slice Ar n cr)) := Lib.hid ⟨by omega, by omega, by omega, by omega, by omega, by omega, ⟨_, Y0c.below hal⟩, ⟨_, Y1c.below hal⟩, ⟨by go_simp, by go_simp⟩, ⟨by go_simp, by go_simp⟩, bl_trans hb3 hal, hrd.bel hal⟩
  have TI4 := Lib.hid (hti.kept (gb_of hal) oth_none)
  have ER4 := Lib.hid (her.kept (gb_of hal) oth_none)
  have hz4 : (w3.alloc (.cells #[.slice As sn cs, .slice Ar n cr] 26)).heap.size = w3.heap.size + 1 := by simp
  clear hti her hg hrd hb3 hal Y0b Y1b Y0c Y1c HB2 TI2 ER2 RD2 hz0 HY0
  have hz23 : w.heap.size + 1 < w2.heap.size := hz2
  go_upto_region 3 with fail
  generalize (w3.alloc (.cells #[.slice As sn cs, .slice Ar n cr] 26)) = w4 at *
  obtain ⟨X, hX⟩ : ∃ X, w3.heap.size = X := ⟨_, rfl⟩
  rw [hX] at DX4 TI4 ER4 hz4 ⊢
  have hR2 : w.heap.size + 1 < w2.heap.size := by omega
  have hX4 : X ≤ w4.heap.size := by omega
  have hXR := DX4.out.hXR
  have hYR := DX4.out.hYR
  have hR4 : w.heap.size + 1 < w4.heap.size := by omega
  refine region_steps (J := fun _ L a' w' => ∃ u3 u4 u13 u14 u15 u16 u17 u18 u19 : Value, a' = ⟨#[.slice A n0 cap0, undef, .pointer (some ⟨w.heap.size, 0, none⟩), u3, u4, .pointer (some ⟨w.heap.size + 1, 0, none⟩), .pointer (some ⟨X, 0, none⟩), .slice A n0 cap0, .pointer (some ⟨w.heap.size + 1, 0, none⟩), .pointer (some ⟨w.heap.size + 1, 0, none⟩), .pointer (some ⟨w.heap.size + 1, 0, none⟩), .agg #[.slice Aa sa ca, .slice Ab na cb], .agg #[.slice As sn cs, .slice Ar n cr], u13, u14, u15, u16, u17, u18, u19], []⟩ ∧ FBv w4 (w.heap.size + 1) X (w.heap.size) (.agg #[.slice As sn cs, .slice Ar n cr]) (.slice As sn cs) (.slice Ar n cr) L w' u3 u4 u13 u14 u15 u16 u17 u18 u19) [[], [], [], [1, 2], [], [], [3, 4, 5], [0, 6], [3, 7], [6, 8]] (by kernel_rfl) (by kernel_rfl) ?_ ⟨?_, ?_, ?_, ?_, ?_, ?_, ?_, ?_, ?_, ?_, trivial⟩ ?_
  · intro L hL
    exact ⟨_, _, _, _, _, _, _, _, _, rfl, ⟨fun _ => Gr.of (Below.refl w4.heap.size w4).drew, fun _ _ => DX4.out.rd.bel (Below.refl w4.heap.size w4).drew, fun _ h _ => tf h (hL 3 (by decide)), fun _ h => tf h (hL 6 (by decide)), fun h => tf h (hL 0 (by decide)), fun h => tf h (hL 1 (by decide)), fun h => tf h (hL 2 (by decide)), fun h => tf h (hL 3 (by decide)), fun h => tf h (hL 4 (by decide)), fun h => tf h (hL 5 (by decide)), fun h => tf h (hL 6 (by decide)), fun h => tf h (hL 7 (by decide)), fun h => tf h (hL 8 (by decide)), fun h => tf h (hL 9 (by decide))⟩⟩
  · intro L hL hd hc a w5 hI K' hK'
    obtain ⟨u3, u4, u13, u14, u15, u16, u17, u18, u19, rfl, hF⟩ := hI
    have h7 : L 7 = false := by
      cases h : L 7 with
      | false => rfl
      | true => exact tf (hc 7 0 (by simp) (h)) hL
    have hgr := hF.gr h7
    have z0 := (hgr.cel DX4.out.x0 hXR).1
    have z1 := (hgr.cel DX4.out.x1 hXR).1
    go_simp
    refine hK' _ _ ⟨_, _, _, _, _, _, _, _, _, rfl, ⟨hF.gr, hF.rd0, hF.rd1, hF.rd2, fun _ => rfl, hF.b1, hF.b2, hF.b3, hF.b4, hF.b5, hF.b6, fun h => tf h h7, hF.b8, hF.b9⟩⟩
  · intro L hL hd hc a w5 hI K' hK'
    obtain ⟨u3, u4, u13, u14, u15, u16, u17, u18, u19, rfl, hF⟩ := hI
    have h7 : L 7 = false := by
      cases h : L 7 with
      | false => rfl
      | true => exact tf (hc 3 1 (by simp) (hc 6 3 (by simp) (hc 7 6 (by simp) (h)))) hL
    have hgr := hF.gr h7
    go_simp
    refine hK' _ _ ⟨_, _, _, _, _, _, _, _, _, rfl, ⟨hF.gr, hF.rd0, hF.rd1, hF.rd2, hF.b0, fun _ => rfl, hF.b2, hF.b3, hF.b4, hF.b5, hF.b6, fun h => tf h h7, hF.b8, hF.b9⟩⟩
  · intro L hL hd hc a w5 hI K' hK'
    obtain ⟨u3, u4, u13, u14, u15, u16, u17, u18, u19, rfl, hF⟩ := hI
    have h7 : L 7 = false := by
      cases h : L 7 with
      | false => rfl
      | true => exact tf (hc 3 2 (by simp) (hc 6 3 (by simp) (hc 7 6 (by simp) (h)))) hL
    have hgr := hF.gr h7
    have hsz := hgr.size
    have hal := bl_alloc (Below.refl w5.heap.size w5) (.cells #[.int .i64 0, .int .i64 1, .int .i64 2, .int .i64 3, .int .i64 (-1), .int .i64 5] 3)
    go_simp
    refine hK' _ _ ⟨_, _, _, _, _, _, _, _, _, rfl, ⟨fun _ => hgr.bel hal, fun h a => (hF.rd0 h a).bel hal, fun h a b => (hF.rd1 h a b).bel hal, fun h a => (hF.rd2 h a).bel hal, hF.b0, hF.b1, fun _ => ⟨_, rfl, (by omega), fun _ => heap_alloc_new _ _⟩, hF.b3, hF.b4, fun h => by obtain ⟨b, e, h1, h2⟩ := hF.b5 h; exact ⟨b, e, h1, fun h3 => (hal.block b (Array.getElem?_eq_some_iff.1 (h2 h3)).1).trans (h2 h3)⟩, hF.b6, fun h => tf h h7, hF.b8, hF.b9⟩⟩
  · intro L hL hd hc a w5 hI K' hK'
    obtain ⟨u3, u4, u13, u14, u15, u16, u17, u18, u19, rfl, hF⟩ := hI
    have h7 : L 7 = false := by
      cases h : L 7 with
      | false => rfl
      | true => exact tf (hc 6 3 (by simp) (hc 7 6 (by simp) (h))) hL
    have hgr := hF.gr h7
    have hsz := hgr.size
    have hrd := hF.rd0 h7 hL
    obtain ⟨b, rfl, hb1, hb2⟩ := hF.b2 (hd 2 (by simp))
    have hb := hb2 hL
    obtain rfl := hF.b1 (hd 1 (by simp))
    go_simp; go_at_call 56
    refine (num_any (w.heap.size + 1) 2010 b 6 _ _ w5 (by omega) hrd hb1 hb (by rfl) (by omega) (by omega) (lit_all [0, 1, 2, 3, -1, 5])).mono ?_
    rintro e w6 ⟨z, rfl, -, hg, hr⟩
    go_simp
    refine hK' _ _ ⟨_, _, _, _, _, _, _, _, _, rfl, ⟨fun _ => hgr.trans hg, fun _ h => tf (show true = true from rfl) h, fun _ _ _ => hr, fun _ h => tf (hc 6 3 (by simp) (h)) hL, hF.b0, hF.b1, fun _ => ⟨b, rfl, hb1, fun h3 => tf (show true = true from rfl) h3⟩, fun _ => ⟨_, rfl⟩, hF.b4, fun h => by obtain ⟨b, e, h1, h2⟩ := hF.b5 h; exact ⟨b, e, h1, fun h3 => (hg.block b (Array.getElem?_eq_some_iff.1 (h2 h3)).1 (by intro e; cases e; exact h1 rfl)).trans (h2 h3)⟩, hF.b6, fun h => tf h h7, fun h => tf (hc 8 3 (by simp) (h)) hL, hF.b9⟩⟩
  · intro L hL hd hc a w5 hI K' hK'
    obtain ⟨u3, u4, u13, u14, u15, u16, u17, u18, u19, rfl, hF⟩ := hI
    have h7 : L 7 = false := by
      cases h : L 7 with
      | false => rfl
      | true => exact tf (hc 6 4 (by simp) (hc 7 6 (by simp) (h))) hL
    have hgr := hF.gr h7
    go_simp
    refine hK' _ _ ⟨_, _, _, _, _, _, _, _, _, rfl, ⟨hF.gr, hF.rd0, hF.rd1, hF.rd2, hF.b0, hF.b1, hF.b2, hF.b3, fun _ => rfl, hF.b5, hF.b6, fun h => tf h h7, hF.b8, hF.b9⟩⟩
  · intro L hL hd hc a w5 hI K' hK'
    obtain ⟨u3, u4, u13, u14, u15, u16, u17, u18, u19, rfl, hF⟩ := hI
    have h7 : L 7 = false := by
      cases h : L 7 with
      | false => rfl
      | true => exact tf (hc 6 5 (by simp) (hc 7 6 (by simp) (h))) hL
    have hgr := hF.gr h7
    have hsz := hgr.size
    have hal := bl_alloc (Below.refl w5.heap.size w5) (.cells #[.int .i64 0, .int .i64 1, .int .i64 2, .int .i64 3, .int .i64 (-1), .int .i64 4] 3)
    go_simp
    refine hK' _ _ ⟨_, _, _, _, _, _, _, _, _, rfl, ⟨fun _ => hgr.bel hal, fun h a => (hF.rd0 h a).bel hal, fun h a b => (hF.rd1 h a b).bel hal, fun h a => (hF.rd2 h a).bel hal, hF.b0, hF.b1, fun h => by obtain ⟨b, e, h1, h2⟩ := hF.b2 h; exact ⟨b, e, h1, fun h3 => (hal.block b (Array.getElem?_eq_some_iff.1 (h2 h3)).1).trans (h2 h3)⟩, hF.b3, hF.b4, fun _ => ⟨_, rfl, (by omega), fun _ => heap_alloc_new _ _⟩, hF.b6, fun h => tf h h7, hF.b8, hF.b9⟩⟩
  · intro L hL hd hc a w5 hI K' hK'
    obtain ⟨u3, u4, u13, u14, u15, u16, u17, u18, u19, rfl, hF⟩ := hI
    have h7 : L 7 = false := by
      cases h : L 7 with
      | false => rfl
      | true => exact tf (hc 7 6 (by simp) (h)) hL
    have hgr := hF.gr h7
    have hsz := hgr.size
    have hrd := hF.rd1 h7 (hd 3 (by simp)) hL
    obtain ⟨b, rfl, hb1, hb2⟩ := hF.b5 (hd 5 (by simp))
    have hb := hb2 hL
    obtain rfl := hF.b4 (hd 4 (by simp))
    go_simp; go_at_call 56
    refine (num_any (w.heap.size + 1) 2011 b 6 _ _ w5 (by omega) hrd hb1 hb (by rfl) (by omega) (by omega) (lit_all [0, 1, 2, 3, -1, 4])).mono ?_
    rintro e w6 ⟨z, rfl, -, hg, hr⟩
    go_simp
    refine hK' _ _ ⟨_, _, _, _, _, _, _, _, _, rfl, ⟨fun _ => hgr.trans hg, fun _ h => tf (hd 3 (by simp)) h, fun _ _ h => tf (show true = true from rfl) h, fun _ _ => hr, hF.b0, hF.b1, fun h => by obtain ⟨b, e, h1, h2⟩ := hF.b2 h; exact ⟨b, e, h1, fun h3 => (hg.block b (Array.getElem?_eq_some_iff.1 (h2 h3)).1 (by intro e; cases e; exact h1 rfl)).trans (h2 h3)⟩, hF.b3, hF.b4, fun _ => ⟨b, rfl, hb1, fun h3 => tf (show true = true from rfl) h3⟩, fun _ => ⟨_, rfl⟩, fun h => tf h h7, hF.b8, fun h => tf (hc 9 6 (by simp) (h)) hL⟩⟩
  · intro L hL hd hc a w5 hI K' hK'
    obtain ⟨u3, u4, u13, u14, u15, u16, u17, u18, u19, rfl, hF⟩ := hI
    have hgr := hF.gr hL
    obtain rfl := hF.b0 (hd 0 (by simp))
    obtain ⟨yv0, yq0⟩ := DX4.out.y0
    obtain ⟨yv1, yq1⟩ := DX4.out.y1
    obtain ⟨ya, yb⟩ := hgr.cel yq0 hYR
    obtain ⟨yc, yd⟩ := hgr.cel yq1 hYR
    go_simp
    refine hK' _ _ ⟨_, _, _, _, _, _, _, _, _, rfl, ⟨fun h => tf (show true = true from rfl) h, fun h _ => tf (show true = true from rfl) h, fun h _ _ => tf (show true = true from rfl) h, fun h _ => tf (show true = true from rfl) h, hF.b0, hF.b1, fun h => by obtain ⟨b, e, h1, h2⟩ := hF.b2 h; exact ⟨b, e, h1, fun h3 => tf (hc 6 3 (by simp) (hd 6 (by simp))) h3⟩, hF.b3, hF.b4, fun h => by obtain ⟨b, e, h1, h2⟩ := hF.b5 h; exact ⟨b, e, h1, fun h3 => tf (hd 6 (by simp)) h3⟩, hF.b6, fun _ => ⟨w5, hgr, rfl⟩, hF.b8, hF.b9⟩⟩
  · intro L hL hd hc a w5 hI K' hK'
    obtain ⟨u3, u4, u13, u14, u15, u16, u17, u18, u19, rfl, hF⟩ := hI
    go_simp
    refine hK' _ _ ⟨_, _, _, _, _, _, _, _, _, rfl, ⟨hF.gr, hF.rd0, hF.rd1, hF.rd2, hF.b0, hF.b1, hF.b2, hF.b3, hF.b4, hF.b5, hF.b6, hF.fin, fun _ => rfl, hF.b9⟩⟩
  · intro L hL hd hc a w5 hI K' hK'
    obtain ⟨u3, u4, u13, u14, u15, u16, u17, u18, u19, rfl, hF⟩ := hI
    go_simp
    refine hK' _ _ ⟨_, _, _, _, _, _, _, _, _, rfl, ⟨hF.gr, hF.rd0, hF.rd1, hF.rd2, hF.b0, hF.b1, hF.b2, hF.b3, hF.b4, hF.b5, hF.b6, hF.fin, hF.b8, fun _ => rfl⟩⟩
  · intro L hL a' w5 hI
    obtain ⟨u3, u4, u13, u14, u15, u16, u17, u18, u19, rfl, hF⟩ := hI
    obtain ⟨z, e16⟩ := hF.b3 (hL 3)
    obtain ⟨z', e19⟩ := hF.b6 (hL 6)
    obtain ⟨w6, hgr, rfl⟩ := hF.fin (hL 7)
    obtain rfl := hF.b8 (hL 8)
    obtain rfl := hF.b9 (hL 9)
    subst e16
    subst e19
    clear hF hL
    have DX6 := Lib.hid (DX4.out.grr hgr)
    have TI6 := Lib.hid (TI4.out.kept hgr (oth_some (.inl hR2)))
    have ER6 := Lib.hid (ER4.out.kept hgr (oth_some (.inl hR2)))
    have hz6 := hgr.size
    obtain ⟨f1, f2⟩ := DX6.out.fin' (.slice As sn cs) (.slice Ar n cr)
    have f3 := f1.size
    obtain ⟨yv0, yq0⟩ := DX6.out.y0
    obtain ⟨yv1, yq1⟩ := DX6.out.y1
    have g0 := (Cel.put (u := .slice As sn cs) yq0).set (u := .slice Ar n cr) (O' := w.heap.size) (o' := 1) (.inr (by omega))
    have g1 := Cel.put (u := .slice Ar n cr) (yq1.set (u := .slice As sn cs) (O' := w.heap.size) (o' := 0) (.inr (by omega)))
    obtain ⟨g0, -⟩ := g0
    obtain ⟨g1, -⟩ := g1
    go_wp2
    refine bodyPost_ret (v := .tuple #[.agg #[.slice As sn cs, .slice Ar n cr], .int .i64 z, .int .i64 z']) (by simp [results, Try.results20, go_sem, g0, g1]) rfl ?_
    have h := MT.mk' (w0 := w) TI6.out ER6.out hsn hn f1 (by omega) (by omega) f2 (by omega) (by omega) (by omega) (by omega)
    exact ⟨As, cs, Ar, cr, sn, n, z, z', rfl, h⟩

end Go.Proofs.Ythjcbaccoogloaa
