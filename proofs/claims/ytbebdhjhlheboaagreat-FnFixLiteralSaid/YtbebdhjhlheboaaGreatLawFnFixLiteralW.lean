/- The walk of the law FnFixLiteral (no claim of its own). Conditions: as each theorem states. -/
import Derived.Test.YtbebdhjhlheboaaGreatFflZ
import Derived.Deep.Cut
namespace Go.Proofs.YtbebdhjhlheboaaGreat
open Go.ChangeShapes Go.WideShapes Go.ChangeAt Go.RowKit

theorem tfL {b : Bool} {P : Prop} (h : b = true) (h' : b = false) : P := by rw [h] at h'; cases h'
theorem row_belowL {w w' : World} {B : Nat} {e : TypeId} {s : Nat} {v : Value} {n : Nat} {xs : List Value} (h : w.ownsRow B e s v n xs) (hb : Below w.heap.size w w') : w'.ownsRow B e s v n xs := row_below' h hb
theorem block_ltL {w : World} {p : Nat} {o : Obj} (h : w.heap[p]? = some o) : p < w.heap.size := (Array.getElem?_eq_some_iff.1 h).1
theorem box_twoL (w : World) (T C : TypeId) (x y : Value) (cs : Array Value) : ((w.alloc (.cells #[x, y] T)).alloc (.cells cs C)).heap[w.heap.size]? = some (.cells #[x, y] T (0, 0)) := (Below.heap_alloc _ _ _ (by simp)).trans (heap_alloc_new _ _)
/-- What is known while the operations of the last region run: the fixed problem's solutions are counted, a copy of the problem gets one constraint, and its solutions are counted. -/
structure FFl (wq : World) (V X : Value) (T kl : Nat) (xs : List Value) (d : Nat) (L : Nat → Bool) (w : World) (u2 u55 u56 u57 u58 u59 u60 u61 u62 u63 u64 u65 : Value) : Prop where
  bel : Below wq.heap.size wq w
  b0 : L 0 = true → u55 = X
  b1 : L 1 = true → u56 = .int .i64 (2 * (d : Int))
  b2 : L 2 = true → ∃ p, u57 = .slice (some ⟨p, 0, none⟩) 0 0 ∧ wq.heap.size ≤ p ∧ p < w.heap.size ∧ (L 4 = false → w.heap[p]? = some (.cells #[] 33 (0, 0)))
  b3 : L 3 = true → u58 = V
  b4 : L 4 = true → ∃ A c, u59 = .slice A kl c ∧ (L 7 = false → w.ownsRow wq.heap.size 33 2 (.slice A kl c) kl xs)
  b5 : L 5 = true → u60 = .agg #[.slice (some ⟨T, 0, none⟩) 1 1, .int .i64 1]
  b6 : L 6 = true → ∃ p, u61 = .slice (some ⟨p, 0, none⟩) 1 1 ∧ (L 7 = false → w.heap[p]? = some (.cells #[.slice (some ⟨T, 0, none⟩) 1 1, .int .i64 1] 33 (0, 0)))
  b7 : L 7 = true → ∃ A c, u62 = .slice A (kl + 1) c ∧ (L 8 = false → w.ownsRow wq.heap.size 33 2 (.slice A (kl + 1) c) (kl + 1) (xs ++ [.slice (some ⟨T, 0, none⟩) 1 1, .int .i64 1]))
  b8 : L 8 = true → u63 = .int .i64 d
  b9 : L 9 = true → u64 = .int .i64 (2 * (d : Int))
  b10 : L 10 = true → u65 = .bool true
  b11 : L 11 = true → u2 = .bool true

set_option linter.unusedVariables false in
set_option maxRecDepth 100000 in
set_option maxHeartbeats 6400000 in
theorem lawFnFixLiteral_ok (A0 : Option Addr) (n0 cap0 : Nat) (y0 : Nat → Int) (w : World) (h0 : n0 ≤ 1048576) (hc0 : n0 ≤ cap0) (hr0 : RdY w w.heap.size A0 n0 y0) :
    Calls Tryz.prog 3 #[.slice A0 n0 cap0] w fun e w' => e = .returned (.bool true) ∧ Below w.heap.size w w' := by
  have hm0 : n0 ≤ maxLen := by unfold maxLen; omega
  have hi0 : ¬ (1048576 : Int) < (n0 : Int) := by omega
  go_enter Tryz.func3, Tryz.ntmps3
  go_wp2_with fail
  refine (drawFxlX_any _ _ _ y0 _ hm0 hc0 hr0).mono ?_
  rintro e w1 ⟨Al, kl, capl, xsl, lo, el, z, rfl, hkl, hza, hzb, hp, hb⟩
  obtain ⟨p, hna, hpp⟩ := hp.pxp
  have HN := Lib.hid (fun i hi => Nat.le_trans (hna i hi) (show 15 ≤ 1048576 by omega))
  have HB1 := Lib.hid hb
  have PA1 := Lib.hid hp
  have QA1 := Lib.hid hpp
  have hklB : kl ≤ 1048576 := by omega
  clear hb hp hpp hna hr0
  go_wp2_with fail
  refine (implFxl_any _ _ _ p z _ hklB HN.out (rdp_own PA1.out.own QA1.out)).mono ?_
  rintro e w2 ⟨Ax, capx, rfl, hfx, hb⟩
  have HB2 := Lib.hid (bl_trans HB1.out hb)
  have PA2 := Lib.hid (PA1.out.bel hb)
  have QA2 := Lib.hid (QA1.out.later hb)
  have FX2 := Lib.hid hfx
  clear hb hfx HB1 PA1 QA1
  go_wp2_with fail
  refine (specFxl_any _ _ _ p z _ hklB HN.out (rdp_own PA2.out.own QA2.out)).mono ?_
  rintro e w3 ⟨Aw, capw, rfl, hfw, hb⟩
  have HB3 := Lib.hid (bl_trans HB2.out hb)
  have PA3 := Lib.hid (PA2.out.bel hb)
  have QA3 := Lib.hid (QA2.out.later hb)
  have FX3 := Lib.hid (FX2.out.below hb)
  have FW3 := Lib.hid hfw
  clear hb hfw HB2 PA2 QA2 FX2
  have hNu : fxlN kl p z ≤ 1048576 := Nat.le_trans (fxlN_le _ _ _) (by omega)
  have HNu := Lib.hid (fxl_all kl p z)
  cases hu : fxlOk kl p z with
  | false =>
    clear hu
    go_wp2_with fail
    refine (cpProblem_same _ _ _ _ _ (fxlK p z) _ hNu HNu.out FX3.out.rdAt FW3.out.rdAt).mono ?_
    rintro e w4 ⟨rfl, hb⟩
    have HB4 := Lib.hid (bl_trans HB3.out hb)
    have FX4 := Lib.hid (FX3.out.below hb)
    have FW4 := Lib.hid (FW3.out.below hb)
    clear hb FX3 FW3 HB3 PA3 QA3
    go_wp2_with fail
    refine (cpProblem_same _ _ _ _ _ (fxlK p z) _ hNu HNu.out FX4.out.rdAt FW4.out.rdAt).mono ?_
    rintro e w5 ⟨rfl, hb⟩
    have HB5 := Lib.hid (bl_trans HB4.out hb)
    clear hb FX4 FW4 HB4
    go_wp2
    go_ret
    exact ⟨rfl, HB5.out⟩
  | true =>
    have hN1 : fxlN kl p z = kl := if_pos hu
    obtain ⟨d, e2⟩ : ∃ d : Nat, cntS (kl + 1) (catP kl p fun _ => oneC z) = d := ⟨_, rfl⟩
    have E1 := Lib.hid (show ((cntS kl (fxlK p z) : Nat) : Int) = 2 * (d : Int) from by rw [fxl_count hu (by omega), e2]; omega)
    have hd1 : (d : Int) ≤ 4096 := by have := cntS_le (kl + 1) (catP kl p fun _ => oneC z); omega
    have E2 := Lib.hid e2
    rw [hN1] at hNu HNu FX3 FW3 ⊢
    clear hu hN1 e2
    go_wp2_with fail
    refine (cpProblem_same _ _ _ _ _ (fxlK p z) _ hNu HNu.out FX3.out.rdAt FW3.out.rdAt).mono ?_
    rintro e w4 ⟨rfl, hb⟩
    have HB4 := Lib.hid (bl_trans HB3.out hb)
    have PA4 := Lib.hid (PA3.out.bel hb)
    have QA4 := Lib.hid (QA3.out.later hb)
    have FX4 := Lib.hid (FX3.out.below hb).rdAt
    clear hb FX3 FW3 HB3 PA3 QA3
    have hw1 : wrap64 (2 * (d : Int)) = 2 * (d : Int) := by rw [← IntWalk.i64_left]; exact IntWalk.i64_in _ (by omega)
    have hw2 : IntKind.i64.wrap (2 * (d : Int)) = 2 * (d : Int) := IntWalk.i64_in _ (by omega)
    have HNl0 := Lib.hid PA4.out.nils
    go_upto_region 9 with fail
    go_upto_region 9 with fail
    obtain ⟨wq, hwq⟩ : ∃ wq : World, wq = ((w4.alloc (.cells #[.int .i64 1, .int .i64 z] 30)).alloc (.cells #[.slice (some ⟨w4.heap.size, 0, none⟩) 1 1, .int .i64 1] 33)) := ⟨_, rfl⟩
    rw [← hwq]
    have hA5 : Below w4.heap.size w4 wq := by rw [hwq]; exact bl_alloc (bl_alloc (Below.refl w4.heap.size w4) _) _
    have HT5 := Lib.hid (show wq.heap[w4.heap.size]? = some (.cells #[.int .i64 1, .int .i64 z] 30 (0, 0)) from by rw [hwq]; exact box_twoL _ _ _ _ _ _)
    have R0 := Lib.hid (show wq.cell? ⟨w4.heap.size + 1, 0, none⟩ = some (.slice (some ⟨w4.heap.size, 0, none⟩) 1 1) from by rw [hwq]; go_simp)
    have R1 := Lib.hid (show wq.cell? ⟨w4.heap.size + 1, 1, none⟩ = some (.int .i64 1) from by rw [hwq]; go_simp)
    have HB5 := Lib.hid (bl_trans HB4.out hA5)
    have PA5 := Lib.hid (PA4.out.bel hA5)
    have QA5 := Lib.hid (QA4.out.later hA5)
    have FX5 := Lib.hid (FX4.out.later hA5)
    clear hA5 hwq HB4 PA4 QA4 FX4
    refine region_steps2 (J := fun _ L a' w' => ∃ u2 u55 u56 u57 u58 u59 u60 u61 u62 u63 u64 u65 : Value, a' = ⟨#[.slice A0 n0 cap0, undef, u2, .slice Al kl capl, .int .i64 z, .slice Ax kl capx, .bool true, .slice Aw kl capw, .bool true, .pointer (some ⟨w4.heap.size + 1, 0, none⟩), .slice A0 n0 cap0, .int .i64 n0, .bool false, .tuple #[.slice Al kl capl, .int .i64 z], .slice A0 n0 cap0, .tuple #[.slice Al kl capl, .int .i64 z], .slice Al kl capl, .int .i64 z, .tuple #[.slice Ax kl capx, .bool true], .slice Al kl capl, .int .i64 z, .tuple #[.slice Ax kl capx, .bool true], .slice Ax kl capx, .bool true, .tuple #[.slice Aw kl capw, .bool true], .slice Al kl capl, .int .i64 z, .tuple #[.slice Aw kl capw, .bool true], .slice Aw kl capw, .bool true, .bool true, .bool true, .bool false, .bool false, .slice Ax kl capx, .slice Aw kl capw, .bool true, .bool false, .bool false, .bool false, .bool true, .bool false, .bool false, undef, undef, undef, undef, undef, undef, undef, undef, .int .i64 z, .agg #[.int .i64 1, .int .i64 z], .slice (some ⟨w4.heap.size, 0, none⟩) 1 1, .agg #[.slice (some ⟨w4.heap.size, 0, none⟩) 1 1, .int .i64 1], u55, u56, u57, u58, u59, u60, u61, u62, u63, u64, u65], []⟩ ∧ FFl wq (.slice Al kl capl) (.slice Ax kl capx) w4.heap.size kl xsl d L w' u2 u55 u56 u57 u58 u59 u60 u61 u62 u63 u64 u65) [[], [0], [], [], [1, 2, 3], [], [5], [4, 6], [7], [8], [1, 9], [0, 1, 2, 3, 4, 5, 6, 7, 8, 9, 10]] (by kernel_rfl) (by kernel_rfl) ?_ ⟨?_, ?_, ?_, ?_, ?_, ?_, ?_, ?_, ?_, ?_, ?_, ?_, trivial⟩ ?_
    · intro L hL
      exact ⟨_, _, _, _, _, _, _, _, _, _, _, _, rfl, ⟨(Below.refl wq.heap.size wq).drew, fun h => tfL h (hL 0 (by decide)), fun h => tfL h (hL 1 (by decide)), fun h => tfL h (hL 2 (by decide)), fun h => tfL h (hL 3 (by decide)), fun h => tfL h (hL 4 (by decide)), fun h => tfL h (hL 5 (by decide)), fun h => tfL h (hL 6 (by decide)), fun h => tfL h (hL 7 (by decide)), fun h => tfL h (hL 8 (by decide)), fun h => tfL h (hL 9 (by decide)), fun h => tfL h (hL 10 (by decide)), fun h => tfL h (hL 11 (by decide))⟩⟩
    · intro L hL hd hc a w hI K' hK'
      obtain ⟨u2, u55, u56, u57, u58, u59, u60, u61, u62, u63, u64, u65, rfl, hF⟩ := hI
      go_simp
      refine hK' _ _ ⟨_, _, _, _, _, _, _, _, _, _, _, _, rfl, ⟨hF.bel, fun _ => rfl, hF.b1, hF.b2, hF.b3, hF.b4, hF.b5, hF.b6, hF.b7, hF.b8, hF.b9, hF.b10, hF.b11⟩⟩
    · intro L hL hd hc a w hI K' hK'
      obtain ⟨u2, u55, u56, u57, u58, u59, u60, u61, u62, u63, u64, u65, rfl, hF⟩ := hI
      obtain rfl := hF.b0 (hd 0 (by simp))
      go_simp; go_at_call 9
      refine (implCount_any _ _ _ (fxlK p z) _ hklB HNu.out (FX5.out.later hF.bel)).mono ?_
      rintro e w7 ⟨rfl, hb⟩
      rw [E1.out]
      have hsz := hb.size
      go_simp
      refine hK' _ _ ⟨_, _, _, _, _, _, _, _, _, _, _, _, rfl, ⟨hF.bel.trans (hb.mono hF.bel.size), hF.b0, fun _ => rfl, fun h => by obtain ⟨p, e, p1, p2, p3⟩ := hF.b2 h; exact ⟨p, e, p1, by omega, fun h2 => (hb.block p p2).trans (p3 h2)⟩, hF.b3, fun h => tfL (hc 4 1 (by simp) h) hL, hF.b5, fun h => by obtain ⟨p, e, h1⟩ := hF.b6 h; exact ⟨p, e, fun h2 => (hb.block p (block_ltL (h1 h2))).trans (h1 h2)⟩, fun h => tfL (hc 4 1 (by simp) (hc 7 4 (by simp) h)) hL, hF.b8, hF.b9, hF.b10, hF.b11⟩⟩
    · intro L hL hd hc a w hI K' hK'
      obtain ⟨u2, u55, u56, u57, u58, u59, u60, u61, u62, u63, u64, u65, rfl, hF⟩ := hI
      go_simp
      refine hK' _ _ ⟨_, _, _, _, _, _, _, _, _, _, _, _, rfl, ⟨bl_alloc hF.bel _, hF.b0, hF.b1, fun _ => ⟨_, rfl, hF.bel.size, by simp, fun _ => heap_alloc_new _ _⟩, hF.b3, fun h => tfL (hc 4 2 (by simp) h) hL, hF.b5, fun h => by obtain ⟨p, e, h1⟩ := hF.b6 h; exact ⟨p, e, fun h2 => ((bl_alloc (Below.refl w.heap.size w) _).block p (block_ltL (h1 h2))).trans (h1 h2)⟩, fun h => tfL (hc 4 2 (by simp) (hc 7 4 (by simp) h)) hL, hF.b8, hF.b9, hF.b10, hF.b11⟩⟩
    · intro L hL hd hc a w hI K' hK'
      obtain ⟨u2, u55, u56, u57, u58, u59, u60, u61, u62, u63, u64, u65, rfl, hF⟩ := hI
      go_simp
      refine hK' _ _ ⟨_, _, _, _, _, _, _, _, _, _, _, _, rfl, ⟨hF.bel, hF.b0, hF.b1, hF.b2, fun _ => rfl, hF.b4, hF.b5, hF.b6, hF.b7, hF.b8, hF.b9, hF.b10, hF.b11⟩⟩
    · intro L hL hd hc a w hI K' hK'
      obtain ⟨u2, u55, u56, u57, u58, u59, u60, u61, u62, u63, u64, u65, rfl, hF⟩ := hI
      obtain ⟨p', rfl, p1, p2, p3⟩ := hF.b2 (hd 2 (by simp))
      obtain rfl := hF.b3 (hd 3 (by simp))
      have hp := p3 hL
      refine wp_appC (B0 := wq.heap.size) (xs := []) _ _ (by rfl) (by rfl) (by rfl) (by rfl) ⟨rfl, .inr ⟨p', 0, #[], rfl, p1, hp, Nat.le_refl _, by unfold maxLen; omega, rfl, rfl⟩⟩ (PA5.out.bel hF.bel).src HNl0.out.2 HNl0.out.1 hF.bel.size (by omega) ?_
      intro v2 wv how hgr
      rw [Nat.zero_add, List.nil_append] at how
      obtain ⟨A, c8, rfl⟩ := row_shape how
      have hsz := hgr.size
      refine hK' _ _ ⟨_, _, _, _, _, _, _, _, _, _, _, _, rfl, ⟨hF.bel.grown hgr hF.bel.size (fun j e => by cases e; exact p1), hF.b0, hF.b1, fun _ => ⟨p', rfl, p1, by omega, fun h => tfL (show true = true from rfl) h⟩, hF.b3, fun _ => ⟨A, c8, rfl, fun _ => how⟩, hF.b5, fun h => by obtain ⟨q, e, h1⟩ := hF.b6 h; exact ⟨q, e, fun h2 => (hgr.block q (block_ltL (h1 h2)) (by intro e'; simp only [Value.ownBlock, Option.some.injEq] at e'; subst e'; have := (h1 h2).symm.trans hp; cases this)).trans (h1 h2)⟩, fun h => tfL (hc 7 4 (by simp) h) hL, hF.b8, hF.b9, hF.b10, hF.b11⟩⟩
    · intro L hL hd hc a w hI K' hK'
      obtain ⟨u2, u55, u56, u57, u58, u59, u60, u61, u62, u63, u64, u65, rfl, hF⟩ := hI
      have z0 := kc hF.bel R0.out
      have z1 := kc hF.bel R1.out
      go_simp
      refine hK' _ _ ⟨_, _, _, _, _, _, _, _, _, _, _, _, rfl, ⟨hF.bel, hF.b0, hF.b1, hF.b2, hF.b3, hF.b4, fun _ => rfl, hF.b6, hF.b7, hF.b8, hF.b9, hF.b10, hF.b11⟩⟩
    · intro L hL hd hc a w hI K' hK'
      obtain ⟨u2, u55, u56, u57, u58, u59, u60, u61, u62, u63, u64, u65, rfl, hF⟩ := hI
      obtain rfl := hF.b5 (hd 5 (by simp))
      go_simp
      refine hK' _ _ ⟨_, _, _, _, _, _, _, _, _, _, _, _, rfl, ⟨bl_alloc hF.bel _, hF.b0, hF.b1, fun h => by obtain ⟨p, e, p1, p2, p3⟩ := hF.b2 h; exact ⟨p, e, p1, by simp; omega, fun h2 => ((bl_alloc (Below.refl w.heap.size w) _).block p p2).trans (p3 h2)⟩, hF.b3, fun h => by obtain ⟨A, c8, e, h1⟩ := hF.b4 h; exact ⟨A, c8, e, fun h2 => row_belowL (h1 h2) (bl_alloc (Below.refl w.heap.size w) _)⟩, hF.b5, fun _ => ⟨_, rfl, fun _ => heap_alloc_new _ _⟩, fun h => tfL (hc 7 6 (by simp) h) hL, hF.b8, hF.b9, hF.b10, hF.b11⟩⟩
    · intro L hL hd hc a w hI K' hK'
      obtain ⟨u2, u55, u56, u57, u58, u59, u60, u61, u62, u63, u64, u65, rfl, hF⟩ := hI
      obtain ⟨A, c8, rfl, hA⟩ := hF.b4 (hd 4 (by simp))
      obtain ⟨p', rfl, hp⟩ := hF.b6 (hd 6 (by simp))
      refine wp_appC (B0 := wq.heap.size) (ys := [.slice (some ⟨w4.heap.size, 0, none⟩) 1 1, .int .i64 1]) _ _ (by rfl) (by rfl) (by rfl) (by rfl) (hA hL) (src_one (hp hL) rfl rfl) (by simp) (by simp) hF.bel.size (by omega) ?_
      intro v5 wv how hgr
      obtain ⟨A', c9, rfl⟩ := row_shape how
      have hsz := hgr.size
      refine hK' _ _ ⟨_, _, _, _, _, _, _, _, _, _, _, _, rfl, ⟨hF.bel.grown hgr hF.bel.size (fun j e => ((hA hL).lt j e).1), hF.b0, hF.b1, fun h => by obtain ⟨p, e, p1, p2, p3⟩ := hF.b2 h; exact ⟨p, e, p1, by omega, fun h6 => tfL (hd 4 (by simp)) h6⟩, hF.b3, fun _ => ⟨_, _, rfl, fun h => tfL (show true = true from rfl) h⟩, hF.b5, fun _ => ⟨_, rfl, fun h => tfL (show true = true from rfl) h⟩, fun _ => ⟨A', c9, rfl, fun _ => how⟩, hF.b8, hF.b9, hF.b10, hF.b11⟩⟩
    · intro L hL hd hc a w hI K' hK'
      obtain ⟨u2, u55, u56, u57, u58, u59, u60, u61, u62, u63, u64, u65, rfl, hF⟩ := hI
      obtain ⟨A, c8, rfl, hA⟩ := hF.b7 (hd 7 (by simp))
      have HT := (hF.bel.block _ (block_ltL HT5.out)).trans HT5.out
      have HR := Lib.hid (rdp_own (hA hL) ((QA5.out.later hF.bel).cat (pxp_one HT) PA5.out.len))
      clear HT
      go_simp; go_at_call 9
      refine (implCount_any _ _ _ (catP kl p fun _ => oneC z) _ (by omega) (one_size HN.out _) HR.out).mono ?_
      rintro e w7 ⟨rfl, hb⟩
      rw [E2.out]
      have hsz := hb.size
      go_simp
      refine hK' _ _ ⟨_, _, _, _, _, _, _, _, _, _, _, _, rfl, ⟨hF.bel.trans (hb.mono hF.bel.size), hF.b0, hF.b1, fun h => by obtain ⟨p, e, p1, p2, p3⟩ := hF.b2 h; exact ⟨p, e, p1, by omega, fun h6 => tfL (hc 7 4 (by simp) (hd 7 (by simp))) h6⟩, hF.b3, fun h => by obtain ⟨A, c8, e, h1⟩ := hF.b4 h; exact ⟨A, c8, e, fun h6 => tfL (hd 7 (by simp)) h6⟩, hF.b5, fun h => by obtain ⟨p, e, h1⟩ := hF.b6 h; exact ⟨p, e, fun h6 => tfL (hd 7 (by simp)) h6⟩, fun _ => ⟨_, _, rfl, fun h => tfL (show true = true from rfl) h⟩, fun _ => rfl, hF.b9, hF.b10, hF.b11⟩⟩
    · intro L hL hd hc a w hI K' hK'
      obtain ⟨u2, u55, u56, u57, u58, u59, u60, u61, u62, u63, u64, u65, rfl, hF⟩ := hI
      obtain rfl := hF.b8 (hd 8 (by simp))
      go_simp
      refine hK' _ _ ⟨_, _, _, _, _, _, _, _, _, _, _, _, rfl, ⟨hF.bel, hF.b0, hF.b1, hF.b2, hF.b3, hF.b4, hF.b5, hF.b6, hF.b7, hF.b8, fun _ => rfl, hF.b10, hF.b11⟩⟩
    · intro L hL hd hc a w hI K' hK'
      obtain ⟨u2, u55, u56, u57, u58, u59, u60, u61, u62, u63, u64, u65, rfl, hF⟩ := hI
      obtain rfl := hF.b1 (hd 1 (by simp))
      obtain rfl := hF.b9 (hd 9 (by simp))
      go_simp
      refine hK' _ _ ⟨_, _, _, _, _, _, _, _, _, _, _, _, rfl, ⟨hF.bel, hF.b0, hF.b1, hF.b2, hF.b3, hF.b4, hF.b5, hF.b6, hF.b7, hF.b8, hF.b9, fun _ => rfl, hF.b11⟩⟩
    · intro L hL hd hc a w hI K' hK'
      obtain ⟨u2, u55, u56, u57, u58, u59, u60, u61, u62, u63, u64, u65, rfl, hF⟩ := hI
      obtain rfl := hF.b10 (hd 10 (by simp))
      go_simp
      refine hK' _ _ ⟨_, _, _, _, _, _, _, _, _, _, _, _, rfl, ⟨hF.bel, hF.b0, hF.b1, hF.b2, hF.b3, hF.b4, hF.b5, hF.b6, hF.b7, hF.b8, hF.b9, hF.b10, fun _ => rfl⟩⟩
    · intro L hL a' w6 hI
      obtain ⟨u2, u55, u56, u57, u58, u59, u60, u61, u62, u63, u64, u65, rfl, hF⟩ := hI
      obtain rfl := hF.b11 (hL 11)
      have HB6 := Lib.hid (bl_trans HB5.out hF.bel)
      clear hF hL HB5 PA5 QA5 FX5 R0 R1 HT5
      go_wp2
      go_ret
      exact ⟨rfl, HB6.out⟩

set_option linter.unusedVariables false in
set_option maxRecDepth 100000 in
set_option maxHeartbeats 1600000 in
theorem lawFnFixLiteral_walk (A0 : Option Addr) (n0 cap0 : Nat) (y0 : Nat → Int) (w : World) (hm0 : n0 ≤ maxLen) (hc0 : n0 ≤ cap0) (hr0 : RdY w w.heap.size A0 n0 y0) :
    Calls Tryz.prog 3 #[.slice A0 n0 cap0] w fun e w' => e = .returned (.bool true) ∧ Below w.heap.size w w' := by
  by_cases h0 : n0 ≤ 1048576
  · exact lawFnFixLiteral_ok A0 n0 cap0 y0 w h0 hc0 hr0
  · unfold maxLen at hm0
    have hi0 : (1048576 : Int) < (n0 : Int) := by omega
    go_enter Tryz.func3, Tryz.ntmps3
    go_wp2
    go_ret
    exact ⟨rfl, Below.refl _ _⟩
end Go.Proofs.YtbebdhjhlheboaaGreat
