/- The walk of the law FnClausesCount (no claim of its own). Conditions: as each theorem states. -/
import Derived.Test.YtckaeaclclhapaaCocZ
import Derived.Deep.Cut
namespace Go.Proofs.Ytckaeaclclhapaa
open Go.ChangeShapes Go.WideShapes Go.ChangeAt Go.RowKit

theorem tfC {b : Bool} {P : Prop} (h : b = true) (h' : b = false) : P := by rw [h] at h'; cases h'
theorem block_ltC {w : World} {p : Nat} {o : Obj} (h : w.heap[p]? = some o) : p < w.heap.size := (Array.getElem?_eq_some_iff.1 h).1
theorem rdp_oneC {W : World} {p k cap : Nat} {A : Option Addr} {bd : Int} {c l : Nat → Int} {T : TypeId} (h : W.heap[p]? = some (.cells #[.slice A k cap, .int .i64 bd] T (0, 0))) (hr : Rd W W.heap.size A k c l) : RdP W W.heap.size (some ⟨p, 0, none⟩) 1 (fun _ => ⟨k, bd, c, l⟩) := fun _ =>
  ⟨p, 0, rfl, block_ltC h, fun i hi => by
    obtain rfl : i = 0 := by omega
    exact ⟨A, cap, (cell_of_row W p _ _ _ _ h).trans rfl, (cell_of_row W p _ _ _ _ h).trans rfl, hr⟩⟩
/-- What is known while the operations of the last region run. -/
structure FCc (wq : World) (X : Value) (Ac : Option Addr) (k capc : Nat) (bd : Int) (d : Nat) (L : Nat → Bool) (w : World) (u2 u49 u50 u51 u52 u53 u54 : Value) : Prop where
  bel : Below wq.heap.size wq w
  b0 : L 0 = true → u49 = X
  b1 : L 1 = true → u50 = .int .i64 d
  b2 : L 2 = true → u51 = .agg #[.slice Ac k capc, .int .i64 bd]
  b3 : L 3 = true → ∃ p, u52 = .slice (some ⟨p, 0, none⟩) 1 1 ∧ (L 4 = false → w.heap[p]? = some (.cells #[.slice Ac k capc, .int .i64 bd] 25 (0, 0)))
  b4 : L 4 = true → u53 = .int .i64 d
  b5 : L 5 = true → u54 = .bool true
  b6 : L 6 = true → u2 = .bool true

set_option linter.unusedVariables false in
set_option maxRecDepth 100000 in
set_option maxHeartbeats 6400000 in
theorem lawFnClausesCount_ok (A0 : Option Addr) (n0 cap0 : Nat) (y0 : Nat → Int) (w : World) (h0 : n0 ≤ 1048576) (hc0 : n0 ≤ cap0) (hr0 : RdY w w.heap.size A0 n0 y0) :
    Calls Try.prog 3 #[.slice A0 n0 cap0] w fun e w' => e = .returned (.bool true) ∧ Below w.heap.size w w' := by
  have hm0 : n0 ≤ maxLen := by unfold maxLen; omega
  have hi0 : ¬ (1048576 : Int) < (n0 : Int) := by omega
  go_enter Try.func3, Try.ntmps3
  go_wp2_with fail
  refine (drawCof_any _ _ _ y0 _ hm0 hc0 hr0).mono ?_
  rintro e w1 ⟨Ac, k, capc, bd, c, l, rfl, hk, hf, hb⟩
  have HB1 := Lib.hid hb
  have HC1 := Lib.hid hf.rdAt
  have hkB : k ≤ 1048576 := by omega
  clear hb hf hr0
  have AL1 := Lib.hid (bl_alloc (Below.refl w1.heap.size w1) (.cells #[.slice Ac k capc, .int .i64 bd] 25))
  go_wp2_with fail
  refine (implCof_any _ _ _ bd c l _ hkB (HC1.out.later AL1.out)).mono ?_
  rintro e w2 ⟨Ax, capx, rfl, hfx, hb⟩
  have v0 : w2.cell? ⟨w1.heap.size, 0, none⟩ = some (.slice Ac k capc) := kc hb (by go_simp)
  have v1 : w2.cell? ⟨w1.heap.size, 1, none⟩ = some (.int .i64 bd) := kc hb (by go_simp)
  have HB2 := Lib.hid (bl_trans (bl_trans HB1.out AL1.out) hb)
  have HC2 := Lib.hid ((HC1.out.later AL1.out).later hb)
  have FX2 := Lib.hid hfx
  clear hb hfx HB1 HC1 AL1
  go_wp2_with fail
  refine (specCof_any _ _ _ bd c l _ hkB HC2.out).mono ?_
  rintro e w3 ⟨Aw, capw, rfl, hfw, hb⟩
  replace v0 := kc hb v0
  replace v1 := kc hb v1
  have HB3 := Lib.hid (bl_trans HB2.out hb)
  have HC3 := Lib.hid (HC2.out.later hb)
  have FX3 := Lib.hid (FX2.out.below hb)
  have FW3 := Lib.hid hfw
  clear hb hfw HB2 HC2 FX2
  have hNu : cfCnt k c l bd ≤ 1048576 := Nat.le_trans (cfCnt_le _ _ _ _) (by omega)
  have HNu := Lib.hid (cf_all k c l bd)
  cases hu : cfOk k c l bd with
  | false =>
    clear hu v0 v1
    go_wp2_with fail
    refine (cpProblem_same _ _ _ _ _ (cfK k c l bd) _ hNu HNu.out FX3.out.rdAt FW3.out.rdAt).mono ?_
    rintro e w4 ⟨rfl, hb⟩
    have HB4 := Lib.hid (bl_trans HB3.out hb)
    have FX4 := Lib.hid (FX3.out.below hb)
    have FW4 := Lib.hid (FW3.out.below hb)
    clear hb FX3 FW3 HB3 HC3
    go_wp2_with fail
    refine (cpProblem_same _ _ _ _ _ (cfK k c l bd) _ hNu HNu.out FX4.out.rdAt FW4.out.rdAt).mono ?_
    rintro e w5 ⟨rfl, hb⟩
    have HB5 := Lib.hid (bl_trans HB4.out hb)
    clear hb FX4 FW4 HB4
    go_wp2
    go_ret
    exact ⟨rfl, HB5.out⟩
  | true =>
    obtain ⟨d, e2⟩ : ∃ d : Nat, cntS 1 (fun _ => (⟨k, bd, c, l⟩ : Con)) = d := ⟨_, rfl⟩
    have E1 := Lib.hid (show cntS (cfCnt k c l bd) (cfK k c l bd) = d from (cof_count hu).trans e2)
    have E2 := Lib.hid e2
    clear hu e2
    go_wp2_with fail
    refine (cpProblem_same _ _ _ _ _ (cfK k c l bd) _ hNu HNu.out FX3.out.rdAt FW3.out.rdAt).mono ?_
    rintro e w4 ⟨rfl, hb⟩
    replace v0 := kc hb v0
    replace v1 := kc hb v1
    have HB4 := Lib.hid (bl_trans HB3.out hb)
    have HC4 := Lib.hid (HC3.out.later hb)
    have FX4 := Lib.hid (FX3.out.below hb)
    have FW4 := Lib.hid (FW3.out.below hb)
    clear hb FX3 FW3 HB3 HC3
    generalize hm : cfCnt k c l bd = m at *
    clear hm
    by_cases h60 : 60 < m
    · have h60' : (60 : Int) < (m : Int) := by omega
      go_wp2_with fail
      refine (cpProblem_same _ _ _ _ _ (cfK k c l bd) _ hNu HNu.out FX4.out.rdAt FW4.out.rdAt).mono ?_
      rintro e w5 ⟨rfl, hb⟩
      have HB5 := Lib.hid (bl_trans HB4.out hb)
      clear hb FX4 FW4 HB4
      go_wp2
      go_ret
      exact ⟨rfl, HB5.out⟩
    · have h60' : ¬ (60 : Int) < (m : Int) := by omega
      have R0 := Lib.hid v0
      have R1 := Lib.hid v1
      have HX4 := Lib.hid FX4.out.rdAt
      clear v0 v1 FX4 FW4
      go_upto_region 8 with fail
      refine region_steps2 (J := fun _ L a' w' => ∃ u2 u49 u50 u51 u52 u53 u54 : Value, a' = ⟨#[.slice A0 n0 cap0, undef, u2, .pointer (some ⟨w1.heap.size, 0, none⟩), .slice Ax m capx, .bool true, .slice Aw m capw, .bool true, .slice A0 n0 cap0, .int .i64 n0, .bool false, .slice A0 n0 cap0, .agg #[.slice Ac k capc, .int .i64 bd], .tuple #[.slice Ax m capx, .bool true], .agg #[.slice Ac k capc, .int .i64 bd], .tuple #[.slice Ax m capx, .bool true], .slice Ax m capx, .bool true, .tuple #[.slice Aw m capw, .bool true], .agg #[.slice Ac k capc, .int .i64 bd], .tuple #[.slice Aw m capw, .bool true], .slice Aw m capw, .bool true, .bool true, .bool true, .bool false, .bool false, .slice Ax m capx, .slice Aw m capw, .bool true, .bool false, .bool false, .bool false, .bool true, .bool false, .bool false, .bool false, .slice Ax m capx, .int .i64 m, .bool (decide ((60 : Int) < (m : Int))), .bool (decide ((60 : Int) < (m : Int))), undef, undef, undef, undef, undef, undef, undef, undef, u49, u50, u51, u52, u53, u54], []⟩ ∧ FCc w4 (.slice Ax m capx) Ac k capc bd d L w' u2 u49 u50 u51 u52 u53 u54) [[], [0], [], [2], [1, 3], [1, 4], [0, 1, 2, 3, 4, 5]] (by kernel_rfl) (by kernel_rfl) ?_ ⟨?_, ?_, ?_, ?_, ?_, ?_, ?_, trivial⟩ ?_
      · intro L hL
        exact ⟨_, _, _, _, _, _, _, rfl, ⟨(Below.refl w4.heap.size w4).drew, fun h => tfC h (hL 0 (by decide)), fun h => tfC h (hL 1 (by decide)), fun h => tfC h (hL 2 (by decide)), fun h => tfC h (hL 3 (by decide)), fun h => tfC h (hL 4 (by decide)), fun h => tfC h (hL 5 (by decide)), fun h => tfC h (hL 6 (by decide))⟩⟩
      · intro L hL hd hc a w hI K' hK'
        obtain ⟨u2, u49, u50, u51, u52, u53, u54, rfl, hF⟩ := hI
        go_simp
        refine hK' _ _ ⟨_, _, _, _, _, _, _, rfl, ⟨hF.bel, fun _ => rfl, hF.b1, hF.b2, hF.b3, hF.b4, hF.b5, hF.b6⟩⟩
      · intro L hL hd hc a w hI K' hK'
        obtain ⟨u2, u49, u50, u51, u52, u53, u54, rfl, hF⟩ := hI
        obtain rfl := hF.b0 (hd 0 (by simp))
        go_simp; go_at_call 8
        refine (implCount_any _ _ _ (cfK k c l bd) _ hNu HNu.out (HX4.out.later hF.bel)).mono ?_
        rintro e w7 ⟨rfl, hb⟩
        rw [E1.out]
        have hsz := hb.size
        go_simp
        refine hK' _ _ ⟨_, _, _, _, _, _, _, rfl, ⟨hF.bel.trans (hb.mono hF.bel.size), hF.b0, fun _ => rfl, hF.b2, fun h => by obtain ⟨p, e, h1⟩ := hF.b3 h; exact ⟨p, e, fun h2 => (hb.block p (block_ltC (h1 h2))).trans (h1 h2)⟩, fun h => tfC (hc 4 1 (by simp) h) hL, fun h => tfC (hc 5 1 (by simp) h) hL, hF.b6⟩⟩
      · intro L hL hd hc a w hI K' hK'
        obtain ⟨u2, u49, u50, u51, u52, u53, u54, rfl, hF⟩ := hI
        have z0 := kc hF.bel R0.out
        have z1 := kc hF.bel R1.out
        go_simp
        refine hK' _ _ ⟨_, _, _, _, _, _, _, rfl, ⟨hF.bel, hF.b0, hF.b1, fun _ => rfl, hF.b3, hF.b4, hF.b5, hF.b6⟩⟩
      · intro L hL hd hc a w hI K' hK'
        obtain ⟨u2, u49, u50, u51, u52, u53, u54, rfl, hF⟩ := hI
        obtain rfl := hF.b2 (hd 2 (by simp))
        go_simp
        refine hK' _ _ ⟨_, _, _, _, _, _, _, rfl, ⟨bl_alloc hF.bel _, hF.b0, hF.b1, hF.b2, fun _ => ⟨_, rfl, fun _ => heap_alloc_new _ _⟩, hF.b4, hF.b5, hF.b6⟩⟩
      · intro L hL hd hc a w hI K' hK'
        obtain ⟨u2, u49, u50, u51, u52, u53, u54, rfl, hF⟩ := hI
        obtain ⟨p', rfl, hp⟩ := hF.b3 (hd 3 (by simp))
        have HR := Lib.hid (rdp_oneC (hp hL) (HC4.out.later hF.bel))
        go_simp; go_at_call 8
        refine (implCount_any _ _ _ (fun _ => ⟨k, bd, c, l⟩) _ (by omega) (fun _ _ => hkB) HR.out).mono ?_
        rintro e w7 ⟨rfl, hb⟩
        rw [E2.out]
        have hsz := hb.size
        go_simp
        refine hK' _ _ ⟨_, _, _, _, _, _, _, rfl, ⟨hF.bel.trans (hb.mono hF.bel.size), hF.b0, hF.b1, hF.b2, fun h => by obtain ⟨p, e, h1⟩ := hF.b3 h; exact ⟨p, e, fun h6 => tfC (show true = true from rfl) h6⟩, fun _ => rfl, hF.b5, hF.b6⟩⟩
      · intro L hL hd hc a w hI K' hK'
        obtain ⟨u2, u49, u50, u51, u52, u53, u54, rfl, hF⟩ := hI
        obtain rfl := hF.b1 (hd 1 (by simp))
        obtain rfl := hF.b4 (hd 4 (by simp))
        go_simp
        refine hK' _ _ ⟨_, _, _, _, _, _, _, rfl, ⟨hF.bel, hF.b0, hF.b1, hF.b2, hF.b3, hF.b4, fun _ => rfl, hF.b6⟩⟩
      · intro L hL hd hc a w hI K' hK'
        obtain ⟨u2, u49, u50, u51, u52, u53, u54, rfl, hF⟩ := hI
        obtain rfl := hF.b5 (hd 5 (by simp))
        go_simp
        refine hK' _ _ ⟨_, _, _, _, _, _, _, rfl, ⟨hF.bel, hF.b0, hF.b1, hF.b2, hF.b3, hF.b4, hF.b5, fun _ => rfl⟩⟩
      · intro L hL a' w6 hI
        obtain ⟨u2, u49, u50, u51, u52, u53, u54, rfl, hF⟩ := hI
        obtain rfl := hF.b6 (hL 6)
        have HB6 := Lib.hid (bl_trans HB4.out hF.bel)
        clear hF hL HB4 HC4 HX4 R0 R1
        go_wp2
        go_ret
        exact ⟨rfl, HB6.out⟩

set_option linter.unusedVariables false in
set_option maxRecDepth 100000 in
set_option maxHeartbeats 1600000 in
theorem lawFnClausesCount_walk (A0 : Option Addr) (n0 cap0 : Nat) (y0 : Nat → Int) (w : World) (hm0 : n0 ≤ maxLen) (hc0 : n0 ≤ cap0) (hr0 : RdY w w.heap.size A0 n0 y0) :
    Calls Try.prog 3 #[.slice A0 n0 cap0] w fun e w' => e = .returned (.bool true) ∧ Below w.heap.size w w' := by
  by_cases h0 : n0 ≤ 1048576
  · exact lawFnClausesCount_ok A0 n0 cap0 y0 w h0 hc0 hr0
  · unfold maxLen at hm0
    have hi0 : (1048576 : Int) < (n0 : Int) := by omega
    go_enter Try.func3, Try.ntmps3
    go_wp2
    go_ret
    exact ⟨rfl, Below.refl _ _⟩
end Go.Proofs.Ytckaeaclclhapaa
