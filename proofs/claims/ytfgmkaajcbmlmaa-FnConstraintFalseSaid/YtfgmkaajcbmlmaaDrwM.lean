/- The draw of ImpliedLiterals' arguments, and helpers of its law (no claim of its own). Conditions: as each theorem states. -/
import Derived.Test.YtfgmkaajcbmlmaaDrwL
import Derived.Test.YtfgmkaajcbmlmaaImpM
namespace Go.Proofs.Ytfgmkaajcbmlmaa
open Go.ChangeShapes Go.WideShapes Go.ChangeAt Go.RowKit Go.Shelf

/-- What the draw of a constraint and a partial assignment leaves. -/
def DSm (w : World) (e : Ending) (w' : World) : Prop := ∃ Ac k capc bd c l Av kv capv v, e = .returned (.tuple #[.agg #[.slice Ac k capc, .int .i64 bd], .slice Av kv capv]) ∧ k ≤ 13 ∧ kv ≤ 12 ∧ Frs w' w.heap.size Ac k c l ∧ FrI w' w.heap.size 3 Av kv v ∧ Below w.heap.size w w'
set_option maxRecDepth 100000 in
set_option maxHeartbeats 6400000 in
theorem drawSlack_str (A : Option Addr) (n cap : Nat) (y : Nat → Int) (w : World) (hm : n ≤ maxLen) (hcap : n ≤ cap) (hr : RdY w w.heap.size A n y) :
    Calls Try.prog 10 #[.slice A n cap] w (DSm w) := by
  have HR := Lib.hid hr
  clear hr
  go_enter Try.func10, Try.ntmps10
  go_upto_region 1 with fail
  have HB0 := Lib.hid (bl_alloc (Below.refl w.heap.size w) (.cells #[.slice none 0 0, .int .i64 0] 25))
  have r0 : Cel (w.alloc (.cells #[.slice none 0 0, .int .i64 0] 25)) w.heap.size 0 (.slice none 0 0) := ⟨by go_simp, by go_simp⟩
  have r1 : Cel (w.alloc (.cells #[.slice none 0 0, .int .i64 0] 25)) w.heap.size 1 (.int .i64 0) := ⟨by go_simp, by go_simp⟩
  have hz0 : w.heap.size < (w.alloc (.cells #[.slice none 0 0, .int .i64 0] 25)).heap.size := by simp
  generalize (w.alloc (.cells #[.slice none 0 0, .int .i64 0] 25)) = W0 at *
  have R0 := Lib.hid r0
  have R1 := Lib.hid r1
  clear r0 r1
  go_wp2_with fail
  refine (open_any _ _ _ y _ hm hcap (HR.out.later HB0.out)).mono ?_
  rintro e w1 ⟨rfl, hb, hrd, hz1⟩
  have HB1 := Lib.hid (bl_trans HB0.out hb)
  have RD1 := Lib.hid hrd
  have S0 := Lib.hid (R0.out.below hb)
  have S1 := Lib.hid (R1.out.below hb)
  clear hb hrd R0 R1
  go_wp2_with fail
  refine (constraint_any W0.heap.size 0 _ (by omega) RD1.out).mono ?_
  rintro e w2 ⟨Ac, k, capc, bd, rfl, hk, hfe, hg, hr, hcp⟩
  obtain ⟨c, l, hfr⟩ := hfe
  have Hrd := Lib.hid hfr.rdAt
  have G2 := Lib.hid hg
  have RD2 := Lib.hid hr
  have T0 := Lib.hid (hg.cel S0.out (by omega))
  have T1 := Lib.hid (hg.cel S1.out (by omega))
  have HCp := Lib.hid hcp
  clear hfr hg hr hcp S0 S1 RD1
  go_wp2_with fail
  refine (mutate_any W0.heap.size (0 + 200) _ _ _ _ c l _ (by omega) (by omega) RD2.out Hrd.out HCp.out).mono ?_
  rintro e w3 ⟨Ad, k2, capd, bd2, rfl, hk2, hfe, hg, hr, _⟩
  have FE3 := Lib.hid hfe
  have G3 := Lib.hid (G2.out.trans hg)
  have RD3 := Lib.hid hr
  have U0 := Lib.hid (hg.cel T0.out (by omega))
  have U1 := Lib.hid (hg.cel T1.out (by omega))
  have hz3 : W0.heap.size < w3.heap.size := by have := hr.lt; omega
  have hz23 : w2.heap.size ≤ w3.heap.size := hg.size
  have hz12 : w1.heap.size ≤ w2.heap.size := G2.out.size
  clear hfe hg hr T0 T1 G2 RD2 Hrd HCp
  go_upto_region 3 with fail
  have HAl := Lib.hid (bl_alloc (Below.refl w3.heap.size w3) (.cells #[.slice Ad k2 capd, .int .i64 bd2] 25))
  have p0 : (w3.alloc (.cells #[.slice Ad k2 capd, .int .i64 bd2] 25)).cell? ⟨w3.heap.size, 0, none⟩ = some (.slice Ad k2 capd) := by go_simp
  have p1 : (w3.alloc (.cells #[.slice Ad k2 capd, .int .i64 bd2] 25)).cell? ⟨w3.heap.size, 1, none⟩ = some (.int .i64 bd2) := by go_simp
  have f0' : (w3.alloc (.cells #[.slice Ad k2 capd, .int .i64 bd2] 25)).frozen? ⟨w3.heap.size, 0, none⟩ = false := by go_simp
  have f1' : (w3.alloc (.cells #[.slice Ad k2 capd, .int .i64 bd2] 25)).frozen? ⟨w3.heap.size, 1, none⟩ = false := by go_simp
  have hz4 : w3.heap.size < (w3.alloc (.cells #[.slice Ad k2 capd, .int .i64 bd2] 25)).heap.size := by simp
  have FE4 := Lib.hid (FE3.out.bel HAl.out)
  have G4 := Lib.hid (G3.out.bel HAl.out)
  have RD4 := Lib.hid (RD3.out.bel HAl.out)
  have V0 := Lib.hid (U0.out.below HAl.out)
  have V1 := Lib.hid (U1.out.below HAl.out)
  clear FE3 G3 RD3 U0 U1 HAl
  generalize (w3.alloc (.cells #[.slice Ad k2 capd, .int .i64 bd2] 25)) = W4 at *
  have P0 : Hid (Cel W4 w3.heap.size 0 (.slice Ad k2 capd)) := Lib.hid ⟨p0, f0'⟩
  have P1 : Hid (Cel W4 w3.heap.size 1 (.int .i64 bd2)) := Lib.hid ⟨p1, f1'⟩
  clear f0' f1'
  have hn1 : ¬ w3.heap.size = w.heap.size := by omega
  have hn2 : ¬ w.heap.size = w3.heap.size := by omega
  have hq1 : w.heap.size ≠ W0.heap.size := by omega
  have hq2 : w3.heap.size ≠ W0.heap.size := by omega
  have hq3 : W0.heap.size < w2.heap.size := by omega
  have HD := Lib.hid (RD4.out.bel ((Below.refl W4.heap.size W4).drew))
  go_region_held3 (fun w' => w'.cell? ⟨w3.heap.size, 0, none⟩ = some (.slice Ad k2 capd) ∧ w'.cell? ⟨w3.heap.size, 1, none⟩ = some (.int .i64 bd2)) (go_keep)
    (first | (go_at_call 37; refine (partial_any W0.heap.size _ _ (by omega) HD.out).mono ?_; rintro e w5 ⟨Av, kv, capv, v, rfl, hkv, hF, hg, hr⟩; have hg' := (Gr.of (R := W0.heap.size) (Below.refl W4.heap.size W4).drew).trans hg; have FE5 := Lib.hid (FE4.out.gr hg' hq3); have G5 := Lib.hid (G4.out.trans hg'); have RD5 := Lib.hid hr; have HF := Lib.hid hF; obtain ⟨b0, f0⟩ := hg'.cel V0.out hq1; obtain ⟨b1, f1⟩ := hg'.cel V1.out hq1; replace p0 := (hg'.cel P0.out hq2).1; replace p1 := (hg'.cel P1.out hq2).1; have hz5 := hg'.size; clear hF hg hr hg'))
  go_wp2
  refine bodyPost_ret (v := .tuple #[.agg #[.slice Ad k2 capd, .int .i64 bd2], .slice Av kv capv]) (by simp [results, Try.results10, go_sem, b0, b1]) rfl ?_
  obtain ⟨c', l', hfr'⟩ := (FE5.out.set_ (p := ⟨w.heap.size, 0, none⟩) (by show w.heap.size < _; omega) (.slice Ad k2 capd)).set_ (p := ⟨w.heap.size, 1, none⟩) (by show w.heap.size < _; omega) (.int .i64 bd2)
  exact ⟨_, _, _, _, c', l', _, _, _, v, rfl, by omega, hkv, hfr'.more (by omega), (fri_set (fri_set HF.out (by show w.heap.size < W4.heap.size; omega) _) (by show w.heap.size < W4.heap.size; omega) _).more (by show w.heap.size ≤ W4.heap.size; omega), ((gr_bel HB1.out G5.out (by omega)).setCell (Nat.le_refl _) _).setCell (Nat.le_refl _) _⟩

set_option maxRecDepth 100000 in
set_option maxHeartbeats 1600000 in
theorem drawImp_any (A : Option Addr) (n cap : Nat) (y : Nat → Int) (w : World) (hm : n ≤ maxLen) (hcap : n ≤ cap) (hr : RdY w w.heap.size A n y) :
    Calls Try.prog 16 #[.slice A n cap] w (DSm w) := by
  have HR := Lib.hid hr
  clear hr
  go_enter Try.func16, Try.ntmps16
  go_wp2_with fail
  have HB0 := Lib.hid (bl_alloc (Below.refl w.heap.size w) (.cells #[.slice none 0 0, .int .i64 0] 25))
  have r0 : Cel (w.alloc (.cells #[.slice none 0 0, .int .i64 0] 25)) w.heap.size 0 (.slice none 0 0) := ⟨by go_simp, by go_simp⟩
  have r1 : Cel (w.alloc (.cells #[.slice none 0 0, .int .i64 0] 25)) w.heap.size 1 (.int .i64 0) := ⟨by go_simp, by go_simp⟩
  have hz : w.heap.size < (w.alloc (.cells #[.slice none 0 0, .int .i64 0] 25)).heap.size := by simp
  have R0 := Lib.hid r0
  have R1 := Lib.hid r1
  have Hz := Lib.hid hz
  clear r0 r1 hz
  refine (drawSlack_str _ _ _ y _ hm hcap (HR.out.later HB0.out)).mono ?_
  rintro e w1 ⟨Ac, k, capc, bd, c, l, Av, kv, capv, v, rfl, hk, hkv, hrd, hrv, hb⟩
  have HB1 := Lib.hid (bl_trans HB0.out hb)
  obtain ⟨b0, f0⟩ := R0.out.below hb
  obtain ⟨b1, f1⟩ := R1.out.below hb
  have Hrd := Lib.hid hrd
  have Hrv := Lib.hid hrv
  clear hb hrd hrv R0 R1
  go_wp2
  refine bodyPost_ret (v := .tuple #[.agg #[.slice Ac k capc, .int .i64 bd], .slice Av kv capv]) (by simp [results, Try.results16, go_sem, b0, b1]) rfl ?_
  exact ⟨_, _, _, _, c, l, _, _, _, v, rfl, hk, hkv, ((Hrd.out.far rfl Hz.out _).far rfl Hz.out _).more (Nat.le_of_lt Hz.out), (fri_set (fri_set Hrv.out Hz.out _) Hz.out _).more (Nat.le_of_lt Hz.out), (HB1.out.setCell (Nat.le_refl _) _).setCell (Nat.le_refl _) _⟩

set_option maxRecDepth 100000 in
set_option maxHeartbeats 400000 in
/-- Two slices with the same elements are equal. -/
theorem cpInts_refl (A A' : Option Addr) (n cap cap' : Nat) (v : Nat → Int) (w : World) (hn : n ≤ 1048576) (hr : RdI w w.heap.size A n v) (hr' : RdI w w.heap.size A' n v) :
    Calls Try.prog 18 #[.slice A n cap, .slice A' n cap'] w fun e w' => e = .returned (.bool true) ∧ Below w.heap.size w w' := by
  go_enter Try.func18, Try.ntmps18
  go_wp2
  go_loopw [5] (fun i wr => ∃ k : Nat, k ≤ n ∧ i = .int .i64 k ∧ Below w.heap.size w wr) (fun i _ => n - (intOf i).toNat)
  case atStart => exact ⟨0, Nat.zero_le _, rfl, Below.refl _ _⟩
  case round =>
    obtain ⟨k, hk, rfl, hb⟩ := hrel
    by_cases hlt : k < n
    · obtain ⟨b, off, rfl, hbl, hc⟩ := (hr.below hb) (by omega)
      obtain ⟨b', off', rfl, hbl', hc'⟩ := (hr'.below hb) (by omega)
      have hc1 := hc k hlt
      have hc2 := hc' k hlt
      clear hc hc' hr hr'
      have hlt' : (k : Int) < (n : Int) := by omega
      have hk0 : (0 : Int) ≤ (k : Int) := by omega
      go_wp2_with fail
      go_quiet (fail)
      go_wp2
      go_roundw
      case rel => exact ⟨k + 1, by omega, by go_num, bl_drewN hb _⟩
      case measure => simp [intOf]; omega
    · have e : k = n := by omega
      subst e
      go_wp2
      go_ret
      exact ⟨rfl, hb⟩

/-- Twelve ints that came in, appended to a row of the call's own that is empty. -/
theorem run_app12 (W : World) {B0 : Nat} {v : Value} {cap b off : Nat} {vv : Nat → Int} (hown : W.ownsRow B0 3 1 v 0 []) (hlt : ∀ j, v.ownBlock = some j → B0 ≤ j) (hc : ∀ i, i < 12 → W.cell? ⟨b, off + i, none⟩ = some (.int .i64 (vv i))) (hB : B0 ≤ W.heap.size) :
    ∃ g cap' w', (Builtin.append_ #[26, 26] 26 #[v, .slice (some ⟨b, off, none⟩) 12 cap]).run Try.prog W = .ok (.slice (some ⟨g, 0, none⟩) 12 cap') w' ∧ B0 ≤ g ∧ OwnV w' g 3 12 12 vv ∧ Below B0 W w' := by
  obtain ⟨i0, hi, hz0, hz1, hz2⟩ := info_parts Try.infoInt
  obtain ⟨v', w', k1, k2, k3, _, _⟩ := run_append_own_at (P := Try.prog) W B0 26 26 3 i0 _ 1 8 Try.underlying26 hi hz0 hz1 hz2 rfl (by omega) v 0 _ hown ⟨b, off, none⟩ 12 cap (cl12 vv) rfl (fun j u hu => by
      obtain ⟨hj, rfl⟩ := cl12_at vv j u hu
      rw [Go.WideShapes.add_plain]
      exact hc j hj) (fun u hu => by
      obtain ⟨j, hj, e⟩ := List.mem_iff_getElem.1 hu
      have := cl12_at vv j u (by rw [List.getElem?_eq_getElem hj, e])
      rw [this.2]
      rfl) (by unfold maxLen; omega) (by omega) hB
  rcases k2.2 with ⟨_, h⟩ | ⟨g, cap', cur, e1, hg, hh, hnc, _, hsz, htk⟩
  · omega
  · simp only [Nat.zero_add] at e1
    refine ⟨g, cap', w', by rw [k1, e1], hg, ⟨cur, hh, by omega, fun i hi => ?_⟩, (Below.refl B0 W).grown k3 hB hlt⟩
    have h2 := cells12_at vv hi
    have h3 : ([] ++ cl12 vv)[i]? = some (.int .i64 (vv i)) := by
      rw [List.nil_append, ← h2, show cells12 vv = (cl12 vv).toArray from rfl, List.getElem?_toArray]
    rw [← htk, List.getElem?_take_of_lt (by omega)] at h3
    simpa using h3
theorem wp_app12 {o : Oper} {a : Act} {K : Act → World → Prop} {Q : Exit → Act → World → Prop} {W : World} (s x : Operand)
    (ho : o.op = .call { callee := .builtin .append, args := #[s, x], argTypes := #[26, 26] }) (hty : o.type = 26)
    {B0 : Nat} {v : Value} {cap b off : Nat} {vv : Nat → Int} (hs : a.eval s = v) (hx : a.eval x = .slice (some ⟨b, off, none⟩) 12 cap)
    (hown : W.ownsRow B0 3 1 v 0 []) (hlt : ∀ j, v.ownBlock = some j → B0 ≤ j) (hc : ∀ i, i < 12 → W.cell? ⟨b, off + i, none⟩ = some (.int .i64 (vv i))) (hB : B0 ≤ W.heap.size)
    (h : ∀ g cap' w', B0 ≤ g → OwnV w' g 3 12 12 vv → Below B0 W w' → K (a.put o.dst (.slice (some ⟨g, 0, none⟩) 12 cap')) w') :
    o.wp Try.prog a W K Q := by
  obtain ⟨g, cap', w', hrun, h1, h2, h3⟩ := run_app12 W hown hlt hc hB (cap := cap)
  unfold Oper.wp execOp
  simp only [ho, hty, resolve, invoke, builtin, Sem.run_bind, Sem.run_pure, Result.andThen_ok, List.map_toArray, List.map_cons, List.map_nil, hs, hx, hrun]
  exact h g cap' w' h1 h2 h3
end Go.Proofs.Ytfgmkaajcbmlmaa
