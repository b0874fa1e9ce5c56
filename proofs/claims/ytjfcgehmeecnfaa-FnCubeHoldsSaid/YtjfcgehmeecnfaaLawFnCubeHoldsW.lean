/- The walk of the law FnCubeHolds (no claim of its own). Conditions: as each theorem states. -/
import Derived.Test.YtjfcgehmeecnfaaCdrB
import Derived.Test.YtjfcgehmeecnfaaCubH
import Derived.Test.YtjfcgehmeecnfaaClnJ
namespace Go.Proofs.Ytjfcgehmeecnfaa
open Go.ChangeShapes Go.WideShapes Go.ChangeAt Go.RowKit

theorem trueP_neg {v : Nat → Bool} {x : Int} (h : litB x = true) : trueP v (-x) = !trueP v x := by
  obtain ⟨h0, _, _⟩ := litB_iff.1 h
  unfold trueP
  by_cases hp : 0 < x
  · rw [if_neg (by omega), if_pos hp, show (-(-x) - 1).toNat = (x - 1).toNat by omega]
  · rw [if_pos (by omega), if_neg hp, Bool.not_not]
theorem holdR_at {c : Nat → Int} {v : Nat → Bool} {n k : Nat} (h : holdR c v n = true) (hk : k < n) : trueP v (c k) = true := by
  cases hq : trueP v (c k) with
  | true => rfl
  | false => rw [holdR_no hq hk] at h; cases h
theorem holds_parts {n nv : Nat} {c : Nat → Int} {v : Nat → Bool} (h : holdsB n c nv v = true) : cubeB n c = true ∧ nv = 12 ∧ holdR c v n = true := by
  unfold holdsB at h
  rw [Bool.and_eq_true, Bool.and_eq_true] at h
  exact ⟨h.1, by simpa using h.2.1, h.2.2⟩
theorem holds_other {n nv k : Nat} {c : Nat → Int} {v : Nat → Bool} (h : holdsB n c nv v = true) (hk : k < n) : holdsB n (fun i => if i = k then -(c k) else c i) nv v = false := by
  obtain ⟨h1, h2, h3⟩ := holds_parts h
  have hq : trueP v ((fun i => if i = k then -(c k) else c i) k) = false := by
    simp only [if_pos]
    rw [trueP_neg (litR_at (cube_parts h1).1 hk), holdR_at h3 hk]
    rfl
  unfold holdsB
  rw [holdR_no (c := fun i => if i = k then -(c k) else c i) hq hk, Bool.and_false, Bool.and_false]
theorem holds_empty (c : Nat → Int) (nv : Nat) (v : Nat → Bool) : holdsB 0 c nv v = (nv == 12) := by
  show (cubeB 0 c && ((nv == 12) && true)) = _
  rw [Bool.and_true]
  exact Bool.true_and _

theorem ownV_at9 {w : World} {G n j : Nat} {T : TypeId} {v : Nat → Int} (h : OwnV w G T n n v) (hj : j < n) : w.cell? ⟨G, j, none⟩ = some (.int .i64 (v j)) ∧ w.frozen? ⟨G, j, none⟩ = false ∧ G < w.heap.size := by
  have hlt := h.lt
  obtain ⟨cs, hh, h1, h2⟩ := h
  exact ⟨(cell_of_row w G _ cs _ _ hh).trans (h2 j hj), by simp [World.frozen?, hh], hlt⟩
theorem ownV_set9 {w : World} {G n j : Nat} {T : TypeId} {v : Nat → Int} {z : Int} (h : OwnV w G T n n v) : OwnV (w.setCell ⟨G, j, none⟩ (.int .i64 z)) G T n n (fun i => if i = j then z else v i) := by
  obtain ⟨cs, hh, h1, h2⟩ := h
  refine ⟨cs.setIfInBounds j (.int .i64 z), by simp [World.setCell, Array.getElem?_modify, hh], by simp [h1], fun i hi => ?_⟩
  rw [Array.getElem?_setIfInBounds]
  by_cases e : i = j
  · subst e
    rw [if_pos rfl, if_pos (by omega)]
    simp only [if_pos]
  · rw [if_neg (by omega)]
    simp only [if_neg e]
    exact h2 i hi

set_option linter.unusedVariables false in
set_option maxRecDepth 100000 in
set_option maxHeartbeats 6400000 in
theorem lawFnCubeHolds_ok (A0 : Option Addr) (n0 cap0 : Nat) (y0 : Nat → Int) (w : World) (h0 : n0 ≤ 1048576) (hc0 : n0 ≤ cap0) (hr0 : RdY w w.heap.size A0 n0 y0) :
    Calls Try.prog 7 #[.slice A0 n0 cap0] w fun e w' => e = .returned (.bool true) ∧ Below w.heap.size w w' := by
  have hm0 : n0 ≤ maxLen := by unfold maxLen; omega
  have hi0 : ¬ (1048576 : Int) < (n0 : Int) := by omega
  go_enter Try.func7, Try.ntmps7
  go_wp2_with fail
  refine (drawCubeH_any _ _ _ y0 _ hm0 hc0 hr0).mono ?_
  rintro e w1 ⟨A, k, cap, c, Av, kv, capv, v, rfl, hk, hkv, hrc, hrv, hb⟩
  have HB1 := Lib.hid hb
  have HC1 := Lib.hid hrc
  have HV1 := Lib.hid hrv
  have hkB : k ≤ 1048576 := by omega
  have hkvB : kv ≤ 1048576 := by omega
  clear hb hrc hrv hr0
  go_wp2_with fail
  refine (implHolds_any _ _ _ _ _ _ c v _ hkB hkvB HC1.out HV1.out).mono ?_
  rintro e w2 ⟨rfl, hb⟩
  have HB2 := Lib.hid (bl_trans HB1.out hb)
  have HC2 := Lib.hid (HC1.out.later hb)
  have HV2 := Lib.hid (HV1.out.later hb)
  clear hb HB1 HC1 HV1
  go_wp2_with fail
  refine (specHolds_any _ _ _ _ _ _ c v _ hkB hkvB HC2.out HV2.out).mono ?_
  rintro e w3 ⟨rfl, hb⟩
  have HB3 := Lib.hid (bl_trans HB2.out hb)
  have HC3 := Lib.hid (HC2.out.later hb)
  have HV3 := Lib.hid (HV2.out.later hb)
  clear hb HB2 HC2 HV2
  have hcase : (kv = 12 ∨ (kv ≠ 12 ∧ holdsB k c kv v = false)) := by
    by_cases h : kv = 12
    · exact .inl h
    · exact .inr ⟨h, holds_len h⟩
  rcases hcase with h12 | ⟨h12, hq⟩
  · subst h12
    cases hq : holdsB k c 12 v with
    | false =>
      have HQ := Lib.hid hq
      clear hq
      go_wp2_with fail
      have HA3 := Lib.hid (bl_alloc (Below.refl w3.heap.size w3) (.cells #[] 3))
      refine (implHolds_any _ _ _ _ _ _ c v _ (Nat.zero_le _) hkvB (fun h => absurd h (by omega)) (HV3.out.later HA3.out)).mono ?_
      rintro e w4 ⟨rfl, hb⟩
      rw [holds_empty]
      have HB4 := Lib.hid (bl_trans (bl_trans HB3.out HA3.out) hb)
      have HC4 := Lib.hid ((HC3.out.later HA3.out).later hb)
      have HV4 := Lib.hid ((HV3.out.later HA3.out).later hb)
      clear hb HB3 HC3 HV3 HA3
      go_wp2_with fail
      refine (specHolds_any _ _ _ _ _ _ c v _ hkB hkvB HC4.out HV4.out).mono ?_
      rintro e w5 ⟨rfl, hb⟩
      rw [HQ.out]
      have HB5 := Lib.hid (bl_trans HB4.out hb)
      have HC5 := Lib.hid (HC4.out.later hb)
      have HV5 := Lib.hid (HV4.out.later hb)
      clear hb HB4 HC4 HV4
      go_wp2_with fail
      have HA5 := Lib.hid (bl_alloc (Below.refl w5.heap.size w5) (.cells #[] 3))
      refine (implHolds_any _ _ _ _ _ _ c v _ (Nat.zero_le _) hkvB (fun h => absurd h (by omega)) (HV5.out.later HA5.out)).mono ?_
      rintro e w6 ⟨rfl, hb⟩
      rw [holds_empty]
      have HB6 := Lib.hid (bl_trans (bl_trans HB5.out HA5.out) hb)
      have HC6 := Lib.hid ((HC5.out.later HA5.out).later hb)
      have HV6 := Lib.hid ((HV5.out.later HA5.out).later hb)
      clear hb HB5 HC5 HV5 HA5
      go_wp2
      go_ret
      exact ⟨rfl, HB6.out⟩
    | true =>
      have HQ := Lib.hid hq
      clear hq
      go_wp2_with fail
      have HA3 := Lib.hid (bl_alloc (Below.refl w3.heap.size w3) (.cells #[] 3))
      refine (implHolds_any _ _ _ _ _ _ c v _ (Nat.zero_le _) hkvB (fun h => absurd h (by omega)) (HV3.out.later HA3.out)).mono ?_
      rintro e w4 ⟨rfl, hb⟩
      rw [holds_empty]
      have HB4 := Lib.hid (bl_trans (bl_trans HB3.out HA3.out) hb)
      have HC4 := Lib.hid ((HC3.out.later HA3.out).later hb)
      have HV4 := Lib.hid ((HV3.out.later HA3.out).later hb)
      clear hb HB3 HC3 HV3 HA3
      obtain ⟨hcb, _, _⟩ := holds_parts HQ.out
      have HLc := Lib.hid (cube_parts hcb).1
      clear hcb
      obtain ⟨i0, hi, hz0, hz1, hz2⟩ := info_parts Try.infoInt
      have Hhi := Lib.hid hi
      have Hhz0 := Lib.hid hz0
      have Hhz1 := Lib.hid hz1
      have Hhz2 := Lib.hid hz2
      clear hi hz0 hz1 hz2
      go_wp2
      go_loopw [6] (fun i wr => ∃ j : Nat, j ≤ k ∧ i = .int .i64 j ∧ Below w.heap.size w wr ∧ RdI wr wr.heap.size A k c ∧ RdB wr wr.heap.size Av 12 v) (fun i _ => k - (intOf i).toNat)
      case atStart => exact ⟨0, Nat.zero_le _, rfl, HB4.out, HC4.out, HV4.out⟩
      case round =>
        obtain ⟨j, hj, rfl, hb, hc, hv⟩ := hrel
        have HB := Lib.hid hb
        have HC := Lib.hid hc
        have HV := Lib.hid hv
        clear hb hc hv HB4 HC4 HV4
        by_cases hlt : j < k
        · obtain ⟨b, off, rfl, hbl, hcc⟩ := HC.out (by omega)
          have HR0 := Lib.hid (rowX_new wr 3 1)
          have HA := Lib.hid (bl_alloc (Below.refl wr.heap.size wr) (.cells #[] 3))
          have HcA := Lib.hid (show 0 < k → ∀ j u, (intXs c k)[j]? = some u → (wr.alloc (.cells #[] 3)).cell? ((⟨b, off, none⟩ : Addr).add j) = some u from fun e j u hj => kc HA.out (intXs_src HC.out j u hj))
          have hll := litR_at HLc.out hlt
          obtain ⟨hl0, hl1, hl2⟩ := litB_iff.1 hll
          have hltI : (j : Int) < (k : Int) := by omega
          have hj0 : (0 : Int) ≤ (j : Int) := by omega
          clear hcc hll
          go_wp2_with (at_builtin; refine wpList_plain (by rfl) fun K' hK' => ?_; refine wpX_cp (xs := intXs c k) _ _ 22 3 (by rfl) (by rfl) i0 _ 1 8 Try.underlying22 Hhi.out Hhz0.out Hhz1.out Hhz2.out rfl (by omega) (B0 := wr.heap.size) (by rfl) (by rfl) (by rw [intXs_len]; omega) HR0.out (by intro j hj; cases hj; exact Nat.le_refl _) HcA.out (intXs_one c k) (by unfold maxLen; omega) (by omega) (by simp) ?_; intro A1 cap1 w7 hov hb7; have HB7 := Lib.hid (HA.out.trans hb7); rcases hov.fri with h0 | ⟨G, e, hG, hown⟩; exact absurd h0 (by omega); subst e; obtain ⟨q1, q2, q3⟩ := ownV_at9 hown hlt; have HO := Lib.hid hown; clear hov hb7 hown; refine hK' _ _ ?_; clear hK' K')
          have HX := Lib.hid (ownV_set9 (j := j) (z := -(c j)) HO.out)
          have HB8 := Lib.hid (HB7.out.setCell (p := ⟨G, j, none⟩) hG (.int .i64 (-(c j))))
          have HNo := Lib.hid (holds_other HQ.out hlt)
          clear q1 q2 q3 HO HB7 HcA HR0 HA
          refine (implHolds_any _ _ _ _ _ _ (fun i => if i = j then -(c j) else c i) v _ hkB hkvB HX.out.rdAt (HV.out.later HB8.out)).mono ?_
          rintro e w9 ⟨rfl, hb⟩
          rw [HNo.out]
          have HB9 := Lib.hid (bl_trans HB.out (bl_trans HB8.out hb))
          have HC9 := Lib.hid ((HC.out.later HB8.out).later hb)
          have HV9 := Lib.hid ((HV.out.later HB8.out).later hb)
          clear hb HB HC HV HB8 HX HNo
          go_wp2
          go_roundw
          case rel => exact ⟨j + 1, by omega, by go_num, HB9.out, HC9.out, HV9.out⟩
          case measure => simp [intOf]; omega
        · obtain rfl : j = k := by omega
          go_wp2
          go_ret
          exact ⟨rfl, HB.out⟩
  · have hk1 : (kv == 12) = false := by rw [beq_eq_false_iff_ne]; exact h12
    have hk2 : ((kv : Int) == 12) = false := by rw [beq_eq_false_iff_ne]; omega
    have HQ := Lib.hid hq
    rw [hq]
    clear hq
    go_wp2_with fail
    have HA3 := Lib.hid (bl_alloc (Below.refl w3.heap.size w3) (.cells #[] 3))
    refine (implHolds_any _ _ _ _ _ _ c v _ (Nat.zero_le _) hkvB (fun h => absurd h (by omega)) (HV3.out.later HA3.out)).mono ?_
    rintro e w4 ⟨rfl, hb⟩
    rw [holds_empty]
    have HB4 := Lib.hid (bl_trans (bl_trans HB3.out HA3.out) hb)
    have HC4 := Lib.hid ((HC3.out.later HA3.out).later hb)
    have HV4 := Lib.hid ((HV3.out.later HA3.out).later hb)
    clear hb HB3 HC3 HV3 HA3
    go_wp2_with fail
    refine (specHolds_any _ _ _ _ _ _ c v _ hkB hkvB HC4.out HV4.out).mono ?_
    rintro e w5 ⟨rfl, hb⟩
    rw [HQ.out]
    have HB5 := Lib.hid (bl_trans HB4.out hb)
    have HC5 := Lib.hid (HC4.out.later hb)
    have HV5 := Lib.hid (HV4.out.later hb)
    clear hb HB4 HC4 HV4
    go_wp2_with fail
    have HA5 := Lib.hid (bl_alloc (Below.refl w5.heap.size w5) (.cells #[] 3))
    refine (implHolds_any _ _ _ _ _ _ c v _ (Nat.zero_le _) hkvB (fun h => absurd h (by omega)) (HV5.out.later HA5.out)).mono ?_
    rintro e w6 ⟨rfl, hb⟩
    rw [holds_empty]
    have HB6 := Lib.hid (bl_trans (bl_trans HB5.out HA5.out) hb)
    have HC6 := Lib.hid ((HC5.out.later HA5.out).later hb)
    have HV6 := Lib.hid ((HV5.out.later HA5.out).later hb)
    clear hb HB5 HC5 HV5 HA5
    go_wp2
    go_ret
    exact ⟨rfl, HB6.out⟩
set_option linter.unusedVariables false in
set_option maxRecDepth 100000 in
set_option maxHeartbeats 1600000 in
theorem lawFnCubeHolds_walk (A0 : Option Addr) (n0 cap0 : Nat) (y0 : Nat → Int) (w : World) (hm0 : n0 ≤ maxLen) (hc0 : n0 ≤ cap0) (hr0 : RdY w w.heap.size A0 n0 y0) :
    Calls Try.prog 7 #[.slice A0 n0 cap0] w fun e w' => e = .returned (.bool true) ∧ Below w.heap.size w w' := by
  by_cases h0 : n0 ≤ 1048576
  · exact lawFnCubeHolds_ok A0 n0 cap0 y0 w h0 hc0 hr0
  · unfold maxLen at hm0
    have hi0 : (1048576 : Int) < (n0 : Int) := by omega
    go_enter Try.func7, Try.ntmps7
    go_wp2
    go_ret
    exact ⟨rfl, Below.refl _ _⟩
end Go.Proofs.Ytjfcgehmeecnfaa
