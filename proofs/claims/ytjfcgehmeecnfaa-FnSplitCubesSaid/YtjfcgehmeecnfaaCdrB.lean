/- The draw of CubeHolds' arguments (no claim of its own). Conditions: as each theorem states. -/
import Derived.Test.YtjfcgehmeecnfaaCdrA
namespace Go.Proofs.Ytjfcgehmeecnfaa
open Go.ChangeShapes Go.WideShapes Go.ChangeAt Go.RowKit

set_option maxHeartbeats 400000 in
theorem l1Abs_some (n : Int) (w : World) :
    Calls Try.prog 66 #[.int .i64 n] w fun e w' => (∃ z : Int, e = .returned (.int .i64 z)) ∧ w' = w := by
  by_cases h : n < 0
  · go_enter Try.func66, Try.ntmps66
    go_wp2
    go_ret
    exact ⟨⟨_, rfl⟩, rfl⟩
  · go_enter Try.func66, Try.ntmps66
    go_wp2
    go_ret
    exact ⟨⟨_, rfl⟩, rfl⟩

section
variable {w w1 : World} {lo k j G R : Nat} {A : Option Addr} {v : Nat → Bool}
theorem FB.putB (h : FB w lo (some ⟨G, 0, none⟩) k v) (hk : 0 < k) (b : Bool) : FB (w.setCell ⟨G, j, none⟩ (.bool b)) lo (some ⟨G, 0, none⟩) k (fun i => if i = j then b else v i) := by
  rcases h with h | ⟨G', e, h1, h2, cs, hh, hc⟩
  · omega
  · cases e
    refine .inr ⟨G, rfl, h1, by simpa [World.setCell] using h2, cs.setIfInBounds j (.bool b), ?_, fun i hi => ?_⟩
    · simp [World.setCell, Array.getElem?_modify, hh]
    · rw [Array.getElem?_setIfInBounds]
      by_cases e : i = j
      · subst e
        have := (Array.getElem?_eq_some_iff.1 (hc i hi)).1
        rw [if_pos rfl, if_pos (by omega)]
        simp only [if_pos]
      · rw [if_neg (by omega)]
        simp only [if_neg e]
        exact hc i hi
theorem FB.cellB (h : FB w lo A k v) (hj : j < k) : ∃ G, A = some ⟨G, 0, none⟩ ∧ lo ≤ G ∧ (∃ u, w.cell? ⟨G, j, none⟩ = some u) ∧ w.frozen? ⟨G, j, none⟩ = false := by
  rcases h with h | ⟨G, e, h1, h2, cs, hh, hc⟩
  · omega
  · exact ⟨G, e, h1, ⟨_, (cell_of_row w G _ cs _ _ hh).trans (hc j hj)⟩, by simp [World.frozen?, hh]⟩
theorem FB.grB (h : FB w lo A k v) (hg : Gr R w w1) (hR : R < lo) : FB w1 lo A k v := by
  rcases h with h | ⟨G, e, h1, h2, cs, hh, hc⟩
  · exact .inl h
  · exact .inr ⟨G, e, h1, Nat.lt_of_lt_of_le h2 hg.size, cs, (hg.block G h2 (by intro e'; cases e'; omega)).trans hh, hc⟩
end

theorem gr_bel9 {w w1 w5 : World} {R : Nat} (hb : Below w.heap.size w w1) (hg : Gr R w1 w5) (hR : w.heap.size ≤ R) : Below w.heap.size w w5 :=
  ⟨hg.os.trans hb.os, hg.tape.trans hb.tape, hg.output.trans hb.output, Nat.le_trans hb.size hg.size, fun k hk => (hg.block k (Nat.lt_of_lt_of_le hk hb.size) (by intro e; cases e; omega)).trans (hb.block k hk)⟩
/-- What the draw of a cube and of values leaves. -/
def DCh (w : World) (e : Ending) (w' : World) : Prop := ∃ A k cap c Av kv capv v, e = .returned (.tuple #[.slice A k cap, .slice Av kv capv]) ∧ k ≤ 5 ∧ kv ≤ 12 ∧ RdI w' w'.heap.size A k c ∧ RdB w' w'.heap.size Av kv v ∧ Below w.heap.size w w'

set_option linter.unusedVariables false in
set_option maxRecDepth 100000 in
set_option maxHeartbeats 3200000 in
theorem drawCubeH_any (A : Option Addr) (n cap : Nat) (y : Nat → Int) (w : World) (hm : n ≤ maxLen) (hcap : n ≤ cap) (hr : RdY w w.heap.size A n y) :
    Calls Try.prog 31 #[.slice A n cap] w (DCh w) := by
  go_enter Try.func31, Try.ntmps31
  go_wp2_with fail
  refine (open_any _ _ _ y _ hm hcap hr).mono ?_
  rintro e w1 ⟨rfl, hb, hrd, hz1⟩
  have HB1 := Lib.hid hb
  have RD1 := Lib.hid hrd
  have hs1 := hb.size
  clear hb hrd hr
  go_wp2_with fail
  refine (l12Signed_any w.heap.size 0 _ (by omega) RD1.out).mono ?_
  rintro e w2 ⟨A2, k2, cap2, rfl, hk2, hts, hg, hr⟩
  have TS2 := Lib.hid hts
  have G2 := Lib.hid hg
  have RD2 := Lib.hid hr
  have hz2 : w1.heap.size ≤ w2.heap.size := hg.size
  clear hts hg hr RD1
  go_wp2_with fail
  refine (values_any w.heap.size (0 + 20) _ (by omega) RD2.out).mono ?_
  rintro e w3 ⟨A3, k3, cap3, v3, rfl, hk3, hfb, hg, hr⟩
  have FB3 := Lib.hid hfb
  have TS3 := Lib.hid (TS2.out.gr hg (by omega))
  have LT3 := Lib.hid (fun j e => (TS2.out.lt2 j e).2)
  have G3 := Lib.hid (G2.out.trans hg)
  have RD3 := Lib.hid hr
  have HSZ := Lib.hid (show w2.heap.size ≤ w3.heap.size from hg.size)
  clear hfb hg hr RD2 G2 TS2
  have hb3 := HSZ.out
  go_wp2
  go_loopw [7] (fun i wr => ∃ (j : Nat) (v : Nat → Bool), j ≤ k2 ∧ i = .int .i64 j ∧ FB wr w2.heap.size A3 k3 v ∧ TS wr w1.heap.size 3 1 (.slice A2 k2 cap2) k2 ∧ Gr w.heap.size w1 wr ∧ Rdr wr w.heap.size (0 + 20 + 20 + j) ∧ w2.heap.size ≤ wr.heap.size) (fun i _ => k2 - (intOf i).toNat)
  case atStart => exact ⟨0, v3, Nat.zero_le _, rfl, FB3.out, TS3.out, G3.out, RD3.out, hb3⟩
  case round =>
    obtain ⟨j, v, hj, rfl, hfb, hts, hgr, hrd, hsz⟩ := hrel
    have FBk := Lib.hid hfb
    have TSk := Lib.hid hts
    have GR := Lib.hid hgr
    have RD := Lib.hid hrd
    clear hfb hts hgr hrd FB3 TS3 G3 RD3
    by_cases hlt : j < k2
    · have hltI : (j : Int) < (k2 : Int) := by omega
      have hj0 : (0 : Int) ≤ (j : Int) := by omega
      go_wp2_with fail
      refine (pick_any w.heap.size (0 + 20 + 20 + j) 6 _ (by omega) RD.out).mono ?_
      rintro e w4 ⟨x, rfl, hx0, hx1, hg, hr⟩
      have FB4 := Lib.hid (FBk.out.grB hg (by omega))
      have TS4 := Lib.hid (TSk.out.gr hg (by omega))
      have G4 := Lib.hid (GR.out.trans hg)
      have RD4 := Lib.hid hr
      have hsz4 : w2.heap.size ≤ w4.heap.size := Nat.le_trans hsz hg.size
      clear hg hr FBk TSk GR RD hx0 hx1
      by_cases h0 : 0 < x
      · obtain ⟨g, cp, z, e, cz, fz, hg0⟩ := tsx_at TS4.out hlt
        cases e
        go_wp2_with fail
        refine (l1Abs_some _ _).mono ?_
        rintro e w' ⟨⟨q, rfl⟩, rfl⟩
        by_cases hq1 : 1 ≤ q
        · by_cases hq2 : q ≤ (k3 : Int)
          · obtain ⟨qi, hqi⟩ : ∃ qi : Nat, q = (qi : Int) + 1 := ⟨(q - 1).toNat, by omega⟩
            subst hqi
            have hqk : qi < k3 := by omega
            obtain ⟨GB, rfl, hGB, ⟨u, hu⟩, fu⟩ := FB4.out.cellB hqk
            have hne : g < w2.heap.size := LT3.out g rfl
            have HF5 := Lib.hid (FB4.out.putB (j := qi) (by omega) (decide (0 < z)))
            have HT5 := Lib.hid (TS4.out.setne (p := ⟨GB, qi, none⟩) (fun j e => by cases e; show g ≠ GB; omega) (.bool (decide (0 < z))))
            have HG5 := Lib.hid (G4.out.set (p := ⟨GB, qi, none⟩) (.inr (by show w1.heap.size ≤ GB; omega)) (.bool (decide (0 < z))))
            have HR5 := Lib.hid (RD4.out.set (p := ⟨GB, qi, none⟩) (by show w.heap.size < GB; omega) (.bool (decide (0 < z))))
            have hwq : wrap64 ((qi : Int) + 1 - 1) = (qi : Int) := by rw [show (qi : Int) + 1 - 1 = (qi : Int) by omega]; exact IntWalk.i64_left _ ▸ IntWalk.i64_in _ (by omega)
            have hq0 : (0 : Int) ≤ (qi : Int) := by omega
            have hqI : (qi : Int) < (k3 : Int) := by omega
            clear FB4 TS4 G4 RD4
            go_wp2
            go_roundw
            case rel => exact ⟨j + 1, _, by omega, by go_num, HF5.out, HT5.out, HG5.out, HR5.out, by simpa [World.setCell] using hsz4⟩
            case measure => simp [intOf]; omega
          · clear cz fz
            go_wp2
            go_roundw
            case rel => exact ⟨j + 1, v, by omega, by go_num, FB4.out, TS4.out, G4.out, RD4.out, hsz4⟩
            case measure => simp [intOf]; omega
        · clear cz fz
          go_wp2
          go_roundw
          case rel => exact ⟨j + 1, v, by omega, by go_num, FB4.out, TS4.out, G4.out, RD4.out, hsz4⟩
          case measure => simp [intOf]; omega
      · obtain ⟨A9, cap9, c9, e9, hF9⟩ := TS4.out.ints
        cases e9
        have HI := Lib.hid hF9.rdAt
        have HV := Lib.hid FB4.out.rd
        have HBz := Lib.hid (gr_bel9 HB1.out G4.out (Nat.le_refl _))
        clear hF9 TS4 FB4
        go_wp2
        go_ret2
        exact ⟨A2, k2, cap2, c9, A3, k3, cap3, v, rfl, hk2, hk3, HI.out, HV.out, HBz.out⟩
    · obtain rfl : j = k2 := by omega
      obtain ⟨A9, cap9, c9, e9, hF9⟩ := TSk.out.ints
      cases e9
      have HI := Lib.hid hF9.rdAt
      have HV := Lib.hid FBk.out.rd
      have HBz := Lib.hid (gr_bel9 HB1.out GR.out (Nat.le_refl _))
      clear hF9 TSk FBk
      go_wp2
      go_ret2
      exact ⟨A2, j, cap2, c9, A3, k3, cap3, v, rfl, hk2, hk3, HI.out, HV.out, HBz.out⟩
end Go.Proofs.Ytjfcgehmeecnfaa
