/- Contracts of the reference's and the program's FlipBest (no claim of its own). Conditions: as each theorem states. -/
import Derived.Test.YtnglpbfoeiahlaaFlpM
namespace Go.Proofs.Ytnglpbfoeiahlaa
open Go.ChangeShapes Go.WideShapes Go.ChangeAt Go.RowKit

theorem turn_flp {w : World} {g : Nat} {v : Nat → Bool} {k : Nat} (h : OwnVb w g 4 12 12 v) (hk : k < 12) : OwnVb (w.setCell ⟨g, k, none⟩ (.bool !(v k))) g 4 12 12 (flp v k) := h.turn hk fun _ _ => rfl
theorem ok_inv {n : Nat} {p : Nat → Con} {nv : Nat} (h : probB n p = false) : vioOk n p nv = false := by simp [vioOk, h]
theorem ok_len {n : Nat} {p : Nat → Con} {nv : Nat} (h : nv ≠ 12) : vioOk n p nv = false := by simp [vioOk, h]
theorem ok_yes {n : Nat} {p : Nat → Con} (h : probB n p = true) : vioOk n p 12 = true := by simp [vioOk, h]
/-- What the program's loop knows: nothing yet, or the best one so far. -/
def FlIm (w : World) (n : Nat) (p : Nat → Con) (v : Nat → Bool) (k : Nat) (wr : World) (b : Value) (c : Int) (c0 : Int) : Prop := (k = 0 ∧ c = c0) ∨ FlSt w n p v k wr b c
theorem FlIm.below {w wr w' : World} {n : Nat} {p : Nat → Con} {v : Nat → Bool} {k : Nat} {b : Value} {c c0 : Int} (h : FlIm w n p v k wr b c c0) (hb : Below wr.heap.size wr w') : FlIm w n p v k w' b c c0 := h.imp id fun h => h.below hb
theorem FlIm.better {w wr : World} {n : Nat} {p : Nat → Con} {v : Nat → Bool} {k g cap : Nat} {b : Value} {c c0 : Int} (h : FlIm w n p v k wr b c c0) (hlt : k = 0 ∨ (cntF n p v k : Int) < c) (hg : w.heap.size ≤ g) (ho : OwnVb wr g 4 12 12 (flp v k)) : FlIm w n p v (k + 1) wr (.slice (some ⟨g, 0, none⟩) 12 cap) (cntF n p v k : Int) c0 := by
  rcases h with ⟨rfl, _⟩ | h
  · exact .inr (flSt_first hg ho)
  · rcases hlt with rfl | hlt
    · obtain ⟨j, _, _, h1, _⟩ := h
      omega
    · exact .inr (h.better hlt hg ho)
theorem FlIm.worse {w wr : World} {n : Nat} {p : Nat → Con} {v : Nat → Bool} {k : Nat} {b : Value} {c c0 : Int} (h : FlIm w n p v k wr b c c0) (hk : k ≠ 0) (hge : ¬ (cntF n p v k : Int) < c) : FlIm w n p v (k + 1) wr b c c0 := by
  rcases h with ⟨h, _⟩ | h
  · exact absurd h hk
  · exact .inr (h.worse hge)
theorem FlIm.fin {w wr : World} {n : Nat} {p : Nat → Con} {v : Nat → Bool} {b : Value} {c c0 : Int} (h : FlIm w n p v 12 wr b c c0) : ∃ g cap, b = .slice (some ⟨g, 0, none⟩) 12 cap ∧ w.heap.size ≤ g ∧ OwnVb wr g 4 12 12 (flp v (bstF n p v 11)) ∧ c = (cntF n p v (bstF n p v 11) : Int) := by
  rcases h with ⟨h, _⟩ | ⟨j, g, cap, h1, h2, h3, h4, h5⟩
  · omega
  · obtain rfl : j = 11 := by omega
    exact ⟨g, cap, h2, h3, h4, h5⟩

theorem FlIm.far {w wr w2 : World} {n : Nat} {p : Nat → Con} {v : Nat → Bool} {k g : Nat} {b : Value} {c c0 : Int} (h : FlIm w n p v k wr b c c0) (hb : Below wr.heap.size wr w2) (hg : wr.heap.size ≤ g) (o : Nat) (u : Value) : FlIm w n p v k (w2.setCell ⟨g, o, none⟩ u) b c c0 := by
  rcases h with h | ⟨j, g', cap, h1, h2, h3, h4, h5⟩
  · exact .inl h
  · refine .inr ⟨j, g', cap, h1, h2, h3, (h4.below hb).at_ (Below.heap_setCell w2 ⟨g, o, none⟩ u g' ?_), h5⟩
    show g' ≠ g
    have := h4.lt
    omega
theorem OwnVb.at_k {w : World} {G n : Nat} {T : TypeId} {v : Nat → Bool} (h : OwnVb w G T n n v) {j : Nat} (hj : j < n) : w.cell? ⟨G, j, none⟩ = some (.bool (v j)) := by
  obtain ⟨cs, hh, _, h2⟩ := h
  exact (cell_of_row w G _ cs _ _ hh).trans (h2 j hj)

set_option linter.unusedVariables false in
set_option maxRecDepth 100000 in
set_option maxHeartbeats 3200000 in
theorem implFl_any (A Av : Option Addr) (n cap nv capv : Nat) (p : Nat → Con) (v : Nat → Bool) (w : World) (hn : n ≤ 1048576) (hn' : ∀ i, i < n → (p i).n ≤ 1048576) (hnv : nv ≤ 1048576) (hr : RdP w w.heap.size A n p) (hrv : RdB w w.heap.size Av nv v) :
    Calls Try.prog 17 #[.slice A n cap, .slice Av nv capv] w (FlRes w n p nv v) := by
  have Hpr := Lib.hid (implProblem_any A n cap p w hn hn' hr)
  cases hv : probB n p with
  | false =>
    have Hfin := Lib.hid (ok_inv (nv := nv) hv)
    rw [hv] at Hpr
    clear hv hr hn'
    go_enter Try.func17, Try.ntmps17
    go_wp2_with fail
    refine Hpr.out.mono ?_
    rintro e w1 ⟨rfl, hb⟩
    have HB1 := Lib.hid hb
    clear hb
    go_wp2
    go_ret3
    exact flRes_no Hfin.out HB1.out
  | true =>
    rw [hv] at Hpr
    by_cases h12 : nv = 12
    · subst h12
      have Hfin := Lib.hid (ok_yes hv)
      have Hval := Lib.hid (prob_allV hv)
      have HN := Lib.hid hn'
      have HR := Lib.hid hr
      have HRV := Lib.hid hrv
      clear hv hn' hr hrv
      go_enter Try.func17, Try.ntmps17
      go_wp2_with fail
      refine Hpr.out.mono ?_
      rintro e w1 ⟨rfl, hb⟩
      have HB1 := Lib.hid hb
      clear hb
      go_wp2
      go_loopw [7, 8, 26] (fun b c i wr => ∃ (k : Nat) (c' : Int), k ≤ 12 ∧ i = .int .i64 k ∧ c = .int .i64 c' ∧ FlIm w n p v k wr b c' ((n : Int) + 1) ∧ Below w.heap.size w wr) (fun _ _ i _ => 12 - (intOf i).toNat)
      case atStart => exact ⟨0, _, Nat.zero_le _, rfl, rfl, .inl ⟨rfl, rfl⟩, HB1.out⟩
      case round =>
        obtain ⟨k, c', hk, rfl, rfl, hst, hb⟩ := hrel
        have HS := Lib.hid hst
        have HB := Lib.hid hb
        clear hst hb HB1
        by_cases hlt : k < 12
        · obtain ⟨b0, off, rfl, hbl, hc⟩ := (HRV.out.below HB.out) (by omega)
          have hck := hc k hlt
          clear hc
          go_wp2_with fail
          refine (cloneXB_any _ _ _ (valB v 12) _ (by omega) (by rw [valB_len]) (valB_one _ _) (srcB (HRV.out.later HB.out))).mono ?_
          rintro e w2 ⟨A2, cap2, rfl, hrow, hb⟩
          obtain ⟨g, rfl, hg, ho⟩ := hrow.bools (by omega)
          have hgw : w.heap.size ≤ g := Nat.le_trans HB.out.size hg
          have HB3 := Lib.hid ((bl_trans HB.out hb).setCell (p := ⟨g, k, none⟩) hgw (.bool !(v k)))
          have HS3 := Lib.hid (HS.out.far hb hg k (.bool !(v k)))
          have HT := Lib.hid (turn_flp ho hlt)
          obtain ⟨y1, hy1⟩ := ho.cell hlt
          have hf1 := ho.frozen k
          clear hrow hb HS HB ho hck hg
          go_wp2_with fail
          refine (violations_any _ _ _ _ _ p (flp v k) _ hn HN.out (HR.out.later HB3.out) HT.out.rdAt).mono ?_
          clear hy1 hf1
          rintro e w4 ⟨rfl, hb⟩
          have HB4 := Lib.hid (bl_trans HB3.out hb)
          have HS4 := Lib.hid (HS3.out.below hb)
          have HT4 := Lib.hid (HT.out.below hb)
          clear hb HB3 HS3 HT
          have hcn : (badN p (flp v k) n : Int) = (cntF n p v k : Int) := rfl
          have hle := cntF_le n p v k
          rw [hcn]
          clear hcn
          by_cases hc : (cntF n p v k : Int) < c'
          · go_wp2
            go_roundw
            case rel => exact ⟨k + 1, _, by omega, by go_num, rfl, HS4.out.better (.inr hc) hgw HT4.out, HB4.out⟩
            case measure => simp [intOf]; omega
          · have hk0 : k ≠ 0 := fun e => by
              rcases HS4.out with ⟨_, h2⟩ | ⟨j, _, _, h1, _⟩
              · omega
              · omega
            go_wp2
            go_roundw
            case rel => exact ⟨k + 1, _, by omega, by go_num, rfl, HS4.out.worse hk0 (by omega), HB4.out⟩
            case measure => simp [intOf]; omega
        · have e : k = 12 := by omega
          subst e
          obtain ⟨g, cap1, rfl, hg, ho, rfl⟩ := HS.out.fin
          have HO := Lib.hid ho
          clear ho HS
          go_wp2
          go_ret3
          exact flRes_yes Hfin.out hg HO.out HB.out
    · have Hfin := Lib.hid (ok_len (n := n) (p := p) h12)
      have hd : ((nv : Int) == 12) = false := by rw [beq_eq_false_iff_ne]; omega
      have hd2 : ((nv : Int) != 12) = true := by rw [bne_iff_ne]; omega
      clear hv hn' h12
      go_enter Try.func17, Try.ntmps17
      go_wp2_with fail
      refine Hpr.out.mono ?_
      rintro e w1 ⟨rfl, hb⟩
      have HB1 := Lib.hid hb
      clear hb
      go_wp2
      go_ret3
      exact flRes_no Hfin.out HB1.out

set_option linter.unusedVariables false in
set_option maxRecDepth 100000 in
set_option maxHeartbeats 3200000 in
theorem specFl_any (A Av : Option Addr) (n cap nv capv : Nat) (p : Nat → Con) (v : Nat → Bool) (w : World) (hn : n ≤ 1048576) (hn' : ∀ i, i < n → (p i).n ≤ 1048576) (hnv : nv ≤ 1048576) (hr : RdP w w.heap.size A n p) (hrv : RdB w w.heap.size Av nv v) :
    Calls Try.prog 16 #[.slice A n cap, .slice Av nv capv] w (FlRes w n p nv v) := by
  have Hpr := Lib.hid (specProblem_any A n cap p w hn hn' hr)
  cases hv : probB n p with
  | false =>
    have Hfin := Lib.hid (ok_inv (nv := nv) hv)
    rw [hv] at Hpr
    clear hv hr hn'
    go_enter Try.func16, Try.ntmps16
    go_wp2_with fail
    refine Hpr.out.mono ?_
    rintro e w1 ⟨rfl, hb⟩
    have HB1 := Lib.hid hb
    clear hb
    go_wp2
    go_ret3
    exact flRes_no Hfin.out (bl_alloc HB1.out _)
  | true =>
    rw [hv] at Hpr
    by_cases h12 : nv = 12
    · subst h12
      have Hfin := Lib.hid (ok_yes hv)
      have Hval := Lib.hid (prob_allV hv)
      have HN := Lib.hid hn'
      have HR := Lib.hid hr
      have HRV := Lib.hid hrv
      clear hv hn' hr hrv
      go_enter Try.func16, Try.ntmps16
      go_wp2_with fail
      refine Hpr.out.mono ?_
      rintro e w1 ⟨rfl, hb⟩
      have HB1 := Lib.hid hb
      clear hb
      go_wp2
      have hal := Lib.hid (bl_alloc (Below.refl w1.heap.size w1) (.cells #[] 4))
      go_loopw [7, 8, 9] (fun c b i wr => ∃ (k : Nat) (c' : Int), k ≤ 12 ∧ i = .int .i64 k ∧ c = .int .i64 c' ∧ FlIm w n p v k wr b c' (-1) ∧ Below w.heap.size w wr) (fun _ _ i _ => 12 - (intOf i).toNat)
      case atStart => exact ⟨0, _, Nat.zero_le _, rfl, rfl, .inl ⟨rfl, rfl⟩, bl_trans HB1.out hal.out⟩
      case round =>
        obtain ⟨k, c', hk, rfl, rfl, hst, hb⟩ := hrel
        have HS := Lib.hid hst
        have HB := Lib.hid hb
        clear hst hb HB1 hal
        by_cases hlt : k < 12
        · obtain ⟨i0, hi, hz0, hz1, hz2⟩ := info_parts Try.infoBool
          have HI := Lib.hid hi
          have HZ0 := Lib.hid hz0
          have HZ1 := Lib.hid hz1
          have HZ2 := Lib.hid hz2
          obtain ⟨b0, off, rfl, hbl, hc⟩ := (HRV.out.below HB.out) (by omega)
          have Hc := Lib.hid hc
          have Hlen := Lib.hid (show (valB v 12).length = 12 * 1 by rw [valB_len])
          have Hone := Lib.hid (valB_one v 12)
          have HcA := Lib.hid (show 0 < 12 → ∀ j u, (valB v 12)[j]? = some u → (wr.alloc (.cells #[] 4)).cell? (Addr.add ⟨b0, off, none⟩ j) = some u from fun _ j u hj => by
            obtain ⟨hj1, rfl⟩ := valB_inv hj
            rw [Addr.add_lit]
            exact Lib.cell?_alloc_some _ (Hc.out j hj1))
          have HR0 := Lib.hid (rowX_new wr 4 1)
          clear hc hi hz0 hz1 hz2
          go_wp2_with (at_builtin; refine wpList_plain (by rfl) fun K' hK' => ?_; refine wpX_cp _ _ 23 4 (by rfl) (by rfl) i0 _ 1 1 Try.underlying23 HI.out HZ0.out HZ1.out HZ2.out rfl (by omega) (B0 := wr.heap.size) (by rfl) (by rfl) Hlen.out HR0.out (by intro j hj; cases hj; exact Nat.le_refl _) HcA.out Hone.out (by unfold maxLen; omega) (by omega) (by simp) ?_; intro A1 cap1 w2 hov hb7; have Hb7 := Lib.hid ((bl_alloc (Below.refl wr.heap.size wr) (.cells #[] 4)).trans hb7); have Hov := Lib.hid hov; clear hov hb7 HcA HR0; obtain ⟨g, rfl, hg, ho⟩ := Hov.out.bools (by omega); have hgw : w.heap.size ≤ g := Nat.le_trans HB.out.size hg; have HB3 := Lib.hid ((bl_trans HB.out Hb7.out).setCell (p := ⟨g, k, none⟩) hgw (.bool !(v k))); have HS3 := Lib.hid (HS.out.far Hb7.out hg k (.bool !(v k))); have HT := Lib.hid (turn_flp ho hlt); have hy1 := ho.at_k hlt; have hf1 := ho.frozen k; clear hg ho Hov Hb7 HB HS; refine hK' _ _ ?_; clear hK' K')
          refine (l11Bad_any _ _ _ _ _ p (flp v k) _ hn HN.out (HR.out.later HB3.out) HT.out.rdAt Hval.out).mono ?_
          clear hy1 hf1
          rintro e w4 ⟨rfl, hb⟩
          have HB4 := Lib.hid (bl_trans HB3.out hb)
          have HS4 := Lib.hid (HS3.out.below hb)
          have HT4 := Lib.hid (HT.out.below hb)
          clear hb HB3 HS3 HT
          have hcn : (badN p (flp v k) n : Int) = (cntF n p v k : Int) := rfl
          have hle := cntF_le n p v k
          rw [hcn]
          clear hcn
          rcases Nat.eq_zero_or_pos k with rfl | hpos
          · obtain rfl : c' = -1 := by
              rcases HS4.out with ⟨_, h2⟩ | ⟨j, _, _, h1, _⟩
              · exact h2
              · omega
            go_wp2
            go_roundw
            case rel => exact ⟨0 + 1, _, by omega, by go_num, rfl, HS4.out.better (.inl rfl) hgw HT4.out, HB4.out⟩
            case measure => simp [intOf]
          · have hc0 : ¬ (c' < 0) := fun e => by
              rcases HS4.out with ⟨h2, _⟩ | ⟨j, _, _, _, _, _, _, h1⟩
              · omega
              · omega
            by_cases hc : (cntF n p v k : Int) < c'
            · go_wp2
              go_roundw
              case rel => exact ⟨k + 1, _, by omega, by go_num, rfl, HS4.out.better (.inr hc) hgw HT4.out, HB4.out⟩
              case measure => simp [intOf]; omega
            · go_wp2
              go_roundw
              case rel => exact ⟨k + 1, _, by omega, by go_num, rfl, HS4.out.worse (by omega) (by omega), HB4.out⟩
              case measure => simp [intOf]; omega
        · have e : k = 12 := by omega
          subst e
          obtain ⟨g, cap1, rfl, hg, ho, rfl⟩ := HS.out.fin
          have HO := Lib.hid ho
          clear ho HS
          go_wp2
          go_ret3
          exact flRes_yes Hfin.out hg HO.out HB.out
    · have Hfin := Lib.hid (ok_len (n := n) (p := p) h12)
      have hd : ((nv : Int) == 12) = false := by rw [beq_eq_false_iff_ne]; omega
      have hd2 : ((nv : Int) != 12) = true := by rw [bne_iff_ne]; omega
      clear hv hn' h12
      go_enter Try.func16, Try.ntmps16
      go_wp2_with fail
      refine Hpr.out.mono ?_
      rintro e w1 ⟨rfl, hb⟩
      have HB1 := Lib.hid hb
      clear hb
      go_wp2
      go_ret3
      exact flRes_no Hfin.out (bl_alloc HB1.out _)
end Go.Proofs.Ytnglpbfoeiahlaa
