/- The walk of the exact law of Propagate (no claim of its own). Conditions: as each theorem states. -/
import Derived.Test.YtooknldfkcdneaaImpP
import Derived.Test.YtooknldfkcdneaaMrkP
namespace Go.Proofs.Ytooknldfkcdneaa
open Go.ChangeShapes Go.WideShapes Go.ChangeAt Go.RowKit

/-- Two results of Propagate are one. -/
theorem pres_two {p : Nat → Con} {m n n2 : Nat} {v v1 v2 : Nat → Int} {r r2 : Int} {ok : Bool} (a1 : ok = true → n = 12 ∧ rng v1 ∧ Runs p m 0 v v1 r) (a0 : ok = false → n = 0 ∧ r = -1) (b1 : ok = true → n2 = 12 ∧ rng v2 ∧ Runs p m 0 v v2 r2) (b0 : ok = false → n2 = 0 ∧ r2 = -1) : n2 = n ∧ r2 = r ∧ (n = 0 ∨ v2 = v1) ∧ n ≤ 12 := by
  cases ok with
  | true =>
    obtain ⟨e1, _, h1⟩ := a1 rfl
    obtain ⟨e2, _, h2⟩ := b1 rfl
    obtain ⟨x, y⟩ := Runs.det h2 _ _ h1
    exact ⟨by omega, y, .inr x, by omega⟩
  | false =>
    obtain ⟨e1, h1⟩ := a0 rfl
    obtain ⟨e2, h2⟩ := b0 rfl
    exact ⟨by omega, by omega, .inl e1, by omega⟩
theorem fri_as {w : World} {B : Nat} {T : TypeId} {A : Option Addr} {n : Nat} {v v' : Nat → Int} (h : FrI w B T A n v) (e : n = 0 ∨ v = v') : FrI w B T A n v' := by
  rcases e with e | rfl
  · exact .inl e
  · exact h
theorem HdP.below {w w' : World} {lo hi G n : Nat} {ns : Nat → Nat} (h : HdP w lo hi G n ns) (hb : Below w.heap.size w w') : HdP w' lo hi G n ns := h.keep (hb.block G h.room.lt) (bl_shp hb)

set_option maxRecDepth 100000 in
set_option maxHeartbeats 6400000 in
theorem lawProp_ok (A0 : Option Addr) (m cap0 : Nat) (p : Nat → Con) (A1 : Option Addr) (np cap1 : Nat) (v : Nat → Int) (w : World) (hm0 : m ≤ maxLen) (hk0 : ∀ i, i < m → (p i).n ≤ maxLen) (hr0 : RdP w w.heap.size A0 m p) (hm1 : np ≤ maxLen) (hr1 : RdI w w.heap.size A1 np v) (hv0 : np = 12 → ∀ i, 12 ≤ i → v i = 0) :
    Calls Try.prog 3 #[.slice A0 m cap0, .slice A1 np cap1] w fun e w' => e = .returned (.bool true) ∧ Below w.heap.size w w' := by
  by_cases h1 : np ≤ 1048576
  · by_cases g0 : (m : Int) + tot p m ≤ 1048576
    · have h0 : m ≤ 1048576 := by omega
      have hn0 : ∀ i, i < m → (p i).n ≤ 1048576 := fun i hi => by have := tot_at p hi; omega
      have hge0 : ¬ ((1048576 : Int) - m - tot p m < 0) := by omega
      have HN0 := Lib.hid hn0
      have HV0 := Lib.hid hv0
      clear hn0 hk0 hv0
      go_enter Try.func3, Try.ntmps3
      go_wp2_with fail
      refine (szConstraintS_ok _ _ _ p _ _ (by omega) (by omega) g0 hr0).mono ?_
      rintro e w0 ⟨rfl, hb⟩
      have HB1 := Lib.hid hb
      have q1 := hb.size
      clear hb 
      go_wp2_with fail
      refine (toConstraintS_any _ _ _ p _ h0 HN0.out (hr0.later HB1.out)).mono ?_
      rintro e wa0 ⟨Ga0, rfl, hGa0, hoa0, hb⟩
      have HB2 := Lib.hid (bl_trans HB1.out hb)
      have q2 := hb.size
      have Oa0_0 := Lib.hid (hoa0)
      clear hb  HB1
      clear hoa0
      go_wp2_with fail
      refine (toIntS_any _ _ _ v _ h1 (hr1.later HB2.out)).mono ?_
      rintro e wa1 ⟨Ga1, rfl, hGa1, hoa1, hb⟩
      have HB3 := Lib.hid (bl_trans HB2.out hb)
      have q3 := hb.size
      have Oa0_1 := Lib.hid (Oa0_0.out.below hb)
      have Oa1_0 := Lib.hid (OwnI.toV hoa1)
      clear hb Oa0_0 HB2
      clear hoa1
      go_wp2_with fail
      refine (specProp_any _ _ _ _ _ _ p v _ h0 h1 HN0.out Oa0_1.out.rdAt Oa1_0.out.rdAt).mono ?_
      rintro e ws ⟨n, v1, r, Aw, capw, Tw, rfl, hfw, hb, a1, a0⟩
      have HB4 := Lib.hid (bl_trans HB3.out hb)
      have q4 := hb.size
      have FW_0 := Lib.hid (FrI.two hfw)
      clear hb Oa0_1 Oa1_0 HB3
      clear hfw
      have HA1 := Lib.hid a1
      have HA0 := Lib.hid a0
      clear a1 a0
      obtain ⟨ok, hok⟩ : ∃ ok, (probB m p && pvB np v) = ok := ⟨_, rfl⟩
      have HOK := Lib.hid hok
      rw [hok] at HA1 HA0 ⊢
      clear hok
      go_wp2_with fail
      refine (toConstraintS_any _ _ _ p _ h0 HN0.out (hr0.later HB4.out)).mono ?_
      rintro e wx0 ⟨Gx0, rfl, hGx0, hox0, hb⟩
      have HB5 := Lib.hid (bl_trans HB4.out hb)
      have q5 := hb.size
      have FW_1 := Lib.hid (FW_0.out.below hb)
      have Ox0_0 := Lib.hid (hox0)
      have HX_0 := Lib.hid (hox0.hd hGx0)
      clear hb FW_0 HB4
      have ltx0 := hox0.lt
      clear hox0
      go_wp2_with fail
      refine (toIntS_any _ _ _ v _ h1 (hr1.later HB5.out)).mono ?_
      rintro e wx1 ⟨Gx1, rfl, hGx1, hox1, hb⟩
      have HB6 := Lib.hid (bl_trans HB5.out hb)
      have q6 := hb.size
      have FW_2 := Lib.hid (FW_1.out.below hb)
      have Ox0_1 := Lib.hid (Ox0_0.out.below hb)
      have HX_1 := Lib.hid (HX_0.out.below hb)
      have Ox1_0 := Lib.hid (OwnI.toV hox1)
      have FX_0 := Lib.hid (FrI.two (lo := wx0.heap.size) (.inr ⟨Gx1, rfl, hGx1, OwnI.toV hox1⟩))
      clear hb FW_1 Ox0_0 HX_0 HB5
      clear hox1
      go_wp2_with fail
      refine (implProp_any _ _ _ _ _ _ p v _ h0 h1 HN0.out Ox0_1.out.rdAt FX_0.out.rdAt HV0.out).mono ?_
      rintro e wi ⟨n2, v2, r2, Ag, capg, Tg, rfl, hfg, hb, b1, b0⟩
      have HB7 := Lib.hid (bl_trans HB6.out hb)
      have q7 := hb.size
      have FW_3 := Lib.hid (FW_2.out.below hb)
      have Ox0_2 := Lib.hid (Ox0_1.out.below hb)
      have HX_2 := Lib.hid (HX_1.out.below hb)
      have Ox1_1 := Lib.hid (Ox1_0.out.below hb)
      have FX_1 := Lib.hid (FX_0.out.below hb)
      have FG0_0 := Lib.hid (FrI.two hfg)
      clear hb FW_2 Ox0_1 HX_1 Ox1_0 FX_0 HB6
      clear hfg
      rw [HOK.out] at b1 b0 ⊢
      obtain ⟨e1, e2, e3, hn12⟩ := pres_two HA1.out HA0.out b1 b0
      subst e1
      subst e2
      have FG_0 := Lib.hid (FrI.two (fri_as FG0_0.out.one e3))
      clear FG0_0 b1 b0 e3
      have h12 : n2 ≤ 1048576 := by omega
      go_wp2_with fail
      refine (eqIntS_refl _ _ _ _ _ v1 _ h12 FG_0.out.rdAt FW_3.out.rdAt).mono ?_
      rintro e wq1 ⟨rfl, hb⟩
      have HB8 := Lib.hid (bl_trans HB7.out hb)
      have q8 := hb.size
      have FW_4 := Lib.hid (FW_3.out.below hb)
      have Ox0_3 := Lib.hid (Ox0_2.out.below hb)
      have HX_3 := Lib.hid (HX_2.out.below hb)
      have Ox1_2 := Lib.hid (Ox1_1.out.below hb)
      have FX_2 := Lib.hid (FX_1.out.below hb)
      have FG_1 := Lib.hid (FG_0.out.below hb)
      clear hb FW_3 Ox0_2 HX_2 Ox1_1 FX_1 FG_0 HB7
      go_wp2_with fail
      refine (toConstraintS_any _ _ _ p _ h0 HN0.out (hr0.later HB8.out)).mono ?_
      rintro e wy0 ⟨Gy0, rfl, hGy0, hoy0, hb⟩
      have HB9 := Lib.hid (bl_trans HB8.out hb)
      have q9 := hb.size
      have FW_5 := Lib.hid (FW_4.out.below hb)
      have Ox0_4 := Lib.hid (Ox0_3.out.below hb)
      have HX_4 := Lib.hid (HX_3.out.below hb)
      have Ox1_3 := Lib.hid (Ox1_2.out.below hb)
      have FX_3 := Lib.hid (FX_2.out.below hb)
      have FG_2 := Lib.hid (FG_1.out.below hb)
      have Oy0_0 := Lib.hid (hoy0)
      clear hb FW_4 Ox0_3 HX_3 Ox1_2 FX_2 FG_1 HB8
      clear hoy0
      go_wp2_with fail
      refine (eqConstraintS_refl _ _ _ _ _ p _ h0 HN0.out Ox0_4.out.rdAt Oy0_0.out.rdAt).mono ?_
      rintro e wq2 ⟨rfl, hb⟩
      have HB10 := Lib.hid (bl_trans HB9.out hb)
      have q10 := hb.size
      have FW_6 := Lib.hid (FW_5.out.below hb)
      have HX_5 := Lib.hid (HX_4.out.below hb)
      have Ox1_4 := Lib.hid (Ox1_3.out.below hb)
      have FX_4 := Lib.hid (FX_3.out.below hb)
      have FG_3 := Lib.hid (FG_2.out.below hb)
      clear hb FW_5 Ox0_4 HX_4 Ox1_3 FX_3 FG_2 Oy0_0 HB9
      go_wp2_with fail
      refine (toIntS_any _ _ _ v _ h1 (hr1.later HB10.out)).mono ?_
      rintro e wy1 ⟨Gy1, rfl, hGy1, hoy1, hb⟩
      have HB11 := Lib.hid (bl_trans HB10.out hb)
      have q11 := hb.size
      have FW_7 := Lib.hid (FW_6.out.below hb)
      have HX_6 := Lib.hid (HX_5.out.below hb)
      have Ox1_5 := Lib.hid (Ox1_4.out.below hb)
      have FX_5 := Lib.hid (FX_4.out.below hb)
      have FG_4 := Lib.hid (FG_3.out.below hb)
      have Oy1_0 := Lib.hid (OwnI.toV hoy1)
      clear hb FW_6 HX_5 Ox1_4 FX_4 FG_3 HB10
      clear hoy1
      go_wp2_with fail
      refine (eqIntS_refl _ _ _ _ _ v _ h1 FX_5.out.rdAt Oy1_0.out.rdAt).mono ?_
      rintro e wq3 ⟨rfl, hb⟩
      have HB12 := Lib.hid (bl_trans HB11.out hb)
      have q12 := hb.size
      have FW_8 := Lib.hid (FW_7.out.below hb)
      have HX_7 := Lib.hid (HX_6.out.below hb)
      have FX_6 := Lib.hid (FX_5.out.below hb)
      have FG_5 := Lib.hid (FG_4.out.below hb)
      clear hb FW_7 HX_6 Ox1_5 FX_5 FG_4 Oy1_0 HB11
      go_wp2_with fail
      refine (markConstraintS_any ws.heap.size wx0.heap.size Gx0 _ _ p 1 _ g0 (by omega) (by omega) (by omega) ltx0 HX_7.out).mono ?_
      rintro e wm1 ⟨rfl, hor, hsh⟩
      have HB13 := Lib.hid (hor.below HB12.out (by omega))
      have q13 := hor.size
      have FW_9 := Lib.hid (FW_8.out.onlyR hor (.inl (by omega)))
      have FX_7 := Lib.hid (FX_6.out.onlyR hor (.inr (by omega)))
      have FG_6 := Lib.hid (FG_5.out.onlyR hor (.inr (by omega)))
      clear hor FW_8 HX_7 FX_6 FG_5 HB12
      clear hsh
      go_wp2_with fail
      refine (markIntS_any _ _ _ _ v (1 + (m : Int) + 2 * (tot p m : Int)) _ h1 (by omega) (by omega) FX_7.out.one).mono ?_
      rintro e wm2 ⟨rfl, hfm, ho⟩
      have HB14 := Lib.hid (ho.belI FX_7.out HB13.out (by omega))
      have q14 := ho.size
      have FW_10 := Lib.hid (FW_9.out.only ho (FX_7.out.apart (.inr (by omega))))
      have FG_7 := Lib.hid (FG_6.out.only ho (FX_7.out.apart (.inl (by omega))))
      clear ho hfm FW_9 FG_6 FX_7 HB13
      have hk1 : ¬ ((1 : Int) + (m : Int) + 2 * (tot p m : Int) + (np : Int) < 0) := by omega
      go_wp2_with fail
      refine (eqIntS_refl _ _ _ _ _ v1 _ h12 FG_7.out.rdAt FW_10.out.rdAt).mono ?_
      rintro e wq4 ⟨rfl, hb⟩
      have HB15 := Lib.hid (bl_trans HB14.out hb)
      have q15 := hb.size
      have FW_11 := Lib.hid (FW_10.out.below hb)
      have FG_8 := Lib.hid (FG_7.out.below hb)
      clear hb FW_10 FG_7 HB14
      clear hk1
      go_wp2_with fail
      refine (markIntS_any _ _ _ _ v1 (1) _ h12 (by omega) (by omega) FG_8.out.one).mono ?_
      rintro e wm3 ⟨rfl, hfm, ho⟩
      have HB16 := Lib.hid (ho.belI FG_8.out HB15.out (by omega))
      have q16 := ho.size
      have FW_12 := Lib.hid (FW_11.out.only ho (FG_8.out.apart (.inr (by omega))))
      have FM_0 := Lib.hid hfm
      clear ho hfm FW_11 FG_8 HB15
      go_wp2_with fail
      refine (heldIntS_any _ _ _ _ 1 _ h12 (by omega) (by omega) FM_0.out).mono ?_
      rintro e wh1 ⟨rfl, hwwh1⟩
      subst hwwh1
      have hk2 : ¬ ((1 : Int) + (n2 : Int) < 0) := by omega
      go_wp2_with fail
      refine (toConstraintS_any _ _ _ p _ h0 HN0.out (hr0.later HB16.out)).mono ?_
      rintro e wz0 ⟨Gz0, rfl, hGz0, hoz0, hb⟩
      have HB17 := Lib.hid (bl_trans HB16.out hb)
      have q17 := hb.size
      have FW_13 := Lib.hid (FW_12.out.below hb)
      have FM_1 := Lib.hid (FM_0.out.below hb)
      have Oz0_0 := Lib.hid (hoz0)
      clear hb FW_12 FM_0 HB16
      clear hoz0
      go_wp2_with fail
      refine (toIntS_any _ _ _ v _ h1 (hr1.later HB17.out)).mono ?_
      rintro e wz1 ⟨Gz1, rfl, hGz1, hoz1, hb⟩
      have HB18 := Lib.hid (bl_trans HB17.out hb)
      have q18 := hb.size
      have FW_14 := Lib.hid (FW_13.out.below hb)
      have FM_2 := Lib.hid (FM_1.out.below hb)
      have Oz0_1 := Lib.hid (Oz0_0.out.below hb)
      have Oz1_0 := Lib.hid (OwnI.toV hoz1)
      clear hb FW_13 FM_1 Oz0_0 HB17
      clear hoz1
      go_wp2_with fail
      refine (implProp_any _ _ _ _ _ _ p v _ h0 h1 HN0.out Oz0_1.out.rdAt Oz1_0.out.rdAt HV0.out).mono ?_
      rintro e wj ⟨n3, v3, r3, Ah, caph, Th, rfl, hfh, hb, b1, b0⟩
      have HB19 := Lib.hid (bl_trans HB18.out hb)
      have q19 := hb.size
      have FW_15 := Lib.hid (FW_14.out.below hb)
      have FM_3 := Lib.hid (FM_2.out.below hb)
      clear hb FW_14 FM_2 Oz0_1 Oz1_0 HB18
      rw [HOK.out] at b1 b0 ⊢
      obtain ⟨e1, e2, e3, _⟩ := pres_two HA1.out HA0.out b1 b0
      subst e1
      subst e2
      have FH_0 := Lib.hid (FrI.two (fri_as hfh e3))
      clear hfh b1 b0 e3
      go_wp2_with fail
      refine (eqIntS_refl _ _ _ _ _ v1 _ h12 FH_0.out.rdAt FW_15.out.rdAt).mono ?_
      rintro e wq5 ⟨rfl, hb⟩
      have HB20 := Lib.hid (bl_trans HB19.out hb)
      have q20 := hb.size
      have FM_4 := Lib.hid (FM_3.out.below hb)
      clear hb FW_15 FM_3 FH_0 HB19
      go_wp2_with fail
      refine (heldIntS_any _ _ _ _ 1 _ h12 (by omega) (by omega) FM_4.out).mono ?_
      rintro e wh2 ⟨rfl, hwwh2⟩
      subst hwwh2
      go_wp2
      go_ret
      exact ⟨rfl, HB20.out⟩
    · have HM := Lib.hid hk0
      clear hk0 hv0
      go_enter Try.func3, Try.ntmps3
      go_wp2_with fail
      refine (szConstraintS_no _ _ _ p _ _ (by omega) (by omega) (by omega) hm0 HM.out hr0).mono ?_
      rintro e w0 ⟨rfl, hb⟩
      have HB := Lib.hid hb
      clear hb
      go_wp2
      go_ret
      exact ⟨rfl, HB.out⟩
  · unfold maxLen at hm1
    clear hv0
    go_enter Try.func3, Try.ntmps3
    go_wp2
    go_ret
    exact ⟨rfl, Below.refl _ _⟩

theorem lawPropagate_walk (A0 : Option Addr) (m cap0 : Nat) (p : Nat → Con) (A1 : Option Addr) (np cap1 : Nat) (v : Nat → Int) (w : World) (hm0 : m ≤ maxLen) (hk0 : ∀ i, i < m → (p i).n ≤ maxLen) (hr0 : RdP w w.heap.size A0 m p) (hm1 : np ≤ maxLen) (hr1 : RdI w w.heap.size A1 np v) :
    Calls Try.prog 3 #[.slice A0 m cap0, .slice A1 np cap1] w fun e w' => e = .returned (.bool true) ∧ Below w.heap.size w w' :=
  lawProp_ok A0 m cap0 p A1 np cap1 (fun i => if i < np then v i else 0) w hm0 hk0 hr0 hm1 (fun h => by
    obtain ⟨b, off, e, hl, hc⟩ := hr1 h
    exact ⟨b, off, e, hl, fun i hi => by simp only [if_pos hi]; exact hc i hi⟩) (fun e i hi => by simp only [if_neg (show ¬ i < np by omega)])
end Go.Proofs.Ytooknldfkcdneaa
