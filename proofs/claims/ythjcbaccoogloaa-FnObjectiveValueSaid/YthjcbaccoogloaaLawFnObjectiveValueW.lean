/- The walk of the law FnObjectiveValue (no claim of its own). Conditions: as each theorem states. -/
import Derived.Test.YthjcbaccoogloaaDmlL
import Derived.Test.YthjcbaccoogloaaOviA
import Derived.Test.YthjcbaccoogloaaAxA
import Derived.Deep.RegionLaw
namespace Go.Proofs.Ythjcbaccoogloaa
open Go.ChangeShapes Go.WideShapes Go.ChangeAt Go.RowKit

theorem rd_zero (w : World) (n B : Nat) (hB : w.heap.size < B) : RdI (w.alloc (.cells (madeCells #[.int .i64 0] n) 3)) B (some ⟨w.heap.size, 0, none⟩) n (fun _ => 0) := fun hn => ⟨w.heap.size, 0, rfl, hB, fun i hi => by
  rw [Nat.zero_add]
  have h := heap_alloc_new w (.cells (madeCells #[.int .i64 0] n) 3)
  unfold World.cell?
  simp only [h]
  show (madeCells #[Value.int .i64 0] n)[i]? = _
  rw [← Array.getElem?_toList, toList_madeCells_one, List.getElem?_replicate, if_pos hi]⟩
theorem neg_co {s co : Lst} (h : coB s co = true) : coB s ⟨co.n, fun i => -co.x i⟩ = true := by
  obtain ⟨h1, h2⟩ := co_bd h
  unfold coB
  rw [Bool.and_eq_true, beq_iff_eq]
  refine ⟨h1, prE_iff.2 fun i hi => ?_⟩
  have := h2 i hi
  show betB (-9) 9 (-co.x i) = true
  simp [betB]
  omega
theorem lin_neg' {a p : Nat → Int} (k : Nat) : linS (fun i => -a i) p k = -linS a p k := by
  induction k with
  | zero => rfl
  | succ k ih =>
    show linS (fun i => -a i) p k + -a k * p k = -(linS a p k + a k * p k)
    rw [ih, Int.neg_mul]; omega
theorem lin_zero {a : Nat → Int} (k : Nat) : linS a (fun _ => 0) k = 0 := by
  induction k with
  | zero => rfl
  | succ k ih =>
    show linS a (fun _ => 0) k + a k * 0 = 0
    rw [ih, Int.mul_zero]; rfl
theorem zero_cv {s : Lst} {n : Nat} {q : Nat → Rul} {c : Lst} (h : cvB s n q c = true) : cvB s n q ⟨c.n, fun _ => 0⟩ = true := by
  have h5 := cv_ok h
  unfold cvB at h ⊢
  rw [Bool.and_eq_true] at h ⊢
  refine ⟨h.1, ?_⟩
  unfold celsB
  rw [Bool.and_eq_true, beq_iff_eq]
  refine ⟨h5.len, prE_iff.2 fun i hi => ?_⟩
  have := size_at h5.sizes hi
  simp [betB]
  omega
theorem ov_all {s : Lst} {n : Nat} {q : Nat → Rul} {c co : Lst} (h : ovB s n q c co = true) : ovB s n q c ⟨co.n, fun i => -co.x i⟩ = true ∧ ovI s n q c ⟨co.n, fun i => -co.x i⟩ = -ovI s n q c co ∧ ovB s n q ⟨c.n, fun _ => 0⟩ co = true ∧ ovI s n q ⟨c.n, fun _ => 0⟩ co = 0 ∧ (-200 ≤ ovI s n q c co ∧ ovI s n q c co ≤ 200) ∧ (∀ i, i < co.n → -9 ≤ co.x i ∧ co.x i ≤ 9) := by
  have h0 := h
  unfold ovB at h
  rw [Bool.and_eq_true] at h
  have h5 := cv_ok h.1
  obtain ⟨e1, e2⟩ := co_bd h.2
  have a1 : ovB s n q c ⟨co.n, fun i => -co.x i⟩ = true := by unfold ovB; rw [h.1, neg_co h.2]; rfl
  have a2 : ovB s n q ⟨c.n, fun _ => 0⟩ co = true := by unfold ovB; rw [zero_cv h.1, h.2]; rfl
  refine ⟨a1, ?_, a2, ?_, ?_, e2⟩
  · unfold ovI; rw [a1, h0]
    show linS (fun i => -co.x i) c.x co.n = -linS co.x c.x co.n
    exact lin_neg' _
  · unfold ovI; rw [a2]
    show linS co.x (fun _ => 0) co.n = 0
    exact lin_zero _
  · unfold ovI; rw [h0]
    show -200 ≤ linS co.x c.x co.n ∧ linS co.x c.x co.n ≤ 200
    exact lin_upto (Nat.le_refl _) (by have := h5.five; omega) e2 (fun i hi => h5.cel i (by omega))

set_option linter.unusedSimpArgs false in
set_option linter.unusedVariables false in
set_option maxRecDepth 100000 in
set_option maxHeartbeats 6400000 in
theorem lawFnObjectiveValue_ok (A0 : Option Addr) (n0 cap0 : Nat) (y0 : Nat → Int) (w : World) (h0 : n0 ≤ 1048576) (hc0 : n0 ≤ cap0) (hr0 : RdY w w.heap.size A0 n0 y0) :
    Calls Try.prog 10 #[.slice A0 n0 cap0] w fun e w' => e = .returned (.bool true) ∧ Below w.heap.size w w' := by
  have hm0 : n0 ≤ maxLen := by unfold maxLen; omega
  have hi0 : ¬ (1048576 : Int) < (n0 : Int) := by omega
  go_enter Try.func10, Try.ntmps10
  go_wp2_with fail
  refine (drawObj_any _ _ _ y0 _ hm0 hc0 hr0).mono ?_
  rintro e w1 ⟨As, cs, Ar, cr, sn, n, Bc, kb, cb, Ac, kc, cc, rfl, hmt, hkb, htb, hkc, htc⟩
  obtain ⟨s, q, rfl, hm⟩ := hmt.rd
  obtain ⟨A', c', v, e, hv⟩ := htc.rd
  cases e
  obtain ⟨A', c', v2, e, hv2⟩ := htb.rd
  cases e
  obtain ⟨c, rfl, hc⟩ : ∃ c : Lst, c.n = kc ∧ RdI w1 w1.heap.size Ac c.n c.x := ⟨⟨kc, v⟩, rfl, hv⟩
  obtain ⟨co, rfl, ho⟩ : ∃ c : Lst, c.n = kb ∧ RdI w1 w1.heap.size Bc c.n c.x := ⟨⟨kb, v2⟩, rfl, hv2⟩
  have p1 : s.n ≤ 1048576 := by have := hm.hs; omega
  have p2 : co.n ≤ 1048576 := by omega
  have p5 : c.n ≤ 1048576 := by omega
  have p3 : n ≤ 1048576 := by have := hm.hn; omega
  have p4 := Lib.hid (fun i hi => Rul.fit_more (hm.fit i hi) (show 22 ≤ 1048576 by omega))
  have HB := Lib.hid hm.bl
  have HM := Lib.hid hm
  have HC := Lib.hid hc
  have HO := Lib.hid ho
  clear hmt htc htb hm hc ho hv hv2
  go_wp2_with fail
  have hal := bl_alloc (Below.refl w1.heap.size w1) (.cells #[.slice As s.n cs, .slice Ar n cr] 26)
  have x0 : (w1.alloc (.cells #[.slice As s.n cs, .slice Ar n cr] 26)).cell? ⟨w1.heap.size, 0, none⟩ = some (.slice As s.n cs) := by go_simp
  have x1 : (w1.alloc (.cells #[.slice As s.n cs, .slice Ar n cr] 26)).cell? ⟨w1.heap.size, 1, none⟩ = some (.slice Ar n cr) := by go_simp
  have HB' := Lib.hid (bl_trans HB.out hal)
  have HM' := Lib.hid (HM.out.later hal)
  have HC' := Lib.hid (HC.out.later hal)
  have HO' := Lib.hid (HO.out.later hal)
  clear hal HB HM HC HO
  have HB := HB'
  clear HB'
  have HM := HM'
  clear HM'
  have HC := HC'
  clear HC'
  have HO := HO'
  clear HO'
  generalize (w1.alloc (.cells #[.slice As s.n cs, .slice Ar n cr] 26)) = w2 at *
  obtain ⟨X, hX⟩ : ∃ X, w1.heap.size = X := ⟨_, rfl⟩
  rw [hX] at x0 x1 ⊢
  clear hX
  refine (implOV_any s c co n q As Ar Ac Bc cs cr cc cb _ p1 p2 p5 p3 p4.out HM.out.rs HM.out.rr HC.out HO.out).mono ?_
  rintro e w3 ⟨rfl, hb⟩
  have HB' := Lib.hid (bl_trans HB.out hb)
  have HM' := Lib.hid (HM.out.later hb)
  have HC' := Lib.hid (HC.out.later hb)
  have HO' := Lib.hid (HO.out.later hb)
  replace x0 := kc hb x0
  replace x1 := kc hb x1
  clear hb HB HM HC HO
  have HB := HB'
  clear HB'
  have HM := HM'
  clear HM'
  have HC := HC'
  clear HC'
  have HO := HO'
  clear HO'
  have HALL := Lib.hid (fun h => ov_all (s := s) (n := n) (q := q) (c := c) (co := co) h)
  obtain ⟨N, hN⟩ : ∃ N, ovI s n q c co = N := ⟨_, rfl⟩
  obtain ⟨b, hb⟩ : ∃ b, ovB s n q c co = b := ⟨_, rfl⟩
  have HN := Lib.hid hN
  have HV := Lib.hid hb
  rw [hN, hb] at HALL ⊢
  clear hN hb
  go_wp2_with fail
  refine (specOV_any s c co n q As Ar Ac Bc cs cr cc cb _ p1 p2 p5 p3 p4.out HM.out.rs HM.out.rr HC.out HO.out).mono ?_
  rintro e w4 ⟨rfl, hb⟩
  rw [HN.out, HV.out]
  have HB' := Lib.hid (bl_trans HB.out hb)
  have HM' := Lib.hid (HM.out.later hb)
  have HC' := Lib.hid (HC.out.later hb)
  have HO' := Lib.hid (HO.out.later hb)
  replace x0 := kc hb x0
  replace x1 := kc hb x1
  clear hb HB HM HC HO
  have HB := HB'
  clear HB'
  have HM := HM'
  clear HM'
  have HC := HC'
  clear HC'
  have HO := HO'
  clear HO'
  cases b with
  | false =>
    clear HALL
    go_wp2
    go_ret
    exact ⟨rfl, HB.out⟩
  | true =>
    obtain ⟨a1, a2, a3, a4, a5, a6⟩ := HALL.out rfl
    have A1 := Lib.hid a1
    have A2 := Lib.hid a2
    have A3 := Lib.hid a3
    have A4 := Lib.hid a4
    have A6 := Lib.hid a6
    clear a1 a2 a3 a4 a6 HALL
    have hal := bl_alloc (Below.refl w4.heap.size w4) (.cells #[] 3)
    have OX0 := Lib.hid (show OX (w4.alloc (.cells #[] 3)) w4.heap.size (.slice (some ⟨w4.heap.size, 0, none⟩) 0 0) 0 (fun k => -co.x k) from ⟨by simp [vlst], .inr ⟨w4.heap.size, 0, #[], rfl, Nat.le_refl _, heap_alloc_new w4 _, Nat.le_refl _, by unfold maxLen; omega, rfl, rfl⟩⟩)
    have HAl := Lib.hid hal
    clear hal
    go_wp2
    generalize (w4.alloc (.cells #[] 3)) = w5 at *
    obtain ⟨lo, hlo⟩ : ∃ lo, w4.heap.size = lo := ⟨_, rfl⟩
    rw [hlo] at OX0 ⊢
    go_loopw [10, 11] (fun t i wr => ∃ j : Nat, j ≤ co.n ∧ i = .int .i64 j ∧ OX wr lo t j (fun k => -co.x k) ∧ Below w4.heap.size w4 wr) (fun _ i _ => co.n - (intOf i).toNat)
    case atStart => exact ⟨0, Nat.zero_le _, rfl, OX0.out, HAl.out⟩
    case round =>
      obtain ⟨j, hj, rfl, hox, hb⟩ := hrel
      have OXk := Lib.hid hox
      have HBk := Lib.hid hb
      obtain ⟨Ak, ck, rfl⟩ := hox.head
      clear hox hb OX0 HAl
      have hls : lo ≤ wr.heap.size := by rw [← hlo]; exact HBk.out.size
      by_cases hlt : j < co.n
      · have hltI : (j : Int) < (co.n : Int) := by omega
        have hj0 : (0 : Int) ≤ (j : Int) := by omega
        obtain ⟨bo, oo, eO, hbo, hxo⟩ := (HO.out.later HBk.out) (by omega)
        subst eO
        have qx := hxo j hlt
        clear hxo
        have hzb := A6.out j hlt
        obtain ⟨z, hz⟩ : ∃ z, co.x j = z := ⟨_, rfl⟩
        have HZ := Lib.hid hz
        rw [hz] at qx hzb
        clear hz
        have hwz : IntKind.i64.wrap (-z) = -z := IntWalk.i64_in _ (by omega)
        have hwz2 : wrap64 (-z) = -z := IntWalk.wrap64_in _ (by omega)
        have HA2 := Lib.hid (bl_alloc (Below.refl wr.heap.size wr) (.cells #[.int .i64 (-z)] 3))
        have hs2 := HA2.out.size
        go_wp2_with (at_builtin; refine wpList_plain (by rfl) fun K' hK' => ?_; refine wp_ox1 (k := j) (v := fun k => -co.x k) _ _ (by rfl) (OXk.out.kept (gb_of HA2.out) (fun _ e => by cases e)) (by omega) (by rfl) (by rfl) (by rw [← HZ.out]) (heap_alloc_new _ _) (by omega) ?_; intro g' c' w7 hox hgr; have OX7 := Lib.hid hox; have HB7 := Lib.hid ((bl_trans HBk.out HA2.out).grown hgr (by have := (bl_trans HBk.out HA2.out).size; exact this) (fun b e => by have := (World.ownsRow.lt OXk.out b e).1; omega)); clear hox hgr; refine hK' _ _ ?_; clear hK' K')
        go_roundw
        case rel => exact ⟨j + 1, by omega, by go_num, OX7.out, HB7.out⟩
        case measure => simp [intOf]; omega
      · obtain rfl : j = co.n := by omega
        have HR9 := Lib.hid OXk.out.rd
        replace x0 := kc HBk.out x0
        replace x1 := kc HBk.out x1
        have HM' := Lib.hid (HM.out.later HBk.out)
        have HC' := Lib.hid (HC.out.later HBk.out)
        have HO' := Lib.hid (HO.out.later HBk.out)
        have HB' := Lib.hid (bl_trans HB.out HBk.out)
        clear HM HC HO HB HBk OXk hls hlo
        have HM := HM'
        clear HM'
        have HC := HC'
        clear HC'
        have HO := HO'
        clear HO'
        have HB := HB'
        clear HB'
        go_wp2_with fail
        refine (implOV_any s c ⟨co.n, fun k => -co.x k⟩ n q As Ar Ac Ak cs cr cc ck _ p1 p2 p5 p3 p4.out HM.out.rs HM.out.rr HC.out HR9.out).mono ?_
        rintro e w6 ⟨rfl, hb⟩
        rw [A1.out, A2.out]
        clear HR9
        have HB' := Lib.hid (bl_trans HB.out hb)
        have HM' := Lib.hid (HM.out.later hb)
        have HC' := Lib.hid (HC.out.later hb)
        have HO' := Lib.hid (HO.out.later hb)
        replace x0 := kc hb x0
        replace x1 := kc hb x1
        clear hb HB HM HC HO
        have HB := HB'
        clear HB'
        have HM := HM'
        clear HM'
        have HC := HC'
        clear HC'
        have HO := HO'
        clear HO'
        go_upto_region 14 with fail
        have x0l := kc (bl_alloc (Below.refl w6.heap.size w6) (.cells (madeCells #[.int .i64 0] c.n) 3)) x0
        have x1l := kc (bl_alloc (Below.refl w6.heap.size w6) (.cells (madeCells #[.int .i64 0] c.n) 3)) x1
        have hcI : (c.n : Int) ≤ 11 := by omega
        have hc0' : (0 : Int) ≤ (c.n : Int) := by omega
        have HAz := Lib.hid (bl_alloc ((Below.refl w6.heap.size w6).drew) (.cells (madeCells #[.int .i64 0] c.n) 3))
        have HZR := Lib.hid (rd_zero w6.drew c.n (w6.drew.alloc (.cells (madeCells #[.int .i64 0] c.n) 3)).heap.size (by simp))
        have HWN : IntKind.i64.wrap (-N) = -N := IntWalk.i64_in _ (by omega)
        have HWN2 : wrap64 (-N) = -N := IntWalk.wrap64_in _ (by omega)
        obtain ⟨i0, hi9, hz0, hz1, hz2⟩ := info_parts Try.infoInt
        have hmk := fun W => run_make (P := Try.prog) W 23 3 i0 _ Try.underlying23 hi9 hz0 .i64 .i64 (c.n : Int) c.n (by omega) (by omega) (by rw [hz2]; omega) (by omega)
        rw [hz1] at hmk
        clear hi9 hz0 hz1 hz2
        go_region_law (first
            | (go_simp; go_at_call 37; refine (implOV_any s ⟨c.n, fun _ => 0⟩ co n q As Ar _ Bc cs cr _ cb _ p1 p2 p5 p3 p4.out (HM.out.rs.later HAz.out) (HM.out.rr.later HAz.out) HZR.out (HO.out.later HAz.out)).mono ?_; rintro e w8 ⟨rfl, hb⟩; rw [A3.out, A4.out]; have HB8 := Lib.hid (bl_trans (bl_trans HB.out HAz.out) hb); clear hb))
        all_goals
          go_wp2
          go_ret
          exact ⟨rfl, HB8.out⟩

set_option linter.unusedSimpArgs false in
set_option linter.unusedVariables false in
set_option maxRecDepth 100000 in
set_option maxHeartbeats 6400000 in
theorem lawFnObjectiveValue_walk (A0 : Option Addr) (n0 cap0 : Nat) (y0 : Nat → Int) (w : World) (hm0 : n0 ≤ maxLen) (hc0 : n0 ≤ cap0) (hr0 : RdY w w.heap.size A0 n0 y0) :
    Calls Try.prog 10 #[.slice A0 n0 cap0] w fun e w' => e = .returned (.bool true) ∧ Below w.heap.size w w' := by
  by_cases h0 : n0 ≤ 1048576
  · exact lawFnObjectiveValue_ok A0 n0 cap0 y0 w h0 hc0 hr0
  · unfold maxLen at hm0
    have hi0 : (1048576 : Int) < (n0 : Int) := by omega
    go_enter Try.func10, Try.ntmps10
    go_wp2
    go_ret
    exact ⟨rfl, Below.refl _ _⟩
end Go.Proofs.Ythjcbaccoogloaa
