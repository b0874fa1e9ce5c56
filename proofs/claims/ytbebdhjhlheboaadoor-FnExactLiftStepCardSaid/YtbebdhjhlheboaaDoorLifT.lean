/- LiftStep: the reference (no claim of its own). Conditions: as each theorem states. -/
import Derived.Test.YtbebdhjhlheboaaDoorLifS
namespace Go.Proofs.YtbebdhjhlheboaaDoor
open Go.ChangeShapes Go.WideShapes Go.ChangeAt Go.RowKit

theorem lif_clN {m n : Nat} {x l : Nat → Int} : clN (n + m) (lifG n l x) = clN (m + n) (lifF m x l) := by
  unfold clN
  rw [lif_clB]
  cases h : clB (m + n) (lifF m x l) with
  | false => rfl
  | true => rw [lif_clF h]
theorem lif_clD {m n : Nat} {x l : Nat → Int} : clD (n + m) (lifG n l x) = clD (m + n) (lifF m x l) := by
  unfold clD
  rw [lif_clB]
theorem kcB {B : Nat} {W w1 : World} (hb : Below B W w1) {p : Addr} {v : Value} (hp : p.block < B) (h : W.cell? p = some v) : w1.cell? p = some v := (hb.cell hp).trans h
theorem kfB {B : Nat} {W w1 : World} (hb : Below B W w1) {p : Addr} (hp : p.block < B) (h : W.frozen? p = false) : w1.frozen? p = false := (hb.frozen hp).trans h

set_option maxRecDepth 100000 in
set_option maxHeartbeats 3200000 in
theorem l12Lift_any (A Ax : Option Addr) (n cap m capx : Nat) (k a b bd : Int) (c l x : Nat → Int) (w : World) (hn : n ≤ 1048576) (hr : Rd w w.heap.size A n c l) (hx : RdI w w.heap.size Ax m x) (hq : cubeB m x = true) :
    Calls Tryd.prog 22 #[.agg #[.int .i64 k, .int .i64 a, .int .i64 b, .slice A n cap, .int .i64 bd], .slice Ax m capx] w (LRes w (lifB k a b n c l bd m x) (lifN k a b n c l bd m x) (lifL n l m x)) := by
  have HA := Lib.hid (bl_alloc (bl_alloc (Below.refl w.heap.size w) (.cells #[.int .i64 k, .int .i64 a, .int .i64 b, .slice A n cap, .int .i64 bd] 33)) (.cells #[.int .i64 0, .int .i64 0, .int .i64 0, .slice none 0 0, .int .i64 0] 33))
  have HR0 := Lib.hid (hr.later HA.out)
  have HX := Lib.hid hx
  have HQ := Lib.hid hq
  have hm4 := cube_small hq
  have HLi := Lib.hid (cube_lits hq)
  clear hr hx hq
  go_enter Tryd.func22, Tryd.ntmps22
  go_wp2_with fail
  refine (l12Clause_any A n cap bd c l _ hn HR0.out).mono ?_
  rintro e w1 ⟨A1, N1, cap1, rfl, hrow, hb⟩
  rw [World.size_alloc, World.size_alloc] at hrow
  have HRow := Lib.hid hrow
  clear hrow
  have k0 : w1.cell? ⟨w.heap.size, 0, none⟩ = some (.int .i64 k) := kc hb (by go_simp)
  have k1 : w1.cell? ⟨w.heap.size, 1, none⟩ = some (.int .i64 a) := kc hb (by go_simp)
  have k2 : w1.cell? ⟨w.heap.size, 2, none⟩ = some (.int .i64 b) := kc hb (by go_simp)
  have r0 : w1.cell? ⟨w.heap.size + 1, 0, none⟩ = some (.int .i64 0) := kc hb (by go_simp)
  have r1 : w1.cell? ⟨w.heap.size + 1, 1, none⟩ = some (.int .i64 0) := kc hb (by go_simp)
  have r2 : w1.cell? ⟨w.heap.size + 1, 2, none⟩ = some (.int .i64 0) := kc hb (by go_simp)
  have r3 : w1.cell? ⟨w.heap.size + 1, 3, none⟩ = some (.slice none 0 0) := kc hb (by go_simp)
  have r4 : w1.cell? ⟨w.heap.size + 1, 4, none⟩ = some (.int .i64 0) := kc hb (by go_simp)
  have f0 : w1.frozen? ⟨w.heap.size + 1, 0, none⟩ = false := kf hb (by simp) (by go_simp)
  have f1 : w1.frozen? ⟨w.heap.size + 1, 1, none⟩ = false := kf hb (by simp) (by go_simp)
  have f2 : w1.frozen? ⟨w.heap.size + 1, 2, none⟩ = false := kf hb (by simp) (by go_simp)
  have f3 : w1.frozen? ⟨w.heap.size + 1, 3, none⟩ = false := kf hb (by simp) (by go_simp)
  have f4 : w1.frozen? ⟨w.heap.size + 1, 4, none⟩ = false := kf hb (by simp) (by go_simp)
  have q1 : w.heap.size + 1 < w1.heap.size := World.block_lt_of_cell? w1 _ r0
  have HB1 := Lib.hid (bl_trans HA.out hb)
  clear hb HR0 HA
  by_cases hk : k = 7
  · subst hk
    by_cases ha : a = 0
    · subst ha
      by_cases hbz : b = 0
      · subst hbz
        cases hc : clauB n c l bd with
        | false =>
          have HF := Lib.hid (show lifB 7 0 0 n c l bd m x = false by unfold lifB; rw [hc]; rfl)
          clear hc HRow
          go_wp2
          refine bodyPost_ret (v := .tuple #[.agg #[.int .i64 0, .int .i64 0, .int .i64 0, .slice none 0 0, .int .i64 0], .bool false]) (by simp [results, Tryd.results22, go_sem, r0, r1, r2, r3, r4]) rfl ?_
          exact lif_no HF.out (by repeat (first | exact HB1.out | refine Below.setCell ?_ (by simp) _))
        | true =>
          have hn12 := clau_small hc
          have HC := Lib.hid hc
          have HE := Lib.hid (show lifB 7 0 0 n c l bd m x = clB (m + n) (lifF m x l) by unfold lifB; rw [HC.out, HQ.out]; rfl)
          have HO1 := Lib.hid (show w1.ownsRow (w.heap.size + 3) 3 1 (.slice A1 N1 cap1) n ((vlst (lifG n l x) n).map (Value.int .i64)) from by rw [vlst_cg (f := lifG n l x) (g := l) n fun i hi => if_pos hi]; exact HRow.out hc)
          obtain ⟨A1', c1', e1'⟩ := row_shapeL HO1.out
          clear hc HRow
          go_wp2
          go_loopw [6, 8] (fun o i wr => ∃ (j : Nat) (ov : Value), ov = o ∧ j ≤ m ∧ i = .int .i64 j ∧ wr.ownsRow (w.heap.size + 3) 3 1 ov (n + j) ((vlst (lifG n l x) (n + j)).map (Value.int .i64)) ∧ Below (w.heap.size + 2) w1 wr) (fun _ i _ => m - (intOf i).toNat)
          case atStart => exact ⟨0, _, rfl, Nat.zero_le _, rfl, HO1.out, Below.refl _ _⟩
          case round =>
            obtain ⟨j, ov, rfl, hj, rfl, hown, hb⟩ := hrel
            have Hown := Lib.hid hown
            have HWr := Lib.hid hb
            have hzr : w1.heap.size ≤ wr.heap.size := hb.size
            have HBr := Lib.hid (HB1.out.trans (hb.mono (by omega)))
            clear hown hb HO1 HB1 k0 k1 k2
            by_cases hlt : j < m
            · obtain ⟨bb, off, rfl, hbl, hcc⟩ := (HX.out.below HBr.out) (by omega)
              have hc1 := hcc j hlt
              have hltI : (j : Int) < (m : Int) := by omega
              have hj0 : (0 : Int) ≤ (j : Int) := by omega
              obtain ⟨y, hy⟩ : ∃ y : Int, x j = y := ⟨_, rfl⟩
              have hfj := HLi.out j hlt
              rw [hy] at hc1 hfj
              obtain ⟨z, hz⟩ : ∃ z : Int, -y = z := ⟨_, rfl⟩
              have hw1 : wrap64 (-y) = z := by rw [← hz]; exact IntWalk.i64_left _ ▸ IntWalk.i64_in _ (by omega)
              have hw2 : IntKind.i64.wrap (-y) = z := by rw [← hz]; exact IntWalk.i64_in _ (by omega)
              have Hz := Lib.hid (show z = lifG n l x (n + j) by unfold lifG; rw [if_neg (by omega), show n + j - n = j by omega, hy, hz])
              clear hcc hz hy hfj r0 r1 r2 r3 r4 f0 f1 f2 f3 f4 HX
              go_wp2_with (at_builtin; refine wpList_plain (by rfl) fun K' hK' => ?_; refine wp_addV (B0 := w.heap.size + 3) (y := lifG n l x) (n := n + j) _ _ (by rfl) (by rfl) (by rfl) (row_below' Hown.out (bl_alloc (Below.refl _ _) _)) (heap_alloc_new _ _) Hz.out (by simp; omega) (by omega) ?_; intro v' wv how hgr; have HV := Lib.hid how; have HGV := Lib.hid hgr; clear how hgr; refine hK' _ _ ?_; clear hK' K')
              go_roundw
              case rel => exact ⟨j + 1, _, rfl, by omega, by go_num, HV.out, (HWr.out.trans (Below.mono (bl_alloc (Below.refl wr.heap.size wr) _) (by omega))).grown HGV.out (by simp; omega) (fun j e => by have := (Hown.out.lt j e).1; omega)⟩
              case measure => simp [intOf]; omega
            · obtain rfl : j = m := by omega
              obtain ⟨A4, cap4, rfl, hF⟩ := rdI_row Hown.out
              have HF4 := Lib.hid hF
              replace r0 := kcB HWr.out (by show w.heap.size + 1 < w.heap.size + 2; omega) r0
              replace r1 := kcB HWr.out (by show w.heap.size + 1 < w.heap.size + 2; omega) r1
              replace r2 := kcB HWr.out (by show w.heap.size + 1 < w.heap.size + 2; omega) r2
              replace r3 := kcB HWr.out (by show w.heap.size + 1 < w.heap.size + 2; omega) r3
              replace r4 := kcB HWr.out (by show w.heap.size + 1 < w.heap.size + 2; omega) r4
              replace f0 := kfB HWr.out (by show w.heap.size + 1 < w.heap.size + 2; omega) f0
              replace f1 := kfB HWr.out (by show w.heap.size + 1 < w.heap.size + 2; omega) f1
              replace f2 := kfB HWr.out (by show w.heap.size + 1 < w.heap.size + 2; omega) f2
              replace f3 := kfB HWr.out (by show w.heap.size + 1 < w.heap.size + 2; omega) f3
              replace f4 := kfB HWr.out (by show w.heap.size + 1 < w.heap.size + 2; omega) f4
              have qr : w.heap.size + 1 < wr.heap.size := World.block_lt_of_cell? wr _ r0
              clear hF Hown HWr HX
              go_wp2_with fail
              refine (specClause_any A4 (n + j) cap4 (lifG n l x) _ (by omega) HF4.out).mono ?_
              rintro e w5 ⟨Ac, capc, rfl, hfr, hb⟩
              have HFr := Lib.hid (hfr.more (B' := w.heap.size + 2) (by omega))
              have HB5 := Lib.hid (bl_trans HBr.out hb)
              replace r0 := kc hb r0
              replace r1 := kc hb r1
              replace r2 := kc hb r2
              replace r3 := kc hb r3
              replace r4 := kc hb r4
              replace f0 := kf hb qr f0
              replace f1 := kf hb qr f1
              replace f2 := kf hb qr f2
              replace f3 := kf hb qr f3
              replace f4 := kf hb qr f4
              have q5 : w.heap.size + 1 < w5.heap.size := World.block_lt_of_cell? w5 _ r0
              clear hfr hb HF4 HBr
              have e0 : ∀ u0 u1 u2 u3 u4 o, ((((((w5.setCell ⟨w.heap.size + 1, 0, none⟩ u0).setCell ⟨w.heap.size + 1, 1, none⟩ u1).setCell ⟨w.heap.size + 1, 2, none⟩ u2).setCell ⟨w.heap.size + 1, 3, none⟩ u3).setCell ⟨w.heap.size + 1, 4, none⟩ u4).alloc o).cell? ⟨w.heap.size + 1, 0, none⟩ = some u0 := fun u0 u1 u2 u3 u4 o => kc (bl_alloc (Below.refl _ _) o) (five_cells r0 r1 r2 r3 r4 u0 u1 u2 u3 u4).1
              have e1 : ∀ u0 u1 u2 u3 u4 o, ((((((w5.setCell ⟨w.heap.size + 1, 0, none⟩ u0).setCell ⟨w.heap.size + 1, 1, none⟩ u1).setCell ⟨w.heap.size + 1, 2, none⟩ u2).setCell ⟨w.heap.size + 1, 3, none⟩ u3).setCell ⟨w.heap.size + 1, 4, none⟩ u4).alloc o).cell? ⟨w.heap.size + 1, 1, none⟩ = some u1 := fun u0 u1 u2 u3 u4 o => kc (bl_alloc (Below.refl _ _) o) (five_cells r0 r1 r2 r3 r4 u0 u1 u2 u3 u4).2.1
              have e2 : ∀ u0 u1 u2 u3 u4 o, ((((((w5.setCell ⟨w.heap.size + 1, 0, none⟩ u0).setCell ⟨w.heap.size + 1, 1, none⟩ u1).setCell ⟨w.heap.size + 1, 2, none⟩ u2).setCell ⟨w.heap.size + 1, 3, none⟩ u3).setCell ⟨w.heap.size + 1, 4, none⟩ u4).alloc o).cell? ⟨w.heap.size + 1, 2, none⟩ = some u2 := fun u0 u1 u2 u3 u4 o => kc (bl_alloc (Below.refl _ _) o) (five_cells r0 r1 r2 r3 r4 u0 u1 u2 u3 u4).2.2.1
              have e3 : ∀ u0 u1 u2 u3 u4 o, ((((((w5.setCell ⟨w.heap.size + 1, 0, none⟩ u0).setCell ⟨w.heap.size + 1, 1, none⟩ u1).setCell ⟨w.heap.size + 1, 2, none⟩ u2).setCell ⟨w.heap.size + 1, 3, none⟩ u3).setCell ⟨w.heap.size + 1, 4, none⟩ u4).alloc o).cell? ⟨w.heap.size + 1, 3, none⟩ = some u3 := fun u0 u1 u2 u3 u4 o => kc (bl_alloc (Below.refl _ _) o) (five_cells r0 r1 r2 r3 r4 u0 u1 u2 u3 u4).2.2.2.1
              have e4 : ∀ u0 u1 u2 u3 u4 o, ((((((w5.setCell ⟨w.heap.size + 1, 0, none⟩ u0).setCell ⟨w.heap.size + 1, 1, none⟩ u1).setCell ⟨w.heap.size + 1, 2, none⟩ u2).setCell ⟨w.heap.size + 1, 3, none⟩ u3).setCell ⟨w.heap.size + 1, 4, none⟩ u4).alloc o).cell? ⟨w.heap.size + 1, 4, none⟩ = some u4 := fun u0 u1 u2 u3 u4 o => kc (bl_alloc (Below.refl _ _) o) (five_cells r0 r1 r2 r3 r4 u0 u1 u2 u3 u4).2.2.2.2
              have HEq := Lib.hid (lif_clB (m := j) (n := n) (x := x) (l := l))
              have HNq := Lib.hid (lif_clN (m := j) (n := n) (x := x) (l := l))
              have HDq := Lib.hid (lif_clD (m := j) (n := n) (x := x) (l := l))
              rw [HNq.out, HDq.out, HEq.out]
              rw [HNq.out] at HFr
              cases hcb : clB (j + n) (lifF j x l) with
              | false =>
                have HF := Lib.hid (HE.out.trans hcb)
                clear hcb
                go_wp2
                refine bodyPost_ret (v := .tuple #[.agg #[.int .i64 0, .int .i64 0, .int .i64 0, .slice none 0 0, .int .i64 0], .bool false]) (by simp [results, Tryd.results22, go_sem, e0, e1, e2, e3, e4]) rfl ?_
                exact lif_no HF.out (bl_alloc (Below.setCell (Below.setCell (Below.setCell (Below.setCell (Below.setCell HB5.out (by simp) _) (by simp) _) (by simp) _) (by simp) _) (by simp) _) _)
              | true =>
                have HT := Lib.hid (HE.out.trans hcb)
                have HD := Lib.hid (show clD (j + n) (lifF j x l) = 1 by unfold clD; rw [hcb]; rfl)
                rw [HD.out]
                rw [lif_clF hcb] at HFr
                clear hcb
                go_wp2
                refine bodyPost_ret (v := .tuple #[.agg #[.int .i64 7, .int .i64 0, .int .i64 0, .slice Ac (clN (j + n) (lifF j x l)) capc, .int .i64 1], .bool true]) (by simp [results, Tryd.results22, go_sem, e0, e1, e2, e3, e4]) rfl ?_
                unfold lifN
                rw [HT.out]
                refine ⟨Ac, capc, rfl, Frs.more (B := w.heap.size + 2) ?_ (by omega), bl_alloc (Below.setCell (Below.setCell (Below.setCell (Below.setCell (Below.setCell HB5.out (by simp) _) (by simp) _) (by simp) _) (by simp) _) (by simp) _) _⟩
                refine Frs.below ?_ (bl_alloc (Below.refl _ _) _)
                exact ((((HFr.out.far' (by simp) (by simp) _).far' (by simp) (by simp) _).far' (by simp) (by simp) _).far' (by simp) (by simp) _).far' (by simp) (by simp) _
      · have hd : (b == 0) = false := beq_eq_false_iff_ne.2 hbz
        have HF := Lib.hid (show lifB 7 0 b n c l bd m x = false by unfold lifB; rw [hd]; rfl)
        clear HRow
        go_wp2
        refine bodyPost_ret (v := .tuple #[.agg #[.int .i64 0, .int .i64 0, .int .i64 0, .slice none 0 0, .int .i64 0], .bool false]) (by simp [results, Tryd.results22, go_sem, r0, r1, r2, r3, r4]) rfl ?_
        exact lif_no HF.out (by repeat (first | exact HB1.out | refine Below.setCell ?_ (by simp) _))
    · have hd : (a == 0) = false := beq_eq_false_iff_ne.2 ha
      have HF := Lib.hid (show lifB 7 a b n c l bd m x = false by unfold lifB; rw [hd]; rfl)
      clear HRow
      go_wp2
      refine bodyPost_ret (v := .tuple #[.agg #[.int .i64 0, .int .i64 0, .int .i64 0, .slice none 0 0, .int .i64 0], .bool false]) (by simp [results, Tryd.results22, go_sem, r0, r1, r2, r3, r4]) rfl ?_
      exact lif_no HF.out (by repeat (first | exact HB1.out | refine Below.setCell ?_ (by simp) _))
  · have hd : (k == 7) = false := beq_eq_false_iff_ne.2 hk
    have HF := Lib.hid (show lifB k a b n c l bd m x = false by unfold lifB; rw [hd]; rfl)
    clear HRow
    go_wp2
    refine bodyPost_ret (v := .tuple #[.agg #[.int .i64 0, .int .i64 0, .int .i64 0, .slice none 0 0, .int .i64 0], .bool false]) (by simp [results, Tryd.results22, go_sem, r0, r1, r2, r3, r4]) rfl ?_
    exact lif_no HF.out (by repeat (first | exact HB1.out | refine Below.setCell ?_ (by simp) _))
end Go.Proofs.YtbebdhjhlheboaaDoor
