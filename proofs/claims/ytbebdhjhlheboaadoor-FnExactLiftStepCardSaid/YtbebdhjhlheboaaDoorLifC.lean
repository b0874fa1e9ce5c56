/- LiftStep: the program (no claim of its own). Conditions: as each theorem states. -/
import Derived.Test.YtbebdhjhlheboaaDoorLifB
import Derived.Deep.AppendLies
namespace Go.Proofs.YtbebdhjhlheboaaDoor
open Go.ChangeShapes Go.WideShapes Go.ChangeAt Go.RowKit

theorem lif_no {k a b : Int} {n : Nat} {c l : Nat → Int} {bd : Int} {m : Nat} {x : Nat → Int} {w w' : World} (h : lifB k a b n c l bd m x = false) (hb : Below w.heap.size w w') :
    LRes w (lifB k a b n c l bd m x) (lifN k a b n c l bd m x) (lifL n l m x) (.returned (.tuple #[.agg #[.int .i64 0, .int .i64 0, .int .i64 0, .slice none 0 0, .int .i64 0], .bool false])) w' := by
  unfold lifN
  rw [h]
  exact ⟨none, 0, rfl, .inl rfl, hb⟩

theorem cube_small {m : Nat} {x : Nat → Int} (h : cubeB m x = true) : m ≤ 4 := (cube_parts h).2.2
theorem cube_lits {m : Nat} {x : Nat → Int} (h : cubeB m x = true) : ∀ i, i < m → -1048576 ≤ x i ∧ x i ≤ 1048576 := fun i hi => by
  have := litB_iff.1 (litR_at (cube_parts h).1 hi)
  omega
theorem vt_len {n : Nat} {c l : Nat → Int} (h : vtB c l n = true) : ∀ k, k ≤ n → (k : Int) ≤ lastOf l k ∧ lastOf l k ≤ 12
  | 0, _ => ⟨Int.le_refl _, by show (0 : Int) ≤ 12; omega⟩
  | k + 1, hk => by
    have h1 := vt_len h k (by omega)
    obtain ⟨g1, _, _, g4⟩ := okAt_iff.1 (vtB_at h (show k < n by omega))
    have h2 := ab_pos g1
    have e : lastOf l (k + 1) = ab (l k) := rfl
    rw [e]
    omega
theorem clau_small {n : Nat} {c l : Nat → Int} {bd : Int} (h : clauB n c l bd = true) : n ≤ 12 := by
  unfold clauB validB at h
  rw [Bool.and_eq_true, Bool.and_eq_true] at h
  have := vt_len h.1.1 n (Nat.le_refl _)
  omega

set_option maxRecDepth 100000 in
set_option maxHeartbeats 800000 in
/-- The append of one int to a row of the call's own. -/
theorem wp_addV {o : Oper} {c : Act} {K : Act → World → Prop} {Q : Exit → Act → World → Prop} {W : World} (s x : Operand)
    (ho : o.op = .call { callee := .builtin .append, args := #[s, x], argTypes := #[27, 27] }) {B0 : Nat} {v : Value} {n H : Nat} {y : Nat → Int} {z : Int} {T' : TypeId} (hs : c.eval s = v) (hx : c.eval x = .slice (some ⟨H, 0, none⟩) 1 1)
    (hown : W.ownsRow B0 3 1 v n ((vlst y n).map (Value.int .i64))) (hnew : W.heap[H]? = some (.cells #[.int .i64 z] T' (0, 0))) (hz : z = y n) (hB : B0 ≤ W.heap.size) (hn : n ≤ 1048576)
    (h : ∀ v' w', w'.ownsRow B0 3 1 v' (n + 1) ((vlst y (n + 1)).map (Value.int .i64)) → W.grownBy w' v.ownBlock → K (c.put o.dst v') w') :
    o.wp Tryd.prog c W K Q := by
  obtain ⟨i0, hi, hz0, hz1, hz2⟩ := info_parts Tryd.infoInt
  refine wp_append_lies _ s x 27 ho B0 3 i0 _ 1 8 Tryd.underlying27 hi hz0 hz1 hz2 rfl (by omega) v n _ hs hown ⟨H, 0, none⟩ 1 1 [.int .i64 z] hx (by rfl)
    (World.news_of_block hnew) (by simp [Value.oneCell']) (by omega) (by unfold maxLen; omega) (by omega) hB W.heap.size rfl ?_
  intro g cap' w' hw hg _ _
  refine h _ w' ?_ hg
  rw [show vlst y (n + 1) = vlst y n ++ [y n] from rfl, List.map_append, ← hz]
  exact hw

/-- Five cells, written. -/
theorem five_cells {W : World} {B : Nat} {v0 v1 v2 v3 v4 : Value} (r0 : W.cell? ⟨B, 0, none⟩ = some v0) (r1 : W.cell? ⟨B, 1, none⟩ = some v1) (r2 : W.cell? ⟨B, 2, none⟩ = some v2) (r3 : W.cell? ⟨B, 3, none⟩ = some v3) (r4 : W.cell? ⟨B, 4, none⟩ = some v4) (u0 u1 u2 u3 u4 : Value) :
    (((((W.setCell ⟨B, 0, none⟩ u0).setCell ⟨B, 1, none⟩ u1).setCell ⟨B, 2, none⟩ u2).setCell ⟨B, 3, none⟩ u3).setCell ⟨B, 4, none⟩ u4).cell? ⟨B, 0, none⟩ = some u0 ∧ (((((W.setCell ⟨B, 0, none⟩ u0).setCell ⟨B, 1, none⟩ u1).setCell ⟨B, 2, none⟩ u2).setCell ⟨B, 3, none⟩ u3).setCell ⟨B, 4, none⟩ u4).cell? ⟨B, 1, none⟩ = some u1 ∧ (((((W.setCell ⟨B, 0, none⟩ u0).setCell ⟨B, 1, none⟩ u1).setCell ⟨B, 2, none⟩ u2).setCell ⟨B, 3, none⟩ u3).setCell ⟨B, 4, none⟩ u4).cell? ⟨B, 2, none⟩ = some u2 ∧ (((((W.setCell ⟨B, 0, none⟩ u0).setCell ⟨B, 1, none⟩ u1).setCell ⟨B, 2, none⟩ u2).setCell ⟨B, 3, none⟩ u3).setCell ⟨B, 4, none⟩ u4).cell? ⟨B, 3, none⟩ = some u3 ∧ (((((W.setCell ⟨B, 0, none⟩ u0).setCell ⟨B, 1, none⟩ u1).setCell ⟨B, 2, none⟩ u2).setCell ⟨B, 3, none⟩ u3).setCell ⟨B, 4, none⟩ u4).cell? ⟨B, 4, none⟩ = some u4 := by
  refine ⟨?_, ?_, ?_, ?_, ?_⟩ <;> simp [go_sem, r0, r1, r2, r3, r4]

set_option maxRecDepth 100000 in
set_option maxHeartbeats 3200000 in
theorem implLift_any (A Ax : Option Addr) (n cap m capx : Nat) (k a b bd : Int) (c l x : Nat → Int) (w : World) (hn : n ≤ 1048576) (hm : m ≤ 1048576) (hr : Rd w w.heap.size A n c l) (hx : RdI w w.heap.size Ax m x) (hT : LyAt w) :
    Calls Tryd.prog 9 #[.agg #[.int .i64 k, .int .i64 a, .int .i64 b, .slice A n cap, .int .i64 bd], .slice Ax m capx] w (LRes w (lifB k a b n c l bd m x) (lifN k a b n c l bd m x) (lifL n l m x)) := by
  have HA := Lib.hid (bl_alloc (bl_alloc (Below.refl w.heap.size w) (.cells #[.int .i64 k, .int .i64 a, .int .i64 b, .slice A n cap, .int .i64 bd] 33)) (.cells #[.int .i64 0, .int .i64 0, .int .i64 0, .slice none 0 0, .int .i64 0] 33))
  have HR0 := Lib.hid (hr.later HA.out)
  have HX0 := Lib.hid (hx.later HA.out)
  have HT0 := Lib.hid (hT.later HA.out)
  clear hr hx hT
  by_cases hk : k = 7
  · subst hk
    go_enter Tryd.func9, Tryd.ntmps9
    go_wp2_with fail
    refine (wellRup_any A n cap a b bd _ HT0.out).mono ?_
    rintro e w1 ⟨rfl, hb⟩
    have b0 : w1.cell? ⟨w.heap.size, 3, none⟩ = some (.slice A n cap) := kc hb (by go_simp)
    have b1 : w1.cell? ⟨w.heap.size, 4, none⟩ = some (.int .i64 bd) := kc hb (by go_simp)
    have r0 : w1.cell? ⟨w.heap.size + 1, 0, none⟩ = some (.int .i64 0) := kc hb (by go_simp)
    have r1 : w1.cell? ⟨w.heap.size + 1, 1, none⟩ = some (.int .i64 0) := kc hb (by go_simp)
    have r2 : w1.cell? ⟨w.heap.size + 1, 2, none⟩ = some (.int .i64 0) := kc hb (by go_simp)
    have r3 : w1.cell? ⟨w.heap.size + 1, 3, none⟩ = some (.slice none 0 0) := kc hb (by go_simp)
    have r4 : w1.cell? ⟨w.heap.size + 1, 4, none⟩ = some (.int .i64 0) := kc hb (by go_simp)
    have f0 : w1.frozen? ⟨w.heap.size + 1, 0, none⟩ = false := kf hb (by simp) (by go_simp)
    have f1 : w1.frozen? ⟨w.heap.size + 1, 1, none⟩ = false := kf hb (by simp) (by go_simp)
    have f2 : w1.frozen? ⟨w.heap.size + 1, 2, none⟩ = false := kf hb (by simp) (by go_simp)
    have f3 : w1.frozen? ⟨w.heap.size + 1, 3, none⟩ = false := kf hb (by simp) (by go_simp)
    have f4 : w1.frozen? ⟨w.heap.size + 1, 4, none⟩ = false := kf hb (by simp) (by go_simp)
    have q1 : w.heap.size + 1 < w1.heap.size := World.block_lt_of_cell? w1 _ r0
    have HB1 := Lib.hid (bl_trans HA.out hb)
    have HR1 := Lib.hid (HR0.out.later hb)
    have HX1 := Lib.hid (HX0.out.later hb)
    clear hb HR0 HX0 HT0 HA
    cases hab : (a == 0 && b == 0) with
    | false =>
      have HF := Lib.hid (show lifB 7 a b n c l bd m x = false by unfold lifB; rw [hab]; rfl)
      clear hab b0 b1
      go_wp2
      refine bodyPost_ret (v := .tuple #[.agg #[.int .i64 0, .int .i64 0, .int .i64 0, .slice none 0 0, .int .i64 0], .bool false]) (by simp [results, Tryd.results9, go_sem, r0, r1, r2, r3, r4]) rfl ?_
      exact lif_no HF.out (by repeat (first | exact HB1.out | refine Below.setCell ?_ (by simp) _))
    | true =>
      go_wp2_with fail
      refine (isClause_any A n cap bd c l _ hn HR1.out).mono ?_
      rintro e w2 ⟨rfl, hb⟩
      replace b0 := kc hb b0
      replace b1 := kc hb b1
      replace r0 := kc hb r0
      replace r1 := kc hb r1
      replace r2 := kc hb r2
      replace r3 := kc hb r3
      replace r4 := kc hb r4
      replace f0 := kf hb q1 f0
      replace f1 := kf hb q1 f1
      replace f2 := kf hb q1 f2
      replace f3 := kf hb q1 f3
      replace f4 := kf hb q1 f4
      have q2 : w.heap.size + 1 < w2.heap.size := World.block_lt_of_cell? w2 _ r0
      have HB2 := Lib.hid (bl_trans HB1.out hb)
      have HR2 := Lib.hid (HR1.out.later hb)
      have HX2 := Lib.hid (HX1.out.later hb)
      clear hb HB1 HR1 HX1
      have HAB := Lib.hid hab
      clear hab
      cases hc : clauB n c l bd with
      | false =>
        have HF := Lib.hid (show lifB 7 a b n c l bd m x = false by unfold lifB; rw [HAB.out, hc]; rfl)
        clear hc
        clear b0 b1
        go_wp2
        refine bodyPost_ret (v := .tuple #[.agg #[.int .i64 0, .int .i64 0, .int .i64 0, .slice none 0 0, .int .i64 0], .bool false]) (by simp [results, Tryd.results9, go_sem, r0, r1, r2, r3, r4]) rfl ?_
        exact lif_no HF.out (by repeat (first | exact HB2.out | refine Below.setCell ?_ (by simp) _))
      | true =>
        go_wp2_with fail
        refine (isCube_any Ax m capx x _ hm HX2.out).mono ?_
        rintro e w3 ⟨rfl, hb⟩
        replace b0 := kc hb b0
        replace b1 := kc hb b1
        replace r0 := kc hb r0
        replace r1 := kc hb r1
        replace r2 := kc hb r2
        replace r3 := kc hb r3
        replace r4 := kc hb r4
        replace f0 := kf hb q2 f0
        replace f1 := kf hb q2 f1
        replace f2 := kf hb q2 f2
        replace f3 := kf hb q2 f3
        replace f4 := kf hb q2 f4
        have q3 : w.heap.size + 1 < w3.heap.size := World.block_lt_of_cell? w3 _ r0
        have HB3 := Lib.hid (bl_trans HB2.out hb)
        have HR3 := Lib.hid (HR2.out.later hb)
        have HX3 := Lib.hid (HX2.out.later hb)
        clear hb HB2 HR2 HX2
        have HC := Lib.hid hc
        clear hc
        cases hq : cubeB m x with
        | false =>
          have HF := Lib.hid (show lifB 7 a b n c l bd m x = false by unfold lifB; rw [HAB.out, HC.out, hq]; rfl)
          clear hq
          clear b0 b1
          go_wp2
          refine bodyPost_ret (v := .tuple #[.agg #[.int .i64 0, .int .i64 0, .int .i64 0, .slice none 0 0, .int .i64 0], .bool false]) (by simp [results, Tryd.results9, go_sem, r0, r1, r2, r3, r4]) rfl ?_
          exact lif_no HF.out (by repeat (first | exact HB3.out | refine Below.setCell ?_ (by simp) _))
        | true =>
          have HQ := Lib.hid hq
          have hm4 := cube_small hq
          have hn12 := clau_small HC.out
          clear hq
          have HE := Lib.hid (show lifB 7 a b n c l bd m x = clB (m + n) (lifF m x l) by unfold lifB; rw [HAB.out, HC.out, HQ.out]; rfl)
          go_wp2_with fail
          refine (negationsO_any Ax m capx x _ hm (cube_lits HQ.out) HX3.out).mono ?_
          rintro e w4 ⟨ov4, rfl, hown, hb⟩
          have HO4 := Lib.hid (show w4.ownsRow w3.heap.size 3 1 ov4 m ((vlst (lifF m x l) m).map (Value.int .i64)) from by rw [vlst_cg (f := lifF m x l) (g := fun i => -(x i)) m fun i hi => if_pos hi]; exact hown)
          clear hown
          have b2 : w4.cell? ⟨w.heap.size, 3, none⟩ = some (.slice A n cap) := kc hb b0
          have HW4 := Lib.hid hb
          clear hb b0 b1 HX3
          go_wp2
          go_loopw [6, 37] (fun o i wr => ∃ (j : Nat) (ov : Value), ov = o ∧ j ≤ n ∧ i = .int .i64 j ∧ wr.ownsRow w3.heap.size 3 1 ov (m + j) ((vlst (lifF m x l) (m + j)).map (Value.int .i64)) ∧ Below w3.heap.size w3 wr) (fun _ i _ => n - (intOf i).toNat)
          case atStart => exact ⟨0, _, rfl, Nat.zero_le _, rfl, HO4.out, HW4.out⟩
          case round =>
            obtain ⟨j, ov, rfl, hj, rfl, hown, hb⟩ := hrel
            have Hown := Lib.hid hown
            have HWr := Lib.hid hb
            have hzr : w3.heap.size ≤ wr.heap.size := hb.size
            clear hown hb HO4 HW4 b2
            by_cases hlt : j < n
            · obtain ⟨bb, off, rfl, hbl, hc⟩ := (HR3.out.below HWr.out) (by omega)
              obtain ⟨hc1, hc2⟩ := hc j hlt
              have hltI : (j : Int) < (n : Int) := by omega
              have hj0 : (0 : Int) ≤ (j : Int) := by omega
              have Hz := Lib.hid (show l j = lifF m x l (m + j) by unfold lifF; rw [if_neg (by omega), show m + j - m = j by omega])
              clear hc r0 r1 r2 r3 r4 f0 f1 f2 f3 f4 HR3
              go_wp2_with (at_builtin; refine wpList_plain (by rfl) fun K' hK' => ?_; refine wp_addV (B0 := w3.heap.size) (y := lifF m x l) (n := m + j) _ _ (by rfl) (by rfl) (by rfl) (row_below' Hown.out (by repeat (first | exact Below.refl _ _ | refine bl_alloc ?_ _ | refine Below.setCell ?_ (by simp) _))) (by have h9 := heap_alloc_new (wr.alloc (.cells #[.int .i64 (c j), .int .i64 (l j)] 60)) (.cells #[.int .i64 (l j)] 3); rw [World.size_alloc] at h9; exact h9) Hz.out (by simp; omega) (by omega) ?_; intro v' wv how hgr; have HV := Lib.hid how; have HGV := Lib.hid hgr; clear how hgr; refine hK' _ _ ?_; clear hK' K')
              go_roundw
              case rel => exact ⟨j + 1, _, rfl, by omega, by go_num, HV.out, (HWr.out.trans (Below.mono (by repeat (first | exact Below.refl _ _ | refine bl_alloc ?_ _ | refine Below.setCell ?_ (by simp) _)) hzr)).grown HGV.out (by simp; omega) (fun j e => (Hown.out.lt j e).1)⟩
              case measure => simp [intOf]; omega
            · obtain rfl : j = n := by omega
              obtain ⟨A4, cap4, rfl, hF⟩ := rdI_row Hown.out
              have HF4 := Lib.hid hF
              have HBr := Lib.hid (bl_trans HB3.out HWr.out)
              replace r0 := kc HWr.out r0
              replace r1 := kc HWr.out r1
              replace r2 := kc HWr.out r2
              replace r3 := kc HWr.out r3
              replace r4 := kc HWr.out r4
              replace f0 := kf HWr.out q3 f0
              replace f1 := kf HWr.out q3 f1
              replace f2 := kf HWr.out q3 f2
              replace f3 := kf HWr.out q3 f3
              replace f4 := kf HWr.out q3 f4
              have qr : w.heap.size + 1 < wr.heap.size := World.block_lt_of_cell? wr _ r0
              clear hF Hown HWr HB3 HR3
              go_wp2_with fail
              refine (implClause_any A4 (m + j) cap4 (lifF m x l) _ (by omega) HF4.out).mono ?_
              rintro e w5 ⟨Ac, capc, rfl, hfr, hb⟩
              have HFr := Lib.hid (hfr.more (B' := w.heap.size + 2) (by omega))
              have HB5 := Lib.hid (bl_trans HBr.out hb)
              replace r0 := kc hb r0
              replace r1 := kc hb r1
              replace r2 := kc hb r2
              replace r3 := kc hb r3
              replace r4 := kc hb r4
              replace f0 := kf hb qr f0
              replace f1 := kf hb qr f1
              replace f2 := kf hb qr f2
              replace f3 := kf hb qr f3
              replace f4 := kf hb qr f4
              have q5 : w.heap.size + 1 < w5.heap.size := World.block_lt_of_cell? w5 _ r0
              clear hfr hb HF4 HBr
              have e0 : ∀ u0 u1 u2 u3 u4 o, ((((((w5.setCell ⟨w.heap.size + 1, 0, none⟩ u0).setCell ⟨w.heap.size + 1, 1, none⟩ u1).setCell ⟨w.heap.size + 1, 2, none⟩ u2).setCell ⟨w.heap.size + 1, 3, none⟩ u3).setCell ⟨w.heap.size + 1, 4, none⟩ u4).alloc o).cell? ⟨w.heap.size + 1, 0, none⟩ = some u0 := fun u0 u1 u2 u3 u4 o => kc (bl_alloc (Below.refl _ _) o) (five_cells r0 r1 r2 r3 r4 u0 u1 u2 u3 u4).1
              have e1 : ∀ u0 u1 u2 u3 u4 o, ((((((w5.setCell ⟨w.heap.size + 1, 0, none⟩ u0).setCell ⟨w.heap.size + 1, 1, none⟩ u1).setCell ⟨w.heap.size + 1, 2, none⟩ u2).setCell ⟨w.heap.size + 1, 3, none⟩ u3).setCell ⟨w.heap.size + 1, 4, none⟩ u4).alloc o).cell? ⟨w.heap.size + 1, 1, none⟩ = some u1 := fun u0 u1 u2 u3 u4 o => kc (bl_alloc (Below.refl _ _) o) (five_cells r0 r1 r2 r3 r4 u0 u1 u2 u3 u4).2.1
              have e2 : ∀ u0 u1 u2 u3 u4 o, ((((((w5.setCell ⟨w.heap.size + 1, 0, none⟩ u0).setCell ⟨w.heap.size + 1, 1, none⟩ u1).setCell ⟨w.heap.size + 1, 2, none⟩ u2).setCell ⟨w.heap.size + 1, 3, none⟩ u3).setCell ⟨w.heap.size + 1, 4, none⟩ u4).alloc o).cell? ⟨w.heap.size + 1, 2, none⟩ = some u2 := fun u0 u1 u2 u3 u4 o => kc (bl_alloc (Below.refl _ _) o) (five_cells r0 r1 r2 r3 r4 u0 u1 u2 u3 u4).2.2.1
              have e3 : ∀ u0 u1 u2 u3 u4 o, ((((((w5.setCell ⟨w.heap.size + 1, 0, none⟩ u0).setCell ⟨w.heap.size + 1, 1, none⟩ u1).setCell ⟨w.heap.size + 1, 2, none⟩ u2).setCell ⟨w.heap.size + 1, 3, none⟩ u3).setCell ⟨w.heap.size + 1, 4, none⟩ u4).alloc o).cell? ⟨w.heap.size + 1, 3, none⟩ = some u3 := fun u0 u1 u2 u3 u4 o => kc (bl_alloc (Below.refl _ _) o) (five_cells r0 r1 r2 r3 r4 u0 u1 u2 u3 u4).2.2.2.1
              have e4 : ∀ u0 u1 u2 u3 u4 o, ((((((w5.setCell ⟨w.heap.size + 1, 0, none⟩ u0).setCell ⟨w.heap.size + 1, 1, none⟩ u1).setCell ⟨w.heap.size + 1, 2, none⟩ u2).setCell ⟨w.heap.size + 1, 3, none⟩ u3).setCell ⟨w.heap.size + 1, 4, none⟩ u4).alloc o).cell? ⟨w.heap.size + 1, 4, none⟩ = some u4 := fun u0 u1 u2 u3 u4 o => kc (bl_alloc (Below.refl _ _) o) (five_cells r0 r1 r2 r3 r4 u0 u1 u2 u3 u4).2.2.2.2
              cases hcb : clB (m + j) (lifF m x l) with
              | false =>
                have HF := Lib.hid (HE.out.trans hcb)
                clear hcb
                go_wp2
                refine bodyPost_ret (v := .tuple #[.agg #[.int .i64 0, .int .i64 0, .int .i64 0, .slice none 0 0, .int .i64 0], .bool false]) (by simp [results, Tryd.results9, go_sem, e0, e1, e2, e3, e4]) rfl ?_
                exact lif_no HF.out (bl_alloc (Below.setCell (Below.setCell (Below.setCell (Below.setCell (Below.setCell HB5.out (by simp) _) (by simp) _) (by simp) _) (by simp) _) (by simp) _) _)
              | true =>
                have HT := Lib.hid (HE.out.trans hcb)
                have HD := Lib.hid (show clD (m + j) (lifF m x l) = 1 by unfold clD; rw [hcb]; rfl)
                rw [HD.out]
                clear hcb
                go_wp2
                refine bodyPost_ret (v := .tuple #[.agg #[.int .i64 7, .int .i64 0, .int .i64 0, .slice Ac (clN (m + j) (lifF m x l)) capc, .int .i64 1], .bool true]) (by simp [results, Tryd.results9, go_sem, e0, e1, e2, e3, e4]) rfl ?_
                unfold lifN
                rw [HT.out]
                refine ⟨Ac, capc, rfl, Frs.more (B := w.heap.size + 2) ?_ (by omega), bl_alloc (Below.setCell (Below.setCell (Below.setCell (Below.setCell (Below.setCell HB5.out (by simp) _) (by simp) _) (by simp) _) (by simp) _) (by simp) _) _⟩
                refine Frs.below ?_ (bl_alloc (Below.refl _ _) _)
                exact ((((HFr.out.far' (by simp) (by simp) _).far' (by simp) (by simp) _).far' (by simp) (by simp) _).far' (by simp) (by simp) _).far' (by simp) (by simp) _
  · have hd : (k == 7) = false := beq_eq_false_iff_ne.2 hk
    have HF := Lib.hid (show lifB k a b n c l bd m x = false by unfold lifB; rw [hd]; rfl)
    clear HR0 HX0 HT0
    go_enter Tryd.func9, Tryd.ntmps9
    go_wp2
    refine bodyPost_ret (v := .tuple #[.agg #[.int .i64 0, .int .i64 0, .int .i64 0, .slice none 0 0, .int .i64 0], .bool false]) (by simp [results, Tryd.results9, go_sem]) rfl ?_
    exact lif_no HF.out (by repeat (first | exact HA.out | refine Below.setCell ?_ (by simp) _))
end Go.Proofs.YtbebdhjhlheboaaDoor
