/- LiftStep: the reference's clause (no claim of its own). Conditions: as each theorem states. -/
import Derived.Test.YtbebdhjhlheboaaDoorLifC
import Derived.StillTailTactics
import Derived.Deep.RegionHeld3
import Derived.Test.YtbebdhjhlheboaaDoorRgg
import Derived.Deep.Cut
namespace Go.Proofs.YtbebdhjhlheboaaDoor
open Go.ChangeShapes Go.WideShapes Go.ChangeAt Go.RowKit

theorem row_shapeL {w : World} {B e s n : Nat} {v : Value} {xs : List Value} (h : w.ownsRow B e s v n xs) : ∃ A cap, v = .slice A n cap := by
  rcases h.2 with ⟨e1, h0⟩ | ⟨g, cap, cur, e1, _⟩
  · exact ⟨none, 0, by rw [e1, h0]⟩
  · exact ⟨_, cap, e1⟩
theorem tfS {b : Bool} {P : Prop} (h : b = true) (h' : b = false) : P := by rw [h] at h'; cases h'
/-- What is known while the operations of the last region run, where the constraint is not valid. -/
structure FCl (wq : World) (V C : Value) (L : Nat → Bool) (w : World) (x2 x3 x31 x32 x33 x34 x35 x36 x37 x38 : Value) : Prop where
  bel : Below wq.heap.size wq w
  b0 : L 0 = true → x31 = V
  b1 : L 1 = true → x32 = C
  b2 : L 2 = true → x33 = .bool false
  b3 : L 3 = true → x34 = .bool false
  b7 : L 7 = true → x38 = .bool false
  b8 : L 8 = true → x2 = V
  b9 : L 9 = true → x3 = .bool false
def CaRes (w : World) (ok : Bool) (n : Nat) (l : Nat → Int) (e : Ending) (w' : World) : Prop :=
  ∃ A' N cap', e = .returned (.tuple #[.slice A' N cap', .bool ok]) ∧ (ok = true → w'.ownsRow (w.heap.size + 1) 3 1 (.slice A' N cap') n ((vlst l n).map (Value.int .i64))) ∧ Below w.heap.size w w'

set_option maxRecDepth 100000 in
set_option maxHeartbeats 3200000 in
theorem l12Clause_any (A : Option Addr) (n cap : Nat) (bd : Int) (c l : Nat → Int) (w : World) (hn : n ≤ 1048576) (hr : Rd w w.heap.size A n c l) :
    Calls Tryd.prog 53 #[.agg #[.slice A n cap, .int .i64 bd]] w (CaRes w (clauB n c l bd) n l) := by
  have HB := Lib.hid (bl_alloc (Below.refl w.heap.size w) (.cells #[.slice A n cap, .int .i64 bd] 31))
  have HR := Lib.hid (hr.later HB.out)
  have h9 := heap_alloc_new (w.alloc (.cells #[.slice A n cap, .int .i64 bd] 31)) (.cells #[] 3)
  rw [World.size_alloc] at h9
  have HO := Lib.hid (show ((w.alloc (.cells #[.slice A n cap, .int .i64 bd] 31)).alloc (.cells #[] 3)).ownsRow (w.heap.size + 1) 3 1 (.slice (some ⟨w.heap.size + 1, 0, none⟩) 0 0) 0 [] from ⟨rfl, .inr ⟨w.heap.size + 1, 0, #[], rfl, Nat.le_refl _, h9, Nat.le_refl _, by unfold maxLen; omega, rfl, rfl⟩⟩)
  clear hr h9
  go_enter Tryd.func53, Tryd.ntmps53
  have b0 : (w.alloc (.cells #[.slice A n cap, .int .i64 bd] 31)).cell? ⟨w.heap.size, 0, none⟩ = some (.slice A n cap) := by go_simp
  have b1 : (w.alloc (.cells #[.slice A n cap, .int .i64 bd] 31)).cell? ⟨w.heap.size, 1, none⟩ = some (.int .i64 bd) := by go_simp
  obtain ⟨W1, hW1⟩ : ∃ W1, w.alloc (.cells #[.slice A n cap, .int .i64 bd] 31) = W1 := ⟨_, rfl⟩
  have hs1 : W1.heap.size = w.heap.size + 1 := by rw [← hW1]; exact World.size_alloc _ _
  go_wp2
  rw [hW1] at HB HR HO b0 b1
  clear hW1
  go_loopw [4, 5] (fun o i wr => ∃ (j : Nat) (ov : Value), ov = o ∧ j ≤ n ∧ i = .int .i64 j ∧ anyQ (wgt c) j = false ∧ wr.ownsRow (w.heap.size + 1) 3 1 ov j ((vlst l j).map (Value.int .i64)) ∧ Below W1.heap.size W1 wr) (fun _ i _ => n - (intOf i).toNat)
  case atStart => exact ⟨0, _, rfl, Nat.zero_le _, rfl, rfl, HO.out, bl_alloc (Below.refl _ _) _⟩
  case round =>
    obtain ⟨j, ov, rfl, hj, rfl, hq, hown, hb⟩ := hrel
    have Hown := Lib.hid hown
    have HWr := Lib.hid hb
    have Hq := Lib.hid hq
    have d0 := kc hb b0
    have d1 := kc hb b1
    have hzr : W1.heap.size ≤ wr.heap.size := hb.size
    clear hown hb hq HO
    by_cases hlt : j < n
    · obtain ⟨bb, off, rfl, hbl, hc⟩ := (HR.out.below HWr.out) (by omega)
      obtain ⟨hc1, hc2⟩ := hc j hlt
      have hltI : (j : Int) < (n : Int) := by omega
      have hj0 : (0 : Int) ≤ (j : Int) := by omega
      clear hc b0 b1
      by_cases h1 : c j = 1
      · rw [h1] at hc1
        have Hq1 := Lib.hid (anyQ_step Hq.out (show wgt c j = false by unfold wgt; rw [h1]; rfl))
        clear h1
        go_wp2_with (at_builtin; refine wpList_plain (by rfl) fun K' hK' => ?_; refine wp_addV (B0 := w.heap.size + 1) (y := l) (n := j) _ _ (by rfl) (by rfl) (by rfl) (row_below' Hown.out (bl_alloc (Below.refl _ _) _)) (heap_alloc_new _ _) rfl (by simp; omega) (by omega) ?_; intro v' wv how hgr; have HV := Lib.hid how; have HGV := Lib.hid hgr; clear how hgr; refine hK' _ _ ?_; clear hK' K')
        go_roundw
        case rel => exact ⟨j + 1, _, rfl, by omega, by go_num, Hq1.out, HV.out, (HWr.out.trans (Below.mono (bl_alloc (Below.refl _ _) _) hzr)).grown HGV.out (by simp; omega) (fun j e => by rw [hs1]; exact (Hown.out.lt j e).1)⟩
        case measure => simp [intOf]; omega
      · have HF := Lib.hid (show clauB n c l bd = false by unfold clauB; rw [anyQ_of hlt (show wgt c j = true by unfold wgt; rw [beq_eq_false_iff_ne.2 h1]; rfl)]; simp)
        have HZ := Lib.hid (bl_alloc (bl_trans HB.out HWr.out) (.cells #[] 3))
        clear Hown Hq HWr HR
        go_wp2
        go_ret2
        exact ⟨_, _, _, by rw [HF.out]; rfl, (fun h => by rw [HF.out] at h; cases h), HZ.out⟩
    · obtain rfl : j = n := by omega
      obtain ⟨A4, cap4, rfl⟩ := row_shapeL Hown.out
      have HR1 := Lib.hid (HR.out.later HWr.out)
      have HB1 := Lib.hid (bl_trans HB.out HWr.out)
      have HV := Lib.hid (fun (W' : World) (hb' : Below wr.heap.size wr W') => specValid_any A j cap bd c l W' hn (HR1.out.later hb'))
      clear HR HWr b0 b1 HR1
      go_wp2
      cases hv : validB j c l bd with
      | false =>
        simp only [hv] at HV
        have HF := Lib.hid (show clauB j c l bd = false by unfold clauB; rw [hv]; rfl)
        clear hv
        go_upto_region 8 with fail
        refine region_steps3 (J := fun _ L a' w' => ∃ x2 x3 x31 x32 x33 x34 x35 x36 x37 x38 : Value, a' = ⟨#[.agg #[.slice A j cap, .int .i64 bd], .pointer (some ⟨w.heap.size, 0, none⟩), x2, x3, .slice A4 j cap4, .int .i64 j, .slice (some ⟨w.heap.size + 1, 0, none⟩) 0 0, .int .i64 j, .pointer (some ⟨w.heap.size, 0, none⟩), .slice A j cap, .int .i64 j, .bool false, u12, u13, u14, u15, u16, u17, u18, u19, u20, u21, u22, u23, u24, u25, u26, u27, u28, u29, u30, x31, x32, x33, x34, x35, x36, x37, x38], []⟩ ∧ FCl wr (.slice A4 j cap4) (.agg #[.slice A j cap, .int .i64 bd]) L w' x2 x3 x31 x32 x33 x34 x35 x36 x37 x38) [[], [], [1], [2], [3], [4], [5], [3, 6], [0], [7, 8]] (by kernel_rfl) (by kernel_rfl) ?_ ⟨?_, ?_, ?_, ?_, ?_, ?_, ?_, ?_, ?_, ?_, trivial⟩ ?_
        · intro L hL
          exact ⟨_, _, _, _, _, _, _, _, _, _, rfl, ⟨(Below.refl wr.heap.size wr).drew, fun h => tfS h (hL 0 (by decide)), fun h => tfS h (hL 1 (by decide)), fun h => tfS h (hL 2 (by decide)), fun h => tfS h (hL 3 (by decide)), fun h => tfS h (hL 7 (by decide)), fun h => tfS h (hL 8 (by decide)), fun h => tfS h (hL 9 (by decide))⟩⟩
        · intro L hL hd hc a w9 hI K' hK'
          obtain ⟨x2, x3, x31, x32, x33, x34, x35, x36, x37, x38, rfl, hF⟩ := hI
          rw [if_pos (by rfl)]
          go_simp
          refine hK' _ _ ⟨_, _, _, _, _, _, _, _, _, _, rfl, ⟨hF.bel, fun _ => rfl, hF.b1, hF.b2, hF.b3, hF.b7, hF.b8, hF.b9⟩⟩
        · intro L hL hd hc a w9 hI K' hK'
          obtain ⟨x2, x3, x31, x32, x33, x34, x35, x36, x37, x38, rfl, hF⟩ := hI
          rw [if_pos (by rfl)]
          have z0 := kc hF.bel d0
          have z1 := kc hF.bel d1
          go_simp
          refine hK' _ _ ⟨_, _, _, _, _, _, _, _, _, _, rfl, ⟨hF.bel, hF.b0, fun _ => rfl, hF.b2, hF.b3, hF.b7, hF.b8, hF.b9⟩⟩
        · intro L hL hd hc a w9 hI K' hK'
          obtain ⟨x2, x3, x31, x32, x33, x34, x35, x36, x37, x38, rfl, hF⟩ := hI
          obtain rfl := hF.b1 (hd 1 (by simp))
          rw [if_pos (by rfl)]
          go_simp; go_at_call 70
          refine (HV.out _ hF.bel).mono ?_
          rintro e w5 ⟨rfl, hb⟩
          go_simp
          refine hK' _ _ ⟨_, _, _, _, _, _, _, _, _, _, rfl, ⟨hF.bel.trans (hb.mono hF.bel.size), hF.b0, hF.b1, fun _ => rfl, hF.b3, hF.b7, hF.b8, hF.b9⟩⟩
        · intro L hL hd hc a w9 hI K' hK'
          obtain ⟨x2, x3, x31, x32, x33, x34, x35, x36, x37, x38, rfl, hF⟩ := hI
          obtain rfl := hF.b2 (hd 2 (by simp))
          rw [if_pos (by rfl)]
          go_simp
          refine hK' _ _ ⟨_, _, _, _, _, _, _, _, _, _, rfl, ⟨hF.bel, hF.b0, hF.b1, hF.b2, fun _ => rfl, hF.b7, hF.b8, hF.b9⟩⟩
        · intro L hL hd hc a w9 hI K' hK'
          obtain ⟨x2, x3, x31, x32, x33, x34, x35, x36, x37, x38, rfl, hF⟩ := hI
          obtain rfl := hF.b3 (hd 3 (by simp))
          rw [if_neg (by intro h; cases h)]
          simp only [Act.put, List.setIfInBounds_toArray, List.set_cons_zero, List.set_cons_succ]
          refine hK' _ _ ⟨_, _, _, _, _, _, _, _, _, _, rfl, ⟨hF.bel, hF.b0, hF.b1, hF.b2, hF.b3, hF.b7, hF.b8, hF.b9⟩⟩
        · intro L hL hd hc a w9 hI K' hK'
          obtain ⟨x2, x3, x31, x32, x33, x34, x35, x36, x37, x38, rfl, hF⟩ := hI
          obtain rfl := hF.b3 (hc 4 3 (by simp) (hd 4 (by simp)))
          rw [if_neg (by intro h; cases h)]
          simp only [Act.put, List.setIfInBounds_toArray, List.set_cons_zero, List.set_cons_succ]
          refine hK' _ _ ⟨_, _, _, _, _, _, _, _, _, _, rfl, ⟨hF.bel, hF.b0, hF.b1, hF.b2, hF.b3, hF.b7, hF.b8, hF.b9⟩⟩
        · intro L hL hd hc a w9 hI K' hK'
          obtain ⟨x2, x3, x31, x32, x33, x34, x35, x36, x37, x38, rfl, hF⟩ := hI
          obtain rfl := hF.b3 (hc 4 3 (by simp) (hc 5 4 (by simp) (hd 5 (by simp))))
          rw [if_neg (by intro h; cases h)]
          simp only [Act.put, List.setIfInBounds_toArray, List.set_cons_zero, List.set_cons_succ]
          refine hK' _ _ ⟨_, _, _, _, _, _, _, _, _, _, rfl, ⟨hF.bel, hF.b0, hF.b1, hF.b2, hF.b3, hF.b7, hF.b8, hF.b9⟩⟩
        · intro L hL hd hc a w9 hI K' hK'
          obtain ⟨x2, x3, x31, x32, x33, x34, x35, x36, x37, x38, rfl, hF⟩ := hI
          obtain rfl := hF.b3 (hd 3 (by simp))
          rw [if_pos (by rfl)]
          go_simp
          refine hK' _ _ ⟨_, _, _, _, _, _, _, _, _, _, rfl, ⟨hF.bel, hF.b0, hF.b1, hF.b2, hF.b3, fun _ => rfl, hF.b8, hF.b9⟩⟩
        · intro L hL hd hc a w9 hI K' hK'
          obtain ⟨x2, x3, x31, x32, x33, x34, x35, x36, x37, x38, rfl, hF⟩ := hI
          obtain rfl := hF.b0 (hd 0 (by simp))
          rw [if_pos (by rfl)]
          go_simp
          refine hK' _ _ ⟨_, _, _, _, _, _, _, _, _, _, rfl, ⟨hF.bel, hF.b0, hF.b1, hF.b2, hF.b3, hF.b7, fun _ => rfl, hF.b9⟩⟩
        · intro L hL hd hc a w9 hI K' hK'
          obtain ⟨x2, x3, x31, x32, x33, x34, x35, x36, x37, x38, rfl, hF⟩ := hI
          obtain rfl := hF.b7 (hd 7 (by simp))
          rw [if_pos (by rfl)]
          go_simp
          refine hK' _ _ ⟨_, _, _, _, _, _, _, _, _, _, rfl, ⟨hF.bel, hF.b0, hF.b1, hF.b2, hF.b3, hF.b7, hF.b8, fun _ => rfl⟩⟩
        · intro L hL a' w6 hI
          obtain ⟨x2, x3, x31, x32, x33, x34, x35, x36, x37, x38, rfl, hF⟩ := hI
          obtain rfl := hF.b8 (hL 8)
          obtain rfl := hF.b9 (hL 9)
          have HB6 := Lib.hid (bl_trans HB1.out hF.bel)
          clear hF hL HV d0 d1
          go_wp2
          go_ret2
          exact ⟨_, _, _, by rw [HF.out]; rfl, (fun h => by rw [HF.out] at h; cases h), HB6.out⟩
      | true =>
        simp only [hv] at HV
        have HE := Lib.hid (show clauB j c l bd = (bd == 1) by unfold clauB; rw [hv, Hq.out]; simp)
        clear hv
        go_region_held3 (fun w' => w'.cell? ⟨w.heap.size, 0, none⟩ = some (.slice A j cap) ∧ w'.cell? ⟨w.heap.size, 1, none⟩ = some (.int .i64 bd)) (go_keep)
          ((go_at_call 70; refine (HV.out _ (by first | exact (Below.refl _ _).drew | exact Below.refl _ _)).mono ?_; rintro e w5 ⟨rfl, hb⟩; have HB5 := Lib.hid hb; replace d0 := kc hb d0; replace d1 := kc hb d1; clear hb))
        have HB5w := Lib.hid ((Below.refl wr.heap.size wr).drew.trans HB5.out)
        have HB6 := Lib.hid (bl_trans HB1.out HB5w.out)
        have HO6 := Lib.hid (row_below' Hown.out HB5w.out)
        clear HV d0 d1 HB5 HB5w HB1 Hown
        go_wp2
        go_ret2
        exact ⟨_, _, _, by rw [HE.out]; rfl, (fun _ => HO6.out), HB6.out⟩
end Go.Proofs.YtbebdhjhlheboaaDoor
