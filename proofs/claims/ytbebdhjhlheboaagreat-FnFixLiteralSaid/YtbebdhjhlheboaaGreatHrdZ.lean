/- The draw of a hard problem (no claim of its own). Conditions: as each theorem states. · The draws over a hard problem (no claim of its own). Conditions: as each theorem states. · Solutions split by a variable (no claim of its own). Conditions: as each theorem states. · The draw of CountSolutions' argument (no claim of its own). Conditions: as each theorem states. -/
import Derived.Test.YtbebdhjhlheboaaGreatDrZ
import Derived.Test.YtbebdhjhlheboaaGreatSrcV
namespace Go.Proofs.YtbebdhjhlheboaaGreat
open Go.ChangeShapes Go.WideShapes Go.ChangeAt Go.RowKit

/-- What the draw of a hard problem leaves. -/
def PDh (w : World) (R K N : Nat) (e : Ending) (w' : World) : Prop := ∃ A k cap xs, e = .returned (.slice A k cap) ∧ k ≤ 16 ∧ (A = none → cap = 0) ∧ (A = none → k = 0) ∧ PX w' w.heap.size (R + 1) N (.slice A k cap) k xs ∧ Gr R w w' ∧ Rdr w' R K

set_option maxRecDepth 100000 in
set_option maxHeartbeats 3200000 in
theorem hard_any (R K : Nat) (w : World) (hK : K ≤ 700000) (h : Rdr w R K) :
    Calls Tryz.prog 16 #[.pointer (some ⟨R, 0, none⟩)] w (PDh w R (K + 4000) 12) := by
  have hRw := h.lt
  have HR := Lib.hid h
  clear h
  go_enter Tryz.func16, Tryz.ntmps16
  go_wp2_with fail
  refine (problem_any R K w (by omega) HR.out).mono ?_
  rintro e w1 ⟨A1, k1, cap1, xs1, rfl, hk1, _, _, hp, hg, hr⟩
  have HP1 := Lib.hid hp
  have GR1 := Lib.hid hg
  have RD1 := Lib.hid hr
  have hz1 : w.heap.size ≤ w1.heap.size := hg.size
  clear hp hg hr HR
  go_wp2_with fail
  refine (num_from (bl_alloc (Below.refl w1.heap.size w1) _) R (K + 1000) w1.heap.size 5 _ _ (by omega) RD1.out (by omega) (heap_alloc_new w1 _) (by rfl) (by omega) (by omega) (lit_all [2, 4, 3, 6, 0])).mono ?_
  rintro e w2 ⟨i0, rfl, hmem, hg, hr⟩
  obtain ⟨ii, rfl, hii⟩ : ∃ q : Nat, i0 = (q : Int) ∧ q ≤ 6 := by
    simp [vI] at hmem
    rcases hmem with e | e | e | e | e
    · exact ⟨2, e, by omega⟩
    · exact ⟨4, e, by omega⟩
    · exact ⟨3, e, by omega⟩
    · exact ⟨6, e, by omega⟩
    · exact ⟨0, e, by omega⟩
  have GR2 := Lib.hid (GR1.out.trans hg)
  have RD2 := Lib.hid hr
  have HP2 := Lib.hid (HP1.out.gr hg (by omega) (by omega))
  have hz2 : w.heap.size ≤ w2.heap.size := Nat.le_trans hz1 hg.size
  clear hg hr hmem GR1 RD1 HP1
  go_wp2
  go_loopw [3, 4] (fun t i wr => ∃ (j k : Nat) (xs : List Value), k + j ≤ 14 ∧ j ≤ 6 ∧ i = .int .i64 j ∧ PX wr w.heap.size (R + 1) 12 t k xs ∧ Gr R w wr ∧ Rdr wr R (K + 3000 - 200 * j)) (fun _ i _ => (intOf i).toNat)
  case atStart => exact ⟨ii, k1, _, by omega, hii, rfl, HP2.out, GR2.out, RD2.out.more (by omega)⟩
  case round =>
    obtain ⟨j, k, xs, hjk, hj6, rfl, hp, hgr, hrd⟩ := hrel
    have HP := Lib.hid hp
    have GR := Lib.hid hgr
    have RD := Lib.hid hrd
    have hsz : w.heap.size ≤ wr.heap.size := hgr.size
    clear hp hgr hrd
    cases j with
    | zero =>
      rcases HP.out.nil_or with ⟨e, hk0⟩ | ⟨g, cap0, cur, e, _⟩
      · subst e
        subst hk0
        go_wp2
        go_ret
        exact ⟨_, 0, _, _, rfl, by omega, fun _ => rfl, fun _ => rfl, HP.out, GR.out, RD.out.more (by omega)⟩
      · subst e
        go_wp2
        go_ret
        exact ⟨_, k, _, _, rfl, by omega, (HP.out.nils).1, (HP.out.nils).2, HP.out, GR.out, RD.out.more (by omega)⟩
    | succ j =>
      have hj1 : (0 : Int) < ((j + 1 : Nat) : Int) := by omega
      go_wp2_with fail
      refine (draw_any R (K + 3000 - 200 * (j + 1)) 4 _ (by omega) (by omega) RD.out).mono ?_
      rintro e w3 ⟨A', n, cap', bd, rfl, hn, hfe, hg, hr, hcp⟩
      have HP3 := Lib.hid (HP.out.gr hg hRw (by omega))
      have GR3 := Lib.hid (GR.out.trans hg)
      have RD3 := Lib.hid hr
      have HF3 := Lib.hid (hfe.more (show R + 1 ≤ _ by omega))
      have hz3 : w.heap.size ≤ w3.heap.size := GR3.out.size
      clear hfe hg hr HP GR RD
      go_upto_region 6 with fail
      have HAl := Lib.hid (bl_alloc (Below.refl w3.heap.size w3) (.cells #[.slice A' n cap', .int .i64 bd] 33))
      have hx := heap_alloc_new w3 (.cells #[.slice A' n cap', .int .i64 bd] 33)
      have hzz : (w3.alloc (.cells #[.slice A' n cap', .int .i64 bd] 33)).heap.size = w3.heap.size + 1 := World.size_alloc _ _
      generalize w3.alloc (.cells #[.slice A' n cap', .int .i64 bd] 33) = w4 at *
      obtain ⟨c5, l5, hfr⟩ := HF3.out
      have HRd := Lib.hid (hfr.rdAt.later HAl.out)
      have GQ4 := Lib.hid (Gr.of (R := R) HAl.out)
      have RD4 := Lib.hid (RD3.out.bel HAl.out)
      clear hfr RD3 HAl
      obtain ⟨X, hX⟩ : ∃ X, w3.heap.size = X := ⟨_, rfl⟩
      rw [hX] at hx hzz hz3 ⊢
      have x0 : w4.cell? ⟨X, 0, none⟩ = some (.slice A' n cap') := (cell_of_row w4 X _ _ _ _ hx).trans rfl
      have x1 : w4.cell? ⟨X, 1, none⟩ = some (.int .i64 bd) := (cell_of_row w4 X _ _ _ _ hx).trans rfl
      go_wp2_with fail
      refine (l1Total_any A' n cap' bd c5 l5 w4 (by omega) HRd.out).mono ?_
      rintro e w5 ⟨rfl, hb⟩
      have GQ5 := Lib.hid (GQ4.out.bel hb)
      have RD5 := Lib.hid (RD4.out.bel hb)
      have hx5 := (hb.block X (by omega)).trans hx
      have hz5 : X < w5.heap.size := Nat.lt_of_lt_of_le (by omega) hb.size
      clear hb hx x0 x1 GQ4 RD4 HRd
      go_wp2_with fail
      refine (pick_any R (K + 3000 - 200 * (j + 1) + 100) _ w5 (by omega) RD5.out).mono ?_
      rintro e w6 ⟨x, rfl, _, _, hg, hr⟩
      have GQ6 := Lib.hid (GQ5.out.trans hg)
      have RD6 := Lib.hid hr
      have hx6 := (hg.block X hz5 (by intro e; cases e; omega)).trans hx5
      clear hg hr hx5 GQ5 RD5 hz5
      have x0 : w6.cell? ⟨X, 0, none⟩ = some (.slice A' n cap') := (cell_of_row w6 X _ _ _ _ hx6).trans rfl
      have x1 : w6.cell? ⟨X, 1, none⟩ = some (.int .i64 bd) := (cell_of_row w6 X _ _ _ _ hx6).trans rfl
      have xf : w6.frozen? ⟨X, 1, none⟩ = false := by simp [World.frozen?, hx6]
      go_upto_region 8 with fail
      obtain ⟨b2, hb2⟩ : ∃ b2, wrap64 (totW c5 l5 n - x) = b2 := ⟨_, rfl⟩
      rw [hb2]
      have GQ7 := Lib.hid (GQ6.out.set (p := ⟨X, 1, none⟩) (.inr (by show w3.heap.size ≤ X; omega)) (.int .i64 b2))
      have RD7 := Lib.hid (RD6.out.set (p := ⟨X, 1, none⟩) (by show R < X; omega) (.int .i64 b2))
      have hx7 : (w6.setCell ⟨X, 1, none⟩ (.int .i64 b2)).heap[X]? = some (.cells #[.slice A' n cap', .int .i64 b2] 33 (0, 0)) := by simp [World.setCell, Array.getElem?_modify, hx6]
      clear x0 x1 xf hx6 GQ6 RD6
      generalize w6.setCell ⟨X, 1, none⟩ (.int .i64 b2) = w7 at *
      have x0 : w7.cell? ⟨X, 0, none⟩ = some (.slice A' n cap') := (cell_of_row w7 X _ _ _ _ hx7).trans rfl
      have x1 : w7.cell? ⟨X, 1, none⟩ = some (.int .i64 b2) := (cell_of_row w7 X _ _ _ _ hx7).trans rfl
      have HP7 := Lib.hid (HP3.out.gr GQ7.out (by omega) (by omega))
      have GR7 := Lib.hid (GR3.out.trans GQ7.out)
      have HE := Lib.hid (show El w7 (R + 1) 12 (.slice A' n cap') (.int .i64 b2) from ⟨A', n, cap', b2, rfl, rfl, by omega, HF3.out.gr GQ7.out (by omega), hcp⟩)
      have hz7 : w.heap.size ≤ w7.heap.size := GR7.out.size
      clear HF3 HP3 GR3 GQ7 hcp
      have HAl := Lib.hid (bl_alloc (Below.refl w7.heap.size w7) (.cells #[.slice A' n cap', .int .i64 b2] 33))
      go_wp2_with (at_builtin; refine wpList_plain (by rfl) fun K' hK' => ?_; refine wp_px1 _ _ (by rfl) (HP7.out.bel HAl.out) (by simp; omega) (by rfl) (by rfl) (heap_alloc_new _ _) (HE.out.bel HAl.out) (by omega) ?_; intro gg cap1 w8 zs hp4 hgr4; refine hK' _ _ ?_; clear hK' K' x0 x1)
      go_roundw
      case rel => exact ⟨j, k + 1, zs, by omega, by omega, by first | rfl | go_num | (congr 1; omega), hp4, (GR7.out.bel HAl.out).grow hgr4 (fun b e => (HP7.out.lt b e).1), ((RD7.out.bel HAl.out).grow hgr4 (fun b e => by have := (HP7.out.lt b e).1; omega)).more (by omega)⟩
      case measure => simp [intOf]; try omega
end Go.Proofs.YtbebdhjhlheboaaGreat

namespace Go.Proofs.YtbebdhjhlheboaaGreat
open Go.ChangeShapes Go.WideShapes Go.ChangeAt Go.RowKit

set_option maxRecDepth 100000 in
set_option maxHeartbeats 6400000 in
theorem mutateQ_any (R K N : Nat) (A : Option Addr) (k cap lo : Nat) (xs : List Value) (w : World) (hK : K ≤ 800000) (hN : N ≤ 100) (hk : k ≤ 16) (h : Rdr w R K) (hp : PX w lo (R + 1) N (.slice A k cap) k xs) :
    Calls Tryz.prog 15 #[.pointer (some ⟨R, 0, none⟩), .slice A k cap] w (PDh w R (K + 40) (N + 3)) := by
  have hRw := h.lt
  have HR := Lib.hid h
  have HP := Lib.hid hp
  have HN1 := Lib.hid hp.nils
  have HBa := Lib.hid (bl_alloc (Below.refl w.heap.size w) (.cells #[] 33))
  have HOw := Lib.hid (px_lit w (R + 1) N).own
  clear h hp
  go_enter Tryz.func15, Tryz.ntmps15
  by_cases hk0 : 0 < k
  · have hkI : (0 : Int) < (k : Int) := by omega
    go_wp2_with (at_builtin; refine wpList_plain (by rfl) fun K' hK' => ?_; refine wp_appC _ _ (by rfl) (by rfl) (by rfl) (by rfl) HOw.out (HP.out.bel HBa.out).src HN1.out.2 HN1.out.1 (by simp) (by omega) ?_; intro v1 w1 hown1 hg1; have HP1 := Lib.hid (px_copy HP.out hown1 hg1); obtain ⟨A1, cap1, e1⟩ := HP1.out.shape; subst e1; have GR1 := Lib.hid ((Gr.of (R := R) HBa.out).grow (ov := .slice (some ⟨w.heap.size, 0, none⟩) 0 0) hg1 (by intro j e; cases e; exact Nat.le_refl _)); have RD1 := Lib.hid ((HR.out.bel HBa.out).grow (ov := .slice (some ⟨w.heap.size, 0, none⟩) 0 0) hg1 (by intro j e; cases e; exact hRw)); clear hown1 hg1; refine hK' _ _ ?_; clear hK' K')
    refine (pick_any R K 20 _ (by omega) RD1.out).mono ?_
    rintro e w2 ⟨x, rfl, hx0, hx1, hg, hr⟩
    have HP2 := Lib.hid (HP1.out.gr hg hRw (by omega))
    have GR2 := Lib.hid (GR1.out.trans hg)
    have RD2 := Lib.hid hr
    clear hg hr HP1 GR1 RD1
    by_cases h0 : x = 0
    · subst h0
      clear hx0 hx1
      go_wp2_with fail
      refine (pick_any R (K + 1) (k : Int) _ (by omega) RD2.out).mono ?_
      rintro e w3 ⟨yy, rfl, hy0, hy1, hg, hr⟩
      obtain ⟨y, rfl⟩ := Int.eq_ofNat_of_zero_le hy0
      have hy : y < k := by omega
      have HP3 := Lib.hid (HP2.out.gr hg hRw (by omega))
      have GR3 := Lib.hid (GR2.out.trans hg)
      have RD3 := Lib.hid hr
      clear hg hr HP2 GR2 RD2 hy0 hy1
      rcases HP3.out.nil_or with ⟨_, hkk⟩ | ⟨g, capg, cur, e, _⟩
      · exact absurd hkk (by omega)
      cases e
      obtain ⟨va, vb, hxa, hxb, An, n, capn, bd, rfl, rfl, hn, ⟨c, l, hfr⟩, hcp⟩ := HP3.out.els y hy
      have c0 : w3.cell? ⟨g, y * 2, none⟩ = some (.slice An n capn) := (HP3.out.own.cellAt (y * 2) (by omega)).trans hxa
      have c1 : w3.cell? ⟨g, y * 2 + 1, none⟩ = some (.int .i64 bd) := (HP3.out.own.cellAt (y * 2 + 1) (by omega)).trans hxb
      have HRd := Lib.hid hfr.rdAt
      have HCp := Lib.hid hcp
      have hyI : (y : Int) < (k : Int) := by omega
      clear hxa hxb hfr hcp
      go_wp2_with fail
      refine (mutate_any R (K + 1 + 1) _ _ _ _ c l _ (by omega) (by omega) RD3.out HRd.out HCp.out).mono ?_
      rintro e w4 ⟨A4, n4, cap4, bd4, rfl, hn4, hfe, hg, hr, hcp⟩
      obtain ⟨c4, l4, hfr⟩ := hfe
      have HP4 := Lib.hid (HP3.out.gr hg hRw (by omega))
      have GR4 := Lib.hid (GR3.out.trans hg)
      have RD4 := Lib.hid hr
      have HRd4 := Lib.hid hfr.rdAt
      have HCp4 := Lib.hid hcp
      clear hg hr hfr hcp HP3 GR3 RD3 HRd HCp c0 c1
      go_wp2_with fail
      refine (mutate_any R (K + 1 + 1 + 10) _ _ _ _ c4 l4 _ (by omega) (by omega) RD4.out HRd4.out HCp4.out).mono ?_
      rintro e w5 ⟨A5, n5, cap5, bd5, rfl, hn5, hfe, hg, hr, hcp⟩
      obtain ⟨c5, l5, hfr⟩ := hfe
      have HP5 := Lib.hid (HP4.out.gr hg hRw (by omega))
      have GR5 := Lib.hid (GR4.out.trans hg)
      have RD5 := Lib.hid hr
      have HRd5 := Lib.hid hfr.rdAt
      have HCp5 := Lib.hid hcp
      clear hg hr hfr hcp HP4 GR4 RD4 HRd4 HCp4
      go_wp2_with fail
      refine (mutate_any R (K + 1 + 1 + 10 + 10) _ _ _ _ c5 l5 _ (by omega) (by omega) RD5.out HRd5.out HCp5.out).mono ?_
      rintro e w6 ⟨A6, n6, cap6, bd6, rfl, hn6, hfe, hg, hr, hcp⟩
      have HE := Lib.hid (show El w6 (R + 1) (N + 3) (.slice A6 n6 cap6) (.int .i64 bd6) from ⟨A6, n6, cap6, bd6, rfl, rfl, by omega, hfe.more (by have := RD5.out.lt; omega), hcp⟩)
      have HP6 := Lib.hid ((HP5.out.gr hg hRw (by omega)).up (show N ≤ N + 3 by omega))
      have GR6 := Lib.hid (GR5.out.trans hg)
      have RD6 := Lib.hid hr
      clear hg hr hfe hcp HP5 GR5 RD5 HRd5 HCp5
      obtain ⟨zs, hps⟩ := HP6.out.put hy HE.out
      have HPs := Lib.hid hps
      obtain ⟨va, vb, hxa, hxb, _⟩ := HP6.out.els y hy
      have u0 : w6.cell? ⟨g, y * 2, none⟩ = some va := (HP6.out.own.cellAt (y * 2) (by omega)).trans hxa
      have u1 : w6.cell? ⟨g, y * 2 + 1, none⟩ = some vb := (HP6.out.own.cellAt (y * 2 + 1) (by omega)).trans hxb
      have f0 := HP6.out.own.frozenAt (y * 2)
      have f1 := HP6.out.own.frozenAt (y * 2 + 1)
      have HG := Lib.hid (show w.heap.size ≤ g from (HP6.out.lt g rfl).1)
      clear hxa hxb hps
      go_wp2
      go_ret
      exact ⟨_, k, _, zs, rfl, hk, (fun h => by cases h), (fun h => by cases h), HPs.out, (GR6.out.set (p := ⟨g, y * 2, none⟩) (.inr HG.out) _).set (p := ⟨g, y * 2 + 1, none⟩) (.inr HG.out) _, ((RD6.out.set (p := ⟨g, y * 2, none⟩) (by show R < g; have := HG.out; omega) _).set (p := ⟨g, y * 2 + 1, none⟩) (by show R < g; have := HG.out; omega) _).more (by omega)⟩
    · have hd0 : (x == 0) = false := by rw [beq_eq_false_iff_ne]; exact h0
      clear hx0 hx1 h0
      go_wp2
      go_ret
      exact ⟨_, k, _, _, rfl, hk, HP2.out.nils.1, HP2.out.nils.2, HP2.out.up (by omega), GR2.out, RD2.out.more (by omega)⟩
  · obtain rfl : k = 0 := by omega
    go_wp2_with (at_builtin; refine wpList_plain (by rfl) fun K' hK' => ?_; refine wp_appC _ _ (by rfl) (by rfl) (by rfl) (by rfl) HOw.out (HP.out.bel HBa.out).src HN1.out.2 HN1.out.1 (by simp) (by omega) ?_; intro v1 w1 hown1 hg1; have HP1 := Lib.hid (px_copy HP.out hown1 hg1); obtain ⟨A1, cap1, e1⟩ := HP1.out.shape; subst e1; have GR1 := Lib.hid ((Gr.of (R := R) HBa.out).grow (ov := .slice (some ⟨w.heap.size, 0, none⟩) 0 0) hg1 (by intro j e; cases e; exact Nat.le_refl _)); have RD1 := Lib.hid ((HR.out.bel HBa.out).grow (ov := .slice (some ⟨w.heap.size, 0, none⟩) 0 0) hg1 (by intro j e; cases e; exact hRw)); clear hown1 hg1; refine hK' _ _ ?_; clear hK' K')
    go_ret
    exact ⟨_, 0, _, _, rfl, by omega, HP1.out.nils.1, HP1.out.nils.2, HP1.out.up (by omega), GR1.out, RD1.out.more (by omega)⟩
end Go.Proofs.YtbebdhjhlheboaaGreat

namespace Go.Proofs.YtbebdhjhlheboaaGreat
open Go.ChangeShapes Go.WideShapes Go.ChangeAt Go.RowKit

/-- The constraint that a literal is true. -/
def oneC (z : Int) : Con := ⟨1, 1, fun _ => 1, fun _ => z⟩
theorem oneC_ok {z : Int} (hz : litB z = true) : okC (oneC z) := by
  obtain ⟨h0, h1, h2⟩ := litB_iff.1 hz
  rcases (show z = -12 ∨ z = -11 ∨ z = -10 ∨ z = -9 ∨ z = -8 ∨ z = -7 ∨ z = -6 ∨ z = -5 ∨ z = -4 ∨ z = -3 ∨ z = -2 ∨ z = -1 ∨ z = 1 ∨ z = 2 ∨ z = 3 ∨ z = 4 ∨ z = 5 ∨ z = 6 ∨ z = 7 ∨ z = 8 ∨ z = 9 ∨ z = 10 ∨ z = 11 ∨ z = 12 by omega) with rfl | rfl | rfl | rfl | rfl | rfl | rfl | rfl | rfl | rfl | rfl | rfl | rfl | rfl | rfl | rfl | rfl | rfl | rfl | rfl | rfl | rfl | rfl | rfl <;> rfl
theorem oneC_eval {z : Int} (hz : litB z = true) (u : Nat → Bool) : evalV 1 (oneC z).c (oneC z).l 1 12 u = trueP u z := by
  have hv : validB (oneC z).n (oneC z).c (oneC z).l (oneC z).bd = true := oneC_ok hz
  have h1 : evW (oneC z).c (oneC z).l u 1 = sB (oneC z).c (oneC z).l (trueP u) 1 := sumW_sB (by omega) (coef_of hv)
  show evalV (oneC z).n (oneC z).c (oneC z).l (oneC z).bd 12 u = _
  rw [evalV_yes hv, show (oneC z).n = 1 from rfl, h1]
  show decide ((1 : Int) ≤ if trueP u z then 0 + 1 else 0) = trueP u z
  cases trueP u z <;> rfl
theorem filter_split (q t : Nat → Bool) (L : List Nat) : (L.filter fun k => q k && t k).length + (L.filter fun k => q k && !t k).length = (L.filter q).length := by
  induction L with
  | nil => rfl
  | cons x L ih =>
    cases hq : q x <;> cases ht : t x <;> simp [hq, ht] <;> omega
theorem one_prob {m : Nat} {p : Nat → Con} (hv : probB m p = true) (h4 : m + 1 ≤ 400) {z : Int} (hz : litB z = true) : probB (m + 1) (catP m p fun _ => oneC z) = true := by
  have h1 := prob_all hv
  have h2 : allV (fun _ => oneC z) 1 = true := by
    show (true && validB (oneC z).n (oneC z).c (oneC z).l (oneC z).bd) = true
    rw [Bool.true_and]
    exact oneC_ok hz
  unfold probB
  rw [allV_cat, h1, h2, decide_eq_true h4]
  rfl
theorem one_qS (m : Nat) (p : Nat → Con) {z : Int} (hz : litB z = true) (k : Nat) : qS (catP m p fun _ => oneC z) (m + 1) k = (qS p m k && trueP (valN k) z) := by
  unfold qS
  rw [allE_cat]
  have h : allE (fun _ => oneC z) (valN k) 1 = trueP (valN k) z := by
    show (true && evalV 1 (oneC z).c (oneC z).l 1 12 (valN k)) = _
    rw [Bool.true_and, oneC_eval hz]
  rw [h]
theorem cnt_split {m : Nat} {p : Nat → Con} (hv : probB m p = true) (h4 : m + 1 ≤ 400) {z : Int} (hz : litB z = true) : cntS m p = cntS (m + 1) (catP m p fun _ => oneC z) + cntS (m + 1) (catP m p fun _ => oneC (-z)) := by
  have hz' : litB (-z) = true := litB_ng hz
  unfold cntS
  rw [if_pos hv, if_pos (one_prob hv h4 hz), if_pos (one_prob hv h4 hz')]
  unfold sols
  rw [solL_none, solL_none, solL_none, show qS (catP m p fun _ => oneC z) (m + 1) = (fun k => qS p m k && trueP (valN k) z) from funext fun k => one_qS m p hz k,
    show qS (catP m p fun _ => oneC (-z)) (m + 1) = (fun k => qS p m k && !trueP (valN k) z) from funext fun k => by rw [one_qS m p hz', trueP_neg hz]]
  exact (filter_split _ _ _).symm
end Go.Proofs.YtbebdhjhlheboaaGreat

namespace Go.Proofs.YtbebdhjhlheboaaGreat
open Go.ChangeShapes Go.WideShapes Go.ChangeAt Go.RowKit

def DCs (w : World) (e : Ending) (w' : World) : Prop := ∃ Al k capl xs lo el, e = .returned (.slice Al k capl) ∧ k ≤ 16 ∧ PX w' lo el 15 (.slice Al k capl) k xs ∧ Below w.heap.size w w'

theorem src_one {W : World} {H : Nat} {a b : Value} {T : TypeId} (h : W.heap[H]? = some (.cells #[a, b] T (0, 0))) (ha : a.oneCell' = true) (hb : b.oneCell' = true) : SrcC W (some ⟨H, 0, none⟩) 1 [a, b] := by
  refine ⟨rfl, fun u hu => ?_, fun x e j u hu => ?_⟩
  · rcases List.mem_cons.1 hu with e | hu
    · rw [e]; exact ha
    · rw [List.mem_singleton.1 hu]; exact hb
  · cases e
    have h2 : (⟨H, 0, none⟩ : Addr).add j = ⟨H, j, none⟩ := by simp [Addr.add]; omega
    rw [h2]
    exact (cell_of_row W H j _ _ _ h).trans (by rw [← Array.getElem?_toList]; exact hu)
theorem cntS_le (m : Nat) (p : Nat → Con) : cntS m p ≤ 4096 := by
  unfold cntS
  split
  · exact sols_len m p
  · omega
theorem one_size {m : Nat} {p : Nat → Con} (h : ∀ i, i < m → (p i).n ≤ 1048576) (z : Int) : ∀ i, i < m + 1 → (catP m p (fun _ => oneC z) i).n ≤ 1048576 := fun i _ => by
  unfold catP
  split
  · exact h i ‹_›
  · show 1 ≤ 1048576
    omega
theorem pxp_one {W : World} {T c : Nat} {z : Int} {ty : TypeId} (h : W.heap[T]? = some (.cells #[.int .i64 1, .int .i64 z] ty (0, 0))) : PxP W 1 (fun _ => oneC z) [.slice (some ⟨T, 0, none⟩) 1 c, .int .i64 1] := fun i hi => by
  obtain rfl : i = 0 := by omega
  refine ⟨some ⟨T, 0, none⟩, c, rfl, rfl, fun _ => ⟨T, 0, rfl, (Array.getElem?_eq_some_iff.1 h).1, fun j hj => ?_⟩⟩
  obtain rfl : j = 0 := by
    have : j < 1 := hj
    omega
  exact ⟨(cell_of_row W T _ _ _ _ h).trans rfl, (cell_of_row W T _ _ _ _ h).trans rfl⟩

end Go.Proofs.YtbebdhjhlheboaaGreat

