/- Permutations as arrays: sorted, and whether sizes are kept (no claim of its own). Conditions: as each theorem states. -/
import Derived.Test.YtafiikfaeomhpaaPrmI
import Derived.Test.YtafiikfaeomhpaaPrmE
import Derived.Test.YtafiikfaeomhpaaCviA
import Derived.Deep.RegionHeld3
namespace Go.Proofs.Ytafiikfaeomhpaa
open Go.ChangeShapes Go.WideShapes Go.ChangeAt Go.RowKit Go.Shelf

theorem vl5 (u : Nat → Int) : vlst u 5 = [u 0, u 1, u 2, u 3, u 4] := rfl
theorem OwnV.holds5 {w : World} {G : Nat} {T : TypeId} {u : Nat → Int} (h : OwnV w G T 5 5 u) : Go.Sort.Holds Go.encZ w G 0 (vlst u 5).toArray := by
  intro j hj
  rw [vl5] at hj ⊢
  have hj5 : j < 5 := by simpa using hj
  refine ⟨?_, by rw [Nat.zero_add]; exact h.frozen j⟩
  rw [Nat.zero_add, h.valP hj5]
  have : j = 0 ∨ j = 1 ∨ j = 2 ∨ j = 3 ∨ j = 4 := by omega
  rcases this with rfl | rfl | rfl | rfl | rfl <;> rfl
theorem holds_srA {w : World} {G : Nat} {u : Nat → Int} (h : Go.Sort.Holds Go.encZ w G 0 (srt u 5).toArray) {j : Nat} (hj : j < 5) : w.cell? ⟨G, j, none⟩ = some (.int .i64 (srA u j)) := by
  obtain ⟨a, b, c, d, e, hl⟩ := list5 (srt_length u 5)
  have := (h j (by rw [hl]; simpa using hj)).1
  rw [Nat.zero_add] at this
  rw [this]
  unfold srA
  rw [hl]
  have : j = 0 ∨ j = 1 ∨ j = 2 ∨ j = 3 ∨ j = 4 := by omega
  rcases this with rfl | rfl | rfl | rfl | rfl <;> rfl

set_option linter.unusedVariables false in
set_option linter.unusedSimpArgs false in
set_option maxRecDepth 100000 in
set_option maxHeartbeats 1600000 in
theorem psorted_any (u : Nat → Int) (w : World) :
    Calls Try.prog 79 #[arr5 u] w fun e w' => e = .returned (arr5 (srA u)) ∧ Below w.heap.size w w' := by
  obtain ⟨WA, hWA⟩ : ∃ W, w.alloc (.cells #[.int .i64 (u 0), .int .i64 (u 1), .int .i64 (u 2), .int .i64 (u 3), .int .i64 (u 4)] 64) = W := ⟨_, rfl⟩
  obtain ⟨WB, hWB⟩ : ∃ W, WA.alloc (.cells #[.int .i64 0, .int .i64 0, .int .i64 0, .int .i64 0, .int .i64 0] 64) = W := ⟨_, rfl⟩
  have sA : WA.heap.size = w.heap.size + 1 := by rw [← hWA]; simp
  have sB : WB.heap.size = w.heap.size + 2 := by rw [← hWB]; simp [sA]
  have bA : Below w.heap.size w WA := by rw [← hWA]; exact bl_alloc (Below.refl _ _) _
  have bB : Below WA.heap.size WA WB := by rw [← hWB]; exact bl_alloc (Below.refl _ _) _
  have o1 : OwnV WA w.heap.size 64 5 5 u := by rw [← hWA]; exact own5_box u
  have o2 : OwnV WB (w.heap.size + 1) 64 5 0 u := by rw [← hWB, ← sA]; exact own5_new u
  have o1B := o1.below bB
  have hS := AnyM.slices_Sort_int Try.sortV w.heap.size 0 5 (vlst u 5) WB o1B.holds5 (by omega) (by rw [vlst_length]; omega)
  rw [vlst_length, show ((vlst u 5).mergeSort fun x y => decide (x ≤ y)) = srt u 5 from rfl] at hS
  change Calls Try.prog 104 _ _ _ at hS
  have hS2 : Calls Try.prog 104 #[.slice (some ⟨w.heap.size, 0, none⟩) 5 5] WB fun e w' => e = .returned (.tuple #[]) ∧ ∃ m os, w' = sortWorld Go.encZ WB w.heap.size 0 m (srt u 5).toArray os := hS
  have HS := Lib.hid hS2
  have HH := Lib.hid o1B.holds5
  have HB := Lib.hid (bl_trans bA bB)
  have O2 := Lib.hid o2
  have SB := Lib.hid sB
  clear bA bB o1 o2 o1B hS hS2
  unfold arr5
  go_enter Try.func79, Try.ntmps79
  go_wp2_with fail
  clear hWA hWB sA sB
  refine HS.out.mono ?_
  rintro e w2 ⟨rfl, m, os, rfl⟩
  have hgl : w.heap.size < WB.heap.size := by have := SB.out; omega
  have hd : (srt u 5).toArray.size = (vlst u 5).toArray.size := by simp [srt_length, vlst_length]
  have hx : Go.Sort.Holds Go.encZ (sortWorld Go.encZ WB w.heap.size 0 m (srt u 5).toArray os) w.heap.size 0 (srt u 5).toArray := holds_sortWorld Go.encZ WB w.heap.size 0 m (vlst u 5).toArray (srt u 5).toArray os hgl HH.out hd
  have hg : WB.grownBy (sortWorld Go.encZ WB w.heap.size 0 m (srt u 5).toArray os) (some w.heap.size) := grownBy_sorted_i _
  generalize sortWorld Go.encZ WB w.heap.size 0 m (srt u 5).toArray os = W at *
  have oz := O2.out.at_ (hg.block (w.heap.size + 1) (by have := SB.out; omega) (by simp))
  have HBW := Lib.hid (HB.out.grown hg HB.out.size (fun k e => by cases e; exact Nat.le_refl _))
  have c0 := holds_srA hx (j := 0) (by omega)
  have c1 := holds_srA hx (j := 1) (by omega)
  have c2 := holds_srA hx (j := 2) (by omega)
  have c3 := holds_srA hx (j := 3) (by omega)
  have c4 := holds_srA hx (j := 4) (by omega)
  obtain ⟨yz0, z0⟩ := oz.cell (j := 0) (by omega)
  obtain ⟨yz1, z1⟩ := oz.cell (j := 1) (by omega)
  obtain ⟨yz2, z2⟩ := oz.cell (j := 2) (by omega)
  obtain ⟨yz3, z3⟩ := oz.cell (j := 3) (by omega)
  obtain ⟨yz4, z4⟩ := oz.cell (j := 4) (by omega)
  have fz0 := oz.frozen 0
  have fz1 := oz.frozen 1
  have fz2 := oz.frozen 2
  have fz3 := oz.frozen 3
  have fz4 := oz.frozen 4
  clear oz hx hg hd hgl HH HS HB O2 SB
  obtain ⟨x, hx⟩ : ∃ x, srA u = x := ⟨_, rfl⟩
  rw [hx] at c0 c1 c2 c3 c4
  have Hx := Lib.hid hx
  clear hx
  go_wp2
  refine bodyPost_ret (v := arr5 x) (by simp [results, Try.results79, go_sem, z0, z1, z2, z3, z4, arr5]) rfl ?_
  rw [Hx.out]
  exact ⟨rfl, (((((HBW.out.setCell (p := ⟨w.heap.size + 1, 0, none⟩) (Nat.le_succ _) _).setCell (p := ⟨w.heap.size + 1, 1, none⟩) (Nat.le_succ _) _).setCell (p := ⟨w.heap.size + 1, 2, none⟩) (Nat.le_succ _) _).setCell (p := ⟨w.heap.size + 1, 3, none⟩) (Nat.le_succ _) _).setCell (p := ⟨w.heap.size + 1, 4, none⟩) (Nat.le_succ _) _)⟩

set_option linter.unusedVariables false in
set_option linter.unusedSimpArgs false in
set_option maxRecDepth 100000 in
set_option maxHeartbeats 1600000 in
theorem keeps_any (s : Lst) (n : Nat) (As Ar : Option Addr) (cs cr : Nat) (p : Nat → Int) (w : World) (h1 : 1 ≤ s.n) (h5 : s.n ≤ 5) (hp : ∀ i, i < 5 → 0 ≤ p i ∧ p i ≤ 4) (hs : RdI w w.heap.size As s.n s.x) :
    Calls Try.prog 80 #[.agg #[.slice As s.n cs, .slice Ar n cr], arr5 p] w fun e w' => e = .returned (.bool (eq5 (mvF p (cvV s.n s.x) 5) (cvV s.n s.x))) ∧ Below w.heap.size w w' := by
  have a0 : (w.alloc (.cells #[.slice As s.n cs, .slice Ar n cr] 30)).cell? ⟨w.heap.size, 0, none⟩ = some (.slice As s.n cs) := by go_simp
  obtain ⟨WA, hWA⟩ : ∃ W, w.alloc (.cells #[.slice As s.n cs, .slice Ar n cr] 30) = W := ⟨_, rfl⟩
  rw [hWA] at a0
  obtain ⟨WB, hWB⟩ : ∃ W, WA.alloc (.cells #[.int .i64 (p 0), .int .i64 (p 1), .int .i64 (p 2), .int .i64 (p 3), .int .i64 (p 4)] 64) = W := ⟨_, rfl⟩
  have sA : WA.heap.size = w.heap.size + 1 := by rw [← hWA]; simp
  have sB : WB.heap.size = w.heap.size + 2 := by rw [← hWB]; simp [sA]
  have bA : Below w.heap.size w WA := by rw [← hWA]; exact bl_alloc (Below.refl _ _) _
  have bB : Below WA.heap.size WA WB := by rw [← hWB]; exact bl_alloc (Below.refl _ _) _
  replace a0 := kc bB a0
  have o1 : OwnV WB (w.heap.size + 1) 64 5 5 p := by rw [← hWB, ← sA]; exact own5_box p
  have HB := Lib.hid (bl_trans bA bB)
  have HR := Lib.hid (hs.later HB.out)
  have O1 := Lib.hid o1
  have HP := Lib.hid hp
  have SB := Lib.hid sB
  clear bA bB o1 hs hp
  obtain ⟨v, hv⟩ : ∃ v, cvV s.n s.x = v := ⟨_, rfl⟩
  rw [hv]
  obtain ⟨x, hx⟩ : ∃ x, mvF p v 5 = x := ⟨_, rfl⟩
  rw [hx]
  have HX := Lib.hid hx
  clear hx
  have HV := Lib.hid hv
  clear hv
  unfold arr5
  go_enter Try.func80, Try.ntmps80
  go_wp2_with fail
  clear hWA hWB sA sB
  refine (cvo_any s.n cs As s.x _ h5 h1 HR.out).mono ?_
  rw [HV.out]
  rintro e w2 ⟨rfl, hb⟩
  have o1 := O1.out.below hb
  have hz2 : w.heap.size + 2 ≤ w2.heap.size := by have := SB.out; have := hb.size; omega
  have HB2 := Lib.hid (bl_trans HB.out hb)
  clear hb HR a0 O1 HB SB
  unfold arr5
  obtain ⟨W3, hW3⟩ : ∃ W, w2.alloc (.cells #[.int .i64 0, .int .i64 0, .int .i64 0, .int .i64 0, .int .i64 0] 69) = W := ⟨_, rfl⟩
  have hb := bl_alloc (Below.refl w2.heap.size w2) (.cells #[.int .i64 0, .int .i64 0, .int .i64 0, .int .i64 0, .int .i64 0] 69)
  have o2 := own5_new (w := w2) (T := 69) v
  rw [hW3] at hb o2
  replace o1 := o1.below hb
  have HB3 := Lib.hid (bl_trans HB2.out hb)
  obtain ⟨H, hH⟩ : ∃ H, w2.heap.size = H := ⟨_, rfl⟩
  rw [hH] at o2 hz2
  obtain ⟨yz0, z0⟩ := o2.cell (j := 0) (by omega)
  obtain ⟨yz1, z1⟩ := o2.cell (j := 1) (by omega)
  obtain ⟨yz2, z2⟩ := o2.cell (j := 2) (by omega)
  obtain ⟨yz3, z3⟩ := o2.cell (j := 3) (by omega)
  obtain ⟨yz4, z4⟩ := o2.cell (j := 4) (by omega)
  have fz0 := o2.frozen 0
  have fz1 := o2.frozen 1
  have fz2 := o2.frozen 2
  have fz3 := o2.frozen 3
  have fz4 := o2.frozen 4
  have o3 := o2.put5 (v := v)
  have o4 := o1.far5 (H := H) (by omega) v
  have hle : w.heap.size ≤ H := by omega
  have hbb := bel5 HB3.out hle v
  have HO3 := Lib.hid o3
  have HO4 := Lib.hid o4
  have HBB := Lib.hid hbb
  clear o1 o2 o3 o4 hbb hb HB2 HB3
  go_wp2
  clear hW3 z0 z1 z2 z3 z4 fz0 fz1 fz2 fz3 fz4
  generalize (((((W3.setCell ⟨H, 0, none⟩ (.int .i64 (v 0))).setCell ⟨H, 1, none⟩ (.int .i64 (v 1))).setCell ⟨H, 2, none⟩ (.int .i64 (v 2))).setCell ⟨H, 3, none⟩ (.int .i64 (v 3))).setCell ⟨H, 4, none⟩ (.int .i64 (v 4))) = W4 at *
  have c0 := HO4.out.valP (j := 0) (by omega)
  have c1 := HO4.out.valP (j := 1) (by omega)
  have c2 := HO4.out.valP (j := 2) (by omega)
  have c3 := HO4.out.valP (j := 3) (by omega)
  have c4 := HO4.out.valP (j := 4) (by omega)
  have d0 := HO3.out.valP (j := 0) (by omega)
  have d1 := HO3.out.valP (j := 1) (by omega)
  have d2 := HO3.out.valP (j := 2) (by omega)
  have d3 := HO3.out.valP (j := 3) (by omega)
  have d4 := HO3.out.valP (j := 4) (by omega)
  have hE := eqRunC (mvF p v 5) v
  have hm := fun W => move_any p v W HP.out
  rw [HX.out] at hE hm
  unfold arr5 at hm
  have HM := Lib.hid hm
  clear HO3 HO4 HP hm HX
  go_region_held3 (fun w' => w'.cell? ⟨w.heap.size + 1, 0, none⟩ = some (.int .i64 (p 0)) ∧ w'.cell? ⟨w.heap.size + 1, 1, none⟩ = some (.int .i64 (p 1)) ∧ w'.cell? ⟨w.heap.size + 1, 2, none⟩ = some (.int .i64 (p 2)) ∧ w'.cell? ⟨w.heap.size + 1, 3, none⟩ = some (.int .i64 (p 3)) ∧ w'.cell? ⟨w.heap.size + 1, 4, none⟩ = some (.int .i64 (p 4)) ∧ w'.cell? ⟨H, 0, none⟩ = some (.int .i64 (v 0)) ∧ w'.cell? ⟨H, 1, none⟩ = some (.int .i64 (v 1)) ∧ w'.cell? ⟨H, 2, none⟩ = some (.int .i64 (v 2)) ∧ w'.cell? ⟨H, 3, none⟩ = some (.int .i64 (v 3)) ∧ w'.cell? ⟨H, 4, none⟩ = some (.int .i64 (v 4))) (go_keep)
    ((go_at_call 46; refine (HM.out _).mono ?_; rintro e w5 ⟨rfl, hb⟩; have HB5 := Lib.hid (Below.trans (B := w.heap.size) (a := w) (by first | exact HBB.out | exact HBB.out.drew | exact HBB.out.drew.drew) (hb.mono (by first | exact HBB.out.size | exact HBB.out.drew.size | exact HBB.out.drew.drew.size))); replace c0 := kc hb c0; replace c1 := kc hb c1; replace c2 := kc hb c2; replace c3 := kc hb c3; replace c4 := kc hb c4; replace d0 := kc hb d0; replace d1 := kc hb d1; replace d2 := kc hb d2; replace d3 := kc hb d3; replace d4 := kc hb d4; clear hb))
  go_wp2
  go_ret
  exact ⟨rfl, by first | exact HB5.out | exact HB5.out.drew⟩
end Go.Proofs.Ytafiikfaeomhpaa
