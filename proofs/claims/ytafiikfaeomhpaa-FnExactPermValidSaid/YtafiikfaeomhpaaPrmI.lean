/- Permutations as arrays: the program's side (no claim of its own). Conditions: as each theorem states. -/
import Derived.Test.YtafiikfaeomhpaaPrmM
import Derived.Test.YtafiikfaeomhpaaLsv
import Derived.Lib.SlKeysI
import Derived.Shelf.GgSortFunc.Compose
namespace Go.Proofs.Ytafiikfaeomhpaa
open Go.ChangeShapes Go.WideShapes Go.ChangeAt Go.RowKit Go.Shelf

theorem own5_new {w : World} {T : TypeId} (u : Nat → Int) : OwnV (w.alloc (.cells #[.int .i64 0, .int .i64 0, .int .i64 0, .int .i64 0, .int .i64 0] T)) w.heap.size T 5 0 u :=
  ⟨_, heap_alloc_new _ _, by simp, fun i hi => absurd hi (by omega)⟩
theorem own5_box {w : World} {T : TypeId} (u : Nat → Int) : OwnV (w.alloc (.cells #[.int .i64 (u 0), .int .i64 (u 1), .int .i64 (u 2), .int .i64 (u 3), .int .i64 (u 4)] T)) w.heap.size T 5 5 u := by
  refine ⟨_, heap_alloc_new _ _, by simp, fun i hi => ?_⟩
  have : i = 0 ∨ i = 1 ∨ i = 2 ∨ i = 3 ∨ i = 4 := by omega
  rcases this with rfl | rfl | rfl | rfl | rfl <;> rfl
theorem OwnV.valP {w : World} {G n : Nat} {T : TypeId} {v : Nat → Int} (h : OwnV w G T n n v) {j : Nat} (hj : j < n) : w.cell? ⟨G, j, none⟩ = some (.int .i64 (v j)) := by
  obtain ⟨cs, h1, h2, h3⟩ := h
  exact (cell_of_row _ G j cs _ _ h1).trans (h3 j hj)
theorem OwnV.farP {w : World} {G n k : Nat} {T : TypeId} {v : Nat → Int} (h : OwnV w G T n k v) {p : Addr} (hp : G ≠ p.block) (u : Value) : OwnV (w.setCell p u) G T n k v :=
  by obtain ⟨cs, h1, h2, h3⟩ := h; exact ⟨cs, (Below.heap_setCell w p u G hp).trans h1, h2, h3⟩

/-- What stands in a box of five numbers: handed back as an array. -/
structure Bx5 (w : World) (G : Nat) : Prop where
  c0 : ∃ v, w.cell? ⟨G, 0, none⟩ = some v
  c1 : ∃ v, w.cell? ⟨G, 1, none⟩ = some v
  c2 : ∃ v, w.cell? ⟨G, 2, none⟩ = some v
  c3 : ∃ v, w.cell? ⟨G, 3, none⟩ = some v
  c4 : ∃ v, w.cell? ⟨G, 4, none⟩ = some v

set_option linter.unusedVariables false in
set_option linter.unusedSimpArgs false in
set_option maxRecDepth 100000 in
set_option maxHeartbeats 1600000 in
theorem identity_any (w : World) :
    Calls Try.prog 78 #[] w fun e w' => e = .returned (arr5 idn) ∧ Below w.heap.size w w' := by
  have hb1 := bl_alloc (bl_alloc (Below.refl w.heap.size w) (.cells #[.int .i64 0, .int .i64 0, .int .i64 0, .int .i64 0, .int .i64 0] 64)) (.cells #[.int .i64 0, .int .i64 0, .int .i64 0, .int .i64 0, .int .i64 0] 64)
  have hz := (own5_new (w := w) (T := 64) idn).at_ (w' := (w.alloc (.cells #[.int .i64 0, .int .i64 0, .int .i64 0, .int .i64 0, .int .i64 0] 64)).alloc (.cells #[.int .i64 0, .int .i64 0, .int .i64 0, .int .i64 0, .int .i64 0] 64)) ((bl_alloc (Below.refl _ (w.alloc (.cells #[.int .i64 0, .int .i64 0, .int .i64 0, .int .i64 0, .int .i64 0] 64))) _).block _ (by simp))
  have ho := own5_new (w := w.alloc (.cells #[.int .i64 0, .int .i64 0, .int .i64 0, .int .i64 0, .int .i64 0] 64)) (T := 64) idn
  have hsz : (w.alloc (.cells #[.int .i64 0, .int .i64 0, .int .i64 0, .int .i64 0, .int .i64 0] 64)).heap.size = w.heap.size + 1 := by simp
  rw [hsz] at ho
  have HB := Lib.hid hb1
  have HZ := Lib.hid hz
  have HO := Lib.hid ho
  clear hb1 hz ho hsz
  go_enter Try.func78, Try.ntmps78
  go_wp2
  generalize ((w.alloc (.cells #[.int .i64 0, .int .i64 0, .int .i64 0, .int .i64 0, .int .i64 0] 64)).alloc (.cells #[.int .i64 0, .int .i64 0, .int .i64 0, .int .i64 0, .int .i64 0] 64)) = W1 at *
  go_loopw [3] (fun i wr => ∃ k : Nat, k ≤ 5 ∧ i = .int .i64 k ∧ OwnV wr (w.heap.size + 1) 64 5 k idn ∧ OwnV wr w.heap.size 64 5 0 idn ∧ Below w.heap.size w wr) (fun i _ => 5 - (intOf i).toNat)
  case atStart => exact ⟨0, Nat.zero_le _, rfl, HO.out, HZ.out, HB.out⟩
  case round =>
    obtain ⟨k, hk, rfl, hown, hz, hb⟩ := hrel
    by_cases hlt : k < 5
    · obtain ⟨y1, hy1⟩ := hown.cell hlt
      have hf1 := hown.frozen k
      have hltI : (k : Int) < (5 : Int) := by omega
      have hk0 : (0 : Int) ≤ (k : Int) := by omega
      have Hput := Lib.hid (hown.put hlt)
      have HBk := Lib.hid hb
      have HZk := Lib.hid hz
      clear hown hb hz
      go_wp2
      go_roundw
      case rel => exact ⟨k + 1, by omega, by go_num, Hput.out, HZk.out.farP (by simp) _, HBk.out.setCell (Nat.le_succ _) _⟩
      case measure => simp [intOf]; omega
    · obtain rfl : k = 5 := by omega
      have c0 := hown.valP (j := 0) (by omega)
      have c1 := hown.valP (j := 1) (by omega)
      have c2 := hown.valP (j := 2) (by omega)
      have c3 := hown.valP (j := 3) (by omega)
      have c4 := hown.valP (j := 4) (by omega)
      obtain ⟨y0, z0⟩ := hz.cell (j := 0) (by omega)
      obtain ⟨y1, z1⟩ := hz.cell (j := 1) (by omega)
      obtain ⟨y2, z2⟩ := hz.cell (j := 2) (by omega)
      obtain ⟨y3, z3⟩ := hz.cell (j := 3) (by omega)
      obtain ⟨y4, z4⟩ := hz.cell (j := 4) (by omega)
      have f0 := hz.frozen 0
      have f1 := hz.frozen 1
      have f2 := hz.frozen 2
      have f3 := hz.frozen 3
      have f4 := hz.frozen 4
      have HBk := Lib.hid hb
      clear hown hz hb
      go_wp2
      refine bodyPost_ret (v := arr5 idn) (by simp [results, Try.results78, go_sem, z0, z1, z2, z3, z4, arr5]) rfl ?_
      refine ⟨rfl, ?_⟩
      exact ((((HBk.out.setCell (p := ⟨w.heap.size, 0, none⟩) (Nat.le_refl _) _).setCell (p := ⟨w.heap.size, 1, none⟩) (Nat.le_refl _) _).setCell (p := ⟨w.heap.size, 2, none⟩) (Nat.le_refl _) _).setCell (p := ⟨w.heap.size, 3, none⟩) (Nat.le_refl _) _).setCell (p := ⟨w.heap.size, 4, none⟩) (Nat.le_refl _) _
theorem OwnV.setP {w : World} {G n j : Nat} {T : TypeId} {v v' : Nat → Int} (h : OwnV w G T n n v) (hj : j < n) {z : Int} (e : v' j = z) (he : ∀ i, i ≠ j → v' i = v i) : OwnV (w.setCell ⟨G, j, none⟩ (.int .i64 z)) G T n n v' := by
  obtain ⟨cs, hh, h1, h2⟩ := h
  refine ⟨cs.setIfInBounds j (.int .i64 z), by simp [World.setCell, Array.getElem?_modify, hh], by simp [h1], fun i hi => ?_⟩
  rw [Array.getElem?_setIfInBounds]
  by_cases e2 : i = j
  · subst e2
    rw [if_pos rfl, if_pos (by omega), e]
  · rw [if_neg (fun e' => e2 e'.symm), he i e2]
    exact h2 i hi
theorem OwnV.put5 {w : World} {H : Nat} {T : TypeId} {v v' : Nat → Int} (h : OwnV w H T 5 0 v') : OwnV (((((w.setCell ⟨H, 0, none⟩ (.int .i64 (v 0))).setCell ⟨H, 1, none⟩ (.int .i64 (v 1))).setCell ⟨H, 2, none⟩ (.int .i64 (v 2))).setCell ⟨H, 3, none⟩ (.int .i64 (v 3))).setCell ⟨H, 4, none⟩ (.int .i64 (v 4))) H T 5 5 v :=
  ((((OwnV.put (v := v) h.zero (by omega)).put (by omega)).put (by omega)).put (by omega)).put (by omega)
theorem OwnV.far5 {w : World} {G H n k : Nat} {T : TypeId} {x : Nat → Int} (h : OwnV w G T n k x) (hne : G ≠ H) (v : Nat → Int) : OwnV (((((w.setCell ⟨H, 0, none⟩ (.int .i64 (v 0))).setCell ⟨H, 1, none⟩ (.int .i64 (v 1))).setCell ⟨H, 2, none⟩ (.int .i64 (v 2))).setCell ⟨H, 3, none⟩ (.int .i64 (v 3))).setCell ⟨H, 4, none⟩ (.int .i64 (v 4))) G T n k x :=
  ((((h.farP hne _).farP hne _).farP hne _).farP hne _).farP hne _
theorem bel5 {B : Nat} {w0 w : World} {H : Nat} (hb : Below B w0 w) (hle : B ≤ H) (v : Nat → Int) : Below B w0 (((((w.setCell ⟨H, 0, none⟩ (.int .i64 (v 0))).setCell ⟨H, 1, none⟩ (.int .i64 (v 1))).setCell ⟨H, 2, none⟩ (.int .i64 (v 2))).setCell ⟨H, 3, none⟩ (.int .i64 (v 3))).setCell ⟨H, 4, none⟩ (.int .i64 (v 4))) :=
  ((((hb.setCell hle _).setCell hle _).setCell hle _).setCell hle _).setCell hle _
theorem cells5_at (v : Nat → Int) {k : Nat} (h : k < 5) : (#[Value.int .i64 (v 0), .int .i64 (v 1), .int .i64 (v 2), .int .i64 (v 3), .int .i64 (v 4)] : Array Value)[k]? = some (.int .i64 (v k)) := by
  have : k = 0 ∨ k = 1 ∨ k = 2 ∨ k = 3 ∨ k = 4 := by omega
  rcases this with rfl | rfl | rfl | rfl | rfl <;> rfl
theorem run_idx5 (v : Nat → Int) {k : Nat} (h : k < 5) (W : World) : (Instr.index 64 (arr5 v) (.int .i64 (k : Int))).run Try.prog W = .ok (.int .i64 (v k)) W := by
  have h1 := run_part_plain (P := Try.prog) (e := 3) (by kernel_rfl) (w := W) (cells5_at v h)
  obtain ⟨i0, hi, hz0, hz1, hz2⟩ := info_parts Try.infoInt
  have h2 : (sizeOf 3).run Try.prog W = .ok 1 W := by simp [sizeOf, typeInfo, hi, hz1]
  have hk : (0 : Int) ≤ k ∧ (k : Int) < 5 := by omega
  unfold Instr.index arr5
  simp only [asIntOf, Sem.run_bind, Sem.run_pure, Result.andThen_ok, run_underlying Try.underlying64]
  rw [if_pos (by simpa using hk)]
  simp only [Sem.run_bind, h2, Result.andThen_ok, Nat.mul_one, Int.toNat_natCast]
  exact h1

set_option linter.unusedVariables false in
set_option linter.unusedSimpArgs false in
set_option maxRecDepth 100000 in
set_option maxHeartbeats 1600000 in
theorem move_any (p v : Nat → Int) (w : World) (hp : ∀ i, i < 5 → 0 ≤ p i ∧ p i ≤ 4) :
    Calls Try.prog 46 #[arr5 p, arr5 v] w fun e w' => e = .returned (arr5 (mvF p v 5)) ∧ Below w.heap.size w w' := by
  obtain ⟨WA, hWA⟩ : ∃ W, w.alloc (.cells #[.int .i64 (p 0), .int .i64 (p 1), .int .i64 (p 2), .int .i64 (p 3), .int .i64 (p 4)] 64) = W := ⟨_, rfl⟩
  obtain ⟨WB, hWB⟩ : ∃ W, WA.alloc (.cells #[.int .i64 (v 0), .int .i64 (v 1), .int .i64 (v 2), .int .i64 (v 3), .int .i64 (v 4)] 69) = W := ⟨_, rfl⟩
  obtain ⟨WC, hWC⟩ : ∃ W, WB.alloc (.cells #[.int .i64 0, .int .i64 0, .int .i64 0, .int .i64 0, .int .i64 0] 69) = W := ⟨_, rfl⟩
  obtain ⟨WD, hWD⟩ : ∃ W, WC.alloc (.cells #[.int .i64 0, .int .i64 0, .int .i64 0, .int .i64 0, .int .i64 0] 69) = W := ⟨_, rfl⟩
  have sA : WA.heap.size = w.heap.size + 1 := by rw [← hWA]; simp
  have sB : WB.heap.size = w.heap.size + 2 := by rw [← hWB]; simp [sA]
  have sC : WC.heap.size = w.heap.size + 3 := by rw [← hWC]; simp [sB]
  have bA : Below w.heap.size w WA := by rw [← hWA]; exact bl_alloc (Below.refl _ _) _
  have bB : Below WA.heap.size WA WB := by rw [← hWB]; exact bl_alloc (Below.refl _ _) _
  have bC : Below WB.heap.size WB WC := by rw [← hWC]; exact bl_alloc (Below.refl _ _) _
  have bD : Below WC.heap.size WC WD := by rw [← hWD]; exact bl_alloc (Below.refl _ _) _
  have o1 : OwnV WA w.heap.size 64 5 5 p := by rw [← hWA]; exact own5_box p
  have o2 : OwnV WB (w.heap.size + 1) 69 5 5 v := by rw [← hWB, ← sA]; exact own5_box v
  have o3 : OwnV WC (w.heap.size + 2) 69 5 0 v := by rw [← hWC, ← sB]; exact own5_new v
  have o4 : OwnV WD (w.heap.size + 3) 69 5 5 (mvF p v 0) := by
    rw [← hWD, ← sC]
    have := own5_box (w := WC) (T := 69) (fun _ => 0)
    exact this
  have O1 := Lib.hid (((o1.below bB).below bC).below bD)
  have O2 := Lib.hid ((o2.below bC).below bD)
  have O3 := Lib.hid (o3.below bD)
  have O4 := Lib.hid o4
  have HB := Lib.hid (bl_trans (bl_trans (bl_trans bA bB) bC) bD)
  have HI := Lib.hid (fun (k : Nat) (h : k < 5) => run_idx5 p h)
  have HP := Lib.hid hp
  clear bA bB bC bD o1 o2 o3 o4 hp
  unfold arr5 at HI
  unfold arr5
  go_enter Try.func46, Try.ntmps46
  have d0 := O1.out.valP (j := 0) (by omega)
  have d1 := O1.out.valP (j := 1) (by omega)
  have d2 := O1.out.valP (j := 2) (by omega)
  have d3 := O1.out.valP (j := 3) (by omega)
  have d4 := O1.out.valP (j := 4) (by omega)
  go_wp2
  clear hWA hWB hWC hWD sA sB sC d0 d1 d2 d3 d4
  go_loopw [9] (fun i wr => ∃ k : Nat, k ≤ 5 ∧ i = .int .i64 k ∧ OwnV wr (w.heap.size + 3) 69 5 5 (mvF p v k) ∧ OwnV wr (w.heap.size + 1) 69 5 5 v ∧ OwnV wr (w.heap.size + 2) 69 5 0 v ∧ Below w.heap.size w wr) (fun i _ => 5 - (intOf i).toNat)
  case atStart => exact ⟨0, Nat.zero_le _, rfl, O4.out, O2.out, O3.out, HB.out⟩
  case round =>
    obtain ⟨k, hk, rfl, hown, hv, hz, hb⟩ := hrel
    by_cases hlt : k < 5
    · obtain ⟨j, hj⟩ : ∃ j : Nat, p k = (j : Int) := ⟨(p k).toNat, by have := HP.out k hlt; omega⟩
      have hj5 : j < 5 := by have := HP.out k hlt; omega
      have hix := HI.out k hlt
      rw [hj] at hix
      obtain ⟨y1, hy1⟩ := hown.cell hj5
      have hf1 := hown.frozen j
      have hvk := hv.valP hlt
      have hltI : (k : Int) < (5 : Int) := by omega
      have hk0 : (0 : Int) ≤ (k : Int) := by omega
      have hj5' : (j : Int) < 5 := by omega
      have hj0 : (0 : Int) ≤ (j : Int) := by omega
      have Hput := Lib.hid (hown.setP (v' := mvF p v (k + 1)) hj5 (z := v k) (by show (if (j : Int) = p k then v k else mvF p v k j) = v k; rw [if_pos hj.symm]) (fun i hi => by show (if (i : Int) = p k then v k else mvF p v k i) = mvF p v k i; rw [if_neg (by rw [hj]; omega)]))
      have HBk := Lib.hid hb
      have HVk := Lib.hid hv
      have HZk := Lib.hid hz
      clear hown hb hz hv hj
      go_wp2
      go_roundw
      case rel => exact ⟨k + 1, by omega, by go_num, Hput.out, HVk.out.farP (by simp) _, HZk.out.farP (by simp) _, HBk.out.setCell (by simp) _⟩
      case measure => simp [intOf]; omega
    · obtain rfl : k = 5 := by omega
      have c0 := hown.valP (j := 0) (by omega)
      have c1 := hown.valP (j := 1) (by omega)
      have c2 := hown.valP (j := 2) (by omega)
      have c3 := hown.valP (j := 3) (by omega)
      have c4 := hown.valP (j := 4) (by omega)
      obtain ⟨y0, z0⟩ := hz.cell (j := 0) (by omega)
      obtain ⟨y1, z1⟩ := hz.cell (j := 1) (by omega)
      obtain ⟨y2, z2⟩ := hz.cell (j := 2) (by omega)
      obtain ⟨y3, z3⟩ := hz.cell (j := 3) (by omega)
      obtain ⟨y4, z4⟩ := hz.cell (j := 4) (by omega)
      have f0 := hz.frozen 0
      have f1 := hz.frozen 1
      have f2 := hz.frozen 2
      have f3 := hz.frozen 3
      have f4 := hz.frozen 4
      have HBk := Lib.hid hb
      clear hown hz hb hv
      obtain ⟨u, hu⟩ : ∃ u, mvF p v 5 = u := ⟨_, rfl⟩
      rw [hu] at c0 c1 c2 c3 c4
      have Hu := Lib.hid hu
      clear hu
      go_wp2
      refine bodyPost_ret (v := arr5 u) (by simp [results, Try.results46, go_sem, z0, z1, z2, z3, z4, arr5]) rfl ?_
      rw [Hu.out]
      refine ⟨rfl, ?_⟩
      exact ((((HBk.out.setCell (p := ⟨w.heap.size + 2, 0, none⟩) (Nat.le_add_right _ _) _).setCell (p := ⟨w.heap.size + 2, 1, none⟩) (Nat.le_add_right _ _) _).setCell (p := ⟨w.heap.size + 2, 2, none⟩) (Nat.le_add_right _ _) _).setCell (p := ⟨w.heap.size + 2, 3, none⟩) (Nat.le_add_right _ _) _).setCell (p := ⟨w.heap.size + 2, 4, none⟩) (Nat.le_add_right _ _) _
end Go.Proofs.Ytafiikfaeomhpaa
