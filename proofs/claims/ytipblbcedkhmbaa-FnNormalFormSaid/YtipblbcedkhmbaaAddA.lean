/- Contracts of the program's addTerms, and the world behind a range's steps (no claim of its own). Conditions: as each theorem states. -/
import Derived.Test.YtipblbcedkhmbaaPairD
import Derived.Test.YtipblbcedkhmbaaCovM
import Derived.Test.YtipblbcedkhmbaaNorC
import Derived.Test.YtipblbcedkhmbaaInfA
import Derived.Outline
namespace Go.Proofs.Ytipblbcedkhmbaa
open Go.ChangeShapes Go.WideShapes Go.ChangeAt Go.RowKit Go.Shelf

/-- The sum of the terms of one variable, and what is cancelled. -/
def addT (x y : Int × Int) : (Int × Int) × Int :=
  if x.1 < y.1 then (if y.2 = -x.2 then ((y.1 - x.1, y.2), x.1) else ((y.1 + x.1, y.2), 0))
  else (if x.2 = -y.2 then ((x.1 - y.1, x.2), y.1) else ((x.1 + y.1, x.2), 0))
/-- Of a pair: coefficients and literals are in their bounds. -/
def pairIn (p : (Int × Int) × (Int × Int)) : Prop := (0 ≤ p.1.1 ∧ p.1.1 ≤ 1000 ∧ -12 ≤ p.1.2 ∧ p.1.2 ≤ 12) ∧ (0 ≤ p.2.1 ∧ p.2.1 ≤ 1000 ∧ -12 ≤ p.2.2 ∧ p.2.2 ≤ 12)

/-- What the walk knows behind the first statement: two blocks of the call's own. -/
def AtT (w : World) (x1 x2 y1 y2 h1 h2 k1 k2 : Int) (s6 s7 : Value) (wx : World) : Prop :=
  ∃ H L : Nat, s6 = .pointer (some ⟨H, 0, none⟩) ∧ s7 = .pointer (some ⟨L, 0, none⟩) ∧ H ≠ L ∧ w.heap.size + 1 + 1 < H ∧ w.heap.size + 1 + 1 < L ∧
    Cel wx H 0 (.int .i64 h1) ∧ Cel wx H 1 (.int .i64 h2) ∧ Cel wx L 0 (.int .i64 k1) ∧ Cel wx L 1 (.int .i64 k2) ∧
    Cel wx w.heap.size 0 (.int .i64 x1) ∧ Cel wx w.heap.size 1 (.int .i64 x2) ∧ Cel wx (w.heap.size + 1) 0 (.int .i64 y1) ∧ Cel wx (w.heap.size + 1) 1 (.int .i64 y2) ∧
    Cel wx (w.heap.size + 1 + 1) 0 (.int .i64 0) ∧ Cel wx (w.heap.size + 1 + 1) 1 (.int .i64 0) ∧ Below w.heap.size w wx

set_option maxRecDepth 100000 in
set_option maxHeartbeats 3200000 in
theorem addTerms_any (x1 x2 y1 y2 : Int) (w : World) (h : pairIn ((x1, x2), (y1, y2))) :
    Calls Try.prog 167 #[.agg #[.int .i64 x1, .int .i64 x2], .agg #[.int .i64 y1, .int .i64 y2]] w fun e w' => e = .returned (.tuple #[.agg #[.int .i64 (addT (x1, x2) (y1, y2)).1.1, .int .i64 (addT (x1, x2) (y1, y2)).1.2], .int .i64 (addT (x1, x2) (y1, y2)).2]) ∧ Below w.heap.size w w' := by
  obtain ⟨⟨h1, h2, h3, h4⟩, h5, h6, h7, h8⟩ := h
  dsimp only at h1 h2 h3 h4 h5 h6 h7 h8
  go_enter Try.func167, Try.ntmps167
  go_upto_region 1 with fail
  have c0 : Cel (((w.alloc (.cells #[.int .i64 x1, .int .i64 x2] 35)).alloc (.cells #[.int .i64 y1, .int .i64 y2] 35)).alloc (.cells #[.int .i64 0, .int .i64 0] 35)) w.heap.size 0 (.int .i64 x1) := ⟨by go_simp, by go_simp⟩
  have c1 : Cel (((w.alloc (.cells #[.int .i64 x1, .int .i64 x2] 35)).alloc (.cells #[.int .i64 y1, .int .i64 y2] 35)).alloc (.cells #[.int .i64 0, .int .i64 0] 35)) w.heap.size 1 (.int .i64 x2) := ⟨by go_simp, by go_simp⟩
  have c2 : Cel (((w.alloc (.cells #[.int .i64 x1, .int .i64 x2] 35)).alloc (.cells #[.int .i64 y1, .int .i64 y2] 35)).alloc (.cells #[.int .i64 0, .int .i64 0] 35)) (w.heap.size + 1) 0 (.int .i64 y1) := ⟨by go_simp, by go_simp⟩
  have c3 : Cel (((w.alloc (.cells #[.int .i64 x1, .int .i64 x2] 35)).alloc (.cells #[.int .i64 y1, .int .i64 y2] 35)).alloc (.cells #[.int .i64 0, .int .i64 0] 35)) (w.heap.size + 1) 1 (.int .i64 y2) := ⟨by go_simp, by go_simp⟩
  have c4 : Cel (((w.alloc (.cells #[.int .i64 x1, .int .i64 x2] 35)).alloc (.cells #[.int .i64 y1, .int .i64 y2] 35)).alloc (.cells #[.int .i64 0, .int .i64 0] 35)) (w.heap.size + 1 + 1) 0 (.int .i64 0) := ⟨by go_simp, by go_simp⟩
  have c5 : Cel (((w.alloc (.cells #[.int .i64 x1, .int .i64 x2] 35)).alloc (.cells #[.int .i64 y1, .int .i64 y2] 35)).alloc (.cells #[.int .i64 0, .int .i64 0] 35)) (w.heap.size + 1 + 1) 1 (.int .i64 0) := ⟨by go_simp, by go_simp⟩
  have hb0 : Below w.heap.size w (((w.alloc (.cells #[.int .i64 x1, .int .i64 x2] 35)).alloc (.cells #[.int .i64 y1, .int .i64 y2] 35)).alloc (.cells #[.int .i64 0, .int .i64 0] 35)) := bl_alloc (bl_alloc (bl_alloc (Below.refl _ _) _) _) _
  generalize (((w.alloc (.cells #[.int .i64 x1, .int .i64 x2] 35)).alloc (.cells #[.int .i64 y1, .int .i64 y2] 35)).alloc (.cells #[.int .i64 0, .int .i64 0] 35)) = W at *
  have z2 : w.heap.size + 1 + 1 < W.heap.size := c4.lt
  have z1 : w.heap.size + 1 < W.heap.size := by omega
  have z0 : w.heap.size < W.heap.size := by omega
  go_cut [6, 7] (fun s6 s7 wx => AtT w x1 x2 y1 y2 x1 x2 y1 y2 s6 s7 wx)
  case first =>
    have C0 := Lib.hid c0
    have C1 := Lib.hid c1
    have C2 := Lib.hid c2
    have C3 := Lib.hid c3
    have C4 := Lib.hid c4
    have C5 := Lib.hid c5
    have HB := Lib.hid hb0
    obtain ⟨a0, -⟩ := c0
    obtain ⟨a1, -⟩ := c1
    obtain ⟨a2, -⟩ := c2
    obtain ⟨a3, -⟩ := c3
    clear c4 c5 hb0
    go_region_held3 (fun w' => w'.cell? ⟨w.heap.size, 0, none⟩ = some (.int .i64 x1) ∧ w'.cell? ⟨w.heap.size, 1, none⟩ = some (.int .i64 x2) ∧ w'.cell? ⟨w.heap.size + 1, 0, none⟩ = some (.int .i64 y1) ∧ w'.cell? ⟨w.heap.size + 1, 1, none⟩ = some (.int .i64 y2)) (go_keep)
      (fail)
    all_goals go_wp2_with fail
    all_goals go_meet
    · have hal : Below W.heap.size W ((W.alloc (.cells #[.int .i64 x1, .int .i64 x2] 35)).alloc (.cells #[.int .i64 y1, .int .i64 y2] 35)).drew := (bl_alloc (bl_alloc (Below.refl _ _) _) _).drew
      exact ⟨_, _, rfl, rfl, by omega, z2, by omega, ⟨by go_simp, by go_simp⟩, ⟨by go_simp, by go_simp⟩, ⟨by go_simp, by go_simp⟩, ⟨by go_simp, by go_simp⟩, C0.out.below hal, C1.out.below hal, C2.out.below hal, C3.out.below hal, C4.out.below hal, C5.out.below hal, bl_trans HB.out hal⟩
    · have hal : Below W.heap.size W ((W.alloc (.cells #[.int .i64 y1, .int .i64 y2] 35)).alloc (.cells #[.int .i64 x1, .int .i64 x2] 35)).drew := (bl_alloc (bl_alloc (Below.refl _ _) _) _).drew
      exact ⟨_, _, rfl, rfl, by omega, by omega, z2, ⟨by go_simp, by go_simp⟩, ⟨by go_simp, by go_simp⟩, ⟨by go_simp, by go_simp⟩, ⟨by go_simp, by go_simp⟩, C0.out.below hal, C1.out.below hal, C2.out.below hal, C3.out.below hal, C4.out.below hal, C5.out.below hal, bl_trans HB.out hal⟩
  case rest =>
    obtain ⟨H, L, rfl, rfl, hne, zH, zL, k0, k1, k2, k3, c0, c1, c2, c3, c4, c5, hb⟩ := hcut
    have hne' : ¬ L = H := fun e => hne e.symm
    have K0 := Lib.hid k0
    have K1 := Lib.hid k1
    have K2 := Lib.hid k2
    have K3 := Lib.hid k3
    have C4 := Lib.hid c4
    have C5 := Lib.hid c5
    have HB := Lib.hid hb
    have zw : w.heap.size < wc.heap.size := c0.lt
    obtain ⟨k0, kf0⟩ := k0
    obtain ⟨k1, kf1⟩ := k1
    obtain ⟨k2, kf2⟩ := k2
    obtain ⟨k3, kf3⟩ := k3
    obtain ⟨a0, -⟩ := c0
    obtain ⟨a1, -⟩ := c1
    obtain ⟨a2, -⟩ := c2
    obtain ⟨a3, -⟩ := c3
    obtain ⟨r0, f0⟩ := c4
    obtain ⟨r1, f1⟩ := c5
    have n1 : ¬ H = w.heap.size := by omega
    have n2 : ¬ L = w.heap.size := by omega
    have n3 : ¬ H = w.heap.size + 1 := by omega
    have n4 : ¬ L = w.heap.size + 1 := by omega
    have n5 : ¬ H = w.heap.size + 1 + 1 := by omega
    have n6 : ¬ L = w.heap.size + 1 + 1 := by omega
    have n7 : ¬ w.heap.size + 1 + 1 = H := by omega
    have n8 : ¬ w.heap.size + 1 + 1 = L := by omega
    have hw1 : IntKind.i64.wrap (y1 - x1) = y1 - x1 := IntWalk.i64_in _ (by omega)
    have hw2 : IntKind.i64.wrap (x1 - y1) = x1 - y1 := IntWalk.i64_in _ (by omega)
    clear hb
    by_cases hlt : x1 < y1
    · go_wp2_with fail
      go_region_held3 (fun w' => w'.cell? ⟨w.heap.size, 0, none⟩ = some (.int .i64 x1) ∧ w'.cell? ⟨w.heap.size, 1, none⟩ = some (.int .i64 x2) ∧ w'.cell? ⟨w.heap.size + 1, 0, none⟩ = some (.int .i64 y1) ∧ w'.cell? ⟨w.heap.size + 1, 1, none⟩ = some (.int .i64 y2)) (go_keep)
        (fail)
      have m0 : Cel (((((wc.setCell ⟨H, 0, none⟩ (.int .i64 y1)).setCell ⟨H, 1, none⟩ (.int .i64 y2)).setCell ⟨L, 0, none⟩ (.int .i64 x1)).setCell ⟨L, 1, none⟩ (.int .i64 x2)).drew) H 0 (.int .i64 y1) := Cel.same ((((K0.out.put (u := .int .i64 y1)).set (by first | (right; decide) | (left; omega))).set (by first | (right; decide) | (left; omega))).set (by first | (right; decide) | (left; omega))) rfl
      have m1 : Cel (((((wc.setCell ⟨H, 0, none⟩ (.int .i64 y1)).setCell ⟨H, 1, none⟩ (.int .i64 y2)).setCell ⟨L, 0, none⟩ (.int .i64 x1)).setCell ⟨L, 1, none⟩ (.int .i64 x2)).drew) H 1 (.int .i64 y2) := Cel.same ((((K1.out.set (by first | (right; decide) | (left; omega))).put (u := .int .i64 y2)).set (by first | (right; decide) | (left; omega))).set (by first | (right; decide) | (left; omega))) rfl
      have m2 : Cel (((((wc.setCell ⟨H, 0, none⟩ (.int .i64 y1)).setCell ⟨H, 1, none⟩ (.int .i64 y2)).setCell ⟨L, 0, none⟩ (.int .i64 x1)).setCell ⟨L, 1, none⟩ (.int .i64 x2)).drew) L 0 (.int .i64 x1) := Cel.same ((((K2.out.set (by first | (right; decide) | (left; omega))).set (by first | (right; decide) | (left; omega))).put (u := .int .i64 x1)).set (by first | (right; decide) | (left; omega))) rfl
      have m3 : Cel (((((wc.setCell ⟨H, 0, none⟩ (.int .i64 y1)).setCell ⟨H, 1, none⟩ (.int .i64 y2)).setCell ⟨L, 0, none⟩ (.int .i64 x1)).setCell ⟨L, 1, none⟩ (.int .i64 x2)).drew) L 1 (.int .i64 x2) := Cel.same ((((K3.out.set (by first | (right; decide) | (left; omega))).set (by first | (right; decide) | (left; omega))).set (by first | (right; decide) | (left; omega))).put (u := .int .i64 x2)) rfl
      have m4 : Cel (((((wc.setCell ⟨H, 0, none⟩ (.int .i64 y1)).setCell ⟨H, 1, none⟩ (.int .i64 y2)).setCell ⟨L, 0, none⟩ (.int .i64 x1)).setCell ⟨L, 1, none⟩ (.int .i64 x2)).drew) (w.heap.size + 1 + 1) 0 (.int .i64 0) := Cel.same ((((C4.out.set (by first | (right; decide) | (left; omega))).set (by first | (right; decide) | (left; omega))).set (by first | (right; decide) | (left; omega))).set (by first | (right; decide) | (left; omega))) rfl
      have m5 : Cel (((((wc.setCell ⟨H, 0, none⟩ (.int .i64 y1)).setCell ⟨H, 1, none⟩ (.int .i64 y2)).setCell ⟨L, 0, none⟩ (.int .i64 x1)).setCell ⟨L, 1, none⟩ (.int .i64 x2)).drew) (w.heap.size + 1 + 1) 1 (.int .i64 0) := Cel.same ((((C5.out.set (by first | (right; decide) | (left; omega))).set (by first | (right; decide) | (left; omega))).set (by first | (right; decide) | (left; omega))).set (by first | (right; decide) | (left; omega))) rfl
      have HBX : Hid (Below w.heap.size w (((((wc.setCell ⟨H, 0, none⟩ (.int .i64 y1)).setCell ⟨H, 1, none⟩ (.int .i64 y2)).setCell ⟨L, 0, none⟩ (.int .i64 x1)).setCell ⟨L, 1, none⟩ (.int .i64 x2)).drew)) := Lib.hid (((((HB.out.setCell (by show w.heap.size ≤ H; omega) _).setCell (by show w.heap.size ≤ H; omega) _).setCell (by show w.heap.size ≤ L; omega) _).setCell (by show w.heap.size ≤ L; omega) _).drew)
      clear HB K0 K1 K2 K3 C4 C5 k0 k1 k2 k3 kf0 kf1 kf2 kf3 r0 r1 f0 f1 a0 a1 a2 a3 zw
      have HB := HBX
      clear HBX
      generalize ((((wc.setCell ⟨H, 0, none⟩ (.int .i64 y1)).setCell ⟨H, 1, none⟩ (.int .i64 y2)).setCell ⟨L, 0, none⟩ (.int .i64 x1)).setCell ⟨L, 1, none⟩ (.int .i64 x2)).drew = X at *
      obtain ⟨k0, kf0⟩ := m0
      obtain ⟨k1, kf1⟩ := m1
      obtain ⟨k2, kf2⟩ := m2
      obtain ⟨k3, kf3⟩ := m3
      obtain ⟨r0, f0⟩ := m4
      obtain ⟨r1, f1⟩ := m5
      by_cases hl : y2 = -x2
      · have HT := Lib.hid (show addT (x1, x2) (y1, y2) = (((y1 - x1), y2), x1) from by
          unfold addT
          rw [if_pos hlt, if_pos hl])
        have hq : (y2 == -x2) = true := by simp [hl]
        clear hl
        go_wp2_with fail
        go_region_held3 (fun w' => w'.cell? ⟨H, 0, none⟩ = some (.int .i64 y1) ∧ w'.cell? ⟨H, 1, none⟩ = some (.int .i64 y2) ∧ w'.cell? ⟨L, 0, none⟩ = some (.int .i64 x1) ∧ w'.cell? ⟨L, 1, none⟩ = some (.int .i64 x2)) (go_keep)
          (fail)
        all_goals
          go_wp2
          refine bodyPost_ret (v := .tuple #[.agg #[.int .i64 (y1 - x1), .int .i64 y2], .int .i64 x1]) (by simp [results, Try.results167, go_sem, r0, r1]) rfl ?_
          refine ⟨by rw [HT.out], ?_⟩
          repeat (first | exact HB.out | refine Below.setCell ?_ (by first | (simp; done) | (simp; omega)) _ | refine Below.drew ?_)
      · have HT := Lib.hid (show addT (x1, x2) (y1, y2) = (((y1 + x1), y2), 0) from by
          unfold addT
          rw [if_pos hlt, if_neg hl])
        have hq : (y2 == -x2) = false := by simp [hl]
        clear hl
        go_wp2
        refine bodyPost_ret (v := .tuple #[.agg #[.int .i64 (y1 + x1), .int .i64 y2], .int .i64 0]) (by simp [results, Try.results167, go_sem, r0, r1]) rfl ?_
        refine ⟨by rw [HT.out], ?_⟩
        repeat (first | exact HB.out | refine Below.setCell ?_ (by first | (simp; done) | (simp; omega)) _ | refine Below.drew ?_)
    · by_cases hl : x2 = -y2
      · have HT := Lib.hid (show addT (x1, x2) (y1, y2) = (((x1 - y1), x2), y1) from by
          unfold addT
          rw [if_neg hlt, if_pos hl])
        have hq : (x2 == -y2) = true := by simp [hl]
        clear hl
        go_wp2_with fail
        go_region_held3 (fun w' => w'.cell? ⟨H, 0, none⟩ = some (.int .i64 x1) ∧ w'.cell? ⟨H, 1, none⟩ = some (.int .i64 x2) ∧ w'.cell? ⟨L, 0, none⟩ = some (.int .i64 y1) ∧ w'.cell? ⟨L, 1, none⟩ = some (.int .i64 y2)) (go_keep)
          (fail)
        all_goals
          go_wp2
          refine bodyPost_ret (v := .tuple #[.agg #[.int .i64 (x1 - y1), .int .i64 x2], .int .i64 y1]) (by simp [results, Try.results167, go_sem, r0, r1]) rfl ?_
          refine ⟨by rw [HT.out], ?_⟩
          repeat (first | exact HB.out | refine Below.setCell ?_ (by first | (simp; done) | (simp; omega)) _ | refine Below.drew ?_)
      · have HT := Lib.hid (show addT (x1, x2) (y1, y2) = (((x1 + y1), x2), 0) from by
          unfold addT
          rw [if_neg hlt, if_neg hl])
        have hq : (x2 == -y2) = false := by simp [hl]
        clear hl
        go_wp2
        refine bodyPost_ret (v := .tuple #[.agg #[.int .i64 (x1 + y1), .int .i64 x2], .int .i64 0]) (by simp [results, Try.results167, go_sem, r0, r1]) rfl ?_
        refine ⟨by rw [HT.out], ?_⟩
        repeat (first | exact HB.out | refine Below.setCell ?_ (by first | (simp; done) | (simp; omega)) _ | refine Below.drew ?_)
end Go.Proofs.Ytipblbcedkhmbaa
