/- The walk of the law FnRuleLess (no claim of its own). Conditions: as each theorem states. -/
import Derived.Test.YthjcbaccoogloaaDmlK
import Derived.Test.YthjcbaccoogloaaRhZ
import Derived.Test.YthjcbaccoogloaaClsA
import Derived.BigQuiet
namespace Go.Proofs.Ythjcbaccoogloaa
open Go.ChangeShapes Go.WideShapes Go.ChangeAt Go.RowKit

def two (a b : Int) : Nat → Int
  | 0 => a
  | _ => b
def nilL : Lst := ⟨0, fun _ => 0⟩
theorem rd_two {W : World} {B p : Nat} {a b : Int} (hp : p < B) (h0 : W.cell? ⟨p, 0, none⟩ = some (.int .i64 a)) (h1 : W.cell? ⟨p, 1, none⟩ = some (.int .i64 b)) : RdI W B (some ⟨p, 0, none⟩) 2 (two a b) := fun _ => ⟨p, 0, rfl, hp, fun i hi => by
  have : i = 0 ∨ i = 1 := by omega
  rcases this with rfl | rfl
  · exact h0
  · exact h1⟩
def lsQ : Nat → Rul
  | 0 => ⟨4, ⟨2, two 0 1⟩, nilL, 0, 0, fun _ => nilL⟩
  | 1 => ⟨4, ⟨2, two 1 0⟩, nilL, 0, 0, fun _ => nilL⟩
  | _ => ⟨1, ⟨2, two 0 1⟩, ⟨2, two (-1) 1⟩, 1, 0, fun _ => nilL⟩
theorem lsQ_fit : ∀ i, i < 3 → (lsQ i).fit 1048576 := fun i hi => by
  have : i = 0 ∨ i = 1 ∨ i = 2 := by omega
  rcases this with rfl | rfl | rfl
  all_goals exact ⟨by show 2 ≤ 1048576; omega, by show _ ≤ 1048576; simp [lsQ, nilL], by show 0 ≤ 1048576; omega, fun i hi => by exact absurd hi (by show ¬ i < 0; omega)⟩
/-- The three rules in memory. -/
theorem rd_lsQ {W : World} {B p0 p1 p2 p3 G : Nat} (h0 : p0 < B) (h1 : p1 < B) (h2 : p2 < B) (h3 : p3 < B) (hG : G < B)
    (a0 : W.cell? ⟨p0, 0, none⟩ = some (.int .i64 0)) (a1 : W.cell? ⟨p0, 1, none⟩ = some (.int .i64 1)) (b0 : W.cell? ⟨p1, 0, none⟩ = some (.int .i64 1)) (b1 : W.cell? ⟨p1, 1, none⟩ = some (.int .i64 0)) (c0 : W.cell? ⟨p2, 0, none⟩ = some (.int .i64 0)) (c1 : W.cell? ⟨p2, 1, none⟩ = some (.int .i64 1)) (d0 : W.cell? ⟨p3, 0, none⟩ = some (.int .i64 (-1))) (d1 : W.cell? ⟨p3, 1, none⟩ = some (.int .i64 1))
    (g : ∀ j, j < 15 → W.cell? ⟨G, j, none⟩ = some ((#[Value.int .i64 4, .slice (some ⟨p0, 0, none⟩) 2 2, .slice none 0 0, .int .i64 0, .slice none 0 0, .int .i64 4, .slice (some ⟨p1, 0, none⟩) 2 2, .slice none 0 0, .int .i64 0, .slice none 0 0, .int .i64 1, .slice (some ⟨p2, 0, none⟩) 2 2, .slice (some ⟨p3, 0, none⟩) 2 2, .int .i64 1, .slice none 0 0] : Array Value).getD j undef)) : RdRs W B (some ⟨G, 0, none⟩) 3 lsQ := fun _ => ⟨G, 0, rfl, hG, fun i hi => by
  have hn : ∀ {A : Option Addr}, RdI W B A nilL.n nilL.x := fun h => absurd h (by show ¬ 0 < 0; omega)
  have : i = 0 ∨ i = 1 ∨ i = 2 := by omega
  rcases this with rfl | rfl | rfl
  · exact ⟨some ⟨p0, 0, none⟩, 2, none, 0, none, 0, g 0 (by omega), g 1 (by omega), g 2 (by omega), g 3 (by omega), g 4 (by omega), rd_two h0 a0 a1, hn, fun h => absurd h (by show ¬ 0 < 0; omega)⟩
  · exact ⟨some ⟨p1, 0, none⟩, 2, none, 0, none, 0, g 5 (by omega), g 6 (by omega), g 7 (by omega), g 8 (by omega), g 9 (by omega), rd_two h1 b0 b1, hn, fun h => absurd h (by show ¬ 0 < 0; omega)⟩
  · exact ⟨some ⟨p2, 0, none⟩, 2, some ⟨p3, 0, none⟩, 2, none, 0, g 10 (by omega), g 11 (by omega), g 12 (by omega), g 13 (by omega), g 14 (by omega), rd_two h2 c0 c1, rd_two h3 d0 d1, fun h => absurd h (by show ¬ 0 < 0; omega)⟩⟩
theorem ls_val {s c : Lst} (hcv : cvB s 3 lsQ c = true) : rhB s 3 lsQ c 0 = decide (c.x 0 < c.x 1) ∧ rhB s 3 lsQ c 1 = decide (c.x 1 < c.x 0) ∧ rhB s 3 lsQ c 2 = decide (1 ≤ -c.x 0 + c.x 1) := by
  refine ⟨?_, ?_, ?_⟩
  · unfold rhB; rw [hcv]; rfl
  · unfold rhB; rw [hcv]; rfl
  · unfold rhB; rw [hcv]
    show decide (1 ≤ linS (two (-1) 1) (pk ⟨2, two 0 1⟩ c.x) 2) = _
    have : linS (two (-1) 1) (pk ⟨2, two 0 1⟩ c.x) 2 = -c.x 0 + c.x 1 := by
      show 0 + (-1) * c.x 0 + 1 * c.x 1 = _
      omega
    rw [this]
theorem ls_no {s c : Lst} (hcv : cvB s 3 lsQ c = false) (r : Int) : rhB s 3 lsQ c r = false := by unfold rhB; rw [hcv]; rfl

set_option linter.unusedSimpArgs false in
set_option linter.unusedVariables false in
set_option maxRecDepth 100000 in
set_option maxHeartbeats 6400000 in
theorem lawFnRuleLess_ok (A0 : Option Addr) (n0 cap0 : Nat) (y0 : Nat → Int) (w : World) (h0 : n0 ≤ 1048576) (hc0 : n0 ≤ cap0) (hr0 : RdY w w.heap.size A0 n0 y0) :
    Calls Try.prog 5 #[.slice A0 n0 cap0] w fun e w' => e = .returned (.bool true) ∧ Below w.heap.size w w' := by
  have hm0 : n0 ≤ maxLen := by unfold maxLen; omega
  have hi0 : ¬ (1048576 : Int) < (n0 : Int) := by omega
  go_enter Try.func5, Try.ntmps5
  go_wp2_with fail
  refine (drawHolds_any _ _ _ y0 _ hm0 hc0 hr0).mono ?_
  rintro e w1 ⟨As, cs, Ar, cr, sn, n, rule, Ac, kc, cc, rfl, hmt, hkc, htc⟩
  obtain ⟨s, q, rfl, hm⟩ := hmt.rd
  obtain ⟨A', c', v, e, hv⟩ := htc.rd
  cases e
  obtain ⟨c, rfl, hc⟩ : ∃ c : Lst, c.n = kc ∧ RdI w1 w1.heap.size Ac c.n c.x := ⟨⟨kc, v⟩, rfl, hv⟩
  have p1 : s.n ≤ 1048576 := by have := hm.hs; omega
  have p2 : c.n ≤ 1048576 := by omega
  have p3 : n ≤ 1048576 := by have := hm.hn; omega
  have p4 := Lib.hid (fun i hi => Rul.fit_more (hm.fit i hi) (show 22 ≤ 1048576 by omega))
  have HB := Lib.hid hm.bl
  have HM := Lib.hid hm
  have HC := Lib.hid hc
  clear hmt htc hm hc hv
  have h0 := hr0
  clear h0
  by_cases h2 : s.n < 2
  · have h2I : (s.n : Int) < 2 := by omega
    go_wp2
    go_ret
    exact ⟨rfl, bl_alloc HB.out _⟩
  · have h2I : ¬ (s.n : Int) < 2 := by omega
    have hbl := bl_alloc (bl_alloc (bl_alloc (bl_alloc (bl_alloc (bl_alloc (bl_alloc (Below.refl w1.heap.size w1) (.cells #[.slice As s.n cs, .slice Ar n cr] 26)) (.cells #[.int .i64 0, .int .i64 1] 3)) (.cells #[.int .i64 1, .int .i64 0] 3)) (.cells #[.int .i64 0, .int .i64 1] 3)) (.cells #[.int .i64 (-1), .int .i64 1] 3)) (.cells #[.int .i64 4, .slice (some ⟨w1.heap.size + 1, 0, none⟩) 2 2, .slice none 0 0, .int .i64 0, .slice none 0 0, .int .i64 4, .slice (some ⟨w1.heap.size + 1 + 1, 0, none⟩) 2 2, .slice none 0 0, .int .i64 0, .slice none 0 0, .int .i64 1, .slice (some ⟨w1.heap.size + 1 + 1 + 1, 0, none⟩) 2 2, .slice (some ⟨w1.heap.size + 1 + 1 + 1 + 1, 0, none⟩) 2 2, .int .i64 1, .slice none 0 0] 36)) (.cells #[.slice As s.n cs, .slice (some ⟨w1.heap.size + 1 + 1 + 1 + 1 + 1, 0, none⟩) 3 3] 26)
    have hsz : (((((((w1.alloc (.cells #[.slice As s.n cs, .slice Ar n cr] 26)).alloc (.cells #[.int .i64 0, .int .i64 1] 3)).alloc (.cells #[.int .i64 1, .int .i64 0] 3)).alloc (.cells #[.int .i64 0, .int .i64 1] 3)).alloc (.cells #[.int .i64 (-1), .int .i64 1] 3)).alloc (.cells #[.int .i64 4, .slice (some ⟨w1.heap.size + 1, 0, none⟩) 2 2, .slice none 0 0, .int .i64 0, .slice none 0 0, .int .i64 4, .slice (some ⟨w1.heap.size + 1 + 1, 0, none⟩) 2 2, .slice none 0 0, .int .i64 0, .slice none 0 0, .int .i64 1, .slice (some ⟨w1.heap.size + 1 + 1 + 1, 0, none⟩) 2 2, .slice (some ⟨w1.heap.size + 1 + 1 + 1 + 1, 0, none⟩) 2 2, .int .i64 1, .slice none 0 0] 36)).alloc (.cells #[.slice As s.n cs, .slice (some ⟨w1.heap.size + 1 + 1 + 1 + 1 + 1, 0, none⟩) 3 3] 26)).heap.size = w1.heap.size + 1 + 1 + 1 + 1 + 1 + 1 + 1 := by simp
    have l00 : (((((((w1.alloc (.cells #[.slice As s.n cs, .slice Ar n cr] 26)).alloc (.cells #[.int .i64 0, .int .i64 1] 3)).alloc (.cells #[.int .i64 1, .int .i64 0] 3)).alloc (.cells #[.int .i64 0, .int .i64 1] 3)).alloc (.cells #[.int .i64 (-1), .int .i64 1] 3)).alloc (.cells #[.int .i64 4, .slice (some ⟨w1.heap.size + 1, 0, none⟩) 2 2, .slice none 0 0, .int .i64 0, .slice none 0 0, .int .i64 4, .slice (some ⟨w1.heap.size + 1 + 1, 0, none⟩) 2 2, .slice none 0 0, .int .i64 0, .slice none 0 0, .int .i64 1, .slice (some ⟨w1.heap.size + 1 + 1 + 1, 0, none⟩) 2 2, .slice (some ⟨w1.heap.size + 1 + 1 + 1 + 1, 0, none⟩) 2 2, .int .i64 1, .slice none 0 0] 36)).alloc (.cells #[.slice As s.n cs, .slice (some ⟨w1.heap.size + 1 + 1 + 1 + 1 + 1, 0, none⟩) 3 3] 26)).cell? ⟨w1.heap.size + 1, 0, none⟩ = some (.int .i64 0) := by go_simp
    have l01 : (((((((w1.alloc (.cells #[.slice As s.n cs, .slice Ar n cr] 26)).alloc (.cells #[.int .i64 0, .int .i64 1] 3)).alloc (.cells #[.int .i64 1, .int .i64 0] 3)).alloc (.cells #[.int .i64 0, .int .i64 1] 3)).alloc (.cells #[.int .i64 (-1), .int .i64 1] 3)).alloc (.cells #[.int .i64 4, .slice (some ⟨w1.heap.size + 1, 0, none⟩) 2 2, .slice none 0 0, .int .i64 0, .slice none 0 0, .int .i64 4, .slice (some ⟨w1.heap.size + 1 + 1, 0, none⟩) 2 2, .slice none 0 0, .int .i64 0, .slice none 0 0, .int .i64 1, .slice (some ⟨w1.heap.size + 1 + 1 + 1, 0, none⟩) 2 2, .slice (some ⟨w1.heap.size + 1 + 1 + 1 + 1, 0, none⟩) 2 2, .int .i64 1, .slice none 0 0] 36)).alloc (.cells #[.slice As s.n cs, .slice (some ⟨w1.heap.size + 1 + 1 + 1 + 1 + 1, 0, none⟩) 3 3] 26)).cell? ⟨w1.heap.size + 1, 1, none⟩ = some (.int .i64 1) := by go_simp
    have l10 : (((((((w1.alloc (.cells #[.slice As s.n cs, .slice Ar n cr] 26)).alloc (.cells #[.int .i64 0, .int .i64 1] 3)).alloc (.cells #[.int .i64 1, .int .i64 0] 3)).alloc (.cells #[.int .i64 0, .int .i64 1] 3)).alloc (.cells #[.int .i64 (-1), .int .i64 1] 3)).alloc (.cells #[.int .i64 4, .slice (some ⟨w1.heap.size + 1, 0, none⟩) 2 2, .slice none 0 0, .int .i64 0, .slice none 0 0, .int .i64 4, .slice (some ⟨w1.heap.size + 1 + 1, 0, none⟩) 2 2, .slice none 0 0, .int .i64 0, .slice none 0 0, .int .i64 1, .slice (some ⟨w1.heap.size + 1 + 1 + 1, 0, none⟩) 2 2, .slice (some ⟨w1.heap.size + 1 + 1 + 1 + 1, 0, none⟩) 2 2, .int .i64 1, .slice none 0 0] 36)).alloc (.cells #[.slice As s.n cs, .slice (some ⟨w1.heap.size + 1 + 1 + 1 + 1 + 1, 0, none⟩) 3 3] 26)).cell? ⟨w1.heap.size + 1 + 1, 0, none⟩ = some (.int .i64 1) := by go_simp
    have l11 : (((((((w1.alloc (.cells #[.slice As s.n cs, .slice Ar n cr] 26)).alloc (.cells #[.int .i64 0, .int .i64 1] 3)).alloc (.cells #[.int .i64 1, .int .i64 0] 3)).alloc (.cells #[.int .i64 0, .int .i64 1] 3)).alloc (.cells #[.int .i64 (-1), .int .i64 1] 3)).alloc (.cells #[.int .i64 4, .slice (some ⟨w1.heap.size + 1, 0, none⟩) 2 2, .slice none 0 0, .int .i64 0, .slice none 0 0, .int .i64 4, .slice (some ⟨w1.heap.size + 1 + 1, 0, none⟩) 2 2, .slice none 0 0, .int .i64 0, .slice none 0 0, .int .i64 1, .slice (some ⟨w1.heap.size + 1 + 1 + 1, 0, none⟩) 2 2, .slice (some ⟨w1.heap.size + 1 + 1 + 1 + 1, 0, none⟩) 2 2, .int .i64 1, .slice none 0 0] 36)).alloc (.cells #[.slice As s.n cs, .slice (some ⟨w1.heap.size + 1 + 1 + 1 + 1 + 1, 0, none⟩) 3 3] 26)).cell? ⟨w1.heap.size + 1 + 1, 1, none⟩ = some (.int .i64 0) := by go_simp
    have l20 : (((((((w1.alloc (.cells #[.slice As s.n cs, .slice Ar n cr] 26)).alloc (.cells #[.int .i64 0, .int .i64 1] 3)).alloc (.cells #[.int .i64 1, .int .i64 0] 3)).alloc (.cells #[.int .i64 0, .int .i64 1] 3)).alloc (.cells #[.int .i64 (-1), .int .i64 1] 3)).alloc (.cells #[.int .i64 4, .slice (some ⟨w1.heap.size + 1, 0, none⟩) 2 2, .slice none 0 0, .int .i64 0, .slice none 0 0, .int .i64 4, .slice (some ⟨w1.heap.size + 1 + 1, 0, none⟩) 2 2, .slice none 0 0, .int .i64 0, .slice none 0 0, .int .i64 1, .slice (some ⟨w1.heap.size + 1 + 1 + 1, 0, none⟩) 2 2, .slice (some ⟨w1.heap.size + 1 + 1 + 1 + 1, 0, none⟩) 2 2, .int .i64 1, .slice none 0 0] 36)).alloc (.cells #[.slice As s.n cs, .slice (some ⟨w1.heap.size + 1 + 1 + 1 + 1 + 1, 0, none⟩) 3 3] 26)).cell? ⟨w1.heap.size + 1 + 1 + 1, 0, none⟩ = some (.int .i64 0) := by go_simp
    have l21 : (((((((w1.alloc (.cells #[.slice As s.n cs, .slice Ar n cr] 26)).alloc (.cells #[.int .i64 0, .int .i64 1] 3)).alloc (.cells #[.int .i64 1, .int .i64 0] 3)).alloc (.cells #[.int .i64 0, .int .i64 1] 3)).alloc (.cells #[.int .i64 (-1), .int .i64 1] 3)).alloc (.cells #[.int .i64 4, .slice (some ⟨w1.heap.size + 1, 0, none⟩) 2 2, .slice none 0 0, .int .i64 0, .slice none 0 0, .int .i64 4, .slice (some ⟨w1.heap.size + 1 + 1, 0, none⟩) 2 2, .slice none 0 0, .int .i64 0, .slice none 0 0, .int .i64 1, .slice (some ⟨w1.heap.size + 1 + 1 + 1, 0, none⟩) 2 2, .slice (some ⟨w1.heap.size + 1 + 1 + 1 + 1, 0, none⟩) 2 2, .int .i64 1, .slice none 0 0] 36)).alloc (.cells #[.slice As s.n cs, .slice (some ⟨w1.heap.size + 1 + 1 + 1 + 1 + 1, 0, none⟩) 3 3] 26)).cell? ⟨w1.heap.size + 1 + 1 + 1, 1, none⟩ = some (.int .i64 1) := by go_simp
    have l30 : (((((((w1.alloc (.cells #[.slice As s.n cs, .slice Ar n cr] 26)).alloc (.cells #[.int .i64 0, .int .i64 1] 3)).alloc (.cells #[.int .i64 1, .int .i64 0] 3)).alloc (.cells #[.int .i64 0, .int .i64 1] 3)).alloc (.cells #[.int .i64 (-1), .int .i64 1] 3)).alloc (.cells #[.int .i64 4, .slice (some ⟨w1.heap.size + 1, 0, none⟩) 2 2, .slice none 0 0, .int .i64 0, .slice none 0 0, .int .i64 4, .slice (some ⟨w1.heap.size + 1 + 1, 0, none⟩) 2 2, .slice none 0 0, .int .i64 0, .slice none 0 0, .int .i64 1, .slice (some ⟨w1.heap.size + 1 + 1 + 1, 0, none⟩) 2 2, .slice (some ⟨w1.heap.size + 1 + 1 + 1 + 1, 0, none⟩) 2 2, .int .i64 1, .slice none 0 0] 36)).alloc (.cells #[.slice As s.n cs, .slice (some ⟨w1.heap.size + 1 + 1 + 1 + 1 + 1, 0, none⟩) 3 3] 26)).cell? ⟨w1.heap.size + 1 + 1 + 1 + 1, 0, none⟩ = some (.int .i64 (-1)) := by go_simp
    have l31 : (((((((w1.alloc (.cells #[.slice As s.n cs, .slice Ar n cr] 26)).alloc (.cells #[.int .i64 0, .int .i64 1] 3)).alloc (.cells #[.int .i64 1, .int .i64 0] 3)).alloc (.cells #[.int .i64 0, .int .i64 1] 3)).alloc (.cells #[.int .i64 (-1), .int .i64 1] 3)).alloc (.cells #[.int .i64 4, .slice (some ⟨w1.heap.size + 1, 0, none⟩) 2 2, .slice none 0 0, .int .i64 0, .slice none 0 0, .int .i64 4, .slice (some ⟨w1.heap.size + 1 + 1, 0, none⟩) 2 2, .slice none 0 0, .int .i64 0, .slice none 0 0, .int .i64 1, .slice (some ⟨w1.heap.size + 1 + 1 + 1, 0, none⟩) 2 2, .slice (some ⟨w1.heap.size + 1 + 1 + 1 + 1, 0, none⟩) 2 2, .int .i64 1, .slice none 0 0] 36)).alloc (.cells #[.slice As s.n cs, .slice (some ⟨w1.heap.size + 1 + 1 + 1 + 1 + 1, 0, none⟩) 3 3] 26)).cell? ⟨w1.heap.size + 1 + 1 + 1 + 1, 1, none⟩ = some (.int .i64 1) := by go_simp
    have r0 : (((((((w1.alloc (.cells #[.slice As s.n cs, .slice Ar n cr] 26)).alloc (.cells #[.int .i64 0, .int .i64 1] 3)).alloc (.cells #[.int .i64 1, .int .i64 0] 3)).alloc (.cells #[.int .i64 0, .int .i64 1] 3)).alloc (.cells #[.int .i64 (-1), .int .i64 1] 3)).alloc (.cells #[.int .i64 4, .slice (some ⟨w1.heap.size + 1, 0, none⟩) 2 2, .slice none 0 0, .int .i64 0, .slice none 0 0, .int .i64 4, .slice (some ⟨w1.heap.size + 1 + 1, 0, none⟩) 2 2, .slice none 0 0, .int .i64 0, .slice none 0 0, .int .i64 1, .slice (some ⟨w1.heap.size + 1 + 1 + 1, 0, none⟩) 2 2, .slice (some ⟨w1.heap.size + 1 + 1 + 1 + 1, 0, none⟩) 2 2, .int .i64 1, .slice none 0 0] 36)).alloc (.cells #[.slice As s.n cs, .slice (some ⟨w1.heap.size + 1 + 1 + 1 + 1 + 1, 0, none⟩) 3 3] 26)).cell? ⟨w1.heap.size + 1 + 1 + 1 + 1 + 1, 0, none⟩ = some (.int .i64 4) := by go_simp
    have r1 : (((((((w1.alloc (.cells #[.slice As s.n cs, .slice Ar n cr] 26)).alloc (.cells #[.int .i64 0, .int .i64 1] 3)).alloc (.cells #[.int .i64 1, .int .i64 0] 3)).alloc (.cells #[.int .i64 0, .int .i64 1] 3)).alloc (.cells #[.int .i64 (-1), .int .i64 1] 3)).alloc (.cells #[.int .i64 4, .slice (some ⟨w1.heap.size + 1, 0, none⟩) 2 2, .slice none 0 0, .int .i64 0, .slice none 0 0, .int .i64 4, .slice (some ⟨w1.heap.size + 1 + 1, 0, none⟩) 2 2, .slice none 0 0, .int .i64 0, .slice none 0 0, .int .i64 1, .slice (some ⟨w1.heap.size + 1 + 1 + 1, 0, none⟩) 2 2, .slice (some ⟨w1.heap.size + 1 + 1 + 1 + 1, 0, none⟩) 2 2, .int .i64 1, .slice none 0 0] 36)).alloc (.cells #[.slice As s.n cs, .slice (some ⟨w1.heap.size + 1 + 1 + 1 + 1 + 1, 0, none⟩) 3 3] 26)).cell? ⟨w1.heap.size + 1 + 1 + 1 + 1 + 1, 1, none⟩ = some (.slice (some ⟨w1.heap.size + 1, 0, none⟩) 2 2) := by go_simp
    have r2 : (((((((w1.alloc (.cells #[.slice As s.n cs, .slice Ar n cr] 26)).alloc (.cells #[.int .i64 0, .int .i64 1] 3)).alloc (.cells #[.int .i64 1, .int .i64 0] 3)).alloc (.cells #[.int .i64 0, .int .i64 1] 3)).alloc (.cells #[.int .i64 (-1), .int .i64 1] 3)).alloc (.cells #[.int .i64 4, .slice (some ⟨w1.heap.size + 1, 0, none⟩) 2 2, .slice none 0 0, .int .i64 0, .slice none 0 0, .int .i64 4, .slice (some ⟨w1.heap.size + 1 + 1, 0, none⟩) 2 2, .slice none 0 0, .int .i64 0, .slice none 0 0, .int .i64 1, .slice (some ⟨w1.heap.size + 1 + 1 + 1, 0, none⟩) 2 2, .slice (some ⟨w1.heap.size + 1 + 1 + 1 + 1, 0, none⟩) 2 2, .int .i64 1, .slice none 0 0] 36)).alloc (.cells #[.slice As s.n cs, .slice (some ⟨w1.heap.size + 1 + 1 + 1 + 1 + 1, 0, none⟩) 3 3] 26)).cell? ⟨w1.heap.size + 1 + 1 + 1 + 1 + 1, 2, none⟩ = some (.slice none 0 0) := by go_simp
    have r3 : (((((((w1.alloc (.cells #[.slice As s.n cs, .slice Ar n cr] 26)).alloc (.cells #[.int .i64 0, .int .i64 1] 3)).alloc (.cells #[.int .i64 1, .int .i64 0] 3)).alloc (.cells #[.int .i64 0, .int .i64 1] 3)).alloc (.cells #[.int .i64 (-1), .int .i64 1] 3)).alloc (.cells #[.int .i64 4, .slice (some ⟨w1.heap.size + 1, 0, none⟩) 2 2, .slice none 0 0, .int .i64 0, .slice none 0 0, .int .i64 4, .slice (some ⟨w1.heap.size + 1 + 1, 0, none⟩) 2 2, .slice none 0 0, .int .i64 0, .slice none 0 0, .int .i64 1, .slice (some ⟨w1.heap.size + 1 + 1 + 1, 0, none⟩) 2 2, .slice (some ⟨w1.heap.size + 1 + 1 + 1 + 1, 0, none⟩) 2 2, .int .i64 1, .slice none 0 0] 36)).alloc (.cells #[.slice As s.n cs, .slice (some ⟨w1.heap.size + 1 + 1 + 1 + 1 + 1, 0, none⟩) 3 3] 26)).cell? ⟨w1.heap.size + 1 + 1 + 1 + 1 + 1, 3, none⟩ = some (.int .i64 0) := by go_simp
    have r4 : (((((((w1.alloc (.cells #[.slice As s.n cs, .slice Ar n cr] 26)).alloc (.cells #[.int .i64 0, .int .i64 1] 3)).alloc (.cells #[.int .i64 1, .int .i64 0] 3)).alloc (.cells #[.int .i64 0, .int .i64 1] 3)).alloc (.cells #[.int .i64 (-1), .int .i64 1] 3)).alloc (.cells #[.int .i64 4, .slice (some ⟨w1.heap.size + 1, 0, none⟩) 2 2, .slice none 0 0, .int .i64 0, .slice none 0 0, .int .i64 4, .slice (some ⟨w1.heap.size + 1 + 1, 0, none⟩) 2 2, .slice none 0 0, .int .i64 0, .slice none 0 0, .int .i64 1, .slice (some ⟨w1.heap.size + 1 + 1 + 1, 0, none⟩) 2 2, .slice (some ⟨w1.heap.size + 1 + 1 + 1 + 1, 0, none⟩) 2 2, .int .i64 1, .slice none 0 0] 36)).alloc (.cells #[.slice As s.n cs, .slice (some ⟨w1.heap.size + 1 + 1 + 1 + 1 + 1, 0, none⟩) 3 3] 26)).cell? ⟨w1.heap.size + 1 + 1 + 1 + 1 + 1, 4, none⟩ = some (.slice none 0 0) := by go_simp
    have r5 : (((((((w1.alloc (.cells #[.slice As s.n cs, .slice Ar n cr] 26)).alloc (.cells #[.int .i64 0, .int .i64 1] 3)).alloc (.cells #[.int .i64 1, .int .i64 0] 3)).alloc (.cells #[.int .i64 0, .int .i64 1] 3)).alloc (.cells #[.int .i64 (-1), .int .i64 1] 3)).alloc (.cells #[.int .i64 4, .slice (some ⟨w1.heap.size + 1, 0, none⟩) 2 2, .slice none 0 0, .int .i64 0, .slice none 0 0, .int .i64 4, .slice (some ⟨w1.heap.size + 1 + 1, 0, none⟩) 2 2, .slice none 0 0, .int .i64 0, .slice none 0 0, .int .i64 1, .slice (some ⟨w1.heap.size + 1 + 1 + 1, 0, none⟩) 2 2, .slice (some ⟨w1.heap.size + 1 + 1 + 1 + 1, 0, none⟩) 2 2, .int .i64 1, .slice none 0 0] 36)).alloc (.cells #[.slice As s.n cs, .slice (some ⟨w1.heap.size + 1 + 1 + 1 + 1 + 1, 0, none⟩) 3 3] 26)).cell? ⟨w1.heap.size + 1 + 1 + 1 + 1 + 1, 5, none⟩ = some (.int .i64 4) := by go_simp
    have r6 : (((((((w1.alloc (.cells #[.slice As s.n cs, .slice Ar n cr] 26)).alloc (.cells #[.int .i64 0, .int .i64 1] 3)).alloc (.cells #[.int .i64 1, .int .i64 0] 3)).alloc (.cells #[.int .i64 0, .int .i64 1] 3)).alloc (.cells #[.int .i64 (-1), .int .i64 1] 3)).alloc (.cells #[.int .i64 4, .slice (some ⟨w1.heap.size + 1, 0, none⟩) 2 2, .slice none 0 0, .int .i64 0, .slice none 0 0, .int .i64 4, .slice (some ⟨w1.heap.size + 1 + 1, 0, none⟩) 2 2, .slice none 0 0, .int .i64 0, .slice none 0 0, .int .i64 1, .slice (some ⟨w1.heap.size + 1 + 1 + 1, 0, none⟩) 2 2, .slice (some ⟨w1.heap.size + 1 + 1 + 1 + 1, 0, none⟩) 2 2, .int .i64 1, .slice none 0 0] 36)).alloc (.cells #[.slice As s.n cs, .slice (some ⟨w1.heap.size + 1 + 1 + 1 + 1 + 1, 0, none⟩) 3 3] 26)).cell? ⟨w1.heap.size + 1 + 1 + 1 + 1 + 1, 6, none⟩ = some (.slice (some ⟨w1.heap.size + 1 + 1, 0, none⟩) 2 2) := by go_simp
    have r7 : (((((((w1.alloc (.cells #[.slice As s.n cs, .slice Ar n cr] 26)).alloc (.cells #[.int .i64 0, .int .i64 1] 3)).alloc (.cells #[.int .i64 1, .int .i64 0] 3)).alloc (.cells #[.int .i64 0, .int .i64 1] 3)).alloc (.cells #[.int .i64 (-1), .int .i64 1] 3)).alloc (.cells #[.int .i64 4, .slice (some ⟨w1.heap.size + 1, 0, none⟩) 2 2, .slice none 0 0, .int .i64 0, .slice none 0 0, .int .i64 4, .slice (some ⟨w1.heap.size + 1 + 1, 0, none⟩) 2 2, .slice none 0 0, .int .i64 0, .slice none 0 0, .int .i64 1, .slice (some ⟨w1.heap.size + 1 + 1 + 1, 0, none⟩) 2 2, .slice (some ⟨w1.heap.size + 1 + 1 + 1 + 1, 0, none⟩) 2 2, .int .i64 1, .slice none 0 0] 36)).alloc (.cells #[.slice As s.n cs, .slice (some ⟨w1.heap.size + 1 + 1 + 1 + 1 + 1, 0, none⟩) 3 3] 26)).cell? ⟨w1.heap.size + 1 + 1 + 1 + 1 + 1, 7, none⟩ = some (.slice none 0 0) := by go_simp
    have r8 : (((((((w1.alloc (.cells #[.slice As s.n cs, .slice Ar n cr] 26)).alloc (.cells #[.int .i64 0, .int .i64 1] 3)).alloc (.cells #[.int .i64 1, .int .i64 0] 3)).alloc (.cells #[.int .i64 0, .int .i64 1] 3)).alloc (.cells #[.int .i64 (-1), .int .i64 1] 3)).alloc (.cells #[.int .i64 4, .slice (some ⟨w1.heap.size + 1, 0, none⟩) 2 2, .slice none 0 0, .int .i64 0, .slice none 0 0, .int .i64 4, .slice (some ⟨w1.heap.size + 1 + 1, 0, none⟩) 2 2, .slice none 0 0, .int .i64 0, .slice none 0 0, .int .i64 1, .slice (some ⟨w1.heap.size + 1 + 1 + 1, 0, none⟩) 2 2, .slice (some ⟨w1.heap.size + 1 + 1 + 1 + 1, 0, none⟩) 2 2, .int .i64 1, .slice none 0 0] 36)).alloc (.cells #[.slice As s.n cs, .slice (some ⟨w1.heap.size + 1 + 1 + 1 + 1 + 1, 0, none⟩) 3 3] 26)).cell? ⟨w1.heap.size + 1 + 1 + 1 + 1 + 1, 8, none⟩ = some (.int .i64 0) := by go_simp
    have r9 : (((((((w1.alloc (.cells #[.slice As s.n cs, .slice Ar n cr] 26)).alloc (.cells #[.int .i64 0, .int .i64 1] 3)).alloc (.cells #[.int .i64 1, .int .i64 0] 3)).alloc (.cells #[.int .i64 0, .int .i64 1] 3)).alloc (.cells #[.int .i64 (-1), .int .i64 1] 3)).alloc (.cells #[.int .i64 4, .slice (some ⟨w1.heap.size + 1, 0, none⟩) 2 2, .slice none 0 0, .int .i64 0, .slice none 0 0, .int .i64 4, .slice (some ⟨w1.heap.size + 1 + 1, 0, none⟩) 2 2, .slice none 0 0, .int .i64 0, .slice none 0 0, .int .i64 1, .slice (some ⟨w1.heap.size + 1 + 1 + 1, 0, none⟩) 2 2, .slice (some ⟨w1.heap.size + 1 + 1 + 1 + 1, 0, none⟩) 2 2, .int .i64 1, .slice none 0 0] 36)).alloc (.cells #[.slice As s.n cs, .slice (some ⟨w1.heap.size + 1 + 1 + 1 + 1 + 1, 0, none⟩) 3 3] 26)).cell? ⟨w1.heap.size + 1 + 1 + 1 + 1 + 1, 9, none⟩ = some (.slice none 0 0) := by go_simp
    have r10 : (((((((w1.alloc (.cells #[.slice As s.n cs, .slice Ar n cr] 26)).alloc (.cells #[.int .i64 0, .int .i64 1] 3)).alloc (.cells #[.int .i64 1, .int .i64 0] 3)).alloc (.cells #[.int .i64 0, .int .i64 1] 3)).alloc (.cells #[.int .i64 (-1), .int .i64 1] 3)).alloc (.cells #[.int .i64 4, .slice (some ⟨w1.heap.size + 1, 0, none⟩) 2 2, .slice none 0 0, .int .i64 0, .slice none 0 0, .int .i64 4, .slice (some ⟨w1.heap.size + 1 + 1, 0, none⟩) 2 2, .slice none 0 0, .int .i64 0, .slice none 0 0, .int .i64 1, .slice (some ⟨w1.heap.size + 1 + 1 + 1, 0, none⟩) 2 2, .slice (some ⟨w1.heap.size + 1 + 1 + 1 + 1, 0, none⟩) 2 2, .int .i64 1, .slice none 0 0] 36)).alloc (.cells #[.slice As s.n cs, .slice (some ⟨w1.heap.size + 1 + 1 + 1 + 1 + 1, 0, none⟩) 3 3] 26)).cell? ⟨w1.heap.size + 1 + 1 + 1 + 1 + 1, 10, none⟩ = some (.int .i64 1) := by go_simp
    have r11 : (((((((w1.alloc (.cells #[.slice As s.n cs, .slice Ar n cr] 26)).alloc (.cells #[.int .i64 0, .int .i64 1] 3)).alloc (.cells #[.int .i64 1, .int .i64 0] 3)).alloc (.cells #[.int .i64 0, .int .i64 1] 3)).alloc (.cells #[.int .i64 (-1), .int .i64 1] 3)).alloc (.cells #[.int .i64 4, .slice (some ⟨w1.heap.size + 1, 0, none⟩) 2 2, .slice none 0 0, .int .i64 0, .slice none 0 0, .int .i64 4, .slice (some ⟨w1.heap.size + 1 + 1, 0, none⟩) 2 2, .slice none 0 0, .int .i64 0, .slice none 0 0, .int .i64 1, .slice (some ⟨w1.heap.size + 1 + 1 + 1, 0, none⟩) 2 2, .slice (some ⟨w1.heap.size + 1 + 1 + 1 + 1, 0, none⟩) 2 2, .int .i64 1, .slice none 0 0] 36)).alloc (.cells #[.slice As s.n cs, .slice (some ⟨w1.heap.size + 1 + 1 + 1 + 1 + 1, 0, none⟩) 3 3] 26)).cell? ⟨w1.heap.size + 1 + 1 + 1 + 1 + 1, 11, none⟩ = some (.slice (some ⟨w1.heap.size + 1 + 1 + 1, 0, none⟩) 2 2) := by go_simp
    have r12 : (((((((w1.alloc (.cells #[.slice As s.n cs, .slice Ar n cr] 26)).alloc (.cells #[.int .i64 0, .int .i64 1] 3)).alloc (.cells #[.int .i64 1, .int .i64 0] 3)).alloc (.cells #[.int .i64 0, .int .i64 1] 3)).alloc (.cells #[.int .i64 (-1), .int .i64 1] 3)).alloc (.cells #[.int .i64 4, .slice (some ⟨w1.heap.size + 1, 0, none⟩) 2 2, .slice none 0 0, .int .i64 0, .slice none 0 0, .int .i64 4, .slice (some ⟨w1.heap.size + 1 + 1, 0, none⟩) 2 2, .slice none 0 0, .int .i64 0, .slice none 0 0, .int .i64 1, .slice (some ⟨w1.heap.size + 1 + 1 + 1, 0, none⟩) 2 2, .slice (some ⟨w1.heap.size + 1 + 1 + 1 + 1, 0, none⟩) 2 2, .int .i64 1, .slice none 0 0] 36)).alloc (.cells #[.slice As s.n cs, .slice (some ⟨w1.heap.size + 1 + 1 + 1 + 1 + 1, 0, none⟩) 3 3] 26)).cell? ⟨w1.heap.size + 1 + 1 + 1 + 1 + 1, 12, none⟩ = some (.slice (some ⟨w1.heap.size + 1 + 1 + 1 + 1, 0, none⟩) 2 2) := by go_simp
    have r13 : (((((((w1.alloc (.cells #[.slice As s.n cs, .slice Ar n cr] 26)).alloc (.cells #[.int .i64 0, .int .i64 1] 3)).alloc (.cells #[.int .i64 1, .int .i64 0] 3)).alloc (.cells #[.int .i64 0, .int .i64 1] 3)).alloc (.cells #[.int .i64 (-1), .int .i64 1] 3)).alloc (.cells #[.int .i64 4, .slice (some ⟨w1.heap.size + 1, 0, none⟩) 2 2, .slice none 0 0, .int .i64 0, .slice none 0 0, .int .i64 4, .slice (some ⟨w1.heap.size + 1 + 1, 0, none⟩) 2 2, .slice none 0 0, .int .i64 0, .slice none 0 0, .int .i64 1, .slice (some ⟨w1.heap.size + 1 + 1 + 1, 0, none⟩) 2 2, .slice (some ⟨w1.heap.size + 1 + 1 + 1 + 1, 0, none⟩) 2 2, .int .i64 1, .slice none 0 0] 36)).alloc (.cells #[.slice As s.n cs, .slice (some ⟨w1.heap.size + 1 + 1 + 1 + 1 + 1, 0, none⟩) 3 3] 26)).cell? ⟨w1.heap.size + 1 + 1 + 1 + 1 + 1, 13, none⟩ = some (.int .i64 1) := by go_simp
    have r14 : (((((((w1.alloc (.cells #[.slice As s.n cs, .slice Ar n cr] 26)).alloc (.cells #[.int .i64 0, .int .i64 1] 3)).alloc (.cells #[.int .i64 1, .int .i64 0] 3)).alloc (.cells #[.int .i64 0, .int .i64 1] 3)).alloc (.cells #[.int .i64 (-1), .int .i64 1] 3)).alloc (.cells #[.int .i64 4, .slice (some ⟨w1.heap.size + 1, 0, none⟩) 2 2, .slice none 0 0, .int .i64 0, .slice none 0 0, .int .i64 4, .slice (some ⟨w1.heap.size + 1 + 1, 0, none⟩) 2 2, .slice none 0 0, .int .i64 0, .slice none 0 0, .int .i64 1, .slice (some ⟨w1.heap.size + 1 + 1 + 1, 0, none⟩) 2 2, .slice (some ⟨w1.heap.size + 1 + 1 + 1 + 1, 0, none⟩) 2 2, .int .i64 1, .slice none 0 0] 36)).alloc (.cells #[.slice As s.n cs, .slice (some ⟨w1.heap.size + 1 + 1 + 1 + 1 + 1, 0, none⟩) 3 3] 26)).cell? ⟨w1.heap.size + 1 + 1 + 1 + 1 + 1, 14, none⟩ = some (.slice none 0 0) := by go_simp
    have x0 : (((((((w1.alloc (.cells #[.slice As s.n cs, .slice Ar n cr] 26)).alloc (.cells #[.int .i64 0, .int .i64 1] 3)).alloc (.cells #[.int .i64 1, .int .i64 0] 3)).alloc (.cells #[.int .i64 0, .int .i64 1] 3)).alloc (.cells #[.int .i64 (-1), .int .i64 1] 3)).alloc (.cells #[.int .i64 4, .slice (some ⟨w1.heap.size + 1, 0, none⟩) 2 2, .slice none 0 0, .int .i64 0, .slice none 0 0, .int .i64 4, .slice (some ⟨w1.heap.size + 1 + 1, 0, none⟩) 2 2, .slice none 0 0, .int .i64 0, .slice none 0 0, .int .i64 1, .slice (some ⟨w1.heap.size + 1 + 1 + 1, 0, none⟩) 2 2, .slice (some ⟨w1.heap.size + 1 + 1 + 1 + 1, 0, none⟩) 2 2, .int .i64 1, .slice none 0 0] 36)).alloc (.cells #[.slice As s.n cs, .slice (some ⟨w1.heap.size + 1 + 1 + 1 + 1 + 1, 0, none⟩) 3 3] 26)).cell? ⟨w1.heap.size + 1 + 1 + 1 + 1 + 1 + 1, 0, none⟩ = some (.slice As s.n cs) := by go_simp
    have x1 : (((((((w1.alloc (.cells #[.slice As s.n cs, .slice Ar n cr] 26)).alloc (.cells #[.int .i64 0, .int .i64 1] 3)).alloc (.cells #[.int .i64 1, .int .i64 0] 3)).alloc (.cells #[.int .i64 0, .int .i64 1] 3)).alloc (.cells #[.int .i64 (-1), .int .i64 1] 3)).alloc (.cells #[.int .i64 4, .slice (some ⟨w1.heap.size + 1, 0, none⟩) 2 2, .slice none 0 0, .int .i64 0, .slice none 0 0, .int .i64 4, .slice (some ⟨w1.heap.size + 1 + 1, 0, none⟩) 2 2, .slice none 0 0, .int .i64 0, .slice none 0 0, .int .i64 1, .slice (some ⟨w1.heap.size + 1 + 1 + 1, 0, none⟩) 2 2, .slice (some ⟨w1.heap.size + 1 + 1 + 1 + 1, 0, none⟩) 2 2, .int .i64 1, .slice none 0 0] 36)).alloc (.cells #[.slice As s.n cs, .slice (some ⟨w1.heap.size + 1 + 1 + 1 + 1 + 1, 0, none⟩) 3 3] 26)).cell? ⟨w1.heap.size + 1 + 1 + 1 + 1 + 1 + 1, 1, none⟩ = some (.slice (some ⟨w1.heap.size + 1 + 1 + 1 + 1 + 1, 0, none⟩) 3 3) := by go_simp
    have hrd : RdRs (((((((w1.alloc (.cells #[.slice As s.n cs, .slice Ar n cr] 26)).alloc (.cells #[.int .i64 0, .int .i64 1] 3)).alloc (.cells #[.int .i64 1, .int .i64 0] 3)).alloc (.cells #[.int .i64 0, .int .i64 1] 3)).alloc (.cells #[.int .i64 (-1), .int .i64 1] 3)).alloc (.cells #[.int .i64 4, .slice (some ⟨w1.heap.size + 1, 0, none⟩) 2 2, .slice none 0 0, .int .i64 0, .slice none 0 0, .int .i64 4, .slice (some ⟨w1.heap.size + 1 + 1, 0, none⟩) 2 2, .slice none 0 0, .int .i64 0, .slice none 0 0, .int .i64 1, .slice (some ⟨w1.heap.size + 1 + 1 + 1, 0, none⟩) 2 2, .slice (some ⟨w1.heap.size + 1 + 1 + 1 + 1, 0, none⟩) 2 2, .int .i64 1, .slice none 0 0] 36)).alloc (.cells #[.slice As s.n cs, .slice (some ⟨w1.heap.size + 1 + 1 + 1 + 1 + 1, 0, none⟩) 3 3] 26)) (((((((w1.alloc (.cells #[.slice As s.n cs, .slice Ar n cr] 26)).alloc (.cells #[.int .i64 0, .int .i64 1] 3)).alloc (.cells #[.int .i64 1, .int .i64 0] 3)).alloc (.cells #[.int .i64 0, .int .i64 1] 3)).alloc (.cells #[.int .i64 (-1), .int .i64 1] 3)).alloc (.cells #[.int .i64 4, .slice (some ⟨w1.heap.size + 1, 0, none⟩) 2 2, .slice none 0 0, .int .i64 0, .slice none 0 0, .int .i64 4, .slice (some ⟨w1.heap.size + 1 + 1, 0, none⟩) 2 2, .slice none 0 0, .int .i64 0, .slice none 0 0, .int .i64 1, .slice (some ⟨w1.heap.size + 1 + 1 + 1, 0, none⟩) 2 2, .slice (some ⟨w1.heap.size + 1 + 1 + 1 + 1, 0, none⟩) 2 2, .int .i64 1, .slice none 0 0] 36)).alloc (.cells #[.slice As s.n cs, .slice (some ⟨w1.heap.size + 1 + 1 + 1 + 1 + 1, 0, none⟩) 3 3] 26)).heap.size (some ⟨w1.heap.size + 1 + 1 + 1 + 1 + 1, 0, none⟩) 3 lsQ := rd_lsQ (by rw [hsz]; omega) (by rw [hsz]; omega) (by rw [hsz]; omega) (by rw [hsz]; omega) (by rw [hsz]; omega) l00 l01 l10 l11 l20 l21 l30 l31 (fun j hj => by
      have : j = 0 ∨ j = 1 ∨ j = 2 ∨ j = 3 ∨ j = 4 ∨ j = 5 ∨ j = 6 ∨ j = 7 ∨ j = 8 ∨ j = 9 ∨ j = 10 ∨ j = 11 ∨ j = 12 ∨ j = 13 ∨ j = 14 := by omega
      rcases this with rfl | rfl | rfl | rfl | rfl | rfl | rfl | rfl | rfl | rfl | rfl | rfl | rfl | rfl | rfl
      · exact r0
      · exact r1
      · exact r2
      · exact r3
      · exact r4
      · exact r5
      · exact r6
      · exact r7
      · exact r8
      · exact r9
      · exact r10
      · exact r11
      · exact r12
      · exact r13
      · exact r14)
    have HS := Lib.hid (HM.out.rs.later hbl)
    have HC' := Lib.hid (HC.out.later hbl)
    have HB' := Lib.hid (bl_trans HB.out hbl)
    have HQ := Lib.hid hrd
    clear hrd hbl hsz HM HC HB l00 l01 l10 l11 l20 l21 l30 l31 r0 r1 r2 r3 r4 r5 r6 r7 r8 r9 r10 r11 r12 r13 r14
    have HC := HC'
    have HB := HB'
    clear HC' HB'
    go_wp2_with fail
    generalize (((((((w1.alloc (.cells #[.slice As s.n cs, .slice Ar n cr] 26)).alloc (.cells #[.int .i64 0, .int .i64 1] 3)).alloc (.cells #[.int .i64 1, .int .i64 0] 3)).alloc (.cells #[.int .i64 0, .int .i64 1] 3)).alloc (.cells #[.int .i64 (-1), .int .i64 1] 3)).alloc (.cells #[.int .i64 4, .slice (some ⟨w1.heap.size + 1, 0, none⟩) 2 2, .slice none 0 0, .int .i64 0, .slice none 0 0, .int .i64 4, .slice (some ⟨w1.heap.size + 1 + 1, 0, none⟩) 2 2, .slice none 0 0, .int .i64 0, .slice none 0 0, .int .i64 1, .slice (some ⟨w1.heap.size + 1 + 1 + 1, 0, none⟩) 2 2, .slice (some ⟨w1.heap.size + 1 + 1 + 1 + 1, 0, none⟩) 2 2, .int .i64 1, .slice none 0 0] 36)).alloc (.cells #[.slice As s.n cs, .slice (some ⟨w1.heap.size + 1 + 1 + 1 + 1 + 1, 0, none⟩) 3 3] 26)) = w2 at *
    obtain ⟨G, hG⟩ : ∃ G, w1.heap.size + 1 + 1 + 1 + 1 + 1 = G := ⟨_, rfl⟩
    obtain ⟨X, hX⟩ : ∃ X, w1.heap.size + 1 + 1 + 1 + 1 + 1 + 1 = X := ⟨_, rfl⟩
    rw [hX] at x0 x1 ⊢
    simp only [hG] at x1 HQ ⊢
    clear hX hG
    cases hcv : cvB s 3 lsQ c with
    | false =>
      have HVA := Lib.hid (show rhB s 3 lsQ c 0 = false from ls_no hcv 0)
      have HVB := Lib.hid (show rhB s 3 lsQ c 1 = false from ls_no hcv 1)
      have HCV := Lib.hid (show cvB s 3 lsQ c = false from hcv)
      clear hcv
      refine (implHolds_any s c 3 lsQ 0 As (some ⟨G, 0, none⟩) Ac cs 3 cc _ p1 p2 (by omega) lsQ_fit HS.out HQ.out HC.out).mono ?_
      rintro e w3 ⟨rfl, hb⟩
      rw [HVA.out]
      have HB' := Lib.hid (bl_trans HB.out hb)
      have HS' := Lib.hid (HS.out.later hb)
      have HQ' := Lib.hid (HQ.out.later hb)
      have HC' := Lib.hid (HC.out.later hb)
      replace x0 := kc hb x0
      replace x1 := kc hb x1
      clear hb HB HS HQ HC
      have HB := HB'
      clear HB'
      have HS := HS'
      clear HS'
      have HQ := HQ'
      clear HQ'
      have HC := HC'
      clear HC'
      go_wp2_with fail
      refine (implHolds_any s c 3 lsQ 1 As (some ⟨G, 0, none⟩) Ac cs 3 cc _ p1 p2 (by omega) lsQ_fit HS.out HQ.out HC.out).mono ?_
      rintro e w4 ⟨rfl, hb⟩
      rw [HVB.out]
      have HB' := Lib.hid (bl_trans HB.out hb)
      have HS' := Lib.hid (HS.out.later hb)
      have HQ' := Lib.hid (HQ.out.later hb)
      have HC' := Lib.hid (HC.out.later hb)
      replace x0 := kc hb x0
      replace x1 := kc hb x1
      clear hb HB HS HQ HC
      have HB := HB'
      clear HB'
      have HS := HS'
      clear HS'
      have HQ := HQ'
      clear HQ'
      have HC := HC'
      clear HC'
      go_wp2_with fail
      refine (specHolds_any s c 3 lsQ 0 As (some ⟨G, 0, none⟩) Ac cs 3 cc _ p1 p2 (by omega) lsQ_fit HS.out HQ.out HC.out).mono ?_
      rintro e w5a ⟨rfl, hb⟩
      rw [HVA.out]
      have HB' := Lib.hid (bl_trans HB.out hb)
      have HS' := Lib.hid (HS.out.later hb)
      have HQ' := Lib.hid (HQ.out.later hb)
      have HC' := Lib.hid (HC.out.later hb)
      replace x0 := kc hb x0
      replace x1 := kc hb x1
      clear hb HB HS HQ HC
      have HB := HB'
      clear HB'
      have HS := HS'
      clear HS'
      have HQ := HQ'
      clear HQ'
      have HC := HC'
      clear HC'
      go_wp2_with fail
      refine (specHolds_any s c 3 lsQ 1 As (some ⟨G, 0, none⟩) Ac cs 3 cc _ p1 p2 (by omega) lsQ_fit HS.out HQ.out HC.out).mono ?_
      rintro e w5b ⟨rfl, hb⟩
      rw [HVB.out]
      have HB' := Lib.hid (bl_trans HB.out hb)
      have HS' := Lib.hid (HS.out.later hb)
      have HQ' := Lib.hid (HQ.out.later hb)
      have HC' := Lib.hid (HC.out.later hb)
      replace x0 := kc hb x0
      replace x1 := kc hb x1
      clear hb HB HS HQ HC
      have HB := HB'
      clear HB'
      have HS := HS'
      clear HS'
      have HQ := HQ'
      clear HQ'
      have HC := HC'
      clear HC'
      go_wp2_with fail
      refine (implCells_any s c 3 lsQ As (some ⟨G, 0, none⟩) Ac cs 3 cc _ p1 p2 (by omega) lsQ_fit HS.out HQ.out HC.out).mono ?_
      rintro e w5 ⟨rfl, hb⟩
      rw [HCV.out]
      have HB' := Lib.hid (bl_trans HB.out hb)
      have HS' := Lib.hid (HS.out.later hb)
      have HQ' := Lib.hid (HQ.out.later hb)
      have HC' := Lib.hid (HC.out.later hb)
      replace x0 := kc hb x0
      replace x1 := kc hb x1
      clear hb HB HS HQ HC
      have HB := HB'
      clear HB'
      have HS := HS'
      clear HS'
      have HQ := HQ'
      clear HQ'
      have HC := HC'
      clear HC'
      go_wp2_with fail
      refine (specHolds_any s c 3 lsQ 0 As (some ⟨G, 0, none⟩) Ac cs 3 cc _ p1 p2 (by omega) lsQ_fit HS.out HQ.out HC.out).mono ?_
      rintro e w6a ⟨rfl, hb⟩
      rw [HVA.out]
      have HB' := Lib.hid (bl_trans HB.out hb)
      have HS' := Lib.hid (HS.out.later hb)
      have HQ' := Lib.hid (HQ.out.later hb)
      have HC' := Lib.hid (HC.out.later hb)
      replace x0 := kc hb x0
      replace x1 := kc hb x1
      clear hb HB HS HQ HC
      have HB := HB'
      clear HB'
      have HS := HS'
      clear HS'
      have HQ := HQ'
      clear HQ'
      have HC := HC'
      clear HC'
      go_wp2_with fail
      refine (specHolds_any s c 3 lsQ 1 As (some ⟨G, 0, none⟩) Ac cs 3 cc _ p1 p2 (by omega) lsQ_fit HS.out HQ.out HC.out).mono ?_
      rintro e w6 ⟨rfl, hb⟩
      rw [HVB.out]
      have HB' := Lib.hid (bl_trans HB.out hb)
      have HS' := Lib.hid (HS.out.later hb)
      have HQ' := Lib.hid (HQ.out.later hb)
      have HC' := Lib.hid (HC.out.later hb)
      replace x0 := kc hb x0
      replace x1 := kc hb x1
      clear hb HB HS HQ HC
      have HB := HB'
      clear HB'
      have HS := HS'
      clear HS'
      have HQ := HQ'
      clear HQ'
      have HC := HC'
      clear HC'
      go_wp2
      go_ret
      exact ⟨rfl, HB.out⟩
    | true =>
      obtain ⟨va, vb, vd⟩ := ls_val hcv
      rcases Int.lt_trichotomy (c.x 0) (c.x 1) with hlt | heq | hgt
      · have HN := Lib.hid (show ¬ c.x 0 = c.x 1 from by omega)
        have fa : rhB s 3 lsQ c 0 = true := by rw [va]; exact decide_eq_true (by omega)
        have fb : rhB s 3 lsQ c 1 = false := by rw [vb]; exact decide_eq_false (by omega)
        have fd : rhB s 3 lsQ c 2 = true := by rw [vd]; exact decide_eq_true (by omega)
        clear va vb vd
        have FA := Lib.hid fa
        have FB := Lib.hid fb
        have FD := Lib.hid fd
        clear fa fb fd hlt
        have HVA := Lib.hid (show rhB s 3 lsQ c 0 = true from FA.out)
        have HVB := Lib.hid (show rhB s 3 lsQ c 1 = false from FB.out)
        have HCV := Lib.hid (show cvB s 3 lsQ c = true from hcv)
        have HVD := Lib.hid (show rhB s 3 lsQ c 2 = true from FD.out)
        clear hcv
        refine (implHolds_any s c 3 lsQ 0 As (some ⟨G, 0, none⟩) Ac cs 3 cc _ p1 p2 (by omega) lsQ_fit HS.out HQ.out HC.out).mono ?_
        rintro e w3 ⟨rfl, hb⟩
        rw [HVA.out]
        have HB' := Lib.hid (bl_trans HB.out hb)
        have HS' := Lib.hid (HS.out.later hb)
        have HQ' := Lib.hid (HQ.out.later hb)
        have HC' := Lib.hid (HC.out.later hb)
        replace x0 := kc hb x0
        replace x1 := kc hb x1
        clear hb HB HS HQ HC
        have HB := HB'
        clear HB'
        have HS := HS'
        clear HS'
        have HQ := HQ'
        clear HQ'
        have HC := HC'
        clear HC'
        go_wp2_with fail
        refine (implHolds_any s c 3 lsQ 1 As (some ⟨G, 0, none⟩) Ac cs 3 cc _ p1 p2 (by omega) lsQ_fit HS.out HQ.out HC.out).mono ?_
        rintro e w4 ⟨rfl, hb⟩
        rw [HVB.out]
        have HB' := Lib.hid (bl_trans HB.out hb)
        have HS' := Lib.hid (HS.out.later hb)
        have HQ' := Lib.hid (HQ.out.later hb)
        have HC' := Lib.hid (HC.out.later hb)
        replace x0 := kc hb x0
        replace x1 := kc hb x1
        clear hb HB HS HQ HC
        have HB := HB'
        clear HB'
        have HS := HS'
        clear HS'
        have HQ := HQ'
        clear HQ'
        have HC := HC'
        clear HC'
        go_wp2_with fail
        refine (specHolds_any s c 3 lsQ 0 As (some ⟨G, 0, none⟩) Ac cs 3 cc _ p1 p2 (by omega) lsQ_fit HS.out HQ.out HC.out).mono ?_
        rintro e w5a ⟨rfl, hb⟩
        rw [HVA.out]
        have HB' := Lib.hid (bl_trans HB.out hb)
        have HS' := Lib.hid (HS.out.later hb)
        have HQ' := Lib.hid (HQ.out.later hb)
        have HC' := Lib.hid (HC.out.later hb)
        replace x0 := kc hb x0
        replace x1 := kc hb x1
        clear hb HB HS HQ HC
        have HB := HB'
        clear HB'
        have HS := HS'
        clear HS'
        have HQ := HQ'
        clear HQ'
        have HC := HC'
        clear HC'
        go_wp2_with fail
        refine (specHolds_any s c 3 lsQ 1 As (some ⟨G, 0, none⟩) Ac cs 3 cc _ p1 p2 (by omega) lsQ_fit HS.out HQ.out HC.out).mono ?_
        rintro e w5b ⟨rfl, hb⟩
        rw [HVB.out]
        have HB' := Lib.hid (bl_trans HB.out hb)
        have HS' := Lib.hid (HS.out.later hb)
        have HQ' := Lib.hid (HQ.out.later hb)
        have HC' := Lib.hid (HC.out.later hb)
        replace x0 := kc hb x0
        replace x1 := kc hb x1
        clear hb HB HS HQ HC
        have HB := HB'
        clear HB'
        have HS := HS'
        clear HS'
        have HQ := HQ'
        clear HQ'
        have HC := HC'
        clear HC'
        go_wp2_with fail
        refine (implCells_any s c 3 lsQ As (some ⟨G, 0, none⟩) Ac cs 3 cc _ p1 p2 (by omega) lsQ_fit HS.out HQ.out HC.out).mono ?_
        rintro e w5 ⟨rfl, hb⟩
        rw [HCV.out]
        have HB' := Lib.hid (bl_trans HB.out hb)
        have HS' := Lib.hid (HS.out.later hb)
        have HQ' := Lib.hid (HQ.out.later hb)
        have HC' := Lib.hid (HC.out.later hb)
        replace x0 := kc hb x0
        replace x1 := kc hb x1
        clear hb HB HS HQ HC
        have HB := HB'
        clear HB'
        have HS := HS'
        clear HS'
        have HQ := HQ'
        clear HQ'
        have HC := HC'
        clear HC'
        obtain ⟨bc, oc, eA, hbc, hcc⟩ := HC.out (show 0 < c.n by have := (cv_ok HCV.out).len; omega)
        have q0 := hcc 0 (by have := (cv_ok HCV.out).len; omega)
        have q1 := hcc 1 (by have := (cv_ok HCV.out).len; omega)
        subst eA
        clear hcc
        rw [Nat.add_zero] at q0
        have hl0 : (0 : Int) < (c.n : Int) := by have := (cv_ok HCV.out).len; omega
        have hl1 : (1 : Int) < (c.n : Int) := by have := (cv_ok HCV.out).len; omega
        go_wp2_with fail
        refine region_class (C := Cls w5) (by kernel_rfl) (by kernel_rfl) (Below.refl w5.heap.size w5).drew ?_
        refine BigFrame.wpQuiet_want (by rfl) (fun K hK => quiet_val (v := .bool true) (fun w' hw => ?_) (hK _ ?_))
        · clear x0 x1 q0 q1 hK K
          go_simp
        clear hK K
        simp only [Act.put, List.setIfInBounds_toArray, List.set_cons_succ, List.set_cons_zero]
        refine BigFrame.wpQuiet_want (by rfl) (fun K hK => quiet_val (v := .bool true) (fun w' hw => ?_) (hK _ ?_))
        · clear x0 x1 q0 q1 hK K
          go_simp
        clear hK K
        simp only [Act.put, List.setIfInBounds_toArray, List.set_cons_succ, List.set_cons_zero]
        refine BigFrame.wpQuiet_want (by rfl) (fun K hK => quiet_val (v := .bool false) (fun w' hw => ?_) (hK _ ?_))
        · clear x0 x1 q0 q1 hK K
          go_simp
        clear hK K
        simp only [Act.put, List.setIfInBounds_toArray, List.set_cons_succ, List.set_cons_zero]
        refine BigFrame.wpQuiet_want (by rfl) (fun K hK => quiet_val (v := .bool false) (fun w' hw => ?_) (hK _ ?_))
        · clear x0 x1 q0 q1 hK K
          go_simp
        clear hK K
        simp only [Act.put, List.setIfInBounds_toArray, List.set_cons_succ, List.set_cons_zero]
        refine BigFrame.wpQuiet_want (by rfl) (fun K hK => quiet_val (v := .bool true) (fun w' hw => ?_) (hK _ ?_))
        · clear x0 x1 q0 q1 hK K
          go_simp
        clear hK K
        simp only [Act.put, List.setIfInBounds_toArray, List.set_cons_succ, List.set_cons_zero]
        refine BigFrame.wpQuiet_want (by rfl) (fun K hK => quiet_val (v := .bool true) (fun w' hw => ?_) (hK _ ?_))
        · clear x0 x1 q0 q1 hK K
          go_simp
        clear hK K
        simp only [Act.put, List.setIfInBounds_toArray, List.set_cons_succ, List.set_cons_zero]
        refine BigFrame.wpQuiet_want (by rfl) (fun K hK => quiet_val (v := .bool true) (fun w' hw => ?_) (hK _ ?_))
        · clear x0 x1 q0 q1 hK K
          go_simp
        clear hK K
        simp only [Act.put, List.setIfInBounds_toArray, List.set_cons_succ, List.set_cons_zero]
        refine BigFrame.wpQuiet_want (by rfl) (fun K hK => quiet_val (v := .bool true) (fun w' hw => ?_) (hK _ ?_))
        · clear x0 x1 q0 q1 hK K
          go_simp
        clear hK K
        simp only [Act.put, List.setIfInBounds_toArray, List.set_cons_succ, List.set_cons_zero]
        refine BigFrame.wpQuiet_skip (by rfl) ?_
        simp only [Act.put, List.setIfInBounds_toArray, List.set_cons_succ, List.set_cons_zero]
        refine BigFrame.wpQuiet_want (by rfl) (fun K hK => quiet_val (v := .bool true) (fun w' hw => ?_) (hK _ ?_))
        · clear x0 x1 q0 q1 hK K
          go_simp
        clear hK K
        simp only [Act.put, List.setIfInBounds_toArray, List.set_cons_succ, List.set_cons_zero]
        refine BigFrame.wpQuiet_want (by rfl) (fun K hK => quiet_val (v := .slice (some ⟨bc, oc, none⟩) c.n cc) (fun w' hw => ?_) (hK _ ?_))
        · clear x0 x1 q0 q1 hK K
          go_simp
        clear hK K
        simp only [Act.put, List.setIfInBounds_toArray, List.set_cons_succ, List.set_cons_zero]
        refine BigFrame.wpQuiet_want (by rfl) (fun K hK => quiet_val (v := .pointer (some ⟨bc, oc, none⟩)) (fun w' hw => ?_) (hK _ ?_))
        · clear x0 x1 q0 q1 hK K
          go_simp
          intro h; omega
        clear hK K
        simp only [Act.put, List.setIfInBounds_toArray, List.set_cons_succ, List.set_cons_zero]
        refine BigFrame.wpQuiet_want (by rfl) (fun K hK => quiet_val (v := .int .i64 (c.x 0)) (fun w' hw => ?_) (hK _ ?_))
        · have e0 := kc hw q0; clear x0 x1 q0 q1 hK K
          go_simp
        clear hK K
        simp only [Act.put, List.setIfInBounds_toArray, List.set_cons_succ, List.set_cons_zero]
        refine BigFrame.wpQuiet_want (by rfl) (fun K hK => quiet_val (v := .slice (some ⟨bc, oc, none⟩) c.n cc) (fun w' hw => ?_) (hK _ ?_))
        · clear x0 x1 q0 q1 hK K
          go_simp
        clear hK K
        simp only [Act.put, List.setIfInBounds_toArray, List.set_cons_succ, List.set_cons_zero]
        refine BigFrame.wpQuiet_want (by rfl) (fun K hK => quiet_val (v := .pointer (some ⟨bc, oc + 1, none⟩)) (fun w' hw => ?_) (hK _ ?_))
        · clear x0 x1 q0 q1 hK K
          go_simp
        clear hK K
        simp only [Act.put, List.setIfInBounds_toArray, List.set_cons_succ, List.set_cons_zero]
        refine BigFrame.wpQuiet_want (by rfl) (fun K hK => quiet_val (v := .int .i64 (c.x 1)) (fun w' hw => ?_) (hK _ ?_))
        · have e0 := kc hw q1; clear x0 x1 q0 q1 hK K
          go_simp
        clear hK K
        simp only [Act.put, List.setIfInBounds_toArray, List.set_cons_succ, List.set_cons_zero]
        refine BigFrame.wpQuiet_want (by rfl) (fun K hK => quiet_val (v := .bool true) (fun w' hw => ?_) (hK _ ?_))
        · clear x0 x1 q0 q1 hK K
          go_simp
          exact HN.out
        clear hK K
        simp only [Act.put, List.setIfInBounds_toArray, List.set_cons_succ, List.set_cons_zero]
        refine BigFrame.wpQuiet_want (by rfl) (fun K hK => quiet_val (v := .bool true) (fun w' hw => ?_) (hK _ ?_))
        · clear x0 x1 q0 q1 hK K
          go_simp
        clear hK K
        simp only [Act.put, List.setIfInBounds_toArray, List.set_cons_succ, List.set_cons_zero]
        refine BigFrame.wpQuiet_want (by rfl) (fun K hK => quiet_val (v := .bool true) (fun w' hw => ?_) (hK _ ?_))
        · clear x0 x1 q0 q1 hK K
          go_simp
        clear hK K
        simp only [Act.put, List.setIfInBounds_toArray, List.set_cons_succ, List.set_cons_zero]
        refine BigFrame.wpQuiet_want (by rfl) (fun K hK => quiet_val (v := .bool true) (fun w' hw => ?_) (hK _ ?_))
        · clear x0 x1 q0 q1 hK K
          go_simp
        clear hK K
        simp only [Act.put, List.setIfInBounds_toArray, List.set_cons_succ, List.set_cons_zero]
        refine BigFrame.wpQuiet_want (by rfl) (fun K hK => quiet_val (v := .agg #[.slice As s.n cs, .slice (some ⟨G, 0, none⟩) 3 3]) (fun w' hw => ?_) (hK _ ?_))
        · have e0 := kc hw x0; have e1 := kc hw x1; clear x0 x1 q0 q1 hK K
          go_simp
        clear hK K
        simp only [Act.put, List.setIfInBounds_toArray, List.set_cons_succ, List.set_cons_zero]
        refine BigFrame.wpQuiet_want (by rfl) (fun K hK => quiet_val (v := .slice (some ⟨bc, oc, none⟩) c.n cc) (fun w' hw => ?_) (hK _ ?_))
        · clear x0 x1 q0 q1 hK K
          go_simp
        clear hK K
        simp only [Act.put, List.setIfInBounds_toArray, List.set_cons_succ, List.set_cons_zero]
        refine BigFrame.wpQuiet_want (by rfl) (fun K hK => quiet_enter (v := .bool true) (f := 17) (args := #[.agg #[.slice As s.n cs, .slice (some ⟨G, 0, none⟩) 3 3], .int .i64 2, .slice (some ⟨bc, oc, none⟩) c.n cc]) (fun w' hw => ?_) (fun w' hw => ?_) (hK _ ?_))
        · go_simp
        · refine (implHolds_any s c 3 lsQ 2 As (some ⟨G, 0, none⟩) (some ⟨bc, oc, none⟩) cs 3 cc _ p1 p2 (by omega) lsQ_fit (HS.out.later hw) (HQ.out.later hw) (HC.out.later hw)).mono ?_
          rintro e w8 ⟨rfl, hb⟩
          exact ⟨by rw [HVD.out], bl_trans hw hb⟩
        clear hK K
        simp only [Act.put, List.setIfInBounds_toArray, List.set_cons_succ, List.set_cons_zero]
        refine BigFrame.wpQuiet_want (by rfl) (fun K hK => quiet_val (v := .bool true) (fun w' hw => ?_) (hK _ ?_))
        · clear x0 x1 q0 q1 hK K
          go_simp
        clear hK K
        simp only [Act.put, List.setIfInBounds_toArray, List.set_cons_succ, List.set_cons_zero]
        refine BigFrame.wpQuiet_want (by rfl) (fun K hK => quiet_val (v := .bool true) (fun w' hw => ?_) (hK _ ?_))
        · clear x0 x1 q0 q1 hK K
          go_simp
        clear hK K
        simp only [Act.put, List.setIfInBounds_toArray, List.set_cons_succ, List.set_cons_zero]
        refine BigFrame.wpQuiet_want (by rfl) (fun K hK => quiet_val (v := .bool true) (fun w' hw => ?_) (hK _ ?_))
        · clear x0 x1 q0 q1 hK K
          go_simp
        clear hK K
        simp only [Act.put, List.setIfInBounds_toArray, List.set_cons_succ, List.set_cons_zero]
        refine BigFrame.wpQuiet_want (by rfl) (fun K hK => quiet_val (v := .bool true) (fun w' hw => ?_) (hK _ ?_))
        · clear x0 x1 q0 q1 hK K
          go_simp
        clear hK K
        simp only [Act.put, List.setIfInBounds_toArray, List.set_cons_succ, List.set_cons_zero]
        refine wpQuiet_nil ?_
        intro w6 hw9
        have HB6 := Lib.hid (bl_trans HB.out hw9)
        clear hw9
        go_wp2
        go_ret
        exact ⟨rfl, HB6.out⟩
      · have HN := Lib.hid (show c.x 0 = c.x 1 from by omega)
        have fa : rhB s 3 lsQ c 0 = false := by rw [va]; exact decide_eq_false (by omega)
        have fb : rhB s 3 lsQ c 1 = false := by rw [vb]; exact decide_eq_false (by omega)
        have fd : rhB s 3 lsQ c 2 = false := by rw [vd]; exact decide_eq_false (by omega)
        clear va vb vd
        have FA := Lib.hid fa
        have FB := Lib.hid fb
        have FD := Lib.hid fd
        clear fa fb fd heq
        have HVA := Lib.hid (show rhB s 3 lsQ c 0 = false from FA.out)
        have HVB := Lib.hid (show rhB s 3 lsQ c 1 = false from FB.out)
        have HCV := Lib.hid (show cvB s 3 lsQ c = true from hcv)
        have HVD := Lib.hid (show rhB s 3 lsQ c 2 = false from FD.out)
        clear hcv
        refine (implHolds_any s c 3 lsQ 0 As (some ⟨G, 0, none⟩) Ac cs 3 cc _ p1 p2 (by omega) lsQ_fit HS.out HQ.out HC.out).mono ?_
        rintro e w3 ⟨rfl, hb⟩
        rw [HVA.out]
        have HB' := Lib.hid (bl_trans HB.out hb)
        have HS' := Lib.hid (HS.out.later hb)
        have HQ' := Lib.hid (HQ.out.later hb)
        have HC' := Lib.hid (HC.out.later hb)
        replace x0 := kc hb x0
        replace x1 := kc hb x1
        clear hb HB HS HQ HC
        have HB := HB'
        clear HB'
        have HS := HS'
        clear HS'
        have HQ := HQ'
        clear HQ'
        have HC := HC'
        clear HC'
        go_wp2_with fail
        refine (implHolds_any s c 3 lsQ 1 As (some ⟨G, 0, none⟩) Ac cs 3 cc _ p1 p2 (by omega) lsQ_fit HS.out HQ.out HC.out).mono ?_
        rintro e w4 ⟨rfl, hb⟩
        rw [HVB.out]
        have HB' := Lib.hid (bl_trans HB.out hb)
        have HS' := Lib.hid (HS.out.later hb)
        have HQ' := Lib.hid (HQ.out.later hb)
        have HC' := Lib.hid (HC.out.later hb)
        replace x0 := kc hb x0
        replace x1 := kc hb x1
        clear hb HB HS HQ HC
        have HB := HB'
        clear HB'
        have HS := HS'
        clear HS'
        have HQ := HQ'
        clear HQ'
        have HC := HC'
        clear HC'
        go_wp2_with fail
        refine (specHolds_any s c 3 lsQ 0 As (some ⟨G, 0, none⟩) Ac cs 3 cc _ p1 p2 (by omega) lsQ_fit HS.out HQ.out HC.out).mono ?_
        rintro e w5a ⟨rfl, hb⟩
        rw [HVA.out]
        have HB' := Lib.hid (bl_trans HB.out hb)
        have HS' := Lib.hid (HS.out.later hb)
        have HQ' := Lib.hid (HQ.out.later hb)
        have HC' := Lib.hid (HC.out.later hb)
        replace x0 := kc hb x0
        replace x1 := kc hb x1
        clear hb HB HS HQ HC
        have HB := HB'
        clear HB'
        have HS := HS'
        clear HS'
        have HQ := HQ'
        clear HQ'
        have HC := HC'
        clear HC'
        go_wp2_with fail
        refine (specHolds_any s c 3 lsQ 1 As (some ⟨G, 0, none⟩) Ac cs 3 cc _ p1 p2 (by omega) lsQ_fit HS.out HQ.out HC.out).mono ?_
        rintro e w5b ⟨rfl, hb⟩
        rw [HVB.out]
        have HB' := Lib.hid (bl_trans HB.out hb)
        have HS' := Lib.hid (HS.out.later hb)
        have HQ' := Lib.hid (HQ.out.later hb)
        have HC' := Lib.hid (HC.out.later hb)
        replace x0 := kc hb x0
        replace x1 := kc hb x1
        clear hb HB HS HQ HC
        have HB := HB'
        clear HB'
        have HS := HS'
        clear HS'
        have HQ := HQ'
        clear HQ'
        have HC := HC'
        clear HC'
        go_wp2_with fail
        refine (implCells_any s c 3 lsQ As (some ⟨G, 0, none⟩) Ac cs 3 cc _ p1 p2 (by omega) lsQ_fit HS.out HQ.out HC.out).mono ?_
        rintro e w5 ⟨rfl, hb⟩
        rw [HCV.out]
        have HB' := Lib.hid (bl_trans HB.out hb)
        have HS' := Lib.hid (HS.out.later hb)
        have HQ' := Lib.hid (HQ.out.later hb)
        have HC' := Lib.hid (HC.out.later hb)
        replace x0 := kc hb x0
        replace x1 := kc hb x1
        clear hb HB HS HQ HC
        have HB := HB'
        clear HB'
        have HS := HS'
        clear HS'
        have HQ := HQ'
        clear HQ'
        have HC := HC'
        clear HC'
        obtain ⟨bc, oc, eA, hbc, hcc⟩ := HC.out (show 0 < c.n by have := (cv_ok HCV.out).len; omega)
        have q0 := hcc 0 (by have := (cv_ok HCV.out).len; omega)
        have q1 := hcc 1 (by have := (cv_ok HCV.out).len; omega)
        subst eA
        clear hcc
        rw [Nat.add_zero] at q0
        have hl0 : (0 : Int) < (c.n : Int) := by have := (cv_ok HCV.out).len; omega
        have hl1 : (1 : Int) < (c.n : Int) := by have := (cv_ok HCV.out).len; omega
        go_wp2_with fail
        refine region_class (C := Cls w5) (by kernel_rfl) (by kernel_rfl) (Below.refl w5.heap.size w5).drew ?_
        refine BigFrame.wpQuiet_want (by rfl) (fun K hK => quiet_val (v := .bool false) (fun w' hw => ?_) (hK _ ?_))
        · clear x0 x1 q0 q1 hK K
          go_simp
        clear hK K
        simp only [Act.put, List.setIfInBounds_toArray, List.set_cons_succ, List.set_cons_zero]
        refine BigFrame.wpQuiet_want (by rfl) (fun K hK => quiet_val (v := .bool false) (fun w' hw => ?_) (hK _ ?_))
        · clear x0 x1 q0 q1 hK K
          go_simp
        clear hK K
        simp only [Act.put, List.setIfInBounds_toArray, List.set_cons_succ, List.set_cons_zero]
        refine BigFrame.wpQuiet_skip (by rfl) ?_
        simp only [Act.put, List.setIfInBounds_toArray, List.set_cons_succ, List.set_cons_zero]
        refine BigFrame.wpQuiet_want (by rfl) (fun K hK => quiet_val (v := .bool false) (fun w' hw => ?_) (hK _ ?_))
        · clear x0 x1 q0 q1 hK K
          go_simp
        clear hK K
        simp only [Act.put, List.setIfInBounds_toArray, List.set_cons_succ, List.set_cons_zero]
        refine BigFrame.wpQuiet_want (by rfl) (fun K hK => quiet_val (v := .bool true) (fun w' hw => ?_) (hK _ ?_))
        · clear x0 x1 q0 q1 hK K
          go_simp
        clear hK K
        simp only [Act.put, List.setIfInBounds_toArray, List.set_cons_succ, List.set_cons_zero]
        refine BigFrame.wpQuiet_want (by rfl) (fun K hK => quiet_val (v := .bool true) (fun w' hw => ?_) (hK _ ?_))
        · clear x0 x1 q0 q1 hK K
          go_simp
        clear hK K
        simp only [Act.put, List.setIfInBounds_toArray, List.set_cons_succ, List.set_cons_zero]
        refine BigFrame.wpQuiet_want (by rfl) (fun K hK => quiet_val (v := .bool false) (fun w' hw => ?_) (hK _ ?_))
        · clear x0 x1 q0 q1 hK K
          go_simp
        clear hK K
        simp only [Act.put, List.setIfInBounds_toArray, List.set_cons_succ, List.set_cons_zero]
        refine BigFrame.wpQuiet_want (by rfl) (fun K hK => quiet_val (v := .bool false) (fun w' hw => ?_) (hK _ ?_))
        · clear x0 x1 q0 q1 hK K
          go_simp
        clear hK K
        simp only [Act.put, List.setIfInBounds_toArray, List.set_cons_succ, List.set_cons_zero]
        refine BigFrame.wpQuiet_want (by rfl) (fun K hK => quiet_val (v := .bool false) (fun w' hw => ?_) (hK _ ?_))
        · clear x0 x1 q0 q1 hK K
          go_simp
        clear hK K
        simp only [Act.put, List.setIfInBounds_toArray, List.set_cons_succ, List.set_cons_zero]
        refine BigFrame.wpQuiet_want (by rfl) (fun K hK => quiet_val (v := .bool false) (fun w' hw => ?_) (hK _ ?_))
        · clear x0 x1 q0 q1 hK K
          go_simp
        clear hK K
        simp only [Act.put, List.setIfInBounds_toArray, List.set_cons_succ, List.set_cons_zero]
        refine BigFrame.wpQuiet_want (by rfl) (fun K hK => quiet_val (v := .slice (some ⟨bc, oc, none⟩) c.n cc) (fun w' hw => ?_) (hK _ ?_))
        · clear x0 x1 q0 q1 hK K
          go_simp
        clear hK K
        simp only [Act.put, List.setIfInBounds_toArray, List.set_cons_succ, List.set_cons_zero]
        refine BigFrame.wpQuiet_want (by rfl) (fun K hK => quiet_val (v := .pointer (some ⟨bc, oc, none⟩)) (fun w' hw => ?_) (hK _ ?_))
        · clear x0 x1 q0 q1 hK K
          go_simp
          intro h; omega
        clear hK K
        simp only [Act.put, List.setIfInBounds_toArray, List.set_cons_succ, List.set_cons_zero]
        refine BigFrame.wpQuiet_want (by rfl) (fun K hK => quiet_val (v := .int .i64 (c.x 0)) (fun w' hw => ?_) (hK _ ?_))
        · have e0 := kc hw q0; clear x0 x1 q0 q1 hK K
          go_simp
        clear hK K
        simp only [Act.put, List.setIfInBounds_toArray, List.set_cons_succ, List.set_cons_zero]
        refine BigFrame.wpQuiet_want (by rfl) (fun K hK => quiet_val (v := .slice (some ⟨bc, oc, none⟩) c.n cc) (fun w' hw => ?_) (hK _ ?_))
        · clear x0 x1 q0 q1 hK K
          go_simp
        clear hK K
        simp only [Act.put, List.setIfInBounds_toArray, List.set_cons_succ, List.set_cons_zero]
        refine BigFrame.wpQuiet_want (by rfl) (fun K hK => quiet_val (v := .pointer (some ⟨bc, oc + 1, none⟩)) (fun w' hw => ?_) (hK _ ?_))
        · clear x0 x1 q0 q1 hK K
          go_simp
        clear hK K
        simp only [Act.put, List.setIfInBounds_toArray, List.set_cons_succ, List.set_cons_zero]
        refine BigFrame.wpQuiet_want (by rfl) (fun K hK => quiet_val (v := .int .i64 (c.x 1)) (fun w' hw => ?_) (hK _ ?_))
        · have e0 := kc hw q1; clear x0 x1 q0 q1 hK K
          go_simp
        clear hK K
        simp only [Act.put, List.setIfInBounds_toArray, List.set_cons_succ, List.set_cons_zero]
        refine BigFrame.wpQuiet_want (by rfl) (fun K hK => quiet_val (v := .bool false) (fun w' hw => ?_) (hK _ ?_))
        · clear x0 x1 q0 q1 hK K
          go_simp
          exact HN.out
        clear hK K
        simp only [Act.put, List.setIfInBounds_toArray, List.set_cons_succ, List.set_cons_zero]
        refine BigFrame.wpQuiet_want (by rfl) (fun K hK => quiet_val (v := .bool true) (fun w' hw => ?_) (hK _ ?_))
        · clear x0 x1 q0 q1 hK K
          go_simp
        clear hK K
        simp only [Act.put, List.setIfInBounds_toArray, List.set_cons_succ, List.set_cons_zero]
        refine BigFrame.wpQuiet_want (by rfl) (fun K hK => quiet_val (v := .bool true) (fun w' hw => ?_) (hK _ ?_))
        · clear x0 x1 q0 q1 hK K
          go_simp
        clear hK K
        simp only [Act.put, List.setIfInBounds_toArray, List.set_cons_succ, List.set_cons_zero]
        refine BigFrame.wpQuiet_want (by rfl) (fun K hK => quiet_val (v := .bool true) (fun w' hw => ?_) (hK _ ?_))
        · clear x0 x1 q0 q1 hK K
          go_simp
        clear hK K
        simp only [Act.put, List.setIfInBounds_toArray, List.set_cons_succ, List.set_cons_zero]
        refine BigFrame.wpQuiet_want (by rfl) (fun K hK => quiet_val (v := .agg #[.slice As s.n cs, .slice (some ⟨G, 0, none⟩) 3 3]) (fun w' hw => ?_) (hK _ ?_))
        · have e0 := kc hw x0; have e1 := kc hw x1; clear x0 x1 q0 q1 hK K
          go_simp
        clear hK K
        simp only [Act.put, List.setIfInBounds_toArray, List.set_cons_succ, List.set_cons_zero]
        refine BigFrame.wpQuiet_want (by rfl) (fun K hK => quiet_val (v := .slice (some ⟨bc, oc, none⟩) c.n cc) (fun w' hw => ?_) (hK _ ?_))
        · clear x0 x1 q0 q1 hK K
          go_simp
        clear hK K
        simp only [Act.put, List.setIfInBounds_toArray, List.set_cons_succ, List.set_cons_zero]
        refine BigFrame.wpQuiet_want (by rfl) (fun K hK => quiet_enter (v := .bool false) (f := 17) (args := #[.agg #[.slice As s.n cs, .slice (some ⟨G, 0, none⟩) 3 3], .int .i64 2, .slice (some ⟨bc, oc, none⟩) c.n cc]) (fun w' hw => ?_) (fun w' hw => ?_) (hK _ ?_))
        · go_simp
        · refine (implHolds_any s c 3 lsQ 2 As (some ⟨G, 0, none⟩) (some ⟨bc, oc, none⟩) cs 3 cc _ p1 p2 (by omega) lsQ_fit (HS.out.later hw) (HQ.out.later hw) (HC.out.later hw)).mono ?_
          rintro e w8 ⟨rfl, hb⟩
          exact ⟨by rw [HVD.out], bl_trans hw hb⟩
        clear hK K
        simp only [Act.put, List.setIfInBounds_toArray, List.set_cons_succ, List.set_cons_zero]
        refine BigFrame.wpQuiet_want (by rfl) (fun K hK => quiet_val (v := .bool false) (fun w' hw => ?_) (hK _ ?_))
        · clear x0 x1 q0 q1 hK K
          go_simp
        clear hK K
        simp only [Act.put, List.setIfInBounds_toArray, List.set_cons_succ, List.set_cons_zero]
        refine BigFrame.wpQuiet_want (by rfl) (fun K hK => quiet_val (v := .bool true) (fun w' hw => ?_) (hK _ ?_))
        · clear x0 x1 q0 q1 hK K
          go_simp
        clear hK K
        simp only [Act.put, List.setIfInBounds_toArray, List.set_cons_succ, List.set_cons_zero]
        refine BigFrame.wpQuiet_want (by rfl) (fun K hK => quiet_val (v := .bool true) (fun w' hw => ?_) (hK _ ?_))
        · clear x0 x1 q0 q1 hK K
          go_simp
        clear hK K
        simp only [Act.put, List.setIfInBounds_toArray, List.set_cons_succ, List.set_cons_zero]
        refine BigFrame.wpQuiet_want (by rfl) (fun K hK => quiet_val (v := .bool true) (fun w' hw => ?_) (hK _ ?_))
        · clear x0 x1 q0 q1 hK K
          go_simp
        clear hK K
        simp only [Act.put, List.setIfInBounds_toArray, List.set_cons_succ, List.set_cons_zero]
        refine wpQuiet_nil ?_
        intro w6 hw9
        have HB6 := Lib.hid (bl_trans HB.out hw9)
        clear hw9
        go_wp2
        go_ret
        exact ⟨rfl, HB6.out⟩
      · have HN := Lib.hid (show ¬ c.x 0 = c.x 1 from by omega)
        have fa : rhB s 3 lsQ c 0 = false := by rw [va]; exact decide_eq_false (by omega)
        have fb : rhB s 3 lsQ c 1 = true := by rw [vb]; exact decide_eq_true (by omega)
        have fd : rhB s 3 lsQ c 2 = false := by rw [vd]; exact decide_eq_false (by omega)
        clear va vb vd
        have FA := Lib.hid fa
        have FB := Lib.hid fb
        have FD := Lib.hid fd
        clear fa fb fd hgt
        have HVA := Lib.hid (show rhB s 3 lsQ c 0 = false from FA.out)
        have HVB := Lib.hid (show rhB s 3 lsQ c 1 = true from FB.out)
        have HCV := Lib.hid (show cvB s 3 lsQ c = true from hcv)
        have HVD := Lib.hid (show rhB s 3 lsQ c 2 = false from FD.out)
        clear hcv
        refine (implHolds_any s c 3 lsQ 0 As (some ⟨G, 0, none⟩) Ac cs 3 cc _ p1 p2 (by omega) lsQ_fit HS.out HQ.out HC.out).mono ?_
        rintro e w3 ⟨rfl, hb⟩
        rw [HVA.out]
        have HB' := Lib.hid (bl_trans HB.out hb)
        have HS' := Lib.hid (HS.out.later hb)
        have HQ' := Lib.hid (HQ.out.later hb)
        have HC' := Lib.hid (HC.out.later hb)
        replace x0 := kc hb x0
        replace x1 := kc hb x1
        clear hb HB HS HQ HC
        have HB := HB'
        clear HB'
        have HS := HS'
        clear HS'
        have HQ := HQ'
        clear HQ'
        have HC := HC'
        clear HC'
        go_wp2_with fail
        refine (implHolds_any s c 3 lsQ 1 As (some ⟨G, 0, none⟩) Ac cs 3 cc _ p1 p2 (by omega) lsQ_fit HS.out HQ.out HC.out).mono ?_
        rintro e w4 ⟨rfl, hb⟩
        rw [HVB.out]
        have HB' := Lib.hid (bl_trans HB.out hb)
        have HS' := Lib.hid (HS.out.later hb)
        have HQ' := Lib.hid (HQ.out.later hb)
        have HC' := Lib.hid (HC.out.later hb)
        replace x0 := kc hb x0
        replace x1 := kc hb x1
        clear hb HB HS HQ HC
        have HB := HB'
        clear HB'
        have HS := HS'
        clear HS'
        have HQ := HQ'
        clear HQ'
        have HC := HC'
        clear HC'
        go_wp2_with fail
        refine (specHolds_any s c 3 lsQ 0 As (some ⟨G, 0, none⟩) Ac cs 3 cc _ p1 p2 (by omega) lsQ_fit HS.out HQ.out HC.out).mono ?_
        rintro e w5a ⟨rfl, hb⟩
        rw [HVA.out]
        have HB' := Lib.hid (bl_trans HB.out hb)
        have HS' := Lib.hid (HS.out.later hb)
        have HQ' := Lib.hid (HQ.out.later hb)
        have HC' := Lib.hid (HC.out.later hb)
        replace x0 := kc hb x0
        replace x1 := kc hb x1
        clear hb HB HS HQ HC
        have HB := HB'
        clear HB'
        have HS := HS'
        clear HS'
        have HQ := HQ'
        clear HQ'
        have HC := HC'
        clear HC'
        go_wp2_with fail
        refine (specHolds_any s c 3 lsQ 1 As (some ⟨G, 0, none⟩) Ac cs 3 cc _ p1 p2 (by omega) lsQ_fit HS.out HQ.out HC.out).mono ?_
        rintro e w5b ⟨rfl, hb⟩
        rw [HVB.out]
        have HB' := Lib.hid (bl_trans HB.out hb)
        have HS' := Lib.hid (HS.out.later hb)
        have HQ' := Lib.hid (HQ.out.later hb)
        have HC' := Lib.hid (HC.out.later hb)
        replace x0 := kc hb x0
        replace x1 := kc hb x1
        clear hb HB HS HQ HC
        have HB := HB'
        clear HB'
        have HS := HS'
        clear HS'
        have HQ := HQ'
        clear HQ'
        have HC := HC'
        clear HC'
        go_wp2_with fail
        refine (implCells_any s c 3 lsQ As (some ⟨G, 0, none⟩) Ac cs 3 cc _ p1 p2 (by omega) lsQ_fit HS.out HQ.out HC.out).mono ?_
        rintro e w5 ⟨rfl, hb⟩
        rw [HCV.out]
        have HB' := Lib.hid (bl_trans HB.out hb)
        have HS' := Lib.hid (HS.out.later hb)
        have HQ' := Lib.hid (HQ.out.later hb)
        have HC' := Lib.hid (HC.out.later hb)
        replace x0 := kc hb x0
        replace x1 := kc hb x1
        clear hb HB HS HQ HC
        have HB := HB'
        clear HB'
        have HS := HS'
        clear HS'
        have HQ := HQ'
        clear HQ'
        have HC := HC'
        clear HC'
        obtain ⟨bc, oc, eA, hbc, hcc⟩ := HC.out (show 0 < c.n by have := (cv_ok HCV.out).len; omega)
        have q0 := hcc 0 (by have := (cv_ok HCV.out).len; omega)
        have q1 := hcc 1 (by have := (cv_ok HCV.out).len; omega)
        subst eA
        clear hcc
        rw [Nat.add_zero] at q0
        have hl0 : (0 : Int) < (c.n : Int) := by have := (cv_ok HCV.out).len; omega
        have hl1 : (1 : Int) < (c.n : Int) := by have := (cv_ok HCV.out).len; omega
        go_wp2_with fail
        refine region_class (C := Cls w5) (by kernel_rfl) (by kernel_rfl) (Below.refl w5.heap.size w5).drew ?_
        refine BigFrame.wpQuiet_want (by rfl) (fun K hK => quiet_val (v := .bool false) (fun w' hw => ?_) (hK _ ?_))
        · clear x0 x1 q0 q1 hK K
          go_simp
        clear hK K
        simp only [Act.put, List.setIfInBounds_toArray, List.set_cons_succ, List.set_cons_zero]
        refine BigFrame.wpQuiet_want (by rfl) (fun K hK => quiet_val (v := .bool false) (fun w' hw => ?_) (hK _ ?_))
        · clear x0 x1 q0 q1 hK K
          go_simp
        clear hK K
        simp only [Act.put, List.setIfInBounds_toArray, List.set_cons_succ, List.set_cons_zero]
        refine BigFrame.wpQuiet_skip (by rfl) ?_
        simp only [Act.put, List.setIfInBounds_toArray, List.set_cons_succ, List.set_cons_zero]
        refine BigFrame.wpQuiet_want (by rfl) (fun K hK => quiet_val (v := .bool false) (fun w' hw => ?_) (hK _ ?_))
        · clear x0 x1 q0 q1 hK K
          go_simp
        clear hK K
        simp only [Act.put, List.setIfInBounds_toArray, List.set_cons_succ, List.set_cons_zero]
        refine BigFrame.wpQuiet_want (by rfl) (fun K hK => quiet_val (v := .bool true) (fun w' hw => ?_) (hK _ ?_))
        · clear x0 x1 q0 q1 hK K
          go_simp
        clear hK K
        simp only [Act.put, List.setIfInBounds_toArray, List.set_cons_succ, List.set_cons_zero]
        refine BigFrame.wpQuiet_want (by rfl) (fun K hK => quiet_val (v := .bool true) (fun w' hw => ?_) (hK _ ?_))
        · clear x0 x1 q0 q1 hK K
          go_simp
        clear hK K
        simp only [Act.put, List.setIfInBounds_toArray, List.set_cons_succ, List.set_cons_zero]
        refine BigFrame.wpQuiet_want (by rfl) (fun K hK => quiet_val (v := .bool false) (fun w' hw => ?_) (hK _ ?_))
        · clear x0 x1 q0 q1 hK K
          go_simp
        clear hK K
        simp only [Act.put, List.setIfInBounds_toArray, List.set_cons_succ, List.set_cons_zero]
        refine BigFrame.wpQuiet_want (by rfl) (fun K hK => quiet_val (v := .bool false) (fun w' hw => ?_) (hK _ ?_))
        · clear x0 x1 q0 q1 hK K
          go_simp
        clear hK K
        simp only [Act.put, List.setIfInBounds_toArray, List.set_cons_succ, List.set_cons_zero]
        refine BigFrame.wpQuiet_want (by rfl) (fun K hK => quiet_val (v := .bool true) (fun w' hw => ?_) (hK _ ?_))
        · clear x0 x1 q0 q1 hK K
          go_simp
        clear hK K
        simp only [Act.put, List.setIfInBounds_toArray, List.set_cons_succ, List.set_cons_zero]
        refine BigFrame.wpQuiet_want (by rfl) (fun K hK => quiet_val (v := .bool true) (fun w' hw => ?_) (hK _ ?_))
        · clear x0 x1 q0 q1 hK K
          go_simp
        clear hK K
        simp only [Act.put, List.setIfInBounds_toArray, List.set_cons_succ, List.set_cons_zero]
        refine BigFrame.wpQuiet_want (by rfl) (fun K hK => quiet_val (v := .slice (some ⟨bc, oc, none⟩) c.n cc) (fun w' hw => ?_) (hK _ ?_))
        · clear x0 x1 q0 q1 hK K
          go_simp
        clear hK K
        simp only [Act.put, List.setIfInBounds_toArray, List.set_cons_succ, List.set_cons_zero]
        refine BigFrame.wpQuiet_want (by rfl) (fun K hK => quiet_val (v := .pointer (some ⟨bc, oc, none⟩)) (fun w' hw => ?_) (hK _ ?_))
        · clear x0 x1 q0 q1 hK K
          go_simp
          intro h; omega
        clear hK K
        simp only [Act.put, List.setIfInBounds_toArray, List.set_cons_succ, List.set_cons_zero]
        refine BigFrame.wpQuiet_want (by rfl) (fun K hK => quiet_val (v := .int .i64 (c.x 0)) (fun w' hw => ?_) (hK _ ?_))
        · have e0 := kc hw q0; clear x0 x1 q0 q1 hK K
          go_simp
        clear hK K
        simp only [Act.put, List.setIfInBounds_toArray, List.set_cons_succ, List.set_cons_zero]
        refine BigFrame.wpQuiet_want (by rfl) (fun K hK => quiet_val (v := .slice (some ⟨bc, oc, none⟩) c.n cc) (fun w' hw => ?_) (hK _ ?_))
        · clear x0 x1 q0 q1 hK K
          go_simp
        clear hK K
        simp only [Act.put, List.setIfInBounds_toArray, List.set_cons_succ, List.set_cons_zero]
        refine BigFrame.wpQuiet_want (by rfl) (fun K hK => quiet_val (v := .pointer (some ⟨bc, oc + 1, none⟩)) (fun w' hw => ?_) (hK _ ?_))
        · clear x0 x1 q0 q1 hK K
          go_simp
        clear hK K
        simp only [Act.put, List.setIfInBounds_toArray, List.set_cons_succ, List.set_cons_zero]
        refine BigFrame.wpQuiet_want (by rfl) (fun K hK => quiet_val (v := .int .i64 (c.x 1)) (fun w' hw => ?_) (hK _ ?_))
        · have e0 := kc hw q1; clear x0 x1 q0 q1 hK K
          go_simp
        clear hK K
        simp only [Act.put, List.setIfInBounds_toArray, List.set_cons_succ, List.set_cons_zero]
        refine BigFrame.wpQuiet_want (by rfl) (fun K hK => quiet_val (v := .bool true) (fun w' hw => ?_) (hK _ ?_))
        · clear x0 x1 q0 q1 hK K
          go_simp
          exact HN.out
        clear hK K
        simp only [Act.put, List.setIfInBounds_toArray, List.set_cons_succ, List.set_cons_zero]
        refine BigFrame.wpQuiet_want (by rfl) (fun K hK => quiet_val (v := .bool true) (fun w' hw => ?_) (hK _ ?_))
        · clear x0 x1 q0 q1 hK K
          go_simp
        clear hK K
        simp only [Act.put, List.setIfInBounds_toArray, List.set_cons_succ, List.set_cons_zero]
        refine BigFrame.wpQuiet_want (by rfl) (fun K hK => quiet_val (v := .bool true) (fun w' hw => ?_) (hK _ ?_))
        · clear x0 x1 q0 q1 hK K
          go_simp
        clear hK K
        simp only [Act.put, List.setIfInBounds_toArray, List.set_cons_succ, List.set_cons_zero]
        refine BigFrame.wpQuiet_want (by rfl) (fun K hK => quiet_val (v := .bool true) (fun w' hw => ?_) (hK _ ?_))
        · clear x0 x1 q0 q1 hK K
          go_simp
        clear hK K
        simp only [Act.put, List.setIfInBounds_toArray, List.set_cons_succ, List.set_cons_zero]
        refine BigFrame.wpQuiet_want (by rfl) (fun K hK => quiet_val (v := .agg #[.slice As s.n cs, .slice (some ⟨G, 0, none⟩) 3 3]) (fun w' hw => ?_) (hK _ ?_))
        · have e0 := kc hw x0; have e1 := kc hw x1; clear x0 x1 q0 q1 hK K
          go_simp
        clear hK K
        simp only [Act.put, List.setIfInBounds_toArray, List.set_cons_succ, List.set_cons_zero]
        refine BigFrame.wpQuiet_want (by rfl) (fun K hK => quiet_val (v := .slice (some ⟨bc, oc, none⟩) c.n cc) (fun w' hw => ?_) (hK _ ?_))
        · clear x0 x1 q0 q1 hK K
          go_simp
        clear hK K
        simp only [Act.put, List.setIfInBounds_toArray, List.set_cons_succ, List.set_cons_zero]
        refine BigFrame.wpQuiet_want (by rfl) (fun K hK => quiet_enter (v := .bool false) (f := 17) (args := #[.agg #[.slice As s.n cs, .slice (some ⟨G, 0, none⟩) 3 3], .int .i64 2, .slice (some ⟨bc, oc, none⟩) c.n cc]) (fun w' hw => ?_) (fun w' hw => ?_) (hK _ ?_))
        · go_simp
        · refine (implHolds_any s c 3 lsQ 2 As (some ⟨G, 0, none⟩) (some ⟨bc, oc, none⟩) cs 3 cc _ p1 p2 (by omega) lsQ_fit (HS.out.later hw) (HQ.out.later hw) (HC.out.later hw)).mono ?_
          rintro e w8 ⟨rfl, hb⟩
          exact ⟨by rw [HVD.out], bl_trans hw hb⟩
        clear hK K
        simp only [Act.put, List.setIfInBounds_toArray, List.set_cons_succ, List.set_cons_zero]
        refine BigFrame.wpQuiet_want (by rfl) (fun K hK => quiet_val (v := .bool false) (fun w' hw => ?_) (hK _ ?_))
        · clear x0 x1 q0 q1 hK K
          go_simp
        clear hK K
        simp only [Act.put, List.setIfInBounds_toArray, List.set_cons_succ, List.set_cons_zero]
        refine BigFrame.wpQuiet_want (by rfl) (fun K hK => quiet_val (v := .bool true) (fun w' hw => ?_) (hK _ ?_))
        · clear x0 x1 q0 q1 hK K
          go_simp
        clear hK K
        simp only [Act.put, List.setIfInBounds_toArray, List.set_cons_succ, List.set_cons_zero]
        refine BigFrame.wpQuiet_want (by rfl) (fun K hK => quiet_val (v := .bool true) (fun w' hw => ?_) (hK _ ?_))
        · clear x0 x1 q0 q1 hK K
          go_simp
        clear hK K
        simp only [Act.put, List.setIfInBounds_toArray, List.set_cons_succ, List.set_cons_zero]
        refine BigFrame.wpQuiet_want (by rfl) (fun K hK => quiet_val (v := .bool true) (fun w' hw => ?_) (hK _ ?_))
        · clear x0 x1 q0 q1 hK K
          go_simp
        clear hK K
        simp only [Act.put, List.setIfInBounds_toArray, List.set_cons_succ, List.set_cons_zero]
        refine wpQuiet_nil ?_
        intro w6 hw9
        have HB6 := Lib.hid (bl_trans HB.out hw9)
        clear hw9
        go_wp2
        go_ret
        exact ⟨rfl, HB6.out⟩

set_option linter.unusedSimpArgs false in
set_option linter.unusedVariables false in
set_option maxRecDepth 100000 in
set_option maxHeartbeats 6400000 in
theorem lawFnRuleLess_walk (A0 : Option Addr) (n0 cap0 : Nat) (y0 : Nat → Int) (w : World) (hm0 : n0 ≤ maxLen) (hc0 : n0 ≤ cap0) (hr0 : RdY w w.heap.size A0 n0 y0) :
    Calls Try.prog 5 #[.slice A0 n0 cap0] w fun e w' => e = .returned (.bool true) ∧ Below w.heap.size w w' := by
  by_cases h0 : n0 ≤ 1048576
  · exact lawFnRuleLess_ok A0 n0 cap0 y0 w h0 hc0 hr0
  · unfold maxLen at hm0
    have hi0 : (1048576 : Int) < (n0 : Int) := by omega
    go_enter Try.func5, Try.ntmps5
    go_wp2
    go_ret
    exact ⟨rfl, Below.refl _ _⟩
end Go.Proofs.Ythjcbaccoogloaa
