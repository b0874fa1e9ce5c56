/- The draw of FixLiteral's arguments (no claim of its own). Conditions: as each theorem states. -/
import Derived.Test.YtbebdhjhlheboaaCdrZ
namespace Go.Proofs.Ytbebdhjhlheboaa
open Go.ChangeShapes Go.WideShapes Go.ChangeAt Go.RowKit

set_option maxRecDepth 100000 in
set_option maxHeartbeats 3200000 in
theorem drawFxl_any (A : Option Addr) (n cap : Nat) (y : Nat → Int) (w : World) (hm : n ≤ maxLen) (hcap : n ≤ cap) (hr : RdY w w.heap.size A n y) :
    Calls Try.prog 28 #[.slice A n cap] w fun e w' => ∃ Al k capl p z, e = .returned (.tuple #[.slice Al k capl, .int .i64 z]) ∧ k ≤ 16 ∧ (∀ i, i < k → (p i).n ≤ 15) ∧ -13 ≤ z ∧ z ≤ 13 ∧ RdP w' w'.heap.size Al k p ∧ Below w.heap.size w w' := by
  go_enter Try.func28, Try.ntmps28
  go_wp2_with fail
  refine (open_any _ _ _ y _ hm hcap hr).mono ?_
  rintro e w1 ⟨rfl, hb, hrd, hz1⟩
  have HB1 := Lib.hid hb
  have RD1 := Lib.hid hrd
  have RD1lt := hrd.lt
  clear hb hrd hr
  go_wp2_with fail
  refine (hard_any w.heap.size 0 _ (by omega) RD1.out).mono ?_
  rintro e w2 ⟨A2, k2, cap2, xs2, rfl, hk2, _, _, hp, hg, hr⟩
  have HP2 := Lib.hid hp
  have G2 := Lib.hid hg
  have RD2 := Lib.hid hr
  have hz2 : w1.heap.size ≤ w2.heap.size := hg.size
  clear hp hg hr RD1
  go_wp2_with fail
  refine (mutateQ_any w.heap.size (0 + 4000) 12 _ _ _ _ xs2 _ (by omega) (by omega) hk2 RD2.out HP2.out).mono ?_
  rintro e w3 ⟨A3, k3, cap3, xs3, rfl, hk3, _, _, hp, hg, hr⟩
  have HP3 := Lib.hid hp
  have G3 := Lib.hid (G2.out.trans hg)
  have RD3 := Lib.hid hr
  have hz3 : w2.heap.size ≤ w3.heap.size := hg.size
  clear hp hg hr RD2 HP2 G2
  have h1z : w.heap.size < w1.heap.size := RD1lt
  go_wp2_with fail
  have HAl := Lib.hid (bl_alloc (Below.refl w3.heap.size w3) (.cells #[.int .i64 1, .int .i64 (-1), .int .i64 2, .int .i64 (-2), .int .i64 3, .int .i64 (-4), .int .i64 12, .int .i64 0, .int .i64 13] 3))
  refine (num_any w.heap.size (0 + 4000 + 40) w3.heap.size 9 _ _ _ (by omega) (RD3.out.bel HAl.out) (by omega) (heap_alloc_new w3 _) (by rfl) (by omega) (by omega) (lit_all [1, -1, 2, -2, 3, -4, 12, 0, 13])).mono ?_
  rintro e w4 ⟨z, rfl, hz, hg, hr⟩
  obtain ⟨hza, hzb⟩ : -13 ≤ z ∧ z ≤ 13 := by
    simp at hz
    omega
  have G4 := Lib.hid ((G3.out.bel HAl.out).trans hg)
  obtain ⟨p, hpn, hpr⟩ := ((HP3.out.bel HAl.out).gr hg (by omega) (by omega)).rdp
  have HPN := Lib.hid hpn
  have HPR := Lib.hid hpr
  clear hz hg hr hpn hpr RD3 HP3 G3
  go_wp2
  go_ret2
  exact ⟨A3, k3, cap3, p, z, rfl, hk3, HPN.out, hza, hzb, HPR.out, gr_bel' HB1.out G4.out (Nat.le_refl _)⟩
end Go.Proofs.Ytbebdhjhlheboaa
