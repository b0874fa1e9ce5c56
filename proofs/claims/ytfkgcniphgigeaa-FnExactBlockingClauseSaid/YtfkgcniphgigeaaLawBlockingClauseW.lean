/- The walk of the exact law of BlockingClause (no claim of its own). Conditions: as each theorem states. -/
import Derived.Test.YtfkgcniphgigeaaBlkL
import Derived.Deep.RegionHeld3
namespace Go.Proofs.Ytfkgcniphgigeaa
open Go.ChangeShapes Go.WideShapes Go.ChangeAt Go.RowKit

set_option maxRecDepth 100000 in
set_option maxHeartbeats 6400000 in
theorem lawBlockingClause_ok (A : Option Addr) (n cap : Nat) (v : Nat → Bool) (N : Nat) (C L : Nat → Int) (BD : Int) (OK : Bool) (w : World) (hn : n ≤ 1048576) (hN : N ≤ 1048576) (hr : RdB w w.heap.size A n v)
    (hS : ∀ A cap W, RdB W W.heap.size A n v → Calls Try.prog 5 #[.slice A n cap] W (CRes W N C L BD OK))
    (hI : ∀ A cap W, RdB W W.heap.size A n v → Calls Try.prog 7 #[.slice A n cap] W (CRes W N C L BD OK)) :
    Calls Try.prog 3 #[.slice A n cap] w fun e w' => e = .returned (.bool true) ∧ Below w.heap.size w w' := by
  have hni : (n : Int) ≤ 1048576 := by omega
  have HS := Lib.hid hS
  have HI := Lib.hid hI
  clear hS hI
  go_enter Try.func3, Try.ntmps3
  go_wp2_with fail
  refine (toBoolS_any _ _ _ v _ hn hr).mono ?_
  rintro e w2 ⟨G2, rfl, hG2, hown2, hb⟩
  have HB2 := Lib.hid hb
  clear hb hG2
  go_wp2_with fail
  refine (HS.out _ _ _ hown2.rdAt).mono ?_
  rintro e w3 ⟨Aw, capw, rfl, hfw, hb⟩
  have HB3 := Lib.hid (bl_trans HB2.out hb)
  have FW := Lib.hid hfw.two
  have z3w := HB3.out.size
  clear hb HB2 hown2 hfw HS
  go_wp2_with fail
  have x0 : (w3.alloc (.cells #[.slice Aw N capw, .int .i64 BD] 25)).cell? ⟨w3.heap.size, 0, none⟩ = some (.slice Aw N capw) := by go_simp
  have x1 : (w3.alloc (.cells #[.slice Aw N capw, .int .i64 BD] 25)).cell? ⟨w3.heap.size, 1, none⟩ = some (.int .i64 BD) := by go_simp
  refine (toBoolS_any _ _ _ v _ hn (hr.later (bl_alloc HB3.out _))).mono ?_
  rintro e w4 ⟨G4, rfl, hG4, hown4, hb1⟩
  have hb := bl_trans (bl_alloc (Below.refl w3.heap.size w3) _) hb1
  have HB4 := Lib.hid (bl_trans HB3.out hb)
  have FX := Lib.hid (FrB.two (lo := w3.heap.size + 1) (.inr ⟨G4, rfl, by simpa using hG4, hown4.toV⟩))
  have fw := FW.out.below hb
  replace x0 := kc hb1 x0
  replace x1 := kc hb1 x1
  have z4 : w3.heap.size < w4.heap.size := World.block_lt_of_cell? w4 _ x0
  clear hb hb1 HB3 FW hG4
  have FW := Lib.hid fw
  clear fw
  go_wp2_with fail
  refine (HI.out _ _ _ FX.out.rdAt).mono ?_
  rintro e w5 ⟨Ag, capg, rfl, hfg, hb⟩
  have HB5 := Lib.hid (bl_trans HB4.out hb)
  have fg : Fr2 w5 w4.heap.size w5.heap.size Ag N C L := Frs.two hfg
  have fw := FW.out.below hb
  have fx := FX.out.below hb
  have z45 := hb.size
  have z5 : w3.heap.size < w5.heap.size := by omega
  replace x0 := kc hb x0
  replace x1 := kc hb x1
  clear hb HB4 FW FX hfg hown4
  have FW := Lib.hid fw
  have FX := Lib.hid fx
  have FG := Lib.hid fg
  clear fw fx fg
  go_wp2_with fail
  have t0 : (w5.alloc (.cells #[.slice Ag N capg, .int .i64 BD] 25)).cell? ⟨w5.heap.size, 0, none⟩ = some (.slice Ag N capg) := by go_simp
  have t1 : (w5.alloc (.cells #[.slice Ag N capg, .int .i64 BD] 25)).cell? ⟨w5.heap.size, 1, none⟩ = some (.int .i64 BD) := by go_simp
  refine (eqConstraint_same _ _ _ _ _ _ _ C L C L _ hN (FG.out.rdAt.later (bl_alloc (Below.refl _ _) _)) (FW.out.rdAt.later (bl_alloc (Below.refl _ _) _))).mono ?_
  rintro e w6 ⟨rfl, hb1⟩
  have hb := bl_trans (bl_alloc (Below.refl w5.heap.size w5) _) hb1
  have HB6 := Lib.hid (bl_trans HB5.out hb)
  have fw := FW.out.below hb
  have fx := FX.out.below hb
  have fg := FG.out.below hb
  replace x0 := kc hb x0
  replace x1 := kc hb x1
  replace t0 := kc hb1 t0
  replace t1 := kc hb1 t1
  clear hb hb1 HB5 FW FX FG
  have FW := Lib.hid fw
  have FX := Lib.hid fx
  have FG := Lib.hid fg
  clear fw fx fg
  rw [ceq_refl]
  go_wp2_with fail
  refine (toBoolS_any _ _ _ v _ hn (hr.later HB6.out)).mono ?_
  rintro e w7 ⟨G7, rfl, hG7, hown7, hb⟩
  have HB7 := Lib.hid (bl_trans HB6.out hb)
  have FW7 := Lib.hid (FW.out.below hb)
  have FX7 := Lib.hid (FX.out.below hb)
  have FG7 := Lib.hid (FG.out.below hb)
  replace x0 := kc hb x0
  replace x1 := kc hb x1
  replace t0 := kc hb t0
  replace t1 := kc hb t1
  clear hb
  go_wp2_with fail
  refine (eqBoolS_refl _ _ _ _ _ v _ hn FX7.out.rdAt hown7.rdAt).mono ?_
  rintro e w8 ⟨rfl, hb⟩
  have HB8 := Lib.hid (bl_trans HB7.out hb)
  have FW8 := Lib.hid (FW7.out.below hb)
  have FX8 := Lib.hid (FX7.out.below hb)
  have FG8 := Lib.hid (FG7.out.below hb)
  replace x0 := kc hb x0
  replace x1 := kc hb x1
  replace t0 := kc hb t0
  replace t1 := kc hb t1
  clear hb
  clear FW FX FG HB6 HB7 FW7 FX7 FG7 hG7 hown7
  go_wp2_with fail
  refine (markBoolS_any _ _ _ _ v 1 _ hn (by omega) (by omega) FX8.out.one).mono ?_
  rintro e w9 ⟨rfl, hfx, ho⟩
  have HB9 := Lib.hid (ho.belB FX8.out HB8.out (by omega))
  have FW9 := Lib.hid (FW8.out.only ho (FX8.out.apart (.inr (by omega))))
  have FG9 := Lib.hid (FG8.out.only ho (FX8.out.apart (.inl (by omega))))
  replace x0 := FX8.out.cell ho (.inl (by show w3.heap.size < _; omega)) x0
  replace x1 := FX8.out.cell ho (.inl (by show w3.heap.size < _; omega)) x1
  replace t0 := FX8.out.cell ho (.inr (by show _ ≤ w5.heap.size; omega)) t0
  replace t1 := FX8.out.cell ho (.inr (by show _ ≤ w5.heap.size; omega)) t1
  clear ho hfx HB8 FW8 FX8 FG8
  have hk1 : ¬ ((1 : Int) + (n : Int) < 0) := by omega
  go_wp2_with fail
  refine (eqConstraint_same _ _ _ _ _ _ _ C L C L _ hN FG9.out.rdAt FW9.out.rdAt).mono ?_
  rintro e w10 ⟨rfl, hb⟩
  have HB10 := Lib.hid (bl_trans HB9.out hb)
  have FW10 := Lib.hid (FW9.out.below hb)
  have FG10 := Lib.hid (FG9.out.below hb)
  replace x0 := kc hb x0
  replace x1 := kc hb x1
  replace t0 := kc hb t0
  replace t1 := kc hb t1
  clear hb HB9 FW9 FG9
  rw [ceq_refl]
  go_wp2_with fail
  refine (markConstraint_any _ _ _ _ _ C L 1 _ hN (by omega) (by omega) FG10.out.one).mono ?_
  rintro e w11 ⟨rfl, hfg, ho⟩
  have HB11 := Lib.hid (ho.bel FG10.out HB10.out (by omega))
  have FW11 := Lib.hid (FW10.out.only ho (FG10.out.apart (.inr (by omega))))
  have FM := Lib.hid hfg
  replace x0 := FG10.out.cell ho (.inl (by show w3.heap.size < _; omega)) x0
  replace x1 := FG10.out.cell ho (.inl (by show w3.heap.size < _; omega)) x1
  replace t0 := FG10.out.cell ho (.inr (by show _ ≤ w5.heap.size; omega)) t0
  replace t1 := FG10.out.cell ho (.inr (by show _ ≤ w5.heap.size; omega)) t1
  clear ho hfg HB10 FW10 FG10 hk1
  go_wp2_with fail
  refine (heldConstraint_any _ _ _ _ _ 1 _ hN (by omega) (by omega) FM.out).mono ?_
  rintro e w12 ⟨rfl, hb⟩
  have HB12 := Lib.hid (bl_trans HB11.out hb)
  have FW12 := Lib.hid (FW11.out.below hb)
  have FM12 := Lib.hid (FM.out.below hb)
  replace x0 := kc hb x0
  replace x1 := kc hb x1
  replace t0 := kc hb t0
  replace t1 := kc hb t1
  clear hb HB11 FW11 FM
  have hk1 : ¬ ((1 : Int) + 2 * (N : Int) < 0) := by omega
  go_wp2_with fail
  refine (toBoolS_any _ _ _ v _ hn (hr.later HB12.out)).mono ?_
  rintro e w13 ⟨G13, rfl, hG13, hown13, hb⟩
  have HB13 := Lib.hid (bl_trans HB12.out hb)
  have FW13 := Lib.hid (FW12.out.below hb)
  have FM13 := Lib.hid (FM12.out.below hb)
  replace x0 := kc hb x0
  replace x1 := kc hb x1
  replace t0 := kc hb t0
  replace t1 := kc hb t1
  clear hb HB12 FW12 FM12 hG13
  go_wp2_with fail
  refine (HI.out _ _ _ hown13.rdAt).mono ?_
  rintro e w14 ⟨Ah, caph, rfl, hfh, hb⟩
  have HB14 := Lib.hid (bl_trans HB13.out hb)
  have FW14 := Lib.hid (FW13.out.below hb)
  have FM14 := Lib.hid (FM13.out.below hb)
  have FH := Lib.hid hfh
  replace x0 := kc hb x0
  replace x1 := kc hb x1
  replace t0 := kc hb t0
  replace t1 := kc hb t1
  have q14 : w3.heap.size < w14.heap.size := World.block_lt_of_cell? w14 _ x0
  have q14' : w5.heap.size < w14.heap.size := World.block_lt_of_cell? w14 _ t0
  clear hb HB13 FW13 FM13 hown13 hfh HI
  go_wp2_with fail
  refine (eqConstraint_same _ _ _ _ _ _ _ C L C L _ hN (FH.out.rdAt.later (bl_alloc (Below.refl _ _) _)) (FW14.out.rdAt.later (bl_alloc (Below.refl _ _) _))).mono ?_
  rintro e w15 ⟨rfl, hb1⟩
  have hb := bl_trans (bl_alloc (Below.refl w14.heap.size w14) _) hb1
  have HB15 := Lib.hid (bl_trans HB14.out hb)
  have FM15 := Lib.hid (FM14.out.below hb)
  replace t0 := kc hb t0
  replace t1 := kc hb t1
  clear hb hb1 HB14 FW14 FM14 FH x0 x1
  rw [ceq_refl]
  go_wp2_with fail
  refine (heldConstraint_any _ _ _ _ _ 1 _ hN (by omega) (by omega) FM15.out).mono ?_
  rintro e w16 ⟨rfl, hb⟩
  have HB16 := Lib.hid (bl_trans HB15.out hb)
  clear hb HB15 FM15
  go_wp2
  go_ret
  exact ⟨rfl, HB16.out⟩

theorem lawBlockingClause_walk (A : Option Addr) (n cap : Nat) (v : Nat → Bool) (w : World) (hm : n ≤ maxLen) (hr : RdB w w.heap.size A n v) :
    Calls Try.prog 3 #[.slice A n cap] w fun e w' => e = .returned (.bool true) ∧ Below w.heap.size w w' := by
  by_cases h : n ≤ 1048576
  · exact lawBlockingClause_ok A n cap v (bcN n v) one1 (rL (clF 12 (blkL v))) (bcD n v) (bcB n v) w h (bcN_le n v) hr
      (fun A cap W hr => specBlock_any A n cap v W h hr) (fun A cap W hr => implBlock_any A n cap v W h hr)
  · unfold maxLen at hm
    go_enter Try.func3, Try.ntmps3
    go_wp2
    go_ret
    exact ⟨rfl, Below.refl _ _⟩
end Go.Proofs.Ytfkgcniphgigeaa
