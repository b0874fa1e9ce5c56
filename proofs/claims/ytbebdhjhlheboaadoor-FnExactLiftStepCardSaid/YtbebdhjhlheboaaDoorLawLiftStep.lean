/- The exact law of LiftStep: for every input the law's function returns true, and each argument reads behind the call as it read before. Conditions: none but the row's own. -/
import Derived.Test.YtbebdhjhlheboaaDoorLawLiftStepW
import Derived.Test.YtbebdhjhlheboaaDoorLawLiftStepC
import Derived.Test.YtbebdhjhlheboaaDoorDoorA
import Derived.Test.YtbebdhjhlheboaaDoorFrameC
import Derived.Test.YtbebdhjhlheboaaDoorFrameU
namespace Go.Proofs.YtbebdhjhlheboaaDoor
open Go.ChangeShapes Go.WideShapes Go.ChangeAt Go.RowKit

set_option linter.unusedVariables false in
set_option maxRecDepth 100000 in
theorem lawLiftStep_lifted (os : Os) (started : os.Started) (H : Type) (enc : TypeId × Value → H) :
    ReturnsInHanded {} Tryd.checked os 3 .any (fun w args => (Rows.fnExactLiftStepSpec.pre enc Tryd.prog Tryd.f3 [] false w args ∧ laidMetH Tryd.prog [("loop.example/cuttingplanes/impl.layouts", Rows.laid_loop_example_cuttingplanes_impl_layouts)] w) ∧ sizedMet enc Tryd.prog Tryd.f3 (OpenSpec.ofChange Rows.fnExactLiftStepSpec) false w args) (Rows.fnExactLiftStepSpec.post enc Tryd.prog Tryd.f3 false true false false) := by
  refine returnsInHanded_of_change_and (C := Tryd.checked) (X := fun w _ => laidMetH Tryd.prog [("loop.example/cuttingplanes/impl.layouts", Rows.laid_loop_example_cuttingplanes_impl_layouts)] w) (fun _ _ _ hh h => h.of_heap hh) frame_own started (by kernel_rfl) Tryd.func3
    (ChangeSpec.witness_shaped (enc := enc) (C := Tryd.checked) (os := os) (X := fun w _ => laidMetH Tryd.prog [("loop.example/cuttingplanes/impl.layouts", Rows.laid_loop_example_cuttingplanes_impl_layouts)] w) false (World.doorLaid Tryd.prog 22 os) #[.agg #[.int .i64 0, .int .i64 0, .int .i64 0, .slice none 0 0, .int .i64 0], .slice none 0 0] 8 rfl (World.shaped_of_RefB (by kernel_rfl) (by kernel_rfl)) (by kernel_rfl) (by kernel_rfl) (by kernel_rfl) (ly_door os _)) ?_
  intro W base args ds gs before hval0 hW _ _ hL _
  have hT := ly_of_laid hL
  have hval : ∀ (j : Nat) t v, Tryd.f3.params[j]? = some t → args[j]? = some v → Value.okWide Tryd.prog W .any base t v := hval0
  have hW' := hW
  obtain ⟨p, q, hA0, hV, rfl, hfz, hnd⟩ := hW
  have hA : DataW.TrodAll enc Tryd.prog W 0 (fun _ => true) true Tryd.f3.params.toList args.toList ds p := hA0
  rw [Tryd.params3] at hA hval
  obtain ⟨v0, vs0, d0, ds0, p0, q0, hargs, rfl, rfl, h0, r0⟩ := trodAll_cons hA
  obtain ⟨v1, vs1, d1, ds1, p1, q1, rfl, rfl, rfl, h1, r1⟩ := trodAll_cons r0
  obtain ⟨rfl, rfl, rfl⟩ := trodAll_nil r1
  obtain rfl : args = #[v0, v1] := by cases args; simp_all
  have hVs : DataW.TrodVars enc Tryd.prog W (fun _ => true) ["loop.example/cuttingplanes/impl.layouts"] gs q := hV
  obtain ⟨gg, gt, gcs, gfuel, gd, gp, rfl, _⟩ := trodVars_one hVs
  have k0 := h0
  have lt0 : ∀ x ∈ p0, x.block < W.heap.size := by obtain ⟨m, hm⟩ := k0; exact DataW.trod_lt m _ _ _ hm
  obtain ⟨A0, n0, cap0, zk0, za0, zb0, bd0, c0, l0, rfl, hn0, hr0⟩ := open_step (hval 0 26 v0 rfl rfl) h0 (fun _ => rfl)
  have k1 := h1
  have lt1 : ∀ x ∈ p1, x.block < W.heap.size := by obtain ⟨m, hm⟩ := k1; exact DataW.trod_lt m _ _ _ hm
  obtain ⟨sa1, sl1, sc1, rfl⟩ := okWide_slice Tryd.underlying27 (hval 1 27 v1 rfl rfl)
  obtain ⟨A1, n1, cap1, c1, e1, hn1, hr1⟩ := open_intS h1.choose_spec (fun _ => rfl)
  obtain ⟨rfl, rfl, rfl⟩ : A1 = sa1 ∧ n1 = sl1 ∧ cap1 = sc1 := by injection e1 with x y z; exact ⟨x.symm, y.symm, z.symm⟩
  clear hA0 hval0
  refine (lawLiftStep_walk A0 n0 cap0 zk0 za0 zb0 bd0 c0 l0 A1 n1 cap1 c1 W hn0 hr0 hn1 hr1 hT).mono fun e W' ⟨he, bel⟩ => ?_
  subst he
  exact ⟨_, rfl, _, _, _, [], _, _, hW', trodAll_mk1 (shut_bool Tryd.underlying4 _), (trodAll_cons_mk (Below.trod frame_laidOut (by kernel_rfl) (of_decide_eq_true (by kernel_rfl)) k0 bel lt0) (trodAll_cons_mk (Below.trod frame_laidOut (by kernel_rfl) (of_decide_eq_true (by kernel_rfl)) k1 bel lt1) trodAll_mk0)), Below.trodVars frame_laidOut bel (by kernel_rfl) hVs, bel.frame _, fun h => by cases h⟩

theorem lawLiftStep_over : Rows.fnExactLiftStepRow.holds Tryd.pinned (OpenSpec.ofChange Rows.fnExactLiftStepSpec) :=
  OpenClaim.holds_of_wide 3 Tryd.f3 rfl rfl rfl rfl rfl rfl rfl ⟨rfl, rfl, rfl, rfl, rfl⟩ rfl rfl rfl rfl rfl (by kernel_rfl) Tryd.func3 lawLiftStep_closed
    (of_decide_eq_true (by kernel_rfl)) (by unfold Func.isWrapper; first | (rw [if_pos (by decide +kernel)]; kernel_rfl) | (rw [if_neg (by decide +kernel)]; exact ⟨rfl, rfl⟩))
    (fun os started H enc _ => lawLiftStep_lifted os started H enc)

/-- No parameter wants a stand-in; the program's own looks are off. -/
theorem lawLiftStep_plain (f : FuncId) (fn : Func) (hf : Tryd.pinned.checked.prog.funcNamed "loop.example/cuttingplanes/laws.FnExactLiftStep" = some f) (hfn : Tryd.pinned.checked.prog.funcs[f]? = some fn) :
    false = Tryd.pinned.checked.prog.looks [] ∧ ∀ (j : Nat) t, fn.params[j]? = some t → Tryd.pinned.checked.prog.wantsStandIn t = false := by
  obtain rfl : f = 3 := Option.some.inj ((show Tryd.prog.funcNamed "loop.example/cuttingplanes/laws.FnExactLiftStep" = some 3 by kernel_rfl).symm.trans hf) |>.symm
  obtain rfl : fn = Tryd.f3 := (Option.some.inj (Tryd.func3.symm.trans hfn)).symm
  refine ⟨by kernel_rfl, fun j t ht => ?_⟩
  have hall : (Tryd.f3.params.all fun t => !Tryd.prog.wantsStandIn t) = true := by kernel_rfl
  have := Array.all_eq_true_iff_forall_mem.1 hall t (Array.mem_of_getElem? ht)
  show Tryd.prog.wantsStandIn t = false
  simpa using this

/-- The statement. -/
theorem lawLiftStep_holds : Rows.FnExactLiftStepCardSaid :=
  Claim7.holds_tied_plain_at .later [] _ _ _ _ lawLiftStep_over (fun _ h => by cases h) (by kernel_rfl) (fun _ h => by cases h) fnExactLiftStep_row_tie rfl ⟨rfl, rfl⟩ (by kernel_rfl) rfl lawLiftStep_plain (by kernel_rfl)
#print axioms lawLiftStep_holds
end Go.Proofs.YtbebdhjhlheboaaDoor
