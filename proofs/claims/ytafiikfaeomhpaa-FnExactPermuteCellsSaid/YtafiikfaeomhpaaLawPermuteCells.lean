/- The exact law of PermuteCells: for every input the law's function returns true, and each argument reads behind the call as it read before. Conditions: none but the row's own. -/
import Derived.Test.YtafiikfaeomhpaaLawPermuteCellsW
import Derived.Test.YtafiikfaeomhpaaLawPermuteCellsC
import Derived.Test.YtafiikfaeomhpaaFrameC
import Derived.Test.YtafiikfaeomhpaaFrameM
namespace Go.Proofs.Ytafiikfaeomhpaa
open Go.ChangeShapes Go.WideShapes Go.ChangeAt Go.RowKit

set_option linter.unusedVariables false in
set_option maxRecDepth 100000 in
theorem lawPermuteCells_lifted (os : Os) (started : os.Started) (H : Type) (enc : TypeId × Value → H) :
    ReturnsInHanded {} Try.checked os 4 .any (Rows.fnExactPermuteCellsSpec.pre6 enc Try.prog Try.f4 Rows.fnExactPermuteCellsRow.domain false) (Rows.fnExactPermuteCellsSpec.post enc Try.prog Try.f4 false true false false) := by
  refine returnsInHanded_of_change (C := Try.checked) frame_own started (by kernel_rfl) Try.func4
    (ChangeSpec.witness6 (enc := enc) (C := Try.checked) false ⟨#[], #[.agg #[.slice none 0 0, .slice none 0 0], .slice none 0 0, .slice none 0 0], []⟩ 8 (by kernel_rfl) (by kernel_rfl) (by kernel_rfl) (by kernel_rfl)) ?_
  intro W base args ds gs before hval0 hW hcnd _
  have hval : ∀ (j : Nat) t v, Try.f4.params[j]? = some t → args[j]? = some v → Value.okWide Try.prog W .any base t v := hval0
  have hW' := hW
  obtain ⟨p, q, hA0, hV, rfl, hfz, hnd⟩ := hW
  have hA : DataW.TrodAll enc Try.prog W 0 (fun _ => true) true Try.f4.params.toList args.toList ds p := hA0
  rw [Try.params4] at hA hval
  obtain ⟨v0, vs0, d0, ds0, p0, q0, hargs, rfl, rfl, h0, r0⟩ := trodAll_cons hA
  obtain ⟨v1, vs1, d1, ds1, p1, q1, rfl, rfl, rfl, h1, r1⟩ := trodAll_cons r0
  obtain ⟨v2, vs2, d2, ds2, p2, q2, rfl, rfl, rfl, h2, r2⟩ := trodAll_cons r1
  obtain ⟨rfl, rfl, rfl⟩ := trodAll_nil r2
  obtain rfl : args = #[v0, v1, v2] := by cases args; simp_all
  obtain ⟨rfl, rfl⟩ := trodVars_none hV
  have k0 := h0
  have lt0 : ∀ x ∈ p0, x.block < W.heap.size := by obtain ⟨m, hm⟩ := k0; exact DataW.trod_lt m _ _ _ hm
  obtain ⟨As0, Ar0, sn0, cs0, n0, cr0, s0, q0, rfl, hn0, hm0, hf0, hs0, hr0⟩ := open_model (hval 0 25 v0 rfl rfl) h0 (fun _ => rfl)
  have k1 := h1
  have lt1 : ∀ x ∈ p1, x.block < W.heap.size := by obtain ⟨m, hm⟩ := k1; exact DataW.trod_lt m _ _ _ hm
  obtain ⟨sa1, sl1, sc1, rfl⟩ := okWide_slice Try.underlying22 (hval 1 22 v1 rfl rfl)
  obtain ⟨A1, n1, cap1, c1, e1, hn1, hr1⟩ := open_intS h1.choose_spec (fun _ => rfl)
  obtain ⟨rfl, rfl, rfl⟩ : A1 = sa1 ∧ n1 = sl1 ∧ cap1 = sc1 := by injection e1 with x y z; exact ⟨x.symm, y.symm, z.symm⟩
  have k2 := h2
  have lt2 : ∀ x ∈ p2, x.block < W.heap.size := by obtain ⟨m, hm⟩ := k2; exact DataW.trod_lt m _ _ _ hm
  obtain ⟨sa2, sl2, sc2, rfl⟩ := okWide_slice Try.underlying22 (hval 2 22 v2 rfl rfl)
  obtain ⟨A2, n2, cap2, c2, e2, hn2, hr2⟩ := open_intS h2.choose_spec (fun _ => rfl)
  obtain ⟨rfl, rfl, rfl⟩ : A2 = sa2 ∧ n2 = sl2 ∧ cap2 = sc2 := by injection e2 with x y z; exact ⟨x.symm, y.symm, z.symm⟩
  clear hA0 hval0
  refine (lawPermuteCells_walk As0 Ar0 sn0 cs0 n0 cr0 s0 q0 A1 n1 cap1 c1 A2 n2 cap2 c2 W hn0 hm0 hf0 hs0 hr0 hn1 hr1 hn2 hr2).mono fun e W' ⟨he, bel⟩ => ?_
  subst he
  exact ⟨_, rfl, _, _, _, [], _, [], hW', trodAll_mk1 (shut_bool Try.underlying4 _), (trodAll_cons_mk (Below.trod frame_laidOut (by kernel_rfl) (of_decide_eq_true (by kernel_rfl)) k0 bel lt0) (trodAll_cons_mk (Below.trod frame_laidOut (by kernel_rfl) (of_decide_eq_true (by kernel_rfl)) k1 bel lt1) (trodAll_cons_mk (Below.trod frame_laidOut (by kernel_rfl) (of_decide_eq_true (by kernel_rfl)) k2 bel lt2) trodAll_mk0))), rfl, bel.frame _, fun h => by cases h⟩

theorem lawPermuteCells_over : Rows.fnExactPermuteCellsRow.holds Try.pinned (OpenSpec.ofChange Rows.fnExactPermuteCellsSpec) :=
  OpenClaim.holds_of_wide 4 Try.f4 rfl rfl rfl rfl rfl rfl rfl ⟨rfl, rfl, rfl, rfl, rfl⟩ rfl rfl rfl rfl rfl (by kernel_rfl) Try.func4 lawPermuteCells_closed
    (of_decide_eq_true (by kernel_rfl)) (by unfold Func.isWrapper; first | (rw [if_pos (by decide +kernel)]; kernel_rfl) | (rw [if_neg (by decide +kernel)]; exact ⟨rfl, rfl⟩))
    (fun os started H enc _ => lawPermuteCells_lifted os started H enc)

/-- The statement. -/
theorem lawPermuteCells_holds : Rows.FnExactPermuteCellsSaid := lawPermuteCells_over
#print axioms lawPermuteCells_holds
end Go.Proofs.Ytafiikfaeomhpaa
