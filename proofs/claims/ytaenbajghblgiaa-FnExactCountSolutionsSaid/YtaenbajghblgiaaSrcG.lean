/- The number of solutions, by the program (no claim of its own). Conditions: as each theorem states. -/
import Derived.Test.YtaenbajghblgiaaSrcF
import Derived.RangeFuncKeeps
import Derived.OwnWalkIn
import Derived.TacticsInMore
import Derived.Shelf.Abstract
import Derived.LoopNIn
import Derived.LoopIn
namespace Go.Proofs.Ytaenbajghblgiaa
open Go.ChangeShapes Go.WideShapes Go.ChangeAt Go.RowKit Go.Shelf

attribute [local go_sem] Oper.semAt_some

theorem Ms.belowN {n N S c : Nat} {A B : World} (h : Ms (isNew n N) S A B) (h1 : c ≤ N) (h2 : c ≤ n) (h3 : c ≤ S) (h4 : c ≤ A.heap.size) : Below c A B :=
  ⟨h.os, h.tape, h.output, h.size, fun k hk => by
    have he : A.heap[k]? = some (A.heap[k]'(by omega)) := Array.getElem?_eq_getElem (by omega)
    refine (h.block k _ he (by omega) ?_).trans he.symm
    rintro ((⟨h5, _⟩ | ⟨h5, _⟩) | h5) <;> omega⟩
/-- A cell that is not frozen. -/
def Cel1 (W : World) (j : Nat) (v : Value) : Prop := W.cell? ⟨j, 0, none⟩ = some v ∧ W.frozen? ⟨j, 0, none⟩ = false
section
variable {W W' : World} {j : Nat} {v u : Value}
theorem Cel1.same (h : Cel1 W j v) (hh : W'.heap[j]? = W.heap[j]?) : Cel1 W' j v :=
  ⟨(World.cell?_of_block (w := W) hh).trans h.1, by have := h.2; simp only [World.frozen?, hh] at this ⊢; exact this⟩
theorem Cel1.lt (h : Cel1 W j v) : j < W.heap.size := World.block_lt_of_cell? W ⟨j, 0, none⟩ h.1
theorem Cel1.put (h : Cel1 W j v) : Cel1 (W.setCell ⟨j, 0, none⟩ u) j u :=
  ⟨World.cell?_setCell_same' _ _ _ (by rw [h.1]; rfl), by rw [World.frozen?_setCell]; exact h.2⟩
end
def sols (m : Nat) (p : Nat → Con) : List Nat := solL (qS p m) []
theorem sols_len (m : Nat) (p : Nat → Con) : (sols m p).length ≤ 4096 := by
  unfold sols solL
  exact Nat.le_trans (List.length_filter_le _ _) (by simp)

set_option maxRecDepth 100000 in
set_option maxHeartbeats 3200000 in
theorem countLoop_in (n : Nat) (hn : 3 ≤ n) (A : Option Addr) (m cap : Nat) (p : Nat → Con) (w : World) (hm : m ≤ 1048576) (hs : ∀ i, i < m → (p i).n ≤ 1048576) (hv : probB m p = true) (hr : RdP w w.heap.size A m p) :
    CallsIn Fence.wide n Try.prog 11 #[.slice A m cap] w fun e W' => e = .returned (.int .i64 (sols m p).length) ∧ Below w.heap.size w W' := by
  have h1 : 1 ≤ n := by omega
  have hpo := prob_ok hv
  have HOk := Lib.hid (show ∀ i, i < m → okC (p i) ∧ (p i).n ≤ 1048576 from fun i hi => ⟨hpo.2 i hi, hs i hi⟩)
  have hm4 : m ≤ 1400 := by omega
  have Hpr := Lib.hid (implProblem_any A m cap p w hm hs hr)
  have Hr := Lib.hid hr
  have Hlen := Lib.hid (sols_len m p)
  rw [hv] at Hpr
  clear hpo hs hr hv
  refine callsIn_of_wp_marks Try.func11 rfl trivial ?_ rfl
  simp only [Try.ntmps11, List.size_toArray, List.length_cons, List.length_nil, Nat.reduceAdd, Nat.reduceSub, Array.replicate_succ, Array.replicate_zero, List.push_toArray, List.append_toArray, List.nil_append, List.cons_append]
  gi_wp2_with fail
  refine ⟨trivial, (callsIn_wide.2 Hpr.out).mono ?_⟩
  rintro e w1 ⟨rfl, hb⟩
  have HB1 := Lib.hid hb
  clear hb Hpr
  gi_wp2_with fail
  have hcb := heap_alloc_new w1 (.cells #[.int .i64 0] 3)
  have HBA := Lib.hid (bl_alloc (Below.refl w1.heap.size w1) (.cells #[.int .i64 0] 3))
  have hsz : (w1.alloc (.cells #[.int .i64 0] 3)).heap.size = w1.heap.size + 1 := World.size_alloc _ _
  generalize w1.alloc (.cells #[.int .i64 0] 3) = w2 at *
  have hw1 := HB1.out.size
  have HB2 := Lib.hid (HB1.out.trans (HBA.out.mono hw1))
  obtain ⟨C, hCe⟩ : ∃ C, w1.heap.size = C := ⟨_, rfl⟩
  rw [hCe] at hcb hsz hw1 ⊢
  have HCb := Lib.hid hcb
  clear hcb HBA
  refine ⟨trivial, (callsIn_wide.2 (solFrom_any A m cap p w2 hm4 (Hr.out.later HB2.out) HOk.out)).mono ?_⟩
  rintro e w3 ⟨B, S, Bx, lv, uv, rfl, hpg, hb, hS, hBx, hbs, hbx⟩
  have hz3 := hb.size
  have HP := Lib.hid hpg
  have HS := Lib.hid hbs
  have HX := Lib.hid hbx
  have HC3 := Lib.hid ((hb.block C (by omega)).trans HCb.out)
  have HB3 := Lib.hid (HB2.out.trans (hb.mono (by omega)))
  have hSw := hbs.lt
  clear hpg hb hbs hbx HCb HB2
  gi_wp2_with fail
  have hN3 : w2.heap.size ≤ w3.heap.size := hz3
  obtain ⟨N, hNe⟩ : ∃ N, w2.heap.size = N := ⟨_, rfl⟩
  rw [hNe] at hsz hS hBx hz3 HP hN3
  have hseq : ∀ (l : Nat) (J Jx : List Nat → World → Prop) (W : World), Below w3.heap.size w3 W → (∀ pre A B, J pre A → Ms (isOwn N) S A B → J pre B) →
      (∀ pre k G W1, J pre W1 → pre ++ [k] <+: sols m p → N ≤ G → OwnB W1 G 12 12 (valN k) → YieldAt Fence.wide (n - 1 - 1) Try.prog l #[.slice (some ⟨G, 0, none⟩) 12 12] W1 fun e W' => (e = .returned (.bool true) ∧ J (pre ++ [k]) W' ∧ Kx (fun k => k = C) W1 W') ∨ (e = .returned (.bool false) ∧ Jx (pre ++ [k]) W')) →
      J [] W → CallsIn Fence.wide (n - 1) Try.prog 77 (#[.func (.yield l) #[] #[]] ++ #[.pointer (some ⟨Bx, 0, none⟩)]) W fun e W' => (∃ v, e = .returned v) ∧ (J (sols m p) W' ∨ ∃ pre, Jx pre W') := by
    intro l J Jx W hb hJ hY hj
    have hcW := (hb.block C (by omega)).trans HC3.out
    refine callsIn_wide.2 (solutions_any (n - 1) l Bx S B N m (fun k => k < N ∧ k ≠ C) lv p uv (fun k => k = C) W J Jx [] (.slice none 0 0) (sols m p) W (by omega) hm4 HOk.out (fun k hk => by have hk' : k = C := hk; omega) hS hBx (fun W' hrl => (HP.out.below hb).rl hcW (by simp) (by omega) hS (HS.out.below hb) hrl) hJ hY ((hb.block Bx (lt_heap HX.out)).trans HX.out) (HS.out.below hb) (DecR.nil _ _) (Rl.refl _ _ _ _) ?_ hj (Nat.le_trans hN3 hb.size) ?_)
    · exact okD_nil
    · simp [sols, remR]
  have Hseq := Lib.hid hseq
  clear hseq
  refine range_sol (K := fun k => k = C) (N := N) (S := S) (L := sols m p) h1 (gf := 77) (lb := #[.pointer (some ⟨Bx, 0, none⟩)]) rfl (enters_of Try.func77 (by kernel_rfl) rfl)
    Hseq.out hSw rfl (fun pre W => Cel1 W C (.int .i64 pre.length) ∧ Below C w3 W) ?hI ⟨⟨(cell_of_row w3 C _ _ _ _ HC3.out).trans rfl, by simp [World.frozen?, HC3.out]⟩, Below.refl _ _⟩ ?round ?done
  case hI =>
    rintro pre X Y ⟨hc, hB⟩ hmv
    have hb := hmv.belowN (c := C + 1) (by omega) (by omega) (by omega) hc.lt
    exact ⟨hc.same (hb.block C (by omega)), hB.trans (hb.mono (by omega))⟩
  case round =>
    rintro l1 pre k G W r hl1 hr1 hrc ⟨hc, hB⟩ hpre hG hO
    have hle : pre.length + 1 ≤ 4096 := by
      have h5 := hpre.length_le
      have h6 := Hlen.out
      rw [List.length_append, List.length_singleton] at h5
      omega
    have zl : l1 < W.heap.size := lt_heap hr1
    have zC := hc.lt
    clear hO hpre
    gi_wp2
    refine ⟨KeepsOthers.refl _, Kx.refl _ _, fun o' => ?_⟩
    have hne : C ≠ l1 := by omega
    have hcX : Cel1 (W.putObj l1 o') C (.int .i64 pre.length) := hc.same (World.putObj_heap_other hne)
    have hbX : Below C w3 (W.putObj l1 o') := hB.trans ⟨rfl, rfl, rfl, by simp, fun k hk => World.putObj_heap_other (by omega)⟩
    clear hc hB hr1 hrc zl zC
    generalize W.putObj l1 o' = X at *
    have HC := Lib.hid hcX
    have HX2 := Lib.hid hbX
    obtain ⟨s0, s1⟩ := hcX
    have hle' : ((pre.length : Nat) : Int) + 1 ≤ 4096 := by omega
    clear hbX
    gi_wp2
    refine ⟨KeepsOthers.setCell _ _ _, Kx.setC (K := fun k => k = C) X rfl 0 _, HC.out.put, HX2.out.setCell (p := ⟨C, 0, none⟩) (Nat.le_refl _) _⟩
  case done =>
    rintro D W hD ⟨hc, hB⟩ hdef
    obtain ⟨hc0, -⟩ := hc
    gi_wp2
    refine ⟨by simp, .inl ⟨_, _, rfl, run_takeDeferred hdef, ?_⟩⟩
    refine ⟨_, results_tmp rfl _ _ _, rfl, ?_⟩
    exact (HB3.out.trans (hB.mono hw1)).trans (belowK_b (w := w3) (by omega) W D _ _ hD hdef rfl rfl)
end Go.Proofs.Ytaenbajghblgiaa
