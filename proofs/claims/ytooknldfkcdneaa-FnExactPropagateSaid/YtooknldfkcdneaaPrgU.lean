/- The model's Propagate (no claim of its own). Conditions: as each theorem states. -/
import Derived.Test.YtooknldfkcdneaaPrgT
import Derived.Test.YtooknldfkcdneaaProB
namespace Go.Proofs.Ytooknldfkcdneaa
open Go.ChangeShapes Go.WideShapes Go.ChangeAt Go.RowKit Go.Shelf

/-- What Propagate leaves. -/
def PRes (w : World) (ok : Bool) (p : Nat → Con) (m : Nat) (v : Nat → Int) (e : Ending) (w' : World) : Prop :=
  ∃ n v' r A cap T, e = .returned (.tuple #[.slice A n cap, .int .i64 r, .bool ok]) ∧ FrI w' w.heap.size T A n v' ∧ Below w.heap.size w w' ∧ (ok = true → n = 12 ∧ rng v' ∧ Runs p m 0 v v' r) ∧ (ok = false → n = 0 ∧ r = -1)
theorem prob_ok {m : Nat} {p : Nat → Con} (h : probB m p = true) : m ≤ 400 ∧ ∀ i, i < m → okC (p i) := by
  unfold probB at h
  simp only [Bool.and_eq_true, decide_eq_true_eq] at h
  refine ⟨by omega, fun i hi => ?_⟩
  have key : ∀ n, allV p n = true → ∀ i, i < n → okC (p i) := by
    intro n
    induction n with
    | zero => intro _ i hi; omega
    | succ n ih =>
      intro ha i hi
      unfold allV at ha
      rw [Bool.and_eq_true] at ha
      by_cases e : i = n
      · subst e; exact ha.2
      · exact ih ha.1 i (by omega)
  exact key m (by simp_all) i hi

set_option maxRecDepth 100000 in
set_option maxHeartbeats 3200000 in
theorem specProp_any (A Ap : Option Addr) (m cap np capp : Nat) (p : Nat → Con) (v : Nat → Int) (w : World) (hm : m ≤ 1048576) (hnp : np ≤ 1048576) (hn : ∀ i, i < m → (p i).n ≤ 1048576) (hr : RdP w w.heap.size A m p) (hrv : RdI w w.heap.size Ap np v) :
    Calls Try.prog 12 #[.slice A m cap, .slice Ap np capp] w (PRes w (probB m p && pvB np v) p m v) := by
  have HR := Lib.hid hr
  have HV := Lib.hid hrv
  clear hr hrv
  go_enter Try.func12, Try.ntmps12
  go_wp2_with fail
  refine (specProblem_any _ _ _ p _ hm hn HR.out).mono ?_
  rintro e w1 ⟨rfl, hb⟩
  have HB1 := Lib.hid hb
  clear hb
  cases hpb : probB m p with
  | false =>
    have HZ := Lib.hid (show (probB m p && pvB np v) = false by rw [hpb]; rfl)
    clear hpb
    go_wp2
    refine bodyPost_ret (v := .tuple #[.slice (some ⟨w1.heap.size, 0, none⟩) 0 0, .int .i64 (-1), .bool false]) (by simp [results, Try.results12, go_sem]) rfl ?_
    rw [HZ.out]
    exact ⟨0, v, -1, _, _, 3, rfl, .inl rfl, bl_alloc HB1.out _, fun h => (by cases h), fun _ => ⟨rfl, rfl⟩⟩
  | true =>
    have Hpb := Lib.hid hpb
    go_wp2_with fail
    refine (specPartial_any _ _ _ v _ hnp (HV.out.later HB1.out)).mono ?_
    rintro e w2 ⟨rfl, e2⟩
    replace e2 := e2.symm
    subst e2
    cases hpv : pvB np v with
    | false =>
      have HZ := Lib.hid (show (probB m p && pvB np v) = false by rw [hpb, hpv]; rfl)
      clear hpb hpv
      go_wp2
      refine bodyPost_ret (v := .tuple #[.slice (some ⟨w1.heap.size, 0, none⟩) 0 0, .int .i64 (-1), .bool false]) (by simp [results, Try.results12, go_sem]) rfl ?_
      rw [HZ.out]
      exact ⟨0, v, -1, _, _, 3, rfl, .inl rfl, bl_alloc HB1.out _, fun h => (by cases h), fun _ => ⟨rfl, rfl⟩⟩
    | true =>
      obtain ⟨e12, hrg⟩ := pvB_iff.1 hpv
      subst e12
      have HK := Lib.hid (show (probB m p && pvB 12 v) = true by rw [hpb, hpv]; rfl)
      obtain ⟨_, hoks⟩ := prob_ok Hpb.out
      have HO := Lib.hid (show ∀ i, i < m → okC (p i) ∧ (p i).n ≤ 1048576 from fun i hi => ⟨hoks i hi, hn i hi⟩)
      have HG := Lib.hid (show rng v from hrg)
      obtain ⟨bp, offp, rfl, hbp, hcp⟩ := (HV.out.later HB1.out) (by omega)
      have HcA := Lib.hid (fun j (hj : j < 12) => kc (bl_alloc (Below.refl w1.heap.size w1) (.cells #[] 3)) (hcp j hj))
      have HRp := Lib.hid (HR.out.below HB1.out)
      clear hcp hpv hrg hoks hpb Hpb HR HV
      go_wp2_with (at_builtin; refine wpList_plain (by rfl) fun K' hK' => ?_; refine wp_cp12 _ _ (by rfl) (by rfl) (B0 := w1.heap.size) (by rfl) (by rfl) (rowI_new w1) (by intro j hj; cases hj; exact Nat.le_refl _) HcA.out (by simp) ?_; intro g cap1 w7 hg1 hov hb7; have hbx := Lib.hid ((bl_alloc (Below.refl w1.heap.size w1) (.cells #[] 3)).trans hb7); have Hov := Lib.hid hov; have Hg1 := Lib.hid hg1; clear hb7 hov hg1; refine hK' _ _ ?_; clear hK' K')
      have HB7 := Lib.hid (bl_trans HB1.out hbx.out)
      refine (l3Propagate_any _ m _ g _ p v w7 hm ((HRp.out.below (hbx.out.mono HB1.out.size)).more (Nat.le_trans HB1.out.size Hg1.out)) HO.out Hov.out HG.out).mono ?_
      rintro e w8 ⟨v', r, hrun, rfl, ho, hrg, hb⟩
      have hwg : w.heap.size ≤ g := Nat.le_trans HB1.out.size Hg1.out
      have HB8 := Lib.hid (HB7.out.trans (hb.mono hwg))
      have HX := Lib.hid hrun
      have HY := Lib.hid hrg
      have HZ := Lib.hid ho
      clear hb hrun hrg ho
      go_wp2
      refine bodyPost_ret (v := .tuple #[.slice (some ⟨g, 0, none⟩) 12 cap1, .int .i64 r, .bool true]) (by simp [results, Try.results12, go_sem]) rfl ?_
      rw [HK.out]
      exact ⟨12, v', r, _, _, _, rfl, .inr ⟨g, rfl, hwg, HZ.out⟩, HB8.out, fun _ => ⟨rfl, HY.out, HX.out⟩, fun h => (by cases h)⟩
end Go.Proofs.Ytooknldfkcdneaa
