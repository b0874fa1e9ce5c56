/- The iterator over a problem's solutions (no claim of its own). Conditions: as each theorem states. -/
import Derived.Test.YtaenbajghblgiaaSrcC
import Derived.RangeFuncNested
import Derived.RangeFuncBound
import Derived.RangeFuncCalls
import Derived.RangeFuncLeaves
import Derived.RangeFuncFrom
import Derived.OwnWalkIn
import Derived.TacticsInMore
import Derived.WalkMore
import Derived.Deep.QuietTactic
import Derived.StillTailTactics
import Derived.Deep.CutBlock
namespace Go.Proofs.Ytaenbajghblgiaa
open Go.ChangeShapes Go.WideShapes Go.ChangeAt Go.RowKit Go.Shelf

theorem list_unroll (L : List Value) : L = (List.range L.length).map (fun i => L.getD i undef) := by
  refine List.ext_getElem (by simp) fun i h1 h2 => ?_
  simp [List.getD, List.getElem?_eq_getElem h1]
/-- The frame of the iterator: its yield, its search, its values' box. -/
def FrS (a : Act) (Y P1 P3 : Value) : Prop := a.tmps.size = 93 ∧ a.defers = [] ∧ a.tmps[0]? = some Y ∧ a.tmps[1]? = some P1 ∧ a.tmps[3]? = some P3
theorem FrS.open {a : Act} {Y P1 P3 : Value} (h : FrS a Y P1 P3) : ∃ f : Nat → Value, a = { tmps := #[Y, P1, f 2, P3, f 4, f 5, f 6, f 7, f 8, f 9, f 10, f 11, f 12, f 13, f 14, f 15, f 16, f 17, f 18, f 19, f 20, f 21, f 22, f 23, f 24, f 25, f 26, f 27, f 28, f 29, f 30, f 31, f 32, f 33, f 34, f 35, f 36, f 37, f 38, f 39, f 40, f 41, f 42, f 43, f 44, f 45, f 46, f 47, f 48, f 49, f 50, f 51, f 52, f 53, f 54, f 55, f 56, f 57, f 58, f 59, f 60, f 61, f 62, f 63, f 64, f 65, f 66, f 67, f 68, f 69, f 70, f 71, f 72, f 73, f 74, f 75, f 76, f 77, f 78, f 79, f 80, f 81, f 82, f 83, f 84, f 85, f 86, f 87, f 88, f 89, f 90, f 91, f 92], defers := [] } := by
  obtain ⟨⟨L⟩, d⟩ := a
  obtain ⟨h1, h2, h3, h4, h5⟩ := h
  simp only at h1 h2 h3 h4 h5
  subst h2
  have hl : L.length = 93 := h1
  have h6 := list_unroll L
  rw [hl] at h6
  have e0 : L.getD 0 undef = Y := by have h7 : L[0]? = some Y := (by simpa using h3); simp [List.getD, h7]
  have e1 : L.getD 1 undef = P1 := by have h7 : L[1]? = some P1 := (by simpa using h4); simp [List.getD, h7]
  have e3 : L.getD 3 undef = P3 := by have h7 : L[3]? = some P3 := (by simpa using h5); simp [List.getD, h7]
  refine ⟨fun i => L.getD i undef, ?_⟩
  have h8 : L = [L.getD 0 undef, L.getD 1 undef, L.getD 2 undef, L.getD 3 undef, L.getD 4 undef, L.getD 5 undef, L.getD 6 undef, L.getD 7 undef, L.getD 8 undef, L.getD 9 undef, L.getD 10 undef, L.getD 11 undef, L.getD 12 undef, L.getD 13 undef, L.getD 14 undef, L.getD 15 undef, L.getD 16 undef, L.getD 17 undef, L.getD 18 undef, L.getD 19 undef, L.getD 20 undef, L.getD 21 undef, L.getD 22 undef, L.getD 23 undef, L.getD 24 undef, L.getD 25 undef, L.getD 26 undef, L.getD 27 undef, L.getD 28 undef, L.getD 29 undef, L.getD 30 undef, L.getD 31 undef, L.getD 32 undef, L.getD 33 undef, L.getD 34 undef, L.getD 35 undef, L.getD 36 undef, L.getD 37 undef, L.getD 38 undef, L.getD 39 undef, L.getD 40 undef, L.getD 41 undef, L.getD 42 undef, L.getD 43 undef, L.getD 44 undef, L.getD 45 undef, L.getD 46 undef, L.getD 47 undef, L.getD 48 undef, L.getD 49 undef, L.getD 50 undef, L.getD 51 undef, L.getD 52 undef, L.getD 53 undef, L.getD 54 undef, L.getD 55 undef, L.getD 56 undef, L.getD 57 undef, L.getD 58 undef, L.getD 59 undef, L.getD 60 undef, L.getD 61 undef, L.getD 62 undef, L.getD 63 undef, L.getD 64 undef, L.getD 65 undef, L.getD 66 undef, L.getD 67 undef, L.getD 68 undef, L.getD 69 undef, L.getD 70 undef, L.getD 71 undef, L.getD 72 undef, L.getD 73 undef, L.getD 74 undef, L.getD 75 undef, L.getD 76 undef, L.getD 77 undef, L.getD 78 undef, L.getD 79 undef, L.getD 80 undef, L.getD 81 undef, L.getD 82 undef, L.getD 83 undef, L.getD 84 undef, L.getD 85 undef, L.getD 86 undef, L.getD 87 undef, L.getD 88 undef, L.getD 89 undef, L.getD 90 undef, L.getD 91 undef, L.getD 92 undef] := h6.trans rfl
  rw [e0, e1, e3] at h8
  rw [← h8]
theorem OwnB.to {w : World} {G n : Nat} {v v' : Nat → Bool} (h : OwnB w G n n v) (he : ∀ i, i < n → v i = v' i) : OwnB w G n n v' := by
  obtain ⟨cs, h1, h2, h3⟩ := h
  exact ⟨cs, h1, h2, fun i hi => by rw [← he i hi]; exact h3 i hi⟩

set_option linter.unusedVariables false in
set_option maxRecDepth 100000 in
set_option maxHeartbeats 400000 in
theorem solutions_any (n l Bx S B N m : Nat) (lo : Nat → Prop) (lv : Value) (p : Nat → Con) (uv : Nat → Value) (K : Nat → Prop) (W0 : World) (J Jx : List Nat → World → Prop) (D0 : List Int) (dv0 : Value) (L : List Nat) (W : World)
    (hn : 1 ≤ n) (hm : m ≤ 1400) (hok : ∀ i, i < m → okC (p i) ∧ (p i).n ≤ 1048576) (hK : ∀ k, K k → k < N) (hSN : N ≤ S) (hBN : N ≤ Bx)
    (hPg : ∀ W', Rl K N S W0 W' → Pg W' lo B lv m m p (fun i => slkC (p i) z0) (usP p m) uv)
    (hJ : ∀ pre A B, J pre A → Ms (isOwn N) S A B → J pre B)
    (hY : ∀ pre k G W1, J pre W1 → pre ++ [k] <+: L → N ≤ G → OwnB W1 G 12 12 (valN k) → YieldAt Fence.wide (n - 1) Try.prog l #[.slice (some ⟨G, 0, none⟩) 12 12] W1 fun e W' => (e = .returned (.bool true) ∧ J (pre ++ [k]) W' ∧ Kx K W1 W') ∨ (e = .returned (.bool false) ∧ Jx (pre ++ [k]) W'))
    (hbx : W.heap[Bx]? = some (.cells #[.pointer (some ⟨S, 0, none⟩)] 90 (0, 0))) (hS : BoxS W S B dv0) (hR : DecR W N dv0 D0) (hrl : Rl K N S W0 W) (hD : okD D0) (hj : J [] W) (hN : N ≤ W.heap.size)
    (hL : solL (qS p m) D0 ++ remR (qS p m) D0.reverse = L) :
    Calls Try.prog 77 #[.func (.yield l) #[] #[], .pointer (some ⟨Bx, 0, none⟩)] W fun e W' => (∃ v, e = .returned v) ∧ (J L W' ∨ ∃ pre, Jx pre W') := by
  have HOk := Lib.hid hok
  have HPg := Lib.hid hPg
  have HJ := Lib.hid hJ
  have HY := Lib.hid hY
  have HK := Lib.hid hK
  have HL := Lib.hid hL
  have HI0 := Lib.hid (show ∀ W', Below W.heap.size W W' → (∃ cs, W'.heap[W.heap.size]? = some (.cells cs 121 (0, 0)) ∧ 12 ≤ cs.size) → ItS K S B N Bx W0 J W' W.heap.size D0 [] dv0 from fun W' hb hv =>
    ⟨(hb.block Bx (lt_heap hbx)).trans hbx, hS.below hb, hR.below hb, hrl.trans (Ms.rl (ms_below hb)), hD, hJ _ _ _ hj (ms_below hb), hN, hv, Nat.le_trans hN hb.size⟩)
  clear hok hPg hJ hY hK hL hbx hS hR hrl hD hj
  go_enter Try.func77, Try.ntmps77
  go_wp2
  refine wp_scope_two (fun l' n' a' w' => ∃ (X : Nat) (D : List Int) (pre : List Nat) (dv : Value), FrS a' (.func (.yield l) #[] #[]) (.pointer (some ⟨Bx, 0, none⟩)) (.pointer (some ⟨X, 0, none⟩)) ∧ ItS K S B N Bx W0 J w' X D pre dv ∧ ((l' = 0 ∧ pre ++ (solL (qS p m) D ++ remR (qS p m) D.reverse) = L ∧ n' = aV D.length + muR D.reverse) ∨ (l' = 1 ∧ pre ++ remR (qS p m) D.reverse = L ∧ n' = muR D.reverse))) (by rfl) (by rfl) (by rfl) (by rfl) (by rfl) ?first ?conf ?visit
  case first =>
    go_wp2
    refine ⟨_, W.heap.size, D0, [], dv0, ⟨rfl, rfl, rfl, rfl, rfl⟩, HI0.out _ (bl_alloc (Below.refl _ _) _) ⟨_, heap_alloc_new _ _, by decide⟩, .inl ⟨(by first | rfl | trivial), ?_, (by first | rfl | trivial)⟩⟩
    exact HL.out
  case conf =>
    rintro n1 a1 w1 ⟨X, D, pre, dv, hfr, hi, hh⟩
    obtain ⟨f, rfl⟩ := hfr.open
    clear hfr
    obtain ⟨heq, hn1⟩ : pre ++ remR (qS p m) D.reverse = L ∧ n1 = muR D.reverse := by
      rcases hh with ⟨h, _⟩ | ⟨_, h1, h2⟩
      · cases h
      · exact ⟨h1, h2⟩
    have HE := Lib.hid heq
    have HN1 := Lib.hid hn1
    have HI := Lib.hid hi
    have x0 := hi.xb
    have s0 := hi.box.c0
    have s1 := hi.box.c1
    have s2 := hi.box.c2
    have s3 := hi.box.c3
    have sf := hi.box.fr 1
    clear hh heq hn1 hi
    obtain rfl | ⟨D', z, rfl⟩ : D = [] ∨ ∃ D' z, D = D' ++ [z] := (by
      rcases List.eq_nil_or_concat D with h | ⟨D', z, h⟩
      · exact .inl h
      · exact .inr ⟨D', z, by rw [h, List.concat_eq_append]⟩)
    · obtain ⟨A, cap, hdv, -⟩ := HI.out.row.rd
      subst hdv
      simp only [List.length_nil] at s1 HI ⊢
      go_wp2_with fail
      go_quiet ((go_at_call 83; exact Calls.quiet_of_same (fail_nil _ _)))
      go_wp2
      simp only [Exit.jumps2]
      refine bodyPost_ret (results_none rfl _ _ _) rfl ?_
      exact ⟨⟨_, rfl⟩, .inl (by have h := HE.out; rw [List.reverse_nil] at h; have e : pre = L := (by simpa [remR] using h); rw [← e]; exact HJ.out _ _ _ HI.out.j (ms_below (bl_drewN (Below.refl _ _) _)))⟩
    · have hlen : (D' ++ [z]).length = D'.length + 1 := by simp
      have hz : litB z = true := HI.out.okd.1 z (by simp)
      obtain ⟨hz0, hz1, hz2⟩ := litB_iff.1 hz
      have hle := okD_len HI.out.okd
      rw [hlen] at hle
      obtain ⟨g, cap, hdv, hcl, hfz, hcap, hcm⟩ := HI.out.row.cell (i := D'.length) (by rw [hlen]; omega)
      rw [hlen] at hdv hcap
      have hgd : (D' ++ [z]).getD D'.length 0 = z := by simp [List.getD]
      rw [hgd] at hcl
      subst hdv
      have HRow := Lib.hid HI.out.row
      have HBox := Lib.hid HI.out.box
      have HOd := Lib.hid HI.out.okd
      have hk0 : (0 : Int) ≤ (D'.length : Int) := by omega
      have hk1 : (D'.length : Int) < (D'.length : Int) + 1 := by omega
      have hk2 : (D'.length : Int) < ((D'.length + 1 : Nat) : Int) := by omega
      have hk3 : D'.length < D'.length + 1 := by omega
      have hk4 : ¬ (D'.length : Int) < 0 := by omega
      have hw1 : IntKind.i64.wrap ((D'.length : Int) + 1 - 1) = (D'.length : Int) := by rw [IntWalk.i64_in _ (by omega)]; omega
      have hw2 : wrap64 ((D'.length : Int) + 1 - 1) = (D'.length : Int) := by rw [← IntWalk.i64_left]; exact hw1
      have hw0 : IntKind.i64.wrap (D'.length : Int) = (D'.length : Int) := IntWalk.i64_in _ (by omega)
      have hne : ((D'.length : Int) + 1 == 0) = false := by rw [beq_eq_false_iff_ne]; omega
      unfold maxLen at hcm
      clear hlen hgd hz
      go_wp2_with fail
      go_quiet ((go_at_call 83; exact Calls.quiet_of_same (fail_nil _ _)))
      go_wp2_with fail
      go_quiet ((go_at_call 84; exact (litNegated_any _ _).mono fun _ _ ⟨he, hw⟩ => ⟨he, _, hw⟩))
      by_cases hneg : z < 0
      · have hdz : decide (z < 0) = true := decide_eq_true hneg
        go_wp2_with fail
        generalize hwd : World.drewN (World.drewN w1 _) _ = wd
        have hbd : Below w1.heap.size w1 wd.drew := hwd ▸ (bl_drewN (bl_drewN (Below.refl _ _) _) _).drew
        have HI2 := Lib.hid (HI.out.below HJ.out hbd)
        have y0 : wd.cell? ⟨Bx, 0, none⟩ = some (.pointer (some ⟨S, 0, none⟩)) := hwd ▸ x0
        have y1 : wd.cell? ⟨S, 1, none⟩ = some (.slice (some ⟨g, 0, none⟩) (D'.length + 1) cap) := hwd ▸ s1
        have y2 : wd.cell? ⟨g, D'.length, none⟩ = some (.int .i64 z) := hwd ▸ hcl
        have y3 : wd.frozen? ⟨g, D'.length, none⟩ = false := hwd ▸ hfz
        clear hwd hbd x0 s1 hcl hfz s0 s2 s3 sf hdz
        have hwz : IntKind.i64.wrap (-z) = -z := IntWalk.i64_in _ (by omega)
        go_still_tail 14, (by kernel_rfl)
        change wpList _ _ _ _ _ wd.drew
        go_wp2
        go_step3
        obtain ⟨hSg, ob, hob, hod⟩ := HI2.out.row.at_ HI2.out.box
        have HI3 := Lib.hid (HI2.out.move HJ.out (ms_setG (E := isDec N) hob hod D'.length (.int .i64 (-z))) (HI2.out.box.far (p := ⟨g, D'.length, none⟩) hSg _) HI2.out.row.flip (okD_flip HI2.out.okd))
        exact ⟨.inl rfl, aV (D' ++ [-z]).length + muR (D' ++ [-z]).reverse, by rw [HN1.out]; exact mu_first hneg, X, D' ++ [-z], pre, _, ⟨rfl, rfl, rfl, rfl, rfl⟩, HI3.out, .inl ⟨rfl, by rw [← HE.out, rem_first hneg], rfl⟩⟩
      · have hdz : decide (z < 0) = false := decide_eq_false hneg
        go_wp2_with fail
        generalize hwd : World.drewN w1 _ = wd
        have hbd : Below w1.heap.size w1 wd.drew := hwd ▸ (bl_drewN (Below.refl _ _) _).drew
        have HI2 := Lib.hid (HI.out.below HJ.out hbd)
        have y0 : wd.cell? ⟨Bx, 0, none⟩ = some (.pointer (some ⟨S, 0, none⟩)) := hwd ▸ x0
        have y1 : wd.cell? ⟨S, 1, none⟩ = some (.slice (some ⟨g, 0, none⟩) (D'.length + 1) cap) := hwd ▸ s1
        have y3 : wd.frozen? ⟨S, 1, none⟩ = false := hwd ▸ sf
        have hc2 : (D'.length : Int) ≤ (cap : Int) := by omega
        clear hwd hbd x0 s1 hcl hfz s0 s2 s3 sf hdz
        go_still_tail 9, (by kernel_rfl)
        change wpList _ _ _ _ _ wd.drew
        go_wp2
        go_step3
        have HI3 := Lib.hid (HI2.out.move HJ.out ((Ms.refl (isDec N) S wd.drew).setS 1 (.slice (some ⟨g, 0, none⟩) D'.length cap)) HI2.out.box.set1 (HI2.out.row.cut.setS HI2.out.box 1 _) (okD_pre HI2.out.okd))
        exact ⟨.inr rfl, muR D'.reverse, by rw [HN1.out]; exact mu_second (by omega), X, D', pre, _, ⟨rfl, rfl, rfl, rfl, rfl⟩, HI3.out, .inr ⟨rfl, by rw [← HE.out, rem_second (by omega)], rfl⟩⟩
  case visit =>
    rintro hC n1 a1 w1 ⟨X, D, pre, dv, hfr, hi, hh⟩
    obtain ⟨f, rfl⟩ := hfr.open
    clear hfr
    obtain ⟨heq, hn1⟩ : pre ++ (solL (qS p m) D ++ remR (qS p m) D.reverse) = L ∧ n1 = aV D.length + muR D.reverse := by
      rcases hh with ⟨_, h1, h2⟩ | ⟨h, _⟩
      · exact ⟨h1, h2⟩
      · cases h
    have HE := Lib.hid heq
    have HN1 := Lib.hid hn1
    have HI := Lib.hid hi
    have HC := Lib.hid hC
    have x0 := hi.xb
    have s3 := hi.box.c3
    have hDl := okD_len hi.okd
    clear hh heq hn1 hi hC
    go_wp2_with fail
    refine (visit_nil _).mono ?_
    rintro e w2 ⟨rfl, hw⟩
    subst hw
    go_wp2_with fail
    refine (propDec_any S B N dv D lo m lv p uv _ hm HOk.out HI.out.okd HI.out.box HI.out.row (HPg.out _ HI.out.rl)).mono ?_
    rintro e w2 ⟨V, r, rfl, hruns, hrng, hb⟩
    have HI2 := Lib.hid (HI.out.below HJ.out hb)
    have HRuns := Lib.hid hruns
    have HRng := Lib.hid hrng
    obtain ⟨cs2, d1, d2⟩ := HI2.out.vb
    have hpx : ∀ i, i < 12 → w2.cell? ⟨X, i, none⟩ = some (cs2.getD i undef) := fun i hi => (cell_of_row w2 X _ _ _ _ d1).trans (by rw [Array.getElem?_eq_getElem (by omega)]; simp [Array.getD, show i < cs2.size by omega])
    have hfx : ∀ i, w2.frozen? ⟨X, i, none⟩ = false := fun i => by simp [World.frozen?, d1]
    obtain ⟨y0, p0⟩ : ∃ y, w2.cell? ⟨X, 0, none⟩ = some y := ⟨_, hpx 0 (by omega)⟩
    have g0 : w2.frozen? ⟨X, 0, none⟩ = false := hfx 0
    obtain ⟨y1, p1⟩ : ∃ y, w2.cell? ⟨X, 1, none⟩ = some y := ⟨_, hpx 1 (by omega)⟩
    have g1 : w2.frozen? ⟨X, 1, none⟩ = false := hfx 1
    obtain ⟨y2, p2⟩ : ∃ y, w2.cell? ⟨X, 2, none⟩ = some y := ⟨_, hpx 2 (by omega)⟩
    have g2 : w2.frozen? ⟨X, 2, none⟩ = false := hfx 2
    obtain ⟨y3, p3⟩ : ∃ y, w2.cell? ⟨X, 3, none⟩ = some y := ⟨_, hpx 3 (by omega)⟩
    have g3 : w2.frozen? ⟨X, 3, none⟩ = false := hfx 3
    obtain ⟨y4, p4⟩ : ∃ y, w2.cell? ⟨X, 4, none⟩ = some y := ⟨_, hpx 4 (by omega)⟩
    have g4 : w2.frozen? ⟨X, 4, none⟩ = false := hfx 4
    obtain ⟨y5, p5⟩ : ∃ y, w2.cell? ⟨X, 5, none⟩ = some y := ⟨_, hpx 5 (by omega)⟩
    have g5 : w2.frozen? ⟨X, 5, none⟩ = false := hfx 5
    obtain ⟨y6, p6⟩ : ∃ y, w2.cell? ⟨X, 6, none⟩ = some y := ⟨_, hpx 6 (by omega)⟩
    have g6 : w2.frozen? ⟨X, 6, none⟩ = false := hfx 6
    obtain ⟨y7, p7⟩ : ∃ y, w2.cell? ⟨X, 7, none⟩ = some y := ⟨_, hpx 7 (by omega)⟩
    have g7 : w2.frozen? ⟨X, 7, none⟩ = false := hfx 7
    obtain ⟨y8, p8⟩ : ∃ y, w2.cell? ⟨X, 8, none⟩ = some y := ⟨_, hpx 8 (by omega)⟩
    have g8 : w2.frozen? ⟨X, 8, none⟩ = false := hfx 8
    obtain ⟨y9, p9⟩ : ∃ y, w2.cell? ⟨X, 9, none⟩ = some y := ⟨_, hpx 9 (by omega)⟩
    have g9 : w2.frozen? ⟨X, 9, none⟩ = false := hfx 9
    obtain ⟨y10, p10⟩ : ∃ y, w2.cell? ⟨X, 10, none⟩ = some y := ⟨_, hpx 10 (by omega)⟩
    have g10 : w2.frozen? ⟨X, 10, none⟩ = false := hfx 10
    obtain ⟨y11, p11⟩ : ∃ y, w2.cell? ⟨X, 11, none⟩ = some y := ⟨_, hpx 11 (by omega)⟩
    have g11 : w2.frozen? ⟨X, 11, none⟩ = false := hfx 11
    have hXl : X < w2.heap.size := lt_heap d1
    have hth : w2.there X 0 ([.int .i64 (V 0), .int .i64 (V 1), .int .i64 (V 2), .int .i64 (V 3), .int .i64 (V 4), .int .i64 (V 5), .int .i64 (V 6), .int .i64 (V 7), .int .i64 (V 8), .int .i64 (V 9), .int .i64 (V 10), .int .i64 (V 11)] : List Value).length := fun j hj => by
      rw [Nat.zero_add]
      exact ⟨by rw [hpx j hj]; rfl, hfx j⟩
    have HTh := Lib.hid hth
    clear hb hruns hrng d1 d2 hpx hfx hth x0 s3 HI
    unfold arrV cells12
    by_cases hr : 0 ≤ r
    · go_wp2_with fail
      go_step3
      have HI3 := Lib.hid (HI2.out.vals HJ.out [.int .i64 (V 0), .int .i64 (V 1), .int .i64 (V 2), .int .i64 (V 3), .int .i64 (V 4), .int .i64 (V 5), .int .i64 (V 6), .int .i64 (V 7), .int .i64 (V 8), .int .i64 (V 9), .int .i64 (V 10), .int .i64 (V 11)])
      exact ⟨.inr rfl, muR D.reverse, by rw [HN1.out]; have := aV_pos hDl; omega, X, D, pre, dv, ⟨rfl, rfl, rfl, rfl, rfl⟩, HI3.out, .inr ⟨rfl, by rw [← HE.out, sol_none HOk.out HI2.out.okd HRuns.out hr, List.nil_append], rfl⟩⟩
    · go_wp2_with fail
      have HI3' := Lib.hid (HI2.out.vals HJ.out [.int .i64 (V 0), .int .i64 (V 1), .int .i64 (V 2), .int .i64 (V 3), .int .i64 (V 4), .int .i64 (V 5), .int .i64 (V 6), .int .i64 (V 7), .int .i64 (V 8), .int .i64 (V 9), .int .i64 (V 10), .int .i64 (V 11)])
      have hrg := World.rangeAt_setCells_same w2 X 0 [.int .i64 (V 0), .int .i64 (V 1), .int .i64 (V 2), .int .i64 (V 3), .int .i64 (V 4), .int .i64 (V 5), .int .i64 (V 6), .int .i64 (V 7), .int .i64 (V 8), .int .i64 (V 9), .int .i64 (V 10), .int .i64 (V 11)] HTh.out
      have hlt3 : X < (w2.setCells X 0 [.int .i64 (V 0), .int .i64 (V 1), .int .i64 (V 2), .int .i64 (V 3), .int .i64 (V 4), .int .i64 (V 5), .int .i64 (V 6), .int .i64 (V 7), .int .i64 (V 8), .int .i64 (V 9), .int .i64 (V 10), .int .i64 (V 11)]).heap.size := Nat.lt_of_lt_of_le hXl (below_cells (n := 0) (Nat.zero_le X) [.int .i64 (V 0), .int .i64 (V 1), .int .i64 (V 2), .int .i64 (V 3), .int .i64 (V 4), .int .i64 (V 5), .int .i64 (V 6), .int .i64 (V 7), .int .i64 (V 8), .int .i64 (V 9), .int .i64 (V 10), .int .i64 (V 11)] 0 w2 (Below.refl 0 w2)).size
      have hv3 : ∀ i, i < 12 → (w2.setCells X 0 [.int .i64 (V 0), .int .i64 (V 1), .int .i64 (V 2), .int .i64 (V 3), .int .i64 (V 4), .int .i64 (V 5), .int .i64 (V 6), .int .i64 (V 7), .int .i64 (V 8), .int .i64 (V 9), .int .i64 (V 10), .int .i64 (V 11)]).cell? ⟨X, 0 + i, none⟩ = some (.int .i64 (V i)) := fun i hi => hrg i _ (by match i, hi with | 0, _ => rfl | 1, _ => rfl | 2, _ => rfl | 3, _ => rfl | 4, _ => rfl | 5, _ => rfl | 6, _ => rfl | 7, _ => rfl | 8, _ => rfl | 9, _ => rfl | 10, _ => rfl | 11, _ => rfl)
      have hW3 : ((((((((((((w2.setCell ⟨X, 0, none⟩ (.int .i64 (V 0))).setCell ⟨X, 1, none⟩ (.int .i64 (V 1))).setCell ⟨X, 2, none⟩ (.int .i64 (V 2))).setCell ⟨X, 3, none⟩ (.int .i64 (V 3))).setCell ⟨X, 4, none⟩ (.int .i64 (V 4))).setCell ⟨X, 5, none⟩ (.int .i64 (V 5))).setCell ⟨X, 6, none⟩ (.int .i64 (V 6))).setCell ⟨X, 7, none⟩ (.int .i64 (V 7))).setCell ⟨X, 8, none⟩ (.int .i64 (V 8))).setCell ⟨X, 9, none⟩ (.int .i64 (V 9))).setCell ⟨X, 10, none⟩ (.int .i64 (V 10))).setCell ⟨X, 11, none⟩ (.int .i64 (V 11))) = w2.setCells X 0 [.int .i64 (V 0), .int .i64 (V 1), .int .i64 (V 2), .int .i64 (V 3), .int .i64 (V 4), .int .i64 (V 5), .int .i64 (V 6), .int .i64 (V 7), .int .i64 (V 8), .int .i64 (V 9), .int .i64 (V 10), .int .i64 (V 11)] := rfl
      rw [hW3]
      clear hW3 hrg HTh p0 g0 p1 g1 p2 g2 p3 g3 p4 g4 p5 g5 p6 g6 p7 g7 p8 g8 p9 g9 p10 g10 p11 g11
      generalize w2.setCells X 0 [.int .i64 (V 0), .int .i64 (V 1), .int .i64 (V 2), .int .i64 (V 3), .int .i64 (V 4), .int .i64 (V 5), .int .i64 (V 6), .int .i64 (V 7), .int .i64 (V 8), .int .i64 (V 9), .int .i64 (V 10), .int .i64 (V 11)] = W3 at *
      have HI3 := Lib.hid HI3'.out
      have HV3 := Lib.hid (show RdI W3 W3.heap.size (some ⟨X, 0, none⟩) 12 V from fun _ => ⟨X, 0, rfl, hlt3, hv3⟩)
      clear HI3' HI2 hv3 hlt3 hXl
      refine (indexZ_any V 12 _ _ W3 (by omega) HV3.out).mono ?_
      rintro e w4 ⟨mi, rfl, hz, hb⟩
      have HI4 := Lib.hid (HI3.out.below HJ.out hb)
      have HV4 := Lib.hid (HV3.out.later hb)
      have x0 := HI4.out.xb
      clear hb HI3 HV3
      rcases hz with ⟨rfl, hfull⟩ | ⟨j, rfl, hj, hVj, hbefore⟩
      · have HFull := Lib.hid hfull
        clear hfull
        obtain ⟨bX, off, eX, _, hcX⟩ := HV4.out (by omega)
        cases eX
        have hcz : ∀ i, i < 12 → w4.cell? ⟨X, i, none⟩ = some (.int .i64 (V i)) := fun i hi => by have := hcX i hi; rw [Nat.zero_add] at this; exact this
        have r0 := hcz 0 (by omega)
        have r1 := hcz 1 (by omega)
        have r2 := hcz 2 (by omega)
        have r3 := hcz 3 (by omega)
        have r4 := hcz 4 (by omega)
        have r5 := hcz 5 (by omega)
        have r6 := hcz 6 (by omega)
        have r7 := hcz 7 (by omega)
        have r8 := hcz 8 (by omega)
        have r9 := hcz 9 (by omega)
        have r10 := hcz 10 (by omega)
        have r11 := hcz 11 (by omega)
        have HHr := Lib.hid hr
        have HSf := Lib.hid (sol_full HOk.out HI4.out.okd HRuns.out (by omega) HFull.out (fun i => decide (0 < V i)) (fun i _ => rfl))
        clear hcX hcz x0 hr
        go_upto_region 8 with fail
        refine (wpIn_wide (n := n)).1 ?_
        have HVal := Lib.hid (values_of V w4)
        unfold arrV cells12 at HVal
        gi_wp2_with fail
        refine ⟨trivial, (callsIn_wide.2 HVal.out).mono ?_⟩
        rintro e w5 ⟨G, rfl, hG, hOw, hb⟩
        have HI5 := Lib.hid (HI4.out.below HJ.out hb)
        obtain ⟨k, hk⟩ : ∃ k, numU (fun i => decide (0 < V i)) 12 = k := ⟨_, rfl⟩
        have hOk : OwnB w5 G 12 12 (valN k) := hk ▸ hOw.to fun i hi => (valN_num (fun i => decide (0 < V i)) hi).symm
        rw [hk] at HSf
        have hNG : N ≤ G := Nat.le_trans HI4.out.hN hG
        have hpre : pre ++ [k] <+: L := ⟨remR (qS p m) D.reverse, by rw [← HE.out, HSf.out, List.append_assoc]⟩
        have HE5 := Lib.hid (show (pre ++ [k]) ++ remR (qS p m) D.reverse = L by rw [← HE.out, HSf.out, List.append_assoc])
        obtain ⟨fn, tmps, assign, body, hy, hR⟩ := HY.out pre k G w5 HI5.out.j hpre hNG hOk
        clear hG hOw hb hk hOk hpre HVal r0 r1 r2 r3 r4 r5 r6 r7 r8 r9 r10 r11
        gi_wp2
        refine hR.mono ?_
        rintro e W6 (⟨rfl, hj6, hk6⟩ | ⟨rfl, hjx⟩)
        · have HI6 := Lib.hid (HI5.out.body hk6 HK.out hSN hBN hj6)
          clear hj6 hk6 hR hy
          gi_wp2
          go_wp2
          go_step3
          rename_i hKK
          refine hKK _ _ ?_
          refine wp_mono (HC.out (muR D.reverse) _ _ ?_) ?_
          · exact ⟨X, D, pre ++ [k], dv, ⟨rfl, rfl, rfl, rfl, rfl⟩, HI6.out, .inr ⟨trivial, HE5.out, rfl⟩⟩
          · have hltn : muR D.reverse < n1 := by
              rw [HN1.out]
              have := aV_pos hDl
              omega
            exact Exit.jumps2_mono fun l a w ⟨n', h, hj⟩ => ⟨n', Nat.lt_trans h hltn, hj⟩
        · clear hR hy
          gi_wp2
          go_wp2
          try simp only [Exit.jumps2]
          refine bodyPost_ret (results_none rfl _ _ _) rfl ⟨⟨_, rfl⟩, .inr ⟨_, hjx⟩⟩
      · have HBe := Lib.hid hbefore
        have HVj := Lib.hid hVj
        have hj0 : (0 : Int) ≤ (j : Int) := by omega
        have hlz : litB (-((j : Int) + 1)) = true := litB_iff.2 ⟨by omega, by omega, by omega⟩
        have hext := (HRuns.out.ends fun i hi => (HOk.out i hi).1).1
        have hst : stV V (-((j : Int) + 1)) = 0 := by
          unfold stV
          rw [if_neg (by omega), show (- -((j : Int) + 1) - 1).toNat = j by omega, HVj.out]
          rfl
        have HOd := Lib.hid (okD_more HI4.out.okd hext hlz hst)
        have hlen2 := okD_len HOd.out
        rw [List.length_append, List.length_singleton] at hlen2
        have HSp := Lib.hid (sol_split (m := j) HOk.out HI4.out.okd HRuns.out hj HBe.out)
        clear hbefore hVj hlz hext hst
        go_wp2_with fail
        refine (decide_any S B N dv D ((j : Int) + 1) w4 (by omega) (by omega) (by omega) HI4.out.hN HI4.out.box HI4.out.row).mono ?_
        rintro e w5 ⟨rfl, dv', hbox, hrow, hms⟩
        have HI5 := Lib.hid (HI4.out.move HJ.out hms hbox hrow HOd.out)
        clear hbox hrow hms
        go_wp2
        go_step3
        exact ⟨.inl rfl, aV (D ++ [-((j : Int) + 1)]).length + muR (D ++ [-((j : Int) + 1)]).reverse, by rw [HN1.out]; exact mu_visit (by omega) (by omega), X, D ++ [-((j : Int) + 1)], pre, dv', ⟨rfl, rfl, rfl, rfl, rfl⟩, HI5.out, .inl ⟨rfl, by rw [← HE.out, rem_visit HSp.out], rfl⟩⟩
end Go.Proofs.Ytaenbajghblgiaa
