/- A problem under a cube: the program's side (no claim of its own). Conditions: as each theorem states. -/
import Derived.Test.YtjfcgehmeecnfaaCubP
import Derived.Test.YtjfcgehmeecnfaaCopC
import Derived.Test.YtjfcgehmeecnfaaProB
import Derived.Test.YtjfcgehmeecnfaaDsjZ
namespace Go.Proofs.Ytjfcgehmeecnfaa
open Go.ChangeShapes Go.WideShapes Go.ChangeAt Go.RowKit

/-- The clause of one literal. -/
theorem cl_one {x : Int} (h : litB x = true) : clB 1 (fun _ => x) = true ∧ clF 1 (fun _ => x) = [(1, x)] := by
  obtain ⟨h0, h1, h2⟩ := litB_iff.1 h
  have : x = -12 ∨ x = -11 ∨ x = -10 ∨ x = -9 ∨ x = -8 ∨ x = -7 ∨ x = -6 ∨ x = -5 ∨ x = -4 ∨ x = -3 ∨ x = -2 ∨ x = -1 ∨ x = 1 ∨ x = 2 ∨ x = 3 ∨ x = 4 ∨ x = 5 ∨ x = 6 ∨ x = 7 ∨ x = 8 ∨ x = 9 ∨ x = 10 ∨ x = 11 ∨ x = 12 := by omega
  rcases this with e | e | e | e | e | e | e | e | e | e | e | e | e | e | e | e | e | e | e | e | e | e | e | e <;> subst e <;> exact ⟨by decide, by decide⟩
theorem frs_eqv {w : World} {B : Nat} {A : Option Addr} {n : Nat} {c l c' l' : Nat → Int} (h : Frs w B A n c l) (he : ∀ i, i < n → c i = c' i ∧ l i = l' i) : Frs w B A n c' l' := by
  rcases h with h | ⟨G, e, hB, cs, hh, h1, h2⟩
  · exact .inl h
  · refine .inr ⟨G, e, hB, cs, hh, h1, fun i hi => ?_⟩
    rw [← (he i hi).1, ← (he i hi).2]
    exact h2 i hi

/-- A copied problem, as the beginning of the problem under a cube. -/
theorem und_grow {w : World} {B B' hi n : Nat} {ov : Value} {xs : List Value} {p : Nat → Con} {c : Nat → Int} {f : Nat → Nat} (h : GrwC w B hi ov n xs p f) (hB : B' ≤ B) : GrwC w B' hi ov n xs (undP n p c) f := by
  refine ⟨⟨h.own.1, ?_⟩, h.len, fun i hi0 => ?_, fun i j hi0 hj0 => ?_⟩
  · rcases h.own.2 with hh | ⟨g, cap, cur, e1, hg, hr⟩
    · exact .inl hh
    · exact .inr ⟨g, cap, cur, e1, by omega, hr⟩
  · rw [undP_lt hi0]
    obtain ⟨Ai, ci, a1, a2, a3⟩ := h.els i hi0
    exact ⟨Ai, ci, a1, a2, a3.imp id fun ⟨b1, b2, b3, b4⟩ => ⟨b1, by omega, b3, b4⟩⟩
  · rw [undP_lt hi0, undP_lt hj0]
    exact h.inj i j hi0 hj0

set_option maxRecDepth 100000 in
set_option maxHeartbeats 1600000 in
theorem clause1_any (x : Int) (H cap : Nat) (w : World) (hx : litB x = true) (hr : RdI w w.heap.size (some ⟨H, 0, none⟩) 1 (fun _ => x)) :
    Calls Try.prog 55 #[.slice (some ⟨H, 0, none⟩) 1 cap] w fun e w' => ∃ A' cap', e = .returned (.agg #[.slice A' 1 cap', .int .i64 1]) ∧ Frs w' w.heap.size A' 1 (fun _ => 1) (fun _ => x) ∧ Below w.heap.size w w' := by
  obtain ⟨c1, c2⟩ := cl_one hx
  have hN : clN 1 (fun _ => x) = 1 := by unfold clN; rw [c1, c2]; rfl
  have hD : clD 1 (fun _ => x) = 1 := by unfold clD; rw [c1]; rfl
  have hc := fun W (hb : Below w.heap.size w W) => implClause_any (some ⟨H, 0, none⟩) 1 cap (fun _ => x) W (by omega) (hr.later hb)
  rw [hN, hD, c1, c2] at hc
  have HC := Lib.hid hc
  clear hN hD c1 c2 hr hc
  go_enter Try.func55, Try.ntmps55
  go_wp2_with fail
  refine (HC.out _ (bl_alloc (Below.refl _ _) _)).mono ?_
  rintro e w1 ⟨A1, cap1, rfl, hF, hb⟩
  have HF := Lib.hid hF
  have HB := Lib.hid (bl_trans (bl_alloc (Below.refl w.heap.size w) _) hb)
  have r0 : w1.cell? ⟨w.heap.size, 0, none⟩ = some (.slice none 0 0) := kc hb (by go_simp)
  have r1 : w1.cell? ⟨w.heap.size, 1, none⟩ = some (.int .i64 0) := kc hb (by go_simp)
  have f0 : w1.frozen? ⟨w.heap.size, 0, none⟩ = false := kf hb (by simp) (by go_simp)
  have f1 : w1.frozen? ⟨w.heap.size, 1, none⟩ = false := kf hb (by simp) (by go_simp)
  have hz : w.heap.size < w1.heap.size := World.block_lt_of_cell? w1 ⟨w.heap.size, 0, none⟩ r0
  have HAl := Lib.hid (bl_alloc (Below.refl w1.heap.size w1) (.cells #[.slice A1 1 cap1, .int .i64 1] 69))
  have s0 := kc HAl.out r0
  have s1 := kc HAl.out r1
  have g0 := kf HAl.out (p := ⟨w.heap.size, 0, none⟩) hz f0
  have g1 := kf HAl.out (p := ⟨w.heap.size, 1, none⟩) hz f1
  clear hF hb HC
  go_wp2
  refine bodyPost_ret (v := .agg #[.slice A1 1 cap1, .int .i64 1]) (by simp [results, Try.results55, go_sem, r0, r1, hz]) rfl ?_
  refine ⟨A1, cap1, rfl, ?_, bl_alloc ((HB.out.setCell (by simp) _).setCell (by simp) _) _⟩
  exact frs_eqv (((((HF.out.far' (by simp) (by simp) _).far' (by simp) (by simp) _).below (bl_alloc (Below.refl _ _) _)).more (by simp))) (fun i hi => by
    obtain rfl : i = 0 := by omega
    exact ⟨rfl, rfl⟩)

/-- An int that has just been laid as a slice of one. -/
theorem rdi_new (W : World) (x : Int) : RdI (W.alloc (.cells #[.int .i64 x] 3)) (W.alloc (.cells #[.int .i64 x] 3)).heap.size (some ⟨W.heap.size, 0, none⟩) 1 (fun _ => x) := fun _ => by
  refine ⟨W.heap.size, 0, rfl, by simp, fun i hi => ?_⟩
  obtain rfl : i = 0 := by omega
  exact (cell_of_row _ W.heap.size _ _ _ _ (heap_alloc_new W _)).trans rfl

set_option linter.unusedVariables false in
set_option maxRecDepth 100000 in
set_option maxHeartbeats 3200000 in
theorem implUnd_any (A Ak : Option Addr) (n cap m capk : Nat) (p : Nat → Con) (c : Nat → Int) (w : World) (hn : n ≤ 1048576) (hn' : ∀ i, i < n → (p i).n ≤ 1048576) (hm : m ≤ 1048576) (hr : RdPc w w.heap.size A n p) (hrk : RdI w w.heap.size Ak m c) :
    Calls Try.prog 25 #[.slice A n cap, .slice Ak m capk] w (UndRes w n p m c) := by
  have Hpr := Lib.hid (implProblem_any A n cap p w hn hn' hr.rd)
  cases hv : probB n p with
  | false =>
    have Hfin := Lib.hid (und_no (m := m) (c := c) (.inl hv))
    rw [hv] at Hpr
    clear hv hr hn'
    go_enter Try.func25, Try.ntmps25
    go_wp2_with fail
    refine Hpr.out.mono ?_
    rintro e w1 ⟨rfl, hb⟩
    have HB1 := Lib.hid hb
    clear hb
    go_wp2
    go_ret2
    exact undRes_no Hfin.out HB1.out
  | true =>
    rw [hv] at Hpr
    have hn4 := prob_400 hv
    cases hkp : cubeB m c with
    | false =>
      have Hfin := Lib.hid (und_no (n := n) (p := p) (.inr (.inl hkp)))
      have Hkp := Lib.hid hkp
      clear hv hr hn' hkp
      go_enter Try.func25, Try.ntmps25
      go_wp2_with fail
      refine Hpr.out.mono ?_
      rintro e w1 ⟨rfl, hb⟩
      have HB1 := Lib.hid hb
      clear hb
      go_wp2_with fail
      refine (isCube_any Ak m capk c _ hm (hrk.later HB1.out)).mono ?_
      rintro e w2 ⟨rfl, hb⟩
      rw [Hkp.out]
      have HB2 := Lib.hid (bl_trans HB1.out hb)
      clear hb
      go_wp2
      go_ret2
      exact undRes_no Hfin.out HB2.out
    | true =>
      have hm4 := (cube_parts hkp).2.2
      by_cases h400 : n + m ≤ 400
      · have Hfin := Lib.hid (und_yes hv hkp h400)
        have HL := Lib.hid (cube_parts hkp).1
        have Hkp := Lib.hid hkp
        have HN := Lib.hid hn'
        have HR := Lib.hid hr
        have HRk := Lib.hid hrk
        have h4 : ¬ (400 : Int) < (n : Int) + (m : Int) := by omega
        clear hv hr hn' hkp hrk
        go_enter Try.func25, Try.ntmps25
        go_wp2_with fail
        refine Hpr.out.mono ?_
        rintro e w1 ⟨rfl, hb⟩
        have HB1 := Lib.hid hb
        clear hb
        go_wp2_with fail
        refine (isCube_any Ak m capk c _ hm (HRk.out.later HB1.out)).mono ?_
        rintro e w2 ⟨rfl, hb⟩
        rw [Hkp.out]
        have HB2 := Lib.hid (bl_trans HB1.out hb)
        clear hb
        go_wp2_with fail
        refine (copied_any A n cap p _ (by omega) HN.out (HR.out.later HB2.out)).mono ?_
        rintro e w3 ⟨ov3, xs3, f3, rfl, hg, hb⟩
        have HG3 := Lib.hid (und_grow (c := c) hg HB2.out.size)
        have HB3 := Lib.hid (bl_trans HB2.out hb)
        clear hb hg
        go_wp2
        go_loopw [6, 29] (fun ov i wq => ∃ (j hi : Nat) (xs : List Value) (f : Nat → Nat), j ≤ m ∧ i = .int .i64 j ∧ GrwC wq w.heap.size hi ov (n + j) xs (undP n p c) f ∧ w.heap.size ≤ hi ∧ hi ≤ wq.heap.size ∧ Below w.heap.size w wq) (fun _ i _ => m - (intOf i).toNat)
        case atStart => exact ⟨0, w3.heap.size, xs3, f3, Nat.zero_le _, rfl, HG3.out, HB3.out.size, Nat.le_refl _, HB3.out⟩
        case round =>
          obtain ⟨j, hi, xs, f, hj, rfl, hg, h1, h2, hb⟩ := hrel
          have HG := Lib.hid hg
          have HB := Lib.hid hb
          clear hg hb HG3 HB3
          by_cases hlt : j < m
          · obtain ⟨bk, offk, rfl, _, hck⟩ := (HRk.out.below HB.out) (by omega)
            have hc0 := hck j hlt
            have HU := Lib.hid (show undP n p c (n + j) = unC (c j) from undP_ge j)
            have HLj := Lib.hid (litR_at HL.out hlt)
            have HAl := Lib.hid (bl_alloc (Below.refl wr.heap.size wr) (.cells #[.int .i64 (c j)] 3))
            have HRn := Lib.hid (rdi_new wr (c j))
            clear hck
            go_wp2_with fail
            refine (clause1_any (c j) _ _ _ HLj.out HRn.out).mono ?_
            rintro e w4 ⟨A4, cap4, rfl, hF, hb⟩
            have hb4 := bl_trans HAl.out hb
            have HAl2 := Lib.hid (bl_alloc (Below.refl w4.heap.size w4) (.cells #[.slice A4 1 cap4, .int .i64 1] 69))
            have HG4 := Lib.hid ((HG.out.below hb4).below HAl2.out)
            have HF4 := Lib.hid ((hF.below HAl2.out).more (show hi ≤ _ from Nat.le_trans h2 HAl.out.size))
            have HB4 := Lib.hid (bl_trans (bl_trans HB.out hb4) HAl2.out)
            have HS4 := Lib.hid (Nat.le_trans (Nat.le_trans h2 hb4.size) HAl2.out.size)
            clear hF hb hb4 HG HB HAl HRn hc0
            go_wp2_with (at_builtin; refine wpList_plain (by rfl) fun K' hK' => ?_; refine wp_grw1 (A := A4) (cap := cap4) _ _ (by rfl) HG4.out h1 HS4.out (by rfl) (by rfl) (by rw [HU.out]; exact heap_alloc_new _ _) (by rw [HU.out]; exact HF4.out) (by omega) ?_; intro gg cap2 w5 zs f5 hg5 hgr5; have HG5 := Lib.hid hg5; have HB5 := Lib.hid (HB4.out.grown hgr5 HB4.out.size (fun j e => (HG4.out.lt j e).1)); clear hg5 hgr5; refine hK' _ _ ?_; clear hK' K')
            go_roundw
            case rel => exact ⟨j + 1, _, zs, f5, by omega, by go_num, HG5.out, HB5.out.size, Nat.le_refl _, HB5.out⟩
            case measure => simp [intOf]; omega
          · have e : j = m := by omega
            subst e
            obtain ⟨A1, cap1, rfl, hF⟩ := HG.out.fin
            have HF := Lib.hid hF
            clear hF HG
            go_wp2
            go_ret2
            exact undRes_yes Hfin.out HF.out HB.out
      · have Hfin := Lib.hid (und_no (n := n) (p := p) (m := m) (c := c) (.inr (.inr h400)))
        have Hkp := Lib.hid hkp
        have h4 : (400 : Int) < (n : Int) + (m : Int) := by omega
        clear hv hr hn' hkp
        go_enter Try.func25, Try.ntmps25
        go_wp2_with fail
        refine Hpr.out.mono ?_
        rintro e w1 ⟨rfl, hb⟩
        have HB1 := Lib.hid hb
        clear hb
        go_wp2_with fail
        refine (isCube_any Ak m capk c _ hm (hrk.later HB1.out)).mono ?_
        rintro e w2 ⟨rfl, hb⟩
        rw [Hkp.out]
        have HB2 := Lib.hid (bl_trans HB1.out hb)
        clear hb
        go_wp2
        go_ret2
        exact undRes_no Hfin.out HB2.out
end Go.Proofs.Ytjfcgehmeecnfaa
