/- Contracts of the reference's and the program's FixPartial (no claim of its own). Conditions: as each theorem states. -/
import Derived.Test.YtbebdhjhlheboaaFixB
namespace Go.Proofs.Ytbebdhjhlheboaa
open Go.ChangeShapes Go.WideShapes Go.ChangeAt Go.RowKit

/-- What FixPartial leaves. -/
def FixRes (w : World) (N : Nat) (ok : Bool) (q : Nat → Con) (e : Ending) (w' : World) : Prop :=
  ∃ A cap, e = .returned (.tuple #[.slice A N cap, .bool ok]) ∧ FrC w' w.heap.size A N q ∧ Below w.heap.size w w'
theorem fixRes_no {w w' : World} {N : Nat} {ok : Bool} {q : Nat → Con} {A : Option Addr} {cap : Nat} (h : ok = false ∧ N = 0) (hb : Below w.heap.size w w') : FixRes w N ok q (.returned (.tuple #[.slice A 0 cap, .bool false])) w' :=
  ⟨A, cap, by rw [h.1, h.2], by rw [h.2]; exact frc_nil _ _ _ _, hb⟩
theorem fixRes_yes {w w' : World} {N n : Nat} {ok : Bool} {q : Nat → Con} {A : Option Addr} {cap : Nat} (h : ok = true ∧ N = n) (hF : FrC w' w.heap.size A n q) (hb : Below w.heap.size w w') : FixRes w N ok q (.returned (.tuple #[.slice A n cap, .bool true])) w' :=
  ⟨A, cap, by rw [h.1, h.2], by rw [h.2]; exact hF, hb⟩

set_option linter.unusedVariables false in
set_option maxRecDepth 100000 in
set_option maxHeartbeats 3200000 in
theorem specFix_any (A Av : Option Addr) (n cap nv capv : Nat) (p : Nat → Con) (v : Nat → Int) (w : World) (hn : n ≤ 1048576) (hn' : ∀ i, i < n → (p i).n ≤ 1048576) (hnv : nv ≤ 1048576) (hr : RdP w w.heap.size A n p) (hrv : RdI w w.heap.size Av nv v) :
    Calls Try.prog 12 #[.slice A n cap, .slice Av nv capv] w (FixRes w (fixN n p nv v) (fixOk n p nv v) (fixK p v)) := by
  have Hpr := Lib.hid (specProblem_any A n cap p w hn hn' hr)
  cases hv : probB n p with
  | false =>
    have Hfin := Lib.hid (fix_no (m := nv) (v := v) (.inl hv))
    rw [hv] at Hpr
    clear hv hr hn'
    go_enter Try.func12, Try.ntmps12
    go_wp2_with fail
    refine Hpr.out.mono ?_
    rintro e w1 ⟨rfl, hb⟩
    have HB1 := Lib.hid hb
    clear hb
    go_wp2
    go_ret2
    exact fixRes_no Hfin.out (bl_alloc HB1.out _)
  | true =>
    rw [hv] at Hpr
    have hn4 := prob_400 hv
    have HV := Lib.hid (prob_V hv)
    cases hkp : pvB nv v with
    | false =>
      have Hfin := Lib.hid (fix_no (n := n) (p := p) (.inr hkp))
      have Hkp := Lib.hid hkp
      clear hv hr hn' hkp
      go_enter Try.func12, Try.ntmps12
      go_wp2_with fail
      refine Hpr.out.mono ?_
      rintro e w1 ⟨rfl, hb⟩
      have HB1 := Lib.hid hb
      clear hb
      go_wp2_with fail
      refine (specPartial_any _ _ _ v _ hnv (hrv.later HB1.out)).mono ?_
      rintro e w2 ⟨rfl, hw⟩
      replace hw := hw.symm
      subst hw
      rw [Hkp.out]
      go_wp2
      go_ret2
      exact fixRes_no Hfin.out (bl_alloc HB1.out _)
    | true =>
      obtain ⟨rfl, hvv⟩ := pvB_iff.1 hkp
      have Hvv := Lib.hid hvv
      have Hfin := Lib.hid (fix_yes hv hkp)
      have Hkp := Lib.hid hkp
      have HN := Lib.hid hn'
      have HR := Lib.hid hr
      have HRv := Lib.hid hrv
      clear hv hr hn' hkp hrv hvv
      go_enter Try.func12, Try.ntmps12
      go_wp2_with fail
      refine Hpr.out.mono ?_
      rintro e w1 ⟨rfl, hb⟩
      have HB1 := Lib.hid hb
      clear hb
      go_wp2_with fail
      refine (specPartial_any _ _ _ v _ hnv (HRv.out.later HB1.out)).mono ?_
      rintro e w2 ⟨rfl, hw⟩
      rw [Hkp.out]
      replace hw := hw.symm
      subst hw
      have HB2 := HB1
      have HG0 := Lib.hid (grw_lit w1 w1.heap.size (fixK p v) (fun _ => 0))
      go_wp2
      go_loopw [6, 7] (fun ov i wr => ∃ (k hi : Nat) (xs : List Value) (f : Nat → Nat), k ≤ n ∧ i = .int .i64 k ∧ GrwC wr w1.heap.size hi ov k xs (fixK p v) f ∧ w1.heap.size ≤ hi ∧ hi ≤ wr.heap.size ∧ Below w.heap.size w wr) (fun _ i _ => n - (intOf i).toNat)
      case atStart => exact ⟨0, w1.heap.size, [], fun _ => 0, Nat.zero_le _, rfl, HG0.out, Nat.le_refl _, by simp, bl_alloc HB2.out _⟩
      case round =>
        obtain ⟨k, hi, xs, f, hk, rfl, hg, h1, h2, hb⟩ := hrel
        have HG := Lib.hid hg
        have HB := Lib.hid hb
        clear hg hb HG0
        by_cases hlt : k < n
        · obtain ⟨b, off, rfl, _, hc⟩ := (HR.out.later HB.out) (by omega)
          obtain ⟨Ai, ci, hx0, hx1, hrq⟩ := hc k hlt
          have hq := HN.out k hlt
          have hvk := allV_at HV.out hlt
          have HRQ := Lib.hid hrq
          clear hc hrq
          go_wp2_with fail
          refine (l13Fix_any Ai _ _ ci _ _ _ _ v _ hq HRQ.out (HRv.out.later HB.out) hvk Hvv.out).mono ?_
          rintro e w3 ⟨A1, cap1, rfl, hF, hb1⟩
          have hF1 : Frs w3 wr.heap.size A1 (fixK p v k).n (fixK p v k).c (fixK p v k).l := hF
          have e1 : (fxCon v ⟨(p k).n, (p k).bd, (p k).c, (p k).l⟩) = fixK p v k := rfl
          rw [e1]
          clear e1 hF hvk
          have HAl := Lib.hid (bl_alloc (Below.refl w3.heap.size w3) (.cells #[.slice A1 (fixK p v k).n cap1, .int .i64 (fixK p v k).bd] 55))
          have HG1 := Lib.hid ((HG.out.below hb1).below HAl.out)
          have HF1 := Lib.hid ((hF1.below HAl.out).more h2)
          have HB1 := Lib.hid (bl_trans (bl_trans HB.out hb1) HAl.out)
          have hs1 : hi ≤ (w3.alloc (.cells #[.slice A1 (fixK p v k).n cap1, .int .i64 (fixK p v k).bd] 55)).heap.size := Nat.le_trans (Nat.le_trans h2 hb1.size) HAl.out.size
          have HS1 := Lib.hid hs1
          clear hF1 hb1 hs1 HG HB hx0 hx1 HRQ
          go_wp2_with (at_builtin; refine wpList_plain (by rfl) fun K' hK' => ?_; refine wp_grw1 _ _ (by rfl) HG1.out h1 HS1.out (by rfl) (by rfl) (heap_alloc_new _ _) HF1.out (by omega) ?_; intro gg cap2 w4 zs f4 hg4 hgr4; have HG4 := Lib.hid hg4; have HB4 := Lib.hid (HB1.out.grown hgr4 HB1.out.size (fun j e => Nat.le_trans HB2.out.size (HG1.out.lt j e).1)); have HZ4 := Lib.hid hgr4.size; clear hg4 hgr4; refine hK' _ _ ?_; clear hK' K')
          go_roundw
          case rel => exact ⟨k + 1, _, zs, f4, by omega, by go_num, HG4.out, Nat.le_trans h1 (Nat.le_trans HS1.out (by exact HZ4.out)), Nat.le_refl _, HB4.out⟩
          case measure => simp [intOf]; omega
        · have e : k = n := by omega
          subst e
          obtain ⟨A1, cap1, rfl, hF⟩ := HG.out.fin
          have HF := Lib.hid (hF.more HB2.out.size)
          clear hF HG
          go_wp2
          go_ret2
          exact fixRes_yes Hfin.out HF.out HB.out
end Go.Proofs.Ytbebdhjhlheboaa
