/- Contracts of the program's FixPartial (no claim of its own). Conditions: as each theorem states. -/
import Derived.Test.YtbebdhjhlheboaaFixP
import Derived.Test.YtbebdhjhlheboaaSlkB
namespace Go.Proofs.Ytbebdhjhlheboaa
open Go.ChangeShapes Go.WideShapes Go.ChangeAt Go.RowKit Go.Shelf

set_option linter.unusedVariables false in
set_option maxRecDepth 100000 in
set_option maxHeartbeats 3200000 in
theorem implFix_any (A Av : Option Addr) (n cap nv capv : Nat) (p : Nat → Con) (v : Nat → Int) (w : World) (hn : n ≤ 1048576) (hn' : ∀ i, i < n → (p i).n ≤ 1048576) (hnv : nv ≤ 1048576) (hr : RdP w w.heap.size A n p) (hrv : RdI w w.heap.size Av nv v) :
    Calls Try.prog 15 #[.slice A n cap, .slice Av nv capv] w (FixRes w (fixN n p nv v) (fixOk n p nv v) (fixK p v)) := by
  have Hpr := Lib.hid (implProblem_any A n cap p w hn hn' hr)
  cases hv : probB n p with
  | false =>
    have Hfin := Lib.hid (fix_no (m := nv) (v := v) (.inl hv))
    rw [hv] at Hpr
    clear hv hr hn'
    go_enter Try.func15, Try.ntmps15
    go_wp2_with fail
    refine Hpr.out.mono ?_
    rintro e w1 ⟨rfl, hb⟩
    have HB1 := Lib.hid hb
    clear hb
    go_wp2
    go_ret2
    exact fixRes_no Hfin.out HB1.out
  | true =>
    rw [hv] at Hpr
    have hn4 := prob_400 hv
    have HV := Lib.hid (prob_V hv)
    cases hkp : pvB nv v with
    | false =>
      have Hfin := Lib.hid (fix_no (n := n) (p := p) (.inr hkp))
      have Hkp := Lib.hid hkp
      clear hv hr hn' hkp
      go_enter Try.func15, Try.ntmps15
      go_wp2_with fail
      refine Hpr.out.mono ?_
      rintro e w1 ⟨rfl, hb⟩
      have HB1 := Lib.hid hb
      clear hb
      go_wp2_with fail
      refine (implPartial_any _ _ _ v _ hnv (hrv.later HB1.out)).mono ?_
      rintro e w2 ⟨rfl, hw⟩
      replace hw := hw.symm
      subst hw
      rw [Hkp.out]
      go_wp2
      go_ret2
      exact fixRes_no Hfin.out HB1.out
    | true =>
      obtain ⟨rfl, hvv⟩ := pvB_iff.1 hkp
      have Hvv := Lib.hid hvv
      have Hfin := Lib.hid (fix_yes hv hkp)
      have Hkp := Lib.hid hkp
      have HN := Lib.hid hn'
      have HR := Lib.hid hr
      clear hv hr hn' hkp hvv
      go_enter Try.func15, Try.ntmps15
      go_wp2_with fail
      refine Hpr.out.mono ?_
      rintro e w1 ⟨rfl, hb⟩
      have HB1 := Lib.hid hb
      clear hb
      go_wp2_with fail
      refine (implPartial_any _ _ _ v _ hnv (hrv.later HB1.out)).mono ?_
      rintro e w2 ⟨rfl, hw⟩
      rw [Hkp.out]
      replace hw := hw.symm
      subst hw
      obtain ⟨b, off, rfl, hbl, hc⟩ := (hrv.later HB1.out) (by omega)
      have c0 : w1.cell? ⟨b, off, none⟩ = some (.int .i64 (v 0)) := by simpa using hc 0 (by omega)
      have c1 : w1.cell? ⟨b, off + 1, none⟩ = some (.int .i64 (v 1)) := hc 1 (by omega)
      have c2 : w1.cell? ⟨b, off + 2, none⟩ = some (.int .i64 (v 2)) := hc 2 (by omega)
      have c3 : w1.cell? ⟨b, off + 3, none⟩ = some (.int .i64 (v 3)) := hc 3 (by omega)
      have c4 : w1.cell? ⟨b, off + 4, none⟩ = some (.int .i64 (v 4)) := hc 4 (by omega)
      have c5 : w1.cell? ⟨b, off + 5, none⟩ = some (.int .i64 (v 5)) := hc 5 (by omega)
      have c6 : w1.cell? ⟨b, off + 6, none⟩ = some (.int .i64 (v 6)) := hc 6 (by omega)
      have c7 : w1.cell? ⟨b, off + 7, none⟩ = some (.int .i64 (v 7)) := hc 7 (by omega)
      have c8 : w1.cell? ⟨b, off + 8, none⟩ = some (.int .i64 (v 8)) := hc 8 (by omega)
      have c9 : w1.cell? ⟨b, off + 9, none⟩ = some (.int .i64 (v 9)) := hc 9 (by omega)
      have c10 : w1.cell? ⟨b, off + 10, none⟩ = some (.int .i64 (v 10)) := hc 10 (by omega)
      have c11 : w1.cell? ⟨b, off + 11, none⟩ = some (.int .i64 (v 11)) := hc 11 (by omega)
      have hat : ∀ W, (Instr.arrayAt 72 (.slice (some ⟨b, off, none⟩) 12 capv)).run Try.prog W = .ok (.pointer (some ⟨b, off, none⟩)) W := fun W => run_arrayAt W 72 _ 12 _ 12 capv Try.underlying72 (Nat.le_refl _)
      have HEc := Lib.hid (eachChanged_any 48 (arrV v) A n cap p (fixK p v) w1 hn4 (HR.out.later HB1.out)
        (enters_of Try.func48 (by kernel_rfl) rfl)
        (fun k Ai ci X hk hrd => fixed_any Ai (p k).n ci (p k).bd (p k).c (p k).l v X (HN.out k hk) hrd (allV_at HV.out hk) Hvv.out))
      unfold arrV cells12 at HEc
      clear hc hrv
      go_wp2_with fail
      refine HEc.out.mono ?_
      rintro e w3 ⟨G, rfl, hG, hF, hb⟩
      have HF := Lib.hid (hF.more HB1.out.size)
      have HB3 := Lib.hid (bl_trans HB1.out hb)
      clear hF hb HEc c0 c1 c2 c3 c4 c5 c6 c7 c8 c9 c10 c11
      go_wp2
      go_ret2
      exact fixRes_yes Hfin.out HF.out HB3.out
end Go.Proofs.Ytbebdhjhlheboaa
