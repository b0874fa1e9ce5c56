/- Contracts of the reference's and the program's SubProblem (no claim of its own). Conditions: as each theorem states. -/
import Derived.Test.YtnglpbfoeiahlaaSubA
import Derived.Test.YtnglpbfoeiahlaaCpyC
import Derived.Test.YtnglpbfoeiahlaaMkCs
namespace Go.Proofs.Ytnglpbfoeiahlaa
open Go.ChangeShapes Go.WideShapes Go.ChangeAt Go.RowKit

/-- What SubProblem leaves. -/
def SubRes (w : World) (n : Nat) (p : Nat → Con) (nk : Nat) (c : Nat → Int) (e : Ending) (w' : World) : Prop :=
  ∃ A cap, e = .returned (.tuple #[.slice A (subN n p nk c) cap, .bool (subOk n p nk c)]) ∧ FrC w' w.heap.size A (subN n p nk c) (subK p c) ∧ Below w.heap.size w w'
theorem subRes_no {w w' : World} {n : Nat} {p : Nat → Con} {nk : Nat} {c : Nat → Int} {A : Option Addr} {cap : Nat} (h : subOk n p nk c = false ∧ subN n p nk c = 0) (hb : Below w.heap.size w w') : SubRes w n p nk c (.returned (.tuple #[.slice A 0 cap, .bool false])) w' :=
  ⟨A, cap, by rw [h.1, h.2], by rw [h.2]; exact frc_nil _ _ _ _, hb⟩
theorem subRes_yes {w w' : World} {n : Nat} {p : Nat → Con} {nk : Nat} {c : Nat → Int} {A : Option Addr} {cap : Nat} (h : subOk n p nk c = true ∧ subN n p nk c = nk) (hF : FrC w' w.heap.size A nk (subK p c)) (hb : Below w.heap.size w w') : SubRes w n p nk c (.returned (.tuple #[.slice A nk cap, .bool true])) w' :=
  ⟨A, cap, by rw [h.1, h.2], by rw [h.2]; exact hF, hb⟩
/-- The constraint at index c k of what came in. -/
theorem sub_at {w : World} {A : Option Addr} {n nk k : Nat} {p : Nat → Con} {c : Nat → Int} (hr : RdPc w w.heap.size A n p) (hk : keepB c n nk = true) (hlt : k < nk) :
    ∃ (J : Nat) (b off : Nat) (Ai : Option Addr) (ci : Nat), c k = (J : Int) ∧ J < n ∧ A = some ⟨b, off, none⟩ ∧ w.cell? ⟨b, off + J * 2, none⟩ = some (.slice Ai (subK p c k).n ci) ∧ w.cell? ⟨b, off + J * 2 + 1, none⟩ = some (.int .i64 (subK p c k).bd) ∧ Rd w w.heap.size Ai (subK p c k).n (subK p c k).c (subK p c k).l ∧ (Ai = none → ci = 0) := by
  obtain ⟨h1, h2⟩ := keep_ge hk hlt
  obtain ⟨b, off, e, _, hc⟩ := hr (by omega)
  obtain ⟨Ai, ci, a1, a2, a3, a4⟩ := hc (c k).toNat (by omega)
  exact ⟨(c k).toNat, b, off, Ai, ci, by omega, by omega, e, a1, a2, a3, a4⟩

set_option linter.unusedVariables false in
set_option maxRecDepth 100000 in
set_option maxHeartbeats 3200000 in
theorem l11Sub_any (A Ak : Option Addr) (n cap nk capk : Nat) (p : Nat → Con) (c : Nat → Int) (w : World) (hn : n ≤ 400) (hn' : ∀ i, i < n → (p i).n ≤ 1048576) (hkp : keepB c n nk = true) (hr : RdPc w w.heap.size A n p) (hrk : RdI w w.heap.size Ak nk c) :
    Calls Try.prog 52 #[.slice A n cap, .slice Ak nk capk] w fun e w' => ∃ A' cap', e = .returned (.slice A' nk cap') ∧ FrC w' w.heap.size A' nk (subK p c) ∧ Below w.heap.size w w' := by
  have hnk := keep_le hkp
  have HK := Lib.hid hkp
  have HN := Lib.hid hn'
  have HR := Lib.hid hr
  have HRk := Lib.hid hrk
  have HG0 := Lib.hid (grw_lit w w.heap.size (subK p c) (fun _ => 0))
  clear hkp hn' hr hrk
  go_enter Try.func52, Try.ntmps52
  go_wp2
  go_loopw [5, 6] (fun ov i wr => ∃ (k hi : Nat) (xs : List Value) (f : Nat → Nat), k ≤ nk ∧ i = .int .i64 k ∧ GrwC wr w.heap.size hi ov k xs (subK p c) f ∧ w.heap.size ≤ hi ∧ hi ≤ wr.heap.size ∧ Below w.heap.size w wr) (fun _ i _ => nk - (intOf i).toNat)
  case atStart => exact ⟨0, w.heap.size, [], fun _ => 0, Nat.zero_le _, rfl, HG0.out, Nat.le_refl _, by simp, bl_alloc (Below.refl _ _) _⟩
  case round =>
    obtain ⟨k, hi, xs, f, hk, rfl, hg, h1, h2, hb⟩ := hrel
    have HG := Lib.hid hg
    have HB := Lib.hid hb
    clear hg hb HG0
    by_cases hlt : k < nk
    · obtain ⟨bk, offk, rfl, _, hck⟩ := (HRk.out.below HB.out) (by omega)
      have hc0 := hck k hlt
      obtain ⟨J, b, off, Ai, ci, hJ, hJn, rfl, hx0, hx1, hrq, hcq⟩ := sub_at (HR.out.later HB.out) HK.out hlt
      rw [hJ] at hc0
      have hq : (subK p c k).n ≤ 1048576 := by
        have e : subK p c k = p J := by unfold subK; rw [hJ]; rfl
        rw [e]
        exact HN.out J hJn
      have HRQ := Lib.hid hrq
      have HCQ := Lib.hid hcq
      clear hck hrq hcq hJ
      go_wp2_with fail
      refine (copyC_any Ai _ ci _ _ _ _ hq HRQ.out HCQ.out).mono ?_
      rintro e w1 ⟨A1, cap1, rfl, hF, hb1⟩
      have HAl := Lib.hid (bl_alloc (Below.refl w1.heap.size w1) (.cells #[.slice A1 (subK p c k).n cap1, .int .i64 (subK p c k).bd] 71))
      have HG1 := Lib.hid ((HG.out.below hb1).below HAl.out)
      have HF1 := Lib.hid ((hF.below HAl.out).more h2)
      have HB1 := Lib.hid (bl_trans (bl_trans HB.out hb1) HAl.out)
      have hs1 : hi ≤ (w1.alloc (.cells #[.slice A1 (subK p c k).n cap1, .int .i64 (subK p c k).bd] 71)).heap.size := Nat.le_trans (Nat.le_trans h2 hb1.size) HAl.out.size
      have HS1 := Lib.hid hs1
      clear hF hb1 hs1 HG HB hx0 hx1 hc0 HRQ HCQ
      go_wp2_with (at_builtin; refine wpList_plain (by rfl) fun K' hK' => ?_; refine wp_grw1 _ _ (by rfl) HG1.out h1 HS1.out (by rfl) (by rfl) (heap_alloc_new _ _) HF1.out (by omega) ?_; intro gg cap2 w4 zs f4 hg4 hgr4; have HG4 := Lib.hid hg4; have HB4 := Lib.hid (HB1.out.grown hgr4 HB1.out.size (fun j e => (HG1.out.lt j e).1)); clear hg4 hgr4; refine hK' _ _ ?_; clear hK' K')
      go_roundw
      case rel => exact ⟨k + 1, _, zs, f4, by omega, by go_num, HG4.out, HB4.out.size, Nat.le_refl _, HB4.out⟩
      case measure => simp [intOf]; omega
    · have e : k = nk := by omega
      subst e
      obtain ⟨A1, cap1, rfl, hF⟩ := HG.out.fin
      have HF := Lib.hid hF
      clear hF HG
      go_wp2
      go_ret
      exact ⟨A1, cap1, rfl, HF.out, HB.out⟩

set_option linter.unusedVariables false in
set_option maxRecDepth 100000 in
set_option maxHeartbeats 3200000 in
theorem specSub_any (A Ak : Option Addr) (n cap nk capk : Nat) (p : Nat → Con) (c : Nat → Int) (w : World) (hn : n ≤ 1048576) (hn' : ∀ i, i < n → (p i).n ≤ 1048576) (hnk : nk ≤ 1048576) (hr : RdPc w w.heap.size A n p) (hrk : RdI w w.heap.size Ak nk c) :
    Calls Try.prog 25 #[.slice A n cap, .slice Ak nk capk] w (SubRes w n p nk c) := by
  have Hpr := Lib.hid (specProblem_any A n cap p w hn hn' hr.rd)
  cases hv : probB n p with
  | false =>
    have Hfin := Lib.hid (subN_no (nk := nk) (c := c) (.inl hv))
    rw [hv] at Hpr
    clear hv hr hn'
    go_enter Try.func25, Try.ntmps25
    go_wp2_with fail
    refine Hpr.out.mono ?_
    rintro e w1 ⟨rfl, hb⟩
    have HB1 := Lib.hid hb
    clear hb
    go_wp2
    go_ret2
    exact subRes_no Hfin.out (bl_alloc HB1.out _)
  | true =>
    rw [hv] at Hpr
    have hn4 := prob_400 hv
    cases hkp : keepB c n nk with
    | false =>
      have Hfin := Lib.hid (subN_no (p := p) (.inr hkp))
      have Hkp := Lib.hid hkp
      clear hv hr hn' hkp
      go_enter Try.func25, Try.ntmps25
      go_wp2_with fail
      refine Hpr.out.mono ?_
      rintro e w1 ⟨rfl, hb⟩
      have HB1 := Lib.hid hb
      clear hb
      go_wp2_with fail
      refine (l11Keep_any Ak nk capk n c _ hnk hn (hrk.later HB1.out)).mono ?_
      rintro e w2 ⟨rfl, hb⟩
      rw [Hkp.out]
      have HB2 := Lib.hid (bl_trans HB1.out hb)
      clear hb
      go_wp2
      go_ret2
      exact subRes_no Hfin.out (bl_alloc HB2.out _)
    | true =>
      have Hfin := Lib.hid (subN_yes hv hkp)
      have Hkp := Lib.hid hkp
      have HN := Lib.hid hn'
      have HR := Lib.hid hr
      have HRk := Lib.hid hrk
      clear hv hr hn' hkp hrk
      go_enter Try.func25, Try.ntmps25
      go_wp2_with fail
      refine Hpr.out.mono ?_
      rintro e w1 ⟨rfl, hb⟩
      have HB1 := Lib.hid hb
      clear hb
      go_wp2_with fail
      refine (l11Keep_any Ak nk capk n c _ hnk hn (HRk.out.later HB1.out)).mono ?_
      rintro e w2 ⟨rfl, hb⟩
      rw [Hkp.out]
      have HB2 := Lib.hid (bl_trans HB1.out hb)
      clear hb
      go_wp2_with fail
      refine (l11Sub_any A Ak n cap nk capk p c _ hn4 HN.out Hkp.out (HR.out.later HB2.out) (HRk.out.later HB2.out)).mono ?_
      rintro e w3 ⟨A3, cap3, rfl, hF, hb⟩
      have HF := Lib.hid (hF.more HB2.out.size)
      have HB3 := Lib.hid (bl_trans HB2.out hb)
      clear hb hF
      go_wp2
      go_ret2
      exact subRes_yes Hfin.out HF.out HB3.out

set_option linter.unusedVariables false in
set_option maxRecDepth 100000 in
set_option maxHeartbeats 3200000 in
theorem implSub_any (A Ak : Option Addr) (n cap nk capk : Nat) (p : Nat → Con) (c : Nat → Int) (w : World) (hn : n ≤ 1048576) (hn' : ∀ i, i < n → (p i).n ≤ 1048576) (hnk : nk ≤ 1048576) (hr : RdPc w w.heap.size A n p) (hrk : RdI w w.heap.size Ak nk c) :
    Calls Try.prog 27 #[.slice A n cap, .slice Ak nk capk] w (SubRes w n p nk c) := by
  have Hpr := Lib.hid (implProblem_any A n cap p w hn hn' hr.rd)
  cases hv : probB n p with
  | false =>
    have Hfin := Lib.hid (subN_no (nk := nk) (c := c) (.inl hv))
    rw [hv] at Hpr
    clear hv hr hn'
    go_enter Try.func27, Try.ntmps27
    go_wp2_with fail
    refine Hpr.out.mono ?_
    rintro e w1 ⟨rfl, hb⟩
    have HB1 := Lib.hid hb
    clear hb
    go_wp2
    go_ret2
    exact subRes_no Hfin.out HB1.out
  | true =>
    rw [hv] at Hpr
    have hn4 := prob_400 hv
    cases hkp : keepB c n nk with
    | false =>
      have Hfin := Lib.hid (subN_no (p := p) (.inr hkp))
      have Hkp := Lib.hid hkp
      clear hv hr hn' hkp
      go_enter Try.func27, Try.ntmps27
      go_wp2_with fail
      refine Hpr.out.mono ?_
      rintro e w1 ⟨rfl, hb⟩
      have HB1 := Lib.hid hb
      clear hb
      go_wp2_with fail
      refine (isPart_any Ak nk capk n c _ hnk hn (hrk.later HB1.out)).mono ?_
      rintro e w2 ⟨rfl, rfl⟩
      rw [Hkp.out]
      go_wp2
      go_ret2
      exact subRes_no Hfin.out HB1.out
    | true =>
      have Hfin := Lib.hid (subN_yes hv hkp)
      have hnk4 := keep_le hkp
      have Hkp := Lib.hid hkp
      have HN := Lib.hid hn'
      have HR := Lib.hid hr
      have HRk := Lib.hid hrk
      clear hv hr hn' hkp hrk
      go_enter Try.func27, Try.ntmps27
      go_wp2_with fail
      refine Hpr.out.mono ?_
      rintro e w0 ⟨rfl, hb⟩
      have HB0 := Lib.hid hb
      clear hb
      go_wp2_with fail
      refine (isPart_any Ak nk capk n c _ hnk hn (HRk.out.later HB0.out)).mono ?_
      rintro e w2 ⟨rfl, rfl⟩
      rw [Hkp.out]
      go_wp2
      go_loopw [6, 22] (fun ov i wr => ∃ (k hi : Nat) (xs : List Value) (f : Nat → Nat), k ≤ nk ∧ i = .int .i64 k ∧ GrwC wr w.heap.size hi ov k xs (subK p c) f ∧ w.heap.size ≤ hi ∧ hi ≤ wr.heap.size ∧ Below w.heap.size w wr) (fun _ i _ => nk - (intOf i).toNat)
      case atStart => exact ⟨0, w.heap.size, [], fun _ => 0, Nat.zero_le _, rfl, grw_none _ _ _ _ _, Nat.le_refl _, HB0.out.size, HB0.out⟩
      case round =>
        obtain ⟨k, hi, xs, f, hk, rfl, hg, h1, h2, hb⟩ := hrel
        have HG := Lib.hid hg
        have HB := Lib.hid hb
        clear hg hb HB0
        by_cases hlt : k < nk
        · obtain ⟨bk, offk, rfl, _, hck⟩ := (HRk.out.below HB.out) (by omega)
          have hc0 := hck k hlt
          obtain ⟨J, b, off, Ai, ci, hJ, hJn, rfl, hx0, hx1, hrq, hcq⟩ := sub_at (HR.out.later HB.out) Hkp.out hlt
          rw [hJ] at hc0
          have hq : (subK p c k).n ≤ 1048576 := by
            have e : subK p c k = p J := by unfold subK; rw [hJ]; rfl
            rw [e]
            exact HN.out J hJn
          have HRQ := Lib.hid hrq
          have HAl := Lib.hid (bl_alloc (Below.refl wr.heap.size wr) (.cells #[.slice Ai (subK p c k).n ci, .int .i64 (subK p c k).bd] 71))
          have x0 : (wr.alloc (.cells #[.slice Ai (subK p c k).n ci, .int .i64 (subK p c k).bd] 71)).cell? ⟨wr.heap.size, 0, none⟩ = some (.slice Ai (subK p c k).n ci) := by go_simp
          have x1 : (wr.alloc (.cells #[.slice Ai (subK p c k).n ci, .int .i64 (subK p c k).bd] 71)).cell? ⟨wr.heap.size, 1, none⟩ = some (.int .i64 (subK p c k).bd) := by go_simp
          have f0 : (wr.alloc (.cells #[.slice Ai (subK p c k).n ci, .int .i64 (subK p c k).bd] 71)).frozen? ⟨wr.heap.size, 0, none⟩ = false := by go_simp
          have hz0 : wr.heap.size < (wr.alloc (.cells #[.slice Ai (subK p c k).n ci, .int .i64 (subK p c k).bd] 71)).heap.size := by simp
          have X0 := Lib.hid x0
          have X1 := Lib.hid x1
          have F0 := Lib.hid f0
          have Z0 := Lib.hid hz0
          clear hck hrq hcq hJ x0 x1 f0 hz0
          go_wp2_with fail
          refine (clone_any Ai _ ci _ _ _ hq (HRQ.out.later HAl.out)).mono ?_
          rintro e w1 ⟨A1, cap1, rfl, hF, hb1⟩
          have y0 := kc hb1 X0.out
          have y1 := kc hb1 X1.out
          have g0 := kf hb1 (p := ⟨wr.heap.size, 0, none⟩) Z0.out F0.out
          have hz1 : wr.heap.size < w1.heap.size := Nat.lt_of_lt_of_le Z0.out hb1.size
          have HG1 := Lib.hid (HG.out.far (bl_trans HAl.out hb1) (Nat.le_refl wr.heap.size) 0 (.slice A1 (subK p c k).n cap1))
          have HF1 := Lib.hid ((hF.far (p := ⟨wr.heap.size, 0, none⟩) rfl Z0.out (.slice A1 (subK p c k).n cap1)).more (Nat.le_trans h2 (Nat.le_of_lt Z0.out)))
          have HB1 := Lib.hid ((bl_trans HB.out (bl_trans HAl.out hb1)).setCell (p := ⟨wr.heap.size, 0, none⟩) (by show w.heap.size ≤ wr.heap.size; omega) (.slice A1 (subK p c k).n cap1))
          clear hF hb1 HG HB hx0 hx1 hc0 HRQ HAl X0 X1 F0 Z0
          have hs1 : (w1.setCell ⟨wr.heap.size, 0, none⟩ (.slice A1 (subK p c k).n cap1)).heap.size = w1.heap.size := by simp [World.setCell]
          have hs2 : hi ≤ (w1.setCell ⟨wr.heap.size, 0, none⟩ (.slice A1 (subK p c k).n cap1)).heap.size := by rw [hs1]; omega
          have HS2 := Lib.hid hs2
          have hnw := heap_alloc_new (w1.setCell ⟨wr.heap.size, 0, none⟩ (.slice A1 (subK p c k).n cap1)) (.cells #[.slice A1 (subK p c k).n cap1, .int .i64 (subK p c k).bd] 71)
          rw [hs1] at hnw
          have HNw := Lib.hid hnw
          clear hs1 hs2 hnw
          have HAl := Lib.hid (bl_alloc (Below.refl (w1.setCell ⟨wr.heap.size, 0, none⟩ (.slice A1 (subK p c k).n cap1)).heap.size (w1.setCell ⟨wr.heap.size, 0, none⟩ (.slice A1 (subK p c k).n cap1))) (.cells #[.slice A1 (subK p c k).n cap1, .int .i64 (subK p c k).bd] 71))
          go_wp2_with (at_builtin; refine wpList_plain (by rfl) fun K' hK' => ?_; refine wp_grw1 _ _ (by rfl) (HG1.out.below HAl.out) h1 (Nat.le_trans HS2.out HAl.out.size) (by rfl) (by rfl) HNw.out (HF1.out.below HAl.out) (by omega) ?_; intro gg cap2 w4 zs f4 hg4 hgr4; have HG4 := Lib.hid hg4; have HB4 := Lib.hid ((bl_trans HB1.out HAl.out).grown hgr4 (bl_trans HB1.out HAl.out).size (fun j e => (HG1.out.lt j e).1)); clear hg4 hgr4; refine hK' _ _ ?_; clear hK' K')
          go_roundw
          case rel => exact ⟨k + 1, _, zs, f4, by omega, by go_num, HG4.out, HB4.out.size, Nat.le_refl _, HB4.out⟩
          case measure => simp [intOf]; omega
        · have e : k = nk := by omega
          subst e
          obtain ⟨A1, cap1, rfl, hF⟩ := HG.out.fin
          have HF := Lib.hid hF
          clear hF HG
          go_wp2
          go_ret2
          exact subRes_yes Hfin.out HF.out HB.out
end Go.Proofs.Ytnglpbfoeiahlaa
