/- Contracts of the reference's and the program's SubProblem (no claim of its own). Conditions: as each theorem states. -/
import Derived.Test.YtnfkhakgikbbeaaSubA
import Derived.Test.YtnfkhakgikbbeaaCpyC
import Derived.Test.YtnfkhakgikbbeaaMkCs
import Derived.Test.YtnfkhakgikbbeaaCopC
namespace Go.Proofs.Ytnfkhakgikbbeaa
open Go.ChangeShapes Go.WideShapes Go.ChangeAt Go.RowKit

/-- What SubProblem leaves. -/
def SubRes (w : World) (n : Nat) (p : Nat → Con) (nk : Nat) (c : Nat → Int) (e : Ending) (w' : World) : Prop :=
  ∃ A cap, e = .returned (.tuple #[.slice A (subN n p nk c) cap, .bool (subOk n p nk c)]) ∧ FrC w' w.heap.size A (subN n p nk c) (subK p c) ∧ Below w.heap.size w w'
theorem subRes_no {w w' : World} {n : Nat} {p : Nat → Con} {nk : Nat} {c : Nat → Int} {A : Option Addr} {cap : Nat} (h : subOk n p nk c = false ∧ subN n p nk c = 0) (hb : Below w.heap.size w w') : SubRes w n p nk c (.returned (.tuple #[.slice A 0 cap, .bool false])) w' :=
  ⟨A, cap, by rw [h.1, h.2], by rw [h.2]; exact frc_nil _ _ _ _, hb⟩
theorem subRes_yes {w w' : World} {n : Nat} {p : Nat → Con} {nk : Nat} {c : Nat → Int} {A : Option Addr} {cap : Nat} (h : subOk n p nk c = true ∧ subN n p nk c = nk) (hF : FrC w' w.heap.size A nk (subK p c)) (hb : Below w.heap.size w w') : SubRes w n p nk c (.returned (.tuple #[.slice A nk cap, .bool true])) w' :=
  ⟨A, cap, by rw [h.1, h.2], by rw [h.2]; exact hF, hb⟩
/-- The constraint at index c k of what came in. -/
theorem sub_at {w : World} {B : Nat} {A : Option Addr} {n nk k : Nat} {p : Nat → Con} {c : Nat → Int} (hr : RdPc w B A n p) (hk : keepB c n nk = true) (hlt : k < nk) :
    ∃ (J : Nat) (b off : Nat) (Ai : Option Addr) (ci : Nat), c k = (J : Int) ∧ J < n ∧ A = some ⟨b, off, none⟩ ∧ w.cell? ⟨b, off + J * 2, none⟩ = some (.slice Ai (subK p c k).n ci) ∧ w.cell? ⟨b, off + J * 2 + 1, none⟩ = some (.int .i64 (subK p c k).bd) ∧ Rd w B Ai (subK p c k).n (subK p c k).c (subK p c k).l ∧ (Ai = none → ci = 0) := by
  obtain ⟨h1, h2⟩ := keep_ge hk hlt
  obtain ⟨b, off, e, _, hc⟩ := hr (by omega)
  obtain ⟨Ai, ci, a1, a2, a3, a4⟩ := hc (c k).toNat (by omega)
  exact ⟨(c k).toNat, b, off, Ai, ci, by omega, by omega, e, a1, a2, a3, a4⟩

set_option linter.unusedVariables false in
set_option maxRecDepth 100000 in
set_option maxHeartbeats 3200000 in
theorem l11Sub_any (A Ak : Option Addr) (n cap nk capk : Nat) (p : Nat → Con) (c : Nat → Int) (w : World) (hn : n ≤ 400) (hn' : ∀ i, i < n → (p i).n ≤ 1048576) (hkp : keepB c n nk = true) (hr : RdPc w w.heap.size A n p) (hrk : RdI w w.heap.size Ak nk c) :
    Calls Try.prog 24 #[.slice A n cap, .slice Ak nk capk] w fun e w' => ∃ A' cap', e = .returned (.slice A' nk cap') ∧ FrC w' w.heap.size A' nk (subK p c) ∧ Below w.heap.size w w' := by
  have hnk := keep_le hkp
  have HK := Lib.hid hkp
  have HN := Lib.hid hn'
  have HR := Lib.hid hr
  have HRk := Lib.hid hrk
  have HG0 := Lib.hid (grw_lit w w.heap.size (subK p c) (fun _ => 0))
  clear hkp hn' hr hrk
  go_enter Try.func24, Try.ntmps24
  go_wp2
  go_loopw [5, 6] (fun ov i wr => ∃ (k hi : Nat) (xs : List Value) (f : Nat → Nat), k ≤ nk ∧ i = .int .i64 k ∧ GrwC wr w.heap.size hi ov k xs (subK p c) f ∧ w.heap.size ≤ hi ∧ hi ≤ wr.heap.size ∧ Below w.heap.size w wr) (fun _ i _ => nk - (intOf i).toNat)
  case atStart => exact ⟨0, w.heap.size, [], fun _ => 0, Nat.zero_le _, rfl, HG0.out, Nat.le_refl _, by simp, bl_alloc (Below.refl _ _) _⟩
  case round =>
    obtain ⟨k, hi, xs, f, hk, rfl, hg, h1, h2, hb⟩ := hrel
    have HG := Lib.hid hg
    have HB := Lib.hid hb
    clear hg hb HG0
    by_cases hlt : k < nk
    · obtain ⟨bk, offk, rfl, _, hck⟩ := (HRk.out.below HB.out) (by omega)
      have hc0 := hck k hlt
      obtain ⟨J, b, off, Ai, ci, hJ, hJn, rfl, hx0, hx1, hrq, hcq⟩ := sub_at (HR.out.later HB.out) HK.out hlt
      rw [hJ] at hc0
      have hq : (subK p c k).n ≤ 1048576 := by
        have e : subK p c k = p J := by unfold subK; rw [hJ]; rfl
        rw [e]
        exact HN.out J hJn
      have HRQ := Lib.hid hrq
      have HCQ := Lib.hid hcq
      clear hck hrq hcq hJ
      go_wp2_with fail
      refine (copyC_any Ai _ ci _ _ _ _ hq HRQ.out HCQ.out).mono ?_
      rintro e w1 ⟨A1, cap1, rfl, hF, hb1⟩
      have HAl := Lib.hid (bl_alloc (Below.refl w1.heap.size w1) (.cells #[.slice A1 (subK p c k).n cap1, .int .i64 (subK p c k).bd] 39))
      have HG1 := Lib.hid ((HG.out.below hb1).below HAl.out)
      have HF1 := Lib.hid ((hF.below HAl.out).more h2)
      have HB1 := Lib.hid (bl_trans (bl_trans HB.out hb1) HAl.out)
      have hs1 : hi ≤ (w1.alloc (.cells #[.slice A1 (subK p c k).n cap1, .int .i64 (subK p c k).bd] 39)).heap.size := Nat.le_trans (Nat.le_trans h2 hb1.size) HAl.out.size
      have HS1 := Lib.hid hs1
      clear hF hb1 hs1 HG HB hx0 hx1 hc0 HRQ HCQ
      go_wp2_with (at_builtin; refine wpList_plain (by rfl) fun K' hK' => ?_; refine wp_grw1 _ _ (by rfl) HG1.out h1 HS1.out (by rfl) (by rfl) (heap_alloc_new _ _) HF1.out (by omega) ?_; intro gg cap2 w4 zs f4 hg4 hgr4; have HG4 := Lib.hid hg4; have HB4 := Lib.hid (HB1.out.grown hgr4 HB1.out.size (fun j e => (HG1.out.lt j e).1)); clear hg4 hgr4; refine hK' _ _ ?_; clear hK' K')
      go_roundw
      case rel => exact ⟨k + 1, _, zs, f4, by omega, by go_num, HG4.out, HB4.out.size, Nat.le_refl _, HB4.out⟩
      case measure => simp [intOf]; omega
    · have e : k = nk := by omega
      subst e
      obtain ⟨A1, cap1, rfl, hF⟩ := HG.out.fin
      have HF := Lib.hid hF
      clear hF HG
      go_wp2
      go_ret
      exact ⟨A1, cap1, rfl, HF.out, HB.out⟩

set_option linter.unusedVariables false in
set_option maxRecDepth 100000 in
set_option maxHeartbeats 3200000 in
theorem specSub_any (A Ak : Option Addr) (n cap nk capk : Nat) (p : Nat → Con) (c : Nat → Int) (w : World) (hn : n ≤ 1048576) (hn' : ∀ i, i < n → (p i).n ≤ 1048576) (hnk : nk ≤ 1048576) (hr : RdPc w w.heap.size A n p) (hrk : RdI w w.heap.size Ak nk c) :
    Calls Try.prog 7 #[.slice A n cap, .slice Ak nk capk] w (SubRes w n p nk c) := by
  have Hpr := Lib.hid (specProblem_any A n cap p w hn hn' hr.rd)
  cases hv : probB n p with
  | false =>
    have Hfin := Lib.hid (subN_no (nk := nk) (c := c) (.inl hv))
    rw [hv] at Hpr
    clear hv hr hn'
    go_enter Try.func7, Try.ntmps7
    go_wp2_with fail
    refine Hpr.out.mono ?_
    rintro e w1 ⟨rfl, hb⟩
    have HB1 := Lib.hid hb
    clear hb
    go_wp2
    go_ret2
    exact subRes_no Hfin.out (bl_alloc HB1.out _)
  | true =>
    rw [hv] at Hpr
    have hn4 := prob_400 hv
    cases hkp : keepB c n nk with
    | false =>
      have Hfin := Lib.hid (subN_no (p := p) (.inr hkp))
      have Hkp := Lib.hid hkp
      clear hv hr hn' hkp
      go_enter Try.func7, Try.ntmps7
      go_wp2_with fail
      refine Hpr.out.mono ?_
      rintro e w1 ⟨rfl, hb⟩
      have HB1 := Lib.hid hb
      clear hb
      go_wp2_with fail
      refine (l11Keep_any Ak nk capk n c _ hnk hn (hrk.later HB1.out)).mono ?_
      rintro e w2 ⟨rfl, hb⟩
      rw [Hkp.out]
      have HB2 := Lib.hid (bl_trans HB1.out hb)
      clear hb
      go_wp2
      go_ret2
      exact subRes_no Hfin.out (bl_alloc HB2.out _)
    | true =>
      have Hfin := Lib.hid (subN_yes hv hkp)
      have Hkp := Lib.hid hkp
      have HN := Lib.hid hn'
      have HR := Lib.hid hr
      have HRk := Lib.hid hrk
      clear hv hr hn' hkp hrk
      go_enter Try.func7, Try.ntmps7
      go_wp2_with fail
      refine Hpr.out.mono ?_
      rintro e w1 ⟨rfl, hb⟩
      have HB1 := Lib.hid hb
      clear hb
      go_wp2_with fail
      refine (l11Keep_any Ak nk capk n c _ hnk hn (HRk.out.later HB1.out)).mono ?_
      rintro e w2 ⟨rfl, hb⟩
      rw [Hkp.out]
      have HB2 := Lib.hid (bl_trans HB1.out hb)
      clear hb
      go_wp2_with fail
      refine (l11Sub_any A Ak n cap nk capk p c _ hn4 HN.out Hkp.out (HR.out.later HB2.out) (HRk.out.later HB2.out)).mono ?_
      rintro e w3 ⟨A3, cap3, rfl, hF, hb⟩
      have HF := Lib.hid (hF.more HB2.out.size)
      have HB3 := Lib.hid (bl_trans HB2.out hb)
      clear hb hF
      go_wp2
      go_ret2
      exact subRes_yes Hfin.out HF.out HB3.out

/-- Constraints that a call collects one by one, their terms as they came in, in blocks below L. -/
structure ShrC (w : World) (B L : Nat) (ov : Value) (k : Nat) (xs : List Value) (q : Nat → Con) : Prop where
  own : w.ownsRow B 39 2 ov k xs
  els : ∀ i, i < k → ∃ Ai ci, xs[i * 2]? = some (.slice Ai (q i).n ci) ∧ xs[i * 2 + 1]? = some (.int .i64 (q i).bd) ∧ Rd w L Ai (q i).n (q i).c (q i).l ∧ (Ai = none → ci = 0)
section
variable {w W w' : World} {B L k : Nat} {ov : Value} {xs : List Value} {q : Nat → Con}
theorem ShrC.below (h : ShrC w B L ov k xs q) (hb : Below w.heap.size w w') (hL : L ≤ w.heap.size) : ShrC w' B L ov k xs q := by
  refine ⟨⟨h.own.1, ?_⟩, fun i hi => ?_⟩
  · rcases h.own.2 with hh | ⟨g, cap, cur, e1, hg, hh, hr⟩
    · exact .inl hh
    · exact .inr ⟨g, cap, cur, e1, hg, (hb.block g (block_lt hh)).trans hh, hr⟩
  · obtain ⟨Ai, ci, h1, h2, h3, h4⟩ := h.els i hi
    exact ⟨Ai, ci, h1, h2, h3.below (hb.mono hL), h4⟩
theorem ShrC.lt (h : ShrC w B L ov k xs q) : ∀ j, ov.ownBlock = some j → B ≤ j ∧ j < w.heap.size := fun j e => h.own.lt j e
theorem ShrC.fin (h : ShrC w B L ov k xs q) (hL : L ≤ w.heap.size) : ∃ A cap, ov = .slice A k cap ∧ RdPc w w.heap.size A k q := by
  rcases h.own.2 with ⟨e, h0⟩ | ⟨g, cap, cur, e, hg, hh, hnc, _, hsz, htk⟩
  · subst h0
    exact ⟨none, 0, e, fun h => absurd h (by omega)⟩
  · refine ⟨_, cap, e, fun _ => ⟨g, 0, rfl, block_lt hh, fun i hi => ?_⟩⟩
    obtain ⟨Ai, ci, h1, h2, h3, h4⟩ := h.els i hi
    refine ⟨Ai, ci, ?_, ?_, h3.more hL, h4⟩
    · rw [Nat.zero_add]
      rw [← htk, List.getElem?_take_of_lt (by omega)] at h1
      exact (cell_of_row w g _ cur _ _ hh).trans (by simpa using h1)
    · rw [Nat.zero_add]
      rw [← htk, List.getElem?_take_of_lt (by omega)] at h2
      exact (cell_of_row w g _ cur _ _ hh).trans (by simpa using h2)
set_option maxRecDepth 100000 in
set_option maxHeartbeats 800000 in
theorem wp_shr1 {o : Oper} {a : Act} {K : Act → World → Prop} {Q : Exit → Act → World → Prop} (s x : Operand)
    (ho : o.op = .call { callee := .builtin .append, args := #[s, x], argTypes := #[23, 23] })
    (h : ShrC W B L ov k xs q) (hB : B ≤ W.heap.size) (hL : L ≤ B) (hs : a.eval s = ov) {H : Nat} (hx : a.eval x = .slice (some ⟨H, 0, none⟩) 1 1) {A : Option Addr} {cap : Nat} {T' : TypeId} (hnew : W.heap[H]? = some (.cells #[.slice A (q k).n cap, .int .i64 (q k).bd] T' (0, 0))) (hel : Rd W L A (q k).n (q k).c (q k).l) (hcp : A = none → cap = 0) (hk : k ≤ 10000)
    (hK : ∀ g cap' w' zs, ShrC w' B L (.slice (some ⟨g, 0, none⟩) (k + 1) cap') (k + 1) zs q → W.grownBy w' ov.ownBlock → K (a.put o.dst (.slice (some ⟨g, 0, none⟩) (k + 1) cap')) w') :
    o.wp Try.prog a W K Q := by
  obtain ⟨i0, hi0, hz0, hz1, hz2⟩ := info_parts Try.infoCon
  refine wp_append_lies _ s x 23 ho B 39 i0 _ 2 32 Try.underlying23 hi0 hz0 hz1 hz2 rfl (by omega) ov k _ hs h.own ⟨H, 0, none⟩ 1 1 [.slice A (q k).n cap, .int .i64 (q k).bd] hx (by rfl)
    (World.news_of_block hnew) (by simp [Value.oneCell']) (by omega) (by unfold maxLen; omega) (by omega) hB W.heap.size rfl ?_
  intro g cap' w' hown hg _ _
  have hbl : Below L W w' := (Below.refl L W).grown hg (by omega) (fun j e => by have := (h.lt j e).1; omega)
  have hxl : xs.length = k * 2 := h.own.1
  refine hK g cap' w' _ ⟨hown, fun i hi1 => ?_⟩ hg
  by_cases e : i = k
  · subst e
    refine ⟨A, cap, ?_, ?_, hel.below hbl, hcp⟩
    · rw [List.getElem?_append_right (by omega), hxl]; simp
    · rw [List.getElem?_append_right (by omega), hxl]; simp
  · obtain ⟨Ai, ci, h1, h2, h3, h4⟩ := h.els i (by omega)
    exact ⟨Ai, ci, by rw [List.getElem?_append_left (by omega)]; exact h1, by rw [List.getElem?_append_left (by omega)]; exact h2, h3.below hbl, h4⟩
end

set_option linter.unusedVariables false in
set_option maxRecDepth 100000 in
set_option maxHeartbeats 3200000 in
theorem implSub_any (A Ak : Option Addr) (n cap nk capk : Nat) (p : Nat → Con) (c : Nat → Int) (w : World) (hn : n ≤ 1048576) (hn' : ∀ i, i < n → (p i).n ≤ 1048576) (hnk : nk ≤ 1048576) (hr : RdPc w w.heap.size A n p) (hrk : RdI w w.heap.size Ak nk c) :
    Calls Try.prog 6 #[.slice A n cap, .slice Ak nk capk] w (SubRes w n p nk c) := by
  have Hpr := Lib.hid (implProblem_any A n cap p w hn hn' hr.rd)
  cases hv : probB n p with
  | false =>
    have Hfin := Lib.hid (subN_no (nk := nk) (c := c) (.inl hv))
    rw [hv] at Hpr
    clear hv hr hn'
    go_enter Try.func6, Try.ntmps6
    go_wp2_with fail
    refine Hpr.out.mono ?_
    rintro e w1 ⟨rfl, hb⟩
    have HB1 := Lib.hid hb
    clear hb
    go_wp2
    go_ret2
    exact subRes_no Hfin.out HB1.out
  | true =>
    rw [hv] at Hpr
    have hn4 := prob_400 hv
    cases hkp : keepB c n nk with
    | false =>
      have Hfin := Lib.hid (subN_no (p := p) (.inr hkp))
      have Hkp := Lib.hid hkp
      clear hv hr hn' hkp
      go_enter Try.func6, Try.ntmps6
      go_wp2_with fail
      refine Hpr.out.mono ?_
      rintro e w1 ⟨rfl, hb⟩
      have HB1 := Lib.hid hb
      clear hb
      go_wp2_with fail
      refine (isPart_any Ak nk capk n c _ hnk hn (hrk.later HB1.out)).mono ?_
      rintro e w2 ⟨rfl, rfl⟩
      rw [Hkp.out]
      go_wp2
      go_ret2
      exact subRes_no Hfin.out HB1.out
    | true =>
      have Hfin := Lib.hid (subN_yes hv hkp)
      have hnk4 := keep_le hkp
      have Hkp := Lib.hid hkp
      have HN := Lib.hid hn'
      have HR := Lib.hid hr
      have HRk := Lib.hid hrk
      clear hv hr hn' hkp hrk
      go_enter Try.func6, Try.ntmps6
      go_wp2_with fail
      refine Hpr.out.mono ?_
      rintro e w0 ⟨rfl, hb⟩
      have HB0 := Lib.hid hb
      clear hb
      go_wp2_with fail
      refine (isPart_any Ak nk capk n c _ hnk hn (HRk.out.later HB0.out)).mono ?_
      rintro e w2 ⟨rfl, rfl⟩
      rw [Hkp.out]
      go_wp2
      go_loopw [6, 21] (fun ov i wr => ∃ (k : Nat) (xs : List Value), k ≤ nk ∧ i = .int .i64 k ∧ ShrC wr w.heap.size w.heap.size ov k xs (subK p c) ∧ Below w.heap.size w wr) (fun _ i _ => nk - (intOf i).toNat)
      case atStart => exact ⟨0, [], Nat.zero_le _, rfl, ⟨World.ownsRow_nil _ _ _ _, fun i hi => by omega⟩, HB0.out⟩
      case round =>
        obtain ⟨k, xs, hk, rfl, hg, hb⟩ := hrel
        have HG := Lib.hid hg
        have HB := Lib.hid hb
        have hsz := hb.size
        clear hg hb HB0
        by_cases hlt : k < nk
        · obtain ⟨bk, offk, rfl, _, hck⟩ := (HRk.out.below HB.out) (by omega)
          have hc0 := hck k hlt
          obtain ⟨J, b, off, Ai, ci, hJ, hJn, rfl, hx0, hx1, hrq, hcq⟩ := sub_at (HR.out.below HB.out) Hkp.out hlt
          rw [hJ] at hc0
          have HRQ := Lib.hid hrq
          have HCQ := Lib.hid hcq
          clear hck hrq hcq hJ
          have HAl := Lib.hid (bl_alloc (Below.refl wr.heap.size wr) (.cells #[.slice Ai (subK p c k).n ci, .int .i64 (subK p c k).bd] 39))
          have HB1 := Lib.hid (bl_trans HB.out HAl.out)
          go_wp2_with (at_builtin; refine wpList_plain (by rfl) fun K' hK' => ?_; refine wp_shr1 _ _ (by rfl) (HG.out.below HAl.out hsz) (by simp; omega) (Nat.le_refl _) (by rfl) (by rfl) (heap_alloc_new _ _) (HRQ.out.below (HAl.out.mono hsz)) HCQ.out (by omega) ?_; intro gg cap2 w4 zs hg4 hgr4; have HG4 := Lib.hid hg4; have HB4 := Lib.hid (HB1.out.grown hgr4 HB1.out.size (fun j e => (HG.out.lt j e).1)); clear hg4 hgr4; refine hK' _ _ ?_; clear hK' K')
          go_roundw
          case rel => exact ⟨k + 1, zs, by omega, by go_num, HG4.out, HB4.out⟩
          case measure => simp [intOf]; omega
        · have e : k = nk := by omega
          subst e
          obtain ⟨A1, cap1, rfl, hF⟩ := HG.out.fin hsz
          have HF := Lib.hid hF
          have HNq := Lib.hid (show ∀ i, i < k → (subK p c i).n ≤ 1048576 from fun i hi => by
            have h := keep_ge Hkp.out hi
            exact HN.out _ (by omega))
          clear hF HG
          go_wp2_with fail
          refine (copied_any A1 k cap1 (subK p c) _ (by omega) HNq.out HF.out).mono ?_
          rintro e w3 ⟨ov, xs3, f3, rfl, hg3, hb3⟩
          obtain ⟨A3, cap3, rfl, hF3⟩ := hg3.fin
          have HF3 := Lib.hid (hF3.more hsz)
          have HB3 := Lib.hid (bl_trans HB.out hb3)
          clear hg3 hb3 hF3
          go_wp2
          go_ret2
          exact subRes_yes Hfin.out HF3.out HB3.out
end Go.Proofs.Ytnfkhakgikbbeaa
