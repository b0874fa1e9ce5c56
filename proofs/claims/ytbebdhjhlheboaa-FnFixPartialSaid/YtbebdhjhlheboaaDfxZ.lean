/- The draw of FixPartial's arguments (no claim of its own). Conditions: as each theorem states. · The draws of the arguments (no claim of its own). Conditions: as each theorem states. · The draw of ExtendsPartial's arguments (no claim of its own). Conditions: as each theorem states. · Contracts of the model's and the program's ConstraintSame (no claim of its own). Conditions: as each theorem states. · The laws' comparison of two problems that say the same (no claim of its own). Conditions: as each theorem states. · Rows of Booleans that a call makes: marked, asked (no claim of its own). Conditions: as each theorem states. · Copies of rows by append, of any element type (no claim of its own). Conditions: as each theorem states. · slices.Clone at Booleans (no claim of its own). Conditions: as each theorem states. -/
import Derived.Test.YtbebdhjhlheboaaDrZ
import Derived.Test.YtbebdhjhlheboaaDrwJ
import Derived.Test.YtbebdhjhlheboaaExtA
import Derived.Test.YtbebdhjhlheboaaComA
import Derived.Test.YtbebdhjhlheboaaValidB
import Derived.Laws.StructEq
import Derived.Test.YtbebdhjhlheboaaProB
import Derived.Test.YtbebdhjhlheboaaBoolA
import Derived.Test.YtbebdhjhlheboaaIntR
import Derived.Test.YtbebdhjhlheboaaMrkR
import Derived.Deep.AppendLies
import Derived.Test.YtbebdhjhlheboaaBaseC
import Derived.Laws.OwnMore
import Derived.Maps.AppendAt
import Derived.Lib.SliceRun
namespace Go.Proofs.Ytbebdhjhlheboaa
open Go.ChangeShapes Go.WideShapes Go.ChangeAt Go.RowKit

set_option maxRecDepth 100000 in
set_option maxHeartbeats 1600000 in
theorem drawFxP_any (A : Option Addr) (n cap : Nat) (y : Nat → Int) (w : World) (hm : n ≤ maxLen) (hcap : n ≤ cap) (hr : RdY w w.heap.size A n y) :
    Calls Try.prog 23 #[.slice A n cap] w fun e w' => ∃ Al k capl p Av kv capv v, e = .returned (.tuple #[.slice Al k capl, .slice Av kv capv]) ∧ k ≤ 8 ∧ (∀ i, i < k → (p i).n ≤ 15) ∧ kv ≤ 12 ∧ RdP w' w'.heap.size Al k p ∧ RdI w' w'.heap.size Av kv v ∧ Below w.heap.size w w' := by
  go_enter Try.func23, Try.ntmps23
  go_wp2_with fail
  refine (drawPg_any _ _ _ y _ hm hcap hr).mono ?_
  rintro e w1 ⟨Al, k, capl, xs, lo, el, Av, kv, capv, v, rfl, hk, hkv, hp, hrv, hb⟩
  obtain ⟨p, hna, hpa⟩ := hp.pxp
  have HR := Lib.hid (rdp_own hp.own hpa)
  have HV := Lib.hid hrv
  have HB := Lib.hid hb
  have HN := Lib.hid hna
  clear hp hpa hrv hb hna hr
  go_wp2
  go_ret2
  exact ⟨Al, k, capl, p, Av, kv, capv, v, rfl, hk, HN.out, hkv, HR.out, HV.out, HB.out⟩
end Go.Proofs.Ytbebdhjhlheboaa

namespace Go.Proofs.Ytbebdhjhlheboaa
open Go.ChangeShapes Go.WideShapes Go.ChangeAt Go.RowKit

theorem fri_set {w : World} {lo n : Nat} {T : TypeId} {A : Option Addr} {v : Nat → Int} (h : FrI w lo T A n v) {p : Addr} (hp : p.block < lo) (u : Value) : FrI (w.setCell p u) lo T A n v := by
  rcases h with h | ⟨G, e, hG, h⟩
  · exact .inl h
  · exact .inr ⟨G, e, hG, h.at_ (Below.heap_setCell w p u G (by omega))⟩
theorem gr_bel {w w1 w5 : World} {R : Nat} (hb : Below w.heap.size w w1) (hg : Gr R w1 w5) (hR : w.heap.size ≤ R) : Below w.heap.size w w5 :=
  ⟨hg.os.trans hb.os, hg.tape.trans hb.tape, hg.output.trans hb.output, Nat.le_trans hb.size hg.size, fun k hk => (hg.block k (Nat.lt_of_lt_of_le hk hb.size) (by intro e; cases e; omega)).trans (hb.block k hk)⟩
/-- What the draw of a constraint and a partial assignment leaves. -/
def DSl (w : World) (e : Ending) (w' : World) : Prop := ∃ Ac k capc bd c l Av kv capv v, e = .returned (.tuple #[.agg #[.slice Ac k capc, .int .i64 bd], .slice Av kv capv]) ∧ k ≤ 13 ∧ kv ≤ 12 ∧ Rd w' w'.heap.size Ac k c l ∧ RdI w' w'.heap.size Av kv v ∧ Below w.heap.size w w'
/-- What the draw of a constraint and values leaves. -/
def DEv (w : World) (e : Ending) (w' : World) : Prop := ∃ Ac k capc bd c l Av kv capv v, e = .returned (.tuple #[.agg #[.slice Ac k capc, .int .i64 bd], .slice Av kv capv]) ∧ k ≤ 13 ∧ kv ≤ 12 ∧ Rd w' w'.heap.size Ac k c l ∧ RdB w' w'.heap.size Av kv v ∧ Below w.heap.size w w'

end Go.Proofs.Ytbebdhjhlheboaa

namespace Go.Proofs.Ytbebdhjhlheboaa
open Go.ChangeShapes Go.WideShapes Go.ChangeAt Go.RowKit

section
variable {w w1 : World} {lo n R G k : Nat} {T : TypeId} {A : Option Addr} {v : Nat → Int} {u : Nat → Bool}
theorem fri_gr (h : FrI w lo T A n v) (hg : Gr R w w1) (hR : R < lo) : FrI w1 lo T A n v := by
  rcases h with h | ⟨G, e, hG, h⟩
  · exact .inl h
  · exact .inr ⟨G, e, hG, h.at_ (hg.block G h.lt (by intro e; cases e; omega))⟩
/-- Booleans in a block of the call's own. -/
def FBo (w : World) (G k : Nat) (u : Nat → Bool) : Prop := G < w.heap.size ∧ ∃ cs : Array Value, w.heap[G]? = some (.cells cs 4 (0, 0)) ∧ ∀ i, i < k → cs[i]? = some (.bool (u i))
theorem FBo.gr (h : FBo w G k u) (hg : Gr R w w1) (hR : G ≠ R) : FBo w1 G k u := by
  obtain ⟨h1, cs, hh, hc⟩ := h
  exact ⟨Nat.lt_of_lt_of_le h1 hg.size, cs, (hg.block G h1 (by intro e; cases e; exact hR rfl)).trans hh, hc⟩
theorem FBo.cell (h : FBo w G k u) {j : Nat} (hj : j < k) : w.cell? ⟨G, j, none⟩ = some (.bool (u j)) := by
  obtain ⟨h1, cs, hh, hc⟩ := h
  exact (cell_of_row w G _ cs _ _ hh).trans (hc j hj)
theorem FBo.frozen (h : FBo w G k u) (j : Nat) : w.frozen? ⟨G, j, none⟩ = false := by
  obtain ⟨h1, cs, hh, hc⟩ := h
  simp [World.frozen?, hh]
theorem FBo.upd (h : FBo w G k u) {j : Nat} (hj : j < k) (z : Bool) : FBo (w.setCell ⟨G, j, none⟩ (.bool z)) G k (fun i => if i = j then z else u i) := by
  obtain ⟨h1, cs, hh, hc⟩ := h
  have hsz : k ≤ cs.size ∨ k = 0 := by
    by_cases h0 : k = 0
    · exact .inr h0
    · have := (Array.getElem?_eq_some_iff.1 (hc (k - 1) (by omega))).1
      exact .inl (by omega)
  refine ⟨by simpa [World.setCell] using h1, cs.setIfInBounds j (.bool z), by simp [World.setCell, Array.getElem?_modify, hh], fun i hi => ?_⟩
  rw [Array.getElem?_setIfInBounds]
  by_cases e : i = j
  · subst e
    rw [if_pos rfl, if_pos (by omega)]
    show some (Value.bool z) = some (.bool (if i = i then z else u i))
    rw [if_pos rfl]
  · rw [if_neg (fun e' => e e'.symm)]
    show cs[i]? = some (.bool (if i = j then z else u i))
    rw [if_neg e]
    exact hc i hi
theorem FBo.rd (h : FBo w G k u) : RdB w w.heap.size (some ⟨G, 0, none⟩) k u := fun _ => by
  obtain ⟨h1, cs, hh, hc⟩ := h
  refine ⟨G, 0, rfl, h1, fun i hi => ?_⟩
  rw [Nat.zero_add]
  exact (cell_of_row w G _ cs _ _ hh).trans (hc i hi)
/-- A slice of ints in a block between lo and hi. -/
def FrJ (w : World) (lo hi : Nat) (A : Option Addr) (n : Nat) (v : Nat → Int) : Prop := n = 0 ∨ ∃ G, A = some ⟨G, 0, none⟩ ∧ lo ≤ G ∧ G < hi ∧ OwnV w G 3 n n v
theorem FrJ.gr {hi : Nat} (h : FrJ w lo hi A n v) (hg : Gr R w w1) (hR : R < lo) : FrJ w1 lo hi A n v := by
  rcases h with h | ⟨G, e, hG, hh, h⟩
  · exact .inl h
  · exact .inr ⟨G, e, hG, hh, h.at_ (hg.block G h.lt (by intro e; cases e; omega))⟩
theorem FrJ.set {hi : Nat} (h : FrJ w lo hi A n v) {p : Addr} (hp : hi ≤ p.block) (z : Value) : FrJ (w.setCell p z) lo hi A n v := by
  rcases h with h | ⟨G, e, hG, hh, h⟩
  · exact .inl h
  · exact .inr ⟨G, e, hG, hh, h.at_ (Below.heap_setCell w p z G (by omega))⟩
theorem FrJ.rd {hi : Nat} (h : FrJ w lo hi A n v) : RdI w w.heap.size A n v := by
  rcases h with h | ⟨G, rfl, _, _, h⟩
  · exact fun hn => absurd hn (by omega)
  · exact h.rdAt
/-- The values being drawn. -/
def VB (w : World) (lo G : Nat) (A : Option Addr) (k : Nat) (u : Nat → Bool) : Prop := k = 0 ∨ (A = some ⟨G, 0, none⟩ ∧ lo ≤ G ∧ FBo w G k u)
theorem VB.gr (h : VB w lo G A k u) (hg : Gr R w w1) (hR : R < lo) : VB w1 lo G A k u := by
  rcases h with h | ⟨e, hG, h⟩
  · exact .inl h
  · exact .inr ⟨e, hG, h.gr hg (by omega)⟩
theorem VB.rd (h : VB w lo G A k u) : RdB w w.heap.size A k u := by
  rcases h with h | ⟨rfl, _, h⟩
  · exact fun hn => absurd hn (by omega)
  · exact h.rd
end
/-- What the draw of a partial assignment and values leaves. -/
def DXp (w : World) (e : Ending) (w' : World) : Prop := ∃ Ap kp capp vp Av kv capv v, e = .returned (.tuple #[.slice Ap kp capp, .slice Av kv capv]) ∧ kp ≤ 12 ∧ kv ≤ 12 ∧ RdI w' w'.heap.size Ap kp vp ∧ RdB w' w'.heap.size Av kv v ∧ Below w.heap.size w w'

set_option maxRecDepth 100000 in
set_option maxHeartbeats 6400000 in
theorem drawExt_any (A : Option Addr) (n cap : Nat) (y : Nat → Int) (w : World) (hm : n ≤ maxLen) (hcap : n ≤ cap) (hr : RdY w w.heap.size A n y) :
    Calls Try.prog 24 #[.slice A n cap] w (DXp w) := by
  have HR := Lib.hid hr
  clear hr
  go_enter Try.func24, Try.ntmps24
  go_wp2_with fail
  refine (open_any _ _ _ y _ hm hcap HR.out).mono ?_
  rintro e w1 ⟨rfl, hb, hrd, hz1⟩
  have HB1 := Lib.hid hb
  have RD1 := Lib.hid hrd
  clear hb hrd
  go_wp2_with fail
  refine (partial_any w.heap.size 0 _ (by omega) RD1.out).mono ?_
  rintro e w2 ⟨Ap, kp, capp, vp, rfl, hkp, hF, hg, hr⟩
  have HF2 := Lib.hid hF
  have G2 := Lib.hid hg
  have RD2 := Lib.hid hr
  have hz12 : w1.heap.size ≤ w2.heap.size := hg.size
  clear hF hg hr RD1
  go_wp2_with fail
  refine (values_any w.heap.size (0 + 20) _ (by omega) RD2.out).mono ?_
  rintro e w3 ⟨Av, kv, capv, v, rfl, hkv, hFB, hg, hr⟩
  have HG23 := Lib.hid hg
  have G3 := Lib.hid (G2.out.trans hg)
  have RD3 := Lib.hid hr
  have hz23 : w2.heap.size ≤ w3.heap.size := hg.size
  clear hg hr RD2 G2
  have hJ3 : FrJ w3 w1.heap.size w2.heap.size Ap kp vp := by
    rcases HF2.out with h | ⟨G', e, hG', h⟩
    · exact .inl h
    · exact .inr ⟨G', e, hG', h.lt, h.at_ (HG23.out.block G' h.lt (by intro e; cases e; omega))⟩
  obtain ⟨G, hV3⟩ : ∃ G, VB w3 w2.heap.size G Av kv v := by
    rcases hFB with h0 | ⟨G, e, hG1, hG2, hFB⟩
    · exact ⟨0, .inl h0⟩
    · exact ⟨G, .inr ⟨e, hG1, hG2, hFB⟩⟩
  have HJ3 := Lib.hid hJ3
  have HV3 := Lib.hid hV3
  have hRw1 : w.heap.size < w1.heap.size := hz1
  clear hFB hJ3 hV3 HF2 HG23
  go_wp2
  go_loopw [7] (fun i wr => ∃ (j : Nat) (u : Nat → Bool), j ≤ 12 ∧ i = .int .i64 j ∧ VB wr w2.heap.size G Av kv u ∧ FrJ wr w1.heap.size w2.heap.size Ap kp vp ∧ Gr w.heap.size w1 wr ∧ Rdr wr w.heap.size (0 + 20 + 20 + j)) (fun i _ => 13 - (intOf i).toNat)
  case atStart => exact ⟨0, v, Nat.zero_le _, rfl, HV3.out, HJ3.out, G3.out, RD3.out⟩
  case round =>
    obtain ⟨j, u, hj, rfl, hvb, hfj, hgr, hrd⟩ := hrel
    have HV := Lib.hid hvb
    have HJ := Lib.hid hfj
    have GR := Lib.hid hgr
    have RD := Lib.hid hrd
    clear hvb hfj hgr hrd HV3 HJ3 G3 RD3
    by_cases h1 : j < kp
    · by_cases h2 : j < kv
      · have hjp : (j : Int) < (kp : Int) := by omega
        have hjv : (j : Int) < (kv : Int) := by omega
        have hj0 : (0 : Int) ≤ (j : Int) := by omega
        go_wp2_with fail
        refine (pick_any w.heap.size (0 + 20 + 20 + j) 12 _ (by omega) RD.out).mono ?_
        rintro e w4 ⟨x, rfl, hx0, hx1, hg, hr⟩
        have HV4 := Lib.hid (HV.out.gr hg (by omega))
        have HJ4 := Lib.hid (HJ.out.gr hg hRw1)
        have GR4 := Lib.hid (GR.out.trans hg)
        have RD4 := Lib.hid hr
        clear hg hr HV HJ GR RD
        by_cases hx : 0 < x
        · have hxd : decide (0 < x) = true := decide_eq_true hx
          obtain ⟨b, off, hA, hbl, hc⟩ := HJ4.out.rd (by omega)
          have hcj := hc j h1
          obtain hk | ⟨hAv, hGl, hfb⟩ := HV4.out
          · omega
          have hvj := hfb.cell h2
          have hfj := hfb.frozen j
          subst hA
          subst hAv
          clear hc hx0 hx1
          by_cases hz : vp j = 0
          · have hzd : (vp j != 0) = false := by rw [hz]; rfl
            clear hz
            go_wp2
            go_roundw
            case rel => exact ⟨j + 1, u, by omega, by go_num, HV4.out, HJ4.out, GR4.out, RD4.out.more (by omega)⟩
            case measure => simp [intOf]; omega
          · have hzd : (vp j != 0) = true := by rw [bne_iff_ne]; exact hz
            clear hz
            go_wp2
            go_roundw
            case rel => exact ⟨j + 1, _, by omega, by go_num, .inr ⟨rfl, hGl, hfb.upd h2 _⟩, HJ4.out.set (by show w2.heap.size ≤ G; exact hGl) _, GR4.out.set (p := ⟨G, j, none⟩) (.inr (by show w1.heap.size ≤ G; omega)) _, (RD4.out.set (p := ⟨G, j, none⟩) (by show w.heap.size < G; omega) _).more (by omega)⟩
            case measure => simp [intOf]; omega
        · have hxd : decide (0 < x) = false := decide_eq_false hx
          clear hx0 hx1 hx
          go_wp2
          refine bodyPost_ret (v := .tuple #[.slice Ap kp capp, .slice Av kv capv]) (by simp [results, Try.results24, go_sem]) rfl ?_
          exact ⟨_, _, _, vp, _, _, _, u, rfl, hkp, hkv, HJ4.out.rd, HV4.out.rd, gr_bel HB1.out GR4.out (Nat.le_refl _)⟩
      · have hjp : (j : Int) < (kp : Int) := by omega
        have hjv : ¬ (j : Int) < (kv : Int) := by omega
        go_wp2
        refine bodyPost_ret (v := .tuple #[.slice Ap kp capp, .slice Av kv capv]) (by simp [results, Try.results24, go_sem]) rfl ?_
        exact ⟨_, _, _, vp, _, _, _, u, rfl, hkp, hkv, HJ.out.rd, HV.out.rd, gr_bel HB1.out GR.out (Nat.le_refl _)⟩
    · have hjp : ¬ (j : Int) < (kp : Int) := by omega
      go_wp2
      refine bodyPost_ret (v := .tuple #[.slice Ap kp capp, .slice Av kv capv]) (by simp [results, Try.results24, go_sem]) rfl ?_
      exact ⟨_, _, _, vp, _, _, _, u, rfl, hkp, hkv, HJ.out.rd, HV.out.rd, gr_bel HB1.out GR.out (Nat.le_refl _)⟩
end Go.Proofs.Ytbebdhjhlheboaa

namespace Go.Proofs.Ytbebdhjhlheboaa
open Go.ChangeShapes Go.WideShapes Go.ChangeAt Go.RowKit

theorem teq_no1 {c l c' l' : Int} (h : ¬ c = c') : (!teq c l c' l') = true := by simp [teq, h]
theorem teq_no2 {c l c' l' : Int} (h : ¬ l = l') : (!teq c l c' l') = true := by simp [teq, h]
theorem teq_yes {c l c' l' : Int} (h : c = c') (h' : l = l') : (!teq c l c' l') = false := by simp [teq, h, h']

/-- Two constraints are equal in every field. -/
def same (n n' : Nat) (c l c' l' : Nat → Int) (bd bd' : Int) : Bool := bd == bd' && (n == n' && tseq c l c' l' n)

set_option maxRecDepth 100000 in
set_option maxHeartbeats 800000 in
theorem slicesEqual_same (A A' : Option Addr) (n cap cap' : Nat) (c l c' l' : Nat → Int) (w : World) (hn : n ≤ 1048576) (hr : Rd w w.heap.size A n c l) (hr' : Rd w w.heap.size A' n c' l') :
    Calls Try.prog 96 #[.slice A n cap, .slice A' n cap'] w fun e w' => e = .returned (.bool (tseq c l c' l' n)) ∧ Below w.heap.size w w' := by
  go_enter Try.func96, Try.ntmps96
  go_wp2
  go_loopw [13, 5] (fun i _ wr => ∃ k : Nat, k ≤ n ∧ i = .int .i64 k ∧ tseq c l c' l' k = true ∧ Below w.heap.size w wr) (fun i _ _ => n - (intOf i).toNat)
  case atStart => exact ⟨0, Nat.zero_le _, rfl, rfl, Below.refl _ _⟩
  case round =>
    obtain ⟨k, hk, rfl, heq, hb⟩ := hrel
    have Heq := Lib.hid heq
    clear heq
    by_cases hlt : k < n
    · obtain ⟨b, off, rfl, hbl, hc⟩ := (hr.below hb) (by omega)
      obtain ⟨b', off', rfl, hbl', hc'⟩ := (hr'.below hb) (by omega)
      obtain ⟨hc1, hc2⟩ := hc k hlt
      obtain ⟨hc3, hc4⟩ := hc' k hlt
      clear hc hc' hr hr'
      have hlt' : (k : Int) < (n : Int) := by omega
      have hk0 : (0 : Int) ≤ (k : Int) := by omega
      by_cases h1 : c k = c' k
      · by_cases h2 : l k = l' k
        · have Ht := Lib.hid (teq_yes h1 h2)
          go_wp2_with fail
          go_quiet (fail)
          go_wp2
          go_roundw
          case rel => exact ⟨k + 1, by omega, by go_num, tseq_yes Heq.out Ht.out, bl_drewN hb _⟩
          case measure => simp [intOf]; omega
        · have Ht := Lib.hid (teq_no2 (c := c k) (c' := c' k) h2)
          go_wp2_with fail
          go_quiet (fail)
          go_wp2
          go_ret
          exact ⟨ret_bool (tseq_no hlt Ht.out).symm, bl_drewN hb _⟩
      · have Ht := Lib.hid (teq_no1 (l := l k) (l' := l' k) h1)
        go_wp2_with fail
        go_quiet (fail)
        go_wp2
        go_ret
        exact ⟨ret_bool (tseq_no hlt Ht.out).symm, bl_drewN hb _⟩
    · have e : k = n := by omega
      subst e
      go_wp2
      go_ret
      exact ⟨ret_bool Heq.out.symm, hb⟩

theorem same_no {n n' : Nat} {c l c' l' : Nat → Int} {bd bd' : Int} (h : bd ≠ bd' ∨ n ≠ n') : same n n' c l c' l' bd bd' = false := by
  rcases h with h | h <;> simp [same, h]

set_option maxRecDepth 100000 in
set_option maxHeartbeats 800000 in
theorem slicesEqual_len (A A' : Option Addr) (n n' cap cap' : Nat) (w : World) (hne : n ≠ n') :
    Calls Try.prog 96 #[.slice A n cap, .slice A' n' cap'] w fun e w' => e = .returned (.bool false) ∧ Below w.heap.size w w' := by
  have hd : ((n : Int) != (n' : Int)) = true := by rw [bne_iff_ne]; omega
  go_enter Try.func96, Try.ntmps96
  go_wp2
  go_ret
  exact ⟨rfl, Below.refl _ _⟩

theorem slicesEqual_any (A A' : Option Addr) (n n' cap cap' : Nat) (c l c' l' : Nat → Int) (w : World) (hn : n ≤ 1048576) (hr : Rd w w.heap.size A n c l) (hr' : Rd w w.heap.size A' n' c' l') :
    Calls Try.prog 96 #[.slice A n cap, .slice A' n' cap'] w fun e w' => e = .returned (.bool (n == n' && tseq c l c' l' n)) ∧ Below w.heap.size w w' := by
  by_cases h : n = n'
  · subst h
    exact (slicesEqual_same A A' n cap cap' c l c' l' w hn hr hr').mono fun e w' ⟨he, hb⟩ => ⟨by rw [he]; simp, hb⟩
  · exact (slicesEqual_len A A' n n' cap cap' w h).mono fun e w' ⟨he, hb⟩ => ⟨by rw [he]; simp [h], hb⟩

set_option maxRecDepth 100000 in
set_option maxHeartbeats 800000 in
theorem implSame_any (A A' : Option Addr) (n n' cap cap' : Nat) (bd bd' : Int) (c l c' l' : Nat → Int) (w : World) (hn : n ≤ 1048576) (hr : Rd w w.heap.size A n c l) (hr' : Rd w w.heap.size A' n' c' l') :
    Calls Try.prog 60 #[.agg #[.slice A n cap, .int .i64 bd], .agg #[.slice A' n' cap', .int .i64 bd']] w fun e w' => e = .returned (.bool (same n n' c l c' l' bd bd')) ∧ Below w.heap.size w w' := by
  by_cases hbd : bd = bd'
  · subst hbd
    go_enter Try.func60, Try.ntmps60
    go_wp2_with (go_at_call 96; refine (slicesEqual_any _ _ _ _ _ _ c l c' l' _ hn ((hr.below (by repeat (first | exact Below.refl _ _ | refine bl_alloc ?_ _))).more (by simp; omega)) ((hr'.below (by repeat (first | exact Below.refl _ _ | refine bl_alloc ?_ _))).more (by simp; omega))).mono ?_; rintro e w' ⟨rfl, hb⟩)
    go_ret
    exact ⟨ret_bool (by simp [same]), bl_trans (bl_alloc (bl_alloc (Below.refl _ _) _) _) hb⟩
  · have hne := same_no (n := n) (n' := n') (c := c) (l := l) (c' := c') (l' := l') (.inl hbd)
    have Hne := Lib.hid hne
    clear hne
    have hd : (bd == bd') = false := by simpa using hbd
    clear hbd
    go_enter Try.func60, Try.ntmps60
    go_wp2
    go_ret
    exact ⟨ret_bool Hne.out.symm, bl_alloc (bl_alloc (Below.refl _ _) _) _⟩
end Go.Proofs.Ytbebdhjhlheboaa

namespace Go.Proofs.Ytbebdhjhlheboaa
open Go.ChangeShapes Go.WideShapes Go.ChangeAt Go.RowKit

theorem same_refl9 (n : Nat) (c l : Nat → Int) (bd : Int) : same n n c l c l bd bd = true := by simp [same, tseq_refl]

set_option maxRecDepth 100000 in
set_option maxHeartbeats 1600000 in
theorem cpProblem_same (A A' : Option Addr) (n cap cap' : Nat) (p : Nat → Con) (w : World) (hn : n ≤ 1048576) (hn' : ∀ i, i < n → (p i).n ≤ 1048576) (hr : RdP w w.heap.size A n p) (hr' : RdP w w.heap.size A' n p) :
    Calls Try.prog 25 #[.slice A n cap, .slice A' n cap'] w fun e w' => e = .returned (.bool true) ∧ Below w.heap.size w w' := by
  have HR := Lib.hid hr
  have HR' := Lib.hid hr'
  have HN := Lib.hid hn'
  clear hr hr' hn'
  go_enter Try.func25, Try.ntmps25
  go_wp2
  go_loopw [5] (fun i wr => ∃ k : Nat, k ≤ n ∧ i = .int .i64 k ∧ Below w.heap.size w wr) (fun i _ => n - (intOf i).toNat)
  case atStart => exact ⟨0, Nat.zero_le _, rfl, Below.refl _ _⟩
  case round =>
    obtain ⟨k, hk, rfl, hb⟩ := hrel
    have HB := Lib.hid hb
    clear hb
    by_cases hlt : k < n
    · obtain ⟨b, off, rfl, hbl, hc⟩ := (HR.out.later HB.out) (by omega)
      obtain ⟨b', off', rfl, hbl', hc'⟩ := (HR'.out.later HB.out) (by omega)
      obtain ⟨Ai, ci, hx0, hx1, hx2⟩ := hc k hlt
      obtain ⟨Aj, cj, hy0, hy1, hy2⟩ := hc' k hlt
      have HX := Lib.hid (hx2.later ((Below.refl _ _).drew))
      have HY := Lib.hid (hy2.later ((Below.refl _ _).drew))
      have hq := HN.out k hlt
      have Hs := Lib.hid (same_refl9 (p k).n (p k).c (p k).l (p k).bd)
      have hltI : (k : Int) < (n : Int) := by omega
      have hk0 : (0 : Int) ≤ (k : Int) := by omega
      clear hc hc' hx2 hy2
      go_wp2_with fail
      go_still_tail 8, (by kernel_rfl)
      change wpList _ _ _ _ _ wr.drew
      go_wp2_with (go_at_call 60; refine (implSame_any _ _ _ _ _ _ _ _ _ _ _ _ _ hq HX.out HY.out).mono ?_; rintro e w' ⟨rfl, hb1⟩; rw [Hs.out])
      go_roundw
      case rel => exact ⟨k + 1, by omega, by go_num, bl_trans HB.out.drew hb1⟩
      case measure => simp [intOf]; omega
    · have e : k = n := by omega
      subst e
      go_wp2
      go_ret
      exact ⟨rfl, HB.out⟩
end Go.Proofs.Ytbebdhjhlheboaa

namespace Go.Proofs.Ytbebdhjhlheboaa
open Go.ChangeShapes Go.WideShapes Go.ChangeAt Go.RowKit

/-- A block of elements of type T that holds at least n Booleans: the first k of them are known. -/
def OwnVb (w : World) (G : Nat) (T : TypeId) (n k : Nat) (v : Nat → Bool) : Prop :=
  ∃ cs : Array Value, w.heap[G]? = some (.cells cs T (0, 0)) ∧ n ≤ cs.size ∧ ∀ i, i < k → cs[i]? = some (.bool (v i))
section
variable {w w' : World} {G n k : Nat} {T : TypeId} {v v' : Nat → Bool}
theorem OwnB.toV (h : OwnB w G n k v) : OwnVb w G 4 n k v := by
  obtain ⟨cs, hh, h1, h2⟩ := h
  exact ⟨cs, hh, by omega, h2⟩
theorem OwnVb.zero (h : OwnVb w G T n k v) : OwnVb w G T n 0 v' := by
  obtain ⟨cs, hh, h1, _⟩ := h
  exact ⟨cs, hh, h1, fun i hi => absurd hi (by omega)⟩
theorem OwnVb.at_ (h : OwnVb w G T n k v) (hg : w'.heap[G]? = w.heap[G]?) : OwnVb w' G T n k v := by
  obtain ⟨cs, hh, h1, h2⟩ := h
  exact ⟨cs, hg.trans hh, h1, h2⟩
theorem OwnVb.lt (h : OwnVb w G T n k v) : G < w.heap.size := by
  obtain ⟨cs, hh, _, _⟩ := h
  rcases Nat.lt_or_ge G w.heap.size with hlt | hge
  · exact hlt
  · rw [Array.getElem?_eq_none hge] at hh; cases hh
theorem OwnVb.below (h : OwnVb w G T n k v) (hb : Below w.heap.size w w') : OwnVb w' G T n k v := h.at_ (hb.block G h.lt)
theorem OwnVb.rdAt (h : OwnVb w G T n n v) : RdB w w.heap.size (some ⟨G, 0, none⟩) n v := fun _ => by
  have hlt := h.lt
  obtain ⟨cs, hh, h1, h2⟩ := h
  refine ⟨G, 0, rfl, hlt, fun i hi => ?_⟩
  rw [Nat.zero_add]
  exact (cell_of_row w G _ cs _ _ hh).trans (h2 i hi)
theorem OwnVb.cell (h : OwnVb w G T n k v) {j : Nat} (hj : j < n) : ∃ u, w.cell? ⟨G, j, none⟩ = some u := by
  obtain ⟨cs, hh, h1, h2⟩ := h
  exact ⟨cs[j]'(by omega), (cell_of_row w G _ cs _ _ hh).trans (Array.getElem?_eq_getElem (by omega))⟩
theorem OwnVb.frozen (h : OwnVb w G T n k v) (j : Nat) : w.frozen? ⟨G, j, none⟩ = false := by
  obtain ⟨cs, hh, h1, h2⟩ := h
  simp [World.frozen?, hh]
theorem OwnVb.put (h : OwnVb w G T n k v) (hk : k < n) : OwnVb (w.setCell ⟨G, k, none⟩ (.bool (v k))) G T n (k + 1) v := by
  obtain ⟨cs, hh, h1, h2⟩ := h
  refine ⟨cs.setIfInBounds k (.bool (v k)), ?_, by simp [h1], fun i hi => ?_⟩
  · simp [World.setCell, Array.getElem?_modify, hh]
  · simp only [Array.getElem?_setIfInBounds]
    by_cases e : i = k
    · subst e
      rw [if_pos rfl, if_pos (by omega)]
    · rw [if_neg (by omega)]
      exact h2 i (by omega)
end

/-- A slice of Booleans that a call has made: nothing, or the head of a block of its own from B on. -/
def FrB (w : World) (B : Nat) (T : TypeId) (A : Option Addr) (n : Nat) (v : Nat → Bool) : Prop := n = 0 ∨ ∃ G, A = some ⟨G, 0, none⟩ ∧ B ≤ G ∧ OwnVb w G T n n v
section
variable {w w' : World} {B B' n n' : Nat} {T : TypeId} {A A' : Option Addr} {v : Nat → Bool}
theorem FrB.rdAt (h : FrB w B T A n v) : RdB w w.heap.size A n v := by
  rcases h with h | ⟨G, rfl, _, h⟩
  · exact fun hn => absurd hn (by omega)
  · exact h.rdAt
theorem FrB.below (h : FrB w B T A n v) (hb : Below w.heap.size w w') : FrB w' B T A n v := by
  rcases h with h | ⟨G, e, hG, h⟩
  · exact .inl h
  · exact .inr ⟨G, e, hG, h.below hb⟩
theorem FrB.more (h : FrB w B T A n v) (hB : B' ≤ B) : FrB w B' T A n v := by
  rcases h with h | ⟨G, e, hG, h⟩
  · exact .inl h
  · exact .inr ⟨G, e, by omega, h⟩
theorem Only.belowB (h : Only w w' A n) (hf : FrB w B T A n v) (hB : B ≤ w.heap.size) : Below B w w' :=
  ⟨h.os, h.tape, h.output, h.size, fun k hk => h.block k (by omega) (by
    rcases hf with h0 | ⟨G, rfl, hG, _⟩
    · exact .inl h0
    · right
      intro a ha
      cases ha
      show k ≠ G
      omega)⟩
end

/-- Such a slice in a block from lo on and below hi. -/
def FB2 (w : World) (lo hi : Nat) (T : TypeId) (A : Option Addr) (n : Nat) (v : Nat → Bool) : Prop := n = 0 ∨ ∃ G, A = some ⟨G, 0, none⟩ ∧ lo ≤ G ∧ G < hi ∧ OwnVb w G T n n v
section
variable {w w' : World} {lo hi : Nat} {T : TypeId} {A A' : Option Addr} {n n' : Nat} {v : Nat → Bool}
theorem FrB.two (h : FrB w lo T A n v) : FB2 w lo w.heap.size T A n v := by
  rcases h with h | ⟨G, e, hG, h⟩
  · exact .inl h
  · exact .inr ⟨G, e, hG, h.lt, h⟩
theorem FB2.one (h : FB2 w lo hi T A n v) : FrB w lo T A n v := by
  rcases h with h | ⟨G, e, hG, _, h⟩
  · exact .inl h
  · exact .inr ⟨G, e, hG, h⟩
theorem FB2.rdAt (h : FB2 w lo hi T A n v) : RdB w w.heap.size A n v := h.one.rdAt
theorem FB2.below (h : FB2 w lo hi T A n v) (hb : Below w.heap.size w w') : FB2 w' lo hi T A n v := by
  rcases h with h | ⟨G, e, hG, hG', h⟩
  · exact .inl h
  · exact .inr ⟨G, e, hG, hG', h.below hb⟩
theorem FB2.only (h : FB2 w lo hi T A n v) (ho : Only w w' A' n') (hd : n' = 0 ∨ ∀ a, A' = some a → a.block < lo ∨ hi ≤ a.block) : FB2 w' lo hi T A n v := by
  rcases h with h | ⟨G, e, hG, hG', h⟩
  · exact .inl h
  · refine .inr ⟨G, e, hG, hG', h.at_ (ho.block G h.lt ?_)⟩
    rcases hd with h0 | hd
    · exact .inl h0
    · exact .inr fun a ha hh => by have := hd a ha; omega
theorem FB2.apart (h : FB2 w lo hi T A n v) {lo' hi' : Nat} (hh : hi ≤ lo' ∨ hi' ≤ lo) : n = 0 ∨ ∀ a, A = some a → a.block < lo' ∨ hi' ≤ a.block := by
  rcases h with h | ⟨G, e, hG, hG', _⟩
  · exact .inl h
  · refine .inr fun a ha => ?_
    rw [e] at ha
    cases ha
    show G < lo' ∨ hi' ≤ G
    omega
theorem FB2.cell (h : FB2 w lo hi T A n v) (ho : Only w w' A n) {p : Addr} {u : Value} (hp : p.block < lo ∨ hi ≤ p.block) (hc : w.cell? p = some u) : w'.cell? p = some u := by
  refine (World.cell?_of_block (w := w) (ho.block p.block (World.block_lt_of_cell? w p hc) ?_)).trans hc
  rcases h with h | ⟨G, e, hG, hG', _⟩
  · exact .inl h
  · refine .inr fun a ha hh => ?_
    rw [e] at ha
    cases ha
    have : p.block = G := hh
    omega
theorem Only.belB (ho : Only w w' A n) (h : FB2 w lo hi T A n v) {W : World} (hb : Below W.heap.size W w) (hlo : W.heap.size ≤ lo) : Below W.heap.size W w' :=
  hb.trans ((ho.belowB (B := W.heap.size) (h.one.more hlo) hb.size))
end

/-- The Booleans that the marking lays. -/
def mkBl (k : Int) (i : Nat) : Bool := ((k + (i : Int)) % 3 == 0)
end Go.Proofs.Ytbebdhjhlheboaa

namespace Go.Proofs.Ytbebdhjhlheboaa
open Go.ChangeShapes Go.WideShapes Go.ChangeAt Go.RowKit

/-- A row of n elements that a call has made: its cells begin as xs says. -/
def RowX (w : World) (B : Nat) (e : TypeId) (A : Option Addr) (n : Nat) (xs : List Value) : Prop :=
  n = 0 ∨ ∃ (g : Nat) (cs : Array Value), A = some ⟨g, 0, none⟩ ∧ B ≤ g ∧ w.heap[g]? = some (.cells cs e (0, 0)) ∧ ∀ (j : Nat) (u : Value), xs[j]? = some u → cs[j]? = some u
/-- What a row that comes in says. -/
def SrcX (w : World) (A : Option Addr) (n : Nat) (xs : List Value) : Prop := 0 < n → ∃ a, A = some a ∧ ∀ (j : Nat) (u : Value), xs[j]? = some u → w.cell? (a.add j) = some u

theorem run_cpX (W : World) {B0 : Nat} (t e : TypeId) (i : TypeInfo) (z : Value) (size bytes : Nat) (ht : Try.prog.underlying t = some (.slice e)) (hi : Try.prog.info? e = some i) (hz : i.zero = some z)
    (hsize : i.size = size) (hby : i.bytes = bytes) (hzs : z.cells.size = size) (hsz : 0 < size) {v : Value} {n cap : Nat} {a : Addr} {xs : List Value} (hl : xs.length = n * size) (hown : W.ownsRow B0 e size v 0 []) (hlt : ∀ j, v.ownBlock = some j → B0 ≤ j)
    (hc : 0 < n → ∀ j u, xs[j]? = some u → W.cell? (a.add j) = some u) (h1 : ∀ u ∈ xs, u.oneCell' = true) (hm : n ≤ maxLen) (hbytes : n * bytes ≤ 140737488355328) (hB : B0 ≤ W.heap.size) :
    ∃ A' cap' w', (Builtin.append_ #[t, t] t #[v, .slice (some a) n cap]).run Try.prog W = .ok (.slice A' n cap') w' ∧ RowX w' B0 e A' n xs ∧ Below B0 W w' := by
  have hc' : ∀ j u, xs[j]? = some u → W.cell? (a.add j) = some u := fun j u hj => by
    rcases Nat.eq_zero_or_pos n with e0 | e0
    · rw [e0, Nat.zero_mul] at hl
      rw [List.eq_nil_of_length_eq_zero hl] at hj
      cases hj
    · exact hc e0 j u hj
  obtain ⟨v', w', k1, k2, k3, _, _⟩ := run_append_own_at (P := Try.prog) W B0 t t e i z size bytes ht hi hz hsize hby hzs hsz v 0 _ hown a n cap xs hl hc' h1 (by omega) (by rw [Nat.zero_add]; exact hbytes) hB
  have hb := (Below.refl B0 W).grown k3 hB hlt
  rcases k2.2 with ⟨e1, h⟩ | ⟨g, cap', cur, e1, hg, hh, hnc, _, hsz', htk⟩
  · obtain rfl : n = 0 := by omega
    exact ⟨none, 0, w', by rw [k1, e1], .inl rfl, hb⟩
  · simp only [Nat.zero_add] at e1
    refine ⟨some ⟨g, 0, none⟩, cap', w', by rw [k1, e1], .inr ⟨g, cur, rfl, hg, hh, fun j u hj => ?_⟩, hb⟩
    have hjl : j < n * size := by
      rw [← hl]
      rcases Nat.lt_or_ge j xs.length with hlt' | hge
      · exact hlt'
      · rw [List.getElem?_eq_none hge] at hj; cases hj
    have h3 : ([] ++ xs)[j]? = some u := by rw [List.nil_append]; exact hj
    rw [← htk, List.getElem?_take_of_lt (by rw [Nat.zero_add]; exact hjl)] at h3
    simpa using h3
theorem wpX_cp {o : Oper} {c : Act} {K : Act → World → Prop} {Q : Exit → Act → World → Prop} {W : World} (s x : Operand) (t e : TypeId)
    (ho : o.op = .call { callee := .builtin .append, args := #[s, x], argTypes := #[t, t] }) (hty : o.type = t) (i : TypeInfo) (z : Value) (size bytes : Nat) (ht : Try.prog.underlying t = some (.slice e)) (hi : Try.prog.info? e = some i) (hz : i.zero = some z)
    (hsize : i.size = size) (hby : i.bytes = bytes) (hzs : z.cells.size = size) (hsz : 0 < size) {B0 : Nat} {v : Value} {n cap : Nat} {a : Addr} {xs : List Value} (hs : c.eval s = v) (hx : c.eval x = .slice (some a) n cap) (hl : xs.length = n * size)
    (hown : W.ownsRow B0 e size v 0 []) (hlt : ∀ j, v.ownBlock = some j → B0 ≤ j) (hc : 0 < n → ∀ j u, xs[j]? = some u → W.cell? (a.add j) = some u) (h1 : ∀ u ∈ xs, u.oneCell' = true) (hm : n ≤ maxLen) (hbytes : n * bytes ≤ 140737488355328) (hB : B0 ≤ W.heap.size)
    (h : ∀ A' cap' w', RowX w' B0 e A' n xs → Below B0 W w' → K (c.put o.dst (.slice A' n cap')) w') :
    o.wp Try.prog c W K Q := by
  obtain ⟨A', cap', w', hrun, h2, h3⟩ := run_cpX W t e i z size bytes ht hi hz hsize hby hzs hsz hl hown hlt hc h1 hm hbytes hB (cap := cap)
  unfold Oper.wp execOp
  simp only [ho, hty, resolve, invoke, builtin, Sem.run_bind, Sem.run_pure, Result.andThen_ok, List.map_toArray, List.map_cons, List.map_nil, hs, hx, hrun]
  exact h A' cap' w' h2 h3
theorem rowX_new (W : World) (e : TypeId) (size : Nat) : (W.alloc (.cells #[] e)).ownsRow W.heap.size e size (.slice (some ⟨W.heap.size, 0, none⟩) 0 0) 0 [] := by
  simpa using World.ownsRow_lit W #[] 0 (e := e) (size := size) (Nat.le_refl _) (by unfold maxLen; omega) (by simp)

end Go.Proofs.Ytbebdhjhlheboaa

namespace Go.Proofs.Ytbebdhjhlheboaa
open Go.ChangeShapes Go.WideShapes Go.ChangeAt Go.RowKit

/-- What Booleans say, cell by cell. -/
def valB (v : Nat → Bool) (n : Nat) : List Value := (List.range n).map fun i => .bool (v i)
theorem valB_len (v : Nat → Bool) (n : Nat) : (valB v n).length = n := by simp [valB]
theorem valB_at {v : Nat → Bool} {n i : Nat} (hi : i < n) : (valB v n)[i]? = some (.bool (v i)) := by simp [valB, hi]
theorem valB_one (v : Nat → Bool) (n : Nat) : ∀ u ∈ valB v n, u.oneCell' = true := by
  intro u hu
  simp only [valB, List.mem_map] at hu
  obtain ⟨i, _, rfl⟩ := hu
  rfl
theorem valB_inv {v : Nat → Bool} {n j : Nat} {u : Value} (h : (valB v n)[j]? = some u) : j < n ∧ u = .bool (v j) := by
  have hj : j < n := by
    rcases Nat.lt_or_ge j n with hlt | hge
    · exact hlt
    · rw [List.getElem?_eq_none (by rw [valB_len]; exact hge)] at h; cases h
  rw [valB_at hj] at h
  injection h with h
  exact ⟨hj, h.symm⟩
theorem srcB {w : World} {A : Option Addr} {n : Nat} {v : Nat → Bool} (h : RdB w w.heap.size A n v) : SrcX w A n (valB v n) := fun hn => by
  obtain ⟨b, off, e, _, hc⟩ := h hn
  refine ⟨_, e, fun j u hj => ?_⟩
  obtain ⟨hl, rfl⟩ := valB_inv hj
  rw [Go.WideShapes.add_plain]
  exact hc j hl
theorem RowX.bools {w : World} {B : Nat} {A : Option Addr} {n : Nat} {v : Nat → Bool} (h : RowX w B 4 A n (valB v n)) (h0 : 0 < n) : ∃ g, A = some ⟨g, 0, none⟩ ∧ B ≤ g ∧ OwnVb w g 4 n n v := by
  rcases h with h | ⟨g, cs, e, hg, hh, hx⟩
  · omega
  · refine ⟨g, e, hg, cs, hh, ?_, fun i hi => hx i _ (valB_at hi)⟩
    have := hx (n - 1) _ (valB_at (by omega))
    rcases Nat.lt_or_ge (n - 1) cs.size with hlt | hge
    · omega
    · rw [Array.getElem?_eq_none hge] at this; cases this
/-- A store into a row of Booleans that are known. -/
theorem OwnVb.turn {w : World} {G n : Nat} {T : TypeId} {v v' : Nat → Bool} {i : Nat} {b : Bool} (h : OwnVb w G T n n v) (hi : i < n) (hv : ∀ j, j < n → v' j = if j = i then b else v j) : OwnVb (w.setCell ⟨G, i, none⟩ (.bool b)) G T n n v' := by
  obtain ⟨cs, hh, h1, h2⟩ := h
  refine ⟨cs.setIfInBounds i (.bool b), by simp [World.setCell, Array.getElem?_modify, hh], by simp [h1], fun j hj => ?_⟩
  rw [Array.getElem?_setIfInBounds, hv j hj]
  by_cases e : i = j
  · subst e
    rw [if_pos rfl, if_pos (by omega), if_pos rfl]
  · rw [if_neg e, if_neg (by omega)]
    exact h2 j hj
end Go.Proofs.Ytbebdhjhlheboaa

