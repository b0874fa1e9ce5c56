/- The draw of ExtendsPartial's arguments (no claim of its own). Conditions: as each theorem states. -/
import Derived.Test.YtipblbcedkhmbaaDrwK
import Derived.Test.YtipblbcedkhmbaaExtA
namespace Go.Proofs.Ytipblbcedkhmbaa
open Go.ChangeShapes Go.WideShapes Go.ChangeAt Go.RowKit

section
variable {w w1 : World} {lo n R G k : Nat} {T : TypeId} {A : Option Addr} {v : Nat → Int} {u : Nat → Bool}
theorem fri_gr (h : FrI w lo T A n v) (hg : Gr R w w1) (hR : R < lo) : FrI w1 lo T A n v := by
  rcases h with h | ⟨G, e, hG, h⟩
  · exact .inl h
  · exact .inr ⟨G, e, hG, h.at_ (hg.block G h.lt (by intro e; cases e; omega))⟩
/-- Booleans in a block of the call's own. -/
def FBo (w : World) (G k : Nat) (u : Nat → Bool) : Prop := G < w.heap.size ∧ ∃ cs : Array Value, w.heap[G]? = some (.cells cs 4 (0, 0)) ∧ ∀ i, i < k → cs[i]? = some (.bool (u i))
theorem FBo.gr (h : FBo w G k u) (hg : Gr R w w1) (hR : G ≠ R) : FBo w1 G k u := by
  obtain ⟨h1, cs, hh, hc⟩ := h
  exact ⟨Nat.lt_of_lt_of_le h1 hg.size, cs, (hg.block G h1 (by intro e; cases e; exact hR rfl)).trans hh, hc⟩
theorem FBo.cell (h : FBo w G k u) {j : Nat} (hj : j < k) : w.cell? ⟨G, j, none⟩ = some (.bool (u j)) := by
  obtain ⟨h1, cs, hh, hc⟩ := h
  exact (cell_of_row w G _ cs _ _ hh).trans (hc j hj)
theorem FBo.frozen (h : FBo w G k u) (j : Nat) : w.frozen? ⟨G, j, none⟩ = false := by
  obtain ⟨h1, cs, hh, hc⟩ := h
  simp [World.frozen?, hh]
theorem FBo.upd (h : FBo w G k u) {j : Nat} (hj : j < k) (z : Bool) : FBo (w.setCell ⟨G, j, none⟩ (.bool z)) G k (fun i => if i = j then z else u i) := by
  obtain ⟨h1, cs, hh, hc⟩ := h
  have hsz : k ≤ cs.size ∨ k = 0 := by
    by_cases h0 : k = 0
    · exact .inr h0
    · have := (Array.getElem?_eq_some_iff.1 (hc (k - 1) (by omega))).1
      exact .inl (by omega)
  refine ⟨by simpa [World.setCell] using h1, cs.setIfInBounds j (.bool z), by simp [World.setCell, Array.getElem?_modify, hh], fun i hi => ?_⟩
  rw [Array.getElem?_setIfInBounds]
  by_cases e : i = j
  · subst e
    rw [if_pos rfl, if_pos (by omega)]
    show some (Value.bool z) = some (.bool (if i = i then z else u i))
    rw [if_pos rfl]
  · rw [if_neg (fun e' => e e'.symm)]
    show cs[i]? = some (.bool (if i = j then z else u i))
    rw [if_neg e]
    exact hc i hi
theorem FBo.rd (h : FBo w G k u) : RdB w w.heap.size (some ⟨G, 0, none⟩) k u := fun _ => by
  obtain ⟨h1, cs, hh, hc⟩ := h
  refine ⟨G, 0, rfl, h1, fun i hi => ?_⟩
  rw [Nat.zero_add]
  exact (cell_of_row w G _ cs _ _ hh).trans (hc i hi)
/-- A slice of ints in a block between lo and hi. -/
def FrJ (w : World) (lo hi : Nat) (A : Option Addr) (n : Nat) (v : Nat → Int) : Prop := n = 0 ∨ ∃ G, A = some ⟨G, 0, none⟩ ∧ lo ≤ G ∧ G < hi ∧ OwnV w G 3 n n v
theorem FrJ.gr {hi : Nat} (h : FrJ w lo hi A n v) (hg : Gr R w w1) (hR : R < lo) : FrJ w1 lo hi A n v := by
  rcases h with h | ⟨G, e, hG, hh, h⟩
  · exact .inl h
  · exact .inr ⟨G, e, hG, hh, h.at_ (hg.block G h.lt (by intro e; cases e; omega))⟩
theorem FrJ.set {hi : Nat} (h : FrJ w lo hi A n v) {p : Addr} (hp : hi ≤ p.block) (z : Value) : FrJ (w.setCell p z) lo hi A n v := by
  rcases h with h | ⟨G, e, hG, hh, h⟩
  · exact .inl h
  · exact .inr ⟨G, e, hG, hh, h.at_ (Below.heap_setCell w p z G (by omega))⟩
theorem FrJ.rd {hi : Nat} (h : FrJ w lo hi A n v) : RdI w w.heap.size A n v := by
  rcases h with h | ⟨G, rfl, _, _, h⟩
  · exact fun hn => absurd hn (by omega)
  · exact h.rdAt
/-- The values being drawn. -/
def VB (w : World) (lo G : Nat) (A : Option Addr) (k : Nat) (u : Nat → Bool) : Prop := k = 0 ∨ (A = some ⟨G, 0, none⟩ ∧ lo ≤ G ∧ FBo w G k u)
theorem VB.gr (h : VB w lo G A k u) (hg : Gr R w w1) (hR : R < lo) : VB w1 lo G A k u := by
  rcases h with h | ⟨e, hG, h⟩
  · exact .inl h
  · exact .inr ⟨e, hG, h.gr hg (by omega)⟩
theorem VB.rd (h : VB w lo G A k u) : RdB w w.heap.size A k u := by
  rcases h with h | ⟨rfl, _, h⟩
  · exact fun hn => absurd hn (by omega)
  · exact h.rd
end
/-- What the draw of a partial assignment and values leaves. -/
def DXp (w : World) (e : Ending) (w' : World) : Prop := ∃ Ap kp capp vp Av kv capv v, e = .returned (.tuple #[.slice Ap kp capp, .slice Av kv capv]) ∧ kp ≤ 12 ∧ kv ≤ 12 ∧ RdI w' w'.heap.size Ap kp vp ∧ RdB w' w'.heap.size Av kv v ∧ Below w.heap.size w w'

set_option maxRecDepth 100000 in
set_option maxHeartbeats 6400000 in
theorem drawExt_any (A : Option Addr) (n cap : Nat) (y : Nat → Int) (w : World) (hm : n ≤ maxLen) (hcap : n ≤ cap) (hr : RdY w w.heap.size A n y) :
    Calls Try.prog 25 #[.slice A n cap] w (DXp w) := by
  have HR := Lib.hid hr
  clear hr
  go_enter Try.func25, Try.ntmps25
  go_wp2_with fail
  refine (open_any _ _ _ y _ hm hcap HR.out).mono ?_
  rintro e w1 ⟨rfl, hb, hrd, hz1⟩
  have HB1 := Lib.hid hb
  have RD1 := Lib.hid hrd
  clear hb hrd
  go_wp2_with fail
  refine (partial_any w.heap.size 0 _ (by omega) RD1.out).mono ?_
  rintro e w2 ⟨Ap, kp, capp, vp, rfl, hkp, hF, hg, hr⟩
  have HF2 := Lib.hid hF
  have G2 := Lib.hid hg
  have RD2 := Lib.hid hr
  have hz12 : w1.heap.size ≤ w2.heap.size := hg.size
  clear hF hg hr RD1
  go_wp2_with fail
  refine (values_any w.heap.size (0 + 20) _ (by omega) RD2.out).mono ?_
  rintro e w3 ⟨Av, kv, capv, v, rfl, hkv, hFB, hg, hr⟩
  have HG23 := Lib.hid hg
  have G3 := Lib.hid (G2.out.trans hg)
  have RD3 := Lib.hid hr
  have hz23 : w2.heap.size ≤ w3.heap.size := hg.size
  clear hg hr RD2 G2
  have hJ3 : FrJ w3 w1.heap.size w2.heap.size Ap kp vp := by
    rcases HF2.out with h | ⟨G', e, hG', h⟩
    · exact .inl h
    · exact .inr ⟨G', e, hG', h.lt, h.at_ (HG23.out.block G' h.lt (by intro e; cases e; omega))⟩
  obtain ⟨G, hV3⟩ : ∃ G, VB w3 w2.heap.size G Av kv v := by
    rcases hFB with h0 | ⟨G, e, hG1, hG2, hFB⟩
    · exact ⟨0, .inl h0⟩
    · exact ⟨G, .inr ⟨e, hG1, hG2, hFB⟩⟩
  have HJ3 := Lib.hid hJ3
  have HV3 := Lib.hid hV3
  have hRw1 : w.heap.size < w1.heap.size := hz1
  clear hFB hJ3 hV3 HF2 HG23
  go_wp2
  go_loopw [7] (fun i wr => ∃ (j : Nat) (u : Nat → Bool), j ≤ 12 ∧ i = .int .i64 j ∧ VB wr w2.heap.size G Av kv u ∧ FrJ wr w1.heap.size w2.heap.size Ap kp vp ∧ Gr w.heap.size w1 wr ∧ Rdr wr w.heap.size (0 + 20 + 20 + j)) (fun i _ => 13 - (intOf i).toNat)
  case atStart => exact ⟨0, v, Nat.zero_le _, rfl, HV3.out, HJ3.out, G3.out, RD3.out⟩
  case round =>
    obtain ⟨j, u, hj, rfl, hvb, hfj, hgr, hrd⟩ := hrel
    have HV := Lib.hid hvb
    have HJ := Lib.hid hfj
    have GR := Lib.hid hgr
    have RD := Lib.hid hrd
    clear hvb hfj hgr hrd HV3 HJ3 G3 RD3
    by_cases h1 : j < kp
    · by_cases h2 : j < kv
      · have hjp : (j : Int) < (kp : Int) := by omega
        have hjv : (j : Int) < (kv : Int) := by omega
        have hj0 : (0 : Int) ≤ (j : Int) := by omega
        go_wp2_with fail
        refine (pick_any w.heap.size (0 + 20 + 20 + j) 12 _ (by omega) RD.out).mono ?_
        rintro e w4 ⟨x, rfl, hx0, hx1, hg, hr⟩
        have HV4 := Lib.hid (HV.out.gr hg (by omega))
        have HJ4 := Lib.hid (HJ.out.gr hg hRw1)
        have GR4 := Lib.hid (GR.out.trans hg)
        have RD4 := Lib.hid hr
        clear hg hr HV HJ GR RD
        by_cases hx : 0 < x
        · have hxd : decide (0 < x) = true := decide_eq_true hx
          obtain ⟨b, off, hA, hbl, hc⟩ := HJ4.out.rd (by omega)
          have hcj := hc j h1
          obtain hk | ⟨hAv, hGl, hfb⟩ := HV4.out
          · omega
          have hvj := hfb.cell h2
          have hfj := hfb.frozen j
          subst hA
          subst hAv
          clear hc hx0 hx1
          by_cases hz : vp j = 0
          · have hzd : (vp j != 0) = false := by rw [hz]; rfl
            clear hz
            go_wp2
            go_roundw
            case rel => exact ⟨j + 1, u, by omega, by go_num, HV4.out, HJ4.out, GR4.out, RD4.out.more (by omega)⟩
            case measure => simp [intOf]; omega
          · have hzd : (vp j != 0) = true := by rw [bne_iff_ne]; exact hz
            clear hz
            go_wp2
            go_roundw
            case rel => exact ⟨j + 1, _, by omega, by go_num, .inr ⟨rfl, hGl, hfb.upd h2 _⟩, HJ4.out.set (by show w2.heap.size ≤ G; exact hGl) _, GR4.out.set (p := ⟨G, j, none⟩) (.inr (by show w1.heap.size ≤ G; omega)) _, (RD4.out.set (p := ⟨G, j, none⟩) (by show w.heap.size < G; omega) _).more (by omega)⟩
            case measure => simp [intOf]; omega
        · have hxd : decide (0 < x) = false := decide_eq_false hx
          clear hx0 hx1 hx
          go_wp2
          refine bodyPost_ret (v := .tuple #[.slice Ap kp capp, .slice Av kv capv]) (by simp [results, Try.results25, go_sem]) rfl ?_
          exact ⟨_, _, _, vp, _, _, _, u, rfl, hkp, hkv, HJ4.out.rd, HV4.out.rd, gr_bel HB1.out GR4.out (Nat.le_refl _)⟩
      · have hjp : (j : Int) < (kp : Int) := by omega
        have hjv : ¬ (j : Int) < (kv : Int) := by omega
        go_wp2
        refine bodyPost_ret (v := .tuple #[.slice Ap kp capp, .slice Av kv capv]) (by simp [results, Try.results25, go_sem]) rfl ?_
        exact ⟨_, _, _, vp, _, _, _, u, rfl, hkp, hkv, HJ.out.rd, HV.out.rd, gr_bel HB1.out GR.out (Nat.le_refl _)⟩
    · have hjp : ¬ (j : Int) < (kp : Int) := by omega
      go_wp2
      refine bodyPost_ret (v := .tuple #[.slice Ap kp capp, .slice Av kv capv]) (by simp [results, Try.results25, go_sem]) rfl ?_
      exact ⟨_, _, _, vp, _, _, _, u, rfl, hkp, hkv, HJ.out.rd, HV.out.rd, gr_bel HB1.out GR.out (Nat.le_refl _)⟩
end Go.Proofs.Ytipblbcedkhmbaa
