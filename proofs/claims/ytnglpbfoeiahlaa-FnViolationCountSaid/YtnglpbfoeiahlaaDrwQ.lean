/- The draw of a problem (no claim of its own). Conditions: as each theorem states. -/
import Derived.Test.YtnglpbfoeiahlaaDrwP
namespace Go.Proofs.Ytnglpbfoeiahlaa
open Go.ChangeShapes Go.WideShapes Go.ChangeAt Go.RowKit

/-- What the draw of a problem leaves. -/
def PDr (w : World) (R K N : Nat) (e : Ending) (w' : World) : Prop := ∃ A k cap xs, e = .returned (.slice A k cap) ∧ k ≤ 8 ∧ (A = none → cap = 0) ∧ (A = none → k = 0) ∧ PX w' w.heap.size (R + 1) N (.slice A k cap) k xs ∧ Gr R w w' ∧ Rdr w' R K
theorem PX.nils {w : World} {lo el N k cap : Nat} {A : Option Addr} {xs : List Value} (h : PX w lo el N (.slice A k cap) k xs) : (A = none → cap = 0) ∧ (A = none → k = 0) := by
  rcases h.nil_or with ⟨e, hk⟩ | ⟨g, cap0, cur, e, _⟩
  · cases e; exact ⟨(fun _ => rfl), (fun _ => rfl)⟩
  · cases e; exact ⟨(fun h => by cases h), (fun h => by cases h)⟩

set_option maxRecDepth 100000 in
set_option maxHeartbeats 3200000 in
theorem problem_any (R K : Nat) (w : World) (hK : K ≤ 800000) (h : Rdr w R K) :
    Calls Try.prog 76 #[.pointer (some ⟨R, 0, none⟩)] w (PDr w R (K + 1000) 12) := by
  have hRw := h.lt
  have HR := Lib.hid h
  clear h
  go_enter Try.func76, Try.ntmps76
  go_upto_region 2 with fail
  have HB0 := Lib.hid (bl_alloc (Below.refl w.heap.size w) (.cells #[] 71))
  have HP0 := Lib.hid (px_lit w (R + 1) 12)
  have hz0 : w.heap.size < (w.alloc (.cells #[] 71)).heap.size := by simp
  generalize w.alloc (.cells #[] 71) = W0 at *
  have RD0 := Lib.hid (HR.out.bel HB0.out)
  have GR0 := Lib.hid (Gr.of (R := R) HB0.out)
  go_wp2_with fail
  refine (num_from (bl_alloc (Below.refl W0.heap.size W0) _) R K W0.heap.size 4 _ _ (by omega) RD0.out (by omega) (heap_alloc_new W0 _) (by rfl) (by omega) (by omega) (lit_all [4, 5, 3, 6])).mono ?_
  rintro e w1 ⟨m, rfl, hmem, hg, hr⟩
  obtain ⟨mm, rfl, hmm⟩ : ∃ q : Nat, m = (q : Int) ∧ q ≤ 12 := by
    simp [vI] at hmem
    rcases hmem with e | e | e | e
    · exact ⟨4, e, by omega⟩
    · exact ⟨5, e, by omega⟩
    · exact ⟨3, e, by omega⟩
    · exact ⟨6, e, by omega⟩
  have GR1 := Lib.hid (GR0.out.trans hg)
  have RD1 := Lib.hid hr
  have HP1 := Lib.hid (HP0.out.gr hg hRw (by omega))
  have hz1 : w.heap.size < w1.heap.size := Nat.lt_of_lt_of_le hz0 hg.size
  clear hg hr hmem GR0 RD0 HP0
  go_wp2_with fail
  refine (num_from (bl_alloc (Below.refl w1.heap.size w1) _) R (K + 1) w1.heap.size 7 _ _ (by omega) RD1.out (by omega) (heap_alloc_new w1 _) (by rfl) (by omega) (by omega) (lit_all [4, 6, 3, 8, 2, 1, 0])).mono ?_
  rintro e w2 ⟨i0, rfl, hmem, hg, hr⟩
  obtain ⟨ii, rfl, hii⟩ : ∃ q : Nat, i0 = (q : Int) ∧ q ≤ 8 := by
    simp [vI] at hmem
    rcases hmem with e | e | e | e | e | e | e
    · exact ⟨4, e, by omega⟩
    · exact ⟨6, e, by omega⟩
    · exact ⟨3, e, by omega⟩
    · exact ⟨8, e, by omega⟩
    · exact ⟨2, e, by omega⟩
    · exact ⟨1, e, by omega⟩
    · exact ⟨0, e, by omega⟩
  have GR2 := Lib.hid (GR1.out.trans hg)
  have RD2 := Lib.hid hr
  have HP2 := Lib.hid (HP1.out.gr hg hRw (by omega))
  have hz2 : w.heap.size < w2.heap.size := Nat.lt_of_lt_of_le hz1 hg.size
  clear hg hr hmem GR1 RD1 HP1
  go_wp2
  go_loopw [3, 5] (fun t i wr => ∃ (j k : Nat) (xs : List Value), k + j ≤ 8 ∧ i = .int .i64 j ∧ PX wr w.heap.size (R + 1) 12 t k xs ∧ Gr R w wr ∧ Rdr wr R (K + 2 + 100 * k)) (fun _ i _ => (intOf i).toNat)
  case atStart => exact ⟨ii, 0, _, by omega, rfl, HP2.out, GR2.out, RD2.out⟩
  case round =>
    obtain ⟨j, k, xs, hjk, rfl, hp, hgr, hrd⟩ := hrel
    have HP := Lib.hid hp
    have GR := Lib.hid hgr
    have RD := Lib.hid hrd
    have hsz : w.heap.size ≤ wr.heap.size := hgr.size
    clear hp hgr hrd
    cases j with
    | zero =>
      rcases HP.out.nil_or with ⟨e, hk0⟩ | ⟨g, cap0, cur, e, _⟩
      · subst e
        subst hk0
        go_wp2
        go_ret
        exact ⟨_, 0, _, _, rfl, by omega, fun _ => rfl, fun _ => rfl, HP.out, GR.out, RD.out.more (by omega)⟩
      · subst e
        go_wp2
        go_ret
        exact ⟨_, k, _, _, rfl, by omega, (HP.out.nils).1, (HP.out.nils).2, HP.out, GR.out, RD.out.more (by omega)⟩
    | succ j =>
      have hj1 : (0 : Int) < ((j + 1 : Nat) : Int) := by omega
      go_wp2_with fail
      refine (draw_any R (K + 2 + 100 * k) mm _ (by omega) hmm RD.out).mono ?_
      rintro e w3 ⟨A', n, cap', bd, rfl, hn, hfe, hg, hr, hcp⟩
      have HP3 := Lib.hid (HP.out.gr hg hRw (by omega))
      have GR3 := Lib.hid (GR.out.trans hg)
      have RD3 := Lib.hid hr
      have HE := Lib.hid (show El w3 (R + 1) 12 (.slice A' n cap') (.int .i64 bd) from ⟨A', n, cap', bd, rfl, rfl, by omega, hfe.more (by omega), hcp⟩)
      have hz3 : w.heap.size ≤ w3.heap.size := GR3.out.size
      clear hfe hg hr hcp HP GR RD
      have HAl := Lib.hid (bl_alloc (Below.refl w3.heap.size w3) (.cells #[.slice A' n cap', .int .i64 bd] 71))
      go_wp2_with (at_builtin; refine wpList_plain (by rfl) fun K' hK' => ?_; refine wp_px1 _ _ (by rfl) (HP3.out.bel HAl.out) (by simp; omega) (by rfl) (by rfl) (heap_alloc_new _ _) (HE.out.bel HAl.out) (by omega) ?_; intro gg cap1 w4 zs hp4 hgr4; refine hK' _ _ ?_; clear hK' K')
      go_roundw
      case rel => exact ⟨j, k + 1, zs, by omega, by first | rfl | go_num | (congr 1; omega), hp4, (GR3.out.bel HAl.out).grow hgr4 (fun b e => (HP3.out.lt b e).1), ((RD3.out.bel HAl.out).grow hgr4 (fun b e => by have := (HP3.out.lt b e).1; omega)).more (by omega)⟩
      case measure => simp [intOf]; try omega
end Go.Proofs.Ytnglpbfoeiahlaa
