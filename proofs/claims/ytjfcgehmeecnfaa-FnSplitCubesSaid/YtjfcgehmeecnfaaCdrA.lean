/- Draws of variables and of cubes (no claim of its own). Conditions: as each theorem states. -/
import Derived.Test.YtjfcgehmeecnfaaDrwJ
import Derived.Test.YtjfcgehmeecnfaaDrwE
namespace Go.Proofs.Ytjfcgehmeecnfaa
open Go.ChangeShapes Go.WideShapes Go.ChangeAt Go.RowKit

theorem tsx_head {w : World} {lo k s : Nat} {T : TypeId} {ov : Value} (h : TS w lo T s ov k) : ∃ A cap, ov = .slice A k cap := by
  obtain ⟨xs, h0, h1, h2⟩ := h
  rcases h0.2 with ⟨hov, hk⟩ | ⟨g, cap, cur, hov, _⟩
  · exact ⟨none, 0, by rw [hk]; exact hov⟩
  · exact ⟨_, cap, hov⟩
theorem tsx_more {w : World} {lo lo' k s : Nat} {T : TypeId} {ov : Value} (h : TS w lo T s ov k) (h1 : lo' ≤ lo) : TS w lo' T s ov k := by
  obtain ⟨xs, h0, hl, h2⟩ := h
  refine ⟨xs, ⟨h0.1, ?_⟩, hl, h2⟩
  rcases h0.2 with hh | ⟨g, cap, cur, e1, hg, hr⟩
  · exact .inl hh
  · exact .inr ⟨g, cap, cur, e1, by omega, hr⟩
theorem tsx_at {w : World} {lo k : Nat} {T : TypeId} {ov : Value} (h : TS w lo T 1 ov k) {j : Nat} (hj : j < k) : ∃ g cap z, ov = .slice (some ⟨g, 0, none⟩) k cap ∧ w.cell? ⟨g, j, none⟩ = some (.int .i64 z) ∧ w.frozen? ⟨g, j, none⟩ = false ∧ lo ≤ g := by
  obtain ⟨xs, h0, h1, h2⟩ := h
  rcases id h0.2 with ⟨_, hk⟩ | ⟨g, cap, cur, rfl, hg, hh, _⟩
  · omega
  · have hx : xs[j]? = some (xs[j]'(by omega)) := List.getElem?_eq_getElem (by omega)
    obtain ⟨z, hz⟩ := h2 _ (List.getElem_mem (by omega : j < xs.length))
    have := h0.cells rfl _ _ hx
    rw [Go.WideShapes.add_plain, Nat.zero_add, hz] at this
    exact ⟨g, cap, z, rfl, this, by simp [World.frozen?, hh], hg⟩
/-- A literal of ints that has just been made. -/
theorem tsx_lit (W : World) (L : List Int) (n : Nat) (hn : L.length = n) (hs : n ≤ 1000) : TS (W.alloc (.cells (L.map vI).toArray 3)) W.heap.size 3 1 (.slice (some ⟨W.heap.size, 0, none⟩) n n) n := by
  refine ⟨L.map vI, ?_, by simp [hn], fun u hu => lit_all L u hu⟩
  simpa [hn] using World.ownsRow_lit W (L.map vI).toArray n (e := 3) (size := 1) (Nat.le_refl _) (by unfold maxLen; omega) (by simp [hn])

/-- What the draw of variables or of a cube leaves. -/
def CbDr (w : World) (R K : Nat) (e : Ending) (w' : World) : Prop := ∃ A k cap, e = .returned (.slice A k cap) ∧ k ≤ 5 ∧ TS w' w.heap.size 3 1 (.slice A k cap) k ∧ Gr R w w' ∧ Rdr w' R K
theorem CbDr.of {w w' : World} {R K k : Nat} {V : Value} (h : TS w' w.heap.size 3 1 V k) (hk : k ≤ 5) (hg : Gr R w w') (hr : Rdr w' R K) : CbDr w R K (.returned V) w' := by
  obtain ⟨A, cap, rfl⟩ := tsx_head h
  exact ⟨A, k, cap, rfl, hk, h, hg, hr⟩

set_option maxRecDepth 100000 in
set_option maxHeartbeats 3200000 in
theorem l12Draw_any (R K : Nat) (w : World) (hK : K ≤ 900000) (h : Rdr w R K) :
    Calls Try.prog 73 #[.pointer (some ⟨R, 0, none⟩)] w (CbDr w R (K + 10)) := by
  have hRw := h.lt
  have HR := Lib.hid h
  clear h
  go_enter Try.func73, Try.ntmps73
  go_wp2
  go_loopw [3, 4] (fun t i wr => ∃ j k : Nat, j ≤ 5 ∧ k ≤ 3 ∧ i = .int .i64 ((j : Int) + 1) ∧ TS wr w.heap.size 3 1 t k ∧ Gr R w wr ∧ Rdr wr R (K + j)) (fun _ i _ => 6 - (intOf i).toNat)
  case atStart => exact ⟨0, 0, by omega, by omega, rfl, ts_lit w _ _, Gr.of (bl_alloc (Below.refl _ _) _), HR.out.bel (bl_alloc (Below.refl _ _) _)⟩
  case round =>
    obtain ⟨j, k, hj, hk, rfl, hts, hgr, hrd⟩ := hrel
    have TSk := Lib.hid hts
    have GR := Lib.hid hgr
    have RD := Lib.hid hrd
    obtain ⟨A1, cap1, rfl⟩ := tsx_head hts
    have hzr : w.heap.size ≤ wr.heap.size := hgr.size
    clear hts hgr hrd
    by_cases hlt : j < 5
    · have hlt' : (j : Int) + 1 ≤ 5 := by omega
      go_wp2_with fail
      refine (pick_any R (K + j) 2 _ (by omega) RD.out).mono ?_
      rintro e w2 ⟨x, rfl, hx0, hx1, hg, hr⟩
      have TS2 := Lib.hid (TSk.out.gr hg (by omega))
      have GR2 := Lib.hid (GR.out.trans hg)
      have RD2 := Lib.hid hr
      have hz2 : w.heap.size ≤ w2.heap.size := Nat.le_trans hzr hg.size
      clear hg hr TSk GR RD hx0 hx1
      by_cases h0 : x = 0
      · subst h0
        by_cases hk3 : k < 3
        · have hk3' : (k : Int) < 3 := by omega
          have HAl := Lib.hid (bl_alloc (Below.refl w2.heap.size w2) (.cells #[.int .i64 ((j : Int) + 1)] 3))
          go_wp2_with (at_builtin; refine wpList_plain (by rfl) fun K' hK' => ?_; refine wp_ts1 _ _ 22 (by rfl) Try.underlying22 Try.infoInt (TS2.out.bel HAl.out) (by simp; omega) (by rfl) (by rfl) (heap_alloc_new _ _) (by omega) ?_; intro gg cap1 w3 hts3 hgr3; refine hK' _ _ ?_; clear hK' K')
          go_roundw
          case rel => exact ⟨j + 1, k + 1, by omega, by omega, by go_num, hts3, (GR2.out.bel HAl.out).grow hgr3 (fun b e => by have := TS2.out.lt2 b e; omega), ((RD2.out.bel HAl.out).grow hgr3 (fun b e => by have := TS2.out.lt2 b e; omega)).more (by omega)⟩
          case measure => simp [intOf]; omega
        · have hk3' : ¬ (k : Int) < 3 := by omega
          go_wp2
          go_roundw
          case rel => exact ⟨j + 1, k, by omega, by omega, by go_num, TS2.out, GR2.out, RD2.out.more (by omega)⟩
          case measure => simp [intOf]; omega
      · have hd0 : (x == 0) = false := by rw [beq_eq_false_iff_ne]; exact h0
        go_wp2
        go_roundw
        case rel => exact ⟨j + 1, k, by omega, by omega, by go_num, TS2.out, GR2.out, RD2.out.more (by omega)⟩
        case measure => simp [intOf]; omega
    · obtain rfl : j = 5 := by omega
      clear hlt
      go_wp2_with fail
      refine (pick_any R (K + 5) 30 _ (by omega) RD.out).mono ?_
      rintro e w2 ⟨x, rfl, hx0, hx1, hg, hr⟩
      have TS2 := Lib.hid (TSk.out.gr hg (by omega))
      have GR2 := Lib.hid (GR.out.trans hg)
      have RD2 := Lib.hid hr
      have hz2 : w.heap.size ≤ w2.heap.size := Nat.le_trans hzr hg.size
      clear hg hr TSk GR RD hx0 hx1
      by_cases h0 : x = 0
      · subst h0
        go_wp2_with fail
        have HAl0 := Lib.hid (bl_alloc (Below.refl w2.heap.size w2) (.cells #[.int .i64 1, .int .i64 13, .int .i64 0, .int .i64 (-2)] 3))
        refine (num_any R (K + 5 + 1) w2.heap.size 4 _ _ _ (by omega) (RD2.out.bel HAl0.out) (by omega) (heap_alloc_new w2 _) (by rfl) (by omega) (by omega) (lit_all [1, 13, 0, -2])).mono ?_
        rintro e w3 ⟨z, rfl, _, hg, hr⟩
        have TS3 := Lib.hid ((TS2.out.bel HAl0.out).gr hg (by omega))
        have GR3 := Lib.hid ((GR2.out.bel HAl0.out).trans hg)
        have RD3 := Lib.hid hr
        have hz3 : w.heap.size ≤ w3.heap.size := Nat.le_trans hz2 (Nat.le_trans HAl0.out.size hg.size)
        clear hg hr TS2 GR2 RD2
        have HAl := Lib.hid (bl_alloc (Below.refl w3.heap.size w3) (.cells #[.int .i64 z] 3))
        go_wp2_with (at_builtin; refine wpList_plain (by rfl) fun K' hK' => ?_; refine wp_ts1 _ _ 22 (by rfl) Try.underlying22 Try.infoInt (TS3.out.bel HAl.out) (by simp; omega) (by rfl) (by rfl) (heap_alloc_new _ _) (by omega) ?_; intro gg cap1 w4 hts3 hgr3; refine hK' _ _ ?_; clear hK' K')
        go_ret
        exact CbDr.of hts3 (by omega) ((GR3.out.bel HAl.out).grow hgr3 (fun b e => by have := TS3.out.lt2 b e; omega)) (((RD3.out.bel HAl.out).grow hgr3 (fun b e => by have := TS3.out.lt2 b e; omega)).more (by omega))
      · have hd0 : (x == 0) = false := by rw [beq_eq_false_iff_ne]; exact h0
        by_cases h1 : x = 1
        · subst h1
          have T5 := Lib.hid (tsx_lit w2 [1, 2, 3, 4, 5] 5 rfl (by omega))
          have HAl := Lib.hid (bl_alloc (Below.refl w2.heap.size w2) (.cells ([1, 2, 3, 4, 5].map vI).toArray 3))
          go_wp2
          go_ret
          exact CbDr.of (tsx_more T5.out hz2) (by omega) (GR2.out.bel HAl.out) ((RD2.out.bel HAl.out).more (by omega))
        · have hd1 : (x == 1) = false := by rw [beq_eq_false_iff_ne]; exact h1
          by_cases h2 : x = 2
          · subst h2
            have T5 := Lib.hid (tsx_lit w2 [2, 4, 6, 12] 4 rfl (by omega))
            have HAl := Lib.hid (bl_alloc (Below.refl w2.heap.size w2) (.cells ([2, 4, 6, 12].map vI).toArray 3))
            go_wp2
            go_ret
            exact CbDr.of (tsx_more T5.out hz2) (by omega) (GR2.out.bel HAl.out) ((RD2.out.bel HAl.out).more (by omega))
          · have hd2 : (x == 2) = false := by rw [beq_eq_false_iff_ne]; exact h2
            go_wp2
            go_ret
            exact CbDr.of TS2.out (by omega) GR2.out (RD2.out.more (by omega))

set_option maxRecDepth 100000 in
set_option maxHeartbeats 3200000 in
theorem l12Signed_any (R K : Nat) (w : World) (hK : K ≤ 800000) (h : Rdr w R K) :
    Calls Try.prog 63 #[.pointer (some ⟨R, 0, none⟩)] w (CbDr w R (K + 20)) := by
  have hRw := h.lt
  have HR := Lib.hid h
  clear h
  go_enter Try.func63, Try.ntmps63
  go_wp2_with fail
  refine (l12Draw_any R K _ (by omega) HR.out).mono ?_
  rintro e w1 ⟨A, k, cap, rfl, hk, hts, hgr, hrd⟩
  have T1 := Lib.hid hts
  have G1 := Lib.hid hgr
  have R1 := Lib.hid hrd
  clear hts hgr hrd HR
  go_wp2
  go_loopw [4] (fun i wr => ∃ j : Nat, j ≤ k ∧ i = .int .i64 j ∧ TS wr w.heap.size 3 1 (.slice A k cap) k ∧ Gr R w wr ∧ Rdr wr R (K + 10 + j)) (fun i _ => k - (intOf i).toNat)
  case atStart => exact ⟨0, by omega, rfl, T1.out, G1.out, R1.out⟩
  case round =>
    obtain ⟨j, hj, rfl, hts, hgr, hrd⟩ := hrel
    have TSk := Lib.hid hts
    have GR := Lib.hid hgr
    have RD := Lib.hid hrd
    clear hts hgr hrd T1 G1 R1
    by_cases hlt : j < k
    · have hlt' : (j : Int) < (k : Int) := by omega
      have hj0 : (0 : Int) ≤ (j : Int) := by omega
      go_wp2_with fail
      refine (pick_any R (K + 10 + j) 2 _ (by omega) RD.out).mono ?_
      rintro e w2 ⟨x, rfl, hx0, hx1, hg, hr⟩
      have TS2 := Lib.hid (TSk.out.gr hg (by omega))
      have GR2 := Lib.hid (GR.out.trans hg)
      have RD2 := Lib.hid hr
      clear hg hr TSk GR RD hx0 hx1
      by_cases h0 : x = 0
      · subst h0
        obtain ⟨g, cp, z, e, cz, fz, hg0⟩ := tsx_at TS2.out hlt
        cases e
        go_wp2
        go_roundw
        case rel => exact ⟨j + 1, by omega, by go_num, TS2.out.store j _, GR2.out.set (.inr hg0) _, RD2.out.set (by show R < g; omega) _⟩
        case measure => simp [intOf]; omega
      · have hd0 : (x == 0) = false := by rw [beq_eq_false_iff_ne]; exact h0
        go_wp2
        go_roundw
        case rel => exact ⟨j + 1, by omega, by go_num, TS2.out, GR2.out, RD2.out⟩
        case measure => simp [intOf]; omega
    · obtain rfl : j = k := by omega
      go_wp2
      go_ret
      exact ⟨A, j, cap, rfl, hk, TSk.out, GR.out, RD.out.more (by omega)⟩
end Go.Proofs.Ytjfcgehmeecnfaa
