/- The draws of partial assignments and of values (no claim of its own). Conditions: as each theorem states. -/
import Derived.Test.YtbebdhjhlheboaaDrwD
namespace Go.Proofs.Ytbebdhjhlheboaa
open Go.ChangeShapes Go.WideShapes Go.ChangeAt Go.RowKit

section
variable {w w1 : World} {lo k s g cap : Nat} {T : TypeId} {ov : Value}
theorem TS.open (h : TS w lo T s ov k) (hk : 0 < k) : ∃ g cap, ov = .slice (some ⟨g, 0, none⟩) k cap ∧ k ≤ cap ∧ lo ≤ g ∧ g < w.heap.size ∧ (∀ j, j < k * s → ∃ u, w.cell? ⟨g, j, none⟩ = some u) ∧ ∀ j, w.frozen? ⟨g, j, none⟩ = false := by
  obtain ⟨xs, h0, h1, h2⟩ := h
  rcases h0.2 with ⟨_, h3⟩ | ⟨g, cap, cur, hov, hg, hh, hnc, _, hsz, htk⟩
  · omega
  · have hks : k * s ≤ cur.size := by rw [hsz]; exact Nat.mul_le_mul_right _ hnc
    refine ⟨g, cap, hov, hnc, hg, ?_, fun j hj => ⟨cur[j]'(by omega), (cell_of_row w g _ cur _ _ hh).trans (Array.getElem?_eq_getElem (by omega))⟩, fun j => by simp [World.frozen?, hh]⟩
    rcases Nat.lt_or_ge g w.heap.size with hlt | hge
    · exact hlt
    · rw [Array.getElem?_eq_none hge] at hh; cases hh
theorem TS.store (h : TS w lo T s (.slice (some ⟨g, 0, none⟩) k cap) k) (j : Nat) (z : Int) : TS (w.setCell ⟨g, j, none⟩ (.int .i64 z)) lo T s (.slice (some ⟨g, 0, none⟩) k cap) k := by
  obtain ⟨xs, h0, h1, h2⟩ := h
  refine ⟨_, (h0.stored j (.int .i64 z)).1, by simp [h1], fun u hu => ?_⟩
  rcases List.mem_or_eq_of_mem_set hu with hu | rfl
  · exact h2 u hu
  · exact ⟨z, rfl⟩
theorem FrI.short {B n n' : Nat} {A : Option Addr} {v : Nat → Int} (h : FrI w B T A n v) (hn : n' ≤ n) : FrI w B T A n' v := by
  rcases h with h | ⟨G, e, hG, cs, hh, h1, h2⟩
  · exact .inl (by omega)
  · exact .inr ⟨G, e, hG, cs, hh, by omega, fun i hi => h2 i (by omega)⟩
end

/-- What the draw of a slice of ints leaves. -/
def IDr (w : World) (R K : Nat) (e : Ending) (w' : World) : Prop := ∃ A k cap v, e = .returned (.slice A k cap) ∧ k ≤ 12 ∧ FrI w' w.heap.size 3 A k v ∧ Gr R w w' ∧ Rdr w' R K

set_option maxRecDepth 100000 in
set_option maxHeartbeats 3200000 in
theorem partial_any (R K : Nat) (w : World) (hK : K ≤ 900000) (h : Rdr w R K) :
    Calls Try.prog 57 #[.pointer (some ⟨R, 0, none⟩)] w (IDr w R (K + 20)) := by
  have hRw := h.lt
  have HR := Lib.hid h
  clear h
  go_enter Try.func57, Try.ntmps57
  go_wp2
  go_loopw [3, 4] (fun t i wr => ∃ k : Nat, k ≤ 12 ∧ i = .int .i64 k ∧ TS wr w.heap.size 3 1 t k ∧ Gr R w wr ∧ Rdr wr R (K + k)) (fun _ i _ => 12 - (intOf i).toNat)
  case atStart => exact ⟨0, Nat.zero_le _, rfl, ts_lit w 3 1, Gr.of (bl_alloc (Below.refl _ _) _), HR.out.bel (bl_alloc (Below.refl _ _) _)⟩
  case round =>
    obtain ⟨k, hk, rfl, hts, hgr, hrd⟩ := hrel
    have hRr := hrd.lt
    have TSk := Lib.hid hts
    have GR := Lib.hid hgr
    have RD := Lib.hid hrd
    have hsz : w.heap.size ≤ wr.heap.size := hgr.size
    clear hts hgr hrd
    by_cases hlt : k < 12
    · have hkK : K + k ≤ 1000000 := by omega
      go_wp2_with fail
      have HAl := Lib.hid (bl_alloc (Below.refl wr.heap.size wr) (.cells #[.int .i64 0, .int .i64 0, .int .i64 1, .int .i64 (-1), .int .i64 0] 3))
      refine (num_any R (K + k) wr.heap.size 5 _ _ _ hkK (RD.out.bel HAl.out) (by omega) (heap_alloc_new wr _) (by rfl) (by omega) (by omega) (lit_all [0, 0, 1, -1, 0])).mono ?_
      rintro e w2 ⟨z, rfl, _, hg, hr⟩
      have TS2 := Lib.hid ((TSk.out.bel HAl.out).gr hg hRw)
      have GR2 := Lib.hid ((GR.out.bel HAl.out).trans hg)
      have RD2 := Lib.hid hr
      have hsz2 : w.heap.size ≤ w2.heap.size := GR2.out.size
      clear hg hr
      go_wp2_with (at_builtin; refine wpList_plain (by rfl) fun K' hK' => ?_; refine wp_ts1 _ _ 23 (by rfl) Try.underlying23 Try.infoInt (TS2.out.bel (bl_alloc (Below.refl _ _) _)) (by simp; omega) (by rfl) (by rfl) (heap_alloc_new _ _) (by omega) ?_; intro gg cap1 w3 hts3 hgr3; refine hK' _ _ ?_; clear hK' K')
      go_roundw
      case rel => exact ⟨k + 1, by omega, by go_num, hts3, (GR2.out.bel (bl_alloc (Below.refl _ _) _)).grow hgr3 (fun j e => TS2.out.lt j e), (RD2.out.bel (bl_alloc (Below.refl _ _) _)).grow hgr3 (fun j e => by have := TS2.out.lt j e; omega)⟩
      case measure => simp [intOf]; omega
    · have e : k = 12 := by omega
      subst e
      obtain ⟨g, cap, rfl, hcap, hg1, hg2, hcell, hfro⟩ := TSk.out.open (by omega)
      obtain ⟨A', cap', v, e', hF⟩ := TSk.out.ints
      cases e'
      have HF := Lib.hid hF
      clear hF
      go_wp2_with fail
      refine (pick_any R (K + 12) 40 _ (by omega) RD.out).mono ?_
      rintro e w2 ⟨x, rfl, hx0, hx1, hg, hr⟩
      have TS2 := Lib.hid (TSk.out.gr hg hRw)
      have GR2 := Lib.hid (GR.out.trans hg)
      have RD2 := Lib.hid hr
      have hz2 := hg.size
      clear hg hr hcell hfro HF
      by_cases h0 : x = 0
      · subst h0
        clear hx0 hx1
        go_wp2_with fail
        have HAl := Lib.hid (bl_alloc (Below.refl w2.heap.size w2) (.cells #[.int .i64 2, .int .i64 (-2), .int .i64 9223372036854775807, .int .i64 (-9223372036854775808)] 3))
        refine (num_any R (K + 12 + 1) w2.heap.size 4 _ _ _ (by omega) (RD2.out.bel HAl.out) (by omega) (heap_alloc_new w2 _) (by rfl) (by omega) (by omega) (lit_all [2, -2, 9223372036854775807, -9223372036854775808])).mono ?_
        rintro e w3 ⟨z, rfl, _, hg, hr⟩
        have TS3 := Lib.hid ((TS2.out.bel HAl.out).gr hg hRw)
        have GR3 := Lib.hid ((GR2.out.bel HAl.out).trans hg)
        have RD3 := Lib.hid hr
        obtain ⟨g', cap'', e', _, _, hg3, hcell, hfro⟩ := TS3.out.open (by omega)
        cases e'
        obtain ⟨u0, hu0⟩ := hcell 0 (by omega)
        have hf0 := hfro 0
        clear hg hr hcell hfro
        go_wp2
        go_ret
        obtain ⟨A', cap', v, e', hF⟩ := (TS3.out.store 0 z).ints
        cases e'
        exact ⟨_, 12, _, v, rfl, Nat.le_refl _, hF, GR3.out.set (.inr hg1) _, (RD3.out.set (by show R < g; omega) _).more (by omega)⟩
      · by_cases h1 : x = 1
        · subst h1
          clear hx0 hx1
          obtain ⟨A', cap', v, e', hF⟩ := TS2.out.ints
          cases e'
          have HF := Lib.hid hF
          clear hF
          go_wp2
          go_ret
          exact ⟨_, 11, _, v, rfl, by omega, HF.out.short (by omega), GR2.out, RD2.out.more (by omega)⟩
        · have hd0 : (x == 0) = false := by rw [beq_eq_false_iff_ne]; exact h0
          have hd1 : (x == 1) = false := by rw [beq_eq_false_iff_ne]; exact h1
          clear hx0 hx1 h0 h1
          obtain ⟨A', cap', v, e', hF⟩ := TS2.out.ints
          cases e'
          have HF := Lib.hid hF
          clear hF
          go_wp2
          go_ret
          exact ⟨_, 12, _, v, rfl, Nat.le_refl _, HF.out, GR2.out, RD2.out.more (by omega)⟩
end Go.Proofs.Ytbebdhjhlheboaa
