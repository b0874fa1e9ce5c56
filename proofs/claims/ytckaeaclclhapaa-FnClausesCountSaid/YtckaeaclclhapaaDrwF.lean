/- The draw of a constraint (no claim of its own). Conditions: as each theorem states. -/
import Derived.Test.YtckaeaclclhapaaDrwE
import Derived.Test.YtckaeaclclhapaaSumD
namespace Go.Proofs.Ytckaeaclclhapaa
open Go.ChangeShapes Go.WideShapes Go.ChangeAt Go.RowKit

section
variable {w w1 wr wq W : World} {R lo k s : Nat} {ov : Value} {T : TypeId} {A : Option Addr}
theorem TS.lt2 (h : TS w lo T s ov k) : ∀ j, ov.ownBlock = some j → lo ≤ j ∧ j < w.heap.size := fun j e => by
  obtain ⟨xs, h0, h1, h2⟩ := h
  exact h0.lt j e
theorem TS.setne (h : TS w lo T s ov k) {p : Addr} (hp : ∀ j, ov.ownBlock = some j → j ≠ p.block) (u : Value) : TS (w.setCell p u) lo T s ov k := by
  obtain ⟨xs, h0, h1, h2⟩ := h
  refine ⟨xs, ⟨h0.1, ?_⟩, h1, h2⟩
  rcases h0.2 with hh | ⟨g, cap, cur, e1, hg, hh, hr⟩
  · exact .inl hh
  · exact .inr ⟨g, cap, cur, e1, hg, (Below.heap_setCell w p u g (hp g (by rw [e1]; rfl))).trans hh, hr⟩
theorem Cel.grow {j o : Nat} {v : Value} (hc : Cel w j o v) (hg : w.grownBy w1 ov.ownBlock) (hne : ∀ b, ov.ownBlock = some b → b ≠ j) : Cel w1 j o v := by
  have hlt : j < w.heap.size := World.block_lt_of_cell? w ⟨j, o, none⟩ hc.1
  have hx : some j ≠ ov.ownBlock := fun e => hne j e.symm rfl
  exact ⟨hg.cell (a := ⟨j, o, none⟩) hc.1 hx, (hg.frozen_far ⟨j, o, none⟩ hlt hx).trans hc.2⟩
set_option maxRecDepth 100000 in
set_option maxHeartbeats 800000 in
/-- The append of one term to a slice that the draw has made. -/
theorem wp_ts2 {o : Oper} {a : Act} {K : Act → World → Prop} {Q : Exit → Act → World → Prop} (s x : Operand)
    (ho : o.op = .call { callee := .builtin .append, args := #[s, x], argTypes := #[23, 23] })
    (h : TS W lo 56 2 ov k) (hlo : lo ≤ W.heap.size) (hs : a.eval s = ov) {H : Nat} (hx : a.eval x = .slice (some ⟨H, 0, none⟩) 1 1) {X Y : Int} (hnew : W.heap[H]? = some (.cells #[.int .i64 X, .int .i64 Y] 56 (0, 0))) (hk : k ≤ 1048576)
    (hK : ∀ g cap w', TS w' lo 56 2 (.slice (some ⟨g, 0, none⟩) (k + 1) cap) (k + 1) → W.grownBy w' ov.ownBlock → K (a.put o.dst (.slice (some ⟨g, 0, none⟩) (k + 1) cap)) w') :
    o.wp Try.prog a W K Q := by
  obtain ⟨i0, hi, hz0, hz1, hz2⟩ := info_parts Try.infoTerm
  obtain ⟨xs, h0, h1, h2⟩ := h
  refine wp_append_lies _ s x 23 ho lo 56 i0 _ 2 16 Try.underlying23 hi hz0 hz1 hz2 rfl (by omega) ov k _ hs h0 ⟨H, 0, none⟩ 1 1 [.int .i64 X, .int .i64 Y] hx (by rfl)
    (World.news_of_block hnew) (by simp [Value.oneCell']) (by omega) (by unfold maxLen; omega) (by omega) hlo W.heap.size rfl ?_
  intro g cap w' hown hg _ _
  refine hK g cap w' ⟨_, hown, by simp; omega, fun u hu => ?_⟩ hg
  rcases List.mem_append.1 hu with hu | hu
  · exact h2 u hu
  · simp only [List.mem_cons, List.not_mem_nil, or_false] at hu
    rcases hu with rfl | rfl
    · exact ⟨X, rfl⟩
    · exact ⟨Y, rfl⟩

/-- A slice of terms that the draw has made, whatever they are. -/
def FE (w : World) (lo : Nat) (A : Option Addr) (k : Nat) : Prop := ∃ c l, Frs w lo A k c l
theorem FE.bel (h : FE w lo A k) (hb : Below w.heap.size w w1) : FE w1 lo A k := by
  obtain ⟨c, l, h⟩ := h
  exact ⟨c, l, h.below hb⟩
theorem FE.gr (h : FE w lo A k) (hg : Gr R w w1) (hR : R < lo) : FE w1 lo A k := by
  obtain ⟨c, l, h⟩ := h
  rcases h with h | ⟨G, e, hG, h⟩
  · exact ⟨c, l, .inl h⟩
  · exact ⟨c, l, .inr ⟨G, e, hG, h.at_ (hg.block G h.lt (by intro e; cases e; omega))⟩⟩
theorem FE.set_ (h : FE w lo A k) {p : Addr} (hp : p.block < lo) (u : Value) : FE (w.setCell p u) lo A k := by
  obtain ⟨c, l, h⟩ := h
  rcases h with h | ⟨G, e, hG, h⟩
  · exact ⟨c, l, .inl h⟩
  · exact ⟨c, l, .inr ⟨G, e, hG, h.at_ (Below.heap_setCell w p u G (by omega))⟩⟩
theorem FE.more (h : FE w lo A k) {lo' : Nat} (hl : lo' ≤ lo) : FE w lo' A k := by
  obtain ⟨c, l, h⟩ := h
  exact ⟨c, l, h.more hl⟩
theorem FE.open (h : FE w lo A k) (hk : 0 < k) : ∃ G, A = some ⟨G, 0, none⟩ ∧ lo ≤ G ∧ G < w.heap.size ∧ (∀ j, j < k * 2 → ∃ u, w.cell? ⟨G, j, none⟩ = some u) ∧ ∀ j, w.frozen? ⟨G, j, none⟩ = false := by
  obtain ⟨c, l, h⟩ := h
  rcases h with h | ⟨G, e, hG, h⟩
  · omega
  · exact ⟨G, e, hG, h.lt, fun j hj => h.cell hj, fun j => h.frozen j⟩
theorem FE.store {G : Nat} (h : FE w lo (some ⟨G, 0, none⟩) k) (j : Nat) (z : Int) : FE (w.setCell ⟨G, j, none⟩ (.int .i64 z)) lo (some ⟨G, 0, none⟩) k := by
  obtain ⟨c, l, h⟩ := h
  rcases h with h | ⟨G', e, hG, cs, hh, h1, h2⟩
  · exact ⟨c, l, .inl h⟩
  · cases e
    refine ⟨fun i => if i * 2 = j then z else c i, fun i => if i * 2 + 1 = j then z else l i, .inr ⟨G, rfl, hG, cs.setIfInBounds j (.int .i64 z), by simp [World.setCell, Array.getElem?_modify, hh], by simp [h1], fun i hi => ?_⟩⟩
    obtain ⟨a, b⟩ := h2 i hi
    constructor
    · rw [Array.getElem?_setIfInBounds]
      by_cases e : j = i * 2
      · rw [if_pos e, if_pos (by omega)]
        simp [e]
      · rw [if_neg e, a]
        simp [show ¬ i * 2 = j by omega]
    · rw [Array.getElem?_setIfInBounds]
      by_cases e : j = i * 2 + 1
      · rw [if_pos e, if_pos (by omega)]
        simp [e]
      · rw [if_neg e, b]
        simp [show ¬ i * 2 + 1 = j by omega]
theorem TS.fe (h : TS w lo 56 2 ov k) : ∃ A cap, ov = .slice A k cap ∧ FE w lo A k := by
  obtain ⟨A, cap, c, l, e, h, _⟩ := h.terms
  exact ⟨A, cap, e, c, l, h⟩
end

/-- A slice that nothing lies behind has no room; none is longer than its room. -/
def CapOk (A : Option Addr) (k cap : Nat) : Prop := (A = none → cap = 0) ∧ k ≤ cap
theorem TS.capOk {w : World} {lo k cap : Nat} {A : Option Addr} (h : TS w lo 56 2 (.slice A k cap) k) : CapOk A k cap := by
  refine ⟨?_, ?_⟩
  · obtain ⟨_, _, _, _, e, _, h'⟩ := h.terms
    cases e
    exact h'
  · by_cases hk : 0 < k
    · obtain ⟨g, cap', e, hc, _⟩ := h.open hk
      cases e
      exact hc
    · omega

/-- What the draw of a constraint leaves: at most m terms, in new memory. -/
def CDr (w : World) (R K m : Nat) (e : Ending) (w' : World) : Prop := ∃ A k cap bd, e = .returned (.agg #[.slice A k cap, .int .i64 bd]) ∧ k ≤ m ∧ FE w' w.heap.size A k ∧ Gr R w w' ∧ Rdr w' R K ∧ CapOk A k cap

set_option maxRecDepth 100000 in
set_option maxHeartbeats 6400000 in
theorem draw_any (R K m : Nat) (w : World) (hK : K ≤ 900000) (hm : m ≤ 12) (h : Rdr w R K) :
    Calls Try.prog 11 #[.pointer (some ⟨R, 0, none⟩), .int .i64 m] w (CDr w R (K + 100) m) := by
  have hRw := h.lt
  have HR := Lib.hid h
  clear h
  go_enter Try.func11, Try.ntmps11
  go_wp2
  go_loopw [6] (fun i wr => ∃ (j k : Nat) (ov : Value), j ≤ m ∧ k ≤ j ∧ i = .int .i64 ((j : Int) + 1) ∧ TS wr (w.heap.size + 1 + 1) 56 2 ov k ∧ Cel wr w.heap.size 0 (.slice none 0 0) ∧ Cel wr w.heap.size 1 (.int .i64 0) ∧ Cel wr (w.heap.size + 1) 0 ov ∧ Cel wr (w.heap.size + 1) 1 (.int .i64 0) ∧ Gr R w wr ∧ Rdr wr R (K + 3 * j)) (fun i _ => m + 1 - (intOf i).toNat)
  case atStart => exact ⟨0, 0, .slice none 0 0, Nat.zero_le _, Nat.le_refl _, rfl, TS.nil _ _ _ _, ⟨by go_simp, by go_simp⟩, ⟨by go_simp, by go_simp⟩, ⟨by go_simp, by go_simp⟩, ⟨by go_simp, by go_simp⟩, Gr.of (bl_alloc (bl_alloc (Below.refl _ _) _) _), HR.out.bel (bl_alloc (bl_alloc (Below.refl _ _) _) _)⟩
  case round =>
    obtain ⟨j, k, ov, hj, hk, rfl, hts, c0, c1, c2, c3, hgr, hrd⟩ := hrel
    have TSk := Lib.hid hts
    have GR := Lib.hid hgr
    have RD := Lib.hid hrd
    have C0 := Lib.hid c0
    have C1 := Lib.hid c1
    have C2 := Lib.hid c2
    have C3 := Lib.hid c3
    have hsz : w.heap.size + 1 < wr.heap.size := World.block_lt_of_cell? wr ⟨w.heap.size + 1, 0, none⟩ c2.1
    clear hts hgr hrd c0 c1 c2 c3
    by_cases hlt : j < m
    · have hjm : (j : Int) + 1 ≤ (m : Int) := by omega
      go_wp2_with fail
      refine (pick_any R (K + 3 * j) 2 _ (by omega) RD.out).mono ?_
      rintro e w2 ⟨x, rfl, hx0, hx1, hg, hr⟩
      have TS2 := Lib.hid (TSk.out.gr hg (by omega))
      have GR2 := Lib.hid (GR.out.trans hg)
      have RD2 := Lib.hid hr
      have D0 := Lib.hid (hg.cel C0.out (by omega))
      have D1 := Lib.hid (hg.cel C1.out (by omega))
      have D2 := Lib.hid (hg.cel C2.out (by omega))
      have D3 := Lib.hid (hg.cel C3.out (by omega))
      have hz2 : w.heap.size + 1 < w2.heap.size := Nat.lt_of_lt_of_le hsz hg.size
      clear hg hr TSk GR RD C0 C1 C2 C3
      by_cases h0 : x = 0
      · subst h0
        clear hx0 hx1
        go_wp2_with fail
        have HAl := Lib.hid (bl_alloc (Below.refl w2.heap.size w2) (.cells #[.int .i64 1, .int .i64 1, .int .i64 2, .int .i64 3, .int .i64 1, .int .i64 5, .int .i64 4] 3))
        refine (num_any R (K + 3 * j + 1) w2.heap.size 7 _ _ _ (by omega) (RD2.out.bel HAl.out) (by omega) (heap_alloc_new w2 _) (by rfl) (by omega) (by omega) (lit_all [1, 1, 2, 3, 1, 5, 4])).mono ?_
        rintro e w3 ⟨z, rfl, _, hg, hr⟩
        have TS3 := Lib.hid ((TS2.out.bel HAl.out).gr hg (by omega))
        have GR3 := Lib.hid ((GR2.out.bel HAl.out).trans hg)
        have RD3 := Lib.hid hr
        have E0 := Lib.hid (hg.cel (D0.out.below HAl.out) (by omega))
        have E1 := Lib.hid (hg.cel (D1.out.below HAl.out) (by omega))
        have E2 := Lib.hid (hg.cel (D2.out.below HAl.out) (by omega))
        have E3 := Lib.hid (hg.cel (D3.out.below HAl.out) (by omega))
        have hz3 : w.heap.size + 1 < w3.heap.size := by have h1 := HAl.out.size; have h2 := hg.size; omega
        have HO := Lib.hid (fun b e => (TS3.out.lt2 b e).2)
        clear hg hr TS2 GR2 RD2 D0 D1 D2 D3 HAl
        go_wp2_with fail
        have HAl := Lib.hid (bl_alloc (Below.refl w3.heap.size w3) (.cells #[.int .i64 z, .int .i64 ((j : Int) + 1)] 56))
        have t0 : Cel (w3.alloc (.cells #[.int .i64 z, .int .i64 ((j : Int) + 1)] 56)) w3.heap.size 0 (.int .i64 z) := ⟨by go_simp, by go_simp⟩
        have t1 : Cel (w3.alloc (.cells #[.int .i64 z, .int .i64 ((j : Int) + 1)] 56)) w3.heap.size 1 (.int .i64 ((j : Int) + 1)) := ⟨by go_simp, by go_simp⟩
        refine (pick_any R (K + 3 * j + 1 + 1) 2 _ (by omega) (RD3.out.bel HAl.out)).mono ?_
        rintro e w4 ⟨x, rfl, hx0, hx1, hg, hr⟩
        have TS4 := Lib.hid ((TS3.out.bel HAl.out).gr hg (by omega))
        have GR4 := Lib.hid ((GR3.out.bel HAl.out).trans hg)
        have RD4 := Lib.hid hr
        have F0 := Lib.hid (hg.cel (E0.out.below HAl.out) (by omega))
        have F1 := Lib.hid (hg.cel (E1.out.below HAl.out) (by omega))
        have F2 := Lib.hid (hg.cel (E2.out.below HAl.out) (by omega))
        have F3 := Lib.hid (hg.cel (E3.out.below HAl.out) (by omega))
        obtain ⟨u0, v0⟩ := hg.cel t0 (by omega)
        obtain ⟨u1, v1⟩ := hg.cel t1 (by omega)
        obtain ⟨g2, g2f⟩ := F2.out
        have hz4 : w.heap.size + 1 < w4.heap.size := World.block_lt_of_cell? w4 ⟨w.heap.size + 1, 0, none⟩ g2
        have hz34 : w3.heap.size < w4.heap.size := World.block_lt_of_cell? w4 ⟨w3.heap.size, 0, none⟩ u0
        clear hg hr TS3 GR3 RD3 E0 E1 E2 E3 HAl t0 t1
        by_cases h0 : x = 0
        · subst h0
          clear hx0 hx1
          go_upto_region 9 with fail
          have TS5 := Lib.hid (TS4.out.setne (p := ⟨w3.heap.size, 1, none⟩) (fun b e => by have := HO.out b e; show b ≠ w3.heap.size; omega) (.int .i64 (-((j : Int) + 1))))
          have GR5 := Lib.hid (GR4.out.set (p := ⟨w3.heap.size, 1, none⟩) (.inr (by show w.heap.size ≤ w3.heap.size; omega)) (.int .i64 (-((j : Int) + 1))))
          have RD5 := Lib.hid (RD4.out.set (p := ⟨w3.heap.size, 1, none⟩) (by show R < w3.heap.size; omega) (.int .i64 (-((j : Int) + 1))))
          have S0 := Lib.hid (F0.out.set (O' := w3.heap.size) (o' := 1) (u := .int .i64 (-((j : Int) + 1))) (by omega))
          have S1 := Lib.hid (F1.out.set (O' := w3.heap.size) (o' := 1) (u := .int .i64 (-((j : Int) + 1))) (by omega))
          have S2 := Lib.hid (F2.out.set (O' := w3.heap.size) (o' := 1) (u := .int .i64 (-((j : Int) + 1))) (by omega))
          have S3 := Lib.hid (F3.out.set (O' := w3.heap.size) (o' := 1) (u := .int .i64 (-((j : Int) + 1))) (by omega))
          have U0 := (Cel.set (O' := w3.heap.size) (o' := 1) (u := .int .i64 (-((j : Int) + 1))) ⟨u0, v0⟩ (by omega)).1
          have U1 := (Cel.put (u := .int .i64 (-((j : Int) + 1))) ⟨u1, v1⟩).1
          clear TS4 GR4 RD4 F0 F1 F2 F3 u0 v0 u1 v1 g2 g2f
          generalize w4.setCell ⟨w3.heap.size, 1, none⟩ (.int .i64 (-((j : Int) + 1))) = W4 at *
          have Z0 := S2.out.1
          have Z1 := S2.out.2
          have hszW : w.heap.size + 1 < W4.heap.size := World.block_lt_of_cell? W4 ⟨w.heap.size + 1, 0, none⟩ Z0
          have HAl := Lib.hid (bl_alloc (Below.refl W4.heap.size W4) (.cells #[.int .i64 z, .int .i64 (-((j : Int) + 1))] 56))
          go_wp2_with (at_builtin; refine wpList_plain (by rfl) fun K' hK' => ?_; refine wp_ts2 _ _ (by rfl) (TS5.out.bel HAl.out) (by simp; omega) (by rfl) (by rfl) (heap_alloc_new _ _) (by omega) ?_; intro gg cap1 w5 hts5 hgr5; have T0 := (S2.out.below HAl.out).grow hgr5 (fun b e => by have := TS5.out.lt2 b e; omega); obtain ⟨T0a, T0b⟩ := T0; refine hK' _ _ ?_; clear hK' K')
          go_roundw
          case rel => exact ⟨j + 1, k + 1, _, by omega, by omega, by go_num, hts5.set_ (by show w.heap.size + 1 < _; omega) _, ((S0.out.below HAl.out).grow hgr5 (fun b e => by have := TS5.out.lt2 b e; omega)).set (by omega), ((S1.out.below HAl.out).grow hgr5 (fun b e => by have := TS5.out.lt2 b e; omega)).set (by omega), Cel.put ⟨T0a, T0b⟩, ((S3.out.below HAl.out).grow hgr5 (fun b e => by have := TS5.out.lt2 b e; omega)).set (by omega), ((GR5.out.bel HAl.out).grow hgr5 (fun b e => by have := TS5.out.lt2 b e; omega)).set (.inr (by show w.heap.size ≤ w.heap.size + 1; omega)) _, (((RD5.out.bel HAl.out).grow hgr5 (fun b e => by have := TS5.out.lt2 b e; omega)).set (by show R < w.heap.size + 1; omega) _).more (by omega)⟩
          case measure => simp [intOf]; omega
        · have hd0 : (x == 0) = false := by rw [beq_eq_false_iff_ne]; exact h0
          clear hx0 hx1 h0
          go_upto_region 9 with fail
          have TS5 := Lib.hid TS4.out
          have GR5 := Lib.hid GR4.out
          have RD5 := Lib.hid RD4.out
          have S0 := Lib.hid F0.out
          have S1 := Lib.hid F1.out
          have S2 := Lib.hid F2.out
          have S3 := Lib.hid F3.out
          clear TS4 GR4 RD4 F0 F1 F2 F3 g2 g2f
          have Z0 := S2.out.1
          have Z1 := S2.out.2
          have hszW : w.heap.size + 1 < w4.heap.size := World.block_lt_of_cell? w4 ⟨w.heap.size + 1, 0, none⟩ Z0
          have HAl := Lib.hid (bl_alloc (Below.refl w4.heap.size w4) (.cells #[.int .i64 z, .int .i64 ((j : Int) + 1)] 56))
          go_wp2_with (at_builtin; refine wpList_plain (by rfl) fun K' hK' => ?_; refine wp_ts2 _ _ (by rfl) (TS5.out.bel HAl.out) (by simp; omega) (by rfl) (by rfl) (heap_alloc_new _ _) (by omega) ?_; intro gg cap1 w5 hts5 hgr5; have T0 := (S2.out.below HAl.out).grow hgr5 (fun b e => by have := TS5.out.lt2 b e; omega); obtain ⟨T0a, T0b⟩ := T0; refine hK' _ _ ?_; clear hK' K')
          go_roundw
          case rel => exact ⟨j + 1, k + 1, _, by omega, by omega, by go_num, hts5.set_ (by show w.heap.size + 1 < _; omega) _, ((S0.out.below HAl.out).grow hgr5 (fun b e => by have := TS5.out.lt2 b e; omega)).set (by omega), ((S1.out.below HAl.out).grow hgr5 (fun b e => by have := TS5.out.lt2 b e; omega)).set (by omega), Cel.put ⟨T0a, T0b⟩, ((S3.out.below HAl.out).grow hgr5 (fun b e => by have := TS5.out.lt2 b e; omega)).set (by omega), ((GR5.out.bel HAl.out).grow hgr5 (fun b e => by have := TS5.out.lt2 b e; omega)).set (.inr (by show w.heap.size ≤ w.heap.size + 1; omega)) _, (((RD5.out.bel HAl.out).grow hgr5 (fun b e => by have := TS5.out.lt2 b e; omega)).set (by show R < w.heap.size + 1; omega) _).more (by omega)⟩
          case measure => simp [intOf]; omega
      · have hd0 : (x == 0) = false := by rw [beq_eq_false_iff_ne]; exact h0
        clear hx0 hx1 h0
        go_wp2
        go_roundw
        case rel => exact ⟨j + 1, k, ov, by omega, by omega, by go_num, TS2.out, D0.out, D1.out, D2.out, D3.out, GR2.out, RD2.out.more (by omega)⟩
        case measure => simp [intOf]; omega
    · obtain rfl : j = m := by omega
      obtain ⟨A', cap', c', l', rfl, hF, hcp⟩ := TSk.out.terms
      have HCp := Lib.hid TSk.out.capOk
      clear hcp
      have FEk := Lib.hid (show FE wr (w.heap.size + 1 + 1) A' k from ⟨c', l', hF⟩)
      have HRd := Lib.hid hF.rdAt
      have a0 := C2.out.1
      have a1 := C3.out.1
      clear hF TSk
      go_wp2_with fail
      refine (l1Total_any _ _ _ _ c' l' _ (by omega) HRd.out).mono ?_
      rintro e w2 ⟨rfl, hb⟩
      generalize totW c' l' k = tt at *
      have FE2 := Lib.hid (FEk.out.bel hb)
      have GR2 := Lib.hid (GR.out.bel hb)
      have RD2 := Lib.hid (RD.out.bel hb)
      have D0 := Lib.hid (C0.out.below hb)
      have D1 := Lib.hid (C1.out.below hb)
      have D2 := Lib.hid (C2.out.below hb)
      have D3 := Lib.hid (C3.out.below hb)
      have hz2 : w.heap.size + 1 < w2.heap.size := Nat.lt_of_lt_of_le hsz hb.size
      clear hb FEk GR RD C0 C1 C2 C3 a0 a1 HRd
      go_wp2_with fail
      have HAl := Lib.hid (bl_alloc (Below.refl w2.heap.size w2) (.cells #[.int .i64 1, .int .i64 2, .int .i64 1, .int .i64 3, .int .i64 0] 3))
      refine (num_any R (K + 3 * j) w2.heap.size 5 _ _ _ (by omega) (RD2.out.bel HAl.out) (by omega) (heap_alloc_new w2 _) (by rfl) (by omega) (by omega) (lit_all [1, 2, 1, 3, 0])).mono ?_
      rintro e w3 ⟨z, rfl, _, hg, hr⟩
      have FE3 := Lib.hid ((FE2.out.bel HAl.out).gr hg (by omega))
      have GR3 := Lib.hid ((GR2.out.bel HAl.out).trans hg)
      have RD3 := Lib.hid hr
      have E0 := Lib.hid (hg.cel (D0.out.below HAl.out) (by omega))
      have E1 := Lib.hid (hg.cel (D1.out.below HAl.out) (by omega))
      have E2 := Lib.hid (hg.cel (D2.out.below HAl.out) (by omega))
      have E3 := Lib.hid (hg.cel (D3.out.below HAl.out) (by omega))
      obtain ⟨b3, f3⟩ := E3.out
      have hz3 : w.heap.size + 1 < w3.heap.size := World.block_lt_of_cell? w3 ⟨w.heap.size + 1, 1, none⟩ b3
      clear hg hr FE2 GR2 RD2 D0 D1 D2 D3 HAl
      go_upto_region 12 with fail
      have FE4 := Lib.hid (FE3.out.set_ (p := ⟨w.heap.size + 1, 1, none⟩) (by show w.heap.size + 1 < _; omega) (.int .i64 z))
      have GR4 := Lib.hid (GR3.out.set (p := ⟨w.heap.size + 1, 1, none⟩) (.inr (by show w.heap.size ≤ w.heap.size + 1; omega)) (.int .i64 z))
      have RD4 := Lib.hid (RD3.out.set (p := ⟨w.heap.size + 1, 1, none⟩) (by show R < w.heap.size + 1; omega) (.int .i64 z))
      have F0 := Lib.hid (E0.out.set (O' := w.heap.size + 1) (o' := 1) (u := .int .i64 z) (by omega))
      have F1 := Lib.hid (E1.out.set (O' := w.heap.size + 1) (o' := 1) (u := .int .i64 z) (by omega))
      have F2 := Lib.hid (E2.out.set (O' := w.heap.size + 1) (o' := 1) (u := .int .i64 z) (by omega))
      have F3 := Lib.hid (E3.out.put (u := .int .i64 z))
      clear FE3 GR3 RD3 E0 E1 E2 E3 b3 f3
      generalize w3.setCell ⟨w.heap.size + 1, 1, none⟩ (.int .i64 z) = W4 at *
      go_wp2_with fail
      refine (pick_any R (K + 3 * j + 1) 4 _ (by omega) RD4.out).mono ?_
      rintro e w5 ⟨x, rfl, hx0, hx1, hg, hr⟩
      have FE5 := Lib.hid (FE4.out.gr hg (by omega))
      have GR5 := Lib.hid (GR4.out.trans hg)
      have RD5 := Lib.hid hr
      have G0 := Lib.hid (hg.cel F0.out (by omega))
      have G1 := Lib.hid (hg.cel F1.out (by omega))
      have G2 := Lib.hid (hg.cel F2.out (by omega))
      have G3 := Lib.hid (hg.cel F3.out (by omega))
      clear hg hr FE4 GR4 RD4 F0 F1 F2 F3
      by_cases h0 : x = 0
      · subst h0
        clear hx0 hx1
        go_wp2_with fail
        refine (pick_any R (K + 3 * j + 1 + 1) _ _ (by omega) RD5.out).mono ?_
        rintro e w6 ⟨y, rfl, hy0, hy1, hg, hr⟩
        have FE6 := Lib.hid (FE5.out.gr hg (by omega))
        have GR6 := Lib.hid (GR5.out.trans hg)
        have RD6 := Lib.hid hr
        obtain ⟨b0, f0⟩ := hg.cel G0.out (by omega)
        obtain ⟨b1, f1⟩ := hg.cel G1.out (by omega)
        obtain ⟨b2, f2⟩ := hg.cel G2.out (by omega)
        obtain ⟨b3, f3⟩ := hg.cel G3.out (by omega)
        clear hg hr FE5 GR5 RD5 G0 G1 G2 G3 hy0 hy1
        go_wp2
        refine bodyPost_ret (v := .agg #[.slice A' k cap', .int .i64 y]) (by simp [results, Try.results11, go_sem, b0, b1]) rfl ?_
        exact ⟨A', k, cap', y, rfl, by omega, (((FE6.out.set_ (by show w.heap.size + 1 < _; omega) _).set_ (by show w.heap.size < _; omega) _).set_ (by show w.heap.size < _; omega) _).more (by omega), ((GR6.out.set (.inr (by show w.heap.size ≤ w.heap.size + 1; omega)) _).set (.inr (Nat.le_refl _)) _).set (.inr (Nat.le_refl _)) _, (((RD6.out.set (by show R < w.heap.size + 1; omega) _).set hRw _).set hRw _).more (by omega), HCp.out⟩
      · have hd0 : (x == 0) = false := by rw [beq_eq_false_iff_ne]; exact h0
        clear hx0 hx1 h0
        obtain ⟨b0, f0⟩ := G0.out
        obtain ⟨b1, f1⟩ := G1.out
        obtain ⟨b2, f2⟩ := G2.out
        obtain ⟨b3, f3⟩ := G3.out
        clear G0 G1 G2 G3
        go_wp2
        refine bodyPost_ret (v := .agg #[.slice A' k cap', .int .i64 z]) (by simp [results, Try.results11, go_sem, b0, b1]) rfl ?_
        exact ⟨A', k, cap', z, rfl, by omega, ((FE5.out.set_ (by show w.heap.size < _; omega) _).set_ (by show w.heap.size < _; omega) _).more (by omega), (GR5.out.set (.inr (Nat.le_refl _)) _).set (.inr (Nat.le_refl _)) _, ((RD5.out.set hRw _).set hRw _).more (by omega), HCp.out⟩
end Go.Proofs.Ytckaeaclclhapaa
