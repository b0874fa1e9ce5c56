/- A rule of a model, drawn (no claim of its own). Conditions: as each theorem states. -/
import Derived.Test.YtafiikfaeomhpaaDmlC
import Derived.Deep.RegionLaw
import Derived.Deep.Cut
namespace Go.Proofs.Ytafiikfaeomhpaa
open Go.ChangeShapes Go.WideShapes Go.ChangeAt Go.RowKit

theorem step_of {ops : Array Oper} {o : Oper} {a : Act} {K : Act → World → Prop} {Q : Exit → Act → World → Prop} {E : Prop} {W : World} (hgd : o.guard = none) (h : Oper.wp Try.prog o a W K Q) :
    if Region.wanted o (yielded ops a.tmps) = true then Oper.wp Try.prog o a W K Q else E := by
  have hw : Region.wanted o (yielded ops a.tmps) = true := by simp [Region.wanted, hgd]
  rw [if_pos hw]
  exact h
/-- The head of such a slice. -/
theorem ts_take {w : World} {lo k m cap : Nat} {T : TypeId} {A : Option Addr} (h : TS w lo T 1 (.slice A k cap) k) (hm : m ≤ k) (h0 : 0 < m := by omega) : TS w lo T 1 (.slice A m cap) m := by
  obtain ⟨xs, r, hl, hx⟩ := h
  rcases r.2 with ⟨_, hk⟩ | ⟨g, cap', cur, e, hg, hh, hc, hm', hs, ht⟩
  · omega
  · cases e
    refine ⟨xs.take m, ⟨by rw [List.length_take, r.1]; omega, .inr ⟨g, cap, cur, rfl, hg, hh, by omega, hm', hs, ?_⟩⟩, by rw [List.length_take, r.1]; omega, fun u hu => hx u (List.mem_of_mem_take hu)⟩
    rw [← ht, List.take_take]
    congr 1
    omega
/-- A rule's box that a draw fills: its cells, and the reader beside it. -/
structure BX (w0 w : World) (R K X : Nat) (c0 c1 c2 c3 c4 : Value) : Prop where
  hR : R < w0.heap.size
  hX : w0.heap.size + 1 < X
  res : ∀ i, i < 5 → ∃ v, Cel w (w0.heap.size + 1) i v
  c0 : Cel w X 0 c0
  c1 : Cel w X 1 c1
  c2 : Cel w X 2 c2
  c3 : Cel w X 3 c3
  c4 : Cel w X 4 c4
  gr : Gr R w0 w
  rd : Rdr w R K
section
variable {w0 w w' : World} {R K K' X : Nat} {c0 c1 c2 c3 c4 u : Value} {row : Option Nat}
theorem BX.bel (h : BX w0 w R K X c0 c1 c2 c3 c4) (hb : Below w.heap.size w w') : BX w0 w' R K X c0 c1 c2 c3 c4 :=
  ⟨h.hR, h.hX, fun i hi => (h.res i hi).imp fun _ hv => hv.below hb, h.c0.below hb, h.c1.below hb, h.c2.below hb, h.c3.below hb, h.c4.below hb, h.gr.bel hb, h.rd.bel hb⟩
theorem BX.ask (h : BX w0 w R K X c0 c1 c2 c3 c4) (hg : Gr R w w') (hr : Rdr w' R K') : BX w0 w' R K' X c0 c1 c2 c3 c4 :=
  have hX := h.hX; have hR := h.hR
  ⟨h.hR, h.hX, fun i hi => (h.res i hi).imp fun _ hv => hg.cel hv (by omega), hg.cel h.c0 (by omega), hg.cel h.c1 (by omega), hg.cel h.c2 (by omega), hg.cel h.c3 (by omega), hg.cel h.c4 (by omega), h.gr.trans hg, hr⟩
theorem BX.grow {ov : Value} (h : BX w0 w R K X c0 c1 c2 c3 c4) (hg : w.grownBy w' ov.ownBlock) (ho : ∀ j, ov.ownBlock = some j → X < j) : BX w0 w' R K X c0 c1 c2 c3 c4 :=
  have hX := h.hX; have hR := h.hR
  have hn : ∀ b, ov.ownBlock = some b → b ≠ X := fun b e => by have := ho b e; omega
  ⟨h.hR, h.hX, fun i hi => (h.res i hi).imp fun _ hv => hv.grow hg (fun b e => by have := ho b e; omega), h.c0.grow hg hn, h.c1.grow hg hn, h.c2.grow hg hn, h.c3.grow hg hn, h.c4.grow hg hn, h.gr.grow hg (fun b e => by have := ho b e; omega), h.rd.grow hg (fun b e => by have := ho b e; omega)⟩
theorem BX.more (h : BX w0 w R K X c0 c1 c2 c3 c4) (hK : K ≤ K') : BX w0 w R K' X c0 c1 c2 c3 c4 :=
  ⟨h.hR, h.hX, h.res, h.c0, h.c1, h.c2, h.c3, h.c4, h.gr, h.rd.more hK⟩
theorem BX.put1 (h : BX w0 w R K X c0 c1 c2 c3 c4) : BX w0 (w.setCell ⟨X, 1, none⟩ u) R K X c0 u c2 c3 c4 :=
  have hX := h.hX; have hR := h.hR
  ⟨h.hR, h.hX, fun i hi => (h.res i hi).imp fun _ hv => hv.set (by omega), h.c0.set (by omega), h.c1.put, h.c2.set (by omega), h.c3.set (by omega), h.c4.set (by omega), h.gr.set (.inr (by show w0.heap.size ≤ X; omega)) _, h.rd.set (by show R < X; omega) _⟩
theorem BX.put2 (h : BX w0 w R K X c0 c1 c2 c3 c4) : BX w0 (w.setCell ⟨X, 2, none⟩ u) R K X c0 c1 u c3 c4 :=
  have hX := h.hX; have hR := h.hR
  ⟨h.hR, h.hX, fun i hi => (h.res i hi).imp fun _ hv => hv.set (by omega), h.c0.set (by omega), h.c1.set (by omega), h.c2.put, h.c3.set (by omega), h.c4.set (by omega), h.gr.set (.inr (by show w0.heap.size ≤ X; omega)) _, h.rd.set (by show R < X; omega) _⟩
theorem BX.put3 (h : BX w0 w R K X c0 c1 c2 c3 c4) : BX w0 (w.setCell ⟨X, 3, none⟩ u) R K X c0 c1 c2 u c4 :=
  have hX := h.hX; have hR := h.hR
  ⟨h.hR, h.hX, fun i hi => (h.res i hi).imp fun _ hv => hv.set (by omega), h.c0.set (by omega), h.c1.set (by omega), h.c2.set (by omega), h.c3.put, h.c4.set (by omega), h.gr.set (.inr (by show w0.heap.size ≤ X; omega)) _, h.rd.set (by show R < X; omega) _⟩
theorem BX.put4 (h : BX w0 w R K X c0 c1 c2 c3 c4) : BX w0 (w.setCell ⟨X, 4, none⟩ u) R K X c0 c1 c2 c3 u :=
  have hX := h.hX; have hR := h.hR
  ⟨h.hR, h.hX, fun i hi => (h.res i hi).imp fun _ hv => hv.set (by omega), h.c0.set (by omega), h.c1.set (by omega), h.c2.set (by omega), h.c3.set (by omega), h.c4.put, h.gr.set (.inr (by show w0.heap.size ≤ X; omega)) _, h.rd.set (by show R < X; omega) _⟩
theorem BX.fin (h : BX w0 w R K X c0 c1 c2 c3 c4) (u0 u1 u2 u3 u4 : Value) : w.grownBy (((((w.setCell ⟨w0.heap.size + 1, 0, none⟩ u0).setCell ⟨w0.heap.size + 1, 1, none⟩ u1).setCell ⟨w0.heap.size + 1, 2, none⟩ u2).setCell ⟨w0.heap.size + 1, 3, none⟩ u3).setCell ⟨w0.heap.size + 1, 4, none⟩ u4) (some (w0.heap.size + 1)) ∧
    Gr R w0 (((((w.setCell ⟨w0.heap.size + 1, 0, none⟩ u0).setCell ⟨w0.heap.size + 1, 1, none⟩ u1).setCell ⟨w0.heap.size + 1, 2, none⟩ u2).setCell ⟨w0.heap.size + 1, 3, none⟩ u3).setCell ⟨w0.heap.size + 1, 4, none⟩ u4) ∧
    Rdr (((((w.setCell ⟨w0.heap.size + 1, 0, none⟩ u0).setCell ⟨w0.heap.size + 1, 1, none⟩ u1).setCell ⟨w0.heap.size + 1, 2, none⟩ u2).setCell ⟨w0.heap.size + 1, 3, none⟩ u3).setCell ⟨w0.heap.size + 1, 4, none⟩ u4) R K :=
  have hR := h.hR
  ⟨Gr.trans (Gr.trans (Gr.trans (Gr.trans (gb_set _ ⟨w0.heap.size + 1, 0, none⟩ _) (gb_set _ ⟨w0.heap.size + 1, 1, none⟩ _)) (gb_set _ ⟨w0.heap.size + 1, 2, none⟩ _)) (gb_set _ ⟨w0.heap.size + 1, 3, none⟩ _)) (gb_set _ ⟨w0.heap.size + 1, 4, none⟩ _),
    ((((h.gr.set (.inr (Nat.le_succ _)) _).set (.inr (Nat.le_succ _)) _).set (.inr (Nat.le_succ _)) _).set (.inr (Nat.le_succ _)) _).set (.inr (Nat.le_succ _)) _,
    ((((h.rd.set (by show R < w0.heap.size + 1; omega) _).set (by show R < w0.heap.size + 1; omega) _).set (by show R < w0.heap.size + 1; omega) _).set (by show R < w0.heap.size + 1; omega) _).set (by show R < w0.heap.size + 1; omega) _⟩
theorem BX.lt (h : BX w0 w R K X c0 c1 c2 c3 c4) : X < w.heap.size := World.block_lt_of_cell? w ⟨X, 0, none⟩ h.c0.1
end
/-- What the draw of a rule leaves. -/
def RDr (w : World) (R K : Nat) (e : Ending) (w' : World) : Prop := ∃ c : Nat → Value, e = .returned (.agg #[c 0, c 1, c 2, c 3, c 4]) ∧ E5 w' w.heap.size w'.heap.size 22 c ∧ Gr R w w' ∧ Rdr w' R K

set_option maxRecDepth 100000 in
set_option maxHeartbeats 6400000 in
theorem drawR_any (R K : Nat) (As Ar : Option Addr) (sn cs n cr : Nat) (w : World) (hK : K ≤ 800000) (hs : sn ≤ 20) (h : Rdr w R K) :
    Calls Try.prog 85 #[.pointer (some ⟨R, 0, none⟩), .agg #[.slice As sn cs, .slice Ar n cr]] w (RDr w R (K + 400)) := by
  have hRw := h.lt
  have HR := Lib.hid h
  clear h
  go_enter Try.func85, Try.ntmps85
  go_wp2_with fail
  have HB0 := Lib.hid (bl_alloc (bl_alloc (bl_alloc (Below.refl w.heap.size w) (.cells #[.slice As sn cs, .slice Ar n cr] 30)) (.cells #[.int .i64 0, .slice none 0 0, .slice none 0 0, .int .i64 0, .slice none 0 0] 90)) (.cells #[.int .i64 1, .int .i64 2, .int .i64 3, .int .i64 4, .int .i64 1] 3))
  have m0 : Cel (((w.alloc (.cells #[.slice As sn cs, .slice Ar n cr] 30)).alloc (.cells #[.int .i64 0, .slice none 0 0, .slice none 0 0, .int .i64 0, .slice none 0 0] 90)).alloc (.cells #[.int .i64 1, .int .i64 2, .int .i64 3, .int .i64 4, .int .i64 1] 3)) w.heap.size 0 (.slice As sn cs) := ⟨by go_simp, by go_simp⟩
  have m1 : Cel (((w.alloc (.cells #[.slice As sn cs, .slice Ar n cr] 30)).alloc (.cells #[.int .i64 0, .slice none 0 0, .slice none 0 0, .int .i64 0, .slice none 0 0] 90)).alloc (.cells #[.int .i64 1, .int .i64 2, .int .i64 3, .int .i64 4, .int .i64 1] 3)) w.heap.size 1 (.slice Ar n cr) := ⟨by go_simp, by go_simp⟩
  have x0 : Cel (((w.alloc (.cells #[.slice As sn cs, .slice Ar n cr] 30)).alloc (.cells #[.int .i64 0, .slice none 0 0, .slice none 0 0, .int .i64 0, .slice none 0 0] 90)).alloc (.cells #[.int .i64 1, .int .i64 2, .int .i64 3, .int .i64 4, .int .i64 1] 3)) (w.heap.size + 1) 0 (.int .i64 0) := ⟨by go_simp, by go_simp⟩
  have x1 : Cel (((w.alloc (.cells #[.slice As sn cs, .slice Ar n cr] 30)).alloc (.cells #[.int .i64 0, .slice none 0 0, .slice none 0 0, .int .i64 0, .slice none 0 0] 90)).alloc (.cells #[.int .i64 1, .int .i64 2, .int .i64 3, .int .i64 4, .int .i64 1] 3)) (w.heap.size + 1) 1 (.slice none 0 0) := ⟨by go_simp, by go_simp⟩
  have x2 : Cel (((w.alloc (.cells #[.slice As sn cs, .slice Ar n cr] 30)).alloc (.cells #[.int .i64 0, .slice none 0 0, .slice none 0 0, .int .i64 0, .slice none 0 0] 90)).alloc (.cells #[.int .i64 1, .int .i64 2, .int .i64 3, .int .i64 4, .int .i64 1] 3)) (w.heap.size + 1) 2 (.slice none 0 0) := ⟨by go_simp, by go_simp⟩
  have x3 : Cel (((w.alloc (.cells #[.slice As sn cs, .slice Ar n cr] 30)).alloc (.cells #[.int .i64 0, .slice none 0 0, .slice none 0 0, .int .i64 0, .slice none 0 0] 90)).alloc (.cells #[.int .i64 1, .int .i64 2, .int .i64 3, .int .i64 4, .int .i64 1] 3)) (w.heap.size + 1) 3 (.int .i64 0) := ⟨by go_simp, by go_simp⟩
  have x4 : Cel (((w.alloc (.cells #[.slice As sn cs, .slice Ar n cr] 30)).alloc (.cells #[.int .i64 0, .slice none 0 0, .slice none 0 0, .int .i64 0, .slice none 0 0] 90)).alloc (.cells #[.int .i64 1, .int .i64 2, .int .i64 3, .int .i64 4, .int .i64 1] 3)) (w.heap.size + 1) 4 (.slice none 0 0) := ⟨by go_simp, by go_simp⟩
  have hh0 : (((w.alloc (.cells #[.slice As sn cs, .slice Ar n cr] 30)).alloc (.cells #[.int .i64 0, .slice none 0 0, .slice none 0 0, .int .i64 0, .slice none 0 0] 90)).alloc (.cells #[.int .i64 1, .int .i64 2, .int .i64 3, .int .i64 4, .int .i64 1] 3)).heap[w.heap.size + 1 + 1]? = some (.cells #[.int .i64 1, .int .i64 2, .int .i64 3, .int .i64 4, .int .i64 1] 3) := alloc_at (by simp)
  have hz0 : w.heap.size + 1 < (((w.alloc (.cells #[.slice As sn cs, .slice Ar n cr] 30)).alloc (.cells #[.int .i64 0, .slice none 0 0, .slice none 0 0, .int .i64 0, .slice none 0 0] 90)).alloc (.cells #[.int .i64 1, .int .i64 2, .int .i64 3, .int .i64 4, .int .i64 1] 3)).heap.size := World.block_lt_of_cell? _ ⟨w.heap.size + 1, 0, none⟩ x0.1
  generalize (((w.alloc (.cells #[.slice As sn cs, .slice Ar n cr] 30)).alloc (.cells #[.int .i64 0, .slice none 0 0, .slice none 0 0, .int .i64 0, .slice none 0 0] 90)).alloc (.cells #[.int .i64 1, .int .i64 2, .int .i64 3, .int .i64 4, .int .i64 1] 3)) = w1 at *
  refine (num_any R K (w.heap.size + 1 + 1) 5 _ _ _ (by omega) (HR.out.bel HB0.out) (by omega) hh0 (by rfl) (by omega) (by omega) (lit_all [1, 2, 3, 4, 1])).mono ?_
  rintro e w2 ⟨z, rfl, hz, hg, hr⟩
  have hz' : z = 1 ∨ z = 2 ∨ z = 3 ∨ z = 4 := by
    have := hz
    simp at this
    omega
  have GR := Lib.hid ((Gr.of HB0.out).trans hg)
  have RD := Lib.hid hr
  replace m0 := hg.cel m0 (by omega)
  replace m1 := hg.cel m1 (by omega)
  replace x0 := hg.cel x0 (by omega)
  replace x1 := hg.cel x1 (by omega)
  replace x2 := hg.cel x2 (by omega)
  replace x3 := hg.cel x3 (by omega)
  replace x4 := hg.cel x4 (by omega)
  have hz2 := hg.size
  have XR := Lib.hid (show ∀ i, i < 5 → ∃ v, Cel w2 (w.heap.size + 1) i v from fun i hi => by
    have : i = 0 ∨ i = 1 ∨ i = 2 ∨ i = 3 ∨ i = 4 := by omega
    rcases this with rfl | rfl | rfl | rfl | rfl
    · exact ⟨_, x0⟩
    · exact ⟨_, x1⟩
    · exact ⟨_, x2⟩
    · exact ⟨_, x3⟩
    · exact ⟨_, x4⟩)
  clear hg hr hh0 hz HB0 HR x0 x1 x2 x3 x4
  have HB2 := bl_alloc (Below.refl w2.heap.size w2) (.cells #[.int .i64 z, .slice none 0 0, .slice none 0 0, .int .i64 0, .slice none 0 0] 90)
  have hBx : w.heap.size + 1 < w2.heap.size := by omega
  replace m0 := m0.below HB2
  replace m1 := m1.below HB2
  obtain ⟨m0a, m0b⟩ := m0
  obtain ⟨m1a, m1b⟩ := m1
  go_wp2_with fail
  have y0 : Cel (w2.alloc (.cells #[.int .i64 z, .slice none 0 0, .slice none 0 0, .int .i64 0, .slice none 0 0] 90)) w2.heap.size 0 (.int .i64 z) := ⟨by go_simp, by go_simp⟩
  have y1 : Cel (w2.alloc (.cells #[.int .i64 z, .slice none 0 0, .slice none 0 0, .int .i64 0, .slice none 0 0] 90)) w2.heap.size 1 (.slice none 0 0) := ⟨by go_simp, by go_simp⟩
  have y2 : Cel (w2.alloc (.cells #[.int .i64 z, .slice none 0 0, .slice none 0 0, .int .i64 0, .slice none 0 0] 90)) w2.heap.size 2 (.slice none 0 0) := ⟨by go_simp, by go_simp⟩
  have y3 : Cel (w2.alloc (.cells #[.int .i64 z, .slice none 0 0, .slice none 0 0, .int .i64 0, .slice none 0 0] 90)) w2.heap.size 3 (.int .i64 0) := ⟨by go_simp, by go_simp⟩
  have y4 : Cel (w2.alloc (.cells #[.int .i64 z, .slice none 0 0, .slice none 0 0, .int .i64 0, .slice none 0 0] 90)) w2.heap.size 4 (.slice none 0 0) := ⟨by go_simp, by go_simp⟩
  have GR3 := Lib.hid (GR.out.bel HB2)
  have RD3 := Lib.hid (RD.out.bel HB2)
  have XR3 := Lib.hid (fun i (hi : i < 5) => (XR.out i hi).imp fun _ hv => hv.below HB2)
  clear XR
  have hz3 : w2.heap.size < (w2.alloc (.cells #[.int .i64 z, .slice none 0 0, .slice none 0 0, .int .i64 0, .slice none 0 0] 90)).heap.size := by simp
  obtain ⟨X, hX⟩ : ∃ X, w2.heap.size = X := ⟨_, rfl⟩
  rw [hX] at y0 y1 y2 y3 y4 hz3 hBx ⊢
  clear GR RD HB2 hX hz2
  have M0 := Lib.hid (show Cel _ w.heap.size 0 (.slice As sn cs) from ⟨m0a, m0b⟩)
  have M1 := Lib.hid (show Cel _ w.heap.size 1 (.slice Ar n cr) from ⟨m1a, m1b⟩)
  clear m0a m1a m0b m1b
  generalize (w2.alloc (.cells #[.int .i64 z, .slice none 0 0, .slice none 0 0, .int .i64 0, .slice none 0 0] 90)) = w3 at *
  refine (some_any R (K + 1) _ _ _ _ _ _ 1 _ (by omega) (by omega) (by omega) hs RD3.out).mono ?_
  rintro e w4 ⟨V, k, rfl, hk1, hk2, hts, hg, hr⟩
  have TV := Lib.hid (hts.ti (Nat.le_refl _))
  obtain ⟨Av, cv, rfl⟩ := ts_head hts
  have BX4 := Lib.hid (BX.ask ⟨hRw, by omega, XR3.out, y0, y1, y2, y3, y4, GR3.out, RD3.out⟩ hg (hr.more (show K + 1 + 21 ≤ K + 22 by omega)))
  have MA0 := Lib.hid (hg.cel M0.out (by omega))
  have MA1 := Lib.hid (hg.cel M1.out (by omega))
  have hz4 := hg.size
  clear M0 M1 hg hr hts GR3 RD3 XR3 y0 y1 y2 y3 y4
  -- the store of Vars
  have TV5 := Lib.hid (TV.out.kept (gb_set w4 ⟨X, 1, none⟩ (.slice Av k cv)) (oth_some (.inl (show X < w3.heap.size by omega))))
  have BX5 := Lib.hid (BX4.out.put1 (u := .slice Av k cv))
  have hz5 : w4.heap.size = (w4.setCell ⟨X, 1, none⟩ (.slice Av k cv)).heap.size := by simp [World.setCell]
  obtain ⟨y1a, y1b⟩ := BX4.out.c1
  obtain ⟨Y0a, Y0b⟩ := BX5.out.c0
  have MB0 := Lib.hid (show Cel (w4.setCell ⟨X, 1, none⟩ (.slice Av k cv)) w.heap.size 0 (.slice As sn cs) from MA0.out.set (by omega))
  have MB1 := Lib.hid (show Cel (w4.setCell ⟨X, 1, none⟩ (.slice Av k cv)) w.heap.size 1 (.slice Ar n cr) from MA1.out.set (by omega))
  clear TV BX4 MA0 MA1
  rcases hz' with rfl | rfl | rfl | rfl
  · go_wp2
    clear y1a y1b Y0a Y0b
    generalize w4.setCell ⟨X, 1, none⟩ (.slice Av k cv) = w5 at *
    go_loopw [6] (fun i wr => ∃ (j : Nat) (ov : Value), j ≤ k ∧ i = .int .i64 j ∧ TS wr w5.heap.size 3 1 ov j ∧ w5.heap.size ≤ wr.heap.size ∧ TI wr w3.heap.size w4.heap.size (.slice Av k cv) k ∧ BX w wr R (K + 22 + j) X (.int .i64 1) (.slice Av k cv) ov (.int .i64 0) (.slice none 0 0)) (fun i _ => k - (intOf i).toNat)
    case atStart => exact ⟨0, .slice none 0 0, Nat.zero_le _, rfl, TS.nil _ _ _ _, Nat.le_refl _, TV5.out, BX5.out⟩
    case round =>
      obtain ⟨j, ov, hj, rfl, hts, hsr, hti, hbx⟩ := hrel
      have TSk := Lib.hid hts
      have TVk := Lib.hid hti
      have BXk := Lib.hid hbx
      obtain ⟨A1, cap1, rfl⟩ := ts_head hts
      obtain ⟨b1, b1f⟩ := hbx.c1
      have hXr := hbx.lt
      clear hts hti hbx TV5 BX5
      by_cases hlt : j < k
      · have hlt' : (j : Int) < (k : Int) := by omega
        have hKb : K + 22 + j ≤ 1000000 := by omega
        have HBl := Lib.hid (fun o => bl_alloc (Below.drew (Below.refl wr.heap.size wr)) o)
        have HAt := Lib.hid (fun o => heap_alloc_new wr.drew o)
        have hsz6 : (#[Value.int .i64 1, .int .i64 (-1), .int .i64 2, .int .i64 1, .int .i64 (-2), .int .i64 3] : Array Value).size = 6 := rfl
        have hneR : wr.heap.size ≠ R := by omega
        have h06 : 0 < 6 := by omega
        have h61 : 6 ≤ 1000 := by omega
        have c2 := BXk.out.c2.1
        have hR5 : R < w5.heap.size := by omega
        have hR3 : R < w3.heap.size := by omega
        have hX5 : X < w5.heap.size := by omega
        go_upto_region 8 with fail
        go_region_law (first
            | (go_simp; go_at_call 84; refine (num_from (W := wr) (HBl.out _) R _ wr.heap.size 6 _ _ hKb BXk.out.rd hneR (HAt.out _) hsz6 h06 h61 (lit_all [1, -1, 2, 1, -2, 3])).mono ?_; rintro e w6 ⟨y, rfl, _, hg, hr⟩; have TS6 := Lib.hid (TSk.out.gr hg hR5); have TV6 := Lib.hid (TVk.out.kept hg (oth_some (.inl hR3))); have BX6 := Lib.hid (BXk.out.ask hg hr); have hz6 := hg.size; have hzt : w5.heap.size ≤ w6.heap.size := Nat.le_trans hsr hz6; replace c2 := BX6.out.c2.1; have c2a := kc (bl_alloc (Below.refl w6.heap.size w6) (.cells #[.int .i64 y] 3)) c2; clear hg hr)
            | (refine step_of (by rfl) (wp_ts1 (k := j) _ _ 22 (by rfl) Try.underlying22 Try.infoInt (TS6.out.bel (bl_alloc (Below.refl _ _) _)) (by first | (simp; done) | (simp; omega)) (by rfl) (by rfl) (heap_alloc_new _ _) (by omega) ?_); intro gg cap2 w7 hts7 hgr7; have hZ7 := hgr7.size; have BX7 := Lib.hid ((BX6.out.bel (bl_alloc (Below.refl _ _) _)).grow hgr7 (fun b e => by have := TS6.out.lt2 b e; omega)); have TV7 := Lib.hid ((TV6.out.kept (gb_of (bl_alloc (Below.refl _ _) _)) oth_none).kept hgr7 (fun b e => by have := TS6.out.lt2 b e; omega)); have TS7 := Lib.hid hts7; have hz7 : w5.heap.size ≤ w7.heap.size := (by simp at hZ7; omega); clear hts7 hgr7 TS6 BX6 TV6 hZ7; obtain ⟨c2, c2f⟩ := BX7.out.c2))
        all_goals
          clear c2 c2f c2a
          go_wp2
          go_roundw
          case rel => exact ⟨j + 1, _, by omega, by go_num, TS7.out.set_ (by show X < _; omega) _, by simpa [World.setCell] using hz7, TV7.out.kept (gb_set _ _ _) (oth_some (.inl (by show X < _; omega))), (BX7.out.put2).more (by omega)⟩
          case measure => simp [intOf]; omega
      · have e : j = k := by omega
        subst e
        have hlt' : ¬ (j : Int) < (j : Int) := by omega
        go_wp2_with fail
        have HAl := Lib.hid (bl_alloc (Below.refl wr.heap.size wr) (.cells #[.int .i64 1, .int .i64 2, .int .i64 0, .int .i64 (-1), .int .i64 3, .int .i64 (-3), .int .i64 4] 3))
        refine (num_any R (K + 22 + j) wr.heap.size 7 _ _ _ (by omega) (BXk.out.bel HAl.out).rd (by omega) (heap_alloc_new wr _) (by rfl) (by omega) (by omega) (lit_all [1, 2, 0, -1, 3, -3, 4])).mono ?_
        rintro e w8 ⟨y, rfl, _, hg, hr⟩
        have BX8 := Lib.hid ((BXk.out.bel HAl.out).ask hg hr)
        have TV8 := Lib.hid (((TVk.out.kept (gb_of HAl.out) oth_none).kept hg (oth_some (.inl (by omega)))).kept (gb_set w8 ⟨X, 3, none⟩ (.int .i64 y)) (oth_some (.inl (by show X < _; omega))))
        have TS8 := Lib.hid (((TSk.out.bel HAl.out).gr hg (by omega)).set_ (p := ⟨X, 3, none⟩) (by show X < _; omega) (.int .i64 y))
        have hs8 : w4.heap.size ≤ (w8.setCell ⟨X, 3, none⟩ (.int .i64 y)).heap.size := by
          have h1 := HAl.out.size
          have h2 := hg.size
          simp only [World.setCell, Array.size_modify]
          omega
        have BX9 := Lib.hid (BX8.out.put3 (u := .int .i64 y))
        obtain ⟨c3, c3f⟩ := BX8.out.c3
        obtain ⟨e0, g0, g0f⟩ := BX9.out.res 0 (by omega)
        obtain ⟨e1, g1, g1f⟩ := BX9.out.res 1 (by omega)
        obtain ⟨e2, g2, g2f⟩ := BX9.out.res 2 (by omega)
        obtain ⟨e3, g3, g3f⟩ := BX9.out.res 3 (by omega)
        obtain ⟨e4, g4, g4f⟩ := BX9.out.res 4 (by omega)
        obtain ⟨d0, _⟩ := BX9.out.c0
        obtain ⟨d1, _⟩ := BX9.out.c1
        obtain ⟨d2, _⟩ := BX9.out.c2
        obtain ⟨d3, _⟩ := BX9.out.c3
        obtain ⟨d4, _⟩ := BX9.out.c4
        clear hg hr TSk TVk BXk b1 b1f HAl BX8
        go_wp2
        refine bodyPost_ret (v := .agg #[.int .i64 1, .slice Av j cv, .slice A1 j cap1, .int .i64 y, .slice none 0 0]) (by simp [results, Try.results85, go_sem, g0, g1, g2, g3, g4]) rfl ?_
        obtain ⟨f1, f2, f3⟩ := BX9.out.fin (.int .i64 1) (.slice Av j cv) (.slice A1 j cap1) (.int .i64 y) (.slice none 0 0)
        have f4 := f1.size
        exact ⟨fun | 0 => .int .i64 1 | 1 => .slice Av j cv | 2 => .slice A1 j cap1 | 3 => .int .i64 y | _ => .slice none 0 0, rfl, ⟨1, y, j, j, 0, rfl, rfl, by omega, by omega, by omega, (TV8.out.kept f1 (oth_some (.inl (by omega)))).more (by omega) (by omega), ((ts_more TS8.out (Nat.le_refl _)).ti (Nat.le_refl _)).kept f1 (oth_some (.inl (by omega))) |>.more (by omega) f4, EL.nil⟩, f2, f3.more (by omega)⟩
  · have hs8 : w4.heap.size ≤ (w4.setCell ⟨X, 1, none⟩ (.slice Av k cv)).heap.size := by omega
    obtain ⟨e0, g0, g0f⟩ := BX5.out.res 0 (by omega)
    obtain ⟨e1, g1, g1f⟩ := BX5.out.res 1 (by omega)
    obtain ⟨e2, g2, g2f⟩ := BX5.out.res 2 (by omega)
    obtain ⟨e3, g3, g3f⟩ := BX5.out.res 3 (by omega)
    obtain ⟨e4, g4, g4f⟩ := BX5.out.res 4 (by omega)
    obtain ⟨d0, _⟩ := BX5.out.c0
    obtain ⟨d1, _⟩ := BX5.out.c1
    obtain ⟨d2, _⟩ := BX5.out.c2
    obtain ⟨d3, _⟩ := BX5.out.c3
    obtain ⟨d4, _⟩ := BX5.out.c4
    go_wp2
    refine bodyPost_ret (v := .agg #[.int .i64 2, .slice Av k cv, .slice none 0 0, .int .i64 0, .slice none 0 0]) (by simp [results, Try.results85, go_sem, g0, g1, g2, g3, g4]) rfl ?_
    obtain ⟨f1, f2, f3⟩ := BX5.out.fin (.int .i64 2) (.slice Av k cv) (.slice none 0 0) (.int .i64 0) (.slice none 0 0)
    have f4 := f1.size
    exact ⟨fun | 0 => .int .i64 2 | 1 => .slice Av k cv | 2 => .slice none 0 0 | 3 => .int .i64 0 | _ => .slice none 0 0, rfl, ⟨2, 0, k, 0, 0, rfl, rfl, by omega, by omega, by omega, (TV5.out.kept f1 (oth_some (.inl (by omega)))).more (by omega) (by omega), TI.nil, EL.nil⟩, f2, f3.more (by omega)⟩
  -- TABLE
  · go_wp2_with fail
    clear y1a y1b Y0a Y0b MB0 MB1
    generalize w4.setCell ⟨X, 1, none⟩ (.slice Av k cv) = w5 at *
    have HAl := Lib.hid (bl_alloc (Below.refl w5.heap.size w5) (.cells #[.int .i64 3, .int .i64 4, .int .i64 2, .int .i64 6, .int .i64 0, .int .i64 8] 3))
    have hRw5 : w5.heap.size ≠ R := by omega
    go_wp2_with fail
    refine (num_any R (K + 22) w5.heap.size 6 _ _ _ (by omega) (BX5.out.bel HAl.out).rd hRw5 (heap_alloc_new w5 _) (by rfl) (by omega) (by omega) (lit_all [3, 4, 2, 6, 0, 8])).mono ?_
    rintro e w6 ⟨z, rfl, hzm, hg, hr⟩
    have hz8 : 0 ≤ z ∧ z ≤ 8 := by
      have := hzm
      simp at this
      omega
    have BX6 := Lib.hid ((BX5.out.bel HAl.out).ask hg hr)
    have TV6 := Lib.hid ((TV5.out.kept (gb_of HAl.out) oth_none).kept hg (oth_some (.inl (by omega))))
    have hz6 : w5.heap.size ≤ w6.heap.size := by have h1 := HAl.out.size; have h2 := hg.size; omega
    clear hg hr hzm BX5 TV5 HAl
    obtain ⟨iz, rfl⟩ : ∃ iz : Nat, z = (iz : Int) := ⟨z.toNat, by omega⟩
    have hi8 : iz ≤ 8 := by omega
    go_wp2
    go_loopw [7] (fun c wr => ∃ (i j : Nat) (ov : Value), i + j ≤ 8 ∧ c = .int .i64 i ∧ EL wr w6.heap.size wr.heap.size ov j 22 ∧ w6.heap.size ≤ wr.heap.size ∧ TI wr w3.heap.size w4.heap.size (.slice Av k cv) k ∧ BX w wr R (K + 23 + 22 * j) X (.int .i64 3) (.slice Av k cv) (.slice none 0 0) (.int .i64 0) ov) (fun c _ => (intOf c).toNat)
    case atStart => exact ⟨iz, 0, .slice none 0 0, by omega, rfl, EL.nil, Nat.le_refl _, TV6.out, BX6.out⟩
    case round =>
      obtain ⟨i, j, ov, hij, rfl, hel, hsr, hti, hbx⟩ := hrel
      have ELk := Lib.hid hel
      have TVk := Lib.hid hti
      have BXk := Lib.hid hbx
      obtain ⟨Ao, capo, rfl⟩ := hel.head
      obtain ⟨b1, b1f⟩ := hbx.c1
      have hXr := hbx.lt
      clear hel hti hbx TV6 BX6
      by_cases hlt : 0 < i
      · have hlt' : (0 : Int) < (i : Int) := by omega
        go_wp2
        have ts0 := Lib.hid (ts_lit wr 3 1)
        have HA0 := Lib.hid (bl_alloc (Below.refl wr.heap.size wr) (.cells #[] 3))
        have EL0 := Lib.hid (ELk.out.kept (gb_of HA0.out) oth_none)
        have TV0 := Lib.hid (TVk.out.kept (gb_of HA0.out) oth_none)
        have BX0 := Lib.hid (BXk.out.bel HA0.out)
        have hz0 : wr.heap.size ≤ (wr.alloc (.cells #[] 3)).heap.size := HA0.out.size
        obtain ⟨L, hL⟩ : ∃ L, wr.heap.size = L := ⟨_, rfl⟩
        rw [hL] at ts0 EL0 hsr hXr hz0 ⊢
        clear ELk TVk BXk b1 b1f HA0 hL
        generalize (wr.alloc (.cells #[] 3)) = w7 at *
        go_loopw [8, 9] (fun v c wq => ∃ t : Nat, t ≤ k ∧ c = .int .i64 t ∧ TS wq L 3 1 v t ∧ EL wq w6.heap.size L (.slice Ao j capo) j 22 ∧ L ≤ wq.heap.size ∧ TI wq w3.heap.size w4.heap.size (.slice Av k cv) k ∧ BX w wq R (K + 23 + 22 * j + t) X (.int .i64 3) (.slice Av k cv) (.slice none 0 0) (.int .i64 0) (.slice Ao j capo)) (fun _ c _ => k - (intOf c).toNat)
        case atStart => exact ⟨0, Nat.zero_le _, rfl, ts0.out, EL0.out, hz0, TV0.out, BX0.out⟩
        case round =>
          obtain ⟨t, ht, rfl, hts, hel, hsq, hti, hbx⟩ := hrel
          have TSq := Lib.hid hts
          have ELq := Lib.hid hel
          have TVq := Lib.hid hti
          have BXq := Lib.hid hbx
          obtain ⟨b1, b1f⟩ := hbx.c1
          obtain ⟨Aq, capq, rfl⟩ := ts_head hts
          have hXq := hbx.lt
          clear hts hel hti hbx ts0 EL0 TV0 BX0
          by_cases htk : t < k
          · have htk' : (t : Int) < (k : Int) := by omega
            go_wp2_with fail
            refine (pick_any R (K + 23 + 22 * j + t) 4 _ (by omega) BXq.out.rd).mono ?_
            rintro e w8 ⟨x, rfl, hx0, hx1, hg, hr⟩
            have TS8 := Lib.hid (TSq.out.gr hg (by omega))
            have EL8 := Lib.hid (ELq.out.kept hg (oth_some (.inl (by omega))))
            have TV8 := Lib.hid (TVq.out.kept hg (oth_some (.inl (by omega))))
            have BX8 := Lib.hid (BXq.out.ask hg hr)
            have hz8 : L ≤ w8.heap.size := Nat.le_trans hsq hg.size
            have HA8 := Lib.hid (bl_alloc (Below.refl w8.heap.size w8) (.cells #[.int .i64 x] 3))
            clear hg hr TSq ELq TVq BXq b1 b1f
            go_wp2_with (at_builtin; refine wpList_plain (by rfl) fun K' hK' => ?_; refine wp_ts1 _ _ 22 (by rfl) Try.underlying22 Try.infoInt (TS8.out.bel HA8.out) (by first | (simp; done) | (simp; omega)) (by rfl) (by rfl) (heap_alloc_new _ _) (by omega) ?_; intro gg cap1 w9 hts9 hgr9; refine hK' _ _ ?_; clear hK' K')
            go_roundw
            case rel => exact ⟨t + 1, by omega, by go_num, hts9, (EL8.out.kept (gb_of HA8.out) oth_none).kept hgr9 (fun b e => by have := TS8.out.lt2 b e; omega), by have h1 := HA8.out.size; have h2 := hgr9.size; omega, (TV8.out.kept (gb_of HA8.out) oth_none).kept hgr9 (fun b e => by have := TS8.out.lt2 b e; omega), (BX8.out.bel HA8.out).grow hgr9 (fun b e => by have := TS8.out.lt2 b e; omega)⟩
            case measure => simp [intOf]; omega
          · have e : t = k := by omega
            subst e
            obtain ⟨b4, b4f⟩ := BXq.out.c4
            have HA8 := Lib.hid (bl_alloc (Below.refl wr.heap.size wr) (.cells #[.slice Aq t capq] 22))
            have EL9 := Lib.hid ((ELq.out.kept (gb_of HA8.out) oth_none).more (Nat.le_refl _) (show L ≤ (wr.alloc (.cells #[.slice Aq t capq] 22)).heap.size by have := HA8.out.size; omega) (Nat.le_refl _))
            have TI9 := Lib.hid ((((TSq.out.bel HA8.out).ti (Nat.le_refl _))).more (show w6.heap.size ≤ L by omega) (Nat.le_refl _))
            have TV9 := Lib.hid (TVq.out.kept (gb_of HA8.out) oth_none)
            have BX9 := Lib.hid (BXq.out.bel HA8.out)
            have hz9 : w6.heap.size ≤ (wr.alloc (.cells #[.slice Aq t capq] 22)).heap.size := by have := HA8.out.size; omega
            clear TSq ELq TVq BXq
            go_wp2_with (at_builtin; refine wpList_plain (by rfl) fun K' hK' => ?_; refine wp_el1 (m := t) _ _ (by rfl) EL9.out hz9 (by rfl) (by rfl) (heap_alloc_new _ _) TI9.out (by omega) (by omega) ?_ (Nat.le_refl _); intro gg cap1 w9 hel9 hgr9 hown9 hsz9; have TV10 := Lib.hid (TV9.out.kept hgr9 (fun b e => by have := hown9 b e; omega)); have BX10 := Lib.hid (BX9.out.grow hgr9 (fun b e => by have := hown9 b e; omega)); have EL10 := Lib.hid hel9; clear hel9 hgr9 hown9 TV9 BX9 EL9 TI9; obtain ⟨c4, c4f⟩ := BX10.out.c4; refine hK' _ _ ?_; clear hK' K')
            go_roundw
            case rel => exact ⟨i - 1, j + 1, _, by omega, by first | go_num | (congr 1; omega), (EL10.out.kept (gb_set _ _ _) (oth_some (.inl (by show X < _; omega)))).more (Nat.le_refl _) (by simp [World.setCell]) (Nat.le_refl _), by simp only [World.setCell, Array.size_modify]; omega, TV10.out.kept (gb_set _ _ _) (oth_some (.inl (by show X < _; omega))), (BX10.out.put4).more (by omega)⟩
            case measure => simp [intOf]; omega
      · obtain rfl : i = 0 := by omega
        have hs8 : w4.heap.size ≤ wr.heap.size := by omega
        obtain ⟨e0, g0, g0f⟩ := BXk.out.res 0 (by omega)
        obtain ⟨e1, g1, g1f⟩ := BXk.out.res 1 (by omega)
        obtain ⟨e2, g2, g2f⟩ := BXk.out.res 2 (by omega)
        obtain ⟨e3, g3, g3f⟩ := BXk.out.res 3 (by omega)
        obtain ⟨e4, g4, g4f⟩ := BXk.out.res 4 (by omega)
        obtain ⟨d0, _⟩ := BXk.out.c0
        obtain ⟨d1, _⟩ := BXk.out.c1
        obtain ⟨d2, _⟩ := BXk.out.c2
        obtain ⟨d3, _⟩ := BXk.out.c3
        obtain ⟨d4, _⟩ := BXk.out.c4
        go_wp2
        refine bodyPost_ret (v := .agg #[.int .i64 3, .slice Av k cv, .slice none 0 0, .int .i64 0, .slice Ao j capo]) (by simp [results, Try.results85, go_sem, g0, g1, g2, g3, g4]) rfl ?_
        obtain ⟨f1, f2, f3⟩ := BXk.out.fin (.int .i64 3) (.slice Av k cv) (.slice none 0 0) (.int .i64 0) (.slice Ao j capo)
        have f4 := f1.size
        exact ⟨fun | 0 => .int .i64 3 | 1 => .slice Av k cv | 2 => .slice none 0 0 | 3 => .int .i64 0 | _ => .slice Ao j capo, rfl, ⟨3, 0, k, 0, j, rfl, rfl, by omega, by omega, by omega, (TVk.out.kept f1 (oth_some (.inl (by omega)))).more (by omega) (by omega), TI.nil, (ELk.out.kept f1 (oth_some (.inl (by omega)))).more (by omega) (by omega) (Nat.le_refl _)⟩, f2, f3.more (by omega)⟩

  · obtain ⟨mb0, mb0f⟩ := MB0.out
    obtain ⟨mb1, mb1f⟩ := MB1.out
    go_wp2_with fail
    refine (some_any R (K + 22) _ _ _ _ _ _ 2 _ (by omega) (by omega) (by omega) hs BX5.out.rd).mono ?_
    rintro e w6 ⟨V', k', rfl, hk1', hk2', hts', hg, hr⟩
    obtain ⟨g', cap', rfl, hcap', hg1', hg2', _, _⟩ := hts'.open (by omega)
    have BX6 := Lib.hid (BX5.out.ask hg hr)
    have TT := Lib.hid (((ts_take hts' (show 2 ≤ k' by omega)).ti (Nat.le_refl _)).kept (gb_set w6 ⟨X, 1, none⟩ (.slice (some ⟨g', 0, none⟩) 2 cap')) (oth_some (.inl (by show X < _; omega))))
    have BX7 := Lib.hid (BX6.out.put1 (u := .slice (some ⟨g', 0, none⟩) 2 cap'))
    have hs8 : w6.heap.size = (w6.setCell ⟨X, 1, none⟩ (.slice (some ⟨g', 0, none⟩) 2 cap')).heap.size := by simp [World.setCell]
    obtain ⟨x1, x1f⟩ := BX6.out.c1
    have hcI : (2 : Int) ≤ (cap' : Int) := by omega
    clear hg hr hts' BX6 y1a y1b Y0a Y0b mb0 mb0f mb1 mb1f
    obtain ⟨e0, g0, g0f⟩ := BX7.out.res 0 (by omega)
    obtain ⟨e1, g1, g1f⟩ := BX7.out.res 1 (by omega)
    obtain ⟨e2, g2, g2f⟩ := BX7.out.res 2 (by omega)
    obtain ⟨e3, g3, g3f⟩ := BX7.out.res 3 (by omega)
    obtain ⟨e4, g4, g4f⟩ := BX7.out.res 4 (by omega)
    obtain ⟨d0, _⟩ := BX7.out.c0
    obtain ⟨d1, _⟩ := BX7.out.c1
    obtain ⟨d2, _⟩ := BX7.out.c2
    obtain ⟨d3, _⟩ := BX7.out.c3
    obtain ⟨d4, _⟩ := BX7.out.c4
    go_wp2
    refine bodyPost_ret (v := .agg #[.int .i64 4, .slice (some ⟨g', 0, none⟩) 2 cap', .slice none 0 0, .int .i64 0, .slice none 0 0]) (by simp [results, Try.results85, go_sem, g0, g1, g2, g3, g4]) rfl ?_
    obtain ⟨f1, f2, f3⟩ := BX7.out.fin (.int .i64 4) (.slice (some ⟨g', 0, none⟩) 2 cap') (.slice none 0 0) (.int .i64 0) (.slice none 0 0)
    have f4 := f1.size
    exact ⟨fun | 0 => .int .i64 4 | 1 => .slice (some ⟨g', 0, none⟩) 2 cap' | 2 => .slice none 0 0 | 3 => .int .i64 0 | _ => .slice none 0 0, rfl, ⟨4, 0, 2, 0, 0, rfl, rfl, by omega, by omega, by omega, (TT.out.kept f1 (oth_some (.inl (by omega)))).more (by omega) (by omega), TI.nil, EL.nil⟩, f2, f3.more (by omega)⟩
end Go.Proofs.Ytafiikfaeomhpaa
