/- The draw of NormalForm's arguments (no claim of its own). Conditions: as each theorem states. -/
import Derived.Test.YtipblbcedkhmbaaDrwL
namespace Go.Proofs.Ytipblbcedkhmbaa
open Go.ChangeShapes Go.WideShapes Go.ChangeAt Go.RowKit

section
variable {w0 W w1 : World} {R : Nat} {o o' : Obj}
theorem lit_at0 (w : World) (o o' : Obj) : ((w.alloc o).alloc o').heap[w.heap.size]? = some o := by
  have h1 : w.heap.size < (w.alloc o).heap.size := by simp
  exact (((bl_alloc (Below.refl (w.alloc o).heap.size (w.alloc o)) o').block w.heap.size h1)).trans (heap_alloc_new w o)
theorem lit_at1 (w : World) (o o' : Obj) : ((w.alloc o).alloc o').heap[w.heap.size + 1]? = some o' := alloc_at (by simp)
theorem lit_keep {b : Nat} (hg : Gr R W w1) (hb : b ≠ R) (h : W.heap[b]? = some o) : w1.heap[b]? = some o := by
  have hlt : b < W.heap.size := by
    rcases Nat.lt_or_ge b W.heap.size with h1 | h1
    · exact h1
    · rw [Array.getElem?_eq_none h1] at h; cases h
  exact (hg.block b hlt (by intro e; cases e; exact hb rfl)).trans h
end
set_option maxRecDepth 100000 in
theorem step_ts2 {ops : Array Oper} {o : Oper} {a : Act} {K : Act → World → Prop} {Q : Exit → Act → World → Prop} {E : Prop} {W : World} {lo k : Nat} {ov : Value} (hgd : o.guard = none) (s x : Operand)
    (ho : o.op = .call { callee := .builtin .append, args := #[s, x], argTypes := #[23, 23] })
    (h : TS W lo 35 2 ov k) (hlo : lo ≤ W.heap.size) (hs : a.eval s = ov) {H : Nat} (hx : a.eval x = .slice (some ⟨H, 0, none⟩) 1 1) {X Y : Int} (hnew : W.heap[H]? = some (.cells #[.int .i64 X, .int .i64 Y] 35 (0, 0))) (hk : k ≤ 1048576)
    (hK : ∀ g cap w', TS w' lo 35 2 (.slice (some ⟨g, 0, none⟩) (k + 1) cap) (k + 1) → W.grownBy w' ov.ownBlock → K (a.put o.dst (.slice (some ⟨g, 0, none⟩) (k + 1) cap)) w') :
    if Region.wanted o (yielded ops a.tmps) = true then Oper.wp Try.prog o a W K Q else E := by
  have hw : Region.wanted o (yielded ops a.tmps) = true := by simp [Region.wanted, hgd]
  rw [if_pos hw]
  exact wp_ts2 s x ho h hlo hs hx hnew hk hK

/-- What the draw of terms and a bound leaves. -/
def DNf (w : World) (e : Ending) (w' : World) : Prop := ∃ A k cap c l bd, e = .returned (.tuple #[.slice A k cap, .int .i64 bd]) ∧ k ≤ 8 ∧ Rd w' w'.heap.size A k c l ∧ Below w.heap.size w w'

set_option maxRecDepth 100000 in
set_option maxHeartbeats 6400000 in
theorem drawNf_any (A : Option Addr) (n cap : Nat) (y : Nat → Int) (w : World) (hm : n ≤ maxLen) (hcap : n ≤ cap) (hr : RdY w w.heap.size A n y) :
    Calls Try.prog 16 #[.slice A n cap] w (DNf w) := by
  have HR := Lib.hid hr
  clear hr
  go_enter Try.func16, Try.ntmps16
  go_wp2_with fail
  refine (open_any _ _ _ y _ hm hcap HR.out).mono ?_
  rintro e w1 ⟨rfl, hb, hrd, hz1⟩
  have HB1 := Lib.hid hb
  have RD1 := Lib.hid hrd
  clear hb hrd
  go_wp2_with fail
  have HAl := Lib.hid (bl_alloc (Below.refl w1.heap.size w1) (.cells #[] 35))
  have TS1 := Lib.hid (ts_lit w1 35 2)
  refine (num_from (W := w1.alloc (.cells #[] 35)) (bl_alloc (Below.refl _ _) _) w.heap.size 0 (w1.heap.size + 1) 6 _ _ (by omega) (RD1.out.bel HAl.out) (by omega) (alloc_at (by simp)) (by rfl) (by omega) (by omega) (lit_all [3, 4, 5, 2, 0, 8])).mono ?_
  rintro e w2 ⟨z, rfl, hmem, hg, hr⟩
  obtain ⟨m, rfl, hm8⟩ : ∃ q : Nat, z = (q : Int) ∧ q ≤ 8 := by
    simp [vI] at hmem
    rcases hmem with e | e | e | e | e | e
    · exact ⟨3, e, by omega⟩
    · exact ⟨4, e, by omega⟩
    · exact ⟨5, e, by omega⟩
    · exact ⟨2, e, by omega⟩
    · exact ⟨0, e, by omega⟩
    · exact ⟨8, e, by omega⟩
  have GR2 := Lib.hid ((Gr.of (R := w.heap.size) HAl.out).trans hg)
  have RD2 := Lib.hid hr
  have TS2 := Lib.hid (TS1.out.gr hg hz1)
  clear hmem hg hr HAl TS1 RD1
  go_wp2
  go_loopw [5, 6] (fun t i wr => ∃ (j k : Nat), k + j ≤ 8 ∧ i = .int .i64 j ∧ TS wr w1.heap.size 35 2 t k ∧ Gr w.heap.size w1 wr ∧ Rdr wr w.heap.size (0 + 1 + 2 * k)) (fun _ i _ => (intOf i).toNat)
  case atStart => exact ⟨m, 0, by omega, rfl, TS2.out, GR2.out, RD2.out⟩
  case round =>
    obtain ⟨j, k, hkj, rfl, hts, hgr, hrd⟩ := hrel
    have TSk := Lib.hid hts
    have GR := Lib.hid hgr
    have RD := Lib.hid hrd
    clear hts hgr hrd TS2 GR2 RD2
    rcases Nat.eq_zero_or_pos j with rfl | hj0
    · have hk8 : k ≤ 8 := by omega
      have hsr : w1.heap.size ≤ wr.heap.size := GR.out.size
      obtain ⟨At, capt, ct, lt, et, -, -⟩ := TSk.out.terms
      subst et
      by_cases hk0 : k = 0
      · subst hk0
        go_wp2_with fail
        have HAl := Lib.hid (bl_alloc (Below.refl wr.heap.size wr) (.cells #[.int .i64 1, .int .i64 0, .int .i64 2, .int .i64 (-1), .int .i64 3, .int .i64 5, .int .i64 (-20000), .int .i64 20000, .int .i64 20001] 3))
        refine (num_any w.heap.size (0 + 1 + 2 * 0) wr.heap.size 9 _ _ _ (by omega) (RD.out.bel HAl.out) (by omega) (heap_alloc_new wr _) (by rfl) (by omega) (by omega) (lit_all [1, 0, 2, -1, 3, 5, -20000, 20000, 20001])).mono ?_
        rintro e w9 ⟨zb, rfl, _, hg, hr⟩
        have TS9 := Lib.hid ((TSk.out.bel HAl.out).gr hg hz1)
        have GR9 := Lib.hid ((GR.out.bel HAl.out).trans hg)
        have RD9 := Lib.hid hr
        have hs_w9 : w1.heap.size ≤ w9.heap.size := GR9.out.size
        clear hg hr HAl TSk GR RD
        obtain ⟨A9, cap9, c9, l9, e9, hF9, -⟩ := TS9.out.terms
        have HF9 := Lib.hid hF9.rdAt
        clear hF9
        cases e9
        go_wp2
        refine bodyPost_ret (v := .tuple #[.slice At 0 capt, .int .i64 zb]) (by simp [results, Try.results16, go_sem]) rfl ?_
        exact ⟨_, 0, _, c9, l9, zb, rfl, by omega, HF9.out, gr_bel HB1.out GR9.out (Nat.le_refl _)⟩
      · have hkI : (0 : Int) < (k : Int) := by omega
        go_wp2_with fail
        refine (pick_any w.heap.size (0 + 1 + 2 * k) 12 _ (by omega) RD.out).mono ?_
        rintro e w3 ⟨x, rfl, hx0, hx1, hg, hr⟩
        have TS3 := Lib.hid (TSk.out.gr hg hz1)
        have GR3 := Lib.hid (GR.out.trans hg)
        have RD3 := Lib.hid hr
        have hs_w3 : w1.heap.size ≤ w3.heap.size := GR3.out.size
        clear hg hr TSk GR RD
        by_cases h0 : x = 0
        · subst h0
          clear hx0 hx1
          go_wp2_with fail
          have HAl := Lib.hid (bl_alloc (Below.refl w3.heap.size w3) (.cells #[.int .i64 1000, .int .i64 (-1000), .int .i64 1001, .int .i64 (-9223372036854775808)] 3))
          refine (num_any w.heap.size (0 + 1 + 2 * k + 1) w3.heap.size 4 _ _ _ (by omega) (RD3.out.bel HAl.out) (by omega) (heap_alloc_new w3 _) (by rfl) (by omega) (by omega) (lit_all [1000, -1000, 1001, -9223372036854775808])).mono ?_
          rintro e w4 ⟨za, rfl, _, hg, hr⟩
          have TS4 := Lib.hid ((TS3.out.bel HAl.out).gr hg hz1)
          have GR4 := Lib.hid ((GR3.out.bel HAl.out).trans hg)
          have RD4 := Lib.hid hr
          have hs_w4 : w1.heap.size ≤ w4.heap.size := GR4.out.size
          clear hg hr HAl TS3 GR3 RD3
          go_wp2_with fail
          have HAl := Lib.hid (bl_alloc (Below.refl w4.heap.size w4) (.cells #[.int .i64 1, .int .i64 0, .int .i64 13, .int .i64 (-13)] 3))
          refine (num_any w.heap.size (0 + 1 + 2 * k + 1 + 1) w4.heap.size 4 _ _ _ (by omega) (RD4.out.bel HAl.out) (by omega) (heap_alloc_new w4 _) (by rfl) (by omega) (by omega) (lit_all [1, 0, 13, -13])).mono ?_
          rintro e w5 ⟨zl, rfl, _, hg, hr⟩
          have TS5 := Lib.hid ((TS4.out.bel HAl.out).gr hg hz1)
          have GR5 := Lib.hid ((GR4.out.bel HAl.out).trans hg)
          have RD5 := Lib.hid hr
          have hs_w5 : w1.heap.size ≤ w5.heap.size := GR5.out.size
          clear hg hr HAl TS4 GR4 RD4
          obtain ⟨g, cap', e', hcc, hg1, hg2, hcell, hfro⟩ := TS5.out.open (by omega)
          cases e'
          obtain ⟨u0, hu0⟩ := hcell 0 (by omega)
          obtain ⟨u1, hu1⟩ := hcell 1 (by omega)
          have hf0 := hfro 0
          have hf1 := hfro 1
          have hgR : w.heap.size < g := by omega
          have TS6 := Lib.hid ((TS5.out.store 0 za).store 1 zl)
          have GR6 := Lib.hid ((GR5.out.set (p := ⟨g, 0, none⟩) (.inr (by show w1.heap.size ≤ g; exact hg1)) (.int .i64 za)).set (p := ⟨g, 1, none⟩) (.inr (by show w1.heap.size ≤ g; exact hg1)) (.int .i64 zl))
          have RD6 := Lib.hid ((RD5.out.set (p := ⟨g, 0, none⟩) hgR (.int .i64 za)).set (p := ⟨g, 1, none⟩) hgR (.int .i64 zl))
          clear hcell hfro
          go_upto_region 9 with fail
          clear TS5 GR5 RD5 hu0 hu1 hf0 hf1
          generalize (w5.setCell ⟨g, 0, none⟩ (.int .i64 za)).setCell ⟨g, 1, none⟩ (.int .i64 zl) = w6 at *
          have hs_w6 : w1.heap.size ≤ w6.heap.size := GR6.out.size
          go_wp2_with fail
          have HAl := Lib.hid (bl_alloc (Below.refl w6.heap.size w6) (.cells #[.int .i64 1, .int .i64 0, .int .i64 2, .int .i64 (-1), .int .i64 3, .int .i64 5, .int .i64 (-20000), .int .i64 20000, .int .i64 20001] 3))
          refine (num_any w.heap.size (0 + 1 + 2 * k + 1 + 1 + 1) w6.heap.size 9 _ _ _ (by omega) (RD6.out.bel HAl.out) (by omega) (heap_alloc_new w6 _) (by rfl) (by omega) (by omega) (lit_all [1, 0, 2, -1, 3, 5, -20000, 20000, 20001])).mono ?_
          rintro e w9 ⟨zb, rfl, _, hg, hr⟩
          have TS9 := Lib.hid ((TS6.out.bel HAl.out).gr hg hz1)
          have GR9 := Lib.hid ((GR6.out.bel HAl.out).trans hg)
          have RD9 := Lib.hid hr
          have hs_w9 : w1.heap.size ≤ w9.heap.size := GR9.out.size
          clear hg hr HAl TS6 GR6 RD6
          obtain ⟨A9, cap9, c9, l9, e9, hF9, -⟩ := TS9.out.terms
          have HF9 := Lib.hid hF9.rdAt
          clear hF9
          cases e9
          go_wp2
          refine bodyPost_ret (v := .tuple #[.slice (some ⟨g, 0, none⟩) k capt, .int .i64 zb]) (by simp [results, Try.results16, go_sem]) rfl ?_
          exact ⟨_, k, _, c9, l9, zb, rfl, by omega, HF9.out, gr_bel HB1.out GR9.out (Nat.le_refl _)⟩
        · have hxd : (x == 0) = false := by rw [beq_eq_false_iff_ne]; exact h0
          clear hx0 hx1 h0
          go_wp2_with fail
          have HAl := Lib.hid (bl_alloc (Below.refl w3.heap.size w3) (.cells #[.int .i64 1, .int .i64 0, .int .i64 2, .int .i64 (-1), .int .i64 3, .int .i64 5, .int .i64 (-20000), .int .i64 20000, .int .i64 20001] 3))
          refine (num_any w.heap.size (0 + 1 + 2 * k + 1) w3.heap.size 9 _ _ _ (by omega) (RD3.out.bel HAl.out) (by omega) (heap_alloc_new w3 _) (by rfl) (by omega) (by omega) (lit_all [1, 0, 2, -1, 3, 5, -20000, 20000, 20001])).mono ?_
          rintro e w9 ⟨zb, rfl, _, hg, hr⟩
          have TS9 := Lib.hid ((TS3.out.bel HAl.out).gr hg hz1)
          have GR9 := Lib.hid ((GR3.out.bel HAl.out).trans hg)
          have RD9 := Lib.hid hr
          have hs_w9 : w1.heap.size ≤ w9.heap.size := GR9.out.size
          clear hg hr HAl TS3 GR3 RD3
          obtain ⟨A9, cap9, c9, l9, e9, hF9, -⟩ := TS9.out.terms
          have HF9 := Lib.hid hF9.rdAt
          clear hF9
          cases e9
          go_wp2
          refine bodyPost_ret (v := .tuple #[.slice At k capt, .int .i64 zb]) (by simp [results, Try.results16, go_sem]) rfl ?_
          exact ⟨_, k, _, c9, l9, zb, rfl, by omega, HF9.out, gr_bel HB1.out GR9.out (Nat.le_refl _)⟩
    · obtain ⟨q, rfl⟩ : ∃ q, j = q + 1 := ⟨j - 1, by omega⟩
      have hjI : (0 : Int) < ((q + 1 : Nat) : Int) := by omega
      have hsr : w1.heap.size ≤ wr.heap.size := GR.out.size
      go_wp2_with fail
      have HAl := Lib.hid (bl_alloc (Below.refl wr.heap.size wr) (.cells #[.int .i64 1, .int .i64 (-1), .int .i64 2, .int .i64 (-3), .int .i64 0, .int .i64 4] 3))
      refine (num_any w.heap.size (0 + 1 + 2 * k) wr.heap.size 6 _ _ _ (by omega) (RD.out.bel HAl.out) (by omega) (heap_alloc_new wr _) (by rfl) (by omega) (by omega) (lit_all [1, -1, 2, -3, 0, 4])).mono ?_
      rintro e w3 ⟨z1, rfl, _, hg, hr⟩
      have TS3 := Lib.hid ((TSk.out.bel HAl.out).gr hg hz1)
      have GR3 := Lib.hid ((GR.out.bel HAl.out).trans hg)
      have RD3 := Lib.hid hr
      have hs_w3 : w1.heap.size ≤ w3.heap.size := GR3.out.size
      clear hg hr HAl TSk GR RD
      go_wp2_with fail
      have HAl := Lib.hid (bl_alloc (Below.refl w3.heap.size w3) (.cells #[.int .i64 1, .int .i64 (-1), .int .i64 2, .int .i64 (-2), .int .i64 3, .int .i64 (-3), .int .i64 4, .int .i64 12] 3))
      refine (num_any w.heap.size (0 + 1 + 2 * k + 1) w3.heap.size 8 _ _ _ (by omega) (RD3.out.bel HAl.out) (by omega) (heap_alloc_new w3 _) (by rfl) (by omega) (by omega) (lit_all [1, -1, 2, -2, 3, -3, 4, 12])).mono ?_
      rintro e w4 ⟨z2, rfl, _, hg, hr⟩
      have TS4 := Lib.hid ((TS3.out.bel HAl.out).gr hg hz1)
      have GR4 := Lib.hid ((GR3.out.bel HAl.out).trans hg)
      have RD4 := Lib.hid hr
      have hs_w4 : w1.heap.size ≤ w4.heap.size := GR4.out.size
      clear hg hr HAl TS3 GR3 RD3
      go_wp2_with (at_builtin; refine wpList_plain (by rfl) fun K' hK' => ?_; refine wp_ts2 _ _ (by rfl) (TS4.out.bel (bl_alloc (Below.refl _ _) _)) (by simp; omega) (by rfl) (by rfl) (heap_alloc_new _ _) (by omega) ?_; intro gg cap1 w5 hts5 hgr5; refine hK' _ _ ?_; clear hK' K')
      go_roundw
      case rel => exact ⟨q, k + 1, by omega, by go_num, hts5, (GR4.out.bel (bl_alloc (Below.refl _ _) _)).grow hgr5 (fun j e => TS4.out.lt j e), ((RD4.out.bel (bl_alloc (Below.refl _ _) _)).grow hgr5 (fun j e => by have := TS4.out.lt j e; omega)).more (by omega)⟩
      case measure => simp [intOf]
end Go.Proofs.Ytipblbcedkhmbaa
