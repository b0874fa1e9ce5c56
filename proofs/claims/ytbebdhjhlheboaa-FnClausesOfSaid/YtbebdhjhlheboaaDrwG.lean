/- The draw of a valid constraint (no claim of its own). Conditions: as each theorem states. -/
import Derived.Test.YtbebdhjhlheboaaDrwF
import Derived.Deep.RegionHeld3
namespace Go.Proofs.Ytbebdhjhlheboaa
open Go.ChangeShapes Go.WideShapes Go.ChangeAt Go.RowKit

theorem alloc_at {W : World} {o : Obj} {H : Nat} (h : W.heap.size = H) : (W.alloc o).heap[H]? = some o := by subst h; exact heap_alloc_new W o
/-- The draw of a listed number, told from an earlier world. -/
theorem num_from {W Wc : World} (hbx : Below W.heap.size W Wc) (R K b n : Nat) (cs : Array Value) (T : TypeId) (hK : K ≤ 1000000) (h : Rdr W R K) (hb : b ≠ R) (hh : Wc.heap[b]? = some (.cells cs T (0, 0))) (hn : cs.size = n) (h0 : 0 < n) (hm : n ≤ 1000) (hall : ∀ u ∈ cs.toList, ∃ z, u = .int .i64 z) :
    Calls Try.prog 67 #[.pointer (some ⟨R, 0, none⟩), .slice (some ⟨b, 0, none⟩) n n] Wc (NRes W R K cs) :=
  (num_any R K b n cs T Wc hK (h.bel hbx) hb hh hn h0 hm hall).mono fun _ _ ⟨z, he, hm, hg, hr⟩ => ⟨z, he, hm, (Gr.of hbx).trans hg, hr⟩
theorem FE.setne {w : World} {lo G k : Nat} (h : FE w lo (some ⟨G, 0, none⟩) k) {p : Addr} (hp : p.block ≠ G) (u : Value) : FE (w.setCell p u) lo (some ⟨G, 0, none⟩) k := by
  obtain ⟨c, l, h⟩ := h
  rcases h with h | ⟨G', e, hG, h⟩
  · exact ⟨c, l, .inl h⟩
  · cases e
    exact ⟨c, l, .inr ⟨G, rfl, hG, h.at_ (Below.heap_setCell w p u G (fun e => hp e.symm))⟩⟩
theorem Cel.gr {w w1 : World} {R j o : Nat} {v : Value} (hc : Cel w j o v) (hg : Gr R w w1) (hne : j ≠ R) : Cel w1 j o v := hg.cel hc hne

set_option maxRecDepth 100000 in
set_option maxHeartbeats 6400000 in
theorem constraint_any (R K : Nat) (w : World) (hK : K ≤ 800000) (h : Rdr w R K) :
    Calls Try.prog 78 #[.pointer (some ⟨R, 0, none⟩)] w (CDr w R (K + 200) 12) := by
  have hRw := h.lt
  have HR := Lib.hid h
  clear h
  go_enter Try.func78, Try.ntmps78
  go_upto_region 1 with fail
  have HB0 := Lib.hid (bl_alloc (Below.refl w.heap.size w) (.cells #[.slice none 0 0, .int .i64 0] 55))
  have r0 : Cel (w.alloc (.cells #[.slice none 0 0, .int .i64 0] 55)) w.heap.size 0 (.slice none 0 0) := ⟨by go_simp, by go_simp⟩
  have r1 : Cel (w.alloc (.cells #[.slice none 0 0, .int .i64 0] 55)) w.heap.size 1 (.int .i64 0) := ⟨by go_simp, by go_simp⟩
  have C0 := Lib.hid r0
  have C1 := Lib.hid r1
  have hz0 : w.heap.size < (w.alloc (.cells #[.slice none 0 0, .int .i64 0] 55)).heap.size := by simp
  clear r0 r1
  generalize w.alloc (.cells #[.slice none 0 0, .int .i64 0] 55) = W0 at *
  have RD0 := Lib.hid (HR.out.bel HB0.out)
  have GR0 := Lib.hid (Gr.of (R := R) HB0.out)
  go_wp2_with fail
  refine (num_from (bl_alloc (Below.refl W0.heap.size W0) _) R K W0.heap.size 5 _ _ (by omega) RD0.out (by omega) (heap_alloc_new W0 _) (by rfl) (by omega) (by omega) (lit_all [4, 5, 3, 6, 12])).mono ?_
  rintro e w1 ⟨m, rfl, hmem, hg, hr⟩
  obtain ⟨mm, rfl, hmm⟩ : ∃ q : Nat, m = (q : Int) ∧ q ≤ 12 := by
    simp [vI] at hmem
    rcases hmem with e | e | e | e | e
    · exact ⟨4, e, by omega⟩
    · exact ⟨5, e, by omega⟩
    · exact ⟨3, e, by omega⟩
    · exact ⟨6, e, by omega⟩
    · exact ⟨12, e, by omega⟩
  have GR1 := Lib.hid (GR0.out.trans hg)
  have RD1 := Lib.hid hr
  have D0 := Lib.hid (hg.cel C0.out (by omega))
  have D1 := Lib.hid (hg.cel C1.out (by omega))
  have hz1 : w.heap.size < w1.heap.size := Nat.lt_of_lt_of_le hz0 hg.size
  clear hg hr hmem GR0 RD0 C0 C1
  go_wp2_with fail
  refine (draw_any R (K + 1) mm _ (by omega) hmm RD1.out).mono ?_
  rintro e w2 ⟨A', k, cap', bd, rfl, hk, hfe, hg, hr, hcp⟩
  have HCp := Lib.hid hcp
  clear hcp
  have FE2 := Lib.hid hfe
  have HO := Lib.hid (fun h => hfe.open h)
  have GR2 := Lib.hid (GR1.out.trans hg)
  have RD2 := Lib.hid hr
  have E0 := Lib.hid (hg.cel D0.out (by omega))
  have E1 := Lib.hid (hg.cel D1.out (by omega))
  have hz2 : w1.heap.size ≤ w2.heap.size := hg.size
  clear hg hr hfe GR1 RD1 D0 D1
  go_upto_region 2 with fail
  have HB3 := Lib.hid (bl_alloc (Below.refl w2.heap.size w2) (.cells #[.slice A' k cap', .int .i64 bd] 55))
  have p0 : Cel (w2.alloc (.cells #[.slice A' k cap', .int .i64 bd] 55)) w2.heap.size 0 (.slice A' k cap') := ⟨by go_simp, by go_simp⟩
  have p1 : Cel (w2.alloc (.cells #[.slice A' k cap', .int .i64 bd] 55)) w2.heap.size 1 (.int .i64 bd) := ⟨by go_simp, by go_simp⟩
  have P0 := Lib.hid p0
  have P1 := Lib.hid p1
  have FE3 := Lib.hid (FE2.out.bel HB3.out)
  have GR3 := Lib.hid (GR2.out.bel HB3.out)
  have RD3 := Lib.hid (RD2.out.bel HB3.out)
  have F0 := Lib.hid (E0.out.below HB3.out)
  have F1 := Lib.hid (E1.out.below HB3.out)
  have hz3 : w2.heap.size < (w2.alloc (.cells #[.slice A' k cap', .int .i64 bd] 55)).heap.size := by simp
  clear p0 p1 FE2 GR2 RD2 E0 E1
  generalize w2.alloc (.cells #[.slice A' k cap', .int .i64 bd] 55) = W3 at *
  go_wp2_with fail
  refine (pick_any R (K + 1 + 100) 12 _ (by omega) RD3.out).mono ?_
  rintro e w4 ⟨x, rfl, hx0, hx1, hg, hr⟩
  have FE4 := Lib.hid (FE3.out.gr hg (by omega))
  have GR4 := Lib.hid (GR3.out.trans hg)
  have RD4 := Lib.hid hr
  have G0 := Lib.hid (hg.cel F0.out (by omega))
  have G1 := Lib.hid (hg.cel F1.out (by omega))
  have Q0 := Lib.hid (hg.cel P0.out (by omega))
  have Q1 := Lib.hid (hg.cel P1.out (by omega))
  have hz4 : w2.heap.size < w4.heap.size := Nat.lt_of_lt_of_le hz3 hg.size
  clear hg hr FE3 GR3 RD3 F0 F1 P0 P1
  by_cases h0 : x = 0 ∧ 0 < k
  · obtain ⟨rfl, hk0⟩ := h0
    clear hx0 hx1
    have hk2 : 0 < k * 2 := by omega
    have hkI : (0 : Int) < (k : Int) := by omega
    obtain ⟨G, rfl, hG1, hG2, _, _⟩ := HO.out hk0
    have q0 := Q0.out.1
    have hRG : R < G := by omega
    have hGn1 : ¬ w2.heap.size = G := by omega
    have hGn2 : ¬ G = w2.heap.size := by omega
    have hKb : K + 1 + 100 + 1 ≤ 1000000 := by omega
    have hne4 : w4.heap.size ≠ R := by omega
    have hne2 : w2.heap.size ≠ R := by omega
    have hne0 : w.heap.size ≠ R := by omega
    have hRl : R < w1.heap.size := by omega
    have h30 : 0 < 3 := by omega
    have h31 : 3 ≤ 1000 := by omega
    have HBl := Lib.hid (fun o => bl_alloc (Below.drew (Below.refl w4.heap.size w4)) o)
    have HAt := Lib.hid (fun o => heap_alloc_new w4.drew o)
    have hsz3 : (#[Value.int .i64 1000, .int .i64 999, .int .i64 100] : Array Value).size = 3 := rfl
    clear HO
    go_upto_region 3 with fail
    go_region_held3 (fun w' => w'.cell? ⟨w2.heap.size, 0, none⟩ = some (.slice (some ⟨G, 0, none⟩) k cap')) (go_keep)
      (first | (go_at_call 67; refine (num_from (W := w4) (HBl.out _) R _ w4.heap.size 3 _ _ hKb RD4.out hne4 (HAt.out _) hsz3 h30 h31 (lit_all [1000, 999, 100])).mono ?_; rintro e w5 ⟨z, rfl, _, hg, hr⟩; have FE5 := Lib.hid (FE4.out.gr hg hRl); have GR5 := Lib.hid (GR4.out.trans hg); have RD5 := Lib.hid hr; have H0 := Lib.hid (hg.cel G0.out hne0); have H1 := Lib.hid (hg.cel G1.out hne0); have S0 := Lib.hid (hg.cel Q0.out hne2); have S1 := Lib.hid (hg.cel Q1.out hne2); replace q0 := S0.out.1; obtain ⟨G', e', _, hG5, hcell, hfro⟩ := FE5.out.open hk0; cases e'; obtain ⟨u0, hu0⟩ := hcell 0 hk2; have hf0 := hfro 0; have hz5 := hg.size; clear hg hr hcell hfro))
    have FE6 := Lib.hid (FE5.out.store 0 z)
    have GR6 := Lib.hid (GR5.out.set (p := ⟨G, 0, none⟩) (.inr (by show w.heap.size ≤ G; omega)) (.int .i64 z))
    have RD6 := Lib.hid (RD5.out.set (p := ⟨G, 0, none⟩) hRG (.int .i64 z))
    have I0 := Lib.hid (H0.out.set (O' := G) (o' := 0) (u := .int .i64 z) (by omega))
    have I1 := Lib.hid (H1.out.set (O' := G) (o' := 0) (u := .int .i64 z) (by omega))
    have J0 := Lib.hid (S0.out.set (O' := G) (o' := 0) (u := .int .i64 z) (by omega))
    have J1 := Lib.hid (S1.out.set (O' := G) (o' := 0) (u := .int .i64 z) (by omega))
    clear FE5 GR5 RD5 H0 H1 S0 S1 q0 u0 hu0 hf0 FE4 GR4 RD4 G0 G1 Q0 Q1
    generalize w5.setCell ⟨G, 0, none⟩ (.int .i64 z) = W6 at *
    have hz6 : w2.heap.size < W6.heap.size := World.block_lt_of_cell? W6 ⟨w2.heap.size, 0, none⟩ J0.out.1
    go_wp2_with fail
    refine (num_from (bl_alloc (Below.refl W6.heap.size W6) _) R (K + 1 + 100 + 1 + 1) W6.heap.size 4 _ _ (by omega) RD6.out (by omega) (heap_alloc_new W6 _) (by rfl) (by omega) (by omega) (lit_all [1000, 500, 20000, 1])).mono ?_
    rintro e w7 ⟨y, rfl, _, hg, hr⟩
    have FE7 := Lib.hid (FE6.out.gr hg (by omega))
    have GR7 := Lib.hid (GR6.out.trans hg)
    have RD7 := Lib.hid hr
    obtain ⟨b0, f0⟩ := hg.cel I0.out (by omega)
    obtain ⟨b1, f1⟩ := hg.cel I1.out (by omega)
    obtain ⟨b2, f2⟩ := hg.cel J0.out (by omega)
    obtain ⟨b3, f3⟩ := hg.cel J1.out (by omega)
    clear hg hr FE6 GR6 RD6 I0 I1 J0 J1
    go_wp2
    refine bodyPost_ret (v := .agg #[.slice (some ⟨G, 0, none⟩) k cap', .int .i64 y]) (by simp [results, Try.results78, go_sem, b0, b1]) rfl ?_
    exact ⟨_, k, cap', y, rfl, by omega, (((FE7.out.setne (by show w2.heap.size ≠ G; omega) _).set_ (by show w.heap.size < _; omega) _).set_ (by show w.heap.size < _; omega) _).more (by omega), ((GR7.out.set (.inr (by show w.heap.size ≤ w2.heap.size; omega)) _).set (.inr (Nat.le_refl _)) _).set (.inr (Nat.le_refl _)) _, (((RD7.out.set (by show R < w2.heap.size; omega) _).set hRw _).set hRw _).more (by omega), ⟨fun h => (by cases h), HCp.out.2⟩⟩
  · have key : x ≠ 0 ∨ k = 0 := by omega
    obtain ⟨b0, f0⟩ := G0.out
    obtain ⟨b1, f1⟩ := G1.out
    obtain ⟨b2, f2⟩ := Q0.out
    obtain ⟨b3, f3⟩ := Q1.out
    clear HO hx0 hx1 h0
    rcases key with h0 | rfl
    · have hd0 : (x == 0) = false := by rw [beq_eq_false_iff_ne]; exact h0
      clear h0
      go_wp2
      refine bodyPost_ret (v := .agg #[.slice A' k cap', .int .i64 bd]) (by simp [results, Try.results78, go_sem, b0, b1]) rfl ?_
      exact ⟨A', k, cap', bd, rfl, by omega, ((FE4.out.set_ (by show w.heap.size < _; omega) _).set_ (by show w.heap.size < _; omega) _).more (by omega), (GR4.out.set (.inr (Nat.le_refl _)) _).set (.inr (Nat.le_refl _)) _, ((RD4.out.set hRw _).set hRw _).more (by omega), HCp.out⟩
    · go_wp2
      all_goals
        refine bodyPost_ret (v := .agg #[.slice A' 0 cap', .int .i64 bd]) (by simp [results, Try.results78, go_sem, b0, b1]) rfl ?_
        exact ⟨A', 0, cap', bd, rfl, by omega, ((FE4.out.set_ (by show w.heap.size < _; omega) _).set_ (by show w.heap.size < _; omega) _).more (by omega), (GR4.out.set (.inr (Nat.le_refl _)) _).set (.inr (Nat.le_refl _)) _, ((RD4.out.set hRw _).set hRw _).more (by omega), HCp.out⟩
end Go.Proofs.Ytbebdhjhlheboaa
