/- The draw of a problem that may be made invalid (no claim of its own). Conditions: as each theorem states. -/
import Derived.Test.YtnglpbfoeiahlaaDrwQ
namespace Go.Proofs.Ytnglpbfoeiahlaa
open Go.ChangeShapes Go.WideShapes Go.ChangeAt Go.RowKit

section
variable {w w1 W : World} {R lo el N N' k G : Nat} {ov a b : Value} {xs : List Value} {A : Option Addr}
theorem PX.shape (h : PX w lo el N ov k xs) : ∃ A cap, ov = .slice A k cap := by
  rcases h.nil_or with ⟨e, hk⟩ | ⟨g, cap, cur, e, _⟩
  · exact ⟨none, 0, by rw [e, hk]⟩
  · exact ⟨_, cap, e⟩
theorem PX.up (h : PX w lo el N ov k xs) (hN : N ≤ N') : PX w lo el N' ov k xs :=
  ⟨h.own, h.len, fun i hi => by obtain ⟨a, b, h1, h2, h3⟩ := h.els i hi; exact ⟨a, b, h1, h2, h3.up hN⟩⟩
/-- The slice copied into an empty one. -/
theorem px_copy {cap : Nat} {v' : Value} {w' : World} (hp : PX w lo el N (.slice A k cap) k xs) (hown : w'.ownsRow w.heap.size 71 2 v' (0 + k) ([] ++ xs)) (hg : (w.alloc (.cells #[] 71)).grownBy w' (some w.heap.size)) :
    PX w' w.heap.size el N v' k xs := by
  rw [Nat.zero_add, List.nil_append] at hown
  refine ⟨hown, hp.len, fun i hi => ?_⟩
  obtain ⟨a, b, h1, h2, h3⟩ := hp.els i hi
  exact ⟨a, b, h1, h2, (h3.bel (bl_alloc (Below.refl _ _) _)).other (heap_alloc_new w _) (fun j hj hne => hg.block j hj (by intro e; cases e; exact hne rfl))⟩
theorem PX.put {g cap y n' cap' : Nat} {bd : Int} (h : PX w lo el N (.slice (some ⟨g, 0, none⟩) k cap) k xs) (hy : y < k) {A' : Option Addr} (he : El w el N (.slice A' n' cap') (.int .i64 bd)) :
    ∃ zs, PX ((w.setCell ⟨g, y * 2, none⟩ (.slice A' n' cap')).setCell ⟨g, y * 2 + 1, none⟩ (.int .i64 bd)) lo el N (.slice (some ⟨g, 0, none⟩) k cap) k zs := by
  have hlen := h.len
  rcases h.nil_or with ⟨e, hk⟩ | ⟨g0, cap0, cur, e, hh⟩
  · omega
  · cases e
    have hkeep : ∀ {a b : Value}, El w el N a b → El ((w.setCell ⟨g, y * 2, none⟩ (.slice A' n' cap')).setCell ⟨g, y * 2 + 1, none⟩ (.int .i64 bd)) el N a b := fun {a b} hE =>
      hE.other hh (fun j hj hne => (Below.heap_setCell _ ⟨g, y * 2 + 1, none⟩ _ j hne).trans (Below.heap_setCell w ⟨g, y * 2, none⟩ _ j hne))
    refine ⟨_, ((h.own.stored (y * 2) (.slice A' n' cap')).1.stored (y * 2 + 1) (.int .i64 bd)).1, by simp [hlen], fun i hi => ?_⟩
    by_cases e : i = y
    · subst e
      refine ⟨.slice A' n' cap', .int .i64 bd, ?_, ?_, hkeep he⟩
      · rw [List.getElem?_set_ne (by omega), List.getElem?_set_self (by omega)]
      · rw [List.getElem?_set_self (by simp; omega)]
    · obtain ⟨a, b, h1, h2, h3⟩ := h.els i hi
      refine ⟨a, b, ?_, ?_, hkeep h3⟩
      · rw [List.getElem?_set_ne (by omega), List.getElem?_set_ne (by omega)]; exact h1
      · rw [List.getElem?_set_ne (by omega), List.getElem?_set_ne (by omega)]; exact h2

theorem wp_appC {o : Oper} {a : Act} {K : Act → World → Prop} {Q : Exit → Act → World → Prop} (s x : Operand)
    (ho : o.op = .call { callee := .builtin .append, args := #[s, x], argTypes := #[27, 27] }) (hty : o.type = 27)
    {B0 : Nat} {v : Value} {n m cap : Nat} {ys : List Value} (hs : a.eval s = v) (hx : a.eval x = .slice A m cap)
    (hown : W.ownsRow B0 71 2 v n xs) (hsrc : SrcC W A m ys) (hm0 : A = none → m = 0) (hcap : A = none → cap = 0) (hB : B0 ≤ W.heap.size) (hn : n + m ≤ 1000000)
    (h : ∀ v' w', w'.ownsRow B0 71 2 v' (n + m) (xs ++ ys) → W.grownBy w' v.ownBlock → K (a.put o.dst v') w') :
    o.wp Try.prog a W K Q := by
  obtain ⟨v', w', hrun, h2, h3⟩ := run_appC W hown hsrc hm0 hcap hB hn
  unfold Oper.wp execOp
  simp only [ho, hty, resolve, invoke, builtin, Sem.run_bind, Sem.run_pure, Result.andThen_ok, List.map_toArray, List.map_cons, List.map_nil, hs, hx, hrun]
  exact h v' w' h2 h3
end

set_option maxRecDepth 100000 in
set_option maxHeartbeats 6400000 in
theorem mutateP_any (R K N : Nat) (A : Option Addr) (k cap lo : Nat) (xs : List Value) (w : World) (hK : K ≤ 800000) (hN : N ≤ 100) (hk : k ≤ 8) (h : Rdr w R K) (hp : PX w lo (R + 1) N (.slice A k cap) k xs) :
    Calls Try.prog 75 #[.pointer (some ⟨R, 0, none⟩), .slice A k cap] w (PDr w R (K + 40) (N + 3)) := by
  have hRw := h.lt
  have HR := Lib.hid h
  have HP := Lib.hid hp
  have HN1 := Lib.hid hp.nils
  have HBa := Lib.hid (bl_alloc (Below.refl w.heap.size w) (.cells #[] 71))
  have HOw := Lib.hid (px_lit w (R + 1) N).own
  clear h hp
  go_enter Try.func75, Try.ntmps75
  by_cases hk0 : 0 < k
  · have hkI : (0 : Int) < (k : Int) := by omega
    go_wp2_with (at_builtin; refine wpList_plain (by rfl) fun K' hK' => ?_; refine wp_appC _ _ (by rfl) (by rfl) (by rfl) (by rfl) HOw.out (HP.out.bel HBa.out).src HN1.out.2 HN1.out.1 (by simp) (by omega) ?_; intro v1 w1 hown1 hg1; have HP1 := Lib.hid (px_copy HP.out hown1 hg1); obtain ⟨A1, cap1, e1⟩ := HP1.out.shape; subst e1; have GR1 := Lib.hid ((Gr.of (R := R) HBa.out).grow (ov := .slice (some ⟨w.heap.size, 0, none⟩) 0 0) hg1 (by intro j e; cases e; exact Nat.le_refl _)); have RD1 := Lib.hid ((HR.out.bel HBa.out).grow (ov := .slice (some ⟨w.heap.size, 0, none⟩) 0 0) hg1 (by intro j e; cases e; exact hRw)); clear hown1 hg1; refine hK' _ _ ?_; clear hK' K')
    refine (pick_any R K 20 _ (by omega) RD1.out).mono ?_
    rintro e w2 ⟨x, rfl, hx0, hx1, hg, hr⟩
    have HP2 := Lib.hid (HP1.out.gr hg hRw (by omega))
    have GR2 := Lib.hid (GR1.out.trans hg)
    have RD2 := Lib.hid hr
    clear hg hr HP1 GR1 RD1
    by_cases h0 : x = 0
    · subst h0
      clear hx0 hx1
      go_wp2_with fail
      refine (pick_any R (K + 1) (k : Int) _ (by omega) RD2.out).mono ?_
      rintro e w3 ⟨yy, rfl, hy0, hy1, hg, hr⟩
      obtain ⟨y, rfl⟩ := Int.eq_ofNat_of_zero_le hy0
      have hy : y < k := by omega
      have HP3 := Lib.hid (HP2.out.gr hg hRw (by omega))
      have GR3 := Lib.hid (GR2.out.trans hg)
      have RD3 := Lib.hid hr
      clear hg hr HP2 GR2 RD2 hy0 hy1
      rcases HP3.out.nil_or with ⟨_, hkk⟩ | ⟨g, capg, cur, e, _⟩
      · exact absurd hkk (by omega)
      cases e
      obtain ⟨va, vb, hxa, hxb, An, n, capn, bd, rfl, rfl, hn, ⟨c, l, hfr⟩, hcp⟩ := HP3.out.els y hy
      have c0 : w3.cell? ⟨g, y * 2, none⟩ = some (.slice An n capn) := (HP3.out.own.cellAt (y * 2) (by omega)).trans hxa
      have c1 : w3.cell? ⟨g, y * 2 + 1, none⟩ = some (.int .i64 bd) := (HP3.out.own.cellAt (y * 2 + 1) (by omega)).trans hxb
      have HRd := Lib.hid hfr.rdAt
      have HCp := Lib.hid hcp
      have hyI : (y : Int) < (k : Int) := by omega
      clear hxa hxb hfr hcp
      go_wp2_with fail
      refine (mutate_any R (K + 1 + 1) _ _ _ _ c l _ (by omega) (by omega) RD3.out HRd.out HCp.out).mono ?_
      rintro e w4 ⟨A4, n4, cap4, bd4, rfl, hn4, hfe, hg, hr, hcp⟩
      obtain ⟨c4, l4, hfr⟩ := hfe
      have HP4 := Lib.hid (HP3.out.gr hg hRw (by omega))
      have GR4 := Lib.hid (GR3.out.trans hg)
      have RD4 := Lib.hid hr
      have HRd4 := Lib.hid hfr.rdAt
      have HCp4 := Lib.hid hcp
      clear hg hr hfr hcp HP3 GR3 RD3 HRd HCp c0 c1
      go_wp2_with fail
      refine (mutate_any R (K + 1 + 1 + 10) _ _ _ _ c4 l4 _ (by omega) (by omega) RD4.out HRd4.out HCp4.out).mono ?_
      rintro e w5 ⟨A5, n5, cap5, bd5, rfl, hn5, hfe, hg, hr, hcp⟩
      obtain ⟨c5, l5, hfr⟩ := hfe
      have HP5 := Lib.hid (HP4.out.gr hg hRw (by omega))
      have GR5 := Lib.hid (GR4.out.trans hg)
      have RD5 := Lib.hid hr
      have HRd5 := Lib.hid hfr.rdAt
      have HCp5 := Lib.hid hcp
      clear hg hr hfr hcp HP4 GR4 RD4 HRd4 HCp4
      go_wp2_with fail
      refine (mutate_any R (K + 1 + 1 + 10 + 10) _ _ _ _ c5 l5 _ (by omega) (by omega) RD5.out HRd5.out HCp5.out).mono ?_
      rintro e w6 ⟨A6, n6, cap6, bd6, rfl, hn6, hfe, hg, hr, hcp⟩
      have HE := Lib.hid (show El w6 (R + 1) (N + 3) (.slice A6 n6 cap6) (.int .i64 bd6) from ⟨A6, n6, cap6, bd6, rfl, rfl, by omega, hfe.more (by have := RD5.out.lt; omega), hcp⟩)
      have HP6 := Lib.hid ((HP5.out.gr hg hRw (by omega)).up (show N ≤ N + 3 by omega))
      have GR6 := Lib.hid (GR5.out.trans hg)
      have RD6 := Lib.hid hr
      clear hg hr hfe hcp HP5 GR5 RD5 HRd5 HCp5
      obtain ⟨zs, hps⟩ := HP6.out.put hy HE.out
      have HPs := Lib.hid hps
      obtain ⟨va, vb, hxa, hxb, _⟩ := HP6.out.els y hy
      have u0 : w6.cell? ⟨g, y * 2, none⟩ = some va := (HP6.out.own.cellAt (y * 2) (by omega)).trans hxa
      have u1 : w6.cell? ⟨g, y * 2 + 1, none⟩ = some vb := (HP6.out.own.cellAt (y * 2 + 1) (by omega)).trans hxb
      have f0 := HP6.out.own.frozenAt (y * 2)
      have f1 := HP6.out.own.frozenAt (y * 2 + 1)
      have HG := Lib.hid (show w.heap.size ≤ g from (HP6.out.lt g rfl).1)
      clear hxa hxb hps
      go_wp2
      go_ret
      exact ⟨_, k, _, zs, rfl, hk, (fun h => by cases h), (fun h => by cases h), HPs.out, (GR6.out.set (p := ⟨g, y * 2, none⟩) (.inr HG.out) _).set (p := ⟨g, y * 2 + 1, none⟩) (.inr HG.out) _, ((RD6.out.set (p := ⟨g, y * 2, none⟩) (by show R < g; have := HG.out; omega) _).set (p := ⟨g, y * 2 + 1, none⟩) (by show R < g; have := HG.out; omega) _).more (by omega)⟩
    · have hd0 : (x == 0) = false := by rw [beq_eq_false_iff_ne]; exact h0
      clear hx0 hx1 h0
      go_wp2
      go_ret
      exact ⟨_, k, _, _, rfl, hk, HP2.out.nils.1, HP2.out.nils.2, HP2.out.up (by omega), GR2.out, RD2.out.more (by omega)⟩
  · obtain rfl : k = 0 := by omega
    go_wp2_with (at_builtin; refine wpList_plain (by rfl) fun K' hK' => ?_; refine wp_appC _ _ (by rfl) (by rfl) (by rfl) (by rfl) HOw.out (HP.out.bel HBa.out).src HN1.out.2 HN1.out.1 (by simp) (by omega) ?_; intro v1 w1 hown1 hg1; have HP1 := Lib.hid (px_copy HP.out hown1 hg1); obtain ⟨A1, cap1, e1⟩ := HP1.out.shape; subst e1; have GR1 := Lib.hid ((Gr.of (R := R) HBa.out).grow (ov := .slice (some ⟨w.heap.size, 0, none⟩) 0 0) hg1 (by intro j e; cases e; exact Nat.le_refl _)); have RD1 := Lib.hid ((HR.out.bel HBa.out).grow (ov := .slice (some ⟨w.heap.size, 0, none⟩) 0 0) hg1 (by intro j e; cases e; exact hRw)); clear hown1 hg1; refine hK' _ _ ?_; clear hK' K')
    go_ret
    exact ⟨_, 0, _, _, rfl, by omega, HP1.out.nils.1, HP1.out.nils.2, HP1.out.up (by omega), GR1.out, RD1.out.more (by omega)⟩
end Go.Proofs.Ytnglpbfoeiahlaa
