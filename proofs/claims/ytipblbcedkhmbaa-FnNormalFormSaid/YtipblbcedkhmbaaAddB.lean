/- Contracts of the program's addition (no claim of its own). Conditions: as each theorem states. -/
import Derived.Test.YtipblbcedkhmbaaAddA
import Derived.OwnWalkIn
namespace Go.Proofs.Ytipblbcedkhmbaa
open Go.ChangeShapes Go.WideShapes Go.ChangeAt Go.RowKit Go.Shelf

attribute [local go_sem] Oper.semAt_some

/-- The rows that the pairs leave; the bound behind them, as Go computes it. -/
def addP (p : (Int × Int) × (Int × Int)) : List (Int × Int) := if 0 < (addT p.1 p.2).1.1 then [(addT p.1 p.2).1] else []
def addR (ps : List ((Int × Int) × (Int × Int))) : List (Int × Int) := ps.flatMap addP
def canW (b : Int) (ps : List ((Int × Int) × (Int × Int))) : Int := ps.foldl (fun s p => wrap64 (s - (addT p.1 p.2).2)) b
theorem addR_snoc (pre : List ((Int × Int) × (Int × Int))) (p : (Int × Int) × (Int × Int)) : addR (pre ++ [p]) = addR pre ++ addP p := by simp [addR]
theorem canW_snoc (b : Int) (pre : List ((Int × Int) × (Int × Int))) (p : (Int × Int) × (Int × Int)) : canW b (pre ++ [p]) = wrap64 (canW b pre - (addT p.1 p.2).2) := by simp [canW]
theorem addR_at {ps pre : List ((Int × Int) × (Int × Int))} {p : (Int × Int) × (Int × Int)} (h : pre ++ [p] <+: ps) (hp : 0 < (addT p.1 p.2).1.1) :
    rC (addR ps) (addR pre).length = (addT p.1 p.2).1.1 ∧ rL (addR ps) (addR pre).length = (addT p.1 p.2).1.2 := by
  obtain ⟨t, rfl⟩ := h
  have : addR (pre ++ [p] ++ t) = addR pre ++ ((addT p.1 p.2).1 :: addR t) := by
    unfold addR
    rw [List.flatMap_append, List.flatMap_append]
    simp [addP, hp]
  rw [this]
  simp [rC, rL, List.getD]

theorem prs_in {xs ys : List (Int × Int)} (h : srt xs) (h' : srt ys) : ∀ p ∈ prs xs ys, pairIn p := by
  intro p hp
  obtain ⟨h1, h2⟩ := mrg_mem _ _ _ p hp
  have key : ∀ (zs : List (Int × Int)) (q : Int × Int), srt zs → (q ∈ zs ∨ q = (0, 0)) → 0 ≤ q.1 ∧ q.1 ≤ 1000 ∧ -12 ≤ q.2 ∧ q.2 ≤ 12 := by
    intro zs q hz hq
    rcases hq with hq | rfl
    · obtain ⟨a, b, d⟩ := hz.all q hq
      obtain ⟨_, e, f⟩ := litB_iff.1 a
      omega
    · exact ⟨by decide, by decide, by decide, by decide⟩
  exact ⟨key _ _ h h1, key _ _ h' h2⟩

/-- What the loop's invariant says of the variable that holds the terms: its row lies from B0 on. -/
structure OutF (w : World) (O B0 : Nat) (ks : List (Nat × Nat × Value)) (c l : Nat → Int) (k : Nat) (ov : Value) (wr : World) : Prop where
  o0 : Cel wr O 0 ov
  own : wr.ownsRow B0 35 2 ov k (flat c l k)
  keep : ∀ x ∈ ks, x.1 < O ∧ Cel wr x.1 x.2.1 x.2.2
  bel : Below w.heap.size w wr
  hO : w.heap.size ≤ O
  hB : O < B0
theorem keeps_below {A B : World} (h : Below A.heap.size A B) : KeepsOthers A B := ⟨h.size, fun k _ hk _ => (h.block k (Array.getElem?_eq_some_iff.1 hk).1).trans hk⟩
theorem row_form {w : World} {B : Nat} {e : TypeId} {s : Nat} {v : Value} {n : Nat} {xs : List Value} (h : w.ownsRow B e s v (n + 1) xs) : ∃ g cap, v = .slice (some ⟨g, 0, none⟩) (n + 1) cap := by
  rcases h.2 with ⟨rfl, hn⟩ | ⟨g, cap, cur, rfl, _⟩
  · omega
  · exact ⟨g, cap, rfl⟩
theorem row_cells {w : World} {B : Nat} {e : TypeId} {s : Nat} {v : Value} {n : Nat} {xs : List Value} (h : w.ownsRow B e s v n xs) : ∀ (j : Nat) (o : Obj), v.ownBlock = some j → w.heap[j]? = some o → o.isCells = true := by
  intro j o ej hj
  rcases h.2 with ⟨rfl, _⟩ | ⟨g, cap, cur, rfl, _, hh, _⟩
  · cases ej
  · obtain rfl : g = j := by simpa [Value.ownBlock] using ej
    rw [hh] at hj
    cases hj
    rfl
theorem Mv.grown {K : Nat → Prop} {A B C : World} {row : Option Nat} (h : Mv K A B) (hg : B.grownBy C row) (hr : ∀ r, row = some r → K r) : Mv K A C :=
  ⟨hg.1.trans h.os, hg.2.trans h.tape, hg.3.trans h.output, Nat.le_trans h.size hg.4, fun k hk hn => (hg.5 k (Nat.lt_of_lt_of_le hk h.size) (fun e => hn (hr k e.symm))).trans (h.block k hk hn)⟩
theorem addR_len (ps : List ((Int × Int) × (Int × Int))) : (addR ps).length ≤ ps.length := by
  induction ps with
  | nil => exact Nat.le_refl _
  | cons p ps ih =>
    have : addR (p :: ps) = addP p ++ addR ps := by simp [addR]
    rw [this, List.length_append]
    have h1 : (addP p).length ≤ 1 := by unfold addP; split <;> simp
    simp only [List.length_cons]
    omega
theorem pre_len {c l c' l' : Nat → Int} {N N' : Nat} {pre : List ((Int × Int) × (Int × Int))} {x : (Int × Int) × (Int × Int)} (h : pre ++ [x] <+: prs (lst c l 0 N) (lst c' l' 0 N')) (hN : N ≤ 1048576) (hN' : N' ≤ 1048576) : pre.length ≤ 2097152 := by
  have h1 := h.length_le
  have h2 := mrg_len ((lst c l 0 N).length + (lst c' l' 0 N').length) (lst c l 0 N) (lst c' l' 0 N')
  have h3 : (prs (lst c l 0 N) (lst c' l' 0 N')).length ≤ N + N' := by
    unfold prs
    rw [lst_len, lst_len] at h2 ⊢
    exact h2
  rw [List.length_append] at h1
  omega
theorem row_same {w w' : World} {B : Nat} {e : TypeId} {s : Nat} {v : Value} {n : Nat} {xs : List Value} (h : w.ownsRow B e s v n xs) (hg : ∀ g, v.ownBlock = some g → w'.heap[g]? = w.heap[g]?) : w'.ownsRow B e s v n xs := by
  refine ⟨h.1, ?_⟩
  rcases h.2 with hh | ⟨g, cap, cur, rfl, hge, hh, hr⟩
  · exact .inl hh
  · exact .inr ⟨g, cap, cur, rfl, hge, (hg g rfl).trans hh, hr⟩
section
variable {w : World} {O B0 : Nat} {ks : List (Nat × Nat × Value)} {c l : Nat → Int} {k : Nat} {ov : Value} {A B : World}
theorem OutF.moved (h : OutF w O B0 ks c l k ov A) {K : Nat → Prop} (hm : Mv K A B) (hK : ∀ j, j < O + 1 → ¬ K j) (hg : ∀ g, B0 ≤ g → (∃ o, A.heap[g]? = some o ∧ o.isCells = true) → ¬ K g) : OutF w O B0 ks c l k ov B := by
  refine ⟨h.o0.same (hm.block _ h.o0.lt (hK _ (by omega))), row_same h.own fun g e => ?_, fun x hx => ⟨(h.keep x hx).1, (h.keep x hx).2.same (hm.block _ (h.keep x hx).2.lt (hK _ (by have := (h.keep x hx).1; omega)))⟩, ?_, h.hO, h.hB⟩
  · rcases h.own.2 with ⟨rfl, _⟩ | ⟨g', cap, cur, rfl, hge, hh, _⟩
    · cases e
    · obtain rfl : g' = g := by simpa [Value.ownBlock] using e
      exact hm.block _ (Array.getElem?_eq_some_iff.1 hh).1 (hg _ hge ⟨_, hh, rfl⟩)
  · refine h.bel.trans (hm.below h.bel.size fun j hj => ?_)
    rcases Nat.lt_or_ge j (O + 1) with hlt | hge
    · exact absurd hj (hK j hlt)
    · have := h.hO; omega
theorem OutF.below (h : OutF w O B0 ks c l k ov A) (hb : Below A.heap.size A B) : OutF w O B0 ks c l k ov B :=
  h.moved (K := fun _ => False) (Mv.of_below hb) (fun _ _ hh => hh) (fun _ _ _ hh => hh)
theorem OutF.at_ (h : OutF w O B0 ks c l k ov A) {j o : Nat} {v : Value} (hx : (j, o, v) ∈ ks) : Cel A j o v := (h.keep _ hx).2
/-- The bound's cell written. -/
theorem OutF.setB {ks0 : List (Nat × Nat × Value)} {b : Nat} {u v : Value} (h0 : ∀ x ∈ ks0, x.1 ≠ b) (hb : w.heap.size ≤ b) (h : OutF w O B0 ((b, 0, u) :: ks0) c l k ov A) : OutF w O B0 ((b, 0, v) :: ks0) c l k ov (A.setCell ⟨b, 0, none⟩ v) := by
  have hbk := h.keep (b, 0, u) (List.mem_cons_self ..)
  have hbO : b < O := hbk.1
  have hB := h.hB
  refine ⟨h.o0.set (by omega), ownsRow_setCell_below h.own (by show b < B0; omega) _, fun x hx => ?_, h.bel.setCell (by show w.heap.size ≤ b; omega) _, h.hO, hB⟩
  rcases List.mem_cons.1 hx with rfl | hx
  · exact ⟨hbO, hbk.2.put⟩
  · obtain ⟨h1, h2⟩ := h.keep x (List.mem_cons_of_mem _ hx)
    exact ⟨h1, h2.set (.inl (h0 x hx))⟩
theorem OutF.step {v' : Value} {x y : Int} (h : OutF w O B0 ks c l k ov A) (hx : c k = x) (hy : l k = y) (hown : B.ownsRow B0 35 2 v' (k + 1) (flat c l k ++ [.int .i64 x, .int .i64 y]))
    (hg : A.grownBy B ov.ownBlock) : OutF w O B0 ks c l (k + 1) v' (B.setCell ⟨O, 0, none⟩ v') ∧ B.cell? ⟨O, 0, none⟩ = some ov ∧ B.frozen? ⟨O, 0, none⟩ = false := by
  subst hx hy
  have hO := h.hO
  have hB := h.hB
  have far : ∀ j, j < B0 → some j ≠ ov.ownBlock := fun j hj e => by
    have := (h.own.lt j e.symm).1
    omega
  have cel : ∀ {j o : Nat} {v : Value}, j < B0 → Cel A j o v → Cel B j o v := fun {j o v} hj hc =>
    ⟨hg.cell (a := ⟨j, o, none⟩) hc.1 (far j hj), (hg.frozen_far ⟨j, o, none⟩ hc.lt (far j hj)).trans hc.2⟩
  have o0 := cel hB h.o0
  refine ⟨⟨o0.put, ownsRow_setCell_below hown (by show O < B0; omega) _, fun x hx => ?_, ?_, hO, hB⟩, o0.1, o0.2⟩
  · obtain ⟨h1, h2⟩ := h.keep x hx
    exact ⟨h1, (cel (by omega) h2).set (by omega)⟩
  · refine ((h.bel.grown hg h.bel.size (fun j e => ?_))).setCell (by show w.heap.size ≤ O; omega) _
    have := (h.own.lt j e).1
    omega
end

set_option maxRecDepth 100000 in
set_option maxHeartbeats 3200000 in
theorem addApply_in (n : Nat) (hn : 3 ≤ n) (A A' : Option Addr) (N N' cap cap' : Nat) (hcap : N ≤ cap) (hcap' : N' ≤ cap') (bd bd' : Int) (c l c' l' : Nat → Int) (hN : N ≤ 1048576) (hN' : N' ≤ 1048576) (w : World)
    (hv : validB N c l bd = true) (hv' : validB N' c' l' bd' = true) (hr : Rd w w.heap.size A N c l) (hr' : Rd w w.heap.size A' N' c' l') :
    CallsIn Fence.wide n Try.prog 165 #[.agg #[.slice A N cap, .int .i64 bd, .slice A' N' cap', .int .i64 bd']] w
      (ARes w (addR (prs (lst c l 0 N) (lst c' l' 0 N'))).length (rC (addR (prs (lst c l 0 N) (lst c' l' 0 N')))) (rL (addR (prs (lst c l 0 N) (lst c' l' 0 N')))) (capB (canW (wrap64 (bd + bd')) (prs (lst c l 0 N) (lst c' l' 0 N'))))) := by
  have h1 : 1 ≤ n := by omega
  have Hv := Lib.hid hv
  have Hv' := Lib.hid hv'
  have Hr := Lib.hid hr
  have Hr' := Lib.hid hr'
  clear hv hv' hr hr'
  refine callsIn_of_wp_marks Try.func165 rfl trivial ?_ rfl
  simp only [Try.ntmps165, List.size_toArray, List.length_cons, List.length_nil, Nat.reduceAdd, Nat.reduceSub, Array.replicate_succ, Array.replicate_zero, List.push_toArray, List.append_toArray, List.nil_append, List.cons_append]
  gi_wp2_with fail
  refine ⟨trivial, (callsIn_wide.2 (termPairs_any _ _ _ _ _ _ _)).mono ?_⟩
  rintro e w3 ⟨rfl, hc1, hc2, hb1⟩
  have hb := bl_trans (bl_alloc (bl_alloc (bl_alloc (bl_alloc (Below.refl w.heap.size w) _) _) _) _) hb1
  have HB3 := Lib.hid hb
  have m0 : Cel w3 (w.heap.size + 1) 0 (.slice none 0 0) := ⟨kc hb1 (by go_simp), kf hb1 (by first | (simp; done) | (simp; omega)) (by go_simp)⟩
  have m1 : Cel w3 (w.heap.size + 1) 1 (.int .i64 0) := ⟨kc hb1 (by go_simp), kf hb1 (by first | (simp; done) | (simp; omega)) (by go_simp)⟩
  have m2 : Cel w3 (w.heap.size + 1 + 1) 0 (.int .i64 (wrap64 (bd + bd'))) := ⟨kc hb1 (by go_simp), kf hb1 (by first | (simp; done) | (simp; omega)) (by go_simp)⟩
  have m3 : Cel w3 (w.heap.size + 1 + 1 + 1) 0 (.slice none 0 0) := ⟨kc hb1 (by go_simp), kf hb1 (by first | (simp; done) | (simp; omega)) (by go_simp)⟩
  simp only [World.size_alloc] at hc1 hc2
  have z3 : w.heap.size + 1 + 1 + 1 + 1 + 1 < w3.heap.size := hc2.lt
  have HC1 := Lib.hid hc1
  have HC2 := Lib.hid hc2
  have M0 := Lib.hid m0
  have M1 := Lib.hid m1
  have M2 := Lib.hid m2
  have M3 := Lib.hid m3
  clear hb hb1 hc1 hc2 m0 m1 m2 m3
  gi_wp2_with fail
  have hv0 : Var w3 w.heap.size (w.heap.size + 1 + 1 + 1 + 1) c l 0 N := ⟨A, cap, hcap, HC1.out, by simpa using (Hr.out.below HB3.out)⟩
  have hv0' : Var w3 w.heap.size (w.heap.size + 1 + 1 + 1 + 1 + 1) c' l' 0 N' := ⟨A', cap', hcap', HC2.out, by simpa using (Hr'.out.below HB3.out)⟩
  have hseq := pairs_seq (n - 1) (by omega) w.heap.size (w.heap.size + 1 + 1 + 1 + 1) c l c' l' N N' hN hN' (fun i hi => litAt Hv.out hi) (fun i hi => litAt Hv'.out hi) w3 (by omega) z3 hv0 hv0'
  have Hseq := Lib.hid hseq
  have z4 : w.heap.size ≤ w3.heap.size := HB3.out.size
  clear hseq hv0 hv0'
  refine range_two rfl h1 (gf := 101) (lb := #[.pointer (some ⟨w.heap.size + 1 + 1 + 1 + 1, 0, none⟩), .pointer (some ⟨w.heap.size + 1 + 1 + 1 + 1 + 1, 0, none⟩)]) rfl trivial (enters_of Try.func101 (by kernel_rfl) rfl)
    Hseq.out (Below.refl _ _) z4 (by omega) z3 (fun _ => rfl)
    (fun pre W => ∃ ov, OutF w (w.heap.size + 1 + 1 + 1) w3.heap.size ((w.heap.size + 1 + 1, 0, .int .i64 (canW (wrap64 (bd + bd')) pre)) :: [(w.heap.size + 1, 0, .slice none 0 0), (w.heap.size + 1, 1, .int .i64 0)]) (rC (addR (prs (lst c l 0 N) (lst c' l' 0 N')))) (rL (addR (prs (lst c l 0 N) (lst c' l' 0 N')))) (addR pre).length ov W ∧ w3.heap.size ≤ W.heap.size) ?hI ?h0 ?round ?done
  case h0 =>
    refine ⟨_, ⟨M3.out, World.ownsRow_nil _ _ _ _, fun x hx => ?_, HB3.out, by omega, by omega⟩, Nat.le_refl _⟩
    simp only [List.mem_cons, List.not_mem_nil, or_false] at hx
    rcases hx with rfl | rfl | rfl
    · exact ⟨by dsimp only; omega, M2.out⟩
    · exact ⟨by dsimp only; omega, M0.out⟩
    · exact ⟨by dsimp only; omega, M1.out⟩
  case hI =>
    rintro pre X Y K ⟨ov, hO, hz⟩ hm hK
    refine ⟨ov, hO.moved hm (fun j hj hh => ?_) (fun g hg ⟨o, ho, hoc⟩ hh => ?_), Nat.le_trans hz hm.size⟩
    · rcases hK j hh with h | h | ⟨h, _⟩ <;> omega
    · rcases hK g hh with h | h | ⟨h, o', ho', hoc'⟩
      · omega
      · omega
      · rw [ho] at ho'
        cases ho'
        rw [hoc] at hoc'
        cases hoc'
  case round =>
    rintro l1 pre ⟨⟨p1, p2⟩, ⟨q1, q2⟩⟩ W r hl1 hr1 hrc ⟨ov, hO, hzW⟩ hpre
    have zl : l1 < W.heap.size := (Array.getElem?_eq_some_iff.1 hr1).1
    have hr2 := hr1
    have hrc2 := hrc
    clear hr1 hrc
    dsimp only [enc2]
    gi_wp2
    refine ⟨(KeepsOthers.alloc _ _).trans (KeepsOthers.alloc _ _), fun k hk => ?_, fun o' => ?_⟩
    · exact (Below.heap_alloc _ _ _ (by simp; omega)).trans (Below.heap_alloc _ _ _ (by omega))
    · have hal : Below W.heap.size W ((W.alloc (.cells #[.int .i64 p1, .int .i64 p2] 35)).alloc (.cells #[.int .i64 q1, .int .i64 q2] 35)) := bl_alloc (bl_alloc (Below.refl _ _) _) _
      have hmv : Mv (fun k => k = l1) ((W.alloc (.cells #[.int .i64 p1, .int .i64 p2] 35)).alloc (.cells #[.int .i64 q1, .int .i64 q2] 35)) (((W.alloc (.cells #[.int .i64 p1, .int .i64 p2] 35)).alloc (.cells #[.int .i64 q1, .int .i64 q2] 35)).putObj l1 o') := (Mv.refl (fun k => k = l1) _).putObj (.inl rfl) _
      have y0 : Cel ((W.alloc (.cells #[.int .i64 p1, .int .i64 p2] 35)).alloc (.cells #[.int .i64 q1, .int .i64 q2] 35)) W.heap.size 0 (.int .i64 p1) := ⟨by go_simp, by go_simp⟩
      have y1 : Cel ((W.alloc (.cells #[.int .i64 p1, .int .i64 p2] 35)).alloc (.cells #[.int .i64 q1, .int .i64 q2] 35)) W.heap.size 1 (.int .i64 p2) := ⟨by go_simp, by go_simp⟩
      have y2 : Cel ((W.alloc (.cells #[.int .i64 p1, .int .i64 p2] 35)).alloc (.cells #[.int .i64 q1, .int .i64 q2] 35)) (W.heap.size + 1) 0 (.int .i64 q1) := ⟨by go_simp, by go_simp⟩
      have y3 : Cel ((W.alloc (.cells #[.int .i64 p1, .int .i64 p2] 35)).alloc (.cells #[.int .i64 q1, .int .i64 q2] 35)) (W.heap.size + 1) 1 (.int .i64 q2) := ⟨by go_simp, by go_simp⟩
      replace y0 := y0.same (hmv.block _ y0.lt (by omega))
      replace y1 := y1.same (hmv.block _ y1.lt (by omega))
      replace y2 := y2.same (hmv.block _ y2.lt (by omega))
      replace y3 := y3.same (hmv.block _ y3.lt (by omega))
      have hOX := ((hO.below hal).moved hmv (fun j hj hh => by
        have hh' : j = l1 := hh
        omega) (fun g hg ⟨o, ho, hoc⟩ hh => by
        have hh' : g = l1 := hh
        subst hh'
        have e1 := (hal.block g zl).symm.trans ho
        rw [hr2] at e1
        cases e1
        rw [hrc2] at hoc
        cases hoc))
      have zX := hmv.size
      simp only [World.size_alloc] at zX
      have hpin : pairIn ((p1, p2), (q1, q2)) := prs_in (srt_valid Hv.out) (srt_valid Hv'.out) _ (by
        obtain ⟨t, ht⟩ := hpre
        rw [← ht]
        simp)
      have hat := addR_at hpre
      have Hpre := Lib.hid hpre
      clear hmv hal hO hpre hr2 hrc2
      generalize ((W.alloc (.cells #[.int .i64 p1, .int .i64 p2] 35)).alloc (.cells #[.int .i64 q1, .int .i64 q2] 35)).putObj l1 o' = X at *
      have HOX := Lib.hid hOX
      obtain ⟨y0, -⟩ := y0
      obtain ⟨y1, -⟩ := y1
      obtain ⟨y2, -⟩ := y2
      obtain ⟨y3, -⟩ := y3
      have hcall := addTerms_any p1 p2 q1 q2 X hpin
      have hsn := addR_snoc pre ((p1, p2), (q1, q2))
      have hcw := canW_snoc (wrap64 (bd + bd')) pre ((p1, p2), (q1, q2))
      unfold addP at hsn
      dsimp only at hat hsn hcw
      generalize addT (p1, p2) (q1, q2) = Tr at *
      obtain ⟨⟨t1, t2⟩, tx⟩ := Tr
      dsimp only at hcall hat hsn hcw
      have Hcall := Lib.hid hcall
      have Hat := Lib.hid hat
      have Hsn := Lib.hid hsn
      have Hcw := Lib.hid hcw
      clear hcall hat hsn hcw hOX hpin
      gi_wp2_with fail
      refine ⟨trivial, fun _ => by omega, (CallsIn.inRound l1 (callsIn_wide.2 Hcall.out)).mono ?_⟩
      rintro e w5 ⟨rfl, hb⟩
      have HO5 := Lib.hid (HOX.out.below hb)
      have HB5 := Lib.hid hb
      have z5 := hb.size
      have s0 := (HO5.out.at_ (j := w.heap.size + 1 + 1) (o := 0) (v := .int .i64 (canW (wrap64 (bd + bd')) pre)) (by simp)).1
      have s1 := (HO5.out.at_ (j := w.heap.size + 1 + 1) (o := 0) (v := .int .i64 (canW (wrap64 (bd + bd')) pre)) (by simp)).2
      have o0 := HO5.out.o0.1
      have o1 := HO5.out.o0.2
      have zb : w.heap.size + 1 + 1 < w5.heap.size := by omega
      have zO : w.heap.size + 1 + 1 + 1 < w5.heap.size := by omega
      clear hb HOX Hcall y0 y1 y2 y3
      have low2 : ∀ x ∈ [(w.heap.size + 1, 0, Value.slice none 0 0), (w.heap.size + 1, 1, .int .i64 0)], x.1 ≠ w.heap.size + 1 + 1 := by
        intro x hx
        simp only [List.mem_cons, List.not_mem_nil, or_false] at hx
        rcases hx with rfl | rfl
        all_goals (dsimp only; omega)
      have HMX : Hid (Mv (fun k => k = w.heap.size + 1 + 1 ∨ k = w.heap.size + 1 + 1 + 1 ∨ w3.heap.size ≤ k) X w5) := Lib.hid (Mv.of_below HB5.out)
      have HKX : Hid (KeepsOthers X w5) := Lib.hid (keeps_below HB5.out)
      by_cases hpos : 0 < t1
      · have hsn := Lib.hid (show addR (pre ++ [((p1, p2), (q1, q2))]) = addR pre ++ [(t1, t2)] from by rw [Hsn.out, if_pos hpos])
        obtain ⟨hX, hY⟩ := Hat.out hpos
        have HX := Lib.hid hX
        have HY := Lib.hid hY
        clear hX hY
        have hlen : (addR pre).length ≤ 2097152 := Nat.le_trans (addR_len pre) (pre_len Hpre.out hN hN')
        have Hlen := Lib.hid hlen
        clear hlen
        obtain ⟨i0, hi, hz0, hz1, hz2⟩ := info_parts Try.infoTerm
        have Hi := Lib.hid hi
        have Hz0 := Lib.hid hz0
        have Hz1 := Lib.hid hz1
        have Hz2 := Lib.hid hz2
        clear hi hz0 hz1 hz2
        have HO6 := Lib.hid (HO5.out.setB (v := .int .i64 (wrap64 (canW (wrap64 (bd + bd')) pre - tx))) low2 (by omega))
        gi_wp2_with (gi_at_builtin; refine wpListIn_append_own _ (by rfl) _ _ 23 (by rfl) w3.heap.size 35 i0 _ 2 16 Try.underlying23 Hi.out Hz0.out Hz1.out Hz2.out rfl (by omega) ov (addR pre).length _ (by rfl) (HO6.out.below (bl_alloc (bl_alloc (Below.refl _ _) _) _)).own ⟨w5.heap.size + 1, 0, none⟩ 1 1 [.int .i64 t1, .int .i64 t2] (by rfl) (by rfl) (World.news_of_block (alloc_eq (by simp))) (by simp [Value.oneCell']) (by have := Hlen.out; unfold maxLen; omega) (by have := Hlen.out; omega) (by simp; omega) ?_; intro v' w7 hown' hgrow hnil; obtain ⟨hst, u0, u1⟩ := (HO6.out.below (bl_alloc (bl_alloc (Below.refl _ _) _) _)).step HX.out HY.out hown' hgrow; have HST := Lib.hid hst; have HG := Lib.hid hgrow; obtain ⟨g, cp, rfl⟩ := row_form hown'; clear hst hnil)
        refine ⟨?_, fun k hk => ?_, ?_⟩
        · exact ((((HKX.out.trans (KeepsOthers.setCell _ _ _)).trans (KeepsOthers.alloc _ _)).trans (KeepsOthers.alloc _ _)).trans (KeepsOthers.of_grownBy HG.out (row_cells (HO6.out.below (bl_alloc (bl_alloc (Below.refl _ _) _) _)).own))).trans (KeepsOthers.setCell _ _ _)
        · exact ((((((HMX.out.setCell (.inl (.inl rfl)) _).alloc _).alloc _).grown HG.out (fun r e => .inr (.inr (HO6.out.own.lt r e).1))).setCell (p := ⟨w.heap.size + 1 + 1 + 1, 0, none⟩) (.inl (.inr (.inl rfl))) _)).block k (by omega) (by omega)
        · rw [hsn.out, Hcw.out, List.length_append]
          have hz := HG.out.4
          exact ⟨⟨_, HST.out⟩, by simp [World.setCell] at hz ⊢; omega⟩
      · have hsn := Lib.hid (show addR (pre ++ [((p1, p2), (q1, q2))]) = addR pre from by rw [Hsn.out, if_neg hpos, List.append_nil])
        gi_wp2
        refine ⟨(HKX.out.trans (KeepsOthers.setCell _ _ _)).trans (KeepsOthers.alloc _ _), fun k hk => ?_, ?_⟩
        · exact ((HMX.out.setCell (.inl (.inl rfl)) _).alloc _).block k (by omega) (by omega)
        · rw [hsn.out, Hcw.out]
          exact ⟨⟨ov, (HO5.out.setB low2 (by omega)).below (bl_alloc (Below.refl _ _) _)⟩, by omega⟩
  case done =>
    rintro D W hD ⟨ov, hO, hzW⟩ hdef
    obtain ⟨A2, cap2, rfl, hF⟩ := frs_of_row hO.own
    have HF := Lib.hid (hF.more (B' := w.heap.size + 1 + 1) (by omega))
    have HO := Lib.hid hO.bel
    obtain ⟨o0, o1⟩ := hO.o0
    obtain ⟨s0, -⟩ := hO.at_ (j := w.heap.size + 1 + 1) (o := 0) (v := .int .i64 (canW (wrap64 (bd + bd')) (prs (lst c l 0 N) (lst c' l' 0 N')))) (by simp)
    have hr0 := hO.at_ (j := w.heap.size + 1) (o := 0) (v := .slice none 0 0) (by simp)
    have hr1 := hO.at_ (j := w.heap.size + 1) (o := 1) (v := .int .i64 0) (by simp)
    have R0 := Lib.hid hr0
    have R1 := Lib.hid hr1
    obtain ⟨r0, f0⟩ := hr0
    obtain ⟨r1, f1⟩ := hr1
    have Hdef := Lib.hid hdef
    clear hF hO hdef
    generalize hcw : canW (wrap64 (bd + bd')) (prs (lst c l 0 N) (lst c' l' 0 N')) = cb at *
    generalize hrr : addR (prs (lst c l 0 N) (lst c' l' 0 N')) = R at *
    clear hcw hrr Hseq
    by_cases hneg : cb < 0
    · have hcp := Lib.hid (show capB cb = 0 from if_pos hneg)
      gi_wp2
      have hdX : ((W.setCell ⟨w.heap.size + 1, 0, none⟩ (.slice A2 R.length cap2)).setCell ⟨w.heap.size + 1, 1, none⟩ (.int .i64 0)).heap[D]? = some (.deferred (some [])) := (Below.heap_setCell _ _ _ D (by show D ≠ w.heap.size + 1; omega)).trans ((Below.heap_setCell _ _ _ D (by show D ≠ w.heap.size + 1; omega)).trans Hdef.out)
      have c0 : Cel ((W.setCell ⟨w.heap.size + 1, 0, none⟩ (.slice A2 R.length cap2)).setCell ⟨w.heap.size + 1, 1, none⟩ (.int .i64 0)) (w.heap.size + 1) 0 (.slice A2 R.length cap2) := (R0.out.put).set (.inr (by decide))
      have c1 : Cel ((W.setCell ⟨w.heap.size + 1, 0, none⟩ (.slice A2 R.length cap2)).setCell ⟨w.heap.size + 1, 1, none⟩ (.int .i64 0)) (w.heap.size + 1) 1 (.int .i64 0) := (R1.out.set (.inr (by decide))).put
      have hF2 : Frs ((W.setCell ⟨w.heap.size + 1, 0, none⟩ (.slice A2 R.length cap2)).setCell ⟨w.heap.size + 1, 1, none⟩ (.int .i64 0)) (w.heap.size + 1 + 1) A2 R.length (rC R) (rL R) := (HF.out.far' (by simp) (by simp) _).far' (by simp) (by simp) _
      have hB2 : Below w.heap.size w ((W.setCell ⟨w.heap.size + 1, 0, none⟩ (.slice A2 R.length cap2)).setCell ⟨w.heap.size + 1, 1, none⟩ (.int .i64 0)) := (HO.out.setCell (by simp) _).setCell (by simp) _
      refine ⟨by simp, .inl ⟨_, _, rfl, run_takeDeferred hdX, ?_⟩⟩
      replace c0 := c0.same (W' := ((W.setCell ⟨w.heap.size + 1, 0, none⟩ (.slice A2 R.length cap2)).setCell ⟨w.heap.size + 1, 1, none⟩ (.int .i64 0)).putObj D (.deferred none)) (World.putObj_heap_other (by omega))
      replace c1 := c1.same (W' := ((W.setCell ⟨w.heap.size + 1, 0, none⟩ (.slice A2 R.length cap2)).setCell ⟨w.heap.size + 1, 1, none⟩ (.int .i64 0)).putObj D (.deferred none)) (World.putObj_heap_other (by omega))
      obtain ⟨q0, -⟩ := c0
      obtain ⟨q1, -⟩ := c1
      have hB3 : Below w.heap.size w (((W.setCell ⟨w.heap.size + 1, 0, none⟩ (.slice A2 R.length cap2)).setCell ⟨w.heap.size + 1, 1, none⟩ (.int .i64 0)).putObj D (.deferred none)) := hB2.trans (belowK_b (w := w3) z4 _ D _ _ hD hdX rfl rfl)
      have hF3 : Frs (((W.setCell ⟨w.heap.size + 1, 0, none⟩ (.slice A2 R.length cap2)).setCell ⟨w.heap.size + 1, 1, none⟩ (.int .i64 0)).putObj D (.deferred none)) (w.heap.size + 1 + 1) A2 R.length (rC R) (rL R) := by
        rcases hF2 with h | ⟨G, e, hG, h⟩
        · exact .inl h
        · refine .inr ⟨G, e, hG, h.at_ (World.putObj_heap_other (fun e2 => ?_))⟩
          obtain ⟨cs, hh, _⟩ := h
          rw [e2, hdX] at hh
          cases hh
      refine ⟨.agg #[.slice A2 R.length cap2, .int .i64 0], ?_, ?_⟩
      · simp [results, Try.results165, go_sem, q0, q1]
      · rw [hcp.out]
        exact ⟨A2, cap2, rfl, hF3.more (by omega), hB3⟩
    · have hcp := Lib.hid (show capB cb = cb from if_neg hneg)
      gi_wp2
      have hdX : ((W.setCell ⟨w.heap.size + 1, 0, none⟩ (.slice A2 R.length cap2)).setCell ⟨w.heap.size + 1, 1, none⟩ (.int .i64 cb)).heap[D]? = some (.deferred (some [])) := (Below.heap_setCell _ _ _ D (by show D ≠ w.heap.size + 1; omega)).trans ((Below.heap_setCell _ _ _ D (by show D ≠ w.heap.size + 1; omega)).trans Hdef.out)
      have c0 : Cel ((W.setCell ⟨w.heap.size + 1, 0, none⟩ (.slice A2 R.length cap2)).setCell ⟨w.heap.size + 1, 1, none⟩ (.int .i64 cb)) (w.heap.size + 1) 0 (.slice A2 R.length cap2) := (R0.out.put).set (.inr (by decide))
      have c1 : Cel ((W.setCell ⟨w.heap.size + 1, 0, none⟩ (.slice A2 R.length cap2)).setCell ⟨w.heap.size + 1, 1, none⟩ (.int .i64 cb)) (w.heap.size + 1) 1 (.int .i64 cb) := (R1.out.set (.inr (by decide))).put
      have hF2 : Frs ((W.setCell ⟨w.heap.size + 1, 0, none⟩ (.slice A2 R.length cap2)).setCell ⟨w.heap.size + 1, 1, none⟩ (.int .i64 cb)) (w.heap.size + 1 + 1) A2 R.length (rC R) (rL R) := (HF.out.far' (by simp) (by simp) _).far' (by simp) (by simp) _
      have hB2 : Below w.heap.size w ((W.setCell ⟨w.heap.size + 1, 0, none⟩ (.slice A2 R.length cap2)).setCell ⟨w.heap.size + 1, 1, none⟩ (.int .i64 cb)) := (HO.out.setCell (by simp) _).setCell (by simp) _
      refine ⟨by simp, .inl ⟨_, _, rfl, run_takeDeferred hdX, ?_⟩⟩
      replace c0 := c0.same (W' := ((W.setCell ⟨w.heap.size + 1, 0, none⟩ (.slice A2 R.length cap2)).setCell ⟨w.heap.size + 1, 1, none⟩ (.int .i64 cb)).putObj D (.deferred none)) (World.putObj_heap_other (by omega))
      replace c1 := c1.same (W' := ((W.setCell ⟨w.heap.size + 1, 0, none⟩ (.slice A2 R.length cap2)).setCell ⟨w.heap.size + 1, 1, none⟩ (.int .i64 cb)).putObj D (.deferred none)) (World.putObj_heap_other (by omega))
      obtain ⟨q0, -⟩ := c0
      obtain ⟨q1, -⟩ := c1
      have hB3 : Below w.heap.size w (((W.setCell ⟨w.heap.size + 1, 0, none⟩ (.slice A2 R.length cap2)).setCell ⟨w.heap.size + 1, 1, none⟩ (.int .i64 cb)).putObj D (.deferred none)) := hB2.trans (belowK_b (w := w3) z4 _ D _ _ hD hdX rfl rfl)
      have hF3 : Frs (((W.setCell ⟨w.heap.size + 1, 0, none⟩ (.slice A2 R.length cap2)).setCell ⟨w.heap.size + 1, 1, none⟩ (.int .i64 cb)).putObj D (.deferred none)) (w.heap.size + 1 + 1) A2 R.length (rC R) (rL R) := by
        rcases hF2 with h | ⟨G, e, hG, h⟩
        · exact .inl h
        · refine .inr ⟨G, e, hG, h.at_ (World.putObj_heap_other (fun e2 => ?_))⟩
          obtain ⟨cs, hh, _⟩ := h
          rw [e2, hdX] at hh
          cases hh
      refine ⟨.agg #[.slice A2 R.length cap2, .int .i64 cb], ?_, ?_⟩
      · simp [results, Try.results165, go_sem, q0, q1]
      · rw [hcp.out]
        exact ⟨A2, cap2, rfl, hF3.more (by omega), hB3⟩

theorem ab_lit {n : Int} (h : litB n = true) : 1 ≤ ab n ∧ ab n ≤ 12 := by
  obtain ⟨h0, h1, h2⟩ := litB_iff.1 h
  unfold ab
  split <;> omega
theorem valid_12 {n : Nat} {c l : Nat → Int} {bd : Int} (h : validB n c l bd = true) : n ≤ 12 := by
  unfold validB at h
  rw [Bool.and_eq_true] at h
  have key : ∀ i, i < n → (i : Int) + 1 ≤ ab (l i) := by
    intro i
    induction i with
    | zero => intro hi; have := ab_lit (okAt_lit (vtB_at h.1 hi)); omega
    | succ i ih =>
      intro hi
      have h1 := ih (by omega)
      have h2 := mono_of h.1 (i + 1) i (by omega) hi
      omega
  rcases Nat.eq_zero_or_pos n with h0 | h0
  · omega
  · have h1 := key (n - 1) (by omega)
    have h2 := ab_lit (okAt_lit (vtB_at h.1 (show n - 1 < n by omega)))
    omega

/-- Whether both arguments of an addition are valid. -/
def adRB (N : Nat) (c l : Nat → Int) (bd : Int) (N' : Nat) (c' l' : Nat → Int) (bd' : Int) : Bool := validB N c l bd && validB N' c' l' bd'

set_option maxRecDepth 100000 in
set_option maxHeartbeats 800000 in
theorem addReady_any (A A' : Option Addr) (N N' cap cap' : Nat) (bd bd' : Int) (c l c' l' : Nat → Int) (hN : N ≤ 1048576) (hN' : N' ≤ 1048576) (w : World) (hr : Rd w w.heap.size A N c l) (hr' : Rd w w.heap.size A' N' c' l') :
    Calls Try.prog 166 #[.agg #[.slice A N cap, .int .i64 bd, .slice A' N' cap', .int .i64 bd']] w fun e w' => e = .returned (.bool (adRB N c l bd N' c' l' bd')) ∧ Below w.heap.size w w' := by
  cases hv : validB N c l bd with
  | false =>
    have hR : (adRB N c l bd N' c' l' bd') = false := by unfold adRB; rw [hv]; rfl
    rw [hR]
    have Hv := Lib.hid hv
    clear hv hR
    go_enter Try.func166, Try.ntmps166
    go_wp2_with fail
    refine (implValid_any _ _ _ _ c l _ hN (hr.later (bl_alloc (Below.refl _ _) _))).mono ?_
    rintro e w1 ⟨rfl, hb⟩
    have HB := Lib.hid (bl_trans (bl_alloc (Below.refl w.heap.size w) _) hb)
    clear hb
    rw [Hv.out]
    go_wp2
    go_ret
    exact ⟨rfl, HB.out⟩
  | true =>
    have hR : (adRB N c l bd N' c' l' bd') = validB N' c' l' bd' := by unfold adRB; rw [hv]; rfl
    rw [hR]
    have Hv := Lib.hid hv
    clear hv hR
    go_enter Try.func166, Try.ntmps166
    go_wp2_with fail
    refine (implValid_any _ _ _ _ c l _ hN (hr.later (bl_alloc (Below.refl _ _) _))).mono ?_
    rintro e w1 ⟨rfl, hb⟩
    have HB := Lib.hid (bl_trans (bl_alloc (Below.refl w.heap.size w) _) hb)
    have b0 : w1.cell? ⟨w.heap.size, 2, none⟩ = some (.slice A' N' cap') := kc hb (by go_simp)
    have b1 : w1.cell? ⟨w.heap.size, 3, none⟩ = some (.int .i64 bd') := kc hb (by go_simp)
    clear hb
    rw [Hv.out]
    go_wp2_with fail
    refine (implValid_any _ _ _ _ c' l' _ hN' (hr'.later HB.out)).mono ?_
    rintro e w2 ⟨rfl, hb⟩
    have HB2 := Lib.hid (bl_trans HB.out hb)
    clear hb
    go_wp2
    go_ret
    exact ⟨rfl, HB2.out⟩

theorem implAdd_any (A A' : Option Addr) (N N' cap cap' : Nat) (hcap : N ≤ cap) (hcap' : N' ≤ cap') (bd bd' : Int) (c l c' l' : Nat → Int) (hN : N ≤ 1048576) (hN' : N' ≤ 1048576) (w : World) (hr : Rd w w.heap.size A N c l) (hr' : Rd w w.heap.size A' N' c' l') :
    Calls Try.prog 36 #[.agg #[.slice A N cap, .int .i64 bd], .agg #[.slice A' N' cap', .int .i64 bd']] w (CRes w (infN (adRB N c l bd N' c' l' bd') (addR (prs (lst c l 0 N) (lst c' l' 0 N'))).length (rC (addR (prs (lst c l 0 N) (lst c' l' 0 N')))) (rL (addR (prs (lst c l 0 N) (lst c' l' 0 N')))) (capB (canW (wrap64 (bd + bd')) (prs (lst c l 0 N) (lst c' l' 0 N'))))) (rC (addR (prs (lst c l 0 N) (lst c' l' 0 N')))) (rL (addR (prs (lst c l 0 N) (lst c' l' 0 N')))) (infD (adRB N c l bd N' c' l' bd') (addR (prs (lst c l 0 N) (lst c' l' 0 N'))).length (rC (addR (prs (lst c l 0 N) (lst c' l' 0 N')))) (rL (addR (prs (lst c l 0 N) (lst c' l' 0 N')))) (capB (canW (wrap64 (bd + bd')) (prs (lst c l 0 N) (lst c' l' 0 N'))))) (infB (adRB N c l bd N' c' l' bd') (addR (prs (lst c l 0 N) (lst c' l' 0 N'))).length (rC (addR (prs (lst c l 0 N) (lst c' l' 0 N')))) (rL (addR (prs (lst c l 0 N) (lst c' l' 0 N')))) (capB (canW (wrap64 (bd + bd')) (prs (lst c l 0 N) (lst c' l' 0 N')))))) := by
  have hm1 : ∀ w : World, (method 291 98 (.agg #[.slice A N cap, .int .i64 bd, .slice A' N' cap', .int .i64 bd']) "loop.example/cuttingplanes/impl.ready").run Try.prog w = .ok (166, .agg #[.slice A N cap, .int .i64 bd, .slice A' N' cap', .int .i64 bd']) w := fun _ => by kernel_rfl
  have hm2 : ∀ w : World, (method 291 98 (.agg #[.slice A N cap, .int .i64 bd, .slice A' N' cap', .int .i64 bd']) "loop.example/cuttingplanes/impl.apply").run Try.prog w = .ok (165, .agg #[.slice A N cap, .int .i64 bd, .slice A' N' cap', .int .i64 bd']) w := fun _ => by kernel_rfl
  have e1 := enters_of Try.func166 (by kernel_rfl) rfl
  have e2 := enters_of Try.func165 (by kernel_rfl) rfl
  have HI : Hid (∀ W : World, Below w.heap.size w W → Calls Try.prog 83 #[.iface 98 (.agg #[.slice A N cap, .int .i64 bd, .slice A' N' cap', .int .i64 bd'])] W (CRes W (infN (adRB N c l bd N' c' l' bd') (addR (prs (lst c l 0 N) (lst c' l' 0 N'))).length (rC (addR (prs (lst c l 0 N) (lst c' l' 0 N')))) (rL (addR (prs (lst c l 0 N) (lst c' l' 0 N')))) (capB (canW (wrap64 (bd + bd')) (prs (lst c l 0 N) (lst c' l' 0 N'))))) (rC (addR (prs (lst c l 0 N) (lst c' l' 0 N')))) (rL (addR (prs (lst c l 0 N) (lst c' l' 0 N')))) (infD (adRB N c l bd N' c' l' bd') (addR (prs (lst c l 0 N) (lst c' l' 0 N'))).length (rC (addR (prs (lst c l 0 N) (lst c' l' 0 N')))) (rL (addR (prs (lst c l 0 N) (lst c' l' 0 N')))) (capB (canW (wrap64 (bd + bd')) (prs (lst c l 0 N) (lst c' l' 0 N'))))) (infB (adRB N c l bd N' c' l' bd') (addR (prs (lst c l 0 N) (lst c' l' 0 N'))).length (rC (addR (prs (lst c l 0 N) (lst c' l' 0 N')))) (rL (addR (prs (lst c l 0 N) (lst c' l' 0 N')))) (capB (canW (wrap64 (bd + bd')) (prs (lst c l 0 N) (lst c' l' 0 N'))))))) := Lib.hid (fun W hb => by
    have hrd := fun W' (hb' : Below W.heap.size W W') => addReady_any A A' N N' cap cap' bd bd' c l c' l' hN hN' W' (hr.later (bl_trans hb hb')) (hr'.later (bl_trans hb hb'))
    cases hR : adRB N c l bd N' c' l' bd' with
    | false =>
      rw [hR] at hrd
      exact infer_no 98 (.agg #[.slice A N cap, .int .i64 bd, .slice A' N' cap', .int .i64 bd']) 166 _ _ _ _ W hm1 e1 hrd
    | true =>
      rw [hR] at hrd
      have hv : validB N c l bd = true ∧ validB N' c' l' bd' = true := by simpa [adRB] using hR
      have h12 := valid_12 hv.1
      have h12' := valid_12 hv.2
      have hs : (addR (prs (lst c l 0 N) (lst c' l' 0 N'))).length ≤ 1048576 := by
        have h1 := addR_len (prs (lst c l 0 N) (lst c' l' 0 N'))
        have h2 := mrg_len ((lst c l 0 N).length + (lst c' l' 0 N').length) (lst c l 0 N) (lst c' l' 0 N')
        unfold prs at h1 ⊢
        rw [lst_len, lst_len] at h1 h2 ⊢
        omega
      exact infer_yes 98 (.agg #[.slice A N cap, .int .i64 bd, .slice A' N' cap', .int .i64 bd']) 166 165 _ _ _ _ W hs hm1 hm2 e1 e2 hrd
        (fun W' hb' => (callsIn_wide (n := 6)).1 (addApply_in 6 (by omega) A A' N N' cap cap' hcap hcap' bd bd' c l c' l' hN hN' W' hv.1 hv.2 (hr.later (bl_trans hb hb')) (hr'.later (bl_trans hb hb')))))
  clear hm1 hm2 e1 e2 hr hr'
  go_enter Try.func36, Try.ntmps36
  go_wp2_with fail
  refine (HI.out _ (by repeat (first | exact Below.refl _ _ | refine bl_alloc ?_ _ | refine Below.drew ?_))).mono ?_
  rintro e w1 ⟨A', cap', rfl, hF, hb⟩
  have HF := Lib.hid hF
  have HB := Lib.hid (bl_trans (bl_alloc (bl_alloc (bl_alloc (Below.refl w.heap.size w) _) _) _) hb)
  have r0 : w1.cell? ⟨w.heap.size + 2, 0, none⟩ = some (.slice none 0 0) := kc hb (by go_simp)
  have r1 : w1.cell? ⟨w.heap.size + 2, 1, none⟩ = some (.int .i64 0) := kc hb (by go_simp)
  have f0 : w1.frozen? ⟨w.heap.size + 2, 0, none⟩ = false := kf hb (by simp) (by go_simp)
  have f1 : w1.frozen? ⟨w.heap.size + 2, 1, none⟩ = false := kf hb (by simp) (by go_simp)
  clear hF hb
  go_wp2
  refine bodyPost_ret (v := .tuple #[.agg #[.slice A' (infN (adRB N c l bd N' c' l' bd') (addR (prs (lst c l 0 N) (lst c' l' 0 N'))).length (rC (addR (prs (lst c l 0 N) (lst c' l' 0 N')))) (rL (addR (prs (lst c l 0 N) (lst c' l' 0 N')))) (capB (canW (wrap64 (bd + bd')) (prs (lst c l 0 N) (lst c' l' 0 N'))))) cap', .int .i64 (infD (adRB N c l bd N' c' l' bd') (addR (prs (lst c l 0 N) (lst c' l' 0 N'))).length (rC (addR (prs (lst c l 0 N) (lst c' l' 0 N')))) (rL (addR (prs (lst c l 0 N) (lst c' l' 0 N')))) (capB (canW (wrap64 (bd + bd')) (prs (lst c l 0 N) (lst c' l' 0 N')))))], .bool (infB (adRB N c l bd N' c' l' bd') (addR (prs (lst c l 0 N) (lst c' l' 0 N'))).length (rC (addR (prs (lst c l 0 N) (lst c' l' 0 N')))) (rL (addR (prs (lst c l 0 N) (lst c' l' 0 N')))) (capB (canW (wrap64 (bd + bd')) (prs (lst c l 0 N) (lst c' l' 0 N')))))]) (by simp [results, Try.results36, go_sem, r0, r1]) rfl ?_
  exact ⟨A', cap', rfl, ((HF.out.far' (by first | (simp; done) | (simp; omega)) (by first | (simp; done) | (simp; omega)) _).far' (by first | (simp; done) | (simp; omega)) (by first | (simp; done) | (simp; omega)) _).more (by first | (simp; done) | (simp; omega)), (HB.out.setCell (by first | (simp; done) | (simp; omega)) _).setCell (by first | (simp; done) | (simp; omega)) _⟩
end Go.Proofs.Ytipblbcedkhmbaa
