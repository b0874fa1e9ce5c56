/- Contracts of the program's CoversConstraint (no claim of its own). Conditions: as each theorem states. -/
import Derived.Test.YtipblbcedkhmbaaPairD
namespace Go.Proofs.Ytipblbcedkhmbaa
open Go.ChangeShapes Go.WideShapes Go.ChangeAt Go.RowKit Go.Shelf

attribute [local go_sem] Oper.semAt_some

/-- What a pair adds to the loss, as Go computes it. -/
def los1 (s : Int) (x : (Int × Int) × (Int × Int)) : Int := if x.1.2 = x.2.2 then wrap64 (s + (if wrap64 (x.1.1 - x.2.1) < 0 then 0 else wrap64 (x.1.1 - x.2.1))) else wrap64 (s + x.1.1)
def losW : List ((Int × Int) × (Int × Int)) → Int := List.foldl los1 0
theorem losW_snoc (pre : List ((Int × Int) × (Int × Int))) (x : (Int × Int) × (Int × Int)) : losW (pre ++ [x]) = los1 (losW pre) x := by simp [losW]

set_option maxRecDepth 100000 in
set_option maxHeartbeats 3200000 in
theorem covLoop_in (n : Nat) (hn : 3 ≤ n) (A A' : Option Addr) (N N' cap cap' : Nat) (hcap : N ≤ cap) (hcap' : N' ≤ cap') (bd bd' : Int) (c l c' l' : Nat → Int) (hN : N ≤ 1048576) (hN' : N' ≤ 1048576) (w : World)
    (hv : validB N c l bd = true) (hv' : validB N' c' l' bd' = true) (hr : Rd w w.heap.size A N c l) (hr' : Rd w w.heap.size A' N' c' l') :
    CallsIn Fence.wide n Try.prog 52 #[.agg #[.slice A N cap, .int .i64 bd], .agg #[.slice A' N' cap', .int .i64 bd']] w fun e W' => e = .returned (.bool (decide (bd' ≤ wrap64 (bd - losW (prs (lst c l 0 N) (lst c' l' 0 N')))))) ∧ Below w.heap.size w W' := by
  have h1 : 1 ≤ n := by omega
  have Hv := Lib.hid hv
  have Hv' := Lib.hid hv'
  have Hr := Lib.hid hr
  have Hr' := Lib.hid hr'
  clear hv hv' hr hr'
  refine callsIn_of_wp_marks Try.func52 rfl trivial ?_ rfl
  simp only [Try.ntmps52, List.size_toArray, List.length_cons, List.length_nil, Nat.reduceAdd, Nat.reduceSub, Array.replicate_succ, Array.replicate_zero, List.push_toArray, List.append_toArray, List.nil_append, List.cons_append]
  gi_wp2_with fail
  refine ⟨trivial, (callsIn_wide.2 (implValid_any _ _ _ _ c l _ hN (Hr.out.later (bl_alloc (bl_alloc (Below.refl _ _) _) _)))).mono ?_⟩
  rintro e w1 ⟨rfl, hb⟩
  have HB1 := Lib.hid (bl_trans (bl_alloc (bl_alloc (Below.refl w.heap.size w) _) _) hb)
  have a0 : w1.cell? ⟨w.heap.size, 0, none⟩ = some (.slice A N cap) := kc hb (by go_simp)
  have a1 : w1.cell? ⟨w.heap.size, 1, none⟩ = some (.int .i64 bd) := kc hb (by go_simp)
  have b0 : w1.cell? ⟨w.heap.size + 1, 0, none⟩ = some (.slice A' N' cap') := kc hb (by go_simp)
  have b1 : w1.cell? ⟨w.heap.size + 1, 1, none⟩ = some (.int .i64 bd') := kc hb (by go_simp)
  clear hb
  rw [Hv.out]
  gi_wp2_with fail
  refine ⟨trivial, (callsIn_wide.2 (implValid_any _ _ _ _ c' l' _ hN' (Hr'.out.later HB1.out))).mono ?_⟩
  rintro e w2 ⟨rfl, hb⟩
  have HB2 := Lib.hid (bl_trans HB1.out hb)
  replace a0 := kc hb a0
  replace a1 := kc hb a1
  replace b0 := kc hb b0
  replace b1 := kc hb b1
  have z2 : w.heap.size + 1 < w2.heap.size := World.block_lt_of_cell? w2 _ b0
  have z2' : w.heap.size < w2.heap.size := by omega
  clear hb
  rw [Hv'.out]
  gi_wp2_with fail
  refine ⟨trivial, (callsIn_wide.2 (termPairs_any _ _ _ _ _ _ _)).mono ?_⟩
  rintro e w3 ⟨rfl, hc1, hc2, hb1⟩
  have hb := bl_trans (bl_alloc (Below.refl w2.heap.size w2) (.cells #[.int .i64 0] 3)) hb1
  have HB3 := Lib.hid (bl_trans HB2.out hb)
  have hs : Cel w3 w2.heap.size 0 (.int .i64 0) := ⟨kc hb1 (by go_simp), kf hb1 (by simp) (by go_simp)⟩
  replace a0 := kc hb a0
  replace a1 := kc hb a1
  replace b0 := kc hb b0
  replace b1 := kc hb b1
  simp only [World.size_alloc] at hc1 hc2
  have z3 : w2.heap.size + 1 + 1 < w3.heap.size := hc2.lt
  have HC1 := Lib.hid hc1
  have HC2 := Lib.hid hc2
  have HS := Lib.hid hs
  clear hb hb1 hc1 hc2 hs
  gi_wp2_with fail
  have hv0 : Var w3 w.heap.size (w2.heap.size + 1) c l 0 N := ⟨A, cap, hcap, HC1.out, by simpa using (Hr.out.below HB3.out)⟩
  have hv0' : Var w3 w.heap.size (w2.heap.size + 1 + 1) c' l' 0 N' := ⟨A', cap', hcap', HC2.out, by simpa using (Hr'.out.below HB3.out)⟩
  have hseq := pairs_seq (n - 1) (by omega) w.heap.size (w2.heap.size + 1) c l c' l' N N' hN hN' (fun i hi => litAt Hv.out hi) (fun i hi => litAt Hv'.out hi) w3 (by omega) z3 hv0 hv0'
  have Hseq := Lib.hid hseq
  have z4 : w.heap.size ≤ w3.heap.size := HB3.out.size
  clear hseq hv0 hv0'
  refine range_two rfl h1 (gf := 101) (lb := #[.pointer (some ⟨w2.heap.size + 1, 0, none⟩), .pointer (some ⟨w2.heap.size + 1 + 1, 0, none⟩)]) rfl trivial (enters_of Try.func101 (by kernel_rfl) rfl)
    Hseq.out (Below.refl _ _) z4 (by omega) z3 (fun _ => rfl)
    (fun pre W => Cel W w2.heap.size 0 (.int .i64 (losW pre)) ∧ Below w2.heap.size w3 W) ?hI ⟨HS.out, Below.refl _ _⟩ ?round ?done
  case hI =>
    rintro pre X Y K ⟨hc, hB⟩ hm hK
    have hnk : ∀ k, k < w2.heap.size + 1 → ¬ K k := fun k hk hh => by
      rcases hK k hh with h | h | ⟨h, _⟩ <;> omega
    exact ⟨hc.same (hm.block _ hc.lt (hnk _ (by omega))), hB.trans (hm.below (Nat.le_of_lt hc.lt) (fun k hk => Nat.le_of_not_lt fun hlt => hnk k (by omega) hk))⟩
  case round =>
    rintro l1 pre ⟨⟨p1, p2⟩, ⟨q1, q2⟩⟩ W r hl1 hr1 hrc ⟨hc, hB⟩ hpre
    have zW : w3.heap.size ≤ W.heap.size := hB.size
    have zl : l1 < W.heap.size := (Array.getElem?_eq_some_iff.1 hr1).1
    clear hr1 hrc hpre
    dsimp only [enc2]
    gi_wp2
    refine ⟨(KeepsOthers.alloc _ _).trans (KeepsOthers.alloc _ _), fun k hk => ?_, fun o' => ?_⟩
    · exact (Below.heap_alloc _ _ _ (by simp; omega)).trans (Below.heap_alloc _ _ _ (by omega))
    · have hal : Below W.heap.size W ((W.alloc (.cells #[.int .i64 p1, .int .i64 p2] 35)).alloc (.cells #[.int .i64 q1, .int .i64 q2] 35)) := bl_alloc (bl_alloc (Below.refl _ _) _) _
      have hmv : Mv (fun k => k = l1) ((W.alloc (.cells #[.int .i64 p1, .int .i64 p2] 35)).alloc (.cells #[.int .i64 q1, .int .i64 q2] 35)) (((W.alloc (.cells #[.int .i64 p1, .int .i64 p2] 35)).alloc (.cells #[.int .i64 q1, .int .i64 q2] 35)).putObj l1 o') := (Mv.refl (fun k => k = l1) _).putObj (.inl rfl) _
      have hbX : Below w2.heap.size w3 (((W.alloc (.cells #[.int .i64 p1, .int .i64 p2] 35)).alloc (.cells #[.int .i64 q1, .int .i64 q2] 35)).putObj l1 o') := (hB.trans (hal.mono (by omega))).trans (hmv.below (by simp; omega) (fun k hk => by
        have hk' : k = l1 := hk
        omega))
      have y0 : Cel ((W.alloc (.cells #[.int .i64 p1, .int .i64 p2] 35)).alloc (.cells #[.int .i64 q1, .int .i64 q2] 35)) W.heap.size 0 (.int .i64 p1) := ⟨by go_simp, by go_simp⟩
      have y1 : Cel ((W.alloc (.cells #[.int .i64 p1, .int .i64 p2] 35)).alloc (.cells #[.int .i64 q1, .int .i64 q2] 35)) W.heap.size 1 (.int .i64 p2) := ⟨by go_simp, by go_simp⟩
      have y2 : Cel ((W.alloc (.cells #[.int .i64 p1, .int .i64 p2] 35)).alloc (.cells #[.int .i64 q1, .int .i64 q2] 35)) (W.heap.size + 1) 0 (.int .i64 q1) := ⟨by go_simp, by go_simp⟩
      have y3 : Cel ((W.alloc (.cells #[.int .i64 p1, .int .i64 p2] 35)).alloc (.cells #[.int .i64 q1, .int .i64 q2] 35)) (W.heap.size + 1) 1 (.int .i64 q2) := ⟨by go_simp, by go_simp⟩
      replace y0 := y0.same (hmv.block _ y0.lt (by omega))
      replace y1 := y1.same (hmv.block _ y1.lt (by omega))
      replace y2 := y2.same (hmv.block _ y2.lt (by omega))
      replace y3 := y3.same (hmv.block _ y3.lt (by omega))
      have hcX := (hc.below hal).same (hmv.block _ (hc.below hal).lt (by omega))
      have zX := hmv.size
      simp only [World.size_alloc] at zX
      clear hmv hal hB hc
      generalize ((W.alloc (.cells #[.int .i64 p1, .int .i64 p2] 35)).alloc (.cells #[.int .i64 q1, .int .i64 q2] 35)).putObj l1 o' = X at *
      have HC := Lib.hid hcX
      have HX := Lib.hid hbX
      obtain ⟨y0, -⟩ := y0
      obtain ⟨y1, -⟩ := y1
      obtain ⟨y2, -⟩ := y2
      obtain ⟨y3, -⟩ := y3
      obtain ⟨s0, s1⟩ := hcX
      clear hbX a0 a1 b0 b1
      by_cases hl : p2 = q2
      · have hq : (p2 == q2) = true := by simp [hl]
        by_cases hn : wrap64 (p1 - q1) < 0
        · have hs := Lib.hid (show losW (pre ++ [((p1, p2), (q1, q2))]) = wrap64 (losW pre) from by
            rw [losW_snoc]
            show (if p2 = q2 then _ else _) = _
            rw [if_pos hl, if_pos hn, Int.add_zero])
          clear hl
          gi_wp2
          all_goals try refine ⟨rfl, ?_⟩
          all_goals refine ⟨KeepsOthers.setCell _ _ _, fun k hk => Below.heap_setCell _ _ _ k (by show k ≠ w2.heap.size; omega), ?_, HX.out.setCell (Nat.le_refl _) _⟩
          all_goals (rw [hs.out]; exact HC.out.put)
        · have hs := Lib.hid (show losW (pre ++ [((p1, p2), (q1, q2))]) = wrap64 (losW pre + wrap64 (p1 - q1)) from by
            rw [losW_snoc]
            show (if p2 = q2 then _ else _) = _
            rw [if_pos hl, if_neg hn])
          clear hl
          gi_wp2
          all_goals try refine ⟨rfl, ?_⟩
          all_goals refine ⟨KeepsOthers.setCell _ _ _, fun k hk => Below.heap_setCell _ _ _ k (by show k ≠ w2.heap.size; omega), ?_, HX.out.setCell (Nat.le_refl _) _⟩
          all_goals (rw [hs.out]; exact HC.out.put)
      · have hq : (p2 == q2) = false := by simp [hl]
        have hs := Lib.hid (show losW (pre ++ [((p1, p2), (q1, q2))]) = wrap64 (losW pre + p1) from by rw [losW_snoc]; exact if_neg hl)
        clear hl
        gi_wp2
        all_goals try refine ⟨rfl, ?_⟩
        all_goals refine ⟨KeepsOthers.setCell _ _ _, fun k hk => Below.heap_setCell _ _ _ k (by show k ≠ w2.heap.size; omega), ?_, HX.out.setCell (Nat.le_refl _) _⟩
        all_goals (rw [hs.out]; exact HC.out.put)
  case done =>
    rintro D W hD ⟨hc, hB⟩ hdef
    have c1 := (hB.cell (p := ⟨w.heap.size, 1, none⟩) (by show w.heap.size < _; omega)).trans a1
    have c2 := (hB.cell (p := ⟨w.heap.size + 1, 1, none⟩) (by show w.heap.size + 1 < _; omega)).trans b1
    obtain ⟨hc0, -⟩ := hc
    clear a0 a1 b0 b1
    gi_wp2
    refine ⟨by simp, .inl ⟨_, _, rfl, run_takeDeferred hdef, ?_⟩⟩
    refine ⟨_, results_tmp rfl _ _ _, rfl, ?_⟩
    exact (HB3.out.trans (hB.mono (by omega))).trans (belowK_b (w := w3) z4 W D _ _ hD hdef rfl rfl)

set_option maxRecDepth 100000 in
set_option maxHeartbeats 800000 in
theorem implCov_no (A A' : Option Addr) (N N' cap cap' : Nat) (bd bd' : Int) (c l c' l' : Nat → Int) (hN : N ≤ 1048576) (hN' : N' ≤ 1048576) (w : World)
    (hr : Rd w w.heap.size A N c l) (hr' : Rd w w.heap.size A' N' c' l') (hno : validB N c l bd = false ∨ validB N' c' l' bd' = false) :
    Calls Try.prog 52 #[.agg #[.slice A N cap, .int .i64 bd], .agg #[.slice A' N' cap', .int .i64 bd']] w fun e W' => e = .returned (.bool false) ∧ Below w.heap.size w W' := by
  cases hv : validB N c l bd with
  | false =>
    have Hv := Lib.hid hv
    clear hv hno
    go_enter Try.func52, Try.ntmps52
    go_wp2_with fail
    refine (implValid_any _ _ _ _ c l _ hN (hr.later (bl_alloc (bl_alloc (Below.refl _ _) _) _))).mono ?_
    rintro e w1 ⟨rfl, hb⟩
    have HB1 := Lib.hid (bl_trans (bl_alloc (bl_alloc (Below.refl w.heap.size w) _) _) hb)
    clear hb
    rw [Hv.out]
    go_wp2
    go_ret
    exact ⟨rfl, HB1.out⟩
  | true =>
    have hv' : validB N' c' l' bd' = false := by
      rcases hno with h | h
      · rw [h] at hv; cases hv
      · exact h
    have Hv := Lib.hid hv
    have Hv' := Lib.hid hv'
    clear hv hv' hno
    go_enter Try.func52, Try.ntmps52
    go_wp2_with fail
    refine (implValid_any _ _ _ _ c l _ hN (hr.later (bl_alloc (bl_alloc (Below.refl _ _) _) _))).mono ?_
    rintro e w1 ⟨rfl, hb⟩
    have HB1 := Lib.hid (bl_trans (bl_alloc (bl_alloc (Below.refl w.heap.size w) _) _) hb)
    have b0 : w1.cell? ⟨w.heap.size + 1, 0, none⟩ = some (.slice A' N' cap') := kc hb (by go_simp)
    have b1 : w1.cell? ⟨w.heap.size + 1, 1, none⟩ = some (.int .i64 bd') := kc hb (by go_simp)
    clear hb
    rw [Hv.out]
    go_wp2_with fail
    refine (implValid_any _ _ _ _ c' l' _ hN' (hr'.later HB1.out)).mono ?_
    rintro e w2 ⟨rfl, hb⟩
    have HB2 := Lib.hid (bl_trans HB1.out hb)
    clear hb
    rw [Hv'.out]
    go_wp2
    go_ret
    exact ⟨rfl, HB2.out⟩
end Go.Proofs.Ytipblbcedkhmbaa
