/- The number of solutions, by the specification (no claim of its own). Conditions: as each theorem states. -/
import Derived.Test.YtaenbajghblgiaaSrcG
namespace Go.Proofs.Ytaenbajghblgiaa
open Go.ChangeShapes Go.WideShapes Go.ChangeAt Go.RowKit Go.Shelf

theorem OwnB.turn1 {w : World} {G n : Nat} {v v' : Nat → Bool} {i : Nat} {b : Bool} (h : OwnB w G n n v) (hv : ∀ j, j < n → v' j = if j = i then b else v j) : OwnB (w.setCell ⟨G, i, none⟩ (.bool b)) G n n v' := by
  obtain ⟨cs, hh, h1, h2⟩ := h
  refine ⟨cs.setIfInBounds i (.bool b), by simp [World.setCell, Array.getElem?_modify, hh], by simp [h1], fun j hj => ?_⟩
  rw [Array.getElem?_setIfInBounds, hv j hj]
  by_cases e : j = i
  · subst e
    rw [if_pos rfl, if_pos (by omega), if_pos rfl]
  · rw [if_neg (fun e' => e e'.symm), if_neg e]
    exact h2 j hj

set_option maxRecDepth 100000 in
set_option maxHeartbeats 400000 in
theorem l5Values_any (k : Nat) (w : World) (hk : k < 4096) :
    Calls Try.prog 31 #[.int .i64 k] w fun e w' => ∃ G, e = .returned (.slice (some ⟨G, 0, none⟩) 12 12) ∧ w.heap.size ≤ G ∧ OwnB w' G 12 12 (valN k) ∧ Below w.heap.size w w' := by
  obtain ⟨i0, hi, hz0, hz1, hz2⟩ := info_parts Try.infoBool
  have hmk := fun W => run_make (P := Try.prog) W 29 4 i0 _ Try.underlying29 hi hz0 .i64 .i64 (12 : Int) 12 (by omega) (by omega) (by rw [hz2]; omega) (by omega)
  rw [hz1] at hmk
  clear hi hz0 hz1 hz2
  go_enter Try.func31, Try.ntmps31
  go_wp2
  go_loopw [0, 4] (fun nv i wr => ∃ s : Nat, s ≤ 12 ∧ i = .int .i64 ((s : Int) - 1) ∧ nv = .int .i64 ((k / 2 ^ (12 - s) : Nat)) ∧ OwnB wr w.heap.size 12 12 (fun j => decide (s ≤ j) && valN k j) ∧ Below w.heap.size w wr) (fun _ i _ => (intOf i + 1).toNat)
  case atStart => exact ⟨12, Nat.le_refl _, rfl, by simp, ⟨_, heap_alloc_new _ _, by simp [size_madeCells], fun i hi => by show (madeCells #[.bool false] 12)[i]? = some (.bool (decide (12 ≤ i) && valN k i)); rw [show (decide (12 ≤ i) && valN k i) = false from by rw [decide_eq_false (by omega)]; rfl]; rw [← Array.getElem?_toList, toList_madeCells_one, List.getElem?_replicate, if_pos hi]⟩, bl_alloc (Below.refl _ _) _⟩
  case round =>
    obtain ⟨s, hs, rfl, rfl, hown, hb⟩ := hrel
    clear hmk
    cases s with
    | zero =>
      go_wp2
      go_ret
      exact ⟨_, rfl, Nat.le_refl _, hown.to fun i _ => by simp, hb⟩
    | succ j =>
      rw [show ((j + 1 : Nat) : Int) - 1 = (j : Int) from by omega]
      obtain ⟨q, hq⟩ : ∃ q, k / 2 ^ (12 - (j + 1)) = q := ⟨_, rfl⟩
      rw [hq]
      have hq2 : q ≤ 4096 := by rw [← hq]; exact Nat.le_trans (Nat.div_le_self _ _) (Nat.le_of_lt hk)
      obtain ⟨y1, hy1⟩ := hown.cell (show j < 12 by omega)
      have hf1 := hown.frozen j
      go_wp2
      go_roundw
      case rel =>
        refine ⟨j, by omega, by go_num, ?_, ?_, hb.setCell (Nat.le_refl _) _⟩
        · rw [show 12 - j = (12 - (j + 1)) + 1 from by omega, Nat.pow_succ, ← Nat.div_div_eq_div_mul, hq]
          congr 1
        · refine hown.turn1 fun i hi => ?_
          by_cases e : i = j
          · subst e
            rw [if_pos rfl, decide_eq_true (Nat.le_refl _), Bool.true_and]
            show (k / 2 ^ (11 - i) % 2 == 1) = _
            rw [show 11 - i = 12 - (i + 1) from by omega, hq]
            rcases (show q % 2 = 0 ∨ q % 2 = 1 by omega) with h | h
            · rw [h, show (q : Int) % 2 = 0 from by omega]; rfl
            · rw [h, show (q : Int) % 2 = 1 from by omega]; rfl
          · rw [if_neg e]
            show (decide (j ≤ i) && valN k i) = (decide (j + 1 ≤ i) && valN k i)
            rw [show decide (j ≤ i) = decide (j + 1 ≤ i) from by rw [decide_eq_decide]; omega]
      case measure => simp [intOf]

def cntS (m : Nat) (p : Nat → Con) : Nat := if probB m p = true then (sols m p).length else 0
/-- The solutions below k. -/
def cntTo (m : Nat) (p : Nat → Con) (k : Nat) : Nat := ((List.range k).filter (qS p m)).length
theorem cntTo_succ (m : Nat) (p : Nat → Con) (k : Nat) : cntTo m p (k + 1) = cntTo m p k + (if qS p m k = true then 1 else 0) := by
  unfold cntTo
  rw [List.range_succ, List.filter_append, List.length_append]
  by_cases h : qS p m k = true
  · simp [h]
  · simp [h]
theorem cntTo_le (m : Nat) (p : Nat → Con) (k : Nat) : cntTo m p k ≤ k := by
  unfold cntTo
  exact Nat.le_trans (List.length_filter_le _ _) (by simp)
theorem cntTo_all (m : Nat) (p : Nat → Con) : cntTo m p 4096 = (sols m p).length := by
  unfold cntTo sols
  rw [solL_none]

set_option maxRecDepth 100000 in
set_option maxHeartbeats 800000 in
theorem specCount_any (A : Option Addr) (m cap : Nat) (p : Nat → Con) (w : World) (hm : m ≤ 1048576) (hs : ∀ i, i < m → (p i).n ≤ 1048576) (hr : RdP w w.heap.size A m p) :
    Calls Try.prog 9 #[.slice A m cap] w fun e w' => e = .returned (.int .i64 (cntS m p)) ∧ Below w.heap.size w w' := by
  have Hpr := Lib.hid (specProblem_any A m cap p w hm hs hr)
  cases hv : probB m p with
  | false =>
    have hR : cntS m p = 0 := by unfold cntS; rw [hv]; rfl
    rw [hv] at Hpr
    rw [hR]
    clear hv hr hs hR
    go_enter Try.func9, Try.ntmps9
    go_wp2_with fail
    refine Hpr.out.mono ?_
    rintro e w1 ⟨rfl, hb⟩
    go_wp2
    go_ret
    exact ⟨rfl, hb⟩
  | true =>
    have HR := Lib.hid (show cntS m p = cntTo m p 4096 from by unfold cntS; rw [if_pos hv, cntTo_all])
    rw [hv] at Hpr
    have Hval := Lib.hid (prob_all hv)
    have HN := Lib.hid hs
    have Hr := Lib.hid hr
    clear hv hr hs
    go_enter Try.func9, Try.ntmps9
    go_wp2_with fail
    refine Hpr.out.mono ?_
    rintro e w1 ⟨rfl, hb⟩
    have HB1 := Lib.hid hb
    clear hb Hpr
    go_wp2
    go_loopw [3, 4] (fun c i wr => ∃ j : Nat, j ≤ 4096 ∧ i = .int .i64 j ∧ c = .int .i64 (cntTo m p j) ∧ Below w.heap.size w wr) (fun _ i _ => 4096 - (intOf i).toNat)
    case atStart => exact ⟨0, by omega, rfl, rfl, HB1.out⟩
    case round =>
      obtain ⟨j, hj, rfl, rfl, hb⟩ := hrel
      by_cases hlt : j < 4096
      · have HBr := Lib.hid hb
        clear hb
        have hle := cntTo_le m p j
        have hji : (j : Int) < 4096 := by omega
        have hci : (cntTo m p j : Int) ≤ 4096 := by omega
        have Hsu := Lib.hid (cntTo_succ m p j)
        go_wp2_with fail
        refine (l5Values_any j _ hlt).mono ?_
        rintro e w2 ⟨G, rfl, hG, hO, hb⟩
        have HB2 := Lib.hid (bl_trans HBr.out hb)
        have HO := Lib.hid hO
        clear hb hG hO HBr
        go_wp2_with fail
        refine (l3All_any _ _ _ _ _ p (valN j) _ hm HN.out (Hr.out.later HB2.out) HO.out.rdAt Hval.out).mono ?_
        rintro e w3 ⟨rfl, hb⟩
        have HB3 := Lib.hid (bl_trans HB2.out hb)
        clear hb HB2 HO
        cases hq : allE p (valN j) m with
        | false =>
          have Hc := Lib.hid (show cntTo m p (j + 1) = cntTo m p j from by rw [Hsu.out, show qS p m j = false from hq]; rfl)
          clear hq
          go_wp2
          go_roundw
          case rel => exact ⟨j + 1, by omega, by go_num, by rw [Hc.out], HB3.out⟩
          case measure => simp [intOf]; omega
        | true =>
          have Hc := Lib.hid (show cntTo m p (j + 1) = cntTo m p j + 1 from by rw [Hsu.out, show qS p m j = true from hq]; rfl)
          clear hq
          go_wp2
          go_roundw
          case rel => exact ⟨j + 1, by omega, by go_num, by rw [Hc.out]; go_num, HB3.out⟩
          case measure => simp [intOf]; omega
      · have e : j = 4096 := by omega
        subst e
        go_wp2
        go_ret
        exact ⟨by rw [HR.out]; rfl, hb⟩

set_option maxRecDepth 100000 in
set_option maxHeartbeats 800000 in
theorem implCount_any (A : Option Addr) (m cap : Nat) (p : Nat → Con) (w : World) (hm : m ≤ 1048576) (hs : ∀ i, i < m → (p i).n ≤ 1048576) (hr : RdP w w.heap.size A m p) :
    Calls Try.prog 11 #[.slice A m cap] w fun e w' => e = .returned (.int .i64 (cntS m p)) ∧ Below w.heap.size w w' := by
  cases hv : probB m p with
  | false =>
    have Hpr := Lib.hid (implProblem_any A m cap p w hm hs hr)
    have hR : cntS m p = 0 := by unfold cntS; rw [hv]; rfl
    rw [hv] at Hpr
    rw [hR]
    clear hv hr hs hR
    go_enter Try.func11, Try.ntmps11
    go_wp2_with fail
    refine Hpr.out.mono ?_
    rintro e w1 ⟨rfl, hb⟩
    go_wp2
    go_ret
    exact ⟨rfl, hb⟩
  | true =>
    have hR : cntS m p = (sols m p).length := by unfold cntS; rw [if_pos hv]
    rw [hR]
    exact callsIn_wide.1 (countLoop_in 3 (by omega) A m cap p w hm hs hv hr)
end Go.Proofs.Ytaenbajghblgiaa
