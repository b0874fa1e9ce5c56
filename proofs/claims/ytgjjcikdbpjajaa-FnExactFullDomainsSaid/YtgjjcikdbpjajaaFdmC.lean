/- slices.Repeat of a single true (no claim of its own). Conditions: as each theorem states. -/
import Derived.Test.YtgjjcikdbpjajaaFdmA
import Derived.Laws.CopyOwn
import Derived.Laws.Tables
import Derived.Deep.RegionHeld3
import Derived.Deep.Cut
namespace Go.Proofs.Ytgjjcikdbpjajaa
open Go.ChangeShapes Go.WideShapes Go.ChangeAt Go.RowKit

set_option maxRecDepth 100000 in
set_option maxHeartbeats 800000 in
theorem mul64_any (c : Int) (w : World) (hc : c = 1 ∨ c = 2 ∨ c = 3 ∨ c = 4) :
    Calls Try.prog 138 #[.int .u64 1, .int .u64 c] w fun e w' => e = .returned (.tuple #[.int .u64 0, .int .u64 c]) ∧ w = w' := by
  rcases hc with rfl | rfl | rfl | rfl
  · go_enter Try.func138, Try.ntmps138
    go_wp2
    refine bodyPost_ret (v := .tuple #[.int .u64 0, .int .u64 1]) (by simp [results, Try.results138, go_sem]; decide +kernel) rfl ?_
    exact ⟨rfl, rfl⟩
  · go_enter Try.func138, Try.ntmps138
    go_wp2
    refine bodyPost_ret (v := .tuple #[.int .u64 0, .int .u64 2]) (by simp [results, Try.results138, go_sem]; decide +kernel) rfl ?_
    exact ⟨rfl, rfl⟩
  · go_enter Try.func138, Try.ntmps138
    go_wp2
    refine bodyPost_ret (v := .tuple #[.int .u64 0, .int .u64 3]) (by simp [results, Try.results138, go_sem]; decide +kernel) rfl ?_
    exact ⟨rfl, rfl⟩
  · go_enter Try.func138, Try.ntmps138
    go_wp2
    refine bodyPost_ret (v := .tuple #[.int .u64 0, .int .u64 4]) (by simp [results, Try.results138, go_sem]; decide +kernel) rfl ?_
    exact ⟨rfl, rfl⟩

set_option maxRecDepth 100000 in
set_option maxHeartbeats 800000 in
theorem mul_any (c : Int) (w : World) (hc : c = 1 ∨ c = 2 ∨ c = 3 ∨ c = 4) :
    Calls Try.prog 114 #[.int .u64 1, .int .u64 c] w fun e w' => e = .returned (.tuple #[.int .u64 0, .int .u64 c]) ∧ w = w' := by
  have Hm := Lib.hid (fun X => mul64_any c X hc)
  rcases hc with rfl | rfl | rfl | rfl
  · go_enter Try.func114, Try.ntmps114
    go_wp2_with (go_at_call 138; refine (Hm.out _).mono ?_; rintro e w' ⟨rfl, rfl⟩)
    refine bodyPost_ret (v := .tuple #[.int .u64 0, .int .u64 1]) (by simp [results, Try.results114, go_sem]) rfl ?_
    exact ⟨rfl, rfl⟩
  · go_enter Try.func114, Try.ntmps114
    go_wp2_with (go_at_call 138; refine (Hm.out _).mono ?_; rintro e w' ⟨rfl, rfl⟩)
    refine bodyPost_ret (v := .tuple #[.int .u64 0, .int .u64 2]) (by simp [results, Try.results114, go_sem]) rfl ?_
    exact ⟨rfl, rfl⟩
  · go_enter Try.func114, Try.ntmps114
    go_wp2_with (go_at_call 138; refine (Hm.out _).mono ?_; rintro e w' ⟨rfl, rfl⟩)
    refine bodyPost_ret (v := .tuple #[.int .u64 0, .int .u64 3]) (by simp [results, Try.results114, go_sem]) rfl ?_
    exact ⟨rfl, rfl⟩
  · go_enter Try.func114, Try.ntmps114
    go_wp2_with (go_at_call 138; refine (Hm.out _).mono ?_; rintro e w' ⟨rfl, rfl⟩)
    refine bodyPost_ret (v := .tuple #[.int .u64 0, .int .u64 4]) (by simp [results, Try.results114, go_sem]) rfl ?_
    exact ⟨rfl, rfl⟩

theorem step_of8 {ops : Array Oper} {o : Oper} {a : Act} {K : Act → World → Prop} {Q : Exit → Act → World → Prop} {E : Prop} {W : World} (hgd : o.guard = none) (h : Oper.wp Try.prog o a W K Q) :
    if Region.wanted o (yielded ops a.tmps) = true then Oper.wp Try.prog o a W K Q else E := by
  have hw : Region.wanted o (yielded ops a.tmps) = true := by simp [Region.wanted, hgd]
  rw [if_pos hw]
  exact h
set_option maxHeartbeats 800000 in
/-- A copy within rows of Booleans, at any place of a region. -/
theorem wp_cpB {o : Oper} {a : Act} {K : Act → World → Prop} {Q : Exit → Act → World → Prop} {W : World} (d s : Operand)
    (ho : o.op = .call { callee := .builtin .copy, args := #[d, s], argTypes := #[63, 63] })
    (g off dLen dCap : Nat) (ad : Addr) (sLen sCap : Nat) (hd : a.eval d = .slice (some ⟨g, off, none⟩) dLen dCap) (hs : a.eval s = .slice (some ad) sLen sCap)
    (cur : Array Value) (t : TypeId) (hg : W.heap[g]? = some (.cells cur t (0, 0))) (cs : List Value) (hn : cs.length = Nat.min sLen dLen)
    (hsrc : ∀ j v, cs[j]? = some v → W.cell? (ad.add j) = some v) (hfit : off + cs.length ≤ cur.size) (h1 : ∀ v ∈ cs, v.oneCell' = true)
    (cur' : Array Value) (hrow : (cur.toList.take off ++ cs ++ cur.toList.drop (off + cs.length)).toArray = cur') (z : Int) (hz : goInt cs.length = .int .i64 z)
    (h : K (a.put o.dst (.int .i64 z)) (W.setRow g cur')) : o.wp Try.prog a W K Q := by
  have hrun := run_copy_row (P := Try.prog) W 63 63 o.type 4 g off dLen dCap ad sLen sCap cur t cs Try.underlying63 (by kernel_rfl) hg hn hsrc hfit h1
  rw [hrow, hz] at hrun
  unfold Oper.wp
  simp [execOp, ho, resolve, invoke, builtin, hd, hs, hrun, Result.andThen]
  exact h
theorem mc_rep (n : Nat) : madeCells #[Value.bool false] n = (List.replicate n (.bool false)).toArray := by
  apply Array.ext'
  rw [toList_madeCells_one (.bool false) n]
/-- A row of c Booleans of which the first t are true. -/
def rwB (c t : Nat) : List Value := List.replicate t (.bool true) ++ List.replicate (c - t) (.bool false)
theorem rwB_len {c t : Nat} (h : t ≤ c) : (rwB c t).length = c := by unfold rwB; simp; omega
theorem rwB_next {c t m : Nat} (h : t + m ≤ c) : (rwB c t).take t ++ (List.replicate m (.bool true) ++ (rwB c t).drop (t + m)) = rwB c (t + m) := by
  unfold rwB
  have e1 : (List.replicate t (Value.bool true) ++ List.replicate (c - t) (Value.bool false)).take t = List.replicate t (Value.bool true) := by
    rw [List.take_append_of_le_length (by simp)]
    exact List.take_of_length_le (by simp)
  have e2 : (List.replicate t (Value.bool true) ++ List.replicate (c - t) (Value.bool false)).drop (t + m) = List.replicate (c - (t + m)) (Value.bool false) := by
    rw [List.drop_append, List.drop_of_length_le (by simp), List.nil_append, List.drop_replicate, List.length_replicate]
    congr 1
    omega
  rw [e1, e2, ← List.append_assoc, List.replicate_append_replicate]
theorem rwB_at {c t j : Nat} (h : j < t) : (rwB c t)[j]? = some (.bool true) := by
  unfold rwB
  rw [List.getElem?_append_left (by simpa using h), List.getElem?_replicate, if_pos h]
theorem one_rep (m : Nat) : ∀ v ∈ List.replicate m (Value.bool true), v.oneCell' = true := fun v hv => by
  rw [List.eq_of_mem_replicate hv]; rfl

set_option maxRecDepth 100000 in
set_option maxHeartbeats 6400000 in
theorem repeat1 (H cp : Nat) (w : World) (hH : w.cell? ⟨H, 0, none⟩ = some (.bool true)) :
    Calls Try.prog 68 #[.slice (some ⟨H, 0, none⟩) 1 cp, .int .i64 1] w fun e w' => ∃ g, e = .returned (.slice (some ⟨g, 0, none⟩) 1 1) ∧ w.heap.size ≤ g ∧ OwnVb w' g 4 1 1 (fun _ => true) ∧ Below w.heap.size w w' := by
  have Hm := Lib.hid (fun X => mul_any (1 : Int) X (by omega))
  obtain ⟨i0, hi, hz0, hz1, hz2⟩ := info_parts Try.infoBool
  have hmk := fun W (z : Int) (m : Nat) (hz : z = m) (hm : m ≤ 4) => run_make (P := Try.prog) W 63 4 i0 _ Try.underlying63 hi hz0 .i64 .i64 z m (by omega) (by omega) (by rw [hz2]; omega) (by omega)
  rw [hz1] at hmk
  clear hi hz0 hz1 hz2
  · have hmk1 : ∀ W : World, (Instr.makeSlice 63 (.int .i64 1) (.int .i64 1)).run Try.prog W = .ok (.slice (some ⟨W.heap.size, 0, none⟩) 1 1) (W.alloc (.cells (rwB 1 0).toArray 4)) := fun W => by
      have h0 := hmk W 1 1 rfl (by omega)
      have h1 : madeCells (Value.bool false).cells (((1 : Nat) : Int).toNat * 1) = (rwB 1 0).toArray := mc_rep 1
      rw [h1] at h0
      exact h0
    clear hmk
    have HW := Lib.hid (heap_alloc_new w (.cells (rwB 1 0).toArray 4))
    have HBW := Lib.hid (bl_alloc (Below.refl w.heap.size w) (.cells (rwB 1 0).toArray 4))
    have hH1 := kc HBW.out hH
    have HSr := Lib.hid (show ∀ j v, ([Value.bool true] : List Value)[j]? = some v → (w.alloc (.cells (rwB 1 0).toArray 4)).cell? ((⟨H, 0, none⟩ : Addr).add j) = some v from fun j v hj => by
      have hj0 : j = 0 := by
        have := (List.getElem?_eq_some_iff.1 hj).1
        simpa using this
      subst hj0
      rw [Go.WideShapes.add_plain]
      exact hH1.trans (by simpa using hj))
    have HN1 := Lib.hid (show ([Value.bool true] : List Value).length = Nat.min 1 1 from rfl)
    have HF1 := Lib.hid (show 0 + ([Value.bool true] : List Value).length ≤ (rwB 1 0).toArray.size by decide)
    have HO1 := Lib.hid (show ∀ v ∈ ([Value.bool true] : List Value), v.oneCell' = true from one_rep 1)
    have HHc := Lib.hid hH
    clear hH hH1
    go_enter Try.func68, Try.ntmps68
    go_wp2_with (first | (go_at_call 114; refine (Hm.out _).mono ?_; rintro e w' ⟨rfl, rfl⟩) | (with_reducible show wpList _ _ _ _ _ _; with_reducible refine wpList_copy_own rfl (.tmp 31) (.tmp 32) 63 63 rfl 4 Try.underlying63 (by kernel_rfl) w.heap.size 0 1 1 ⟨H, 0, none⟩ 1 cp rfl rfl _ _ HW.out [.bool true] HN1.out HSr.out HF1.out HO1.out ?_))
    have HS0 := Lib.hid (setRow_heap (w.alloc (.cells (rwB 1 0).toArray 4)) w.heap.size _ (rwB 1 1).toArray 4 (0, 0) HW.out)
    have HB0 := Lib.hid (below_setRow HBW.out (Nat.le_refl _) (rwB 1 1).toArray)
    clear HW HBW HSr HN1 HF1 HO1 Hm
    go_loopw [8] (fun i wr => ∃ t : Nat, 1 ≤ t ∧ t ≤ 1 ∧ i = .int .i64 t ∧ wr.heap[w.heap.size]? = some (.cells (rwB 1 t).toArray 4 (0, 0)) ∧ Below w.heap.size w wr) (fun i _ => 1 - (intOf i).toNat)
    case atStart => exact ⟨1, by omega, by omega, rfl, HS0.out, HB0.out⟩
    case round =>
      obtain ⟨t, ht1, htc, rfl, hh, hb⟩ := hrel
      clear HS0 HB0
      have ht : t = 1 := by omega
      subst ht
      have HV := Lib.hid (show OwnVb wr w.heap.size 4 1 1 (fun _ => true) from ⟨_, hh, by decide, fun i hi => by rw [List.getElem?_toArray]; exact rwB_at hi⟩)
      go_wp2
      go_ret
      exact ⟨_, rfl, Nat.le_refl _, HV.out, hb⟩
set_option maxRecDepth 100000 in
set_option maxHeartbeats 6400000 in
theorem repeat2 (H cp : Nat) (w : World) (hH : w.cell? ⟨H, 0, none⟩ = some (.bool true)) :
    Calls Try.prog 68 #[.slice (some ⟨H, 0, none⟩) 1 cp, .int .i64 2] w fun e w' => ∃ g, e = .returned (.slice (some ⟨g, 0, none⟩) 2 2) ∧ w.heap.size ≤ g ∧ OwnVb w' g 4 2 2 (fun _ => true) ∧ Below w.heap.size w w' := by
  have Hm := Lib.hid (fun X => mul_any (2 : Int) X (by omega))
  obtain ⟨i0, hi, hz0, hz1, hz2⟩ := info_parts Try.infoBool
  have hmk := fun W (z : Int) (m : Nat) (hz : z = m) (hm : m ≤ 4) => run_make (P := Try.prog) W 63 4 i0 _ Try.underlying63 hi hz0 .i64 .i64 z m (by omega) (by omega) (by rw [hz2]; omega) (by omega)
  rw [hz1] at hmk
  clear hi hz0 hz1 hz2
  · have hmk1 : ∀ W : World, (Instr.makeSlice 63 (.int .i64 2) (.int .i64 2)).run Try.prog W = .ok (.slice (some ⟨W.heap.size, 0, none⟩) 2 2) (W.alloc (.cells (rwB 2 0).toArray 4)) := fun W => by
      have h0 := hmk W 2 2 rfl (by omega)
      have h1 : madeCells (Value.bool false).cells (((2 : Nat) : Int).toNat * 1) = (rwB 2 0).toArray := mc_rep 2
      rw [h1] at h0
      exact h0
    clear hmk
    have HW := Lib.hid (heap_alloc_new w (.cells (rwB 2 0).toArray 4))
    have HBW := Lib.hid (bl_alloc (Below.refl w.heap.size w) (.cells (rwB 2 0).toArray 4))
    have hH1 := kc HBW.out hH
    have HSr := Lib.hid (show ∀ j v, ([Value.bool true] : List Value)[j]? = some v → (w.alloc (.cells (rwB 2 0).toArray 4)).cell? ((⟨H, 0, none⟩ : Addr).add j) = some v from fun j v hj => by
      have hj0 : j = 0 := by
        have := (List.getElem?_eq_some_iff.1 hj).1
        simpa using this
      subst hj0
      rw [Go.WideShapes.add_plain]
      exact hH1.trans (by simpa using hj))
    have HN1 := Lib.hid (show ([Value.bool true] : List Value).length = Nat.min 1 2 from rfl)
    have HF1 := Lib.hid (show 0 + ([Value.bool true] : List Value).length ≤ (rwB 2 0).toArray.size by decide)
    have HO1 := Lib.hid (show ∀ v ∈ ([Value.bool true] : List Value), v.oneCell' = true from one_rep 1)
    have HHc := Lib.hid hH
    clear hH hH1
    go_enter Try.func68, Try.ntmps68
    go_wp2_with (first | (go_at_call 114; refine (Hm.out _).mono ?_; rintro e w' ⟨rfl, rfl⟩) | (with_reducible show wpList _ _ _ _ _ _; with_reducible refine wpList_copy_own rfl (.tmp 31) (.tmp 32) 63 63 rfl 4 Try.underlying63 (by kernel_rfl) w.heap.size 0 2 2 ⟨H, 0, none⟩ 1 cp rfl rfl _ _ HW.out [.bool true] HN1.out HSr.out HF1.out HO1.out ?_))
    have HS0 := Lib.hid (setRow_heap (w.alloc (.cells (rwB 2 0).toArray 4)) w.heap.size _ (rwB 2 1).toArray 4 (0, 0) HW.out)
    have HB0 := Lib.hid (below_setRow HBW.out (Nat.le_refl _) (rwB 2 1).toArray)
    clear HW HBW HSr HN1 HF1 HO1 Hm
    go_loopw [8] (fun i wr => ∃ t : Nat, 1 ≤ t ∧ t ≤ 2 ∧ i = .int .i64 t ∧ wr.heap[w.heap.size]? = some (.cells (rwB 2 t).toArray 4 (0, 0)) ∧ Below w.heap.size w wr) (fun i _ => 2 - (intOf i).toNat)
    case atStart => exact ⟨1, by omega, by omega, rfl, HS0.out, HB0.out⟩
    case round =>
      obtain ⟨t, ht1, htc, rfl, hh, hb⟩ := hrel
      clear HS0 HB0
      have ht : t = 1 ∨ t = 2 := by omega
      rcases ht with rfl | rfl
      · have HH := Lib.hid (show wr.drew.heap[w.heap.size]? = _ from hh)
        have HSr := Lib.hid (show ∀ j v, (List.replicate 1 (Value.bool true))[j]? = some v → wr.drew.cell? ((⟨w.heap.size, 0, none⟩ : Addr).add j) = some v from fun j v hj => by
          have hj0 : j < 1 := by
            have := (List.getElem?_eq_some_iff.1 hj).1
            simpa using this
          rw [Go.WideShapes.add_plain, Nat.zero_add]
          rw [List.getElem?_replicate, if_pos hj0] at hj
          refine (cell_of_row wr.drew w.heap.size _ _ _ _ hh).trans ?_
          rw [List.getElem?_toArray, rwB_at (show j < 1 by omega)]
          exact hj)
        have HN := Lib.hid (show (List.replicate 1 (Value.bool true)).length = Nat.min 1 1 from by decide)
        have HF := Lib.hid (show 1 + (List.replicate 1 (Value.bool true)).length ≤ (rwB 2 1).toArray.size by decide)
        have HT := Lib.hid (setRow_heap wr.drew w.heap.size _ (rwB 2 2).toArray 4 (0, 0) HH.out)
        have HU := Lib.hid (below_setRow (hb.drew) (Nat.le_refl _) (rwB 2 2).toArray)
        clear hh
        have HO1 := Lib.hid (one_rep 1)
        have hx := kc hb HHc.out
        go_upto_region 9 with fail
        go_region_held3 (fun w' => w'.cell? ⟨H, 0, none⟩ = some (.bool true)) (go_keep) (first | (refine step_of8 (by rfl) (wp_cpB _ _ (by rfl) w.heap.size 1 1 1 ⟨w.heap.size, 0, none⟩ 1 2 (by rfl) (by rfl) _ _ HH.out (List.replicate 1 (Value.bool true)) HN.out HSr.out HF.out HO1.out (rwB 2 2).toArray (by rfl) 1 (by rfl) ?_); replace hx := kc HU.out HHc.out))
        simp only [show IntKind.i64.wrap 2 = 2 from by decide]
        go_roundw
        case rel => exact ⟨_, _, _, _, _, _, _, _, _, _, _, _, _, _, ⟨2, by omega, by omega, rfl, HT.out, HU.out⟩, rfl⟩
        case measure => simp [intOf]
      · have HV := Lib.hid (show OwnVb wr w.heap.size 4 2 2 (fun _ => true) from ⟨_, hh, by decide, fun i hi => by rw [List.getElem?_toArray]; exact rwB_at hi⟩)
        go_wp2
        go_ret
        exact ⟨_, rfl, Nat.le_refl _, HV.out, hb⟩
set_option maxRecDepth 100000 in
set_option maxHeartbeats 6400000 in
theorem repeat3 (H cp : Nat) (w : World) (hH : w.cell? ⟨H, 0, none⟩ = some (.bool true)) :
    Calls Try.prog 68 #[.slice (some ⟨H, 0, none⟩) 1 cp, .int .i64 3] w fun e w' => ∃ g, e = .returned (.slice (some ⟨g, 0, none⟩) 3 3) ∧ w.heap.size ≤ g ∧ OwnVb w' g 4 3 3 (fun _ => true) ∧ Below w.heap.size w w' := by
  have Hm := Lib.hid (fun X => mul_any (3 : Int) X (by omega))
  obtain ⟨i0, hi, hz0, hz1, hz2⟩ := info_parts Try.infoBool
  have hmk := fun W (z : Int) (m : Nat) (hz : z = m) (hm : m ≤ 4) => run_make (P := Try.prog) W 63 4 i0 _ Try.underlying63 hi hz0 .i64 .i64 z m (by omega) (by omega) (by rw [hz2]; omega) (by omega)
  rw [hz1] at hmk
  clear hi hz0 hz1 hz2
  · have hmk1 : ∀ W : World, (Instr.makeSlice 63 (.int .i64 3) (.int .i64 3)).run Try.prog W = .ok (.slice (some ⟨W.heap.size, 0, none⟩) 3 3) (W.alloc (.cells (rwB 3 0).toArray 4)) := fun W => by
      have h0 := hmk W 3 3 rfl (by omega)
      have h1 : madeCells (Value.bool false).cells (((3 : Nat) : Int).toNat * 1) = (rwB 3 0).toArray := mc_rep 3
      rw [h1] at h0
      exact h0
    clear hmk
    have HW := Lib.hid (heap_alloc_new w (.cells (rwB 3 0).toArray 4))
    have HBW := Lib.hid (bl_alloc (Below.refl w.heap.size w) (.cells (rwB 3 0).toArray 4))
    have hH1 := kc HBW.out hH
    have HSr := Lib.hid (show ∀ j v, ([Value.bool true] : List Value)[j]? = some v → (w.alloc (.cells (rwB 3 0).toArray 4)).cell? ((⟨H, 0, none⟩ : Addr).add j) = some v from fun j v hj => by
      have hj0 : j = 0 := by
        have := (List.getElem?_eq_some_iff.1 hj).1
        simpa using this
      subst hj0
      rw [Go.WideShapes.add_plain]
      exact hH1.trans (by simpa using hj))
    have HN1 := Lib.hid (show ([Value.bool true] : List Value).length = Nat.min 1 3 from rfl)
    have HF1 := Lib.hid (show 0 + ([Value.bool true] : List Value).length ≤ (rwB 3 0).toArray.size by decide)
    have HO1 := Lib.hid (show ∀ v ∈ ([Value.bool true] : List Value), v.oneCell' = true from one_rep 1)
    have HHc := Lib.hid hH
    clear hH hH1
    go_enter Try.func68, Try.ntmps68
    go_wp2_with (first | (go_at_call 114; refine (Hm.out _).mono ?_; rintro e w' ⟨rfl, rfl⟩) | (with_reducible show wpList _ _ _ _ _ _; with_reducible refine wpList_copy_own rfl (.tmp 31) (.tmp 32) 63 63 rfl 4 Try.underlying63 (by kernel_rfl) w.heap.size 0 3 3 ⟨H, 0, none⟩ 1 cp rfl rfl _ _ HW.out [.bool true] HN1.out HSr.out HF1.out HO1.out ?_))
    have HS0 := Lib.hid (setRow_heap (w.alloc (.cells (rwB 3 0).toArray 4)) w.heap.size _ (rwB 3 1).toArray 4 (0, 0) HW.out)
    have HB0 := Lib.hid (below_setRow HBW.out (Nat.le_refl _) (rwB 3 1).toArray)
    clear HW HBW HSr HN1 HF1 HO1 Hm
    go_loopw [8] (fun i wr => ∃ t : Nat, 1 ≤ t ∧ t ≤ 3 ∧ i = .int .i64 t ∧ wr.heap[w.heap.size]? = some (.cells (rwB 3 t).toArray 4 (0, 0)) ∧ Below w.heap.size w wr) (fun i _ => 3 - (intOf i).toNat)
    case atStart => exact ⟨1, by omega, by omega, rfl, HS0.out, HB0.out⟩
    case round =>
      obtain ⟨t, ht1, htc, rfl, hh, hb⟩ := hrel
      clear HS0 HB0
      have ht : t = 1 ∨ t = 2 ∨ t = 3 := by omega
      rcases ht with rfl | rfl | rfl
      · have HH := Lib.hid (show wr.drew.heap[w.heap.size]? = _ from hh)
        have HSr := Lib.hid (show ∀ j v, (List.replicate 1 (Value.bool true))[j]? = some v → wr.drew.cell? ((⟨w.heap.size, 0, none⟩ : Addr).add j) = some v from fun j v hj => by
          have hj0 : j < 1 := by
            have := (List.getElem?_eq_some_iff.1 hj).1
            simpa using this
          rw [Go.WideShapes.add_plain, Nat.zero_add]
          rw [List.getElem?_replicate, if_pos hj0] at hj
          refine (cell_of_row wr.drew w.heap.size _ _ _ _ hh).trans ?_
          rw [List.getElem?_toArray, rwB_at (show j < 1 by omega)]
          exact hj)
        have HN := Lib.hid (show (List.replicate 1 (Value.bool true)).length = Nat.min 1 2 from by decide)
        have HF := Lib.hid (show 1 + (List.replicate 1 (Value.bool true)).length ≤ (rwB 3 1).toArray.size by decide)
        have HT := Lib.hid (setRow_heap wr.drew w.heap.size _ (rwB 3 2).toArray 4 (0, 0) HH.out)
        have HU := Lib.hid (below_setRow (hb.drew) (Nat.le_refl _) (rwB 3 2).toArray)
        clear hh
        have HO1 := Lib.hid (one_rep 1)
        have hx := kc hb HHc.out
        go_upto_region 9 with fail
        go_region_held3 (fun w' => w'.cell? ⟨H, 0, none⟩ = some (.bool true)) (go_keep) (first | (refine step_of8 (by rfl) (wp_cpB _ _ (by rfl) w.heap.size 1 2 2 ⟨w.heap.size, 0, none⟩ 1 3 (by rfl) (by rfl) _ _ HH.out (List.replicate 1 (Value.bool true)) HN.out HSr.out HF.out HO1.out (rwB 3 2).toArray (by rfl) 1 (by rfl) ?_); replace hx := kc HU.out HHc.out))
        simp only [show IntKind.i64.wrap 2 = 2 from by decide]
        go_roundw
        case rel => exact ⟨_, _, _, _, _, _, _, _, _, _, _, _, _, _, ⟨2, by omega, by omega, rfl, HT.out, HU.out⟩, rfl⟩
        case measure => simp [intOf]
      · have HH := Lib.hid (show wr.drew.heap[w.heap.size]? = _ from hh)
        have HSr := Lib.hid (show ∀ j v, (List.replicate 1 (Value.bool true))[j]? = some v → wr.drew.cell? ((⟨w.heap.size, 0, none⟩ : Addr).add j) = some v from fun j v hj => by
          have hj0 : j < 1 := by
            have := (List.getElem?_eq_some_iff.1 hj).1
            simpa using this
          rw [Go.WideShapes.add_plain, Nat.zero_add]
          rw [List.getElem?_replicate, if_pos hj0] at hj
          refine (cell_of_row wr.drew w.heap.size _ _ _ _ hh).trans ?_
          rw [List.getElem?_toArray, rwB_at (show j < 2 by omega)]
          exact hj)
        have HN := Lib.hid (show (List.replicate 1 (Value.bool true)).length = Nat.min 2 1 from by decide)
        have HF := Lib.hid (show 2 + (List.replicate 1 (Value.bool true)).length ≤ (rwB 3 2).toArray.size by decide)
        have HT := Lib.hid (setRow_heap wr.drew w.heap.size _ (rwB 3 3).toArray 4 (0, 0) HH.out)
        have HU := Lib.hid (below_setRow (hb.drew) (Nat.le_refl _) (rwB 3 3).toArray)
        clear hh
        have HO1 := Lib.hid (one_rep 1)
        have hx := kc hb HHc.out
        go_upto_region 9 with fail
        go_region_held3 (fun w' => w'.cell? ⟨H, 0, none⟩ = some (.bool true)) (go_keep) (first | (refine step_of8 (by rfl) (wp_cpB _ _ (by rfl) w.heap.size 2 1 1 ⟨w.heap.size, 0, none⟩ 2 3 (by rfl) (by rfl) _ _ HH.out (List.replicate 1 (Value.bool true)) HN.out HSr.out HF.out HO1.out (rwB 3 3).toArray (by rfl) 1 (by rfl) ?_); replace hx := kc HU.out HHc.out))
        simp only [show IntKind.i64.wrap 3 = 3 from by decide]
        go_roundw
        case rel => exact ⟨_, _, _, _, _, _, _, _, _, _, _, _, _, _, ⟨3, by omega, by omega, rfl, HT.out, HU.out⟩, rfl⟩
        case measure => simp [intOf]
      · have HV := Lib.hid (show OwnVb wr w.heap.size 4 3 3 (fun _ => true) from ⟨_, hh, by decide, fun i hi => by rw [List.getElem?_toArray]; exact rwB_at hi⟩)
        go_wp2
        go_ret
        exact ⟨_, rfl, Nat.le_refl _, HV.out, hb⟩
set_option maxRecDepth 100000 in
set_option maxHeartbeats 6400000 in
theorem repeat4 (H cp : Nat) (w : World) (hH : w.cell? ⟨H, 0, none⟩ = some (.bool true)) :
    Calls Try.prog 68 #[.slice (some ⟨H, 0, none⟩) 1 cp, .int .i64 4] w fun e w' => ∃ g, e = .returned (.slice (some ⟨g, 0, none⟩) 4 4) ∧ w.heap.size ≤ g ∧ OwnVb w' g 4 4 4 (fun _ => true) ∧ Below w.heap.size w w' := by
  have Hm := Lib.hid (fun X => mul_any (4 : Int) X (by omega))
  obtain ⟨i0, hi, hz0, hz1, hz2⟩ := info_parts Try.infoBool
  have hmk := fun W (z : Int) (m : Nat) (hz : z = m) (hm : m ≤ 4) => run_make (P := Try.prog) W 63 4 i0 _ Try.underlying63 hi hz0 .i64 .i64 z m (by omega) (by omega) (by rw [hz2]; omega) (by omega)
  rw [hz1] at hmk
  clear hi hz0 hz1 hz2
  · have hmk1 : ∀ W : World, (Instr.makeSlice 63 (.int .i64 4) (.int .i64 4)).run Try.prog W = .ok (.slice (some ⟨W.heap.size, 0, none⟩) 4 4) (W.alloc (.cells (rwB 4 0).toArray 4)) := fun W => by
      have h0 := hmk W 4 4 rfl (by omega)
      have h1 : madeCells (Value.bool false).cells (((4 : Nat) : Int).toNat * 1) = (rwB 4 0).toArray := mc_rep 4
      rw [h1] at h0
      exact h0
    clear hmk
    have HW := Lib.hid (heap_alloc_new w (.cells (rwB 4 0).toArray 4))
    have HBW := Lib.hid (bl_alloc (Below.refl w.heap.size w) (.cells (rwB 4 0).toArray 4))
    have hH1 := kc HBW.out hH
    have HSr := Lib.hid (show ∀ j v, ([Value.bool true] : List Value)[j]? = some v → (w.alloc (.cells (rwB 4 0).toArray 4)).cell? ((⟨H, 0, none⟩ : Addr).add j) = some v from fun j v hj => by
      have hj0 : j = 0 := by
        have := (List.getElem?_eq_some_iff.1 hj).1
        simpa using this
      subst hj0
      rw [Go.WideShapes.add_plain]
      exact hH1.trans (by simpa using hj))
    have HN1 := Lib.hid (show ([Value.bool true] : List Value).length = Nat.min 1 4 from rfl)
    have HF1 := Lib.hid (show 0 + ([Value.bool true] : List Value).length ≤ (rwB 4 0).toArray.size by decide)
    have HO1 := Lib.hid (show ∀ v ∈ ([Value.bool true] : List Value), v.oneCell' = true from one_rep 1)
    have HHc := Lib.hid hH
    clear hH hH1
    go_enter Try.func68, Try.ntmps68
    go_wp2_with (first | (go_at_call 114; refine (Hm.out _).mono ?_; rintro e w' ⟨rfl, rfl⟩) | (with_reducible show wpList _ _ _ _ _ _; with_reducible refine wpList_copy_own rfl (.tmp 31) (.tmp 32) 63 63 rfl 4 Try.underlying63 (by kernel_rfl) w.heap.size 0 4 4 ⟨H, 0, none⟩ 1 cp rfl rfl _ _ HW.out [.bool true] HN1.out HSr.out HF1.out HO1.out ?_))
    have HS0 := Lib.hid (setRow_heap (w.alloc (.cells (rwB 4 0).toArray 4)) w.heap.size _ (rwB 4 1).toArray 4 (0, 0) HW.out)
    have HB0 := Lib.hid (below_setRow HBW.out (Nat.le_refl _) (rwB 4 1).toArray)
    clear HW HBW HSr HN1 HF1 HO1 Hm
    go_loopw [8] (fun i wr => ∃ t : Nat, 1 ≤ t ∧ t ≤ 4 ∧ i = .int .i64 t ∧ wr.heap[w.heap.size]? = some (.cells (rwB 4 t).toArray 4 (0, 0)) ∧ Below w.heap.size w wr) (fun i _ => 4 - (intOf i).toNat)
    case atStart => exact ⟨1, by omega, by omega, rfl, HS0.out, HB0.out⟩
    case round =>
      obtain ⟨t, ht1, htc, rfl, hh, hb⟩ := hrel
      clear HS0 HB0
      have ht : t = 1 ∨ t = 2 ∨ t = 3 ∨ t = 4 := by omega
      rcases ht with rfl | rfl | rfl | rfl
      · have HH := Lib.hid (show wr.drew.heap[w.heap.size]? = _ from hh)
        have HSr := Lib.hid (show ∀ j v, (List.replicate 1 (Value.bool true))[j]? = some v → wr.drew.cell? ((⟨w.heap.size, 0, none⟩ : Addr).add j) = some v from fun j v hj => by
          have hj0 : j < 1 := by
            have := (List.getElem?_eq_some_iff.1 hj).1
            simpa using this
          rw [Go.WideShapes.add_plain, Nat.zero_add]
          rw [List.getElem?_replicate, if_pos hj0] at hj
          refine (cell_of_row wr.drew w.heap.size _ _ _ _ hh).trans ?_
          rw [List.getElem?_toArray, rwB_at (show j < 1 by omega)]
          exact hj)
        have HN := Lib.hid (show (List.replicate 1 (Value.bool true)).length = Nat.min 1 3 from by decide)
        have HF := Lib.hid (show 1 + (List.replicate 1 (Value.bool true)).length ≤ (rwB 4 1).toArray.size by decide)
        have HT := Lib.hid (setRow_heap wr.drew w.heap.size _ (rwB 4 2).toArray 4 (0, 0) HH.out)
        have HU := Lib.hid (below_setRow (hb.drew) (Nat.le_refl _) (rwB 4 2).toArray)
        clear hh
        have HO1 := Lib.hid (one_rep 1)
        have hx := kc hb HHc.out
        go_upto_region 9 with fail
        go_region_held3 (fun w' => w'.cell? ⟨H, 0, none⟩ = some (.bool true)) (go_keep) (first | (refine step_of8 (by rfl) (wp_cpB _ _ (by rfl) w.heap.size 1 3 3 ⟨w.heap.size, 0, none⟩ 1 4 (by rfl) (by rfl) _ _ HH.out (List.replicate 1 (Value.bool true)) HN.out HSr.out HF.out HO1.out (rwB 4 2).toArray (by rfl) 1 (by rfl) ?_); replace hx := kc HU.out HHc.out))
        simp only [show IntKind.i64.wrap 2 = 2 from by decide]
        go_roundw
        case rel => exact ⟨_, _, _, _, _, _, _, _, _, _, _, _, _, _, ⟨2, by omega, by omega, rfl, HT.out, HU.out⟩, rfl⟩
        case measure => simp [intOf]
      · have HH := Lib.hid (show wr.drew.heap[w.heap.size]? = _ from hh)
        have HSr := Lib.hid (show ∀ j v, (List.replicate 2 (Value.bool true))[j]? = some v → wr.drew.cell? ((⟨w.heap.size, 0, none⟩ : Addr).add j) = some v from fun j v hj => by
          have hj0 : j < 2 := by
            have := (List.getElem?_eq_some_iff.1 hj).1
            simpa using this
          rw [Go.WideShapes.add_plain, Nat.zero_add]
          rw [List.getElem?_replicate, if_pos hj0] at hj
          refine (cell_of_row wr.drew w.heap.size _ _ _ _ hh).trans ?_
          rw [List.getElem?_toArray, rwB_at (show j < 2 by omega)]
          exact hj)
        have HN := Lib.hid (show (List.replicate 2 (Value.bool true)).length = Nat.min 2 2 from by decide)
        have HF := Lib.hid (show 2 + (List.replicate 2 (Value.bool true)).length ≤ (rwB 4 2).toArray.size by decide)
        have HT := Lib.hid (setRow_heap wr.drew w.heap.size _ (rwB 4 4).toArray 4 (0, 0) HH.out)
        have HU := Lib.hid (below_setRow (hb.drew) (Nat.le_refl _) (rwB 4 4).toArray)
        clear hh
        have HO1 := Lib.hid (one_rep 2)
        have hx := kc hb HHc.out
        go_upto_region 9 with fail
        go_region_held3 (fun w' => w'.cell? ⟨H, 0, none⟩ = some (.bool true)) (go_keep) (first | (refine step_of8 (by rfl) (wp_cpB _ _ (by rfl) w.heap.size 2 2 2 ⟨w.heap.size, 0, none⟩ 2 4 (by rfl) (by rfl) _ _ HH.out (List.replicate 2 (Value.bool true)) HN.out HSr.out HF.out HO1.out (rwB 4 4).toArray (by rfl) 2 (by rfl) ?_); replace hx := kc HU.out HHc.out))
        simp only [show IntKind.i64.wrap 4 = 4 from by decide]
        go_roundw
        case rel => exact ⟨_, _, _, _, _, _, _, _, _, _, _, _, _, _, ⟨4, by omega, by omega, rfl, HT.out, HU.out⟩, rfl⟩
        case measure => simp [intOf]
      · have HH := Lib.hid (show wr.drew.heap[w.heap.size]? = _ from hh)
        have HSr := Lib.hid (show ∀ j v, (List.replicate 1 (Value.bool true))[j]? = some v → wr.drew.cell? ((⟨w.heap.size, 0, none⟩ : Addr).add j) = some v from fun j v hj => by
          have hj0 : j < 1 := by
            have := (List.getElem?_eq_some_iff.1 hj).1
            simpa using this
          rw [Go.WideShapes.add_plain, Nat.zero_add]
          rw [List.getElem?_replicate, if_pos hj0] at hj
          refine (cell_of_row wr.drew w.heap.size _ _ _ _ hh).trans ?_
          rw [List.getElem?_toArray, rwB_at (show j < 3 by omega)]
          exact hj)
        have HN := Lib.hid (show (List.replicate 1 (Value.bool true)).length = Nat.min 3 1 from by decide)
        have HF := Lib.hid (show 3 + (List.replicate 1 (Value.bool true)).length ≤ (rwB 4 3).toArray.size by decide)
        have HT := Lib.hid (setRow_heap wr.drew w.heap.size _ (rwB 4 4).toArray 4 (0, 0) HH.out)
        have HU := Lib.hid (below_setRow (hb.drew) (Nat.le_refl _) (rwB 4 4).toArray)
        clear hh
        have HO1 := Lib.hid (one_rep 1)
        have hx := kc hb HHc.out
        go_upto_region 9 with fail
        go_region_held3 (fun w' => w'.cell? ⟨H, 0, none⟩ = some (.bool true)) (go_keep) (first | (refine step_of8 (by rfl) (wp_cpB _ _ (by rfl) w.heap.size 3 1 1 ⟨w.heap.size, 0, none⟩ 3 4 (by rfl) (by rfl) _ _ HH.out (List.replicate 1 (Value.bool true)) HN.out HSr.out HF.out HO1.out (rwB 4 4).toArray (by rfl) 1 (by rfl) ?_); replace hx := kc HU.out HHc.out))
        simp only [show IntKind.i64.wrap 4 = 4 from by decide]
        go_roundw
        case rel => exact ⟨_, _, _, _, _, _, _, _, _, _, _, _, _, _, ⟨4, by omega, by omega, rfl, HT.out, HU.out⟩, rfl⟩
        case measure => simp [intOf]
      · have HV := Lib.hid (show OwnVb wr w.heap.size 4 4 4 (fun _ => true) from ⟨_, hh, by decide, fun i hi => by rw [List.getElem?_toArray]; exact rwB_at hi⟩)
        go_wp2
        go_ret
        exact ⟨_, rfl, Nat.le_refl _, HV.out, hb⟩

theorem repeat_any (H cp : Nat) (c : Nat) (w : World) (hc : 1 ≤ c ∧ c ≤ 4) (hH : w.cell? ⟨H, 0, none⟩ = some (.bool true)) :
    Calls Try.prog 68 #[.slice (some ⟨H, 0, none⟩) 1 cp, .int .i64 c] w fun e w' => ∃ g, e = .returned (.slice (some ⟨g, 0, none⟩) c c) ∧ w.heap.size ≤ g ∧ OwnVb w' g 4 c c (fun _ => true) ∧ Below w.heap.size w w' := by
  have hc1 : c = 1 ∨ c = 2 ∨ c = 3 ∨ c = 4 := by omega
  rcases hc1 with rfl | rfl | rfl | rfl
  · exact repeat1 H cp w hH
  · exact repeat2 H cp w hH
  · exact repeat3 H cp w hH
  · exact repeat4 H cp w hH
end Go.Proofs.Ytgjjcikdbpjajaa
