/- The values of cells as an array (no claim of its own). Conditions: as each theorem states. -/
import Derived.Test.YtafiikfaeomhpaaHldM
import Derived.Laws.CopyOwn
namespace Go.Proofs.Ytafiikfaeomhpaa
open Go.ChangeShapes Go.WideShapes Go.ChangeAt Go.RowKit

/-- Element i of the array of the values of n cells. -/
def cvV (n : Nat) (c : Nat → Int) (i : Nat) : Int := if i < n then c i else 0
/-- Five values as an array. -/
def arr5 (u : Nat → Int) : Value := .agg #[.int .i64 (u 0), .int .i64 (u 1), .int .i64 (u 2), .int .i64 (u 3), .int .i64 (u 4)]
theorem row5 {n i : Nat} (c : Nat → Int) (hi : i < 5) :
    ((#[Value.int .i64 0, .int .i64 0, .int .i64 0, .int .i64 0, .int .i64 0] : Array Value).toList.take 0 ++ ((vlst c n).map vI ++ (#[Value.int .i64 0, .int .i64 0, .int .i64 0, .int .i64 0, .int .i64 0] : Array Value).toList.drop (0 + ((vlst c n).map vI).length))).toArray[i]? = some (.int .i64 (cvV n c i)) := by
  have hl : ((vlst c n).map vI).length = n := by rw [List.length_map, vlst_length]
  rw [hl, List.getElem?_toArray, List.take_zero, List.nil_append, Nat.zero_add]
  unfold cvV
  by_cases h : i < n
  · rw [if_pos h, List.getElem?_append_left (by omega), List.getElem?_map, vlst_get c h]
    rfl
  · rw [if_neg h, List.getElem?_append_right (by omega), hl, List.getElem?_drop, show n + (i - n) = i by omega]
    have : i = 0 ∨ i = 1 ∨ i = 2 ∨ i = 3 ∨ i = 4 := by omega
    rcases this with rfl | rfl | rfl | rfl | rfl <;> rfl
theorem cell_set5 {w : World} {g i : Nat} {cs cs0 : Array Value} {t : TypeId} {u : Value} (h : w.heap[g]? = some (.cells cs0 t (0, 0))) (hu : cs[i]? = some u) : (w.setRow g cs).cell? ⟨g, i, none⟩ = some u := by
  have := setRow_heap w g cs0 cs t (0, 0) h
  exact (cell_of_row _ g i cs _ _ this).trans hu
theorem len_vlst (c : Nat → Int) (n : Nat) : ((vlst c n).map vI).length = n := by rw [List.length_map, vlst_length]
theorem fit5 (c : Nat → Int) {n : Nat} (hn : n ≤ 5) : 0 + ((vlst c n).map vI).length ≤ (#[Value.int .i64 0, .int .i64 0, .int .i64 0, .int .i64 0, .int .i64 0] : Array Value).size := by rw [len_vlst]; show 0 + n ≤ 5; omega
theorem one_vlst (c : Nat → Int) (n : Nat) : ∀ v ∈ (vlst c n).map vI, v.oneCell' = true := by
  intro v hv
  obtain ⟨x, _, rfl⟩ := List.mem_map.1 hv
  rfl
theorem src_vlst {w : World} {b off n : Nat} {c : Nat → Int} (h : ∀ i, i < n → w.cell? ⟨b, off + i, none⟩ = some (.int .i64 (c i))) : ∀ j v, ((vlst c n).map vI)[j]? = some v → w.cell? ((⟨b, off, none⟩ : Addr).add j) = some v := by
  intro j v hj
  rw [List.getElem?_map] at hj
  by_cases hlt : j < n
  · rw [vlst_get c hlt] at hj
    injection hj with hj
    subst hj
    have := h j hlt
    unfold Addr.add
    by_cases e : j = 0
    · subst e; rw [if_pos rfl]; rw [Nat.add_zero] at this; exact this
    · rw [if_neg e]; exact this
  · rw [List.getElem?_eq_none (by rw [vlst_length]; omega)] at hj
    cases hj

set_option maxRecDepth 100000 in
set_option maxHeartbeats 1600000 in
theorem cvo_any (n cap : Nat) (A : Option Addr) (c : Nat → Int) (w : World) (hn : n ≤ 5) (hn1 : 1 ≤ n) (hr : RdI w w.heap.size A n c) :
    Calls Try.prog 47 #[.slice A n cap] w fun e w' => e = .returned (arr5 (cvV n c)) ∧ Below w.heap.size w w' := by
  have hb1 := bl_alloc (bl_alloc (Below.refl w.heap.size w) (.cells #[.int .i64 0, .int .i64 0, .int .i64 0, .int .i64 0, .int .i64 0] 69)) (.cells #[.int .i64 0, .int .i64 0, .int .i64 0, .int .i64 0, .int .i64 0] 69)
  obtain ⟨b, off, rfl, hbl, hc⟩ := (hr.later hb1) (by omega)
  have HC := Lib.hid hc
  have HB := Lib.hid hb1
  have hh : ((w.alloc (.cells #[.int .i64 0, .int .i64 0, .int .i64 0, .int .i64 0, .int .i64 0] 69)).alloc (.cells #[.int .i64 0, .int .i64 0, .int .i64 0, .int .i64 0, .int .i64 0] 69)).heap[w.heap.size + 1]? = some (.cells #[.int .i64 0, .int .i64 0, .int .i64 0, .int .i64 0, .int .i64 0] 69 (0, 0)) := by
    have := heap_alloc_new (w.alloc (.cells #[.int .i64 0, .int .i64 0, .int .i64 0, .int .i64 0, .int .i64 0] 69)) (.cells #[.int .i64 0, .int .i64 0, .int .i64 0, .int .i64 0, .int .i64 0] 69)
    simpa using this
  have HH := Lib.hid hh
  have HS := Lib.hid (fun i (hi : i < 5) => cell_set5 hh (row5 (n := n) c hi))
  have HU := Lib.hid (fun r => below_setRow (Below.refl (w.heap.size + 1) ((w.alloc (.cells #[.int .i64 0, .int .i64 0, .int .i64 0, .int .i64 0, .int .i64 0] 69)).alloc (.cells #[.int .i64 0, .int .i64 0, .int .i64 0, .int .i64 0, .int .i64 0] 69))) (Nat.le_refl _) r)
  have z0 : ((w.alloc (.cells #[.int .i64 0, .int .i64 0, .int .i64 0, .int .i64 0, .int .i64 0] 69)).alloc (.cells #[.int .i64 0, .int .i64 0, .int .i64 0, .int .i64 0, .int .i64 0] 69)).cell? ⟨w.heap.size, 0, none⟩ = some (.int .i64 0) := by go_simp
  have z1 : ((w.alloc (.cells #[.int .i64 0, .int .i64 0, .int .i64 0, .int .i64 0, .int .i64 0] 69)).alloc (.cells #[.int .i64 0, .int .i64 0, .int .i64 0, .int .i64 0, .int .i64 0] 69)).cell? ⟨w.heap.size, 1, none⟩ = some (.int .i64 0) := by go_simp
  have z2 : ((w.alloc (.cells #[.int .i64 0, .int .i64 0, .int .i64 0, .int .i64 0, .int .i64 0] 69)).alloc (.cells #[.int .i64 0, .int .i64 0, .int .i64 0, .int .i64 0, .int .i64 0] 69)).cell? ⟨w.heap.size, 2, none⟩ = some (.int .i64 0) := by go_simp
  have z3 : ((w.alloc (.cells #[.int .i64 0, .int .i64 0, .int .i64 0, .int .i64 0, .int .i64 0] 69)).alloc (.cells #[.int .i64 0, .int .i64 0, .int .i64 0, .int .i64 0, .int .i64 0] 69)).cell? ⟨w.heap.size, 3, none⟩ = some (.int .i64 0) := by go_simp
  have z4 : ((w.alloc (.cells #[.int .i64 0, .int .i64 0, .int .i64 0, .int .i64 0, .int .i64 0] 69)).alloc (.cells #[.int .i64 0, .int .i64 0, .int .i64 0, .int .i64 0, .int .i64 0] 69)).cell? ⟨w.heap.size, 4, none⟩ = some (.int .i64 0) := by go_simp
  have f0 : ((w.alloc (.cells #[.int .i64 0, .int .i64 0, .int .i64 0, .int .i64 0, .int .i64 0] 69)).alloc (.cells #[.int .i64 0, .int .i64 0, .int .i64 0, .int .i64 0, .int .i64 0] 69)).frozen? ⟨w.heap.size, 0, none⟩ = false := by go_simp
  have f1 : ((w.alloc (.cells #[.int .i64 0, .int .i64 0, .int .i64 0, .int .i64 0, .int .i64 0] 69)).alloc (.cells #[.int .i64 0, .int .i64 0, .int .i64 0, .int .i64 0, .int .i64 0] 69)).frozen? ⟨w.heap.size, 1, none⟩ = false := by go_simp
  have f2 : ((w.alloc (.cells #[.int .i64 0, .int .i64 0, .int .i64 0, .int .i64 0, .int .i64 0] 69)).alloc (.cells #[.int .i64 0, .int .i64 0, .int .i64 0, .int .i64 0, .int .i64 0] 69)).frozen? ⟨w.heap.size, 2, none⟩ = false := by go_simp
  have f3 : ((w.alloc (.cells #[.int .i64 0, .int .i64 0, .int .i64 0, .int .i64 0, .int .i64 0] 69)).alloc (.cells #[.int .i64 0, .int .i64 0, .int .i64 0, .int .i64 0, .int .i64 0] 69)).frozen? ⟨w.heap.size, 3, none⟩ = false := by go_simp
  have f4 : ((w.alloc (.cells #[.int .i64 0, .int .i64 0, .int .i64 0, .int .i64 0, .int .i64 0] 69)).alloc (.cells #[.int .i64 0, .int .i64 0, .int .i64 0, .int .i64 0, .int .i64 0] 69)).frozen? ⟨w.heap.size, 4, none⟩ = false := by go_simp
  clear hc hb1 hr hh
  go_enter Try.func47, Try.ntmps47
  go_wp2_with (with_reducible show wpList _ _ _ _ _ _; with_reducible refine wpList_copy_own rfl (.tmp 4) (.tmp 5) 22 22 rfl 3 Try.underlying22 (by kernel_rfl) (w.heap.size + 1) 0 5 5 ⟨b, off, none⟩ n cap rfl rfl _ _ HH.out ((vlst c n).map vI) ((len_vlst c n).trans (Nat.min_eq_left hn).symm) (src_vlst HC.out) (fit5 c hn) (one_vlst c n) ?_; have s0 := HS.out 0 (by omega); have s1 := HS.out 1 (by omega); have s2 := HS.out 2 (by omega); have s3 := HS.out 3 (by omega); have s4 := HS.out 4 (by omega); have hU := HU.out ((#[Value.int .i64 0, .int .i64 0, .int .i64 0, .int .i64 0, .int .i64 0] : Array Value).toList.take 0 ++ ((vlst c n).map vI ++ (#[Value.int .i64 0, .int .i64 0, .int .i64 0, .int .i64 0, .int .i64 0] : Array Value).toList.drop (0 + ((vlst c n).map vI).length))).toArray; replace z0 := (hU.cell (p := ⟨w.heap.size, 0, none⟩) (Nat.lt_succ_self _)).trans z0; replace z1 := (hU.cell (p := ⟨w.heap.size, 1, none⟩) (Nat.lt_succ_self _)).trans z1; replace z2 := (hU.cell (p := ⟨w.heap.size, 2, none⟩) (Nat.lt_succ_self _)).trans z2; replace z3 := (hU.cell (p := ⟨w.heap.size, 3, none⟩) (Nat.lt_succ_self _)).trans z3; replace z4 := (hU.cell (p := ⟨w.heap.size, 4, none⟩) (Nat.lt_succ_self _)).trans z4; replace f0 := (hU.frozen (p := ⟨w.heap.size, 0, none⟩) (Nat.lt_succ_self _)).trans f0; replace f1 := (hU.frozen (p := ⟨w.heap.size, 1, none⟩) (Nat.lt_succ_self _)).trans f1; replace f2 := (hU.frozen (p := ⟨w.heap.size, 2, none⟩) (Nat.lt_succ_self _)).trans f2; replace f3 := (hU.frozen (p := ⟨w.heap.size, 3, none⟩) (Nat.lt_succ_self _)).trans f3; replace f4 := (hU.frozen (p := ⟨w.heap.size, 4, none⟩) (Nat.lt_succ_self _)).trans f4; have HB2 := Lib.hid (HB.out.trans (hU.mono (Nat.le_succ _))); clear hU HS HU HB HH HC; generalize ((w.alloc (.cells #[.int .i64 0, .int .i64 0, .int .i64 0, .int .i64 0, .int .i64 0] 69)).alloc (.cells #[.int .i64 0, .int .i64 0, .int .i64 0, .int .i64 0, .int .i64 0] 69)).setRow (w.heap.size + 1) ((#[Value.int .i64 0, .int .i64 0, .int .i64 0, .int .i64 0, .int .i64 0] : Array Value).toList.take 0 ++ ((vlst c n).map vI ++ (#[Value.int .i64 0, .int .i64 0, .int .i64 0, .int .i64 0, .int .i64 0] : Array Value).toList.drop (0 + ((vlst c n).map vI).length))).toArray = W5 at *)
  refine bodyPost_ret (v := arr5 (cvV n c)) (by simp [results, Try.results47, go_sem, z0, z1, z2, z3, z4, arr5]) rfl ?_
  refine ⟨rfl, ?_⟩
  exact ((((HB2.out.setCell (p := ⟨w.heap.size, 0, none⟩) (Nat.le_refl _) _).setCell (p := ⟨w.heap.size, 1, none⟩) (Nat.le_refl _) _).setCell (p := ⟨w.heap.size, 2, none⟩) (Nat.le_refl _) _).setCell (p := ⟨w.heap.size, 3, none⟩) (Nat.le_refl _) _).setCell (p := ⟨w.heap.size, 4, none⟩) (Nat.le_refl _) _
end Go.Proofs.Ytafiikfaeomhpaa
