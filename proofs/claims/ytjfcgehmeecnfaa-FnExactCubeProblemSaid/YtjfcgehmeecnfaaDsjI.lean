/- Contract of the program's ClauseOf (no claim of its own). Conditions: as each theorem states. -/
import Derived.Test.YtjfcgehmeecnfaaDsjP
import Derived.Test.YtjfcgehmeecnfaaInfA
namespace Go.Proofs.Ytjfcgehmeecnfaa
open Go.ChangeShapes Go.WideShapes Go.ChangeAt Go.RowKit Go.Shelf

theorem djK_sorted {n : Nat} {v : Nat → Int} (hl : ∀ i, i < n → litB (v i) = true) : Sorted1 v n (djK n v) := by
  have hsz : (vlst v n).toArray.size = n := by simp [vlst_length]
  have h := djD_sorts v n
  refine sorted_compact (d := (vlst v n).toArray) (ltOf djC) (fun x y hx hy => by rw [djC_lt, vrW_lit hx, vrW_lit hy]) hsz (fun i hi => ?_) hl (by rw [hsz]; exact h.1) (by rw [hsz]; exact h.2)
  rw [getElem!_pos _ i (by omega)]
  have h2 := vlst_get v hi
  rw [List.getElem?_eq_getElem (by rw [vlst_length]; exact hi)] at h2
  injection h2

theorem cres_zero {w : World} {c l c' l' : Nat → Int} {bd : Int} {ok : Bool} {e : Ending} {w' : World} (h : CRes w 0 c l bd ok e w') : CRes w 0 c' l' bd ok e w' := by
  obtain ⟨A, cap, he, _, hb⟩ := h
  exact ⟨A, cap, he, .inl rfl, hb⟩

theorem infD_res {n : Nat} {v : Nat → Int} {w : World} {e : Ending} {w' : World} (h : CRes w (infN (djR n v) (djK n v).length one1 (getK (djK n v)) 1) one1 (getK (djK n v)) (infD (djR n v) (djK n v).length one1 (getK (djK n v)) 1) (infB (djR n v) (djK n v).length one1 (getK (djK n v)) 1) e w') :
    CRes w (clN n v) one1 (rL (clF n v)) (clD n v) (clB n v) e w' := by
  cases hB : infB (djR n v) (djK n v).length one1 (getK (djK n v)) 1 with
  | false =>
    have hc : clB n v = false := by
      cases hc : clB n v with
      | false => rfl
      | true =>
        exfalso
        have hc' := hc
        unfold clB at hc'
        rw [Bool.and_eq_true, decide_eq_true_eq] at hc'
        have hl := (okD_iff.1 hc'.2).1
        have hR : djR n v = true := djR_iff.2 ⟨hc'.1, hl⟩
        unfold infB at hB
        rw [hR, clause_same (djK_sorted hl) hl, hc'.2] at hB
        cases hB
    unfold infN infD at h
    rw [hB] at h
    unfold clN clD
    rw [hc]
    exact cres_zero h
  | true =>
    have hB' := hB
    unfold infB at hB'
    rw [Bool.and_eq_true] at hB'
    obtain ⟨h40, hl⟩ := djR_iff.1 hB'.1
    have hok := hB'.2
    rw [clause_same (djK_sorted hl) hl] at hok
    have hK := clause_rows (djK_sorted hl) hok
    have hc : clB n v = true := by simp [clB, h40, hok]
    unfold infN infD at h
    rw [hB, hK, getK_rows, List.length_map] at h
    unfold clN clD
    rw [hc]
    exact h

set_option maxRecDepth 100000 in
set_option maxHeartbeats 1600000 in
theorem implClause_any (A : Option Addr) (n cap : Nat) (v : Nat → Int) (w : World) (hn : n ≤ 1048576) (hr : RdI w w.heap.size A n v) :
    Calls Try.prog 88 #[.slice A n cap] w (CRes w (clN n v) one1 (rL (clF n v)) (clD n v) (clB n v)) := by
  have hm1 : ∀ w : World, (method 264 112 (.slice A n cap) "loop.example/cuttingplanes/impl.ready").run Try.prog w = .ok (121, .slice A n cap) w := fun _ => by kernel_rfl
  have hm2 : ∀ w : World, (method 264 112 (.slice A n cap) "loop.example/cuttingplanes/impl.apply").run Try.prog w = .ok (120, .slice A n cap) w := fun _ => by kernel_rfl
  have hkl : (djK n v).length ≤ 1048576 := by
    have : (djK n v).length ≤ n := by
      unfold djK Go.Lib.compactUpTo
      rw [List.length_map]
      exact Nat.le_trans (List.length_filter_le _ _) (by simp [djD_size])
    omega
  have HI := fun W (hb : Below w.heap.size w W) => infer_any 112 (.slice A n cap) 121 120 (djR n v) (djK n v).length one1 (getK (djK n v)) 1 W hkl hm1 hm2
    (enters_of Try.func121 (by kernel_rfl) rfl) (enters_of Try.func120 (by kernel_rfl) rfl) (fun W2 hb2 => djReady_any A n cap v W2 hn (hr.later (hb.trans (hb2.mono hb.size)))) (fun _ W2 hb2 => djApply_any A n cap v W2 hn (hr.later (hb.trans (hb2.mono hb.size))))
  clear hm1 hm2 hkl hr
  have HI' := Lib.hid HI
  clear HI
  go_enter Try.func88, Try.ntmps88
  go_wp2_with fail
  refine (HI'.out _ (bl_alloc (Below.refl _ _) _)).mono ?_
  intro e w1 hx
  obtain ⟨A, cap, rfl, hF, hb⟩ := infD_res hx
  have HF := Lib.hid hF
  have HB := Lib.hid (bl_trans (bl_alloc (Below.refl w.heap.size w) _) hb)
  have r0 : w1.cell? ⟨w.heap.size, 0, none⟩ = some (.slice none 0 0) := kc hb (by go_simp)
  have r1 : w1.cell? ⟨w.heap.size, 1, none⟩ = some (.int .i64 0) := kc hb (by go_simp)
  have f0 : w1.frozen? ⟨w.heap.size, 0, none⟩ = false := kf hb (by simp) (by go_simp)
  have f1 : w1.frozen? ⟨w.heap.size, 1, none⟩ = false := kf hb (by simp) (by go_simp)
  clear hF hb HI' hx
  go_wp2
  refine bodyPost_ret (v := .tuple #[.agg #[.slice A (clN n v) cap, .int .i64 (clD n v)], .bool (clB n v)]) (by simp [results, Try.results88, go_sem, r0, r1]) rfl ?_
  exact ⟨A, cap, rfl, ((HF.out.far' (by simp) (by simp) _).far' (by simp) (by simp) _).more (by simp), (HB.out.setCell (by simp) _).setCell (by simp) _⟩
end Go.Proofs.Ytjfcgehmeecnfaa
