/- The program's rows of literals, sorted by their variables (no claim of its own). Conditions: as each theorem states. -/
import Derived.Test.YtjfcgehmeecnfaaDsjV
import Derived.Test.YtjfcgehmeecnfaaPairA
import Derived.Test.YtjfcgehmeecnfaaLax
import Derived.Lib.SlKeysI
namespace Go.Proofs.Ytjfcgehmeecnfaa
open Go.ChangeShapes Go.WideShapes Go.ChangeAt Go.RowKit Go.Shelf

/-- The variable of a number, as Go computes it. -/
def vrW (n : Int) : Int := if n < 0 then wrap64 (-n) else n
theorem vrW_lit {n : Int} (h : litB n = true) : vrW n = ab n := by
  have := litB_iff.1 h
  unfold vrW ab
  split
  · exact IntWalk.i64_left _ ▸ IntWalk.i64_in _ (by omega)
  · rfl
set_option maxHeartbeats 400000 in
theorem litVar_all (n : Int) (w : World) :
    Calls Try.prog 76 #[.int .i64 n] w fun e w' => e = .returned (.int .i64 (vrW n)) ∧ w = w' := by
  by_cases h : n < 0
  · go_enter Try.func76, Try.ntmps76
    go_wp2
    go_ret
    exact ⟨ret_int (by unfold vrW; rw [if_pos h]), rfl⟩
  · go_enter Try.func76, Try.ntmps76
    go_wp2
    go_ret
    exact ⟨ret_int (by unfold vrW; rw [if_neg (by omega)]), rfl⟩

/-- The comparison of two literals by their variables. -/
def djC (x y : Int) : Int := sgnC (vrW x) (vrW y)
theorem djC_lt (x y : Int) : ltOf djC x y = decide (vrW x < vrW y) := by
  unfold ltOf djC sgnC
  by_cases h1 : vrW x < vrW y
  · simp [h1]
  · by_cases h2 : vrW y < vrW x <;> simp [h1, h2]
theorem djC_swo : Go.Sort.SWO (ltOf djC) where
  irrefl x := by rw [djC_lt]; simp
  trans x y z h1 h2 := by rw [djC_lt] at *; simp at *; omega
  ntrans x y z h1 h2 := by rw [djC_lt] at *; simp at *; omega

set_option maxRecDepth 100000 in
set_option maxHeartbeats 1000000 in
theorem djCmp_any (x y : Int) (W : World) :
    Calls Try.prog 124 #[.int .i64 x, .int .i64 y] W fun e w' => e = .returned (.int .i64 (djC x y)) ∧ ∃ q, w' = W.drewN q := by
  have H3 := Lib.hid (cmpInt_any (vrW x) (vrW y))
  go_enter Try.func124, Try.ntmps124
  go_wp2_with (first | (go_at_call 76; refine (litVar_all _ _).mono ?_; rintro e w' ⟨rfl, rfl⟩) | (go_at_call 125; refine (H3.out _).mono ?_; rintro e w' ⟨rfl, rfl⟩))
  go_ret
  exact ⟨rfl, 0, rfl⟩

set_option maxHeartbeats 1000000 in
theorem valuesSeq_any (A : Option Addr) (n cap : Nat) (w : World) :
    Calls Try.prog 123 #[.slice A n cap] w fun e w' => e = .returned (.func (.func 131) #[] #[.pointer (some ⟨w.heap.size, 0, none⟩)]) ∧
      w'.cell? ⟨w.heap.size, 0, none⟩ = some (.slice A n cap) ∧ w.heap.size < w'.heap.size ∧ Below w.heap.size w w' := by
  go_enter Try.func123, Try.ntmps123
  go_wp2
  go_ret
  exact ⟨rfl, by go_simp, by simp, bl_alloc (Below.refl _ _) _⟩

set_option maxHeartbeats 1000000 in
theorem collect_any (B1 : Nat) (A : Option Addr) (len cap : Nat) (v : Nat → Int) (hlen : len ≤ 1048576) (w : World)
    (hB1 : B1 < w.heap.size) (ht : w.cell? ⟨B1, 0, none⟩ = some (.slice A len cap)) (hr : RdI w w.heap.size A len v) :
    Calls Try.prog 129 #[.func (.func 131) #[] #[.pointer (some ⟨B1, 0, none⟩)]] w fun e W' => ∃ u, e = .returned u ∧ W'.ownsRow (w.heap.size + 1) 3 1 u len ((vlst v len).map (Value.int .i64)) ∧ (len = 0 → u = .slice none 0 0) ∧ Below w.heap.size w W' := by
  have HC := Lib.hid ((callsIn_wide (n := 6)).1 (appendSeq_in Fence.wide 6 trivial trivial rfl (by omega) B1 A len cap v hlen w hB1 ht hr))
  clear ht hr
  go_enter Try.func129, Try.ntmps129
  go_wp2_with fail
  refine HC.out.mono ?_
  rintro e w' ⟨u, rfl, ho, hz, hb⟩
  have HO := Lib.hid ho
  have HZ := Lib.hid hz
  have HB := Lib.hid hb
  clear ho hz hb
  go_wp2
  go_ret
  exact ⟨u, rfl, HO.out, HZ.out, HB.out⟩

end Go.Proofs.Ytjfcgehmeecnfaa
