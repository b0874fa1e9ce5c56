/- A problem under a cube: what both sides hand back; the reference's side (no claim of its own). Conditions: as each theorem states. -/
import Derived.Test.YtjfcgehmeecnfaaCubA
import Derived.Test.YtjfcgehmeecnfaaSubM
import Derived.Test.YtjfcgehmeecnfaaCpyC
import Derived.Test.YtjfcgehmeecnfaaMkCs
namespace Go.Proofs.Ytjfcgehmeecnfaa
open Go.ChangeShapes Go.WideShapes Go.ChangeAt Go.RowKit

/-- The constraint that a literal is true. -/
def unC (z : Int) : Con := ⟨1, 1, fun _ => 1, fun _ => z⟩
/-- A problem, followed by the literals of a cube. -/
def undP (n : Nat) (p : Nat → Con) (c : Nat → Int) (i : Nat) : Con := if i < n then p i else unC (c (i - n))
def undOk (n : Nat) (p : Nat → Con) (m : Nat) (c : Nat → Int) : Bool := probB n p && (cubeB m c && decide (n + m ≤ 400))
def undN (n : Nat) (p : Nat → Con) (m : Nat) (c : Nat → Int) : Nat := if undOk n p m c = true then n + m else 0
section
variable {n m i : Nat} {p : Nat → Con} {c : Nat → Int}
theorem undP_lt (h : i < n) : undP n p c i = p i := if_pos h
theorem undP_ge (i : Nat) : undP n p c (n + i) = unC (c i) := by
  unfold undP
  rw [if_neg (by omega), show n + i - n = i by omega]
theorem und_parts (h : undOk n p m c = true) : probB n p = true ∧ cubeB m c = true ∧ n + m ≤ 400 := by
  unfold undOk at h
  simp only [Bool.and_eq_true, decide_eq_true_eq] at h
  exact ⟨h.1, h.2.1, h.2.2⟩
theorem und_yes (h1 : probB n p = true) (h2 : cubeB m c = true) (h3 : n + m ≤ 400) : undOk n p m c = true ∧ undN n p m c = n + m := by
  have h : undOk n p m c = true := by unfold undOk; rw [h1, h2, decide_eq_true h3]; rfl
  exact ⟨h, if_pos h⟩
theorem und_no (h : probB n p = false ∨ cubeB m c = false ∨ ¬ (n + m ≤ 400)) : undOk n p m c = false ∧ undN n p m c = 0 := by
  have h : undOk n p m c = false := by
    unfold undOk
    rcases h with h | h | h
    · rw [h]; rfl
    · rw [h, Bool.false_and, Bool.and_false]
    · rw [decide_eq_false h, Bool.and_false, Bool.and_false]
  exact ⟨h, if_neg (by rw [h]; exact Bool.false_ne_true)⟩
theorem undN_le (n : Nat) (p : Nat → Con) (m : Nat) (c : Nat → Int) : undN n p m c ≤ 400 := by
  unfold undN
  split
  · exact (und_parts ‹_›).2.2
  · omega
theorem und_12 {i : Nat} (hi : i < undN n p m c) : (undP n p c i).n ≤ 12 := by
  unfold undN at hi
  split at hi
  · rename_i h
    obtain ⟨h1, h2, h3⟩ := und_parts h
    unfold undP
    split
    · rename_i hlt
      exact valid_le12 (allV_at (prob_V h1) hlt)
    · show 1 ≤ 12
      omega
  · omega
theorem und_all (n : Nat) (p : Nat → Con) (m : Nat) (c : Nat → Int) (i : Nat) (hi : i < undN n p m c) : (undP n p c i).n ≤ 1048576 := Nat.le_trans (und_12 hi) (by omega)
theorem und_tot (n : Nat) (p : Nat → Con) (m : Nat) (c : Nat → Int) : undN n p m c + 2 * tot (undP n p c) (undN n p m c) ≤ 500000 := by
  have h1 := undN_le n p m c
  have h2 := tot_12 (q := undP n p c) (k := undN n p m c) fun i hi => und_12 hi
  omega
end

/-- What CubeProblem leaves. -/
def UndRes (w : World) (n : Nat) (p : Nat → Con) (m : Nat) (c : Nat → Int) (e : Ending) (w' : World) : Prop :=
  ∃ A cap, e = .returned (.tuple #[.slice A (undN n p m c) cap, .bool (undOk n p m c)]) ∧ FrC w' w.heap.size A (undN n p m c) (undP n p c) ∧ Below w.heap.size w w'
theorem undRes_no {w w' : World} {n : Nat} {p : Nat → Con} {m : Nat} {c : Nat → Int} {A : Option Addr} {cap : Nat} (h : undOk n p m c = false ∧ undN n p m c = 0) (hb : Below w.heap.size w w') : UndRes w n p m c (.returned (.tuple #[.slice A 0 cap, .bool false])) w' :=
  ⟨A, cap, by rw [h.1, h.2], by rw [h.2]; exact frc_nil _ _ _ _, hb⟩
theorem undRes_yes {w w' : World} {n : Nat} {p : Nat → Con} {m : Nat} {c : Nat → Int} {A : Option Addr} {cap : Nat} (h : undOk n p m c = true ∧ undN n p m c = n + m) (hF : FrC w' w.heap.size A (n + m) (undP n p c)) (hb : Below w.heap.size w w') : UndRes w n p m c (.returned (.tuple #[.slice A (n + m) cap, .bool true])) w' :=
  ⟨A, cap, by rw [h.1, h.2], by rw [h.2]; exact hF, hb⟩

/-- The constraint of a literal, just made: its head and its term. -/
theorem und_new (W : World) (z : Int) : ((W.alloc (.cells #[.int .i64 1, .int .i64 z] 91)).alloc (.cells #[.slice (some ⟨W.heap.size, 0, none⟩) 1 1, .int .i64 1] 69)).heap[W.heap.size + 1]? = some (.cells #[.slice (some ⟨W.heap.size, 0, none⟩) (unC z).n 1, .int .i64 (unC z).bd] 69 (0, 0)) := by
  have h9 := heap_alloc_new (W.alloc (.cells #[.int .i64 1, .int .i64 z] 91)) (.cells #[.slice (some ⟨W.heap.size, 0, none⟩) 1 1, .int .i64 1] 69)
  rw [World.size_alloc] at h9
  exact h9
theorem und_frs (W : World) (z : Int) {hi : Nat} (h : hi ≤ W.heap.size) : Frs ((W.alloc (.cells #[.int .i64 1, .int .i64 z] 91)).alloc (.cells #[.slice (some ⟨W.heap.size, 0, none⟩) 1 1, .int .i64 1] 69)) hi (some ⟨W.heap.size, 0, none⟩) (unC z).n (unC z).c (unC z).l := by
  refine .inr ⟨W.heap.size, rfl, h, _, (Below.heap_alloc _ _ _ (by simp)).trans (heap_alloc_new _ _), by simp [unC], fun i hi => ?_⟩
  obtain rfl : i = 0 := by
    have : i < 1 := hi
    omega
  exact ⟨rfl, rfl⟩

/-- A constraint of what came in. -/
theorem und_at {w : World} {A : Option Addr} {n k : Nat} {p : Nat → Con} {c : Nat → Int} (hr : RdPc w w.heap.size A n p) (hlt : k < n) :
    ∃ (b off : Nat) (Ai : Option Addr) (ci : Nat), A = some ⟨b, off, none⟩ ∧ w.cell? ⟨b, off + k * 2, none⟩ = some (.slice Ai (undP n p c k).n ci) ∧ w.cell? ⟨b, off + k * 2 + 1, none⟩ = some (.int .i64 (undP n p c k).bd) ∧ Rd w w.heap.size Ai (undP n p c k).n (undP n p c k).c (undP n p c k).l ∧ (Ai = none → ci = 0) := by
  obtain ⟨b, off, e, _, hc⟩ := hr (by omega)
  obtain ⟨Ai, ci, a1, a2, a3, a4⟩ := hc k hlt
  rw [undP_lt hlt]
  exact ⟨b, off, Ai, ci, e, a1, a2, a3, a4⟩

set_option linter.unusedVariables false in
set_option maxRecDepth 100000 in
set_option maxHeartbeats 3200000 in
theorem l12Under_any (A Ak : Option Addr) (n cap m capk : Nat) (p : Nat → Con) (c : Nat → Int) (w : World) (hn : n ≤ 400) (hm : m ≤ 400) (hn' : ∀ i, i < n → (p i).n ≤ 1048576) (hr : RdPc w w.heap.size A n p) (hrk : RdI w w.heap.size Ak m c) :
    Calls Try.prog 51 #[.slice A n cap, .slice Ak m capk] w fun e w' => ∃ A' cap', e = .returned (.slice A' (n + m) cap') ∧ FrC w' w.heap.size A' (n + m) (undP n p c) ∧ Below w.heap.size w w' := by
  have HN := Lib.hid hn'
  have HR := Lib.hid hr
  have HRk := Lib.hid hrk
  have HG0 := Lib.hid (grw_lit w w.heap.size (undP n p c) (fun _ => 0))
  clear hn' hr hrk
  go_enter Try.func51, Try.ntmps51
  go_wp2
  go_loopw [5, 6] (fun ov i wr => ∃ (k hi : Nat) (xs : List Value) (f : Nat → Nat), k ≤ n ∧ i = .int .i64 k ∧ GrwC wr w.heap.size hi ov k xs (undP n p c) f ∧ w.heap.size ≤ hi ∧ hi ≤ wr.heap.size ∧ Below w.heap.size w wr) (fun _ i _ => n - (intOf i).toNat)
  case atStart => exact ⟨0, w.heap.size, [], fun _ => 0, Nat.zero_le _, rfl, HG0.out, Nat.le_refl _, by simp, bl_alloc (Below.refl _ _) _⟩
  case round =>
    obtain ⟨k, hi, xs, f, hk, rfl, hg, h1, h2, hb⟩ := hrel
    have HG := Lib.hid hg
    have HB := Lib.hid hb
    clear hg hb HG0
    by_cases hlt : k < n
    · obtain ⟨b, off, Ai, ci, rfl, hx0, hx1, hrq, hcq⟩ := und_at (c := c) (HR.out.later HB.out) hlt
      have hq : (undP n p c k).n ≤ 1048576 := by
        rw [undP_lt hlt]
        exact HN.out k hlt
      have HRQ := Lib.hid hrq
      have HCQ := Lib.hid hcq
      clear hrq hcq
      go_wp2_with fail
      refine (copyC_any Ai _ ci _ _ _ _ hq HRQ.out HCQ.out).mono ?_
      rintro e w1 ⟨A1, cap1, rfl, hF, hb1⟩
      have HAl := Lib.hid (bl_alloc (Below.refl w1.heap.size w1) (.cells #[.slice A1 (undP n p c k).n cap1, .int .i64 (undP n p c k).bd] 69))
      have HG1 := Lib.hid ((HG.out.below hb1).below HAl.out)
      have HF1 := Lib.hid ((hF.below HAl.out).more h2)
      have HB1 := Lib.hid (bl_trans (bl_trans HB.out hb1) HAl.out)
      have hs1 : hi ≤ (w1.alloc (.cells #[.slice A1 (undP n p c k).n cap1, .int .i64 (undP n p c k).bd] 69)).heap.size := Nat.le_trans (Nat.le_trans h2 hb1.size) HAl.out.size
      have HS1 := Lib.hid hs1
      clear hF hb1 hs1 HG HB hx0 hx1 HRQ HCQ
      go_wp2_with (at_builtin; refine wpList_plain (by rfl) fun K' hK' => ?_; refine wp_grw1 _ _ (by rfl) HG1.out h1 HS1.out (by rfl) (by rfl) (heap_alloc_new _ _) HF1.out (by omega) ?_; intro gg cap2 w4 zs f4 hg4 hgr4; have HG4 := Lib.hid hg4; have HB4 := Lib.hid (HB1.out.grown hgr4 HB1.out.size (fun j e => (HG1.out.lt j e).1)); clear hg4 hgr4; refine hK' _ _ ?_; clear hK' K')
      go_roundw
      case rel => exact ⟨k + 1, _, zs, f4, by omega, by go_num, HG4.out, HB4.out.size, Nat.le_refl _, HB4.out⟩
      case measure => simp [intOf]; omega
    · have e : k = n := by omega
      subst e
      clear hlt
      have HG0 := HG
      have HB0 := HB
      clear HG HB
      go_wp2
      go_loopw [5, 7] (fun ov i wq => ∃ (j hi : Nat) (xs : List Value) (f : Nat → Nat), j ≤ m ∧ i = .int .i64 j ∧ GrwC wq w.heap.size hi ov (k + j) xs (undP k p c) f ∧ w.heap.size ≤ hi ∧ hi ≤ wq.heap.size ∧ Below w.heap.size w wq) (fun _ i _ => m - (intOf i).toNat)
      case atStart => exact ⟨0, hi, xs, f, Nat.zero_le _, rfl, HG0.out, h1, h2, HB0.out⟩
      case round =>
        obtain ⟨j, hi, xs, f, hj, rfl, hg, h1, h2, hb⟩ := hrel
        have HG := Lib.hid hg
        have HB := Lib.hid hb
        clear hg hb HG0 HB0
        by_cases hlt : j < m
        · obtain ⟨bk, offk, rfl, _, hck⟩ := (HRk.out.below HB.out) (by omega)
          have hc0 := hck j hlt
          have hu : undP k p c (k + j) = unC (c j) := undP_ge j
          have HU := Lib.hid hu
          have HAl := Lib.hid (bl_alloc (bl_alloc (Below.refl wr.heap.size wr) (.cells #[.int .i64 1, .int .i64 (c j)] 91)) (.cells #[.slice (some ⟨wr.heap.size, 0, none⟩) 1 1, .int .i64 1] 69))
          have HNw := Lib.hid (und_new wr (c j))
          have HF1 := Lib.hid (und_frs wr (c j) h2)
          have HB1 := Lib.hid (bl_trans HB.out HAl.out)
          clear hck hu
          go_wp2_with (at_builtin; refine wpList_plain (by rfl) fun K' hK' => ?_; refine wp_grw1 (A := some ⟨wr.heap.size, 0, none⟩) (cap := 1) _ _ (by rfl) (HG.out.below HAl.out) h1 (Nat.le_trans h2 HAl.out.size) (by rfl) (by rfl) (by rw [HU.out]; exact HNw.out) (by rw [HU.out]; exact HF1.out) (by omega) ?_; intro gg cap2 w4 zs f4 hg4 hgr4; have HG4 := Lib.hid hg4; have HB4 := Lib.hid (HB1.out.grown hgr4 HB1.out.size (fun j e => (HG.out.lt j e).1)); clear hg4 hgr4; refine hK' _ _ ?_; clear hK' K')
          go_roundw
          case rel => exact ⟨j + 1, _, zs, f4, by omega, by go_num, HG4.out, HB4.out.size, Nat.le_refl _, HB4.out⟩
          case measure => simp [intOf]; omega
        · have e : j = m := by omega
          subst e
          obtain ⟨A1, cap1, rfl, hF⟩ := HG.out.fin
          have HF := Lib.hid hF
          clear hF HG
          go_wp2
          go_ret
          exact ⟨A1, cap1, rfl, HF.out, HB.out⟩
end Go.Proofs.Ytjfcgehmeecnfaa
