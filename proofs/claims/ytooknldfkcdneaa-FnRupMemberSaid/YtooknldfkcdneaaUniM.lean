/- What the laws over Propagate's draw share (no claim of its own). Conditions: as each theorem states. · Unit clauses under propagation; problems one behind another (no claim of its own). Conditions: as each theorem states. -/
import Derived.Test.YtooknldfkcdneaaDrZ
import Derived.Deep.RegionHeld3
import Derived.Deep.QuietTactic
namespace Go.Proofs.Ytooknldfkcdneaa
open Go.ChangeShapes Go.WideShapes Go.ChangeAt Go.RowKit

/-- A slice of ints read by a function that is 0 behind its end. -/
theorem rdi_cut {w : World} {B n : Nat} {A : Option Addr} {v : Nat → Int} (h : RdI w B A n v) : ∃ u, RdI w B A n u ∧ (n = 12 → ∀ i, 12 ≤ i → u i = 0) :=
  ⟨fun i => if i < n then v i else 0, fun hn => by
    obtain ⟨b, off, e, hl, hc⟩ := h hn
    exact ⟨b, off, e, hl, fun i hi => by simp only [if_pos hi]; exact hc i hi⟩, fun e i hi => by simp only [if_neg (show ¬ i < n by omega)]⟩
/-- Two results of Propagate are one. -/
theorem pres_two {p : Nat → Con} {m n n2 : Nat} {v v1 v2 : Nat → Int} {r r2 : Int} {ok : Bool} (a1 : ok = true → n = 12 ∧ rng v1 ∧ Runs p m 0 v v1 r) (a0 : ok = false → n = 0 ∧ r = -1) (b1 : ok = true → n2 = 12 ∧ rng v2 ∧ Runs p m 0 v v2 r2) (b0 : ok = false → n2 = 0 ∧ r2 = -1) : n2 = n ∧ r2 = r ∧ (n = 0 ∨ v2 = v1) ∧ n ≤ 12 := by
  cases ok with
  | true =>
    obtain ⟨e1, _, h1⟩ := a1 rfl
    obtain ⟨e2, _, h2⟩ := b1 rfl
    obtain ⟨x, y⟩ := Runs.det h2 _ _ h1
    exact ⟨by omega, y, .inr x, by omega⟩
  | false =>
    obtain ⟨e1, h1⟩ := a0 rfl
    obtain ⟨e2, h2⟩ := b0 rfl
    exact ⟨by omega, by omega, .inl e1, by omega⟩
theorem fri_as {w : World} {B : Nat} {T : TypeId} {A : Option Addr} {n : Nat} {v v' : Nat → Int} (h : FrI w B T A n v) (e : n = 0 ∨ v = v') : FrI w B T A n v' := by
  rcases e with e | rfl
  · exact .inl e
  · exact h

set_option maxRecDepth 100000 in
set_option maxHeartbeats 400000 in
/-- Two slices with the same elements are equal. -/
theorem cpInts_refl (A A' : Option Addr) (n cap cap' : Nat) (v : Nat → Int) (w : World) (hn : n ≤ 1048576) (hr : RdI w w.heap.size A n v) (hr' : RdI w w.heap.size A' n v) :
    Calls Try.prog 27 #[.slice A n cap, .slice A' n cap'] w fun e w' => e = .returned (.bool true) ∧ Below w.heap.size w w' := by
  go_enter Try.func27, Try.ntmps27
  go_wp2
  go_loopw [5] (fun i wr => ∃ k : Nat, k ≤ n ∧ i = .int .i64 k ∧ Below w.heap.size w wr) (fun i _ => n - (intOf i).toNat)
  case atStart => exact ⟨0, Nat.zero_le _, rfl, Below.refl _ _⟩
  case round =>
    obtain ⟨k, hk, rfl, hb⟩ := hrel
    by_cases hlt : k < n
    · obtain ⟨b, off, rfl, hbl, hc⟩ := (hr.below hb) (by omega)
      obtain ⟨b', off', rfl, hbl', hc'⟩ := (hr'.below hb) (by omega)
      have hc1 := hc k hlt
      have hc2 := hc' k hlt
      clear hc hc' hr hr'
      have hlt' : (k : Int) < (n : Int) := by omega
      have hk0 : (0 : Int) ≤ (k : Int) := by omega
      go_wp2_with fail
      go_quiet (fail)
      go_wp2
      go_roundw
      case rel => exact ⟨k + 1, by omega, by go_num, bl_drewN hb _⟩
      case measure => simp [intOf]; omega
    · have e : k = n := by omega
      subst e
      go_wp2
      go_ret
      exact ⟨rfl, hb⟩
end Go.Proofs.Ytooknldfkcdneaa

namespace Go.Proofs.Ytooknldfkcdneaa
open Go.ChangeShapes Go.WideShapes Go.ChangeAt Go.RowKit

def unitCon (z : Int) : Con := ⟨1, 1, fun _ => 1, fun _ => z⟩
theorem unit_ok {z : Int} (hz : litB z = true) : okC (unitCon z) := by
  show validB 1 (fun _ => 1) (fun _ => z) 1 = true
  unfold validB vtB vtB okAt
  simp [hz]
theorem unit_fix {z : Int} {x : Nat → Int} (hz : litB z = true) (hx : rng x) (h : fixC (unitCon z) x) : stV x z = 1 := by
  obtain ⟨a, b⟩ := stV_rng hx hz
  obtain ⟨h1, h2⟩ := h
  have hs : slkC (unitCon z) x = (if nfP x z then 1 else 0) - 1 := by
    show sB (fun _ => 1) (fun _ => z) (nfP x) 1 - 1 = _
    cases hn : nfP x z with
    | true => rw [sB_yes (k := 0) (l := fun _ => z) hn]; rfl
    | false => rw [sB_no (k := 0) (l := fun _ => z) hn]; rfl
  by_cases e1 : stV x z < 0
  · have hn : nfP x z = false := by unfold nfP; rw [decide_eq_false_iff_not]; omega
    rw [hs, hn] at h1
    exact absurd (by decide) h1
  · by_cases e0 : stV x z = 0
    · have hn : nfP x z = true := by unfold nfP; rw [decide_eq_true_eq]; omega
      have hm : z ∈ impC (unitCon z) x := imL_mem.2 ⟨0, by show 0 < 1; omega, rfl, e0, by show slkC (unitCon z) x < 1; rw [hs, hn]; decide⟩
      rw [h2] at hm
      cases hm
    · omega
theorem catP_lo {k i : Nat} {p q : Nat → Con} (h : i < k) : catP k p q i = p i := if_pos h
theorem catP_hi {k i : Nat} {p q : Nat → Con} : catP k p q (k + i) = q i := by
  unfold catP
  rw [if_neg (by omega)]
  congr 1
  omega
theorem prob_cat {k m : Nat} {p q : Nat → Con} (hp : probB k p = true) (hq : probB m q = true) (h : k + m ≤ 400) : probB (k + m) (catP k p q) = true := by
  unfold probB at *
  rw [allV_cat]
  simp_all
theorem ok_cat {k m : Nat} {p q : Nat → Con} (hp : ∀ i, i < k → okC (p i)) (hq : ∀ i, i < m → okC (q i)) : ∀ i, i < k + m → okC (catP k p q i) := fun i hi => by
  by_cases h : i < k
  · rw [catP_lo h]; exact hp i h
  · obtain ⟨j, rfl⟩ : ∃ j, i = k + j := ⟨i - k, by omega⟩
    rw [catP_hi]; exact hq j (by omega)
theorem prob_unit {z : Int} (hz : litB z = true) : probB 1 (fun _ => unitCon z) = true := by
  have h := unit_ok hz
  unfold okC at h
  unfold probB allV allV
  simp [h]
/-- A row of cells that lies whole in a block, as a source. -/
theorem srcC_one {w : World} {H : Nat} {T : TypeId} {u v : Value} (h : w.heap[H]? = some (.cells #[u, v] T (0, 0))) (hu : u.oneCell' = true) (hv : v.oneCell' = true) : SrcC w (some ⟨H, 0, none⟩) 1 [u, v] :=
  ⟨rfl, fun x hx => by
    simp only [List.mem_cons, List.not_mem_nil, or_false] at hx
    rcases hx with rfl | rfl
    · exact hu
    · exact hv, fun a e j x hx => by
    cases e
    rw [Addr.add_mid, Nat.zero_add]
    exact (cell_of_row w H j _ _ _ h).trans (by simpa using hx)⟩
theorem heap_keep {w w' : World} {h : Nat} {o : Obj} (hb : Below w.heap.size w w') (hh : w.heap[h]? = some o) : w'.heap[h]? = some o := by
  refine (hb.block h ?_).trans hh
  rcases Nat.lt_or_ge h w.heap.size with hlt | hge
  · exact hlt
  · rw [Array.getElem?_eq_none hge] at hh; cases hh
theorem heap_grown {w w' : World} {R : Option Nat} {h : Nat} {o : Obj} (hg : w.grownBy w' R) (hR : R ≠ some h) (hh : w.heap[h]? = some o) : w'.heap[h]? = some o := by
  refine (hg.block h ?_ (fun e => hR e.symm)).trans hh
  rcases Nat.lt_or_ge h w.heap.size with hlt | hge
  · exact hlt
  · rw [Array.getElem?_eq_none hge] at hh; cases hh
end Go.Proofs.Ytooknldfkcdneaa

