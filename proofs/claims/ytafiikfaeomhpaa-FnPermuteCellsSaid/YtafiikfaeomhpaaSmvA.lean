/- The program's sum over the numbers of a slice (no claim of its own). Conditions: as each theorem states. -/
import Derived.Test.YtafiikfaeomhpaaVlsA
namespace Go.Proofs.Ytafiikfaeomhpaa
open Go.ChangeShapes Go.WideShapes Go.ChangeAt Go.RowKit Go.Shelf

attribute [local go_sem] Oper.semAt_some

theorem cell_of_v {W : World} {B : Nat} {v : Value} {t : TypeId} (h : W.heap[B]? = some (.cells #[v] t (0, 0))) : W.cell? ⟨B, 0, none⟩ = some v ∧ W.frozen? ⟨B, 0, none⟩ = false := by
  constructor <;> simp [World.cell?, World.frozen?, h]
theorem cell_new_v (W : World) (v : Value) (t : TypeId) : (W.alloc (.cells #[v] t)).cell? ⟨W.heap.size, 0, none⟩ = some v ∧ (W.alloc (.cells #[v] t)).frozen? ⟨W.heap.size, 0, none⟩ = false :=
  cell_of_v (World.alloc_heap_new W _)

/-- The sum, as Go computes it. -/
def sumV : List Int → Int := List.foldl (fun s v => wrap64 (s + v)) 0
theorem sumV_snoc (pre : List Int) (x : Int) : sumV (pre ++ [x]) = wrap64 (sumV pre + x) := by simp [sumV]

set_option maxRecDepth 100000 in
set_option maxHeartbeats 2000000 in
theorem sumOfV_in (F : Fence) (n : Nat) (h50 : F.fn 89) (h58 : F.fn 111) (hro : F.round = none) (hn : 3 ≤ n) (B1 : Nat) (A : Option Addr) (len cap : Nat) (v : Nat → Int) (hlen : len ≤ 1048576)
    (w : World) (hB1 : B1 < w.heap.size) (ht : w.cell? ⟨B1, 0, none⟩ = some (.slice A len cap)) (hr : RdI w w.heap.size A len v) :
    CallsIn F n Try.prog 89 #[.func (.func 111) #[] #[.pointer (some ⟨B1, 0, none⟩)]] w fun e W' => e = .returned (.int .i64 (sumV (vlst v len))) ∧ Below w.heap.size w W' := by
  have h1 : 1 ≤ n := by omega
  have hseq := vals_stops F (n - 1) h58 hro (by omega) B1 w.heap.size A len cap v hlen w (Nat.le_refl _) hB1 ht hr
  clear ht hr
  have Hseq := Lib.hid hseq
  clear hseq
  refine callsIn_of_wp_marks Try.func89 rfl h50 ?_ hro
  simp only [Try.ntmps89, List.size_toArray, List.length_cons, List.length_nil, Nat.reduceAdd, Nat.reduceSub, Array.replicate_succ, Array.replicate_zero, List.push_toArray, List.append_toArray, List.nil_append, List.cons_append]
  gi_wp2
  have hs := cell_new_v w (.int .i64 0) 3
  have hB0 : Below w.heap.size w (w.alloc (.cells #[.int .i64 0] 3)) := (Below.refl _ w).alloc (Nat.le_refl _) _
  refine wpIn_rangeFunc_ownF hro h1 (gf := 111) (lb := #[.pointer (some ⟨B1, 0, none⟩)]) rfl h58 (enters_of Try.func111 (by kernel_rfl) rfl)
    Hseq.out belowK_t (belowK_b (by simp)) hB0 (fun _ => rfl)
    (fun pre W => (W.cell? ⟨w.heap.size, 0, none⟩ = some (.int .i64 (sumV pre)) ∧ W.frozen? ⟨w.heap.size, 0, none⟩ = false) ∧ Below w.heap.size w W)
    (fun _ _ _ => False)
    (OwnFrom.and (Own.from (fun s A B row hs hg hr => ⟨cell_kept hs.1 hg hr, (frozen_kept hs.1 hg hr).trans hs.2⟩) _) (ownFrom_below (Nat.le_refl _) (by simp)))
    (fun _ _ _ _ _ hs _ _ => hs)
    ⟨hs, hB0⟩
    (fun x => { tmps := #[.func (.func 111) #[] #[.pointer (some ⟨B1, 0, none⟩)], undef, .int .i64 0, .pointer (some ⟨w.heap.size, 0, none⟩), .int .i64 x, .func (.func 111) #[] #[.pointer (some ⟨B1, 0, none⟩)], .int .i64 x, undef, undef, undef, undef], defers := [] }) ?assign ?body ?done ?stop
  case assign =>
    intro l x W K hK
    gi_wp2
    exact hK
  case body =>
    rintro l pre x W ⟨⟨hc, hf⟩, hB⟩ _
    gi_wp2
    exact ⟨KeepsOthers.setCell _ _ _, (Below.refl w.heap.size W).setCell (p := ⟨w.heap.size, 0, none⟩) (Nat.le_refl _) _, ⟨by rw [sumV_snoc]; exact World.cell?_setCell_same' _ _ _ (by rw [hc]; rfl), by rw [World.frozen?_setCell]; exact hf⟩, hB.setCell (p := ⟨w.heap.size, 0, none⟩) (Nat.le_refl _) _⟩
  case done =>
    rintro D ys W hD rfl ⟨⟨hc, _⟩, hB⟩ hK
    gi_wp2
    refine ⟨by simp, .inl ⟨_, _, rfl, run_takeDeferred hK, ?_⟩⟩
    exact ⟨_, results_tmp rfl _ _ _, rfl, hB.trans (belowK_b (w := w) (Nat.le_refl _) W D _ _ (by simp at hD; omega) hK rfl rfl)⟩
  case stop =>
    rintro D c pre W _ _ h _
    exact h.elim

theorem sumOfV_any (B1 : Nat) (A : Option Addr) (len cap : Nat) (v : Nat → Int) (hlen : len ≤ 1048576) (w : World)
    (hB1 : B1 < w.heap.size) (ht : w.cell? ⟨B1, 0, none⟩ = some (.slice A len cap)) (hr : RdI w w.heap.size A len v) :
    Calls Try.prog 89 #[.func (.func 111) #[] #[.pointer (some ⟨B1, 0, none⟩)]] w fun e W' => e = .returned (.int .i64 (sumV (vlst v len))) ∧ Below w.heap.size w W' :=
  (callsIn_wide (n := 6)).1 (sumOfV_in Fence.wide 6 trivial trivial rfl (by omega) B1 A len cap v hlen w hB1 ht hr)

theorem sumV_tS {x : Nat → Int} {k : Nat} (hk : k ≤ 1000) (h : prE (fun i => betB 0 3 (x i)) k = true) : sumV (vlst x k) = tS x k - k := by
  induction k with
  | zero => rfl
  | succ k ih =>
    have h1 := prE_at h (show k < k + 1 by omega)
    have h0 : prE (fun i => betB 0 3 (x i)) k = true := by unfold prE at h; simp at h; exact h.1
    have h2 := tS_bd h0
    show sumV (vlst x k ++ [x k]) = _
    rw [sumV_snoc, ih (by omega) h0]
    simp [betB] at h1
    rw [IntWalk.wrap64_in _ (by omega)]
    show _ = tS x k + x k + 1 - _
    omega
end Go.Proofs.Ytafiikfaeomhpaa
