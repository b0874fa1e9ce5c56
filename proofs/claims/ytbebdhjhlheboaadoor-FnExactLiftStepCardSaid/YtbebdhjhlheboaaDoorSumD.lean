/- Contracts of the program's sum over an iterator of coefficients (no claim of its own). Conditions: as each theorem states. -/
import Derived.Test.YtbebdhjhlheboaaDoorSumA
namespace Go.Proofs.YtbebdhjhlheboaaDoor
open Go.ChangeShapes Go.WideShapes Go.ChangeAt Go.RowKit Go.Shelf

attribute [local go_sem] Oper.semAt_some

theorem cell_of_s {W : World} {B : Nat} {v : Value} {t : TypeId} (h : W.heap[B]? = some (.cells #[v] t (0, 0))) : W.cell? ⟨B, 0, none⟩ = some v ∧ W.frozen? ⟨B, 0, none⟩ = false := by
  constructor <;> simp [World.cell?, World.frozen?, h]
theorem cell_new_s (W : World) (v : Value) (t : TypeId) : (W.alloc (.cells #[v] t)).cell? ⟨W.heap.size, 0, none⟩ = some v ∧ (W.alloc (.cells #[v] t)).frozen? ⟨W.heap.size, 0, none⟩ = false :=
  cell_of_s (World.alloc_heap_new W _)

/-- The sum, as Go computes it. -/
def sumW : List Int → Int := List.foldl (fun s v => wrap64 (s + v)) 0
theorem sumW_snoc (pre : List Int) (x : Int) : sumW (pre ++ [x]) = wrap64 (sumW pre + x) := by simp [sumW]

theorem coefs_stops (F : Fence) (n : Nat) (h58 : F.fn 68) (hro : F.round = none) (hn : 1 ≤ n) (B1 n₀ : Nat) (A : Option Addr) (len cap : Nat) (c lt : Nat → Int) (hlen : len ≤ 1048576)
    (g : Nat) (lb : Array Value) (p : Int → Bool) (hFg : F.fn g) (eg : ∀ args w, (callFunc g args).run Tryd.prog w = .ok (.enter g args) w) (w : World)
    (hCh : ∀ (k : Nat) (X : World), k < len → Below n₀ w X → CallsIn F (n - 1) Tryd.prog g (#[.int .i64 (lt k)] ++ lb) X fun e X' => e = .returned (.bool (p (lt k))) ∧ ∃ m, X' = X.drewN m)
    (hn0 : n₀ ≤ w.heap.size) (hB1 : B1 + 1 < n₀) (ht : w.cell? ⟨B1, 0, none⟩ = some (.slice A len cap)) (hc : w.cell? ⟨B1 + 1, 0, none⟩ = some (.func (.func g) #[] lb)) (hr : Rd w n₀ A len c lt) :
    SeqStopsK F n Tryd.prog 68 #[.pointer (some ⟨B1, 0, none⟩), .pointer (some ⟨B1 + 1, 0, none⟩)] (fun x : Int => #[Value.int .i64 x]) (Below n₀) (fun ys => ys = sel c lt p len) (fun pre => pre <+: sel c lt p len) len w :=
  fun l J Jx W hW hJ _ hY h0 =>
    have hW0 : Below n₀ w W := hW.mono hn0
    coefs1_in F n h58 hro hn l B1 n₀ A len cap c lt hlen J Jx g lb p hFg eg hY W (fun k X hk hX => hCh k X hk (hW0.trans hX)) (Nat.le_trans hn0 hW.size) hJ hB1
      ((hW0.cell (p := ⟨B1, 0, none⟩) (by show B1 < n₀; omega)).trans ht) ((hW0.cell (p := ⟨B1 + 1, 0, none⟩) (by show B1 + 1 < n₀; omega)).trans hc) (hr.below hW0) h0

set_option maxRecDepth 100000 in
set_option maxHeartbeats 2000000 in
theorem sumOf_in (F : Fence) (n : Nat) (h50 : F.fn 46) (h58 : F.fn 68) (hro : F.round = none) (hn : 3 ≤ n) (B1 : Nat) (A : Option Addr) (len cap : Nat) (c lt : Nat → Int) (hlen : len ≤ 1048576)
    (g : Nat) (lb : Array Value) (p : Int → Bool) (hFg : F.fn g) (eg : ∀ args w, (callFunc g args).run Tryd.prog w = .ok (.enter g args) w) (w : World)
    (hCh : ∀ (k : Nat) (X : World), k < len → Below w.heap.size w X → CallsIn F (n - 1 - 1) Tryd.prog g (#[.int .i64 (lt k)] ++ lb) X fun e X' => e = .returned (.bool (p (lt k))) ∧ ∃ m, X' = X.drewN m)
    (hB1 : B1 + 1 < w.heap.size) (ht : w.cell? ⟨B1, 0, none⟩ = some (.slice A len cap)) (hc : w.cell? ⟨B1 + 1, 0, none⟩ = some (.func (.func g) #[] lb)) (hr : Rd w w.heap.size A len c lt) :
    CallsIn F n Tryd.prog 46 #[.func (.func 68) #[] #[.pointer (some ⟨B1, 0, none⟩), .pointer (some ⟨B1 + 1, 0, none⟩)]] w fun e W' => e = .returned (.int .i64 (sumW (sel c lt p len))) ∧ Below w.heap.size w W' := by
  have h1 : 1 ≤ n := by omega
  have hseq := coefs_stops F (n - 1) h58 hro (by omega) B1 w.heap.size A len cap c lt hlen g lb p hFg eg w hCh (Nat.le_refl _) hB1 ht hc hr
  clear hCh ht hc hr eg
  have Hseq := Lib.hid hseq
  clear hseq
  refine callsIn_of_wp_marks Tryd.func46 rfl h50 ?_ hro
  simp only [Tryd.ntmps46, List.size_toArray, List.length_cons, List.length_nil, Nat.reduceAdd, Nat.reduceSub, Array.replicate_succ, Array.replicate_zero, List.push_toArray, List.append_toArray, List.nil_append, List.cons_append]
  gi_wp2
  have hs := cell_new_s w (.int .i64 0) 3
  have hB0 : Below w.heap.size w (w.alloc (.cells #[.int .i64 0] 3)) := (Below.refl _ w).alloc (Nat.le_refl _) _
  refine wpIn_rangeFunc_ownF hro h1 (gf := 68) (lb := #[.pointer (some ⟨B1, 0, none⟩), .pointer (some ⟨B1 + 1, 0, none⟩)]) rfl h58 (enters_of Tryd.func68 (by kernel_rfl) rfl)
    Hseq.out belowK_t (belowK_b (by simp)) hB0 (fun _ => rfl)
    (fun pre W => (W.cell? ⟨w.heap.size, 0, none⟩ = some (.int .i64 (sumW pre)) ∧ W.frozen? ⟨w.heap.size, 0, none⟩ = false) ∧ Below w.heap.size w W)
    (fun _ _ _ => False)
    (OwnFrom.and (Own.from (fun s A B row hs hg hr => ⟨cell_kept hs.1 hg hr, (frozen_kept hs.1 hg hr).trans hs.2⟩) _) (ownFrom_below (Nat.le_refl _) (by simp)))
    (fun _ _ _ _ _ hs _ _ => hs)
    ⟨hs, hB0⟩
    (fun x => { tmps := #[.func (.func 68) #[] #[.pointer (some ⟨B1, 0, none⟩), .pointer (some ⟨B1 + 1, 0, none⟩)], undef, .int .i64 0, .pointer (some ⟨w.heap.size, 0, none⟩), .int .i64 x, .func (.func 68) #[] #[.pointer (some ⟨B1, 0, none⟩), .pointer (some ⟨B1 + 1, 0, none⟩)], .int .i64 x, undef, undef, undef, undef], defers := [] }) ?assign ?body ?done ?stop
  case assign =>
    intro l x W K hK
    gi_wp2
    exact hK
  case body =>
    rintro l pre x W ⟨⟨hc, hf⟩, hB⟩ _
    gi_wp2
    exact ⟨KeepsOthers.setCell _ _ _, (Below.refl w.heap.size W).setCell (p := ⟨w.heap.size, 0, none⟩) (Nat.le_refl _) _, ⟨by rw [sumW_snoc]; exact World.cell?_setCell_same' _ _ _ (by rw [hc]; rfl), by rw [World.frozen?_setCell]; exact hf⟩, hB.setCell (p := ⟨w.heap.size, 0, none⟩) (Nat.le_refl _) _⟩
  case done =>
    rintro D ys W hD rfl ⟨⟨hc, _⟩, hB⟩ hK
    gi_wp2
    refine ⟨by simp, .inl ⟨_, _, rfl, run_takeDeferred hK, ?_⟩⟩
    exact ⟨_, results_tmp rfl _ _ _, rfl, hB.trans (belowK_b (w := w) (Nat.le_refl _) W D _ _ (by simp at hD; omega) hK rfl rfl)⟩
  case stop =>
    rintro D c pre W _ _ h _
    exact h.elim

set_option maxHeartbeats 1000000 in
theorem coefsWhere_any (A : Option Addr) (len cap g : Nat) (lb : Array Value) (w : World) :
    Calls Tryd.prog 47 #[.slice A len cap, .func (.func g) #[] lb] w fun e w' => e = .returned (.func (.func 68) #[] #[.pointer (some ⟨w.heap.size, 0, none⟩), .pointer (some ⟨w.heap.size + 1, 0, none⟩)]) ∧
      w'.cell? ⟨w.heap.size, 0, none⟩ = some (.slice A len cap) ∧ w'.cell? ⟨w.heap.size + 1, 0, none⟩ = some (.func (.func g) #[] lb) ∧ w.heap.size + 1 < w'.heap.size ∧ Below w.heap.size w w' := by
  go_enter Tryd.func47, Tryd.ntmps47
  go_wp2
  go_ret
  exact ⟨rfl, by go_simp, by go_simp, by simp, bl_alloc (bl_alloc (Below.refl _ _) _) _⟩

/-- The sum of all coefficients. -/
def totW (c lt : Nat → Int) (n : Nat) : Int := sumW (sel c lt (fun _ => true) n)

set_option maxRecDepth 100000 in
set_option maxHeartbeats 1000000 in
theorem l1Total_any (A : Option Addr) (n cap : Nat) (bd : Int) (c l : Nat → Int) (w : World) (hn : n ≤ 1048576) (hr : Rd w w.heap.size A n c l) :
    Calls Tryd.prog 65 #[.agg #[.slice A n cap, .int .i64 bd]] w fun e w' => e = .returned (.int .i64 (totW c l n)) ∧ Below w.heap.size w w' := by
  go_enter Tryd.func65, Tryd.ntmps65
  go_wp2
  go_loop [3, 4] (fun t i => ∃ k : Nat, k ≤ n ∧ i = .int .i64 k ∧ t = .int .i64 (totW c l k)) (fun _ i => n - (intOf i).toNat)
  case atStart => exact ⟨0, Nat.zero_le _, rfl, rfl⟩
  case round =>
    obtain ⟨k, hk, rfl, rfl⟩ := hrel
    by_cases hlt : k < n
    · obtain ⟨b, off, rfl, hbl, hc⟩ := hr (by omega)
      obtain ⟨hc1, hc2⟩ := hc k hlt
      have hs : totW c l (k + 1) = wrap64 (totW c l k + c k) := by
        unfold totW
        rw [sel_yes rfl, sumW_snoc]
      have Hs := Lib.hid hs
      clear hc hr hs
      go_wp2
      go_round
      case rel => exact ⟨k + 1, by omega, by go_num, by rw [Hs.out]⟩
      case measure => simp [intOf]; omega
    · have e : k = n := by omega
      subst e
      go_wp2
      go_ret
      exact ⟨rfl, bl_alloc (Below.refl _ _) _⟩

/-- What TotalCoef answers. -/
def totV (n : Nat) (c l : Nat → Int) (bd : Int) : Int := if validB n c l bd then totW c l n else 0
end Go.Proofs.YtbebdhjhlheboaaDoor
