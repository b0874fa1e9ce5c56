/- The program's termPairs, and its iterator as a sequence of pairs (no claim of its own). Conditions: as each theorem states. -/
import Derived.Test.YtaghnjkpanjioaaPairC
namespace Go.Proofs.Ytaghnjkpanjioaa
open Go.ChangeShapes Go.WideShapes Go.ChangeAt Go.RowKit Go.Shelf

set_option maxHeartbeats 800000 in
theorem termPairs_any (A A' : Option Addr) (m m' cap cap' : Nat) (w : World) :
    Calls Try.prog 168 #[.slice A m cap, .slice A' m' cap'] w fun e w' => e = .returned (.func (.func 170) #[] #[.pointer (some ⟨w.heap.size, 0, none⟩), .pointer (some ⟨w.heap.size + 1, 0, none⟩)]) ∧
      Cel w' w.heap.size 0 (.slice A m cap) ∧ Cel w' (w.heap.size + 1) 0 (.slice A' m' cap') ∧ Below w.heap.size w w' := by
  go_enter Try.func168, Try.ntmps168
  go_wp2
  go_ret
  exact ⟨rfl, ⟨by go_simp, by go_simp⟩, ⟨by go_simp, by go_simp⟩, bl_alloc (bl_alloc (Below.refl _ _) _) _⟩

theorem pairs_seq (n : Nat) (hn : 1 ≤ n) (n₀ B1 : Nat) (c l c' l' : Nat → Int) (N N' : Nat) (hN : N ≤ 1048576) (hN' : N' ≤ 1048576) (hli : ∀ i, i < N → litB (l i) = true) (hli' : ∀ i, i < N' → litB (l' i) = true) (w : World)
    (hB : n₀ ≤ B1) (hBw : B1 + 1 < w.heap.size) (hv : Var w n₀ B1 c l 0 N) (hv' : Var w n₀ (B1 + 1) c' l' 0 N') :
    SeqTwo Fence.wide n Try.prog 170 #[.pointer (some ⟨B1, 0, none⟩), .pointer (some ⟨B1 + 1, 0, none⟩)] enc2 n₀ B1 (B1 + 1) (prs (lst c l 0 N) (lst c' l' 0 N')) w :=
  fun l1 J W hW hJ hY h0 => pairs_in Fence.wide n trivial trivial rfl hn l1 n₀ B1 c l c' l' N N' hN hN' hli hli'
    (fun A A' m m' cap cap' c l c' l' w h1 h2 h3 h4 h5 h6 => callsIn_wide.2 (first_any A A' m m' cap cap' c l c' l' w h1 h2 h3 h4 h5 h6)) J W hJ hY h0 hB
    (hv.same fun k hk => hW.block k (by omega)) (hv'.same fun k hk => hW.block k (by omega))
end Go.Proofs.Ytaghnjkpanjioaa
