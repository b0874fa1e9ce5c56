/- Contracts of the program's sums by an iterator, with every literal chosen (no claim of its own). Conditions: as each theorem states. -/
import Derived.Test.YtbebdhjhlheboaaDoorComA
import Derived.RangeFuncNested
import Derived.RangeFuncBound
import Derived.RangeFuncCalls
import Derived.RangeFuncLeaves
import Derived.RangeFuncFrom
import Derived.Shelf.Abstract
import Derived.Shelf.RegionOpen
import Derived.OwnWalkIn
import Derived.TacticsInMore
import Derived.LoopNIn
import Derived.LoopIn
namespace Go.Proofs.YtbebdhjhlheboaaDoor
open Go.ChangeShapes Go.WideShapes Go.ChangeAt Go.RowKit Go.Shelf

attribute [local go_sem] Oper.semAt_some

/-- The coefficients of those of the first k terms whose literals are chosen, in order. -/
def sel (c lt : Nat → Int) (p : Int → Bool) : Nat → List Int
  | 0 => []
  | k + 1 => if p (lt k) then sel c lt p k ++ [c k] else sel c lt p k
theorem sel_length (c lt : Nat → Int) (p : Int → Bool) (k : Nat) : (sel c lt p k).length ≤ k := by
  induction k with
  | zero => exact Nat.le_refl _
  | succ k ih =>
    unfold sel
    split
    · simp
      omega
    · omega
theorem sel_prefix (c lt : Nat → Int) (p : Int → Bool) {k n : Nat} (h : k ≤ n) : sel c lt p k <+: sel c lt p n := by
  induction n with
  | zero =>
    have : k = 0 := by omega
    subst this; exact List.prefix_refl _
  | succ n ih =>
    by_cases e : k = n + 1
    · subst e; exact List.prefix_refl _
    · refine (ih (by omega)).trans ?_
      show sel c lt p n <+: (if p (lt n) then sel c lt p n ++ [c n] else sel c lt p n)
      split
      · exact ⟨[c n], rfl⟩
      · exact List.prefix_refl _
theorem sel_yes {c lt : Nat → Int} {p : Int → Bool} {k : Nat} (h : p (lt k) = true) : sel c lt p (k + 1) = sel c lt p k ++ [c k] := by
  show (if p (lt k) then _ else _) = _
  rw [if_pos h]
theorem sel_no {c lt : Nat → Int} {p : Int → Bool} {k : Nat} (h : p (lt k) = false) : sel c lt p (k + 1) = sel c lt p k := by
  show (if p (lt k) then _ else _) = _
  rw [if_neg (by rw [h]; decide)]

theorem abides_drew {β : Type} {B : Nat} {J : β → World → Prop} (h : AbidesFrom B J) {s : β} {W : World} (m : Nat) (hs : J s W) : J s (W.drewN m) :=
  h s W _ none hs ⟨rfl, rfl, rfl, Nat.le_refl _, fun _ _ _ => rfl⟩ (fun _ e => by cases e)
theorem abides_alloc {β : Type} {B : Nat} {J : β → World → Prop} (h : AbidesFrom B J) {s : β} {W : World} (o : Obj) (hs : J s W) : J s (W.alloc o) :=
  h s W _ none hs (World.grownBy_alloc W o none) (fun _ e => by cases e)

set_option maxRecDepth 100000 in
set_option maxHeartbeats 1000000 in
theorem coefs1_in (F : Fence) (n : Nat) (h58 : F.fn 68) (hro : F.round = none) (hn : 1 ≤ n) (l B1 n₀ : Nat) (A : Option Addr) (len cap : Nat) (c lt : Nat → Int) (hlen : len ≤ 1048576) (J Jx : List Int → World → Prop)
    (g : Nat) (lb : Array Value) (p : Int → Bool) (hFg : F.fn g) (eg : ∀ args w, (callFunc g args).run Tryd.prog w = .ok (.enter g args) w)
    (hY : ∀ pre x W, J pre W → pre.length < len → YieldAt F (n - 1) Tryd.prog l #[.int .i64 x] W fun e W' =>
      (e = .returned (.bool true) ∧ J (pre ++ [x]) W' ∧ Below n₀ W W') ∨ (e = .returned (.bool false) ∧ Jx (pre ++ [x]) W'))
    (W : World) (hCh : ∀ (k : Nat) (X : World), k < len → Below n₀ W X → CallsIn F (n - 1) Tryd.prog g (#[.int .i64 (lt k)] ++ lb) X fun e X' => e = .returned (.bool (p (lt k))) ∧ ∃ m, X' = X.drewN m)
    (hn0 : n₀ ≤ W.heap.size) (hJ : AbidesFrom W.heap.size J) (hB1 : B1 + 1 < n₀) (ht : W.cell? ⟨B1, 0, none⟩ = some (.slice A len cap)) (hc : W.cell? ⟨B1 + 1, 0, none⟩ = some (.func (.func g) #[] lb))
    (hr : Rd W n₀ A len c lt) (h0 : J [] W) :
    CallsIn F n Tryd.prog 68 #[.func (.yield l) #[] #[], .pointer (some ⟨B1, 0, none⟩), .pointer (some ⟨B1 + 1, 0, none⟩)] W fun e W' => (∃ v, e = .returned v) ∧
      ((∃ ys, ys = sel c lt p len ∧ J ys W') ∨ (∃ pre, pre <+: sel c lt p len ∧ Jx pre W')) := by
  refine callsIn_of_wp Tryd.func68 rfl h58 ?_ hro
  simp only [Tryd.ntmps68, List.size_toArray, List.length_cons, List.length_nil, Nat.reduceAdd, Nat.reduceSub, Array.replicate_succ, Array.replicate_zero, List.push_toArray, List.append_toArray, List.nil_append, List.cons_append]
  gi_wp2
  gi_loopw [8] (fun i wr => ∃ k : Nat, k ≤ len ∧ i = .int .i64 k ∧ J (sel c lt p k) wr ∧ Below n₀ W wr) (fun i _ => len - (intOf i).toNat)
  case atStart => exact ⟨0, Nat.zero_le _, rfl, h0, Below.refl _ _⟩
  case round =>
    obtain ⟨k, hk, rfl, hJs, hb⟩ := hrel
    by_cases hlt : k < len
    · obtain ⟨b, off, rfl, hbl, hcs⟩ := (hr.below hb) (by omega)
      obtain ⟨hc1, hc2⟩ := hcs k hlt
      have hch := (hb.cell (p := ⟨B1 + 1, 0, none⟩) (by show B1 + 1 < n₀; omega)).trans hc
      have hzw : n₀ ≤ wr.heap.size := Nat.le_trans hn0 hb.size
      have hzb : b < wr.heap.size := by omega
      have hzc : B1 + 1 < wr.heap.size := by omega
      have hcall := Lib.hid (hCh k (wr.alloc (.cells #[.int .i64 (c k), .int .i64 (lt k)] 60)) hlt (hb.alloc hzw _))
      clear hcs hc hr hCh
      cases hp : p (lt k) with
      | true =>
        rw [hp] at hcall
        have hp' := Lib.hid hp
        have hll : (sel c lt p k).length < len := by have := sel_length c lt p k; omega
        clear hp
        gi_wp2_with fail
        refine hcall.out.mono ?_
        rintro e w' ⟨rfl, m, rfl⟩
        obtain ⟨fn, tmps, assign, body, hy, hR⟩ := hY (sel c lt p k) (c k) ((wr.alloc (.cells #[.int .i64 (c k), .int .i64 (lt k)] 60)).drewN m) (abides_drew hJ m (abides_alloc hJ _ hJs)) hll
        gi_wp2
        refine hR.mono ?_
        rintro e W3 (⟨rfl, hJ3, hk3⟩ | ⟨rfl, hJx3⟩)
        · gi_wp2
          go_roundw
          case rel => exact ⟨k + 1, by omega, by go_num, by rw [sel_yes hp'.out]; exact hJ3, (bl_drewN (hb.alloc hzw _) m).trans hk3⟩
          case measure => simp [intOf]; omega
        · gi_wp2
          refine bodyPost_ret (results_none rfl _ _ _) rfl ?_
          exact ⟨⟨_, rfl⟩, .inr ⟨_, by rw [← sel_yes hp'.out]; exact sel_prefix c lt p hlt, hJx3⟩⟩
      | false =>
        rw [hp] at hcall
        have hp' := Lib.hid hp
        clear hp hY
        gi_wp2_with fail
        refine hcall.out.mono ?_
        rintro e w' ⟨rfl, m, rfl⟩
        gi_wp2
        refine ⟨fun _ h => (by cases h), ?_⟩
        gi_wp2
        go_roundw
        case rel => exact ⟨k + 1, by omega, by go_num, by rw [sel_no hp'.out]; exact abides_drew hJ m (abides_alloc hJ _ hJs), bl_drewN (hb.alloc hzw _) m⟩
        case measure => simp [intOf]; omega
    · have e : k = len := by omega
      subst e
      gi_wp2
      go_end0
      exact ⟨⟨_, rfl⟩, .inl ⟨_, rfl, hJs⟩⟩
end Go.Proofs.YtbebdhjhlheboaaDoor
