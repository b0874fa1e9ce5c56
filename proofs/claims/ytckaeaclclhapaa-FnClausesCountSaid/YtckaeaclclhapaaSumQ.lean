/- Contracts of the program's sums by an iterator, the literals chosen by a bound method that makes memory (no claim of its own). Conditions: as each theorem states. -/
import Derived.Test.YtckaeaclclhapaaSumD
namespace Go.Proofs.Ytckaeaclclhapaa
open Go.ChangeShapes Go.WideShapes Go.ChangeAt Go.RowKit Go.Shelf

attribute [local go_sem] Oper.semAt_some

theorem abides_below {β : Type} {B : Nat} {J : β → World → Prop} (h : AbidesFrom B J) {s : β} {W W' : World} (hs : J s W) (hb : Below W.heap.size W W') : J s W' :=
  h s W _ none hs ⟨hb.os, hb.tape, hb.output, hb.size, fun k hk _ => hb.block k hk⟩ (fun _ e => by cases e)

set_option maxRecDepth 100000 in
set_option maxHeartbeats 1000000 in
theorem coefsQ1_in (F : Fence) (n : Nat) (h58 : F.fn 44) (hro : F.round = none) (hn : 1 ≤ n) (l B1 n₀ : Nat) (A : Option Addr) (len cap : Nat) (c lt : Nat → Int) (hlen : len ≤ 1048576) (J Jx : List Int → World → Prop)
    (g : Nat) (V : Value) (p : Int → Bool) (hFg : F.fn g) (eg : ∀ args w, (callFunc g args).run Try.prog w = .ok (.enter g args) w)
    (hY : ∀ pre x W, J pre W → pre.length < len → YieldAt F (n - 1) Try.prog l #[.int .i64 x] W fun e W' =>
      (e = .returned (.bool true) ∧ J (pre ++ [x]) W' ∧ Below n₀ W W') ∨ (e = .returned (.bool false) ∧ Jx (pre ++ [x]) W'))
    (W : World) (hCh : ∀ (k : Nat) (X : World), k < len → Below n₀ W X → CallsIn F (n - 1) Try.prog g #[V, .int .i64 (lt k)] X fun e X' => e = .returned (.bool (p (lt k))) ∧ Below X.heap.size X X')
    (hn0 : n₀ ≤ W.heap.size) (hJ : AbidesFrom W.heap.size J) (hB1 : B1 + 1 < n₀) (ht : W.cell? ⟨B1, 0, none⟩ = some (.slice A len cap)) (hc : W.cell? ⟨B1 + 1, 0, none⟩ = some (.func (.func g) #[V] #[]))
    (hr : Rd W n₀ A len c lt) (h0 : J [] W) :
    CallsIn F n Try.prog 44 #[.func (.yield l) #[] #[], .pointer (some ⟨B1, 0, none⟩), .pointer (some ⟨B1 + 1, 0, none⟩)] W fun e W' => (∃ v, e = .returned v) ∧
      ((∃ ys, ys = sel c lt p len ∧ J ys W') ∨ (∃ pre, pre <+: sel c lt p len ∧ Jx pre W')) := by
  refine callsIn_of_wp Try.func44 rfl h58 ?_ hro
  simp only [Try.ntmps44, List.size_toArray, List.length_cons, List.length_nil, Nat.reduceAdd, Nat.reduceSub, Array.replicate_succ, Array.replicate_zero, List.push_toArray, List.append_toArray, List.nil_append, List.cons_append]
  gi_wp2
  gi_loopw [8] (fun i wr => ∃ k : Nat, k ≤ len ∧ i = .int .i64 k ∧ J (sel c lt p k) wr ∧ Below n₀ W wr) (fun i _ => len - (intOf i).toNat)
  case atStart => exact ⟨0, Nat.zero_le _, rfl, h0, Below.refl _ _⟩
  case round =>
    obtain ⟨k, hk, rfl, hJs, hb⟩ := hrel
    by_cases hlt : k < len
    · obtain ⟨b, off, rfl, hbl, hcs⟩ := (hr.below hb) (by omega)
      obtain ⟨hc1, hc2⟩ := hcs k hlt
      have hch := (hb.cell (p := ⟨B1 + 1, 0, none⟩) (by show B1 + 1 < n₀; omega)).trans hc
      have hzw : n₀ ≤ wr.heap.size := Nat.le_trans hn0 hb.size
      have hzb : b < wr.heap.size := by omega
      have hzc : B1 + 1 < wr.heap.size := by omega
      have hcall := Lib.hid (hCh k (wr.alloc (.cells #[.int .i64 (c k), .int .i64 (lt k)] 56)) hlt (hb.alloc hzw _))
      clear hcs hc hr hCh
      cases hp : p (lt k) with
      | true =>
        rw [hp] at hcall
        have hp' := Lib.hid hp
        have hll : (sel c lt p k).length < len := by have := sel_length c lt p k; omega
        clear hp
        gi_wp2_with fail
        refine hcall.out.mono ?_
        rintro e w' ⟨rfl, hbw⟩
        have u0 : w'.cell? ⟨wr.heap.size, 0, none⟩ = some (.int .i64 (c k)) := kc hbw (by go_simp)
        have u1 : w'.cell? ⟨wr.heap.size, 1, none⟩ = some (.int .i64 (lt k)) := kc hbw (by go_simp)
        have Hbw := Lib.hid hbw
        clear hbw
        obtain ⟨fn, tmps, assign, body, hy, hR⟩ := hY (sel c lt p k) (c k) w' (abides_below hJ (abides_alloc hJ _ hJs) Hbw.out) hll
        gi_wp2
        refine hR.mono ?_
        rintro e W3 (⟨rfl, hJ3, hk3⟩ | ⟨rfl, hJx3⟩)
        · gi_wp2
          go_roundw
          case rel => exact ⟨k + 1, by omega, by go_num, by rw [sel_yes hp'.out]; exact hJ3, ((hb.alloc hzw _).trans (Hbw.out.mono (by simp; omega))).trans hk3⟩
          case measure => simp [intOf]; omega
        · gi_wp2
          refine bodyPost_ret (results_none rfl _ _ _) rfl ?_
          exact ⟨⟨_, rfl⟩, .inr ⟨_, by rw [← sel_yes hp'.out]; exact sel_prefix c lt p hlt, hJx3⟩⟩
      | false =>
        rw [hp] at hcall
        have hp' := Lib.hid hp
        clear hp hY
        gi_wp2_with fail
        refine hcall.out.mono ?_
        rintro e w' ⟨rfl, hbw⟩
        have u0 : w'.cell? ⟨wr.heap.size, 0, none⟩ = some (.int .i64 (c k)) := kc hbw (by go_simp)
        have u1 : w'.cell? ⟨wr.heap.size, 1, none⟩ = some (.int .i64 (lt k)) := kc hbw (by go_simp)
        have Hbw := Lib.hid hbw
        clear hbw
        gi_wp2
        refine ⟨fun _ h => (by cases h), ?_⟩
        gi_wp2
        go_roundw
        case rel => exact ⟨k + 1, by omega, by go_num, by rw [sel_no hp'.out]; exact abides_below hJ (abides_alloc hJ _ hJs) Hbw.out, (hb.alloc hzw _).trans (Hbw.out.mono (by simp; omega))⟩
        case measure => simp [intOf]; omega
    · have e : k = len := by omega
      subst e
      gi_wp2
      go_end0
      exact ⟨⟨_, rfl⟩, .inl ⟨_, rfl, hJs⟩⟩
theorem coefsQ_stops (F : Fence) (n : Nat) (h58 : F.fn 44) (hro : F.round = none) (hn : 1 ≤ n) (B1 n₀ : Nat) (A : Option Addr) (len cap : Nat) (c lt : Nat → Int) (hlen : len ≤ 1048576)
    (g : Nat) (V : Value) (p : Int → Bool) (hFg : F.fn g) (eg : ∀ args w, (callFunc g args).run Try.prog w = .ok (.enter g args) w) (w : World)
    (hCh : ∀ (k : Nat) (X : World), k < len → Below n₀ w X → CallsIn F (n - 1) Try.prog g #[V, .int .i64 (lt k)] X fun e X' => e = .returned (.bool (p (lt k))) ∧ Below X.heap.size X X')
    (hn0 : n₀ ≤ w.heap.size) (hB1 : B1 + 1 < n₀) (ht : w.cell? ⟨B1, 0, none⟩ = some (.slice A len cap)) (hc : w.cell? ⟨B1 + 1, 0, none⟩ = some (.func (.func g) #[V] #[])) (hr : Rd w n₀ A len c lt) :
    SeqStopsK F n Try.prog 44 #[.pointer (some ⟨B1, 0, none⟩), .pointer (some ⟨B1 + 1, 0, none⟩)] (fun x : Int => #[Value.int .i64 x]) (Below n₀) (fun ys => ys = sel c lt p len) (fun pre => pre <+: sel c lt p len) len w :=
  fun l J Jx W hW hJ _ hY h0 =>
    have hW0 : Below n₀ w W := hW.mono hn0
    coefsQ1_in F n h58 hro hn l B1 n₀ A len cap c lt hlen J Jx g V p hFg eg hY W (fun k X hk hX => hCh k X hk (hW0.trans hX)) (Nat.le_trans hn0 hW.size) hJ hB1
      ((hW0.cell (p := ⟨B1, 0, none⟩) (by show B1 < n₀; omega)).trans ht) ((hW0.cell (p := ⟨B1 + 1, 0, none⟩) (by show B1 + 1 < n₀; omega)).trans hc) (hr.below hW0) h0

set_option maxRecDepth 100000 in
set_option maxHeartbeats 2000000 in
theorem sumOfQ_in (F : Fence) (n : Nat) (h50 : F.fn 28) (h58 : F.fn 44) (hro : F.round = none) (hn : 3 ≤ n) (B1 : Nat) (A : Option Addr) (len cap : Nat) (c lt : Nat → Int) (hlen : len ≤ 1048576)
    (g : Nat) (V : Value) (p : Int → Bool) (hFg : F.fn g) (eg : ∀ args w, (callFunc g args).run Try.prog w = .ok (.enter g args) w) (w : World)
    (hCh : ∀ (k : Nat) (X : World), k < len → Below w.heap.size w X → CallsIn F (n - 1 - 1) Try.prog g #[V, .int .i64 (lt k)] X fun e X' => e = .returned (.bool (p (lt k))) ∧ Below X.heap.size X X')
    (hB1 : B1 + 1 < w.heap.size) (ht : w.cell? ⟨B1, 0, none⟩ = some (.slice A len cap)) (hc : w.cell? ⟨B1 + 1, 0, none⟩ = some (.func (.func g) #[V] #[])) (hr : Rd w w.heap.size A len c lt) :
    CallsIn F n Try.prog 28 #[.func (.func 44) #[] #[.pointer (some ⟨B1, 0, none⟩), .pointer (some ⟨B1 + 1, 0, none⟩)]] w fun e W' => e = .returned (.int .i64 (sumW (sel c lt p len))) ∧ Below w.heap.size w W' := by
  have h1 : 1 ≤ n := by omega
  have hseq := coefsQ_stops F (n - 1) h58 hro (by omega) B1 w.heap.size A len cap c lt hlen g V p hFg eg w hCh (Nat.le_refl _) hB1 ht hc hr
  clear hCh ht hc hr eg
  have Hseq := Lib.hid hseq
  clear hseq
  refine callsIn_of_wp_marks Try.func28 rfl h50 ?_ hro
  simp only [Try.ntmps28, List.size_toArray, List.length_cons, List.length_nil, Nat.reduceAdd, Nat.reduceSub, Array.replicate_succ, Array.replicate_zero, List.push_toArray, List.append_toArray, List.nil_append, List.cons_append]
  gi_wp2
  have hs := cell_new_s w (.int .i64 0) 3
  have hB0 : Below w.heap.size w (w.alloc (.cells #[.int .i64 0] 3)) := (Below.refl _ w).alloc (Nat.le_refl _) _
  refine wpIn_rangeFunc_ownF hro h1 (gf := 44) (lb := #[.pointer (some ⟨B1, 0, none⟩), .pointer (some ⟨B1 + 1, 0, none⟩)]) rfl h58 (enters_of Try.func44 (by kernel_rfl) rfl)
    Hseq.out belowK_t (belowK_b (by simp)) hB0 (fun _ => rfl)
    (fun pre W => (W.cell? ⟨w.heap.size, 0, none⟩ = some (.int .i64 (sumW pre)) ∧ W.frozen? ⟨w.heap.size, 0, none⟩ = false) ∧ Below w.heap.size w W)
    (fun _ _ _ => False)
    (OwnFrom.and (Own.from (fun s A B row hs hg hr => ⟨cell_kept hs.1 hg hr, (frozen_kept hs.1 hg hr).trans hs.2⟩) _) (ownFrom_below (Nat.le_refl _) (by simp)))
    (fun _ _ _ _ _ hs _ _ => hs)
    ⟨hs, hB0⟩
    (fun x => { tmps := #[.func (.func 44) #[] #[.pointer (some ⟨B1, 0, none⟩), .pointer (some ⟨B1 + 1, 0, none⟩)], undef, .int .i64 0, .pointer (some ⟨w.heap.size, 0, none⟩), .int .i64 x, .func (.func 44) #[] #[.pointer (some ⟨B1, 0, none⟩), .pointer (some ⟨B1 + 1, 0, none⟩)], .int .i64 x, undef, undef, undef, undef], defers := [] }) ?assign ?body ?done ?stop
  case assign =>
    intro l x W K hK
    gi_wp2
    exact hK
  case body =>
    rintro l pre x W ⟨⟨hc, hf⟩, hB⟩ _
    gi_wp2
    exact ⟨KeepsOthers.setCell _ _ _, (Below.refl w.heap.size W).setCell (p := ⟨w.heap.size, 0, none⟩) (Nat.le_refl _) _, ⟨by rw [sumW_snoc]; exact World.cell?_setCell_same' _ _ _ (by rw [hc]; rfl), by rw [World.frozen?_setCell]; exact hf⟩, hB.setCell (p := ⟨w.heap.size, 0, none⟩) (Nat.le_refl _) _⟩
  case done =>
    rintro D ys W hD rfl ⟨⟨hc, _⟩, hB⟩ hK
    gi_wp2
    refine ⟨by simp, .inl ⟨_, _, rfl, run_takeDeferred hK, ?_⟩⟩
    exact ⟨_, results_tmp rfl _ _ _, rfl, hB.trans (belowK_b (w := w) (Nat.le_refl _) W D _ _ (by simp at hD; omega) hK rfl rfl)⟩
  case stop =>
    rintro D c pre W _ _ h _
    exact h.elim

set_option maxHeartbeats 1000000 in
theorem coefsWhereQ_any (A : Option Addr) (len cap g : Nat) (V : Value) (w : World) :
    Calls Try.prog 29 #[.slice A len cap, .func (.func g) #[V] #[]] w fun e w' => e = .returned (.func (.func 44) #[] #[.pointer (some ⟨w.heap.size, 0, none⟩), .pointer (some ⟨w.heap.size + 1, 0, none⟩)]) ∧
      w'.cell? ⟨w.heap.size, 0, none⟩ = some (.slice A len cap) ∧ w'.cell? ⟨w.heap.size + 1, 0, none⟩ = some (.func (.func g) #[V] #[]) ∧ w.heap.size + 1 < w'.heap.size ∧ Below w.heap.size w w' := by
  go_enter Try.func29, Try.ntmps29
  go_wp2
  go_ret
  exact ⟨rfl, by go_simp, by go_simp, by simp, bl_alloc (bl_alloc (Below.refl _ _) _) _⟩

end Go.Proofs.Ytckaeaclclhapaa
