/- Contracts of the program's SatisfiesAll (no claim of its own). Conditions: as each theorem states. -/
import Derived.Test.YtbebdhjhlheboaaSatP
namespace Go.Proofs.Ytbebdhjhlheboaa
open Go.ChangeShapes Go.WideShapes Go.ChangeAt Go.RowKit

set_option maxRecDepth 100000 in
set_option maxHeartbeats 1600000 in
theorem violated_any (Bv : Nat) (A Av : Option Addr) (n cap nv capv : Nat) (bd : Int) (c l : Nat → Int) (v : Nat → Bool) (w : World) (hn : n ≤ 1048576) (hr : Rd w w.heap.size A n c l) (hB : w.cell? ⟨Bv, 0, none⟩ = some (.slice Av nv capv)) (hrv : RdB w w.heap.size Av nv v) :
    Calls Try.prog 64 #[.agg #[.slice A n cap, .int .i64 bd], .pointer (some ⟨Bv, 0, none⟩)] w fun e w' => e = .returned (.bool (!evalV n c l bd nv v)) ∧ Below w.heap.size w w' := by
  have hz : Bv < w.heap.size := World.block_lt_of_cell? w ⟨Bv, 0, none⟩ hB
  go_enter Try.func64, Try.ntmps64
  go_wp2_with fail
  refine (implEval_any _ _ _ _ _ _ _ c l v _ hn (hr.later (bl_alloc (Below.refl _ _) _)) (hrv.later (bl_alloc (Below.refl _ _) _))).mono ?_
  rintro e w1 ⟨rfl, hb⟩
  have HB := Lib.hid (bl_trans (bl_alloc (Below.refl w.heap.size w) _) hb)
  clear hb
  go_wp2
  go_ret
  exact ⟨rfl, HB.out⟩

set_option maxRecDepth 100000 in
set_option maxHeartbeats 1600000 in
theorem indexVio_any (A : Option Addr) (n cap : Nat) (p : Nat → Con) (q : Nat → Bool) (Bv : Nat) (w : World) (hn : n ≤ 1048576) (hr : RdP w w.heap.size A n p)
    (hf : ∀ (k : Nat) (Ai : Option Addr) (ci : Nat) (X : World), k < n → Below w.heap.size w X → Rd X X.heap.size Ai (p k).n (p k).c (p k).l → Calls Try.prog 64 #[.agg #[.slice Ai (p k).n ci, .int .i64 (p k).bd], .pointer (some ⟨Bv, 0, none⟩)] X fun e X' => e = .returned (.bool (q k)) ∧ Below X.heap.size X X') :
    Calls Try.prog 98 #[.slice A n cap, .func (.func 64) #[] #[.pointer (some ⟨Bv, 0, none⟩)]] w fun e w' => ∃ m : Int, e = .returned (.int .i64 m) ∧ decide (0 ≤ m) = anyQ q n ∧ Below w.heap.size w w' := by
  go_enter Try.func98, Try.ntmps98
  go_wp2
  go_loopw [8] (fun i wr => ∃ k : Nat, k ≤ n ∧ i = .int .i64 k ∧ anyQ q k = false ∧ Below w.heap.size w wr) (fun i _ => n - (intOf i).toNat)
  case atStart => exact ⟨0, Nat.zero_le _, rfl, rfl, Below.refl _ _⟩
  case round =>
    obtain ⟨k, hk, rfl, hp, hb⟩ := hrel
    have Hp := Lib.hid hp
    clear hp
    by_cases hlt : k < n
    · obtain ⟨b, off, rfl, hbl, hc⟩ := (hr.below hb) (by omega)
      obtain ⟨Ai, ci, hc1, hc2, hrk⟩ := hc k hlt
      have Hcall := Lib.hid (hf k Ai ci wr hlt hb (hrk.more hb.size))
      clear hc hr hf hrk
      cases hq : q k with
      | true =>
        have Hfin := Lib.hid (show decide (0 ≤ (k : Int)) = anyQ q n from by rw [anyQ_of hlt hq]; simp)
        rw [hq] at Hcall
        have Hq := Lib.hid hq
        clear hq
        go_wp2_with fail
        refine Hcall.out.mono ?_
        rintro e w1 ⟨rfl, hb1⟩
        go_wp2
        go_ret
        exact ⟨_, rfl, Hfin.out, hb.trans (hb1.mono hb.size)⟩
      | false =>
        have Hno := Lib.hid (anyQ_step Hp.out hq)
        rw [hq] at Hcall
        clear hq
        go_wp2_with fail
        refine Hcall.out.mono ?_
        rintro e w1 ⟨rfl, hb1⟩
        go_wp2
        go_roundw
        case rel => exact ⟨k + 1, by omega, by go_num, Hno.out, hb.trans (hb1.mono hb.size)⟩
        case measure => simp [intOf]; omega
    · have e : k = n := by omega
      subst e
      go_wp2
      go_ret
      exact ⟨-1, rfl, by rw [Hp.out]; rfl, hb⟩

set_option maxRecDepth 100000 in
set_option maxHeartbeats 800000 in
theorem containsVio_any (A : Option Addr) (n cap : Nat) (p : Nat → Con) (q : Nat → Bool) (Bv : Nat) (w : World) (hn : n ≤ 1048576) (hr : RdP w w.heap.size A n p)
    (hf : ∀ (k : Nat) (Ai : Option Addr) (ci : Nat) (X : World), k < n → Below w.heap.size w X → Rd X X.heap.size Ai (p k).n (p k).c (p k).l → Calls Try.prog 64 #[.agg #[.slice Ai (p k).n ci, .int .i64 (p k).bd], .pointer (some ⟨Bv, 0, none⟩)] X fun e X' => e = .returned (.bool (q k)) ∧ Below X.heap.size X X') :
    Calls Try.prog 63 #[.slice A n cap, .func (.func 64) #[] #[.pointer (some ⟨Bv, 0, none⟩)]] w fun e w' => e = .returned (.bool (anyQ q n)) ∧ Below w.heap.size w w' := by
  have Hc := Lib.hid (indexVio_any A n cap p q Bv w hn hr hf)
  clear hf
  go_enter Try.func63, Try.ntmps63
  go_wp2_with fail
  refine Hc.out.mono ?_
  rintro e w1 ⟨m, rfl, hm, hb⟩
  have Hm := Lib.hid hm
  clear hm
  go_wp2
  go_ret
  exact ⟨ret_bool Hm.out, hb⟩

set_option maxRecDepth 100000 in
set_option maxHeartbeats 1600000 in
theorem implSat_any (A Av : Option Addr) (n cap nv capv : Nat) (p : Nat → Con) (v : Nat → Bool) (w : World) (hn : n ≤ 1048576) (hn' : ∀ i, i < n → (p i).n ≤ 1048576) (hnv : nv ≤ 1048576) (hr : RdP w w.heap.size A n p) (hrv : RdB w w.heap.size Av nv v) :
    Calls Try.prog 27 #[.slice A n cap, .slice Av nv capv] w fun e w' => e = .returned (.bool (satB n p nv v)) ∧ Below w.heap.size w w' := by
  have HN := Lib.hid hn'
  clear hn'
  cases hv : probB n p with
  | false =>
    have Hfin := Lib.hid (satB_inv (nv := nv) (v := v) hv)
    have Hv := Lib.hid hv
    clear hv
    go_enter Try.func27, Try.ntmps27
    go_wp2_with fail
    refine (implProblem_any _ _ _ p _ hn HN.out (hr.later (bl_alloc (Below.refl _ _) _))).mono ?_
    rintro e w1 ⟨rfl, hb⟩
    have HB1 := Lib.hid (bl_trans (bl_alloc (Below.refl w.heap.size w) _) hb)
    clear hb
    rw [Hv.out]
    go_wp2
    go_ret
    exact ⟨ret_bool Hfin.out.symm, HB1.out⟩
  | true =>
    by_cases h12 : nv = 12
    · subst h12
      have Hfin := Lib.hid (show satB n p 12 v = !anyQ (fun k => !evalV (p k).n (p k).c (p k).l (p k).bd 12 v) n from by rw [allE_not]; exact satB_yes hv)
      have Hv := Lib.hid hv
      clear hv
      go_enter Try.func27, Try.ntmps27
      go_wp2_with fail
      refine (implProblem_any _ _ _ p _ hn HN.out (hr.later (bl_alloc (Below.refl _ _) _))).mono ?_
      rintro e w1 ⟨rfl, hb⟩
      have HB1 := Lib.hid (bl_trans (bl_alloc (Below.refl w.heap.size w) _) hb)
      have b0 : w1.cell? ⟨w.heap.size, 0, none⟩ = some (.slice Av 12 capv) := kc hb (by go_simp)
      have B0 := Lib.hid b0
      clear hb
      rw [Hv.out]
      go_wp2_with fail
      refine (containsVio_any _ _ _ p (fun k => !evalV (p k).n (p k).c (p k).l (p k).bd 12 v) w.heap.size _ hn (hr.later HB1.out) (fun k Ai ci X hk hX hq => violated_any w.heap.size Ai Av (p k).n ci 12 capv (p k).bd (p k).c (p k).l v X (HN.out k hk) hq (kc hX B0.out) ((hrv.later HB1.out).later hX))).mono ?_
      generalize (anyQ (fun k => !evalV (p k).n (p k).c (p k).l (p k).bd 12 v) n) = Q at Hfin
      rintro e w2 ⟨rfl, hb⟩
      have HB2 := Lib.hid (bl_trans HB1.out hb)
      clear hb
      go_wp2
      go_ret
      exact ⟨ret_bool Hfin.out.symm, HB2.out⟩
    · have Hfin := Lib.hid (satB_len (n := n) (p := p) (v := v) h12)
      have hd : ((nv : Int) == 12) = false := by rw [beq_eq_false_iff_ne]; omega
      have Hv := Lib.hid hv
      clear hv h12
      go_enter Try.func27, Try.ntmps27
      go_wp2_with fail
      refine (implProblem_any _ _ _ p _ hn HN.out (hr.later (bl_alloc (Below.refl _ _) _))).mono ?_
      rintro e w1 ⟨rfl, hb⟩
      have HB1 := Lib.hid (bl_trans (bl_alloc (Below.refl w.heap.size w) _) hb)
      have b0 : w1.cell? ⟨w.heap.size, 0, none⟩ = some (.slice Av nv capv) := kc hb (by go_simp)
      clear hb
      rw [Hv.out]
      go_wp2
      go_ret
      exact ⟨ret_bool Hfin.out.symm, HB1.out⟩
end Go.Proofs.Ytbebdhjhlheboaa
