/- Contracts of the model's NormalForm (no claim of its own). Conditions: as each theorem states. -/
import Derived.Test.YtkahehfcedcpaaaNormC
namespace Go.Proofs.Ytkahehfcedcpaaa
open Go.ChangeShapes Go.WideShapes Go.ChangeAt Go.RowKit

/-- What NormalForm answers. -/
def nfR (n : Nat) (c l : Nat → Int) : List (Int × Int) := rowsN (net c l n) 12
def nfb (n : Nat) (c l : Nat → Int) (bd : Int) : Int := bndN (net c l n) (nbd c l bd n) 12
def nfB (n : Nat) (c l : Nat → Int) (bd : Int) : Bool := preB n c l bd && fitB (nfR n c l) (nfb n c l bd)
def nfN (n : Nat) (c l : Nat → Int) (bd : Int) : Nat := if preB n c l bd then fitN (nfR n c l) (nfb n c l bd) else 0
def nfD (n : Nat) (c l : Nat → Int) (bd : Int) : Int := if preB n c l bd then fitD (nfR n c l) (nfb n c l bd) else 0
def NfRes (w : World) (n : Nat) (c l : Nat → Int) (bd : Int) : Ending → World → Prop := CRes w (nfN n c l bd) (rC (nfR n c l)) (rL (nfR n c l)) (nfD n c l bd) (nfB n c l bd)
theorem nfRes_no {w w' : World} {n : Nat} {c l : Nat → Int} {bd : Int} (h : preB n c l bd = false) (hb : Below w.heap.size w w') :
    NfRes w n c l bd (.returned (.tuple #[.agg #[.slice none 0 0, .int .i64 0], .bool false])) w' := by
  unfold NfRes nfN nfD nfB
  rw [h, if_neg (by decide), if_neg (by decide), Bool.false_and]
  exact ⟨none, 0, rfl, .inl rfl, hb⟩
theorem nfRes_yes {w w' : World} {n : Nat} {c l : Nat → Int} {bd : Int} {e : Ending} (h : preB n c l bd = true)
    (hc : CRes w (fitN (nfR n c l) (nfb n c l bd)) (rC (nfR n c l)) (rL (nfR n c l)) (fitD (nfR n c l) (nfb n c l bd)) (fitB (nfR n c l) (nfb n c l bd)) e w') : NfRes w n c l bd e w' := by
  unfold NfRes nfN nfD nfB
  rw [h, if_pos rfl, if_pos rfl, Bool.true_and]
  exact hc

theorem l1Normal_nf (G n : Nat) (c l : Nat → Int) (bd : Int) (w : World) (hG : OwnI w G 13 (net c l n)) :
    Calls Try.prog 41 #[.slice (some ⟨G, 0, none⟩) 13 13, .int .i64 (nbd c l bd n)] w (CRes w (fitN (nfR n c l) (nfb n c l bd)) (rC (nfR n c l)) (rL (nfR n c l)) (fitD (nfR n c l) (nfb n c l bd)) (fitB (nfR n c l) (nfb n c l bd))) := by
  unfold nfR nfb
  exact l1Normal_walk G _ _ w hG

set_option maxRecDepth 100000 in
set_option maxHeartbeats 800000 in
theorem specNorm_out (A : Option Addr) (n cap : Nat) (bd : Int) (c l : Nat → Int) (w : World) (hn : n ≤ 1048576) (h : 40 < n ∨ bd < -20000 ∨ 20000 < bd) :
    Calls Try.prog 18 #[.slice A n cap, .int .i64 bd] w (NfRes w n c l bd) := by
  have No := Lib.hid (preB_out (c := c) (l := l) h)
  have key : 40 < n ∨ (¬ 40 < n ∧ bd < -20000) ∨ (¬ 40 < n ∧ ¬ bd < -20000 ∧ 20000 < bd) := by omega
  clear h
  rcases key with h | ⟨h1, h⟩ | ⟨h1, h2, h⟩
  all_goals
    go_enter Try.func18, Try.ntmps18
    go_wp2
    refine bodyPost_ret (v := .tuple #[.agg #[.slice none 0 0, .int .i64 0], .bool false]) (by simp [results, Try.results18, go_sem]) rfl ?_
    refine nfRes_no No.out ?_
    exact bl_alloc (Below.refl _ _) _

set_option maxRecDepth 100000 in
set_option maxHeartbeats 1600000 in
theorem specNorm_in (A : Option Addr) (n cap : Nat) (bd : Int) (c l : Nat → Int) (w : World) (hn : n ≤ 1048576) (hr : Rd w w.heap.size A n c l) (h1 : n ≤ 40) (h2 : -20000 ≤ bd) (h3 : bd ≤ 20000) :
    Calls Try.prog 18 #[.slice A n cap, .int .i64 bd] w (NfRes w n c l bd) := by
  go_enter Try.func18, Try.ntmps18
  go_wp2
  go_loopw [6] (fun i wr => ∃ k : Nat, k ≤ n ∧ i = .int .i64 k ∧ allN c l k = true ∧ wr.cell? ⟨w.heap.size, 0, none⟩ = some (.slice none 0 0) ∧ wr.cell? ⟨w.heap.size, 1, none⟩ = some (.int .i64 0) ∧ wr.frozen? ⟨w.heap.size, 0, none⟩ = false ∧ wr.frozen? ⟨w.heap.size, 1, none⟩ = false ∧ Below w.heap.size w wr) (fun i _ => n - (intOf i).toNat)
  case atStart => exact ⟨0, Nat.zero_le _, rfl, rfl, by go_simp, by go_simp, by go_simp, by go_simp, bl_alloc (Below.refl _ _) _⟩
  case round =>
    obtain ⟨k, hk, rfl, hv, r0, r1, f0, f1, hb⟩ := hrel
    have Hv := Lib.hid hv
    have hq : w.heap.size < wr.heap.size := World.block_lt_of_cell? wr ⟨w.heap.size, 0, none⟩ r0
    clear hv
    by_cases hlt : k < n
    · obtain ⟨b, off, rfl, hbl, hc⟩ := (hr.below hb) (by omega)
      obtain ⟨hc1, hc2⟩ := hc k hlt
      clear hc hr
      have hlt' : (k : Int) < (n : Int) := by omega
      have hk0 : (0 : Int) ≤ (k : Int) := by omega
      cases hL : litB (l k) with
      | false =>
        have No := Lib.hid (preB_no (bd := bd) (okN_nf (c := c) (.inl hL)) hlt)
        go_wp2_with (go_at_call 35; refine (l1Lit_any _ _).mono ?_; rintro e w' ⟨rfl, rfl⟩)
        refine bodyPost_ret (v := .tuple #[.agg #[.slice none 0 0, .int .i64 0], .bool false]) (by simp [results, Try.results18, go_sem, r0, r1]) rfl ?_
        refine nfRes_no No.out ?_
        exact (hb.setCell (by simp) _).setCell (by simp) _
      | true =>
        by_cases hC : c k < -1000 ∨ 1000 < c k
        · have No := Lib.hid (preB_no (bd := bd) (okN_nf (c := c) (l := l) (.inr hC)) hlt)
          have key : c k < -1000 ∨ (¬ c k < -1000 ∧ 1000 < c k) := by omega
          clear hC
          rcases key with h | ⟨h, h'⟩
          all_goals
            go_wp2_with (go_at_call 35; refine (l1Lit_any _ _).mono ?_; rintro e w' ⟨rfl, rfl⟩)
            refine bodyPost_ret (v := .tuple #[.agg #[.slice none 0 0, .int .i64 0], .bool false]) (by simp [results, Try.results18, go_sem, r0, r1]) rfl ?_
            refine nfRes_no No.out ?_
            exact (hb.setCell (by simp) _).setCell (by simp) _
        · have Hgo := Lib.hid (allN_succ Hv.out (okN_iff.2 ⟨hL, by omega, by omega⟩))
          have q1 : ¬ c k < -1000 := by omega
          have q2 : ¬ 1000 < c k := by omega
          clear hC
          go_wp2_with (go_at_call 35; refine (l1Lit_any _ _).mono ?_; rintro e w' ⟨rfl, rfl⟩)
          go_roundw
          case rel => exact ⟨k + 1, by omega, by go_num, Hgo.out, by go_simp, by go_simp, by go_simp, by go_simp, hb⟩
          case measure => simp [intOf]; omega
    · have e : k = n := by omega
      subst e
      have Hb := Lib.hid hb
      have Yes := Lib.hid (preB_in Hv.out h1 h2 h3)
      have hpre : Rd wr wr.heap.size A k c l := (hr.below hb).more hb.size
      clear hr hb
      go_wp2_with fail
      refine (l1Net_any _ _ _ _ c l _ hn hpre Hv.out).mono ?_
      rintro e w1 ⟨G, rfl, hG, hown, hb⟩
      have HB1 := Lib.hid (bl_trans Hb.out hb)
      replace r0 := kc hb r0
      replace r1 := kc hb r1
      replace f0 := kf hb hq f0
      replace f1 := kf hb hq f1
      have hq1 : w.heap.size < w1.heap.size := World.block_lt_of_cell? w1 ⟨w.heap.size, 0, none⟩ r0
      clear hb hpre
      go_wp2_with fail
      refine (l1Normal_nf G k c l bd _ hown).mono ?_
      rintro e w2 ⟨A2, cap2, rfl, hF, hb⟩
      have HB2 := Lib.hid (bl_trans HB1.out hb)
      replace r0 := kc hb r0
      replace r1 := kc hb r1
      replace f0 := kf hb hq1 f0
      replace f1 := kf hb hq1 f1
      have HF := Lib.hid (hF.more (B' := w.heap.size + 1) (by omega))
      clear hF hb
      go_wp2
      refine bodyPost_ret (v := .tuple #[.agg #[.slice A2 (fitN (nfR k c l) (nfb k c l bd)) cap2, .int .i64 (fitD (nfR k c l) (nfb k c l bd))], .bool (fitB (nfR k c l) (nfb k c l bd))]) (by simp [results, Try.results18, go_sem, r0, r1]) rfl ?_
      refine nfRes_yes Yes.out ?_
      exact ⟨_, _, rfl, ((HF.out.far (by simp) (by simp) _).far (by simp) (by simp) _).more (by omega), (HB2.out.setCell (by simp) _).setCell (by simp) _⟩

theorem specNorm_any (A : Option Addr) (n cap : Nat) (bd : Int) (c l : Nat → Int) (w : World) (hn : n ≤ 1048576) (hr : Rd w w.heap.size A n c l) :
    Calls Try.prog 18 #[.slice A n cap, .int .i64 bd] w (NfRes w n c l bd) := by
  by_cases h : 40 < n ∨ bd < -20000 ∨ 20000 < bd
  · exact specNorm_out A n cap bd c l w hn h
  · exact specNorm_in A n cap bd c l w hn hr (by omega) (by omega) (by omega)
end Go.Proofs.Ytkahehfcedcpaaa
