/- Contracts of the helpers over rules of models of the exact laws (no claim of its own). Conditions: as each theorem states. -/
import Derived.Test.YtafiikfaeomhpaaMdlA
namespace Go.Proofs.Ytafiikfaeomhpaa
open Go.ChangeShapes Go.WideShapes Go.ChangeAt Go.RowKit

/-- What a rule says. -/
structure Rul where
  k : Int
  v : Lst
  c : Lst
  bd : Int
  n : Nat
  r : Nat → Lst
/-- How many elements its lists have. -/
def Rul.sz (q : Rul) : Nat := q.v.n + q.c.n + (q.n + totL q.r q.n)
/-- Each of its lists has at most m elements. -/
def Rul.fit (m : Nat) (q : Rul) : Prop := q.v.n ≤ m ∧ q.c.n ≤ m ∧ q.n ≤ m ∧ ∀ i, i < q.n → (q.r i).n ≤ m
theorem Rul.fit_of {q : Rul} {m : Nat} (h : q.sz ≤ m) : q.fit m := by
  unfold Rul.sz at h
  exact ⟨by omega, by omega, by omega, fun i hi => by have := totL_at q.r hi; omega⟩

set_option maxRecDepth 100000 in
set_option maxHeartbeats 800000 in
theorem szRule_any (q : Rul) (Av Ac Ar : Option Addr) (cv cc cr : Nat) (left : Int) (w : World) (h0 : 0 ≤ left) (h1 : left ≤ 1048576) (hm : q.fit maxLen) (hr : RdL w w.heap.size Ar q.n q.r) :
    Calls Try.prog 75 #[.agg #[.int .i64 q.k, .slice Av q.v.n cv, .slice Ac q.c.n cc, .int .i64 q.bd, .slice Ar q.n cr], .int .i64 left] w fun e w' => e = .returned (.int .i64 (szO left q.sz)) ∧ Below w.heap.size w w' := by
  obtain ⟨k, ⟨vn, v⟩, ⟨cn, c⟩, bd, n, r⟩ := q
  obtain ⟨m1, m2, m3, m4⟩ := hm
  have hsz : (Rul.mk k ⟨vn, v⟩ ⟨cn, c⟩ bd n r).sz = vn + cn + (n + totL r n) := rfl
  rw [hsz]
  simp only at m1 m2 m3 m4 hr ⊢
  have M4 := Lib.hid m4
  have HR := Lib.hid hr
  clear m4 hr hsz
  have HA := Lib.hid (bl_alloc (Below.refl w.heap.size w))
  by_cases q1 : (vn : Int) ≤ left
  · have E1 := Lib.hid (szO_yes q1)
    have g1 : ¬ (left - vn < 0) := by omega
    by_cases q2 : (cn : Int) ≤ left - vn
    · have E2 := Lib.hid (szO_yes q2)
      have g2 : ¬ (left - vn - cn < 0) := by omega
      by_cases q3 : ((n + totL r n : Nat) : Int) ≤ left - vn - cn
      · have E3 := Lib.hid (szO_yes q3)
        have g3 : ¬ (left - vn - cn - ((n + totL r n : Nat) : Int) < 0) := by omega
        have EF := Lib.hid (szO_yes (left := left) (s := vn + cn + (n + totL r n)) (by omega))
        go_enter Try.func75, Try.ntmps75
        go_wp2_with (first | (go_at_call 37; refine (szIntS_any _ _ _ _ _ (by omega) (by omega) (by with_reducible first | exact m1 | exact m2)).mono ?_; rintro e w' ⟨rfl, rfl⟩; first | rw [E1.out] | rw [E2.out]) | (go_at_call 100; refine (szIntSS_any _ _ _ r _ _ (by omega) (by omega) m3 M4.out (HR.out.later (HA.out _))).mono ?_; rintro e w' ⟨rfl, hb1⟩; rw [E3.out]))
        go_ret
        exact ⟨ret_int (by rw [EF.out]; omega), bl_trans (HA.out _) hb1⟩
      · have E3 := Lib.hid (szO_no (left := left - vn - cn) (s := n + totL r n) (by omega))
        have EF := Lib.hid (szO_no (left := left) (s := vn + cn + (n + totL r n)) (by omega))
        go_enter Try.func75, Try.ntmps75
        go_wp2_with (first | (go_at_call 37; refine (szIntS_any _ _ _ _ _ (by omega) (by omega) (by with_reducible first | exact m1 | exact m2)).mono ?_; rintro e w' ⟨rfl, rfl⟩; first | rw [E1.out] | rw [E2.out]) | (go_at_call 100; refine (szIntSS_any _ _ _ r _ _ (by omega) (by omega) m3 M4.out (HR.out.later (HA.out _))).mono ?_; rintro e w' ⟨rfl, hb1⟩; rw [E3.out]))
        go_ret
        exact ⟨ret_int EF.out.symm, bl_trans (HA.out _) hb1⟩
    · have E2 := Lib.hid (szO_no (left := left - vn) (s := cn) (by omega))
      have EF := Lib.hid (szO_no (left := left) (s := vn + cn + (n + totL r n)) (by omega))
      go_enter Try.func75, Try.ntmps75
      go_wp2_with ((go_at_call 37; refine (szIntS_any _ _ _ _ _ (by omega) (by omega) (by with_reducible first | exact m1 | exact m2)).mono ?_; rintro e w' ⟨rfl, rfl⟩; first | rw [E1.out] | rw [E2.out]))
      go_ret
      exact ⟨ret_int EF.out.symm, HA.out _⟩
  · have E1 := Lib.hid (szO_no (left := left) (s := vn) (by omega))
    have EF := Lib.hid (szO_no (left := left) (s := vn + cn + (n + totL r n)) (by omega))
    go_enter Try.func75, Try.ntmps75
    go_wp2_with ((go_at_call 37; refine (szIntS_any _ _ _ _ _ (by omega) (by omega) (by with_reducible first | exact m1 | exact m2)).mono ?_; rintro e w' ⟨rfl, rfl⟩; rw [E1.out]))
    go_ret
    exact ⟨ret_int EF.out.symm, HA.out _⟩
end Go.Proofs.Ytafiikfaeomhpaa
