/- ModelValid: the program's side, allBetween (no claim of its own). Conditions: as each theorem states. -/
import Derived.Test.YtafiikfaeomhpaaMvsC
import Derived.Test.YtafiikfaeomhpaaProB
namespace Go.Proofs.Ytafiikfaeomhpaa
open Go.ChangeShapes Go.WideShapes Go.ChangeAt Go.RowKit

theorem anyQ_prE {e : Nat → Bool} (n : Nat) : anyQ (fun i => !e i) n = !prE e n := by
  induction n with
  | zero => rfl
  | succ n ih => unfold anyQ prE; rw [ih]; cases prE e n <;> cases e n <;> rfl

set_option maxRecDepth 100000 in
set_option maxHeartbeats 1600000 in
theorem indexBet_any (A : Option Addr) (n cap : Nat) (v : Nat → Int) (q : Nat → Bool) (P0 P1 : Nat) (w : World) (hn : n ≤ 1048576) (hr : RdI w w.heap.size A n v)
    (hf : ∀ (k : Nat) (X : World), k < n → Below w.heap.size w X → Calls Try.prog 107 #[.int .i64 (v k), .pointer (some ⟨P0, 0, none⟩), .pointer (some ⟨P1, 0, none⟩)] X fun e X' => e = .returned (.bool (q k)) ∧ Below X.heap.size X X') :
    Calls Try.prog 122 #[.slice A n cap, .func (.func 107) #[] #[.pointer (some ⟨P0, 0, none⟩), .pointer (some ⟨P1, 0, none⟩)]] w fun e w' => ∃ m : Int, e = .returned (.int .i64 m) ∧ decide (0 ≤ m) = anyQ q n ∧ Below w.heap.size w w' := by
  go_enter Try.func122, Try.ntmps122
  go_wp2
  go_loopw [8] (fun i wr => ∃ k : Nat, k ≤ n ∧ i = .int .i64 k ∧ anyQ q k = false ∧ Below w.heap.size w wr) (fun i _ => n - (intOf i).toNat)
  case atStart => exact ⟨0, Nat.zero_le _, rfl, rfl, Below.refl _ _⟩
  case round =>
    obtain ⟨k, hk, rfl, hp, hb⟩ := hrel
    have Hp := Lib.hid hp
    clear hp
    by_cases hlt : k < n
    · obtain ⟨b, off, rfl, hbl, hc⟩ := (hr.below hb) (by omega)
      have hc1 := hc k hlt
      have Hcall := Lib.hid (hf k wr hlt hb)
      clear hc hr hf
      cases hq : q k with
      | true =>
        have Hfin := Lib.hid (show decide (0 ≤ (k : Int)) = anyQ q n from by rw [anyQ_of hlt hq]; simp)
        rw [hq] at Hcall
        have Hq := Lib.hid hq
        clear hq
        go_wp2_with fail
        refine Hcall.out.mono ?_
        rintro e w1 ⟨rfl, hb1⟩
        go_wp2
        go_ret
        exact ⟨_, rfl, Hfin.out, hb.trans (hb1.mono hb.size)⟩
      | false =>
        have Hno := Lib.hid (anyQ_step Hp.out hq)
        rw [hq] at Hcall
        clear hq
        go_wp2_with fail
        refine Hcall.out.mono ?_
        rintro e w1 ⟨rfl, hb1⟩
        go_wp2
        go_roundw
        case rel => exact ⟨k + 1, by omega, by go_num, Hno.out, hb.trans (hb1.mono hb.size)⟩
        case measure => simp [intOf]; omega
    · have e : k = n := by omega
      subst e
      go_wp2
      go_ret
      exact ⟨-1, rfl, by rw [Hp.out]; rfl, hb⟩

set_option maxRecDepth 100000 in
set_option maxHeartbeats 800000 in
theorem containsBet_any (A : Option Addr) (n cap : Nat) (v : Nat → Int) (q : Nat → Bool) (P0 P1 : Nat) (w : World) (hn : n ≤ 1048576) (hr : RdI w w.heap.size A n v)
    (hf : ∀ (k : Nat) (X : World), k < n → Below w.heap.size w X → Calls Try.prog 107 #[.int .i64 (v k), .pointer (some ⟨P0, 0, none⟩), .pointer (some ⟨P1, 0, none⟩)] X fun e X' => e = .returned (.bool (q k)) ∧ Below X.heap.size X X') :
    Calls Try.prog 108 #[.slice A n cap, .func (.func 107) #[] #[.pointer (some ⟨P0, 0, none⟩), .pointer (some ⟨P1, 0, none⟩)]] w fun e w' => e = .returned (.bool (anyQ q n)) ∧ Below w.heap.size w w' := by
  have Hc := Lib.hid (indexBet_any A n cap v q P0 P1 w hn hr hf)
  clear hf
  go_enter Try.func108, Try.ntmps108
  go_wp2_with fail
  refine Hc.out.mono ?_
  rintro e w1 ⟨m, rfl, hm, hb⟩
  have Hm := Lib.hid hm
  clear hm
  go_wp2
  go_ret
  exact ⟨ret_bool Hm.out, hb⟩

set_option maxRecDepth 100000 in
set_option maxHeartbeats 1600000 in
theorem bet_any (X Y : Nat) (lo hi x : Int) (w : World) (h0 : w.cell? ⟨X, 0, none⟩ = some (.int .i64 lo)) (h1 : w.cell? ⟨Y, 0, none⟩ = some (.int .i64 hi)) :
    Calls Try.prog 107 #[.int .i64 x, .pointer (some ⟨X, 0, none⟩), .pointer (some ⟨Y, 0, none⟩)] w fun e w' => e = .returned (.bool (!betB lo hi x)) ∧ Below w.heap.size w w' := by
  by_cases q1 : x < lo
  · have Hd := Lib.hid (show (!betB lo hi x) = true from by simp [betB]; omega)
    go_enter Try.func107, Try.ntmps107
    go_wp2
    go_ret
    exact ⟨ret_bool Hd.out.symm, Below.refl _ _⟩
  · by_cases q2 : hi < x
    · have Hd := Lib.hid (show (!betB lo hi x) = true from by simp [betB]; omega)
      go_enter Try.func107, Try.ntmps107
      go_wp2
      go_ret
      exact ⟨ret_bool Hd.out.symm, Below.refl _ _⟩
    · have Hd := Lib.hid (show (!betB lo hi x) = false from by simp [betB]; omega)
      go_enter Try.func107, Try.ntmps107
      go_wp2
      go_ret
      exact ⟨ret_bool Hd.out.symm, Below.refl _ _⟩

set_option maxRecDepth 100000 in
set_option maxHeartbeats 1600000 in
theorem allBetween_any (l : Lst) (A : Option Addr) (cap : Nat) (lo hi : Int) (w : World) (hn : l.n ≤ 1048576) (hr : RdI w w.heap.size A l.n l.x) :
    Calls Try.prog 86 #[.slice A l.n cap, .int .i64 lo, .int .i64 hi] w fun e w' => e = .returned (.bool (prE (fun i => betB lo hi (l.x i)) l.n)) ∧ Below w.heap.size w w' := by
  have HR := Lib.hid hr
  clear hr
  go_enter Try.func86, Try.ntmps86
  go_wp2_with fail
  have a0 : ((w.alloc (.cells #[.int .i64 lo] 3)).alloc (.cells #[.int .i64 hi] 3)).cell? ⟨w.heap.size, 0, none⟩ = some (.int .i64 lo) := by go_simp
  have a1 : ((w.alloc (.cells #[.int .i64 lo] 3)).alloc (.cells #[.int .i64 hi] 3)).cell? ⟨w.heap.size + 1, 0, none⟩ = some (.int .i64 hi) := by go_simp
  have HB := Lib.hid (bl_alloc (bl_alloc (Below.refl w.heap.size w) (.cells #[.int .i64 lo] 3)) (.cells #[.int .i64 hi] 3))
  generalize ((w.alloc (.cells #[.int .i64 lo] 3)).alloc (.cells #[.int .i64 hi] 3)) = w1 at *
  refine (containsBet_any _ _ _ l.x (fun i => !betB lo hi (l.x i)) (w.heap.size) (w.heap.size + 1) _ hn (HR.out.later HB.out) (fun k X hk hb => bet_any _ _ lo hi _ X (kc hb a0) (kc hb a1))).mono ?_
  rintro e w2 ⟨rfl, hb⟩
  rw [anyQ_prE]
  have HB2 := Lib.hid (bl_trans HB.out hb)
  clear hb HB a0 a1
  cases hz : prE (fun i => betB lo hi (l.x i)) l.n with
  | false =>
    have Hz := Lib.hid hz
    clear hz
    go_wp2
    go_ret
    exact ⟨ret_bool (by first | exact Hz.out.symm | rfl), HB2.out⟩
  | true =>
    have Hz := Lib.hid hz
    clear hz
    go_wp2
    go_ret
    exact ⟨ret_bool (by first | exact Hz.out.symm | rfl), HB2.out⟩
end Go.Proofs.Ytafiikfaeomhpaa
