/- ModelSame: lists of ints compared (no claim of its own). Conditions: as each theorem states. -/
import Derived.Test.YthjcbaccoogloaaMdlE
namespace Go.Proofs.Ythjcbaccoogloaa
open Go.ChangeShapes Go.WideShapes Go.ChangeAt Go.RowKit

/-- The first k are true. -/
def prE (e : Nat → Bool) : Nat → Bool
  | 0 => true
  | k + 1 => prE e k && e k
theorem prE_no {e : Nat → Bool} {n k : Nat} (hk : k < n) (h : e k = false) : prE e n = false := by
  induction n with
  | zero => omega
  | succ n ih =>
    unfold prE
    by_cases q : k = n
    · subst q; rw [h]; simp
    · rw [ih (by omega)]; rfl
theorem prE_yes {e : Nat → Bool} {k : Nat} (h0 : prE e k = true) (h : e k = true) : prE e (k + 1) = true := by
  unfold prE; rw [h0, h]; rfl

/-- Two lists are equal. -/
def lsE (l l' : Lst) : Bool := l.n == l'.n && prE (fun i => l.x i == l'.x i) l.n
def rwE (n : Nat) (r : Nat → Lst) (n' : Nat) (r' : Nat → Lst) : Bool := n == n' && prE (fun i => lsE (r i) (r' i)) n
/-- Two rules are equal. -/
def ruE (q q' : Rul) : Bool := q.k == q'.k && (q.bd == q'.bd && (lsE q.v q'.v && (lsE q.c q'.c && rwE q.n q.r q'.n q'.r)))
/-- Two models are equal. -/
def mdE (s s' : Lst) (n : Nat) (q : Nat → Rul) (n' : Nat) (q' : Nat → Rul) : Bool := lsE s s' && (n == n' && prE (fun i => ruE (q i) (q' i)) n)

section
set_option maxRecDepth 100000
set_option maxHeartbeats 1600000
theorem l6Ints_any (l l' : Lst) (A A' : Option Addr) (cap cap' : Nat) (w : World) (hn : l.n ≤ 1048576) (hn' : l'.n ≤ 1048576) (hr : RdI w w.heap.size A l.n l.x) (hr' : RdI w w.heap.size A' l'.n l'.x) :
    Calls Try.prog 94 #[.slice A l.n cap, .slice A' l'.n cap'] w fun e w' => e = .returned (.bool (lsE l l')) ∧ Below w.heap.size w w' := by
  obtain ⟨n, x⟩ := l
  obtain ⟨n', x'⟩ := l'
  simp only at hn hn' hr hr' ⊢
  by_cases h : n = n'
  · subst h
    have Hd := Lib.hid (show lsE ⟨n, x⟩ ⟨n, x'⟩ = prE (fun i => x i == x' i) n from by simp [lsE])
    go_enter Try.func94, Try.ntmps94
    go_wp2
    go_loopw [5] (fun i wr => ∃ k : Nat, k ≤ n ∧ i = .int .i64 k ∧ prE (fun i => x i == x' i) k = true ∧ Below w.heap.size w wr) (fun i _ => n - (intOf i).toNat)
    case atStart => exact ⟨0, Nat.zero_le _, rfl, rfl, Below.refl _ _⟩
    case round =>
      obtain ⟨k, hk, rfl, hp, hb⟩ := hrel
      have Hp := Lib.hid hp
      clear hp
      by_cases hlt : k < n
      · obtain ⟨b, off, rfl, hbl, hc⟩ := (hr.below hb) (by omega)
        obtain ⟨b', off', rfl, hbl', hc'⟩ := (hr'.below hb) (by omega)
        have hc1 := hc k hlt
        have hc2 := hc' k hlt
        clear hc hc' hr hr'
        have hlt' : (k : Int) < (n : Int) := by omega
        have hk0 : (0 : Int) ≤ (k : Int) := by omega
        by_cases he : x k = x' k
        · have Hy := Lib.hid (prE_yes (e := fun i => x i == x' i) Hp.out (by simpa using he))
          go_wp2_with fail
          go_quiet (fail)
          go_wp2
          go_roundw
          case rel => exact ⟨k + 1, by omega, by go_num, Hy.out, bl_drewN hb _⟩
          case measure => simp [intOf]; omega
        · have Hno := Lib.hid (prE_no (e := fun i => x i == x' i) hlt (by simpa using he))
          go_wp2_with fail
          go_quiet (fail)
          go_wp2
          go_ret
          exact ⟨ret_bool (by rw [Hd.out, Hno.out]), bl_drewN hb _⟩
      · have e : k = n := by omega
        subst e
        go_wp2
        go_ret
        exact ⟨ret_bool (by rw [Hd.out, Hp.out]), hb⟩
  · have Hd := Lib.hid (show lsE ⟨n, x⟩ ⟨n', x'⟩ = false from by simp [lsE, h])
    have hd : ((n : Int) != (n' : Int)) = true := by rw [bne_iff_ne]; omega
    go_enter Try.func94, Try.ntmps94
    go_wp2
    go_ret
    exact ⟨ret_bool Hd.out.symm, Below.refl _ _⟩

theorem sliceEq_any (l l' : Lst) (A A' : Option Addr) (cap cap' : Nat) (w : World) (hn : l.n ≤ 1048576) (hn' : l'.n ≤ 1048576) (hr : RdI w w.heap.size A l.n l.x) (hr' : RdI w w.heap.size A' l'.n l'.x) :
    Calls Try.prog 174 #[.slice A l.n cap, .slice A' l'.n cap'] w fun e w' => e = .returned (.bool (lsE l l')) ∧ Below w.heap.size w w' := by
  obtain ⟨n, x⟩ := l
  obtain ⟨n', x'⟩ := l'
  simp only at hn hn' hr hr' ⊢
  by_cases h : n = n'
  · subst h
    have Hd := Lib.hid (show lsE ⟨n, x⟩ ⟨n, x'⟩ = prE (fun i => x i == x' i) n from by simp [lsE])
    go_enter Try.func174, Try.ntmps174
    go_wp2
    go_loopw [13, 5] (fun i _ wr => ∃ k : Nat, k ≤ n ∧ i = .int .i64 k ∧ prE (fun i => x i == x' i) k = true ∧ Below w.heap.size w wr) (fun i _ _ => n - (intOf i).toNat)
    case atStart => exact ⟨0, Nat.zero_le _, rfl, rfl, Below.refl _ _⟩
    case round =>
      obtain ⟨k, hk, rfl, hp, hb⟩ := hrel
      have Hp := Lib.hid hp
      clear hp
      by_cases hlt : k < n
      · obtain ⟨b, off, rfl, hbl, hc⟩ := (hr.below hb) (by omega)
        obtain ⟨b', off', rfl, hbl', hc'⟩ := (hr'.below hb) (by omega)
        have hc1 := hc k hlt
        have hc2 := hc' k hlt
        clear hc hc' hr hr'
        have hlt' : (k : Int) < (n : Int) := by omega
        have hk0 : (0 : Int) ≤ (k : Int) := by omega
        by_cases he : x k = x' k
        · have Hy := Lib.hid (prE_yes (e := fun i => x i == x' i) Hp.out (by simpa using he))
          go_wp2_with fail
          go_quiet (fail)
          go_wp2
          go_roundw
          case rel => exact ⟨k + 1, by omega, by go_num, Hy.out, bl_drewN hb _⟩
          case measure => simp [intOf]; omega
        · have Hno := Lib.hid (prE_no (e := fun i => x i == x' i) hlt (by simpa using he))
          go_wp2_with fail
          go_quiet (fail)
          go_wp2
          go_ret
          exact ⟨ret_bool (by rw [Hd.out, Hno.out]), bl_drewN hb _⟩
      · have e : k = n := by omega
        subst e
        go_wp2
        go_ret
        exact ⟨ret_bool (by rw [Hd.out, Hp.out]), hb⟩
  · have Hd := Lib.hid (show lsE ⟨n, x⟩ ⟨n', x'⟩ = false from by simp [lsE, h])
    have hd : ((n : Int) != (n' : Int)) = true := by rw [bne_iff_ne]; omega
    go_enter Try.func174, Try.ntmps174
    go_wp2
    go_ret
    exact ⟨ret_bool Hd.out.symm, Below.refl _ _⟩
end
end Go.Proofs.Ythjcbaccoogloaa
