/- ProofSame: the program's side (no claim of its own). Conditions: as each theorem states. -/
import Derived.Test.YtafiikfaeomhpaaStpA
import Derived.Test.YtafiikfaeomhpaaSmeB
namespace Go.Proofs.Ytafiikfaeomhpaa
open Go.ChangeShapes Go.WideShapes Go.ChangeAt Go.RowKit

theorem st_ne8 {n m : Nat} (h : n ≠ m) : ((n : Int) != (m : Int)) = true := by
  rw [bne_iff_ne]
  omega
/-- All of the first n. -/
def allT (e : Nat → Bool) : Nat → Bool
  | 0 => true
  | k + 1 => allT e k && e k
theorem allT_no {e : Nat → Bool} {n k : Nat} (hk : k < n) (h : e k = false) : allT e n = false := by
  induction n with
  | zero => omega
  | succ n ih =>
    unfold allT
    by_cases e1 : k = n
    · subst e1; rw [h]; simp
    · rw [ih (by omega)]; rfl
theorem allT_yes {e : Nat → Bool} {k : Nat} (h0 : allT e k = true) (h : e k = true) : allT e (k + 1) = true := by
  unfold allT
  rw [h0, h]
  rfl
/-- Equal steps; equal proofs. -/
def sst (p q : Stp) : Bool := p.k == q.k && (p.a == q.a && (p.b == q.b && same p.c.n q.c.n p.c.c p.c.l q.c.c q.c.l p.c.bd q.c.bd))
def psB (n m : Nat) (p q : Nat → Stp) : Bool := n == m && allT (fun i => sst (p i) (q i)) n

set_option linter.unusedVariables false in
set_option linter.unusedSimpArgs false in
set_option maxRecDepth 100000 in
set_option maxHeartbeats 3200000 in
theorem sameStep_any (A A' : Option Addr) (cap cap' : Nat) (p q : Stp) (w : World) (hn : p.c.n ≤ 1048576) (hr : Rd w w.heap.size A p.c.n p.c.c p.c.l) (hr' : Rd w w.heap.size A' q.c.n q.c.c q.c.l) :
    Calls Try.prog 73 #[.agg #[.int .i64 p.k, .int .i64 p.a, .int .i64 p.b, .slice A p.c.n cap, .int .i64 p.c.bd], .agg #[.int .i64 q.k, .int .i64 q.a, .int .i64 q.b, .slice A' q.c.n cap', .int .i64 q.c.bd]] w fun e w' => e = .returned (.bool (sst p q)) ∧ Below w.heap.size w w' := by
  obtain ⟨k, a, b, ⟨n, bd, c, l⟩⟩ := p
  obtain ⟨k', a', b', ⟨n', bd', c', l'⟩⟩ := q
  simp only at hn hr hr' ⊢
  have Hd := Lib.hid (show sst ⟨k, a, b, ⟨n, bd, c, l⟩⟩ ⟨k', a', b', ⟨n', bd', c', l'⟩⟩ = (k == k' && (a == a' && (b == b' && same n n' c l c' l' bd bd'))) from rfl)
  have HB := Lib.hid (bl_alloc (bl_alloc (Below.refl w.heap.size w) (.cells #[.int .i64 k, .int .i64 a, .int .i64 b, .slice A n cap, .int .i64 bd] 103)) (.cells #[.int .i64 k', .int .i64 a', .int .i64 b', .slice A' n' cap', .int .i64 bd'] 103))
  have HR := Lib.hid (hr.later HB.out)
  have HR' := Lib.hid (hr'.later HB.out)
  clear hr hr'
  by_cases h1 : k = k'
  · subst h1
    by_cases h2 : a = a'
    · subst h2
      by_cases h3 : b = b'
      · subst h3
        have Hs := Lib.hid (show ∀ z, same n n' c l c' l' bd bd' = z → sst ⟨k, a, b, ⟨n, bd, c, l⟩⟩ ⟨k, a, b, ⟨n', bd', c', l'⟩⟩ = z from fun z hz => Hd.out.trans (by rw [hz]; simp))
        go_enter Try.func73, Try.ntmps73
        go_wp2_with fail
        refine (implSame_any A A' n n' cap cap' bd bd' c l c' l' _ hn HR.out HR'.out).mono ?_
        rintro e w' ⟨rfl, hb⟩
        have HB2 := Lib.hid (bl_trans HB.out hb)
        clear hb
        obtain ⟨z, hz⟩ : ∃ z, same n n' c l c' l' bd bd' = z := ⟨_, rfl⟩
        have HZ := Lib.hid (Hs.out z hz)
        rw [hz]
        clear hz
        go_wp2
        go_ret
        exact ⟨ret_bool (by rw [HZ.out]), HB2.out⟩
      · have Hs := Lib.hid (show sst ⟨k, a, b, ⟨n, bd, c, l⟩⟩ ⟨k, a, b', ⟨n', bd', c', l'⟩⟩ = false from Hd.out.trans (by simp [h3]))
        have hbb : (b == b') = false := by rw [beq_eq_false_iff_ne]; exact h3
        clear h3
        go_enter Try.func73, Try.ntmps73
        go_wp2
        go_ret
        exact ⟨ret_bool (by rw [Hs.out]), HB.out⟩
    · have Hs := Lib.hid (show sst ⟨k, a, b, ⟨n, bd, c, l⟩⟩ ⟨k, a', b', ⟨n', bd', c', l'⟩⟩ = false from Hd.out.trans (by simp [h2]))
      have hbb : (a == a') = false := by rw [beq_eq_false_iff_ne]; exact h2
      clear h2
      go_enter Try.func73, Try.ntmps73
      go_wp2
      go_ret
      exact ⟨ret_bool (by rw [Hs.out]), HB.out⟩
  · have Hs := Lib.hid (show sst ⟨k, a, b, ⟨n, bd, c, l⟩⟩ ⟨k', a', b', ⟨n', bd', c', l'⟩⟩ = false from Hd.out.trans (by simp [h1]))
    have hbb : (k == k') = false := by rw [beq_eq_false_iff_ne]; exact h1
    clear h1
    go_enter Try.func73, Try.ntmps73
    go_wp2
    go_ret
    exact ⟨ret_bool (by rw [Hs.out]), HB.out⟩

set_option linter.unusedVariables false in
set_option linter.unusedSimpArgs false in
set_option maxRecDepth 100000 in
set_option maxHeartbeats 3200000 in
theorem equalSt_any (A A' : Option Addr) (n m cap cap' : Nat) (p q : Nat → Stp) (w : World) (hn : n ≤ 1048576) (hm : m ≤ 1048576) (hn' : ∀ i, i < n → (p i).c.n ≤ 1048576) (hr : RdT w w.heap.size A n p) (hr' : RdT w w.heap.size A' m q) :
    Calls Try.prog 72 #[.slice A n cap, .slice A' m cap', .func (.func 73) #[] #[]] w fun e w' => e = .returned (.bool (psB n m p q)) ∧ Below w.heap.size w w' := by
  have Hd := Lib.hid (show psB n m p q = (n == m && allT (fun i => sst (p i) (q i)) n) from rfl)
  by_cases d1 : n ≠ m
  · have d2 := st_ne8 d1
    have He := Lib.hid (show psB n m p q = false from Hd.out.trans (by simp [d1]))
    clear Hd d1
    go_enter Try.func72, Try.ntmps72
    go_wp2
    go_ret
    exact ⟨ret_bool (by rw [He.out]), Below.refl _ _⟩
  obtain rfl : n = m := by omega
  clear d1
  have Hd2 := Lib.hid (show ∀ z, allT (fun i => sst (p i) (q i)) n = z → psB n n p q = z from fun z hz => Hd.out.trans (by rw [hz]; simp))
  have HN := Lib.hid hn'
  have HR := Lib.hid hr
  have HR' := Lib.hid hr'
  clear hn' hr hr' Hd
  go_enter Try.func72, Try.ntmps72
  go_wp2
  go_loopw [17] (fun i wr => ∃ k : Nat, k ≤ n ∧ i = .int .i64 k ∧ allT (fun i => sst (p i) (q i)) k = true ∧ Below w.heap.size w wr) (fun i _ => n - (intOf i).toNat)
  case atStart => exact ⟨0, Nat.zero_le _, rfl, rfl, Below.refl _ _⟩
  case round =>
    obtain ⟨k, hk, rfl, hp, hb⟩ := hrel
    have Hp := Lib.hid hp
    have HBk := Lib.hid hb
    clear hp
    by_cases hlt : k < n
    · obtain ⟨b, off, rfl, hbl, hc⟩ := (HR.out.later hb) (by omega)
      obtain ⟨b', off', rfl, hbl', hc'⟩ := (HR'.out.later hb) (by omega)
      obtain ⟨Ai, ci, c0, c1, c2, c3, c4, hrk⟩ := hc k hlt
      obtain ⟨Ai', ci', d0, d1, d2, d3, d4, hrk'⟩ := hc' k hlt
      have hal := bl_alloc (bl_alloc (Below.refl wr.heap.size wr) (.cells #[.int .i64 (p k).k, .int .i64 (p k).a, .int .i64 (p k).b, .slice Ai (p k).c.n ci, .int .i64 (p k).c.bd] 103)) (.cells #[.int .i64 (q k).k, .int .i64 (q k).a, .int .i64 (q k).b, .slice Ai' (q k).c.n ci', .int .i64 (q k).c.bd] 103)
      have e0 := kc (bl_alloc (Below.refl wr.heap.size wr) (.cells #[.int .i64 (p k).k, .int .i64 (p k).a, .int .i64 (p k).b, .slice Ai (p k).c.n ci, .int .i64 (p k).c.bd] 103)) d0
      have e1 := kc (bl_alloc (Below.refl wr.heap.size wr) (.cells #[.int .i64 (p k).k, .int .i64 (p k).a, .int .i64 (p k).b, .slice Ai (p k).c.n ci, .int .i64 (p k).c.bd] 103)) d1
      have e2 := kc (bl_alloc (Below.refl wr.heap.size wr) (.cells #[.int .i64 (p k).k, .int .i64 (p k).a, .int .i64 (p k).b, .slice Ai (p k).c.n ci, .int .i64 (p k).c.bd] 103)) d2
      have e3 := kc (bl_alloc (Below.refl wr.heap.size wr) (.cells #[.int .i64 (p k).k, .int .i64 (p k).a, .int .i64 (p k).b, .slice Ai (p k).c.n ci, .int .i64 (p k).c.bd] 103)) d3
      have e4 := kc (bl_alloc (Below.refl wr.heap.size wr) (.cells #[.int .i64 (p k).k, .int .i64 (p k).a, .int .i64 (p k).b, .slice Ai (p k).c.n ci, .int .i64 (p k).c.bd] 103)) d4
      have HS := Lib.hid (sameStep_any Ai Ai' ci ci' (p k) (q k) ((wr.alloc (.cells #[.int .i64 (p k).k, .int .i64 (p k).a, .int .i64 (p k).b, .slice Ai (p k).c.n ci, .int .i64 (p k).c.bd] 103)).alloc (.cells #[.int .i64 (q k).k, .int .i64 (q k).a, .int .i64 (q k).b, .slice Ai' (q k).c.n ci', .int .i64 (q k).c.bd] 103)) (HN.out k hlt) (hrk.later hal) (hrk'.later hal))
      have HB2 := Lib.hid (bl_trans HBk.out hal)
      have hltI : (k : Int) < (n : Int) := by omega
      have hk0 : (0 : Int) ≤ (k : Int) := by omega
      clear hc hc' hrk hrk' hal hb
      cases q1 : sst (p k) (q k) with
      | true =>
        have Hy := Lib.hid (allT_yes (e := fun i => sst (p i) (q i)) Hp.out q1)
        rw [q1] at HS
        clear q1
        go_wp2_with fail
        refine (HS.out).mono ?_
        rintro e w5 ⟨rfl, hb1⟩
        have HB5 := Lib.hid (bl_trans HB2.out hb1)
        clear hb1
        go_wp2
        go_roundw
        case rel => exact ⟨k + 1, by omega, by go_num, Hy.out, HB5.out⟩
        case measure => simp [intOf]; omega
      | false =>
        have Hno := Lib.hid (Hd2.out false (allT_no (e := fun i => sst (p i) (q i)) hlt q1))
        rw [q1] at HS
        clear q1
        go_wp2_with fail
        refine (HS.out).mono ?_
        rintro e w5 ⟨rfl, hb1⟩
        have HB5 := Lib.hid (bl_trans HB2.out hb1)
        clear hb1
        go_wp2
        go_ret
        exact ⟨ret_bool (by rw [Hno.out]), HB5.out⟩
    · obtain rfl : k = n := by omega
      have Hy := Lib.hid (Hd2.out true Hp.out)
      go_wp2
      go_ret
      exact ⟨ret_bool (by rw [Hy.out]), HBk.out⟩

set_option linter.unusedVariables false in
set_option linter.unusedSimpArgs false in
set_option maxRecDepth 100000 in
set_option maxHeartbeats 3200000 in
theorem implPS_any (A A' : Option Addr) (n m cap cap' : Nat) (p q : Nat → Stp) (w : World) (hn : n ≤ 1048576) (hm : m ≤ 1048576) (hn' : ∀ i, i < n → (p i).c.n ≤ 1048576) (hr : RdT w w.heap.size A n p) (hr' : RdT w w.heap.size A' m q) :
    Calls Try.prog 35 #[.slice A n cap, .slice A' m cap'] w fun e w' => e = .returned (.bool (psB n m p q)) ∧ Below w.heap.size w w' := by
  go_enter Try.func35, Try.ntmps35
  go_wp2_with fail
  refine (equalSt_any A A' n m cap cap' p q _ hn hm hn' hr hr').mono ?_
  rintro e w' ⟨rfl, hb⟩
  have HB := Lib.hid hb
  clear hb
  go_wp2
  go_ret
  exact ⟨rfl, HB.out⟩
end Go.Proofs.Ytafiikfaeomhpaa
