/- ModelValid: the program's side, tables (no claim of its own). Conditions: as each theorem states. -/
import Derived.Test.YtafiikfaeomhpaaMvpC
namespace Go.Proofs.Ytafiikfaeomhpaa
open Go.ChangeShapes Go.WideShapes Go.ChangeAt Go.RowKit

set_option maxRecDepth 100000 in
set_option maxHeartbeats 1600000 in
theorem indexRow_any (A : Option Addr) (n cap : Nat) (r : Nat → Lst) (q : Nat → Bool) (P0 : Nat) (w : World) (hn : n ≤ 1048576) (hr : RdL w w.heap.size A n r)
    (hf : ∀ (k : Nat) (Ai : Option Addr) (ci : Nat) (X : World), k < n → Below w.heap.size w X → RdI X X.heap.size Ai (r k).n (r k).x → Calls Try.prog 175 #[.slice Ai (r k).n ci, .pointer (some ⟨P0, 0, none⟩)] X fun e X' => e = .returned (.bool (q k)) ∧ Below X.heap.size X X') :
    Calls Try.prog 177 #[.slice A n cap, .func (.func 175) #[] #[.pointer (some ⟨P0, 0, none⟩)]] w fun e w' => ∃ m : Int, e = .returned (.int .i64 m) ∧ decide (0 ≤ m) = anyQ q n ∧ Below w.heap.size w w' := by
  go_enter Try.func177, Try.ntmps177
  go_wp2
  go_loopw [8] (fun i wr => ∃ k : Nat, k ≤ n ∧ i = .int .i64 k ∧ anyQ q k = false ∧ Below w.heap.size w wr) (fun i _ => n - (intOf i).toNat)
  case atStart => exact ⟨0, Nat.zero_le _, rfl, rfl, Below.refl _ _⟩
  case round =>
    obtain ⟨k, hk, rfl, hp, hb⟩ := hrel
    have Hp := Lib.hid hp
    clear hp
    by_cases hlt : k < n
    · obtain ⟨b, off, rfl, hbl, hc⟩ := (hr.below hb) (by omega)
      obtain ⟨Ai, ci, hc1, hrk⟩ := hc k hlt
      have Hcall := Lib.hid (hf k Ai ci wr hlt hb (hrk.more hb.size))
      clear hc hr hf hrk
      cases hq : q k with
      | true =>
        have Hfin := Lib.hid (show decide (0 ≤ (k : Int)) = anyQ q n from by rw [anyQ_of hlt hq]; simp)
        rw [hq] at Hcall
        clear hq
        go_wp2_with fail
        refine Hcall.out.mono ?_
        rintro e w1 ⟨rfl, hb1⟩
        go_wp2
        go_ret
        exact ⟨_, rfl, Hfin.out, hb.trans (hb1.mono hb.size)⟩
      | false =>
        have Hno := Lib.hid (anyQ_step Hp.out hq)
        rw [hq] at Hcall
        clear hq
        go_wp2_with fail
        refine Hcall.out.mono ?_
        rintro e w1 ⟨rfl, hb1⟩
        go_wp2
        go_roundw
        case rel => exact ⟨k + 1, by omega, by go_num, Hno.out, hb.trans (hb1.mono hb.size)⟩
        case measure => simp [intOf]; omega
    · have e : k = n := by omega
      subst e
      go_wp2
      go_ret
      exact ⟨-1, rfl, by rw [Hp.out]; rfl, hb⟩

set_option maxRecDepth 100000 in
set_option maxHeartbeats 800000 in
theorem containsRow_any (A : Option Addr) (n cap : Nat) (r : Nat → Lst) (q : Nat → Bool) (P0 : Nat) (w : World) (hn : n ≤ 1048576) (hr : RdL w w.heap.size A n r)
    (hf : ∀ (k : Nat) (Ai : Option Addr) (ci : Nat) (X : World), k < n → Below w.heap.size w X → RdI X X.heap.size Ai (r k).n (r k).x → Calls Try.prog 175 #[.slice Ai (r k).n ci, .pointer (some ⟨P0, 0, none⟩)] X fun e X' => e = .returned (.bool (q k)) ∧ Below X.heap.size X X') :
    Calls Try.prog 176 #[.slice A n cap, .func (.func 175) #[] #[.pointer (some ⟨P0, 0, none⟩)]] w fun e w' => e = .returned (.bool (anyQ q n)) ∧ Below w.heap.size w w' := by
  have Hc := Lib.hid (indexRow_any A n cap r q P0 w hn hr hf)
  clear hf
  go_enter Try.func176, Try.ntmps176
  go_wp2_with fail
  refine Hc.out.mono ?_
  rintro e w1 ⟨m, rfl, hm, hb⟩
  have Hm := Lib.hid hm
  clear hm
  go_wp2
  go_ret
  exact ⟨ret_bool Hm.out, hb⟩

set_option maxRecDepth 100000 in
set_option maxHeartbeats 800000 in
theorem rowBad_any (v l : Lst) (Av A : Option Addr) (cv cap : Nat) (P0 : Nat) (w : World) (hn : l.n ≤ 1048576) (hr : RdI w w.heap.size A l.n l.x) (h1 : w.cell? ⟨P0, 1, none⟩ = some (.slice Av v.n cv)) :
    Calls Try.prog 175 #[.slice A l.n cap, .pointer (some ⟨P0, 0, none⟩)] w fun e w' => e = .returned (.bool (!rowB v l)) ∧ Below w.heap.size w w' := by
  by_cases d1 : (l.n : Int) ≠ (v.n : Int)
  · have d2 : ((l.n : Int) != (v.n : Int)) = true := by simpa using d1
    have Hd := Lib.hid (show (!rowB v l) = true from by simp [rowB, show ¬ l.n = v.n by omega])
    go_enter Try.func175, Try.ntmps175
    go_wp2
    go_ret
    exact ⟨ret_bool Hd.out.symm, Below.refl _ _⟩
  have d2 : l.n = v.n := by omega
  have d2b : ((l.n : Int) != (v.n : Int)) = false := by rw [bne_eq_false_iff_eq]; omega
  have Hd := Lib.hid (show (!rowB v l) = !prE (fun i => betB 0 3 (l.x i)) l.n from by simp [rowB, d2])
  have HR := Lib.hid hr
  clear d1 d2 hr
  go_enter Try.func175, Try.ntmps175
  go_wp2_with fail
  refine (allBetween_any l _ _ _ _ _ hn HR.out).mono ?_
  rintro e w2 ⟨rfl, hb⟩
  cases hz : prE (fun i => betB 0 3 (l.x i)) l.n with
  | false =>
    have Hz := Lib.hid (show (!rowB v l) = true from by rw [Hd.out, hz]; rfl)
    clear hz Hd
    go_wp2
    go_ret
    exact ⟨ret_bool Hz.out.symm, hb⟩
  | true =>
    have Hz := Lib.hid (show (!rowB v l) = false from by rw [Hd.out, hz]; rfl)
    clear hz Hd
    go_wp2
    go_ret
    exact ⟨ret_bool Hz.out.symm, hb⟩

set_option maxRecDepth 100000 in
set_option maxHeartbeats 1600000 in
theorem tabWell_any (k bd : Int) (v c : Lst) (n : Nat) (r : Nat → Lst) (Av Ac Ar : Option Addr) (cv cc cr : Nat) (w : World) (hn : n ≤ 1048576) (hf : ∀ i, i < n → (r i).n ≤ 1048576) (hr : RdL w w.heap.size Ar n r) :
    Calls Try.prog 174 #[.agg #[.int .i64 k, .slice Av v.n cv, .slice Ac c.n cc, .int .i64 bd, .slice Ar n cr]] w fun e w' => e = .returned (.bool (c.n == 0 && (bd == 0 && tabB v n r))) ∧ Below w.heap.size w w' := by
  obtain ⟨cn, cx⟩ := c
  have HR := Lib.hid hr
  have HF := Lib.hid hf
  clear hr hf
  have Hd := Lib.hid (show ∀ z, (cn == 0 && (bd == 0 && tabB v n r)) = z ↔ (cn == 0 && (bd == 0 && (prE (fun i => rowB v (r i)) n && decide (n ≤ 8)))) = z from fun z => Iff.rfl)
  have HA := Lib.hid (bl_alloc (Below.refl w.heap.size w))
  by_cases c0 : cn ≠ 0
  · have c1 : ((cn : Int) == 0) = false := by rw [beq_eq_false_iff_ne]; omega
    have He := Lib.hid ((Hd.out false).2 (by simp [c0]))
    clear Hd
    go_enter Try.func174, Try.ntmps174
    go_wp2
    go_ret
    exact ⟨ret_bool He.out.symm, HA.out _⟩
  obtain rfl : cn = 0 := by omega
  clear c0
  by_cases b0 : bd ≠ 0
  · have b1 : (bd == 0) = false := by simpa using b0
    have He := Lib.hid ((Hd.out false).2 (by simp [b0]))
    clear Hd
    go_enter Try.func174, Try.ntmps174
    go_wp2
    go_ret
    exact ⟨ret_bool He.out.symm, HA.out _⟩
  obtain rfl : bd = 0 := by omega
  clear b0
  by_cases n8 : (8 : Int) < (n : Int)
  · have He := Lib.hid ((Hd.out false).2 (by simp [show ¬ n ≤ 8 by omega]))
    clear Hd
    go_enter Try.func174, Try.ntmps174
    go_wp2
    go_ret
    exact ⟨ret_bool He.out.symm, HA.out _⟩
  have n8' : (n : Int) ≤ 8 := by omega
  clear n8
  go_enter Try.func174, Try.ntmps174
  go_wp2_with fail
  have a1 : (w.alloc (.cells #[.int .i64 k, .slice Av v.n cv, .slice Ac 0 cc, .int .i64 0, .slice Ar n cr] 156)).cell? ⟨w.heap.size, 1, none⟩ = some (.slice Av v.n cv) := by go_simp
  have HB := Lib.hid (HA.out (.cells #[.int .i64 k, .slice Av v.n cv, .slice Ac 0 cc, .int .i64 0, .slice Ar n cr] 156))
  clear HA
  generalize (w.alloc (.cells #[.int .i64 k, .slice Av v.n cv, .slice Ac 0 cc, .int .i64 0, .slice Ar n cr] 156)) = w1 at *
  refine (containsRow_any _ _ _ r (fun i => !rowB v (r i)) (w.heap.size) _ hn (HR.out.later HB.out) (fun k Ai ci X hk hb hri => rowBad_any v (r k) Av Ai cv ci _ X (HF.out k hk) hri (kc hb a1))).mono ?_
  rintro e w2 ⟨rfl, hb⟩
  rw [anyQ_prE]
  have HB2 := Lib.hid (bl_trans HB.out hb)
  clear hb HB a1
  cases hz : prE (fun i => rowB v (r i)) n with
  | false =>
    have He := Lib.hid ((Hd.out false).2 (by rw [hz]; simp))
    clear hz Hd
    go_wp2
    go_ret
    exact ⟨ret_bool He.out.symm, HB2.out⟩
  | true =>
    have He := Lib.hid ((Hd.out true).2 (by rw [hz]; simp [show n ≤ 8 by omega]))
    clear hz Hd
    go_wp2
    go_ret
    exact ⟨ret_bool He.out.symm, HB2.out⟩
end Go.Proofs.Ytafiikfaeomhpaa
