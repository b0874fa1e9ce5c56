/- ModelValid: what it says; the reference's tests of lists (no claim of its own). Conditions: as each theorem states. -/
import Derived.Test.YtafiikfaeomhpaaMsaA
namespace Go.Proofs.Ytafiikfaeomhpaa
open Go.ChangeShapes Go.WideShapes Go.ChangeAt Go.RowKit

def wtB (x : Int) : Bool := decide (-9 ≤ x) && (decide (x ≤ 9) && x != 0)
/-- The coefficients and the bound of a linear rule are valid. -/
def linB (v c : Lst) (bd : Int) : Bool := prE (fun i => wtB (c.x i)) c.n && (c.n == v.n && (decide (-1000 ≤ bd) && decide (bd ≤ 1000)))
def betB (lo hi x : Int) : Bool := decide (lo ≤ x) && decide (x ≤ hi)
/-- A row of a table is valid. -/
def rowB (v l : Lst) : Bool := l.n == v.n && prE (fun i => betB 0 3 (l.x i)) l.n
def tabB (v : Lst) (n : Nat) (r : Nat → Lst) : Bool := prE (fun i => rowB v (r i)) n && decide (n ≤ 8)
/-- The cells of a rule are cells of the model, and different. -/
def newB (x : Nat → Int) (i : Nat) : Bool := prE (fun k => x k != x i) i
def varB (cells : Nat) (v : Lst) : Bool := prE (fun i => betB 0 (cells - 1) (v.x i) && newB v.x i) v.n && decide (1 ≤ v.n)

set_option maxRecDepth 100000 in
set_option maxHeartbeats 1600000 in
theorem l6Vars_any (As Ar Av : Option Addr) (sn cs n cr cv : Nat) (v : Lst) (w : World) (hn : v.n ≤ 1048576) (hr : RdI w w.heap.size Av v.n v.x) :
    Calls Try.prog 40 #[.agg #[.slice As sn cs, .slice Ar n cr], .slice Av v.n cv] w fun e w' => e = .returned (.bool (varB sn v)) ∧ Below w.heap.size w w' := by
  obtain ⟨vn, x⟩ := v
  simp only at hn hr ⊢
  have Hd := Lib.hid (show varB sn ⟨vn, x⟩ = (prE (fun i => betB 0 (sn - 1) (x i) && newB x i) vn && decide (1 ≤ vn)) from rfl)
  go_enter Try.func40, Try.ntmps40
  go_wp2
  have a0 : (w.alloc (.cells #[.slice As sn cs, .slice Ar n cr] 30)).cell? ⟨w.heap.size, 0, none⟩ = some (.slice As sn cs) := by go_simp
  have HB := Lib.hid (bl_alloc (Below.refl w.heap.size w) (.cells #[.slice As sn cs, .slice Ar n cr] 30))
  generalize (w.alloc (.cells #[.slice As sn cs, .slice Ar n cr] 30)) = w1 at *
  have hr1 := hr.later HB.out
  clear hr
  go_loopw [5] (fun i wr => ∃ k : Nat, k ≤ vn ∧ i = .int .i64 k ∧ prE (fun i => betB 0 (sn - 1) (x i) && newB x i) k = true ∧ Below w1.heap.size w1 wr) (fun i _ => vn - (intOf i).toNat)
  case atStart => exact ⟨0, Nat.zero_le _, rfl, rfl, Below.refl _ _⟩
  case round =>
    obtain ⟨k, hk, rfl, hp, hb⟩ := hrel
    have Hp := Lib.hid hp
    clear hp
    replace a0 := kc hb a0
    by_cases hlt : k < vn
    · have HR1 := Lib.hid hr1
      obtain ⟨b, off, rfl, hbl, hc⟩ := (hr1.below hb) (by omega)
      have hc1 := hc k hlt
      clear hc hr1
      have hlt' : (k : Int) < (vn : Int) := by omega
      have hk0 : (0 : Int) ≤ (k : Int) := by omega
      by_cases q1 : x k < 0
      · have Hno := Lib.hid (prE_no (e := fun i => betB 0 (sn - 1) (x i) && newB x i) hlt (by simp [betB, show ¬ 0 ≤ x k by omega]))
        go_wp2_with fail
        go_quiet (fail)
        go_wp2
        go_ret
        exact ⟨ret_bool (by rw [Hd.out, Hno.out]; rfl), bl_trans HB.out (bl_drewN hb _)⟩
      · have q1' : ¬ x k < 0 := q1
        by_cases q2 : (sn : Int) ≤ x k
        · have Hno := Lib.hid (prE_no (e := fun i => betB 0 (sn - 1) (x i) && newB x i) hlt (by simp [betB, show ¬ x k ≤ (sn : Int) - 1 by omega]))
          go_wp2_with fail
          go_quiet (fail)
          go_wp2
          go_ret
          exact ⟨ret_bool (by rw [Hd.out, Hno.out]; rfl), bl_trans HB.out (bl_drewN hb _)⟩
        · have q2' : ¬ (sn : Int) ≤ x k := q2
          have Hbt := Lib.hid (show betB 0 (sn - 1) (x k) = true from by simp [betB]; omega)
          go_wp2_with fail
          go_quiet (fail)
          go_wp2
          have HBk := Lib.hid hb
          clear hb q1 q2 q1' q2' hc1
          go_loopw [6] (fun i wr => ∃ j : Nat, j ≤ k ∧ i = .int .i64 j ∧ prE (fun t => x t != x k) j = true ∧ Below w1.heap.size w1 wr) (fun i _ => k - (intOf i).toNat)
          case atStart => exact ⟨0, Nat.zero_le _, rfl, rfl, bl_drewN HBk.out _⟩
          case round =>
            obtain ⟨j, hj, rfl, hp2, hb⟩ := hrel
            have Hp2 := Lib.hid hp2
            clear hp2
            by_cases hjt : j < k
            · obtain ⟨b2, off2, hA, hbl2, hc⟩ := (HR1.out.below hb) (by omega)
              injection hA with hA1
              injection hA1 with hA2 hA3
              subst hA2
              subst hA3
              have hc1 := hc k hlt
              have hc2 := hc j (by omega)
              clear hc
              have hjv : (j : Int) < (vn : Int) := by omega
              have hj0 : (0 : Int) ≤ (j : Int) := by omega
              have hjk : (j : Int) < (k : Int) := by omega
              by_cases q3 : x j = x k
              · have Hno := Lib.hid (prE_no (e := fun i => betB 0 (sn - 1) (x i) && newB x i) hlt (by
                  have : newB x k = false := prE_no (e := fun t => x t != x k) hjt (by simp [q3])
                  simp [this]))
                go_wp2_with fail
                go_quiet (fail)
                go_wp2
                go_ret
                exact ⟨ret_bool (by rw [Hd.out, Hno.out]; rfl), bl_trans HB.out (bl_drewN hb _)⟩
              · have Hy := Lib.hid (prE_yes (e := fun t => x t != x k) Hp2.out (by simpa using q3))
                go_wp2_with fail
                go_quiet (fail)
                go_wp2
                go_roundw
                case rel => exact ⟨j + 1, by omega, by go_num, Hy.out, bl_drewN hb _⟩
                case measure => simp [intOf]; omega
            · have e : j = k := by omega
              subst e
              have Hy := Lib.hid (prE_yes (e := fun i => betB 0 (sn - 1) (x i) && newB x i) Hp.out (by rw [Hbt.out]; exact Hp2.out))
              go_wp2
              go_roundw
              case rel => exact ⟨j + 1, by omega, by go_num, Hy.out, hb⟩
              case measure => simp [intOf]; omega
    · have e : k = vn := by omega
      subst e
      by_cases h1 : 1 ≤ k
      · have h1' : (1 : Int) ≤ (k : Int) := by omega
        go_wp2
        go_ret
        exact ⟨ret_bool (by rw [Hd.out, Hp.out]; simp [h1]), bl_trans HB.out hb⟩
      · have h1' : ¬ (1 : Int) ≤ (k : Int) := by omega
        go_wp2
        go_ret
        exact ⟨ret_bool (by rw [Hd.out, Hp.out]; simp [h1]), bl_trans HB.out hb⟩

set_option maxRecDepth 100000 in
set_option maxHeartbeats 1600000 in
theorem l6Linear_any (k bd : Int) (v c : Lst) (n : Nat) (Av Ac Ar : Option Addr) (cv cc cr : Nat) (w : World) (hn : c.n ≤ 1048576) (hr : RdI w w.heap.size Ac c.n c.x) :
    Calls Try.prog 101 #[.agg #[.int .i64 k, .slice Av v.n cv, .slice Ac c.n cc, .int .i64 bd, .slice Ar n cr]] w fun e w' => e = .returned (.bool (linB v c bd)) ∧ Below w.heap.size w w' := by
  obtain ⟨cn, x⟩ := c
  simp only at hn hr ⊢
  have Hd := Lib.hid (show linB v ⟨cn, x⟩ bd = (prE (fun i => wtB (x i)) cn && (cn == v.n && (decide (-1000 ≤ bd) && decide (bd ≤ 1000)))) from rfl)
  go_enter Try.func101, Try.ntmps101
  go_wp2
  have a1 : (w.alloc (.cells #[.int .i64 k, .slice Av v.n cv, .slice Ac cn cc, .int .i64 bd, .slice Ar n cr] 90)).cell? ⟨w.heap.size, 1, none⟩ = some (.slice Av v.n cv) := by go_simp
  have a2 : (w.alloc (.cells #[.int .i64 k, .slice Av v.n cv, .slice Ac cn cc, .int .i64 bd, .slice Ar n cr] 90)).cell? ⟨w.heap.size, 2, none⟩ = some (.slice Ac cn cc) := by go_simp
  have a3 : (w.alloc (.cells #[.int .i64 k, .slice Av v.n cv, .slice Ac cn cc, .int .i64 bd, .slice Ar n cr] 90)).cell? ⟨w.heap.size, 3, none⟩ = some (.int .i64 bd) := by go_simp
  have HB := Lib.hid (bl_alloc (Below.refl w.heap.size w) (.cells #[.int .i64 k, .slice Av v.n cv, .slice Ac cn cc, .int .i64 bd, .slice Ar n cr] 90))
  generalize (w.alloc (.cells #[.int .i64 k, .slice Av v.n cv, .slice Ac cn cc, .int .i64 bd, .slice Ar n cr] 90)) = w1 at *
  have hr1 := hr.later HB.out
  clear hr
  go_loopw [3] (fun i wr => ∃ k : Nat, k ≤ cn ∧ i = .int .i64 k ∧ prE (fun i => wtB (x i)) k = true ∧ Below w1.heap.size w1 wr) (fun i _ => cn - (intOf i).toNat)
  case atStart => exact ⟨0, Nat.zero_le _, rfl, rfl, Below.refl _ _⟩
  case round =>
    obtain ⟨j, hk, rfl, hp, hb⟩ := hrel
    have Hp := Lib.hid hp
    clear hp
    replace a1 := kc hb a1
    replace a2 := kc hb a2
    replace a3 := kc hb a3
    by_cases hlt : j < cn
    · obtain ⟨b, off, rfl, hbl, hc⟩ := (hr1.below hb) (by omega)
      have hc1 := hc j hlt
      clear hc hr1
      have hlt' : (j : Int) < (cn : Int) := by omega
      have hk0 : (0 : Int) ≤ (j : Int) := by omega
      by_cases q1 : x j < -9
      · have Hno := Lib.hid (prE_no (e := fun i => wtB (x i)) hlt (by simp [wtB, show ¬ -9 ≤ x j by omega]))
        go_wp2
        go_ret
        exact ⟨ret_bool (by rw [Hd.out, Hno.out]; rfl), bl_trans HB.out hb⟩
      · by_cases q2 : 9 < x j
        · have Hno := Lib.hid (prE_no (e := fun i => wtB (x i)) hlt (by simp [wtB, show ¬ x j ≤ 9 by omega]))
          go_wp2
          go_ret
          exact ⟨ret_bool (by rw [Hd.out, Hno.out]; rfl), bl_trans HB.out hb⟩
        · by_cases q3 : x j = 0
          · have Hno := Lib.hid (prE_no (e := fun i => wtB (x i)) hlt (by simp [wtB, q3]))
            go_wp2
            go_ret
            exact ⟨ret_bool (by rw [Hd.out, Hno.out]; rfl), bl_trans HB.out hb⟩
          · have Hy := Lib.hid (prE_yes (e := fun i => wtB (x i)) Hp.out (by simp [wtB, q3]; omega))
            go_wp2
            go_roundw
            case rel => exact ⟨j + 1, by omega, by go_num, Hy.out, hb⟩
            case measure => simp [intOf]; omega
    · have e : j = cn := by omega
      subst e
      have HBe := Lib.hid (bl_trans HB.out hb)
      clear hb hr1 HB
      by_cases d1 : (j : Int) = (v.n : Int)
      · have d1' : j = v.n := by omega
        by_cases d2 : -1000 ≤ bd
        · by_cases d3 : bd ≤ 1000
          · have He := Lib.hid (show linB v ⟨j, x⟩ bd = true from by rw [Hd.out, Hp.out]; simp [d1', d2, d3])
            clear d1'
            go_wp2
            go_ret
            exact ⟨ret_bool He.out.symm, HBe.out⟩
          · have He := Lib.hid (show linB v ⟨j, x⟩ bd = false from by rw [Hd.out]; simp [d3])
            clear d1'
            go_wp2
            go_ret
            exact ⟨ret_bool He.out.symm, HBe.out⟩
        · have He := Lib.hid (show linB v ⟨j, x⟩ bd = false from by rw [Hd.out]; simp [d2])
          clear d1'
          go_wp2
          go_ret
          exact ⟨ret_bool He.out.symm, HBe.out⟩
      · have d1' : ¬ j = v.n := by omega
        have He := Lib.hid (show linB v ⟨j, x⟩ bd = false from by rw [Hd.out]; simp [d1'])
        have d2 : ((j : Int) == (v.n : Int)) = false := by simpa using d1
        clear d1'
        go_wp2
        go_ret
        exact ⟨ret_bool He.out.symm, HBe.out⟩

set_option maxRecDepth 100000 in
set_option maxHeartbeats 1600000 in
theorem l6Table_any (k bd : Int) (v : Lst) (n cn : Nat) (r : Nat → Lst) (Av Ac Ar : Option Addr) (cv cc cr : Nat) (w : World) (hn : n ≤ 1048576) (hf : ∀ i, i < n → (r i).n ≤ 1048576) (hr : RdL w w.heap.size Ar n r) :
    Calls Try.prog 102 #[.agg #[.int .i64 k, .slice Av v.n cv, .slice Ac cn cc, .int .i64 bd, .slice Ar n cr]] w fun e w' => e = .returned (.bool (tabB v n r)) ∧ Below w.heap.size w w' := by
  have Hd := Lib.hid (show tabB v n r = (prE (fun i => rowB v (r i)) n && decide (n ≤ 8)) from rfl)
  have HF := Lib.hid hf
  clear hf
  go_enter Try.func102, Try.ntmps102
  go_wp2
  have a1 : (w.alloc (.cells #[.int .i64 k, .slice Av v.n cv, .slice Ac cn cc, .int .i64 bd, .slice Ar n cr] 90)).cell? ⟨w.heap.size, 1, none⟩ = some (.slice Av v.n cv) := by go_simp
  have a4 : (w.alloc (.cells #[.int .i64 k, .slice Av v.n cv, .slice Ac cn cc, .int .i64 bd, .slice Ar n cr] 90)).cell? ⟨w.heap.size, 4, none⟩ = some (.slice Ar n cr) := by go_simp
  have HB := Lib.hid (bl_alloc (Below.refl w.heap.size w) (.cells #[.int .i64 k, .slice Av v.n cv, .slice Ac cn cc, .int .i64 bd, .slice Ar n cr] 90))
  generalize (w.alloc (.cells #[.int .i64 k, .slice Av v.n cv, .slice Ac cn cc, .int .i64 bd, .slice Ar n cr] 90)) = w1 at *
  have hr1 := hr.later HB.out
  clear hr
  go_loopw [3] (fun i wr => ∃ k : Nat, k ≤ n ∧ i = .int .i64 k ∧ prE (fun i => rowB v (r i)) k = true ∧ Below w1.heap.size w1 wr) (fun i _ => n - (intOf i).toNat)
  case atStart => exact ⟨0, Nat.zero_le _, rfl, rfl, Below.refl _ _⟩
  case round =>
    obtain ⟨j, hk, rfl, hp, hb⟩ := hrel
    have Hp := Lib.hid hp
    clear hp
    have B1 := a1
    have B4 := a4
    replace a1 := kc hb a1
    replace a4 := kc hb a4
    by_cases hlt : j < n
    · have hfj := HF.out j hlt
      have hrb := hr1
      obtain ⟨b, off, rfl, hbl, hc⟩ := hr1 (by omega)
      obtain ⟨Ai, ci, hc0, hri⟩ := hc j hlt
      have HC0 := Lib.hid hc0
      have hc1 := kc hb hc0
      have HRI := Lib.hid hri
      have A1 := Lib.hid B1
      have A4 := Lib.hid B4
      clear hc hr1 hrb hri hc0 B1 B4
      have hlt' : (j : Int) < (n : Int) := by omega
      have hk0 : (0 : Int) ≤ (j : Int) := by omega
      by_cases q1 : ((r j).n : Int) = (v.n : Int)
      · have q1n : (r j).n = v.n := by omega
        have Hq := Lib.hid (show ∀ z, prE (fun t => betB 0 3 ((r j).x t)) (r j).n = z → rowB v (r j) = z from fun z hz => by simp [rowB, q1n, ← hz])
        clear q1n
        go_wp2_with fail
        go_quiet (fail)
        go_wp2
        have HBk := Lib.hid hb
        clear hb hc1 a1 a4
        go_loopw [4] (fun i wr => ∃ t : Nat, t ≤ (r j).n ∧ i = .int .i64 t ∧ prE (fun t => betB 0 3 ((r j).x t)) t = true ∧ Below w1.heap.size w1 wr) (fun i _ => (r j).n - (intOf i).toNat)
        case atStart => exact ⟨0, Nat.zero_le _, rfl, rfl, bl_drewN HBk.out _⟩
        case round =>
          obtain ⟨t, ht, rfl, hp2, hb⟩ := hrel
          have Hp2 := Lib.hid hp2
          clear hp2
          have a4 := kc hb A4.out
          have hc1 := kc hb HC0.out
          by_cases htl : t < (r j).n
          · obtain ⟨b2, off2, rfl, hbl2, hc⟩ := (HRI.out.below hb) (by omega)
            have hc2 := hc t htl
            clear hc
            have htl' : (t : Int) < ((r j).n : Int) := by omega
            have ht0 : (0 : Int) ≤ (t : Int) := by omega
            by_cases q2 : (r j).x t < 0
            · have Hno := Lib.hid (prE_no (e := fun i => rowB v (r i)) hlt (Hq.out false (prE_no (e := fun t => betB 0 3 ((r j).x t)) htl (by simp [betB, show ¬ 0 ≤ (r j).x t by omega]))))
              go_wp2
              go_ret
              exact ⟨ret_bool (by rw [Hd.out, Hno.out]; rfl), bl_trans HB.out hb⟩
            · by_cases q3 : 3 < (r j).x t
              · have Hno := Lib.hid (prE_no (e := fun i => rowB v (r i)) hlt (Hq.out false (prE_no (e := fun t => betB 0 3 ((r j).x t)) htl (by simp [betB, show ¬ (r j).x t ≤ 3 by omega]))))
                go_wp2
                go_ret
                exact ⟨ret_bool (by rw [Hd.out, Hno.out]; rfl), bl_trans HB.out hb⟩
              · have Hy := Lib.hid (prE_yes (e := fun t => betB 0 3 ((r j).x t)) Hp2.out (by simp [betB]; omega))
                go_wp2
                go_roundw
                case rel => exact ⟨t + 1, by omega, by go_num, Hy.out, hb⟩
                case measure => simp [intOf]; omega
          · have e : t = (r j).n := by omega
            subst e
            have Hy := Lib.hid (prE_yes (e := fun i => rowB v (r i)) Hp.out (Hq.out true Hp2.out))
            go_wp2
            go_roundw
            case rel => exact ⟨j + 1, by omega, by go_num, Hy.out, hb⟩
            case measure => simp [intOf]; omega
      · have q1n : ¬ (r j).n = v.n := by omega
        have Hno := Lib.hid (prE_no (e := fun i => rowB v (r i)) hlt (by simp [rowB, q1n]))
        have q1' : (((r j).n : Int) != (v.n : Int)) = true := by rw [bne_iff_ne]; exact q1
        clear q1n
        go_wp2_with fail
        go_quiet (fail)
        go_wp2
        go_ret
        exact ⟨ret_bool (by rw [Hd.out, Hno.out]; rfl), bl_trans HB.out (bl_drewN hb _)⟩
    · have e : j = n := by omega
      subst e
      by_cases d1 : (j : Int) ≤ 8
      · have He := Lib.hid (show tabB v j r = true from by rw [Hd.out, Hp.out]; simp [show j ≤ 8 by omega])
        go_wp2
        go_ret
        exact ⟨ret_bool He.out.symm, bl_trans HB.out hb⟩
      · have He := Lib.hid (show tabB v j r = false from by rw [Hd.out, Hp.out]; simp [show ¬ j ≤ 8 by omega])
        go_wp2
        go_ret
        exact ⟨ret_bool He.out.symm, bl_trans HB.out hb⟩
end Go.Proofs.Ytafiikfaeomhpaa
