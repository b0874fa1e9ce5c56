/- ModelValid: the reference's side (no claim of its own). Conditions: as each theorem states. -/
import Derived.Test.YtafiikfaeomhpaaMvsA
import Derived.Test.YtafiikfaeomhpaaMdlE
namespace Go.Proofs.Ytafiikfaeomhpaa
open Go.ChangeShapes Go.WideShapes Go.ChangeAt Go.RowKit

def kindB (q : Rul) : Bool := if q.k = 1 then linB q.v q.c q.bd else if q.k = 2 then true else if q.k = 3 then tabB q.v q.n q.r else if q.k = 4 then q.v.n == 2 else false
/-- A rule is valid in a model with so many cells. -/
def ruleB (cells : Nat) (q : Rul) : Bool := varB cells q.v && ((q.k == 1 || (q.c.n == 0 && q.bd == 0)) && ((q.k == 3 || q.n == 0) && kindB q))

set_option maxRecDepth 100000 in
set_option maxHeartbeats 1600000 in
theorem l6Rule_any (As Rr : Option Addr) (sn cs mn rr : Nat) (q : Rul) (Av Ac Ar : Option Addr) (cv cc cr : Nat) (w : World) (hf : q.fit 1048576) (hv : RdI w w.heap.size Av q.v.n q.v.x) (hc : RdI w w.heap.size Ac q.c.n q.c.x) (hr : RdL w w.heap.size Ar q.n q.r) :
    Calls Try.prog 76 #[.agg #[.slice As sn cs, .slice Rr mn rr], .agg #[.int .i64 q.k, .slice Av q.v.n cv, .slice Ac q.c.n cc, .int .i64 q.bd, .slice Ar q.n cr]] w fun e w' => e = .returned (.bool (ruleB sn q)) ∧ Below w.heap.size w w' := by
  obtain ⟨k, v, ⟨cn, cx⟩, bd, n, r⟩ := q
  obtain ⟨p1, p2, p3, p4⟩ := hf
  simp only at p1 p2 p3 p4 hv hc hr ⊢
  have P4 := Lib.hid p4
  have HV := Lib.hid hv
  have HC := Lib.hid hc
  have HR := Lib.hid hr
  clear hv hc hr p4
  have Hd := Lib.hid (show ∀ z, ruleB sn ⟨k, v, ⟨cn, cx⟩, bd, n, r⟩ = z ↔ (varB sn v && ((k == 1 || (cn == 0 && bd == 0)) && ((k == 3 || n == 0) && kindB ⟨k, v, ⟨cn, cx⟩, bd, n, r⟩))) = z from fun z => Iff.rfl)
  go_enter Try.func76, Try.ntmps76
  go_wp2_with fail
  have a0 : ((w.alloc (.cells #[.slice As sn cs, .slice Rr mn rr] 30)).alloc (.cells #[.int .i64 k, .slice Av v.n cv, .slice Ac cn cc, .int .i64 bd, .slice Ar n cr] 90)).cell? ⟨w.heap.size + 1, 0, none⟩ = some (.int .i64 k) := by go_simp
  have a1 : ((w.alloc (.cells #[.slice As sn cs, .slice Rr mn rr] 30)).alloc (.cells #[.int .i64 k, .slice Av v.n cv, .slice Ac cn cc, .int .i64 bd, .slice Ar n cr] 90)).cell? ⟨w.heap.size + 1, 1, none⟩ = some (.slice Av v.n cv) := by go_simp
  have a2 : ((w.alloc (.cells #[.slice As sn cs, .slice Rr mn rr] 30)).alloc (.cells #[.int .i64 k, .slice Av v.n cv, .slice Ac cn cc, .int .i64 bd, .slice Ar n cr] 90)).cell? ⟨w.heap.size + 1, 2, none⟩ = some (.slice Ac cn cc) := by go_simp
  have a3 : ((w.alloc (.cells #[.slice As sn cs, .slice Rr mn rr] 30)).alloc (.cells #[.int .i64 k, .slice Av v.n cv, .slice Ac cn cc, .int .i64 bd, .slice Ar n cr] 90)).cell? ⟨w.heap.size + 1, 3, none⟩ = some (.int .i64 bd) := by go_simp
  have a4 : ((w.alloc (.cells #[.slice As sn cs, .slice Rr mn rr] 30)).alloc (.cells #[.int .i64 k, .slice Av v.n cv, .slice Ac cn cc, .int .i64 bd, .slice Ar n cr] 90)).cell? ⟨w.heap.size + 1, 4, none⟩ = some (.slice Ar n cr) := by go_simp
  have HB := Lib.hid (bl_alloc (bl_alloc (Below.refl w.heap.size w) (.cells #[.slice As sn cs, .slice Rr mn rr] 30)) (.cells #[.int .i64 k, .slice Av v.n cv, .slice Ac cn cc, .int .i64 bd, .slice Ar n cr] 90))
  generalize ((w.alloc (.cells #[.slice As sn cs, .slice Rr mn rr] 30)).alloc (.cells #[.int .i64 k, .slice Av v.n cv, .slice Ac cn cc, .int .i64 bd, .slice Ar n cr] 90)) = w1 at *
  refine (l6Vars_any _ _ _ _ _ _ _ _ v _ p1 (HV.out.later HB.out)).mono ?_
  rintro e w2 ⟨rfl, hb⟩
  have HBn := Lib.hid (bl_trans HB.out hb)
  replace a0 := kc hb a0
  replace a1 := kc hb a1
  replace a2 := kc hb a2
  replace a3 := kc hb a3
  replace a4 := kc hb a4
  clear HB hb
  cases hvar : varB sn v with
  | false =>
    have He := Lib.hid ((Hd.out false).2 (by simp [hvar]))
    clear Hd
    go_wp2
    go_ret
    exact ⟨ret_bool He.out.symm, HBn.out⟩
  | true =>
    have HVar := Lib.hid hvar
    clear hvar
    by_cases k1 : k = 1
    · subst k1
      by_cases n0 : n = 0
      · subst n0
        go_wp2_with fail
        refine (l6Linear_any _ _ v ⟨cn, cx⟩ _ _ _ _ _ _ _ _ p2 (HC.out.later HBn.out)).mono ?_
        rintro e w3 ⟨rfl, hb⟩
        have He := Lib.hid ((Hd.out (linB v ⟨cn, cx⟩ bd)).2 (by simp [HVar.out, kindB]))
        have HBe := Lib.hid (bl_trans HBn.out hb)
        clear hb Hd
        go_wp2
        go_ret
        exact ⟨ret_bool He.out.symm, HBe.out⟩
      · have n1 : ((n : Int) != 0) = true := by rw [bne_iff_ne]; omega
        have He := Lib.hid ((Hd.out false).2 (by simp [n0]))
        clear Hd
        go_wp2
        go_ret
        exact ⟨ret_bool He.out.symm, HBn.out⟩
    · have k1a : (k == 1) = false := by simpa using k1
      have k1b : (k != 1) = true := by simpa using k1
      by_cases c0 : cn = 0
      · subst c0
        by_cases b0 : bd = 0
        · subst b0
          by_cases k3 : k = 3
          · subst k3
            go_wp2_with fail
            refine (l6Table_any _ _ v _ _ r _ _ _ _ _ _ _ p3 P4.out (HR.out.later HBn.out)).mono ?_
            rintro e w3 ⟨rfl, hb⟩
            have He := Lib.hid ((Hd.out (tabB v n r)).2 (by simp [HVar.out, kindB]))
            have HBe := Lib.hid (bl_trans HBn.out hb)
            clear hb Hd
            go_wp2
            go_ret
            exact ⟨ret_bool He.out.symm, HBe.out⟩
          · have k3a : (k == 3) = false := by simpa using k3
            have k3b : (k != 3) = true := by simpa using k3
            by_cases n0 : n = 0
            · subst n0
              by_cases k2 : k = 2
              · subst k2
                have He := Lib.hid ((Hd.out true).2 (by simp [HVar.out, kindB]))
                clear Hd
                go_wp2
                go_ret
                exact ⟨ret_bool He.out.symm, HBn.out⟩
              · have k2a : (k == 2) = false := by simpa using k2
                by_cases k4 : k = 4
                · subst k4
                  by_cases v2 : (v.n : Int) = 2
                  · have v2n : v.n = 2 := by omega
                    have He := Lib.hid ((Hd.out true).2 (by simp [HVar.out, kindB, v2n]))
                    clear Hd
                    go_wp2
                    go_ret
                    exact ⟨ret_bool He.out.symm, HBn.out⟩
                  · have v2n : ¬ v.n = 2 := by omega
                    have v2a : ((v.n : Int) == 2) = false := by simpa using v2
                    have He := Lib.hid ((Hd.out false).2 (by simp [kindB, v2n]))
                    clear Hd
                    go_wp2
                    go_ret
                    exact ⟨ret_bool He.out.symm, HBn.out⟩
                · have k4a : (k == 4) = false := by simpa using k4
                  have He := Lib.hid ((Hd.out false).2 (by simp [kindB, k1, k2, k3, k4]))
                  clear Hd
                  go_wp2
                  go_ret
                  exact ⟨ret_bool He.out.symm, HBn.out⟩
            · have n1 : ((n : Int) != 0) = true := by rw [bne_iff_ne]; omega
              have He := Lib.hid ((Hd.out false).2 (by simp [n0, k3]))
              clear Hd
              go_wp2
              go_ret
              exact ⟨ret_bool He.out.symm, HBn.out⟩
        · have b1 : (bd != 0) = true := by simpa using b0
          have He := Lib.hid ((Hd.out false).2 (by simp [b0, k1]))
          clear Hd
          go_wp2
          go_ret
          exact ⟨ret_bool He.out.symm, HBn.out⟩
      · have c1 : ((cn : Int) != 0) = true := by rw [bne_iff_ne]; omega
        have He := Lib.hid ((Hd.out false).2 (by simp [c0, k1]))
        clear Hd
        go_wp2
        go_ret
        exact ⟨ret_bool He.out.symm, HBn.out⟩
end Go.Proofs.Ytafiikfaeomhpaa
