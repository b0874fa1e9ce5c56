/- The walk of the law FnSlackOf (no claim of its own). Conditions: as each theorem states. -/
import Derived.Test.YtfgmkaajcbmlmaaDrwL
import Derived.Test.YtfgmkaajcbmlmaaSlkM
import Derived.Test.YtfgmkaajcbmlmaaExtC
namespace Go.Proofs.Ytfgmkaajcbmlmaa
open Go.ChangeShapes Go.WideShapes Go.ChangeAt Go.RowKit Go.Shelf

set_option maxRecDepth 100000 in
set_option maxHeartbeats 6400000 in
theorem lawFnSlackOf_ok (A0 A1 : Option Addr) (n0 cap0 n1 cap1 : Nat) (y0 y1 : Nat → Int) (w : World) (h0 : n0 ≤ 1048576) (h1 : n1 ≤ 1048576) (hc0 : n0 ≤ cap0) (hc1 : n1 ≤ cap1) (hr0 : RdY w w.heap.size A0 n0 y0) (hr1 : RdY w w.heap.size A1 n1 y1) :
    Calls Try.prog 3 #[.slice A0 n0 cap0, .slice A1 n1 cap1] w fun e w' => e = .returned (.bool true) ∧ Below w.heap.size w w' := by
  have hm0 : n0 ≤ maxLen := by unfold maxLen; omega
  have hm1 : n1 ≤ maxLen := by unfold maxLen; omega
  have hi0 : ¬ (1048576 : Int) < (n0 : Int) := by omega
  have hi1 : ¬ (1048576 : Int) < (n1 : Int) := by omega
  go_enter Try.func3, Try.ntmps3
  go_wp2_with fail
  refine (drawSlack_any _ _ _ y0 _ hm0 hc0 hr0).mono ?_
  rintro e w1 ⟨Ac, k, capc, bd, c, l, Av, kv, capv, v, rfl, hk, hkv, hrc, hrv, hb⟩
  have HB1 := Lib.hid hb
  have Hc := Lib.hid hrc
  have Hv := Lib.hid hrv
  clear hb hrc hrv
  go_wp2_with fail
  have HAl := Lib.hid (bl_alloc (Below.refl w1.heap.size w1) (.cells #[.slice Ac k capc, .int .i64 bd] 25))
  have a0 : (w1.alloc (.cells #[.slice Ac k capc, .int .i64 bd] 25)).cell? ⟨w1.heap.size, 0, none⟩ = some (.slice Ac k capc) := by go_simp
  have a1 : (w1.alloc (.cells #[.slice Ac k capc, .int .i64 bd] 25)).cell? ⟨w1.heap.size, 1, none⟩ = some (.int .i64 bd) := by go_simp
  refine (drawEval_any _ _ _ y1 _ hm1 hc1 (hr1.later (bl_trans HB1.out HAl.out))).mono ?_
  rintro e w2 ⟨Ac2, k2, capc2, bd2, c2, l2, Au, ku, capu, u, rfl, hk2, hku, hrc2, hru, hb⟩
  have hbx := bl_trans HAl.out hb
  have HB2 := Lib.hid (bl_trans HB1.out hbx)
  have Hc2 := Lib.hid (Hc.out.later hbx)
  have Hv2 := Lib.hid (Hv.out.later hbx)
  have Hu2 := Lib.hid hru
  replace a0 := kc hb a0
  replace a1 := kc hb a1
  have z2 : w1.heap.size < w2.heap.size := World.block_lt_of_cell? w2 ⟨w1.heap.size, 0, none⟩ a0
  clear hb hbx hru hrc2 HB1 Hc Hv HAl
  go_wp2_with fail
  have HAl := Lib.hid (bl_alloc (Below.refl w2.heap.size w2) (.cells #[.slice Ac2 k2 capc2, .int .i64 bd2] 25))
  refine (implSlack_any _ _ _ _ _ _ _ c l v _ (by omega) (by omega) (Hc2.out.later HAl.out) (Hv2.out.later HAl.out)).mono ?_
  rintro e w3 ⟨rfl, hb1⟩
  have hb := bl_trans HAl.out hb1
  have HB3 := Lib.hid (bl_trans HB2.out hb)
  have Hc3 := Lib.hid (Hc2.out.later hb)
  have Hv3 := Lib.hid (Hv2.out.later hb)
  have Hu3 := Lib.hid (Hu2.out.later hb)
  replace a0 := kc hb a0
  replace a1 := kc hb a1
  clear hb hb1 HB2 Hc2 Hv2 Hu2 HAl
  go_wp2_with fail
  refine (specSlack_any _ _ _ _ _ _ _ c l v _ (by omega) (by omega) Hc3.out Hv3.out).mono ?_
  rintro e w4 ⟨rfl, hb⟩
  have HB4 := Lib.hid (bl_trans HB3.out hb)
  have Hc4 := Lib.hid (Hc3.out.later hb)
  have Hv4 := Lib.hid (Hv3.out.later hb)
  have Hu4 := Lib.hid (Hu3.out.later hb)
  replace a0 := kc hb a0
  replace a1 := kc hb a1
  clear hb HB3 Hc3 Hv3 Hu3
  cases hok : slkOk k c l bd kv v with
  | false =>
    clear hok
    go_wp2
    go_ret
    exact ⟨rfl, HB4.out⟩
  | true =>
    rw [slk_yes hok]
    by_cases hneg : slk k c l bd v < 0
    · have hd : decide (0 ≤ slk k c l bd v) = false := by simpa using hneg
      have Hneg := Lib.hid hneg
      clear hok hneg
      go_wp2_with fail
      refine (implExt_any _ _ _ _ _ _ v u _ (by omega) (by omega) Hv4.out Hu4.out).mono ?_
      rintro e w5 ⟨rfl, hb⟩
      have HB5 := Lib.hid (bl_trans HB4.out hb)
      have Hc5 := Lib.hid (Hc4.out.later hb)
      have Hu5 := Lib.hid (Hu4.out.later hb)
      replace a0 := kc hb a0
      replace a1 := kc hb a1
      clear hb HB4 Hc4 Hv4 Hu4
      cases hext : extB kv v ku u with
      | false =>
        clear hext
        go_wp2
        go_ret
        exact ⟨rfl, HB5.out⟩
      | true =>
        cases hev : evalV k c l bd ku u with
        | true => exact absurd (slack_conflict (by omega) Hneg.out hext hev) id
        | false =>
          have Hev := Lib.hid hev
          clear hext hev
          go_wp2_with fail
          refine (implEval_any _ _ _ _ _ _ _ c l u _ (by omega) Hc5.out Hu5.out).mono ?_
          rintro e w6 ⟨rfl, hb⟩
          have HB6 := Lib.hid (bl_trans HB5.out hb)
          clear hb
          rw [Hev.out]
          go_wp2
          go_ret
          exact ⟨rfl, HB6.out⟩
    · have hd : 0 ≤ slk k c l bd v := by omega
      clear hok hneg
      go_wp2
      go_ret
      exact ⟨rfl, HB4.out⟩

set_option maxRecDepth 100000 in
set_option maxHeartbeats 1600000 in
theorem lawFnSlackOf_walk (A0 : Option Addr) (n0 cap0 : Nat) (y0 : Nat → Int) (A1 : Option Addr) (n1 cap1 : Nat) (y1 : Nat → Int) (w : World) (hm0 : n0 ≤ maxLen) (hc0 : n0 ≤ cap0) (hr0 : RdY w w.heap.size A0 n0 y0) (hm1 : n1 ≤ maxLen) (hc1 : n1 ≤ cap1) (hr1 : RdY w w.heap.size A1 n1 y1) :
    Calls Try.prog 3 #[.slice A0 n0 cap0, .slice A1 n1 cap1] w fun e w' => e = .returned (.bool true) ∧ Below w.heap.size w w' := by
  by_cases h0 : n0 ≤ 1048576
  · by_cases h1 : n1 ≤ 1048576
    · exact lawFnSlackOf_ok A0 A1 n0 cap0 n1 cap1 y0 y1 w h0 h1 hc0 hc1 hr0 hr1
    · unfold maxLen at hm1
      have hi0 : ¬ (1048576 : Int) < (n0 : Int) := by omega
      have hi1 : (1048576 : Int) < (n1 : Int) := by omega
      go_enter Try.func3, Try.ntmps3
      go_wp2
      go_ret
      exact ⟨rfl, Below.refl _ _⟩
  · unfold maxLen at hm0
    have hi0 : (1048576 : Int) < (n0 : Int) := by omega
    go_enter Try.func3, Try.ntmps3
    go_wp2
    go_ret
    exact ⟨rfl, Below.refl _ _⟩
end Go.Proofs.Ytfgmkaajcbmlmaa
