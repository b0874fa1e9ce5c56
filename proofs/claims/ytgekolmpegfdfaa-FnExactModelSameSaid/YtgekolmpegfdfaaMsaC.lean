/- ModelSame: models compared (no claim of its own). Conditions: as each theorem states. -/
import Derived.Test.YtgekolmpegfdfaaMsaB
namespace Go.Proofs.Ytgekolmpegfdfaa
open Go.ChangeShapes Go.WideShapes Go.ChangeAt Go.RowKit

set_option maxRecDepth 100000 in
set_option maxHeartbeats 1600000 in
theorem eqfRules_any (n n' cap cap' : Nat) (r r' : Nat → Rul) (A A' : Option Addr) (w : World) (hn : n ≤ 1048576) (hn' : n' ≤ 1048576) (hf : ∀ i, i < n → (r i).fit 1048576) (hf' : ∀ i, i < n' → (r' i).fit 1048576) (hr : RdRs w w.heap.size A n r) (hr' : RdRs w w.heap.size A' n' r') :
    Calls Try.prog 46 #[.slice A n cap, .slice A' n' cap', .func (.func 47) #[] #[]] w fun e w' => e = .returned (.bool (n == n' && prE (fun i => ruE (r i) (r' i)) n)) ∧ Below w.heap.size w w' := by
  by_cases h : n = n'
  · subst h
    have Hd := Lib.hid (show (n == n && prE (fun i => ruE (r i) (r' i)) n) = prE (fun i => ruE (r i) (r' i)) n from by simp)
    have HF := Lib.hid hf
    have HF' := Lib.hid hf'
    clear hf hf'
    go_enter Try.func46, Try.ntmps46
    go_wp2
    go_loopw [17] (fun i wr => ∃ k : Nat, k ≤ n ∧ i = .int .i64 k ∧ prE (fun i => ruE (r i) (r' i)) k = true ∧ Below w.heap.size w wr) (fun i _ => n - (intOf i).toNat)
    case atStart => exact ⟨0, Nat.zero_le _, rfl, rfl, Below.refl _ _⟩
    case round =>
      obtain ⟨k, hk, rfl, hp, hb⟩ := hrel
      have Hp := Lib.hid hp
      clear hp
      by_cases hlt : k < n
      · obtain ⟨b, off, rfl, hbl, hc⟩ := (hr.below hb) (by omega)
        obtain ⟨b', off', rfl, hbl', hc'⟩ := (hr'.below hb) (by omega)
        obtain ⟨Av, cv, Ac, cc, Ar, cr, c0, c1, c2, c3, c4, hv, hcc, hrk⟩ := hc k hlt
        obtain ⟨Av', cv', Ac', cc', Ar', cr', d0, d1, d2, d3, d4, hv', hcc', hrk'⟩ := hc' k hlt
        have V1 := Lib.hid (hv.more hb.size)
        have C1 := Lib.hid (hcc.more hb.size)
        have R1 := Lib.hid (hrk.more hb.size)
        have V2 := Lib.hid (hv'.more hb.size)
        have C2 := Lib.hid (hcc'.more hb.size)
        have R2 := Lib.hid (hrk'.more hb.size)
        clear hc hc' hr hr' hrk hrk' hv hv' hcc hcc'
        have hlt' : (k : Int) < (n : Int) := by omega
        have hk0 : (0 : Int) ≤ (k : Int) := by omega
        have hbw : b < wr.heap.size := Nat.lt_of_lt_of_le hbl hb.size
        have hbw' : b' < wr.heap.size := Nat.lt_of_lt_of_le hbl' hb.size
        have HA := Lib.hid (bl_alloc (Below.refl wr.heap.size wr) (.cells #[.int .i64 (r k).k, .slice Av (r k).v.n cv, .slice Ac (r k).c.n cc, .int .i64 (r k).bd, .slice Ar (r k).n cr] 50))
        have e0 := kc HA.out d0
        have e1 := kc HA.out d1
        have e2 := kc HA.out d2
        have e3 := kc HA.out d3
        have e4 := kc HA.out d4
        go_wp2_with fail
        have HA2 := Lib.hid (fun o o' => bl_alloc (bl_alloc (Below.refl wr.heap.size wr) o) o')
        refine (sameRule_any (r k) (r' k) _ _ _ _ _ _ _ _ _ _ _ _ _ (HF.out k hlt) (HF'.out k hlt) (V1.out.later (HA2.out _ _)) (C1.out.later (HA2.out _ _)) (R1.out.later (HA2.out _ _)) (V2.out.later (HA2.out _ _)) (C2.out.later (HA2.out _ _)) (R2.out.later (HA2.out _ _))).mono ?_
        rintro e w2 ⟨rfl, hb2⟩
        have HB := Lib.hid (hb.trans ((bl_trans (HA2.out _ _) hb2).mono hb.size))
        clear hb2
        cases he : ruE (r k) (r' k) with
        | true =>
          have Hy := Lib.hid (prE_yes (e := fun i => ruE (r i) (r' i)) Hp.out he)
          clear he
          go_wp2
          go_roundw
          case rel => exact ⟨k + 1, by omega, by go_num, Hy.out, HB.out⟩
          case measure => simp [intOf]; omega
        | false =>
          have Hno := Lib.hid (prE_no (e := fun i => ruE (r i) (r' i)) hlt he)
          clear he
          go_wp2
          go_ret
          exact ⟨ret_bool (by rw [Hd.out, Hno.out]), HB.out⟩
      · have e : k = n := by omega
        subst e
        go_wp2
        go_ret
        exact ⟨ret_bool (by rw [Hd.out, Hp.out]), hb⟩
  · have Hd := Lib.hid (show (n == n' && prE (fun i => ruE (r i) (r' i)) n) = false from by simp [h])
    have hd : ((n : Int) != (n' : Int)) = true := by rw [bne_iff_ne]; omega
    go_enter Try.func46, Try.ntmps46
    go_wp2
    go_ret
    exact ⟨ret_bool Hd.out.symm, Below.refl _ _⟩


set_option maxRecDepth 100000 in
set_option maxHeartbeats 1600000 in
theorem implModelSame_any (s s' : Lst) (n n' : Nat) (q q' : Nat → Rul) (As Ar As' Ar' : Option Addr) (cs cr cs' cr' : Nat) (w : World) (p1 : s.n ≤ 1048576) (p1' : s'.n ≤ 1048576) (p3 : n ≤ 1048576) (p3' : n' ≤ 1048576) (p4 : ∀ i, i < n → (q i).fit 1048576) (p4' : ∀ i, i < n' → (q' i).fit 1048576) (hs : RdI w w.heap.size As s.n s.x) (hr : RdRs w w.heap.size Ar n q) (hs' : RdI w w.heap.size As' s'.n s'.x) (hr' : RdRs w w.heap.size Ar' n' q') :
    Calls Try.prog 16 #[.agg #[.slice As s.n cs, .slice Ar n cr], .agg #[.slice As' s'.n cs', .slice Ar' n' cr']] w fun e w' => e = .returned (.bool (mdE s s' n q n' q')) ∧ Below w.heap.size w w' := by
  have P4 := Lib.hid p4
  have P4' := Lib.hid p4'
  have HV := Lib.hid hs
  have HR := Lib.hid hr
  have HV' := Lib.hid hs'
  have HR' := Lib.hid hr'
  clear hs hr hs' hr' p4 p4'
  have Hru := Lib.hid (show mdE s s' n q n' q' = (lsE s s' && (n == n' && prE (fun i => ruE (q i) (q' i)) n)) from rfl)
  go_enter Try.func16, Try.ntmps16
  go_wp2_with fail
  have a1 : ((w.alloc (.cells #[.slice As s.n cs, .slice Ar n cr] 30)).alloc (.cells #[.slice As' s'.n cs', .slice Ar' n' cr'] 30)).cell? ⟨w.heap.size, 1, none⟩ = some (.slice Ar n cr) := by go_simp
  have b1 : ((w.alloc (.cells #[.slice As s.n cs, .slice Ar n cr] 30)).alloc (.cells #[.slice As' s'.n cs', .slice Ar' n' cr'] 30)).cell? ⟨w.heap.size + 1, 1, none⟩ = some (.slice Ar' n' cr') := by go_simp
  have HB := Lib.hid (bl_alloc (bl_alloc (Below.refl w.heap.size w) (.cells #[.slice As s.n cs, .slice Ar n cr] 30)) (.cells #[.slice As' s'.n cs', .slice Ar' n' cr'] 30))
  generalize ((w.alloc (.cells #[.slice As s.n cs, .slice Ar n cr] 30)).alloc (.cells #[.slice As' s'.n cs', .slice Ar' n' cr'] 30)) = w1 at *
  refine (sliceEq_any s s' _ _ _ _ _ p1 p1' (HV.out.later HB.out) (HV'.out.later HB.out)).mono ?_
  rintro e w2 ⟨rfl, hb⟩
  have HBn := Lib.hid (bl_trans HB.out hb)
  replace a1 := kc hb a1
  replace b1 := kc hb b1
  clear HB hb
  have HB := HBn
  clear HBn
  cases es : lsE s s' with
  | false =>
    have Hd := Lib.hid (show mdE s s' n q n' q' = false from by rw [Hru.out]; simp [es])
    clear es
    go_wp2
    go_ret
    exact ⟨ret_bool Hd.out.symm, HB.out⟩
  | true =>
  have Es := Lib.hid es
  clear es
  go_wp2_with fail
  refine (eqfRules_any _ _ _ _ q q' _ _ _ p3 p3' P4.out P4'.out (HR.out.later HB.out) (HR'.out.later HB.out)).mono ?_
  rintro e w4 ⟨rfl, hb⟩
  have HBn := Lib.hid (bl_trans HB.out hb)
  replace a1 := kc hb a1
  replace b1 := kc hb b1
  clear HB hb
  have HB := HBn
  clear HBn
  have Hd := Lib.hid (show mdE s s' n q n' q' = (n == n' && prE (fun i => ruE (q i) (q' i)) n) from by rw [Hru.out, Es.out]; rfl)
  go_wp2
  go_ret
  exact ⟨ret_bool Hd.out.symm, HB.out⟩

set_option maxRecDepth 100000 in
set_option maxHeartbeats 1600000 in
theorem specModelSame_any (s s' : Lst) (n n' : Nat) (q q' : Nat → Rul) (As Ar As' Ar' : Option Addr) (cs cr cs' cr' : Nat) (w : World) (p1 : s.n ≤ 1048576) (p1' : s'.n ≤ 1048576) (p3 : n ≤ 1048576) (p3' : n' ≤ 1048576) (p4 : ∀ i, i < n → (q i).fit 1048576) (p4' : ∀ i, i < n' → (q' i).fit 1048576) (hs : RdI w w.heap.size As s.n s.x) (hr : RdRs w w.heap.size Ar n q) (hs' : RdI w w.heap.size As' s'.n s'.x) (hr' : RdRs w w.heap.size Ar' n' q') :
    Calls Try.prog 15 #[.agg #[.slice As s.n cs, .slice Ar n cr], .agg #[.slice As' s'.n cs', .slice Ar' n' cr']] w fun e w' => e = .returned (.bool (mdE s s' n q n' q')) ∧ Below w.heap.size w w' := by
  have P4 := Lib.hid p4
  have P4' := Lib.hid p4'
  have HV := Lib.hid hs
  have HR := Lib.hid hr
  have HV' := Lib.hid hs'
  have HR' := Lib.hid hr'
  clear hs hr hs' hr' p4 p4'
  have Hru := Lib.hid (show mdE s s' n q n' q' = (lsE s s' && (n == n' && prE (fun i => ruE (q i) (q' i)) n)) from rfl)
  go_enter Try.func15, Try.ntmps15
  go_wp2_with fail
  have a1 : ((w.alloc (.cells #[.slice As s.n cs, .slice Ar n cr] 30)).alloc (.cells #[.slice As' s'.n cs', .slice Ar' n' cr'] 30)).cell? ⟨w.heap.size, 1, none⟩ = some (.slice Ar n cr) := by go_simp
  have b1 : ((w.alloc (.cells #[.slice As s.n cs, .slice Ar n cr] 30)).alloc (.cells #[.slice As' s'.n cs', .slice Ar' n' cr'] 30)).cell? ⟨w.heap.size + 1, 1, none⟩ = some (.slice Ar' n' cr') := by go_simp
  have HB := Lib.hid (bl_alloc (bl_alloc (Below.refl w.heap.size w) (.cells #[.slice As s.n cs, .slice Ar n cr] 30)) (.cells #[.slice As' s'.n cs', .slice Ar' n' cr'] 30))
  generalize ((w.alloc (.cells #[.slice As s.n cs, .slice Ar n cr] 30)).alloc (.cells #[.slice As' s'.n cs', .slice Ar' n' cr'] 30)) = w1 at *
  refine (l6Ints_any s s' _ _ _ _ _ p1 p1' (HV.out.later HB.out) (HV'.out.later HB.out)).mono ?_
  rintro e w2 ⟨rfl, hb⟩
  have HBn := Lib.hid (bl_trans HB.out hb)
  replace a1 := kc hb a1
  replace b1 := kc hb b1
  clear HB hb
  have HB := HBn
  clear HBn
  cases es : lsE s s' with
  | false =>
    have Hd := Lib.hid (show mdE s s' n q n' q' = false from by rw [Hru.out]; simp [es])
    clear es
    go_wp2
    go_ret
    exact ⟨ret_bool Hd.out.symm, HB.out⟩
  | true =>
  have Es := Lib.hid es
  clear es
  by_cases hn : n ≠ n'
  · have Hd := Lib.hid (show mdE s s' n q n' q' = false from by rw [Hru.out]; simp [hn])
    have hn2 : ((n : Int) != (n' : Int)) = true := by rw [bne_iff_ne]; omega
    go_wp2
    go_ret
    exact ⟨ret_bool Hd.out.symm, HB.out⟩
  obtain rfl := Decidable.not_not.1 hn
  clear hn
  have Hd := Lib.hid (show mdE s s' n q n q' = prE (fun i => ruE (q i) (q' i)) n from by rw [Hru.out, Es.out]; simp)
  have hr := HR.out.later HB.out
  have hr' := HR'.out.later HB.out
  clear HR HR' Hru Es
  go_wp2
  go_loopw [5] (fun i wr => ∃ k : Nat, k ≤ n ∧ i = .int .i64 k ∧ prE (fun i => ruE (q i) (q' i)) k = true ∧ Below w2.heap.size w2 wr) (fun i _ => n - (intOf i).toNat)
  case atStart => exact ⟨0, Nat.zero_le _, rfl, rfl, Below.refl _ _⟩
  case round =>
    obtain ⟨j, hj, rfl, hp, hb⟩ := hrel
    have Hp := Lib.hid hp
    clear hp
    replace a1 := kc hb a1
    replace b1 := kc hb b1
    by_cases hlt : j < n
    · obtain ⟨b, off, rfl, hbl, hc⟩ := (hr.below hb) (by omega)
      obtain ⟨b', off', rfl, hbl', hc'⟩ := (hr'.below hb) (by omega)
      obtain ⟨Av, cv, Ac, cc, Ar, cr, c0, c1, c2, c3, c4, hv, hcc, hrk⟩ := hc j hlt
      obtain ⟨Av', cv', Ac', cc', Ar', cr', d0, d1, d2, d3, d4, hv', hcc', hrk'⟩ := hc' j hlt
      have V1 := Lib.hid ((hv.more hb.size).later ((Below.refl _ _).drew))
      have C1 := Lib.hid ((hcc.more hb.size).later ((Below.refl _ _).drew))
      have R1 := Lib.hid ((hrk.more hb.size).later ((Below.refl _ _).drew))
      have V2 := Lib.hid ((hv'.more hb.size).later ((Below.refl _ _).drew))
      have C2 := Lib.hid ((hcc'.more hb.size).later ((Below.refl _ _).drew))
      have R2 := Lib.hid ((hrk'.more hb.size).later ((Below.refl _ _).drew))
      clear hc hc' hr hr' hrk hrk' hv hv' hcc hcc'
      have hlt' : (j : Int) < (n : Int) := by omega
      have hk0 : (0 : Int) ≤ (j : Int) := by omega
      go_wp2_with fail
      go_still_tail 10, (by kernel_rfl)
      change wpList _ _ _ _ _ wr.drew
      go_wp2_with fail
      refine (l6SameRule_any (q j) (q' j) _ _ _ _ _ _ _ _ _ _ _ _ _ (P4.out j hlt) (P4'.out j hlt) V1.out C1.out R1.out V2.out C2.out R2.out).mono ?_
      rintro e w5 ⟨rfl, hb2⟩
      have HB2 := Lib.hid (hb.drew.trans (hb2.mono hb.size))
      clear hb2
      cases he : ruE (q j) (q' j) with
      | true =>
        have Hy := Lib.hid (prE_yes (e := fun i => ruE (q i) (q' i)) Hp.out he)
        clear he
        go_wp2
        go_roundw
        case rel => exact ⟨j + 1, by omega, by go_num, Hy.out, HB2.out⟩
        case measure => simp [intOf]; omega
      | false =>
        have Hno := Lib.hid (prE_no (e := fun i => ruE (q i) (q' i)) hlt he)
        clear he
        go_wp2
        go_ret
        exact ⟨ret_bool (by rw [Hd.out, Hno.out]), bl_trans HB.out HB2.out⟩
    · have e : j = n := by omega
      subst e
      go_wp2
      go_ret
      exact ⟨ret_bool (by rw [Hd.out, Hp.out]), bl_trans HB.out hb⟩
end Go.Proofs.Ytgekolmpegfdfaa
