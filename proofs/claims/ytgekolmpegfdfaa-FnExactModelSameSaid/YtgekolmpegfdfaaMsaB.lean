/- ModelSame: rules compared (no claim of its own). Conditions: as each theorem states. -/
import Derived.Test.YtgekolmpegfdfaaMsaA
namespace Go.Proofs.Ytgekolmpegfdfaa
open Go.ChangeShapes Go.WideShapes Go.ChangeAt Go.RowKit

set_option maxRecDepth 100000 in
set_option maxHeartbeats 1600000 in
theorem eqfRows_any (n n' cap cap' : Nat) (r r' : Nat → Lst) (A A' : Option Addr) (w : World) (hn : n ≤ 1048576) (hn' : n' ≤ 1048576) (hf : ∀ i, i < n → (r i).n ≤ 1048576) (hf' : ∀ i, i < n' → (r' i).n ≤ 1048576) (hr : RdL w w.heap.size A n r) (hr' : RdL w w.heap.size A' n' r') :
    Calls Try.prog 69 #[.slice A n cap, .slice A' n' cap', .func (.func 45) #[] #[]] w fun e w' => e = .returned (.bool (rwE n r n' r')) ∧ Below w.heap.size w w' := by
  by_cases h : n = n'
  · subst h
    have Hd := Lib.hid (show rwE n r n r' = prE (fun i => lsE (r i) (r' i)) n from by simp [rwE])
    have HF := Lib.hid hf
    have HF' := Lib.hid hf'
    clear hf hf'
    go_enter Try.func69, Try.ntmps69
    go_wp2
    go_loopw [17] (fun i wr => ∃ k : Nat, k ≤ n ∧ i = .int .i64 k ∧ prE (fun i => lsE (r i) (r' i)) k = true ∧ Below w.heap.size w wr) (fun i _ => n - (intOf i).toNat)
    case atStart => exact ⟨0, Nat.zero_le _, rfl, rfl, Below.refl _ _⟩
    case round =>
      obtain ⟨k, hk, rfl, hp, hb⟩ := hrel
      have Hp := Lib.hid hp
      clear hp
      by_cases hlt : k < n
      · obtain ⟨b, off, rfl, hbl, hc⟩ := (hr.below hb) (by omega)
        obtain ⟨b', off', rfl, hbl', hc'⟩ := (hr'.below hb) (by omega)
        obtain ⟨Ai, ci, hc1, hrk⟩ := hc k hlt
        obtain ⟨Ai', ci', hc2, hrk'⟩ := hc' k hlt
        have R1 := Lib.hid (hrk.more hb.size)
        have R2 := Lib.hid (hrk'.more hb.size)
        clear hc hc' hr hr' hrk hrk'
        have hlt' : (k : Int) < (n : Int) := by omega
        have hk0 : (0 : Int) ≤ (k : Int) := by omega
        go_wp2_with fail
        refine (sliceEq_any (r k) (r' k) _ _ _ _ _ (HF.out k hlt) (HF'.out k hlt) R1.out R2.out).mono ?_
        rintro e w2 ⟨rfl, hb2⟩
        have HB := Lib.hid (hb.trans (hb2.mono hb.size))
        clear hb2
        cases he : lsE (r k) (r' k) with
        | true =>
          have Hy := Lib.hid (prE_yes (e := fun i => lsE (r i) (r' i)) Hp.out he)
          clear he
          go_wp2
          go_roundw
          case rel => exact ⟨k + 1, by omega, by go_num, Hy.out, HB.out⟩
          case measure => simp [intOf]; omega
        | false =>
          have Hno := Lib.hid (prE_no (e := fun i => lsE (r i) (r' i)) hlt he)
          clear he
          go_wp2
          go_ret
          exact ⟨ret_bool (by rw [Hd.out, Hno.out]), HB.out⟩
      · have e : k = n := by omega
        subst e
        go_wp2
        go_ret
        exact ⟨ret_bool (by rw [Hd.out, Hp.out]), hb⟩
  · have Hd := Lib.hid (show rwE n r n' r' = false from by simp [rwE, h])
    have hd : ((n : Int) != (n' : Int)) = true := by rw [bne_iff_ne]; omega
    go_enter Try.func69, Try.ntmps69
    go_wp2
    go_ret
    exact ⟨ret_bool Hd.out.symm, Below.refl _ _⟩


set_option maxRecDepth 100000 in
set_option maxHeartbeats 1600000 in
theorem sameRule_any (q q' : Rul) (Av Ac Ar Av' Ac' Ar' : Option Addr) (cv cc cr cv' cc' cr' : Nat) (w : World) (h1 : q.fit 1048576) (h2 : q'.fit 1048576) (hv : RdI w w.heap.size Av q.v.n q.v.x) (hc : RdI w w.heap.size Ac q.c.n q.c.x) (hr : RdL w w.heap.size Ar q.n q.r) (hv' : RdI w w.heap.size Av' q'.v.n q'.v.x) (hc' : RdI w w.heap.size Ac' q'.c.n q'.c.x) (hr' : RdL w w.heap.size Ar' q'.n q'.r) :
    Calls Try.prog 47 #[.agg #[.int .i64 q.k, .slice Av q.v.n cv, .slice Ac q.c.n cc, .int .i64 q.bd, .slice Ar q.n cr], .agg #[.int .i64 q'.k, .slice Av' q'.v.n cv', .slice Ac' q'.c.n cc', .int .i64 q'.bd, .slice Ar' q'.n cr']] w fun e w' => e = .returned (.bool (ruE q q')) ∧ Below w.heap.size w w' := by
  obtain ⟨k, v, c, bd, n, r⟩ := q
  obtain ⟨k', v', c', bd', n', r'⟩ := q'
  obtain ⟨p1, p2, p3, p4⟩ := h1
  obtain ⟨p1', p2', p3', p4'⟩ := h2
  simp only at p1 p2 p3 p4 p1' p2' p3' p4' hv hc hr hv' hc' hr' ⊢
  have P4 := Lib.hid p4
  have P4' := Lib.hid p4'
  have HV := Lib.hid hv
  have HC := Lib.hid hc
  have HR := Lib.hid hr
  have HV' := Lib.hid hv'
  have HC' := Lib.hid hc'
  have HR' := Lib.hid hr'
  clear hv hc hr hv' hc' hr' p4 p4'
  have HA := Lib.hid (bl_alloc (bl_alloc (Below.refl w.heap.size w) (.cells #[.int .i64 k, .slice Av v.n cv, .slice Ac c.n cc, .int .i64 bd, .slice Ar n cr] 50)) (.cells #[.int .i64 k', .slice Av' v'.n cv', .slice Ac' c'.n cc', .int .i64 bd', .slice Ar' n' cr'] 50))
  by_cases hk : k ≠ k'
  · have Hd := Lib.hid (show ruE ⟨k, v, c, bd, n, r⟩ ⟨k', v', c', bd', n', r'⟩ = false from by simp [ruE, hk])
    have hk1 : (k == k') = false := by simpa using hk
    have hk2 : (k != k') = true := by simpa using hk
    go_enter Try.func47, Try.ntmps47
    go_wp2
    go_ret
    exact ⟨ret_bool Hd.out.symm, HA.out⟩
  obtain rfl := Decidable.not_not.1 hk
  clear hk
  by_cases hb : bd ≠ bd'
  · have Hd := Lib.hid (show ruE ⟨k, v, c, bd, n, r⟩ ⟨k, v', c', bd', n', r'⟩ = false from by simp [ruE, hb])
    have hk1 : (bd == bd') = false := by simpa using hb
    have hk2 : (bd != bd') = true := by simpa using hb
    go_enter Try.func47, Try.ntmps47
    go_wp2
    go_ret
    exact ⟨ret_bool Hd.out.symm, HA.out⟩
  obtain rfl := Decidable.not_not.1 hb
  clear hb
  have Hru := Lib.hid (show ruE ⟨k, v, c, bd, n, r⟩ ⟨k, v', c', bd, n', r'⟩ = (lsE v v' && (lsE c c' && rwE n r n' r')) from by simp [ruE])
  clear HA
  go_enter Try.func47, Try.ntmps47
  go_wp2_with fail
  have a2 : ((w.alloc (.cells #[.int .i64 k, .slice Av v.n cv, .slice Ac c.n cc, .int .i64 bd, .slice Ar n cr] 50)).alloc (.cells #[.int .i64 k, .slice Av' v'.n cv', .slice Ac' c'.n cc', .int .i64 bd, .slice Ar' n' cr'] 50)).cell? ⟨w.heap.size, 2, none⟩ = some (.slice Ac c.n cc) := by go_simp
  have b2 : ((w.alloc (.cells #[.int .i64 k, .slice Av v.n cv, .slice Ac c.n cc, .int .i64 bd, .slice Ar n cr] 50)).alloc (.cells #[.int .i64 k, .slice Av' v'.n cv', .slice Ac' c'.n cc', .int .i64 bd, .slice Ar' n' cr'] 50)).cell? ⟨w.heap.size + 1, 2, none⟩ = some (.slice Ac' c'.n cc') := by go_simp
  have a4 : ((w.alloc (.cells #[.int .i64 k, .slice Av v.n cv, .slice Ac c.n cc, .int .i64 bd, .slice Ar n cr] 50)).alloc (.cells #[.int .i64 k, .slice Av' v'.n cv', .slice Ac' c'.n cc', .int .i64 bd, .slice Ar' n' cr'] 50)).cell? ⟨w.heap.size, 4, none⟩ = some (.slice Ar n cr) := by go_simp
  have b4 : ((w.alloc (.cells #[.int .i64 k, .slice Av v.n cv, .slice Ac c.n cc, .int .i64 bd, .slice Ar n cr] 50)).alloc (.cells #[.int .i64 k, .slice Av' v'.n cv', .slice Ac' c'.n cc', .int .i64 bd, .slice Ar' n' cr'] 50)).cell? ⟨w.heap.size + 1, 4, none⟩ = some (.slice Ar' n' cr') := by go_simp
  have HB := Lib.hid (bl_alloc (bl_alloc (Below.refl w.heap.size w) (.cells #[.int .i64 k, .slice Av v.n cv, .slice Ac c.n cc, .int .i64 bd, .slice Ar n cr] 50)) (.cells #[.int .i64 k, .slice Av' v'.n cv', .slice Ac' c'.n cc', .int .i64 bd, .slice Ar' n' cr'] 50))
  generalize ((w.alloc (.cells #[.int .i64 k, .slice Av v.n cv, .slice Ac c.n cc, .int .i64 bd, .slice Ar n cr] 50)).alloc (.cells #[.int .i64 k, .slice Av' v'.n cv', .slice Ac' c'.n cc', .int .i64 bd, .slice Ar' n' cr'] 50)) = w1 at *
  refine (sliceEq_any v v' _ _ _ _ _ p1 p1' (HV.out.later HB.out) (HV'.out.later HB.out)).mono ?_
  rintro e w2 ⟨rfl, hb⟩
  have HBn := Lib.hid (bl_trans HB.out hb)
  replace a2 := kc hb a2
  replace b2 := kc hb b2
  replace a4 := kc hb a4
  replace b4 := kc hb b4
  clear HB hb
  have HB := HBn
  clear HBn
  cases ev : lsE v v' with
  | false =>
    have Hd := Lib.hid (show ruE ⟨k, v, c, bd, n, r⟩ ⟨k, v', c', bd, n', r'⟩ = false from by rw [Hru.out]; simp [ev])
    clear ev
    go_wp2
    go_ret
    exact ⟨ret_bool Hd.out.symm, HB.out⟩
  | true =>
  have Ev := Lib.hid ev
  clear ev
  go_wp2_with fail
  refine (sliceEq_any c c' _ _ _ _ _ p2 p2' (HC.out.later HB.out) (HC'.out.later HB.out)).mono ?_
  rintro e w3 ⟨rfl, hb⟩
  have HBn := Lib.hid (bl_trans HB.out hb)
  replace a2 := kc hb a2
  replace b2 := kc hb b2
  replace a4 := kc hb a4
  replace b4 := kc hb b4
  clear HB hb
  have HB := HBn
  clear HBn
  cases ec : lsE c c' with
  | false =>
    have Hd := Lib.hid (show ruE ⟨k, v, c, bd, n, r⟩ ⟨k, v', c', bd, n', r'⟩ = false from by rw [Hru.out]; simp [ec])
    clear ec
    go_wp2
    go_ret
    exact ⟨ret_bool Hd.out.symm, HB.out⟩
  | true =>
  have Ec := Lib.hid ec
  clear ec
  go_wp2_with fail
  refine (eqfRows_any _ _ _ _ r r' _ _ _ p3 p3' P4.out P4'.out (HR.out.later HB.out) (HR'.out.later HB.out)).mono ?_
  rintro e w4 ⟨rfl, hb⟩
  have HBn := Lib.hid (bl_trans HB.out hb)
  replace a2 := kc hb a2
  replace b2 := kc hb b2
  replace a4 := kc hb a4
  replace b4 := kc hb b4
  clear HB hb
  have HB := HBn
  clear HBn
  have Hd := Lib.hid (show ruE ⟨k, v, c, bd, n, r⟩ ⟨k, v', c', bd, n', r'⟩ = rwE n r n' r' from by rw [Hru.out, Ev.out, Ec.out]; rfl)
  go_wp2
  go_ret
  exact ⟨ret_bool Hd.out.symm, HB.out⟩

set_option maxRecDepth 100000 in
set_option maxHeartbeats 1600000 in
theorem l6SameRule_any (q q' : Rul) (Av Ac Ar Av' Ac' Ar' : Option Addr) (cv cc cr cv' cc' cr' : Nat) (w : World) (h1 : q.fit 1048576) (h2 : q'.fit 1048576) (hv : RdI w w.heap.size Av q.v.n q.v.x) (hc : RdI w w.heap.size Ac q.c.n q.c.x) (hr : RdL w w.heap.size Ar q.n q.r) (hv' : RdI w w.heap.size Av' q'.v.n q'.v.x) (hc' : RdI w w.heap.size Ac' q'.c.n q'.c.x) (hr' : RdL w w.heap.size Ar' q'.n q'.r) :
    Calls Try.prog 44 #[.agg #[.int .i64 q.k, .slice Av q.v.n cv, .slice Ac q.c.n cc, .int .i64 q.bd, .slice Ar q.n cr], .agg #[.int .i64 q'.k, .slice Av' q'.v.n cv', .slice Ac' q'.c.n cc', .int .i64 q'.bd, .slice Ar' q'.n cr']] w fun e w' => e = .returned (.bool (ruE q q')) ∧ Below w.heap.size w w' := by
  obtain ⟨k, v, c, bd, n, r⟩ := q
  obtain ⟨k', v', c', bd', n', r'⟩ := q'
  obtain ⟨p1, p2, p3, p4⟩ := h1
  obtain ⟨p1', p2', p3', p4'⟩ := h2
  simp only at p1 p2 p3 p4 p1' p2' p3' p4' hv hc hr hv' hc' hr' ⊢
  have P4 := Lib.hid p4
  have P4' := Lib.hid p4'
  have HV := Lib.hid hv
  have HC := Lib.hid hc
  have HR := Lib.hid hr
  have HV' := Lib.hid hv'
  have HC' := Lib.hid hc'
  have HR' := Lib.hid hr'
  clear hv hc hr hv' hc' hr' p4 p4'
  have HA := Lib.hid (bl_alloc (bl_alloc (Below.refl w.heap.size w) (.cells #[.int .i64 k, .slice Av v.n cv, .slice Ac c.n cc, .int .i64 bd, .slice Ar n cr] 50)) (.cells #[.int .i64 k', .slice Av' v'.n cv', .slice Ac' c'.n cc', .int .i64 bd', .slice Ar' n' cr'] 50))
  by_cases hk : k ≠ k'
  · have Hd := Lib.hid (show ruE ⟨k, v, c, bd, n, r⟩ ⟨k', v', c', bd', n', r'⟩ = false from by simp [ruE, hk])
    have hk1 : (k == k') = false := by simpa using hk
    have hk2 : (k != k') = true := by simpa using hk
    go_enter Try.func44, Try.ntmps44
    go_wp2
    go_ret
    exact ⟨ret_bool Hd.out.symm, HA.out⟩
  obtain rfl := Decidable.not_not.1 hk
  clear hk
  by_cases hb : bd ≠ bd'
  · have Hd := Lib.hid (show ruE ⟨k, v, c, bd, n, r⟩ ⟨k, v', c', bd', n', r'⟩ = false from by simp [ruE, hb])
    have hk1 : (bd == bd') = false := by simpa using hb
    have hk2 : (bd != bd') = true := by simpa using hb
    go_enter Try.func44, Try.ntmps44
    go_wp2
    go_ret
    exact ⟨ret_bool Hd.out.symm, HA.out⟩
  obtain rfl := Decidable.not_not.1 hb
  clear hb
  have Hru := Lib.hid (show ruE ⟨k, v, c, bd, n, r⟩ ⟨k, v', c', bd, n', r'⟩ = (lsE v v' && (lsE c c' && rwE n r n' r')) from by simp [ruE])
  clear HA
  go_enter Try.func44, Try.ntmps44
  go_wp2_with fail
  have a2 : ((w.alloc (.cells #[.int .i64 k, .slice Av v.n cv, .slice Ac c.n cc, .int .i64 bd, .slice Ar n cr] 50)).alloc (.cells #[.int .i64 k, .slice Av' v'.n cv', .slice Ac' c'.n cc', .int .i64 bd, .slice Ar' n' cr'] 50)).cell? ⟨w.heap.size, 2, none⟩ = some (.slice Ac c.n cc) := by go_simp
  have b2 : ((w.alloc (.cells #[.int .i64 k, .slice Av v.n cv, .slice Ac c.n cc, .int .i64 bd, .slice Ar n cr] 50)).alloc (.cells #[.int .i64 k, .slice Av' v'.n cv', .slice Ac' c'.n cc', .int .i64 bd, .slice Ar' n' cr'] 50)).cell? ⟨w.heap.size + 1, 2, none⟩ = some (.slice Ac' c'.n cc') := by go_simp
  have a4 : ((w.alloc (.cells #[.int .i64 k, .slice Av v.n cv, .slice Ac c.n cc, .int .i64 bd, .slice Ar n cr] 50)).alloc (.cells #[.int .i64 k, .slice Av' v'.n cv', .slice Ac' c'.n cc', .int .i64 bd, .slice Ar' n' cr'] 50)).cell? ⟨w.heap.size, 4, none⟩ = some (.slice Ar n cr) := by go_simp
  have b4 : ((w.alloc (.cells #[.int .i64 k, .slice Av v.n cv, .slice Ac c.n cc, .int .i64 bd, .slice Ar n cr] 50)).alloc (.cells #[.int .i64 k, .slice Av' v'.n cv', .slice Ac' c'.n cc', .int .i64 bd, .slice Ar' n' cr'] 50)).cell? ⟨w.heap.size + 1, 4, none⟩ = some (.slice Ar' n' cr') := by go_simp
  have HB := Lib.hid (bl_alloc (bl_alloc (Below.refl w.heap.size w) (.cells #[.int .i64 k, .slice Av v.n cv, .slice Ac c.n cc, .int .i64 bd, .slice Ar n cr] 50)) (.cells #[.int .i64 k, .slice Av' v'.n cv', .slice Ac' c'.n cc', .int .i64 bd, .slice Ar' n' cr'] 50))
  generalize ((w.alloc (.cells #[.int .i64 k, .slice Av v.n cv, .slice Ac c.n cc, .int .i64 bd, .slice Ar n cr] 50)).alloc (.cells #[.int .i64 k, .slice Av' v'.n cv', .slice Ac' c'.n cc', .int .i64 bd, .slice Ar' n' cr'] 50)) = w1 at *
  refine (l6Ints_any v v' _ _ _ _ _ p1 p1' (HV.out.later HB.out) (HV'.out.later HB.out)).mono ?_
  rintro e w2 ⟨rfl, hb⟩
  have HBn := Lib.hid (bl_trans HB.out hb)
  replace a2 := kc hb a2
  replace b2 := kc hb b2
  replace a4 := kc hb a4
  replace b4 := kc hb b4
  clear HB hb
  have HB := HBn
  clear HBn
  cases ev : lsE v v' with
  | false =>
    have Hd := Lib.hid (show ruE ⟨k, v, c, bd, n, r⟩ ⟨k, v', c', bd, n', r'⟩ = false from by rw [Hru.out]; simp [ev])
    clear ev
    go_wp2
    go_ret
    exact ⟨ret_bool Hd.out.symm, HB.out⟩
  | true =>
  have Ev := Lib.hid ev
  clear ev
  go_wp2_with fail
  refine (l6Ints_any c c' _ _ _ _ _ p2 p2' (HC.out.later HB.out) (HC'.out.later HB.out)).mono ?_
  rintro e w3 ⟨rfl, hb⟩
  have HBn := Lib.hid (bl_trans HB.out hb)
  replace a2 := kc hb a2
  replace b2 := kc hb b2
  replace a4 := kc hb a4
  replace b4 := kc hb b4
  clear HB hb
  have HB := HBn
  clear HBn
  cases ec : lsE c c' with
  | false =>
    have Hd := Lib.hid (show ruE ⟨k, v, c, bd, n, r⟩ ⟨k, v', c', bd, n', r'⟩ = false from by rw [Hru.out]; simp [ec])
    clear ec
    go_wp2
    go_ret
    exact ⟨ret_bool Hd.out.symm, HB.out⟩
  | true =>
  have Ec := Lib.hid ec
  clear ec
  by_cases hn : n ≠ n'
  · have Hd := Lib.hid (show ruE ⟨k, v, c, bd, n, r⟩ ⟨k, v', c', bd, n', r'⟩ = false from by rw [Hru.out]; simp [rwE, hn])
    have hn2 : ((n : Int) != (n' : Int)) = true := by rw [bne_iff_ne]; omega
    go_wp2
    go_ret
    exact ⟨ret_bool Hd.out.symm, HB.out⟩
  obtain rfl := Decidable.not_not.1 hn
  clear hn
  have Hd := Lib.hid (show ruE ⟨k, v, c, bd, n, r⟩ ⟨k, v', c', bd, n, r'⟩ = prE (fun i => lsE (r i) (r' i)) n from by rw [Hru.out, Ev.out, Ec.out]; simp [rwE])
  have hr := HR.out.later HB.out
  have hr' := HR'.out.later HB.out
  clear HR HR' Hru Ev Ec a2 b2
  go_wp2
  go_loopw [5] (fun i wr => ∃ k : Nat, k ≤ n ∧ i = .int .i64 k ∧ prE (fun i => lsE (r i) (r' i)) k = true ∧ Below w3.heap.size w3 wr) (fun i _ => n - (intOf i).toNat)
  case atStart => exact ⟨0, Nat.zero_le _, rfl, rfl, Below.refl _ _⟩
  case round =>
    obtain ⟨j, hj, rfl, hp, hb⟩ := hrel
    have Hp := Lib.hid hp
    clear hp
    replace a4 := kc hb a4
    replace b4 := kc hb b4
    by_cases hlt : j < n
    · obtain ⟨b, off, rfl, hbl, hc⟩ := (hr.below hb) (by omega)
      obtain ⟨b', off', rfl, hbl', hc'⟩ := (hr'.below hb) (by omega)
      obtain ⟨Ai, ci, hc1, hrk⟩ := hc j hlt
      obtain ⟨Ai', ci', hc2, hrk'⟩ := hc' j hlt
      have R1 := Lib.hid ((hrk.more hb.size).later ((Below.refl _ _).drew))
      have R2 := Lib.hid ((hrk'.more hb.size).later ((Below.refl _ _).drew))
      clear hc hc' hr hr' hrk hrk'
      have hlt' : (j : Int) < (n : Int) := by omega
      have hk0 : (0 : Int) ≤ (j : Int) := by omega
      go_wp2_with fail
      go_still_tail 10, (by kernel_rfl)
      change wpList _ _ _ _ _ wr.drew
      go_wp2_with fail
      refine (l6Ints_any (r j) (r' j) _ _ _ _ _ (P4.out j hlt) (P4'.out j hlt) R1.out R2.out).mono ?_
      rintro e w5 ⟨rfl, hb2⟩
      have HB2 := Lib.hid (hb.drew.trans (hb2.mono hb.size))
      clear hb2
      cases he : lsE (r j) (r' j) with
      | true =>
        have Hy := Lib.hid (prE_yes (e := fun i => lsE (r i) (r' i)) Hp.out he)
        clear he
        go_wp2
        go_roundw
        case rel => exact ⟨j + 1, by omega, by go_num, Hy.out, HB2.out⟩
        case measure => simp [intOf]; omega
      | false =>
        have Hno := Lib.hid (prE_no (e := fun i => lsE (r i) (r' i)) hlt he)
        clear he
        go_wp2
        go_ret
        exact ⟨ret_bool (by rw [Hd.out, Hno.out]), bl_trans HB.out HB2.out⟩
    · have e : j = n := by omega
      subst e
      go_wp2
      go_ret
      exact ⟨ret_bool (by rw [Hd.out, Hp.out]), bl_trans HB.out hb⟩
end Go.Proofs.Ytgekolmpegfdfaa
