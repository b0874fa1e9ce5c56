/- BoolVar, FreeVars: the program's side, whole (no claim of its own). Conditions: as each theorem states. -/
import Derived.Test.YthjcbaccoogloaaBviA
namespace Go.Proofs.Ythjcbaccoogloaa
open Go.ChangeShapes Go.WideShapes Go.ChangeAt Go.RowKit

set_option linter.unusedSimpArgs false in
set_option maxRecDepth 100000 in
set_option maxHeartbeats 1600000 in
theorem implFree_any (s : Lst) (n : Nat) (q : Nat → Rul) (As Ar : Option Addr) (cs cr : Nat) (w : World) (p1 : s.n ≤ 1048576) (p3 : n ≤ 1048576) (p4 : ∀ i, i < n → (q i).fit 1048576) (hs : RdI w w.heap.size As s.n s.x) (hr : RdRs w w.heap.size Ar n q) :
    Calls Try.prog 23 #[.agg #[.slice As s.n cs, .slice Ar n cr]] w fun e w' => e = .returned (.int .i64 (fvI s n q)) ∧ Below w.heap.size w w' := by
  have HS := Lib.hid hs
  have HR := Lib.hid hr
  have P4 := Lib.hid p4
  clear hs hr p4
  have HA := Lib.hid (bl_alloc (Below.refl w.heap.size w))
  go_enter Try.func23, Try.ntmps23
  go_wp2_with fail
  have a0 : (w.alloc (.cells #[.slice As s.n cs, .slice Ar n cr] 26)).cell? ⟨w.heap.size, 0, none⟩ = some (.slice As s.n cs) := by go_simp
  have a1 : (w.alloc (.cells #[.slice As s.n cs, .slice Ar n cr] 26)).cell? ⟨w.heap.size, 1, none⟩ = some (.slice Ar n cr) := by go_simp
  have HB := Lib.hid (HA.out (.cells #[.slice As s.n cs, .slice Ar n cr] 26))
  clear HA
  generalize (w.alloc (.cells #[.slice As s.n cs, .slice Ar n cr] 26)) = w1 at *
  refine (implValidM_any s n q _ _ _ _ _ p1 p3 P4.out (HS.out.later HB.out) (HR.out.later HB.out)).mono ?_
  rintro e w2 ⟨rfl, hb⟩
  have HB2 := Lib.hid (bl_trans HB.out hb)
  replace a0 := kc hb a0
  replace a1 := kc hb a1
  clear hb HB
  cases hm : modB s n q with
  | false =>
    have He := Lib.hid (show fvI s n q = 0 from ite_no hm)
    clear hm
    go_wp2
    go_ret
    exact ⟨ret_int He.out.symm, HB2.out⟩
  | true =>
    have He := Lib.hid (show fvI s n q = 12 - tS s.x s.n from ite_yes hm)
    obtain ⟨m1, m2, m3, m4, -, -⟩ := mod_parts hm
    have M3 := Lib.hid m3
    have tb := (tS_bd m3).1
    clear hm m3
    go_wp2_with fail
    obtain ⟨H, hHe⟩ : ∃ H, w.heap.size = H := ⟨_, rfl⟩
    rw [hHe] at a0 a1 ⊢
    refine wp_region_held_drew (S := fun w' => w'.cell? ⟨H, 0, none⟩ = some (.slice As s.n cs) ∧ w'.cell? ⟨H, 1, none⟩ = some (.slice Ar n cr)) (by kernel_rfl) ⟨by simpa using a0, by simpa using a1⟩ (fun hHeld => ?_)
    refine wpAnyH_take (i := 0) (v := .agg #[.slice As s.n cs, .slice Ar n cr]) rfl (by kernel_rfl) (by kernel_rfl) (by kernel_rfl) (fun _ _ _ h => h) (Or.inl ⟨by rfl, ?_⟩) (by assumption) ?_
    · intro w hSw; obtain ⟨s0, s1⟩ := hSw; simp only [List.getElem_toArray, List.getElem_cons_zero, List.getElem_cons_succ]; (first | (go_simp; done) | rfl | kernel_rfl)
    try simp only [Act.put, List.getElem_toArray, List.getElem_cons_zero, List.getElem_cons_succ, List.setIfInBounds_toArray, List.set_cons_zero, List.set_cons_succ]
    refine wpAnyH_take (i := 3) (v := .pointer (some ⟨H, 0, none⟩)) rfl (by kernel_rfl) (by kernel_rfl) (by kernel_rfl) (fun _ _ _ h => h) (Or.inl ⟨by rfl, ?_⟩) (by assumption) ?_
    · intro w hSw; simp only [List.getElem_toArray, List.getElem_cons_zero, List.getElem_cons_succ]; (first | (go_simp; done) | rfl | kernel_rfl)
    try simp only [Act.put, List.getElem_toArray, List.getElem_cons_zero, List.getElem_cons_succ, List.setIfInBounds_toArray, List.set_cons_zero, List.set_cons_succ]
    refine wpAnyH_take (i := 4) (v := .slice As s.n cs) rfl (by kernel_rfl) (by kernel_rfl) (by kernel_rfl) (fun _ _ _ h => h) (Or.inl ⟨by rfl, ?_⟩) (by assumption) ?_
    · intro w hSw; obtain ⟨s0, s1⟩ := hSw; simp only [List.getElem_toArray, List.getElem_cons_zero, List.getElem_cons_succ]; (first | (go_simp; done) | rfl | kernel_rfl)
    try simp only [Act.put, List.getElem_toArray, List.getElem_cons_zero, List.getElem_cons_succ, List.setIfInBounds_toArray, List.set_cons_zero, List.set_cons_succ]
    refine wpAnyH_take (i := 5) (v := .int .i64 s.n) rfl (by kernel_rfl) (by kernel_rfl) (by kernel_rfl) (fun _ _ _ h => h) (Or.inl ⟨by rfl, ?_⟩) (by assumption) ?_
    · intro w hSw; simp only [List.getElem_toArray, List.getElem_cons_zero, List.getElem_cons_succ]; (first | (go_simp; done) | rfl | kernel_rfl)
    try simp only [Act.put, List.getElem_toArray, List.getElem_cons_zero, List.getElem_cons_succ, List.setIfInBounds_toArray, List.set_cons_zero, List.set_cons_succ]
    clear hHeld
    refine wpAnyH_ready (rs := [1]) (by kernel_rfl) (by simp) ?_
    refine AllReadyH.cons rfl (fun K hK => ?_) AllReadyH.nil
    simp only [List.getElem_toArray, List.getElem_cons_zero, List.getElem_cons_succ]
    go_simp
    go_at_call 59
    refine (newEnc_any s n _ _ _ _ _ m2 M3.out (HS.out.later (bl_trans HB2.out (Below.refl w2.heap.size w2).drew))).mono ?_
    rintro e w3 ⟨A, cap, rfl, hF, hb⟩
    have hbd := bl_trans (Below.refl w2.heap.size w2).drew hb
    have HB3 := Lib.hid (bl_trans HB2.out hbd)
    replace a0 := kc hbd a0
    replace a1 := kc hbd a1
    obtain ⟨b, off, rfl, hbl, hc⟩ := hF.rdAt (by omega)
    have hc1 := hc s.n (by omega)
    clear hb hbd hc hF
    have hs0 : (0 : Int) ≤ (s.n : Int) := by omega
    have hs1 : (s.n : Int) < (s.n : Int) + 1 := by omega
    obtain ⟨z, hz⟩ : ∃ z, tS s.x s.n = z := ⟨_, rfl⟩
    rw [hz] at hc1 He tb m4
    clear hz
    refine hK.out _ _ ⟨a0, a1⟩ (fun hHeld => ?_)
    clear hK K
    try simp only [Act.put, List.getElem_toArray, List.getElem_cons_zero, List.getElem_cons_succ, List.setIfInBounds_toArray, List.set_cons_zero, List.set_cons_succ]
    refine wpAnyH_take (i := 2) (v := .slice (some ⟨b, off, none⟩) (s.n + 1) cap) rfl (by kernel_rfl) (by kernel_rfl) (by kernel_rfl) (fun _ _ _ h => h) (Or.inl ⟨by rfl, ?_⟩) (by assumption) ?_
    · intro w hSw; simp only [List.getElem_toArray, List.getElem_cons_zero, List.getElem_cons_succ]; (first | (go_simp; done) | rfl | kernel_rfl)
    try simp only [Act.put, List.getElem_toArray, List.getElem_cons_zero, List.getElem_cons_succ, List.setIfInBounds_toArray, List.set_cons_zero, List.set_cons_succ]
    refine wpAnyH_take (i := 6) (v := .pointer (some ⟨b, off + s.n, none⟩)) rfl (by kernel_rfl) (by kernel_rfl) (by kernel_rfl) (fun _ _ _ h => h) (Or.inl ⟨by rfl, ?_⟩) (by assumption) ?_
    · intro w hSw; simp only [List.getElem_toArray, List.getElem_cons_zero, List.getElem_cons_succ]; (first | (go_simp; done) | rfl | kernel_rfl)
    try simp only [Act.put, List.getElem_toArray, List.getElem_cons_zero, List.getElem_cons_succ, List.setIfInBounds_toArray, List.set_cons_zero, List.set_cons_succ]
    clear hHeld
    refine wpAnyH_ready (rs := [7]) (by kernel_rfl) (by simp) ?_
    refine AllReadyH.cons rfl (fun K hK => ?_) AllReadyH.nil
    simp only [List.getElem_toArray, List.getElem_cons_zero, List.getElem_cons_succ]
    go_simp
    refine hK.out _ _ ⟨a0, a1⟩ (fun hHeld => ?_)
    clear hK K
    try simp only [Act.put, List.getElem_toArray, List.getElem_cons_zero, List.getElem_cons_succ, List.setIfInBounds_toArray, List.set_cons_zero, List.set_cons_succ]
    have hw : IntKind.i64.wrap (12 - z) = 12 - z := IntWalk.i64_in _ (by omega)
    refine wpAnyH_take (i := 8) (v := .int .i64 (12 - z)) rfl (by kernel_rfl) (by kernel_rfl) (by kernel_rfl) (fun _ _ _ h => h) (Or.inl ⟨by rfl, ?_⟩) (by assumption) ?_
    · intro w hSw; simp only [List.getElem_toArray, List.getElem_cons_zero, List.getElem_cons_succ]; (first | (go_simp; done) | rfl | kernel_rfl)
    try simp only [Act.put, List.getElem_toArray, List.getElem_cons_zero, List.getElem_cons_succ, List.setIfInBounds_toArray, List.set_cons_zero, List.set_cons_succ]
    refine wpAnyH_take (i := 9) (v := .int .i64 (12 - z)) rfl (by kernel_rfl) (by kernel_rfl) (by kernel_rfl) (fun _ _ _ h => h) (Or.inl ⟨by rfl, ?_⟩) (by assumption) ?_
    · intro w hSw; simp only [List.getElem_toArray, List.getElem_cons_zero, List.getElem_cons_succ]; (first | (go_simp; done) | rfl | kernel_rfl)
    try simp only [Act.put, List.getElem_toArray, List.getElem_cons_zero, List.getElem_cons_succ, List.setIfInBounds_toArray, List.set_cons_zero, List.set_cons_succ]
    refine wpAnyH_done (by kernel_rfl) ?_ _
    go_wp2
    go_ret
    exact ⟨ret_int (by rw [He.out]; try omega), by first | exact HB3.out | (rw [← hHe]; exact HB3.out)⟩

set_option linter.unusedSimpArgs false in
set_option maxRecDepth 100000 in
set_option maxHeartbeats 1600000 in
theorem implBool_any (s : Lst) (n : Nat) (q : Nat → Rul) (As Ar : Option Addr) (cs cr : Nat) (cell val : Int) (w : World) (p1 : s.n ≤ 1048576) (p3 : n ≤ 1048576) (p4 : ∀ i, i < n → (q i).fit 1048576) (hs : RdI w w.heap.size As s.n s.x) (hr : RdRs w w.heap.size Ar n q) :
    Calls Try.prog 21 #[.agg #[.slice As s.n cs, .slice Ar n cr], .int .i64 cell, .int .i64 val] w fun e w' => e = .returned (.int .i64 (bvI s n q cell val)) ∧ Below w.heap.size w w' := by
  have HS := Lib.hid hs
  have HR := Lib.hid hr
  have P4 := Lib.hid p4
  clear hs hr p4
  have HA := Lib.hid (bl_alloc (Below.refl w.heap.size w))
  go_enter Try.func21, Try.ntmps21
  go_wp2_with fail
  have a0 : (w.alloc (.cells #[.slice As s.n cs, .slice Ar n cr] 26)).cell? ⟨w.heap.size, 0, none⟩ = some (.slice As s.n cs) := by go_simp
  have a1 : (w.alloc (.cells #[.slice As s.n cs, .slice Ar n cr] 26)).cell? ⟨w.heap.size, 1, none⟩ = some (.slice Ar n cr) := by go_simp
  have HB := Lib.hid (HA.out (.cells #[.slice As s.n cs, .slice Ar n cr] 26))
  clear HA
  generalize (w.alloc (.cells #[.slice As s.n cs, .slice Ar n cr] 26)) = w1 at *
  refine (implValidM_any s n q _ _ _ _ _ p1 p3 P4.out (HS.out.later HB.out) (HR.out.later HB.out)).mono ?_
  rintro e w2 ⟨rfl, hb⟩
  have HB2 := Lib.hid (bl_trans HB.out hb)
  replace a0 := kc hb a0
  replace a1 := kc hb a1
  clear hb HB
  cases hm : modB s n q with
  | false =>
    have He := Lib.hid (bv_bad (cell := cell) (val := val) hm)
    clear hm
    go_wp2
    go_ret
    exact ⟨ret_int He.out.symm, HB2.out⟩
  | true =>
    have He := Lib.hid (bv_yes (cell := cell) (val := val) hm)
    have Hno := Lib.hid (fun h => bv_no (s := s) (n := n) (q := q) (cell := cell) (val := val) h)
    obtain ⟨m1, m2, m3, m4, -, -⟩ := mod_parts hm
    have M3 := Lib.hid m3
    clear hm m3
    go_wp2_with fail
    refine (hasValue_any s _ _ _ _ _ cell val _ p1 (HS.out.later HB2.out)).mono ?_
    rintro e w3 ⟨rfl, hb⟩
    have HB3 := Lib.hid (bl_trans HB2.out hb)
    replace a0 := kc hb a0
    replace a1 := kc hb a1
    clear hb HB2
    cases hv : hvB s cell val with
    | false =>
      have Hz := Lib.hid (Hno.out hv)
      clear hv
      go_wp2
      go_ret
      exact ⟨ret_int Hz.out.symm, HB3.out⟩
    | true =>
      have Hz := Lib.hid (He.out hv)
      unfold hvB at hv
      simp only [Bool.and_eq_true, decide_eq_true_eq] at hv
      obtain ⟨⟨h0, h1⟩, h2, h3⟩ := hv
      obtain ⟨k, rfl⟩ : ∃ k : Nat, cell = (k : Int) := ⟨cell.toNat, by omega⟩
      rw [Int.toNat_natCast] at h3 Hz
      have hk : k < s.n := by omega
      have hx := size_at M3.out hk
      have hT := tS_bd (prE_le M3.out (show k ≤ s.n by omega))
      have hv3 : 0 ≤ val ∧ val ≤ 1000 := by omega
      have hx3 : 0 ≤ tS s.x k ∧ tS s.x k ≤ 1000 := by omega
      clear hx h0 h1 h2 h3 He Hno hT
      go_wp2_with fail
      refine (newEnc_any s n _ _ _ _ _ m2 M3.out (HS.out.later HB3.out)).mono ?_
      rintro e w4 ⟨A, cap, rfl, hF, hb⟩
      have HB4 := Lib.hid (bl_trans HB3.out hb)
      have HF := Lib.hid hF.rdAt
      clear hb hF HB3 a0 a1
      go_wp2_with fail
      refine (encVar_any As Ar A s.n cs n cr (s.n + 1) cap (tS s.x) k val _ (by omega) (by omega) hv3 hx3 HF.out).mono ?_
      rintro e w5 ⟨rfl, hb⟩
      have HB5 := Lib.hid (bl_trans HB4.out hb)
      clear hb HB4 hv3 hx3
      go_wp2
      go_ret
      exact ⟨ret_int Hz.out.symm, HB5.out⟩
end Go.Proofs.Ythjcbaccoogloaa
