/- The program's ExtendsPartial (no claim of its own). Conditions: as each theorem states. -/
import Derived.Test.YtooknldfkcdneaaExtB
import Derived.Test.YtooknldfkcdneaaSlkB
namespace Go.Proofs.Ytooknldfkcdneaa
open Go.ChangeShapes Go.WideShapes Go.ChangeAt Go.RowKit Go.Shelf

set_option maxRecDepth 100000 in
set_option maxHeartbeats 3200000 in
theorem trueLits_any (v : Nat → Int) (w : World) (hv : ∀ i, i < 12 → -1 ≤ v i ∧ v i ≤ 1) :
    Calls Try.prog 55 #[arrV v] w fun e w' => ∃ A cap, e = .returned (.slice A (tl v 12).length cap) ∧ FrI w' w.heap.size 80 A (tl v 12).length (gI (tl v 12)) ∧ Below w.heap.size w w' := by
  have HV := Lib.hid hv
  have HI := Lib.hid (fun (k : Nat) (h : k < 12) => run_idx12 v h)
  clear hv
  unfold arrV cells12 at HI
  unfold arrV cells12
  go_enter Try.func55, Try.ntmps55
  go_wp2
  go_loopw [3, 7] (fun t i wr => ∃ k : Nat, k ≤ 12 ∧ i = .int .i64 k ∧ RowAt w w.heap.size 80 [] (tl v k) t wr) (fun _ i _ => 12 - (intOf i).toNat)
  case atStart => exact ⟨0, Nat.zero_le _, rfl, rowAt_nil (bl_alloc (Below.refl _ _) _) (Nat.le_refl _) (by simp) (fun x hx => by cases hx)⟩
  case round =>
    obtain ⟨k, hk, rfl, hrow⟩ := hrel
    have Row := Lib.hid hrow
    clear hrow
    by_cases hlt : k < 12
    · have hix := HI.out k hlt
      have hle : (tl v k).length ≤ 1048576 := by have := tl_le (v := v) k; omega
      have h3 : v k = -1 ∨ v k = 0 ∨ v k = 1 := by have := HV.out k hlt; omega
      rcases h3 with e | e | e
      · have Ht := Lib.hid (tl_neg e)
        rw [e] at hix
        clear e
        go_wp2_with (at_builtin; refine wpList_plain (by rfl) fun K' hK' => ?_; refine wp_rowI _ _ 84 (by rfl) Try.underlying84 Try.infoLit Row.out (bl_alloc (Below.refl _ _) _) (by rfl) (by rfl) (heap_alloc_new _ _) hle ?_; intro gg cap1 w3 hout; refine hK' _ _ ?_; clear hK' K')
        go_roundw
        case rel => exact ⟨k + 1, by omega, by go_num, by rw [Ht.out]; exact hout⟩
        case measure => simp [intOf]; omega
      · have Ht := Lib.hid (tl_no e)
        rw [e] at hix
        clear e
        go_wp2
        go_roundw
        case rel => exact ⟨k + 1, by omega, by go_num, by rw [Ht.out]; exact Row.out⟩
        case measure => simp [intOf]; omega
      · have Ht := Lib.hid (tl_yes e)
        rw [e] at hix
        clear e
        go_wp2_with (at_builtin; refine wpList_plain (by rfl) fun K' hK' => ?_; refine wp_rowI _ _ 84 (by rfl) Try.underlying84 Try.infoLit Row.out (bl_alloc (Below.refl _ _) _) (by rfl) (by rfl) (heap_alloc_new _ _) hle ?_; intro gg cap1 w3 hout; refine hK' _ _ ?_; clear hK' K')
        go_roundw
        case rel => exact ⟨k + 1, by omega, by go_num, by rw [Ht.out]; exact hout⟩
        case measure => simp [intOf]; omega
    · have e : k = 12 := by omega
      subst e
      obtain ⟨A', cap', rfl, hF⟩ := Row.out.fr
      have HF := Lib.hid hF
      have HB := Lib.hid Row.out.bel
      clear hF
      go_wp2
      go_ret
      exact ⟨A', cap', rfl, HF.out, HB.out⟩

set_option maxRecDepth 100000 in
set_option maxHeartbeats 800000 in
theorem differs_any (Bv : Nat) (Av : Option Addr) (capv : Nat) (u : Nat → Bool) (n : Int) (w : World) (hl : litB n = true) (hB : w.cell? ⟨Bv, 0, none⟩ = some (.slice Av 12 capv)) (hru : RdB w w.heap.size Av 12 u) :
    Calls Try.prog 52 #[.int .i64 n, .pointer (some ⟨Bv, 0, none⟩)] w fun e w' => e = .returned (.bool (!trueP u n)) ∧ Below w.heap.size w w' := by
  have Hl := Lib.hid hl
  clear hl
  go_enter Try.func52, Try.ntmps52
  go_wp2_with fail
  refine (trueUnder_any _ _ u _ _ Hl.out hru).mono ?_
  rintro e w1 ⟨rfl, m, rfl⟩
  go_wp2
  go_ret
  exact ⟨rfl, bl_drewN (Below.refl _ _) m⟩

set_option maxRecDepth 100000 in
set_option maxHeartbeats 1600000 in
theorem indexDif_any (A : Option Addr) (n cap : Nat) (v : Nat → Int) (q : Nat → Bool) (Bv : Nat) (w : World) (hn : n ≤ 1048576) (hr : RdI w w.heap.size A n v)
    (hf : ∀ (k : Nat) (X : World), k < n → Below w.heap.size w X → Calls Try.prog 52 #[.int .i64 (v k), .pointer (some ⟨Bv, 0, none⟩)] X fun e X' => e = .returned (.bool (q k)) ∧ Below X.heap.size X X') :
    Calls Try.prog 84 #[.slice A n cap, .func (.func 52) #[] #[.pointer (some ⟨Bv, 0, none⟩)]] w fun e w' => ∃ m : Int, e = .returned (.int .i64 m) ∧ decide (0 ≤ m) = anyQ q n ∧ Below w.heap.size w w' := by
  go_enter Try.func84, Try.ntmps84
  go_wp2
  go_loopw [8] (fun i wr => ∃ k : Nat, k ≤ n ∧ i = .int .i64 k ∧ anyQ q k = false ∧ Below w.heap.size w wr) (fun i _ => n - (intOf i).toNat)
  case atStart => exact ⟨0, Nat.zero_le _, rfl, rfl, Below.refl _ _⟩
  case round =>
    obtain ⟨k, hk, rfl, hp, hb⟩ := hrel
    have Hp := Lib.hid hp
    clear hp
    by_cases hlt : k < n
    · obtain ⟨b, off, rfl, hbl, hc⟩ := (hr.below hb) (by omega)
      have hc1 := hc k hlt
      have Hcall := Lib.hid (hf k wr hlt hb)
      clear hc hr hf
      cases hq : q k with
      | true =>
        have Hfin := Lib.hid (show decide (0 ≤ (k : Int)) = anyQ q n from by rw [anyQ_of hlt hq]; simp)
        rw [hq] at Hcall
        have Hq := Lib.hid hq
        clear hq
        go_wp2_with fail
        refine Hcall.out.mono ?_
        rintro e w1 ⟨rfl, hb1⟩
        go_wp2
        go_ret
        exact ⟨_, rfl, Hfin.out, hb.trans (hb1.mono hb.size)⟩
      | false =>
        have Hno := Lib.hid (anyQ_step Hp.out hq)
        rw [hq] at Hcall
        clear hq
        go_wp2_with fail
        refine Hcall.out.mono ?_
        rintro e w1 ⟨rfl, hb1⟩
        go_wp2
        go_roundw
        case rel => exact ⟨k + 1, by omega, by go_num, Hno.out, hb.trans (hb1.mono hb.size)⟩
        case measure => simp [intOf]; omega
    · have e : k = n := by omega
      subst e
      go_wp2
      go_ret
      exact ⟨-1, rfl, by rw [Hp.out]; rfl, hb⟩

set_option maxRecDepth 100000 in
set_option maxHeartbeats 800000 in
theorem containsDif_any (A : Option Addr) (n cap : Nat) (v : Nat → Int) (q : Nat → Bool) (Bv : Nat) (w : World) (hn : n ≤ 1048576) (hr : RdI w w.heap.size A n v)
    (hf : ∀ (k : Nat) (X : World), k < n → Below w.heap.size w X → Calls Try.prog 52 #[.int .i64 (v k), .pointer (some ⟨Bv, 0, none⟩)] X fun e X' => e = .returned (.bool (q k)) ∧ Below X.heap.size X X') :
    Calls Try.prog 54 #[.slice A n cap, .func (.func 52) #[] #[.pointer (some ⟨Bv, 0, none⟩)]] w fun e w' => e = .returned (.bool (anyQ q n)) ∧ Below w.heap.size w w' := by
  have Hc := Lib.hid (indexDif_any A n cap v q Bv w hn hr hf)
  clear hf
  go_enter Try.func54, Try.ntmps54
  go_wp2_with fail
  refine Hc.out.mono ?_
  rintro e w1 ⟨m, rfl, hm, hb⟩
  have Hm := Lib.hid hm
  clear hm
  go_wp2
  go_ret
  exact ⟨ret_bool Hm.out, hb⟩

set_option maxRecDepth 100000 in
set_option maxHeartbeats 3200000 in
theorem implExt_any (A Av : Option Addr) (n cap nv capv : Nat) (v : Nat → Int) (u : Nat → Bool) (w : World) (hn : n ≤ 1048576) (hnv : nv ≤ 1048576) (hr : RdI w w.heap.size A n v) (hru : RdB w w.heap.size Av nv u) :
    Calls Try.prog 29 #[.slice A n cap, .slice Av nv capv] w fun e w' => e = .returned (.bool (extB n v nv u)) ∧ Below w.heap.size w w' := by
  cases hp : pvB n v with
  | false =>
    have Hfin := Lib.hid (ext_inv (nv := nv) (u := u) hp)
    have Hp := Lib.hid hp
    clear hp
    go_enter Try.func29, Try.ntmps29
    go_wp2_with fail
    refine (implPartial_any _ _ _ v _ hn (hr.later (bl_alloc (Below.refl _ _) _))).mono ?_
    rintro e w' ⟨rfl, hw⟩
    replace hw := hw.symm
    subst hw
    rw [Hp.out]
    go_wp2
    go_ret
    exact ⟨ret_bool Hfin.out.symm, bl_alloc (Below.refl _ _) _⟩
  | true =>
    by_cases h12 : nv = 12
    · subst h12
      obtain ⟨hn12, hvv⟩ := pvB_iff.1 hp
      subst hn12
      have Hfin := Lib.hid (show extB 12 v 12 u = !anyQ (fun i => !trueP u (gI (tl v 12) i)) (tl v 12).length from by rw [ext_yes hp, ← tl_any hvv (Nat.le_refl _), ← anyQ_list])
      have HV := Lib.hid hvv
      have Hp := Lib.hid hp
      have hle : (tl v 12).length ≤ 1048576 := by have := tl_le (v := v) 12; omega
      clear hp hvv
      go_enter Try.func29, Try.ntmps29
      go_wp2_with fail
      have b0 : (w.alloc (.cells #[.slice Av 12 capv] 49)).cell? ⟨w.heap.size, 0, none⟩ = some (.slice Av 12 capv) := by go_simp
      have B0 := Lib.hid b0
      have hrw := Lib.hid (hr.later (bl_alloc (Below.refl w.heap.size w) (.cells #[.slice Av 12 capv] 49)))
      have hruw := Lib.hid (hru.later (bl_alloc (Below.refl w.heap.size w) (.cells #[.slice Av 12 capv] 49)))
      have HB0 := Lib.hid (bl_alloc (Below.refl w.heap.size w) (.cells #[.slice Av 12 capv] 49))
      generalize w.alloc (.cells #[.slice Av 12 capv] 49) = W0 at *
      refine (implPartial_any _ _ _ v _ (by omega) hrw.out).mono ?_
      rintro e w' ⟨rfl, hw⟩
      replace hw := hw.symm
      subst hw
      rw [Hp.out]
      obtain ⟨b, off, rfl, hbl, hc⟩ := hrw.out (by omega)
      have hat : ∀ W, (Instr.arrayAt 64 (.slice (some ⟨b, off, none⟩) 12 cap)).run Try.prog W = .ok (.pointer (some ⟨b, off, none⟩)) W := fun W => run_arrayAt W 64 _ 12 _ 12 cap Try.underlying64 (Nat.le_refl _)
      have s0 := hc 0 (by omega)
      have s1 := hc 1 (by omega)
      have s2 := hc 2 (by omega)
      have s3 := hc 3 (by omega)
      have s4 := hc 4 (by omega)
      have s5 := hc 5 (by omega)
      have s6 := hc 6 (by omega)
      have s7 := hc 7 (by omega)
      have s8 := hc 8 (by omega)
      have s9 := hc 9 (by omega)
      have s10 := hc 10 (by omega)
      have s11 := hc 11 (by omega)
      simp only [Nat.add_zero] at s0
      have hts := Lib.hid (fun W => trueLits_any v W HV.out)
      unfold arrV cells12 at hts
      clear hc hr hru
      go_wp2_with fail
      refine (hts.out _).mono ?_
      rintro e w1 ⟨A1, cap1, rfl, hF, hb⟩
      have HF := Lib.hid hF
      have HB1 := Lib.hid (bl_trans HB0.out hb)
      have hru1 := Lib.hid (hruw.out.later hb)
      have b1 := kc hb B0.out
      have B1 := Lib.hid b1
      clear hF hb b0 b1 s0 s1 s2 s3 s4 s5 s6 s7 s8 s9 s10 s11
      go_wp2_with fail
      refine (containsDif_any _ _ _ _ (fun i => !trueP u (gI (tl v 12) i)) w.heap.size _ hle HF.out.rdAt (fun k X hk hX => differs_any w.heap.size Av capv u _ X (tl_lit HV.out (Nat.le_refl _) _ (gI_mem hk)) (kc hX B1.out) (hru1.out.later hX))).mono ?_
      generalize (anyQ (fun i => !trueP u (gI (tl v 12) i)) (tl v 12).length) = Q at Hfin
      rintro e w2 ⟨rfl, hb⟩
      have HB2 := Lib.hid (bl_trans HB1.out hb)
      clear hb
      go_wp2
      go_ret
      exact ⟨ret_bool Hfin.out.symm, HB2.out⟩
    · have Hfin := Lib.hid (ext_len (n := n) (v := v) (u := u) h12)
      have hd : ((nv : Int) != 12) = true := by rw [bne_iff_ne]; omega
      have Hp := Lib.hid hp
      clear hp h12
      go_enter Try.func29, Try.ntmps29
      go_wp2_with fail
      refine (implPartial_any _ _ _ v _ hn (hr.later (bl_alloc (Below.refl _ _) _))).mono ?_
      rintro e w' ⟨rfl, hw⟩
      replace hw := hw.symm
      subst hw
      rw [Hp.out]
      go_wp2
      go_ret
      exact ⟨ret_bool Hfin.out.symm, bl_alloc (Below.refl _ _) _⟩
end Go.Proofs.Ytooknldfkcdneaa
