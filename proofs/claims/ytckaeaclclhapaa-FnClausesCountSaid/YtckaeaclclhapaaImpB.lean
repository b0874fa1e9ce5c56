/- The program's ImpliedLiterals (no claim of its own). Conditions: as each theorem states. -/
import Derived.Test.YtckaeaclclhapaaImpA
import Derived.Deep.DeepCutAuto
import Derived.Deep.CutBlock
namespace Go.Proofs.Ytckaeaclclhapaa
open Go.ChangeShapes Go.WideShapes Go.ChangeAt Go.RowKit Go.Shelf

set_option maxRecDepth 100000 in
set_option maxHeartbeats 3200000 in
theorem impliedBy_any (A : Option Addr) (n cap : Nat) (bd s : Int) (c l : Nat → Int) (v : Nat → Int) (w : World) (hn : n ≤ 1048576) (hr : Rd w w.heap.size A n c l) (hval : validB n c l bd = true) (hvv : ∀ i, i < 12 → -1 ≤ v i ∧ v i ≤ 1) :
    Calls Try.prog 63 #[.agg #[.slice A n cap, .int .i64 bd], .int .i64 s, arrV v] w (LRes w (imL c l v s n)) := by
  have Hval := Lib.hid hval
  have HV := Lib.hid hvv
  clear hval hvv
  unfold arrV cells12
  go_enter Try.func63, Try.ntmps63
  go_upto_region 2 with fail
  have HB0 := Lib.hid (bl_alloc (bl_alloc (Below.refl w.heap.size w) (.cells #[.slice A n cap, .int .i64 bd] 25)) (.cells (cells12 v) 94))
  have a0 : ((w.alloc (.cells #[.slice A n cap, .int .i64 bd] 25)).alloc (.cells (cells12 v) 94)).cell? ⟨w.heap.size, 0, none⟩ = some (.slice A n cap) := by go_simp
  have hs : ∀ i, i < 12 → ((w.alloc (.cells #[.slice A n cap, .int .i64 bd] 25)).alloc (.cells (cells12 v) 94)).cell? ⟨w.heap.size + 1, i, none⟩ = some (.int .i64 (v i)) := fun i hi => by
    have := (cell_of_row _ _ _ _ _ _ (heap_alloc_new (w.alloc (.cells #[.slice A n cap, .int .i64 bd] 25)) (.cells (cells12 v) 94))).trans (cells12_at v hi)
    simpa using this
  have HS := Lib.hid hs
  unfold cells12 at HB0 a0 HS
  have hsz0 : ((w.alloc (.cells #[.slice A n cap, .int .i64 bd] 25)).alloc (.cells #[.int .i64 (v 0), .int .i64 (v 1), .int .i64 (v 2), .int .i64 (v 3), .int .i64 (v 4), .int .i64 (v 5), .int .i64 (v 6), .int .i64 (v 7), .int .i64 (v 8), .int .i64 (v 9), .int .i64 (v 10), .int .i64 (v 11)] 94)).heap.size = w.heap.size + 1 + 1 := by simp
  have HS0 := Lib.hid hsz0
  clear hs hsz0
  generalize ((w.alloc (.cells #[.slice A n cap, .int .i64 bd] 25)).alloc (.cells #[.int .i64 (v 0), .int .i64 (v 1), .int .i64 (v 2), .int .i64 (v 3), .int .i64 (v 4), .int .i64 (v 5), .int .i64 (v 6), .int .i64 (v 7), .int .i64 (v 8), .int .i64 (v 9), .int .i64 (v 10), .int .i64 (v 11)] 94)) = W0 at *
  have HrW := Lib.hid (hr.later HB0.out)
  clear hr
  go_wp2
  go_loopw [7, 13] (fun t i wr => ∃ k : Nat, k ≤ n ∧ i = .int .i64 k ∧ RowAt W0 W0.heap.size 3 [] (imL c l v s k) t wr) (fun _ i _ => n - (intOf i).toNat)
  case atStart => exact ⟨0, Nat.zero_le _, rfl, rowAt_nil (Below.refl _ _) (Nat.le_refl _) (Nat.le_refl _) (fun x hx => by cases hx)⟩
  case round =>
    obtain ⟨k, hk, rfl, hrow⟩ := hrel
    have Row := Lib.hid hrow
    have hbel := hrow.bel
    clear hrow a0
    by_cases hlt : k < n
    · have hL := Lib.hid (litAt Hval.out hlt)
      have hle : (imL c l v s k).length ≤ 1048576 := by have := imL_le (c := c) (l := l) (v := v) (s := s) k; omega
      obtain ⟨b, off, rfl, hbl, hc⟩ := (HrW.out.later hbel) (by omega)
      obtain ⟨hc1, hc2⟩ := hc k hlt
      have Hval1 := Lib.hid (valueOf_any v (l k) (wr.alloc (.cells #[.int .i64 (c k), .int .i64 (l k)] 56)) hL.out HV.out)
      unfold arrV cells12 at Hval1
      have s0 := kc hbel (HS.out 0 (by omega))
      have s1 := kc hbel (HS.out 1 (by omega))
      have s2 := kc hbel (HS.out 2 (by omega))
      have s3 := kc hbel (HS.out 3 (by omega))
      have s4 := kc hbel (HS.out 4 (by omega))
      have s5 := kc hbel (HS.out 5 (by omega))
      have s6 := kc hbel (HS.out 6 (by omega))
      have s7 := kc hbel (HS.out 7 (by omega))
      have s8 := kc hbel (HS.out 8 (by omega))
      have s9 := kc hbel (HS.out 9 (by omega))
      have s10 := kc hbel (HS.out 10 (by omega))
      have s11 := kc hbel (HS.out 11 (by omega))
      have hzz : w.heap.size + 1 < wr.heap.size := by have := hbel.size; have := HS0.out; omega
      clear hc hL
      by_cases h2 : s < c k
      · by_cases h1 : stV v (l k) = 0
        · have Ht := Lib.hid (imL_yes h1 h2)
          rw [h1] at Hval1
          clear h1 hbel
          go_wp2_with fail
          refine Hval1.out.mono ?_
          rintro e w' ⟨rfl, hb⟩
          have u1 : w'.cell? ⟨wr.heap.size, 1, none⟩ = some (.int .i64 (l k)) := kc hb (by go_simp)
          have Row' := Lib.hid (Row.out.below (bl_trans (bl_alloc (Below.refl _ _) _) hb))
          clear hb s0 s1 s2 s3 s4 s5 s6 s7 s8 s9 s10 s11 hc1 hc2 Row hbl
          go_wp2_with (at_builtin; refine wpList_plain (by rfl) fun K' hK' => ?_; refine wp_rowI _ _ 38 (by rfl) Try.underlying38 Try.infoInt Row'.out (bl_alloc (Below.refl _ _) _) (by rfl) (by rfl) (heap_alloc_new _ _) hle ?_; intro gg cap1 w3 hout; refine hK' _ _ ?_; clear hK' K')
          go_roundw
          case rel => exact ⟨k + 1, by omega, by go_num, by rw [Ht.out]; exact hout⟩
          case measure => simp [intOf]; omega
        · have Ht := Lib.hid (imL_no (c := c) (l := l) (v := v) (s := s) (k := k) (fun h => h1 h.1))
          have hne : (stV v (l k) == 0) = false := by rw [beq_eq_false_iff_ne]; exact h1
          clear h1 hbel
          go_wp2_with fail
          refine Hval1.out.mono ?_
          rintro e w' ⟨rfl, hb⟩
          have Row' := Lib.hid (Row.out.below (bl_trans (bl_alloc (Below.refl _ _) _) hb))
          clear hb s0 s1 s2 s3 s4 s5 s6 s7 s8 s9 s10 s11 hc1 hc2 Row hbl
          go_wp2
          go_roundw
          case rel => exact ⟨k + 1, by omega, by go_num, by rw [Ht.out]; exact Row'.out⟩
          case measure => simp [intOf]; omega
      · have Ht := Lib.hid (imL_no (c := c) (l := l) (v := v) (s := s) (k := k) (fun h => h2 h.2))
        clear hbel Hval1 s0 s1 s2 s3 s4 s5 s6 s7 s8 s9 s10 s11
        go_wp2
        go_roundw
        case rel => exact ⟨k + 1, by omega, by go_num, by rw [Ht.out]; exact Row.out.below (bl_alloc (Below.refl _ _) _)⟩
        case measure => simp [intOf]; omega
    · have e : k = n := by omega
      subst e
      obtain ⟨A', cap', rfl, hF⟩ := Row.out.fr
      have HF := Lib.hid hF
      have HB := Lib.hid hbel
      clear hF hbel
      go_wp2
      go_ret
      exact ⟨A', cap', rfl, HF.out.more (by rw [HS0.out]; omega), bl_trans HB0.out HB.out⟩

end Go.Proofs.Ytckaeaclclhapaa
