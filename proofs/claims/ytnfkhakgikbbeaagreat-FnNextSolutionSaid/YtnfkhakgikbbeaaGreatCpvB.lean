/- All values of the variables, one after another (no claim of its own). Conditions: as each theorem states. -/
import Derived.Test.YtnfkhakgikbbeaaGreatCdrZ
namespace Go.Proofs.YtnfkhakgikbbeaaGreat
open Go.ChangeShapes Go.WideShapes Go.ChangeAt Go.RowKit

set_option maxRecDepth 100000 in
set_option maxHeartbeats 1600000 in
theorem cpValues_any (n : Nat) (w : World) (hn : n ≤ 4096) :
    Calls Tryz.prog 17 #[.int .i64 (n : Nat)] w fun e w' => ∃ A cap u, e = .returned (.slice A 12 cap) ∧ RdB w' w'.heap.size A 12 u ∧ Below w.heap.size w w' := by
  go_enter Tryz.func17, Tryz.ntmps17
  go_wp2
  go_loopw [0, 3, 4] (fun a t i wr => ∃ k z : Nat, k ≤ 12 ∧ z ≤ 4096 ∧ a = .int .i64 z ∧ i = .int .i64 k ∧ BS wr w.heap.size t k ∧ Below w.heap.size w wr) (fun _ _ i _ => 12 - (intOf i).toNat)
  case atStart => exact ⟨0, n, Nat.zero_le _, hn, rfl, rfl, bs_lit w, bl_alloc (Below.refl _ _) _⟩
  case round =>
    obtain ⟨k, z, hk, hz, rfl, rfl, hts, hb⟩ := hrel
    have TSk := Lib.hid hts
    have HB := Lib.hid hb
    have hsz : w.heap.size ≤ wr.heap.size := hb.size
    clear hts hb
    by_cases hlt : k < 12
    · obtain ⟨t, ht⟩ : ∃ t : Nat, (z : Int).tmod 2 = (t : Int) := by
        obtain ⟨a, b⟩ := tmod_bd (z : Int) 2 (by omega) (by omega)
        exact ⟨((z : Int).tmod 2).toNat, by omega⟩
      have hd : (z : Int).tdiv 2 = ((z / 2 : Nat) : Int) := by rw [Int.tdiv_eq_ediv_of_nonneg (by omega)]; omega
      go_wp2_with (at_builtin; refine wpList_plain (by rfl) fun K' hK' => ?_; refine wp_bs1 _ _ (by rfl) (TSk.out.bel (bl_alloc (Below.refl _ _) _)) (by simp; omega) (by rfl) (by rfl) (heap_alloc_new _ _) (by omega) ?_; intro gg cap1 w3 hts3 hgr3; have G3 := Lib.hid hgr3; have T3 := Lib.hid hts3; clear hts3 hgr3; refine hK' _ _ ?_; clear hK' K')
      go_roundw
      case rel => exact ⟨k + 1, z / 2, by omega, by omega, by first | rfl | go_num | simp, by go_num, T3.out, (HB.out.trans ((bl_alloc (Below.refl wr.heap.size wr) _).mono hsz)).grown G3.out (by simp; omega) (fun j e => (TSk.out.bel (bl_alloc (Below.refl wr.heap.size wr) (.cells #[] 4))).lt j e)⟩
      case measure => simp [intOf]; omega
    · have e : k = 12 := by omega
      subst e
      obtain ⟨A', cap', v, rfl, hcap, hF⟩ := TSk.out.fb
      have HF := Lib.hid hF.rd
      clear hF
      go_wp2
      go_ret
      exact ⟨_, _, v, rfl, HF.out, HB.out⟩
end Go.Proofs.YtnfkhakgikbbeaaGreat
