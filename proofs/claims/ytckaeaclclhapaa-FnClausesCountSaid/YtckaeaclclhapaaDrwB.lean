/- Contracts of the reader of the draws (no claim of its own). Conditions: as each theorem states. -/
import Derived.Test.YtckaeaclclhapaaDrwA
import Derived.Deep.DeepCutAuto
import Derived.Deep.CutBlock
namespace Go.Proofs.Ytckaeaclclhapaa
open Go.ChangeShapes Go.WideShapes Go.ChangeAt Go.RowKit

set_option maxRecDepth 100000 in
set_option maxHeartbeats 800000 in
theorem open_any (A : Option Addr) (n cap : Nat) (y : Nat → Int) (w : World) (hm : n ≤ maxLen) (hcap : n ≤ cap) (hr : RdY w w.heap.size A n y) :
    Calls Try.prog 9 #[.slice A n cap] w fun e w' => e = .returned (.pointer (some ⟨w.heap.size, 0, none⟩)) ∧ Below w.heap.size w w' ∧ Rdr w' w.heap.size 0 ∧ w.heap.size < w'.heap.size := by
  unfold maxLen at hm
  have HR := Lib.hid hr
  by_cases h : n ≤ 2000
  · go_enter Try.func9, Try.ntmps9
    go_wp2
    go_ret
    refine ⟨rfl, bl_alloc (Below.refl _ _) _, ⟨A, n, cap, 0, y, ⟨by go_simp, by go_simp⟩, ⟨by go_simp, by go_simp⟩, Nat.le_refl _, h, (HR.out.below (bl_alloc (Below.refl _ _) _))⟩, by simp⟩
  · have h20 : (2000 : Int) ≤ (cap : Int) := by omega
    go_enter Try.func9, Try.ntmps9
    go_wp2
    go_ret
    refine ⟨rfl, bl_alloc (Below.refl _ _) _, ⟨A, 2000, cap, 0, y, ⟨by go_simp, by go_simp⟩, ⟨by go_simp, by go_simp⟩, Nat.le_refl _, Nat.le_refl _, ?_⟩, by simp⟩
    intro hn
    obtain ⟨b, off, e, hlt, hc⟩ := (HR.out.below (bl_alloc (Below.refl w.heap.size w) _)) (by omega)
    exact ⟨b, off, e, hlt, fun i hi => hc i (by omega)⟩

/-- What a question to the reader leaves. -/
def PRes (w : World) (R K : Nat) (n : Int) (e : Ending) (w' : World) : Prop := ∃ x : Int, e = .returned (.int .i64 x) ∧ 0 ≤ x ∧ (x = 0 ∨ x < n) ∧ Gr R w w' ∧ Rdr w' R (K + 1)

theorem xor_bd (a b : Int) (h0 : 0 ≤ a) (h1 : a < 4611686018427387904) (h2 : 0 ≤ b) (h3 : b < 4611686018427387904) : 0 ≤ bits .xor .i64 a b ∧ bits .xor .i64 a b < 4611686018427387904 := by
  obtain ⟨x, rfl⟩ := Int.eq_ofNat_of_zero_le h0
  obtain ⟨z, rfl⟩ := Int.eq_ofNat_of_zero_le h2
  have hx : x < 2 ^ 62 := by omega
  have hz : z < 2 ^ 62 := by omega
  have hlt : x ^^^ z < 2 ^ 62 := Nat.xor_lt_two_pow hx hz
  have e : bits .xor .i64 (x : Int) (z : Int) = ((x ^^^ z : Nat) : Int) := by
    have hb : ((BitVec.ofInt 64 (x : Int)) ^^^ (BitVec.ofInt 64 (z : Int))).toNat = x ^^^ z := by
      simp only [BitVec.toNat_xor, BitVec.ofInt_natCast, BitVec.toNat_ofNat]
      rw [Nat.mod_eq_of_lt (by omega), Nat.mod_eq_of_lt (by omega)]
    show IntKind.i64.wrap ((((BitVec.ofInt 64 (x : Int)) ^^^ (BitVec.ofInt 64 (z : Int))).toNat : Nat) : Int) = _
    rw [hb]
    exact IntWalk.i64_in _ (by omega)
  rw [e]
  omega
end Go.Proofs.Ytckaeaclclhapaa
