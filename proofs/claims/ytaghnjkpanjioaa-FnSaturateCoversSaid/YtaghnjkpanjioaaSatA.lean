/- Contracts of the program's SaturateConstraint (no claim of its own). Conditions: as each theorem states. -/
import Derived.Test.YtaghnjkpanjioaaInfA
import Derived.Test.YtaghnjkpanjioaaCloA
import Derived.Shelf.Abstract
import Derived.StillTailTactics
namespace Go.Proofs.Ytaghnjkpanjioaa
open Go.ChangeShapes Go.WideShapes Go.ChangeAt Go.RowKit Go.Shelf

def minC (c : Nat → Int) (bd : Int) (i : Nat) : Int := if bd < c i then bd else c i
def satN (n : Nat) (bd : Int) : Nat := if bd = 0 then 0 else n

theorem satReady_any (A : Option Addr) (n cap : Nat) (bd : Int) (c l : Nat → Int) (w : World) (hn : n ≤ 1048576) (hr : Rd w w.heap.size A n c l) :
    Calls Try.prog 130 #[.agg #[.slice A n cap, .int .i64 bd]] w fun e w' => e = .returned (.bool (validB n c l bd)) ∧ Below w.heap.size w w' := by
  go_enter Try.func130, Try.ntmps130
  go_wp2_with fail
  refine (implValid_any _ _ _ _ c l _ hn (hr.later (bl_alloc (Below.refl _ _) _))).mono ?_
  rintro e w1 ⟨rfl, hb⟩
  have HB := Lib.hid (bl_trans (bl_alloc (Below.refl w.heap.size w) _) hb)
  clear hb
  go_wp2
  go_ret
  exact ⟨rfl, HB.out⟩

set_option maxRecDepth 100000 in
set_option maxHeartbeats 800000 in
theorem satApply_any (A : Option Addr) (n cap : Nat) (bd : Int) (c l : Nat → Int) (w : World) (hn : n ≤ 1048576) (hr : Rd w w.heap.size A n c l) :
    Calls Try.prog 129 #[.agg #[.slice A n cap, .int .i64 bd]] w (ARes w (satN n bd) (minC c bd) l bd) := by
  by_cases h0 : bd = 0
  · subst h0
    go_enter Try.func129, Try.ntmps129
    go_wp2
    refine bodyPost_ret (v := .agg #[.slice none 0 0, .int .i64 0]) (by simp [results, Try.results129, go_sem]) rfl ?_
    exact ⟨none, 0, rfl, .inl rfl, bl_alloc (bl_alloc (Below.refl _ _) _) _⟩
  · have hN : satN n bd = n := by unfold satN; rw [if_neg h0]
    rw [hN]
    have hq0 : (bd == 0) = false := by simpa using h0
    go_enter Try.func129, Try.ntmps129
    go_wp2_with fail
    refine (clone_any _ _ _ c l _ hn (hr.later (bl_alloc (bl_alloc (Below.refl _ _) _) _))).mono ?_
    rintro e w1 ⟨A', cap', rfl, hF, hb⟩
    have HB1 := Lib.hid (bl_trans (bl_alloc (bl_alloc (Below.refl w.heap.size w) _) _) hb)
    have a1 : w1.cell? ⟨w.heap.size, 1, none⟩ = some (.int .i64 bd) := kc hb (by go_simp)
    have r0 : w1.cell? ⟨w.heap.size + 1, 0, none⟩ = some (.slice none 0 0) := kc hb (by go_simp)
    have r1 : w1.cell? ⟨w.heap.size + 1, 1, none⟩ = some (.int .i64 0) := kc hb (by go_simp)
    have f0 : w1.frozen? ⟨w.heap.size + 1, 0, none⟩ = false := kf hb (by simp) (by go_simp)
    have f1 : w1.frozen? ⟨w.heap.size + 1, 1, none⟩ = false := kf hb (by simp) (by go_simp)
    have hF2 := hF.more (B' := w.heap.size + 2) (by simp)
    clear hb hF hr
    go_wp2
    go_loopw [16] (fun i wr => ∃ k : Nat, k ≤ n ∧ i = .int .i64 k ∧ Frs wr (w.heap.size + 2) A' n (mix (minC c bd) c k) l ∧ Below (w.heap.size + 2) w1 wr) (fun i _ => n - (intOf i).toNat)
    case atStart => exact ⟨0, Nat.zero_le _, rfl, by rw [mix_zero]; exact hF2, Below.refl _ _⟩
    case round =>
      obtain ⟨k, hk, rfl, hown, hb⟩ := hrel
      by_cases hlt : k < n
      · obtain ⟨G, rfl, hG, hu⟩ : ∃ G, A' = some ⟨G, 0, none⟩ ∧ w.heap.size + 2 ≤ G ∧ OwnU wr G n n (mix (minC c bd) c k) l := by
          rcases hown with h | h
          · omega
          · exact h
        obtain ⟨cs, hh, hsz, hat⟩ := hu
        have hcl : wr.cell? ⟨G, k * 2, none⟩ = some (.int .i64 (c k)) := by
          have := (hat k hlt).1
          rw [mix_at] at this
          exact (cell_of_row wr G _ cs _ _ hh).trans this
        have hfr : wr.frozen? ⟨G, k * 2, none⟩ = false := frozen_row hh _
        have hu : OwnU wr G n n (mix (minC c bd) c k) l := ⟨cs, hh, hsz, hat⟩
        have Hu := Lib.hid hu
        have Hb := Lib.hid hb
        have b1 := (hb.cell (p := ⟨w.heap.size, 1, none⟩) (by show w.heap.size < _; omega)).trans a1
        have hkI : (k : Int) < (n : Int) := by omega
        have hkJ : (0 : Int) ≤ (k : Int) := by omega
        clear hown hb hu hat hh hsz
        go_wp2_with fail
        go_still_tail 13, (by kernel_rfl)
        change wpList _ _ _ _ _ wr.drew
        go_wp2
        go_roundw
        case rel => exact ⟨k + 1, by omega, by go_num, .inr ⟨G, rfl, hG, (Hu.out.coef hlt rfl).at_ rfl⟩, (Hb.out.setCell hG _).drew⟩
        case measure => simp [intOf]; omega
      · have e : k = n := by omega
        subst e
        have b1 := (hb.cell (p := ⟨w.heap.size, 1, none⟩) (by show w.heap.size < _; omega)).trans a1
        have s0 := (hb.cell (p := ⟨w.heap.size + 1, 0, none⟩) (by show w.heap.size + 1 < _; omega)).trans r0
        have s1 := (hb.cell (p := ⟨w.heap.size + 1, 1, none⟩) (by show w.heap.size + 1 < _; omega)).trans r1
        have g0 := (hb.frozen (p := ⟨w.heap.size + 1, 0, none⟩) (by show w.heap.size + 1 < _; omega)).trans f0
        have g1 := (hb.frozen (p := ⟨w.heap.size + 1, 1, none⟩) (by show w.heap.size + 1 < _; omega)).trans f1
        have hF := frs_mixed hown
        have HF := Lib.hid hF
        have HB := Lib.hid (HB1.out.trans (hb.mono (by omega)))
        clear hown hb hF
        go_wp2
        refine bodyPost_ret (v := .agg #[.slice A' k cap', .int .i64 bd]) (by simp [results, Try.results129, go_sem, s0, s1]) rfl ?_
        exact ⟨A', cap', rfl, ((HF.out.far' (by simp) (by simp) _).far' (by simp) (by simp) _).more (by omega), (HB.out.setCell (by simp) _).setCell (by simp) _⟩

theorem satValid {n : Nat} {c l : Nat → Int} {bd : Int} (h : validB n c l bd = true) : validB (satN n bd) (minC c bd) l bd = true := by
  obtain ⟨h0, h1⟩ := valid_bd h
  unfold satN
  split
  · unfold validB vtB
    simp
    omega
  · refine valid_mk h (fun i hi => ?_) h0 h1
    have := valid_coef h hi
    unfold minC
    split <;> omega
theorem satNum (n : Nat) (c l : Nat → Int) (bd : Int) : infB (validB n c l bd) (satN n bd) (minC c bd) l bd = validB n c l bd := by
  unfold infB
  cases h : validB n c l bd with
  | false => rfl
  | true => rw [satValid h]; rfl

theorem implSat_any (A : Option Addr) (n cap : Nat) (bd : Int) (c l : Nat → Int) (w : World) (hn : n ≤ 1048576) (hr : Rd w w.heap.size A n c l) :
    Calls Try.prog 17 #[.agg #[.slice A n cap, .int .i64 bd]] w (CRes w (infN (validB n c l bd) (satN n bd) (minC c bd) l bd) (minC c bd) l (infD (validB n c l bd) (satN n bd) (minC c bd) l bd) (infB (validB n c l bd) (satN n bd) (minC c bd) l bd)) := by
  have hm1 : ∀ w : World, (method 300 76 (.agg #[.slice A n cap, .int .i64 bd]) "loop.example/cuttingplanes/impl.ready").run Try.prog w = .ok (130, .agg #[.slice A n cap, .int .i64 bd]) w := fun _ => by kernel_rfl
  have hm2 : ∀ w : World, (method 300 76 (.agg #[.slice A n cap, .int .i64 bd]) "loop.example/cuttingplanes/impl.apply").run Try.prog w = .ok (129, .agg #[.slice A n cap, .int .i64 bd]) w := fun _ => by kernel_rfl
  have hs : satN n bd ≤ 1048576 := by unfold satN; split <;> omega
  have HI := Lib.hid (fun (W : World) (hb : Below w.heap.size w W) => infer_any 76 (.agg #[.slice A n cap, .int .i64 bd]) 130 129 (validB n c l bd) (satN n bd) (minC c bd) l bd W hs hm1 hm2
    (enters_of Try.func130 (by kernel_rfl) rfl) (enters_of Try.func129 (by kernel_rfl) rfl)
    (fun W' hb' => satReady_any A n cap bd c l W' hn (hr.later (bl_trans hb hb'))) (fun _ W' hb' => satApply_any A n cap bd c l W' hn (hr.later (bl_trans hb hb'))))
  clear hm1 hm2 hs hr
  go_enter Try.func17, Try.ntmps17
  go_wp2_with fail
  refine (HI.out _ (by repeat (first | exact Below.refl _ _ | refine bl_alloc ?_ _ | refine Below.drew ?_))).mono ?_
  rintro e w1 ⟨A', cap', rfl, hF, hb⟩
  have HF := Lib.hid hF
  have HB := Lib.hid (bl_trans (bl_alloc (bl_alloc (Below.refl w.heap.size w) _) _) hb)
  have r0 : w1.cell? ⟨w.heap.size + 1, 0, none⟩ = some (.slice none 0 0) := kc hb (by go_simp)
  have r1 : w1.cell? ⟨w.heap.size + 1, 1, none⟩ = some (.int .i64 0) := kc hb (by go_simp)
  have f0 : w1.frozen? ⟨w.heap.size + 1, 0, none⟩ = false := kf hb (by simp) (by go_simp)
  have f1 : w1.frozen? ⟨w.heap.size + 1, 1, none⟩ = false := kf hb (by simp) (by go_simp)
  clear hF hb
  go_wp2
  refine bodyPost_ret (v := .tuple #[.agg #[.slice A' (infN (validB n c l bd) (satN n bd) (minC c bd) l bd) cap', .int .i64 (infD (validB n c l bd) (satN n bd) (minC c bd) l bd)], .bool (infB (validB n c l bd) (satN n bd) (minC c bd) l bd)]) (by simp [results, Try.results17, go_sem, r0, r1]) rfl ?_
  exact ⟨A', cap', rfl, ((HF.out.far' (by simp) (by simp) _).far' (by simp) (by simp) _).more (by first | (simp; done) | (simp; omega)), (HB.out.setCell (by simp) _).setCell (by simp) _⟩
end Go.Proofs.Ytaghnjkpanjioaa
