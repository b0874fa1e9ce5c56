/- Contracts of the program's NegateConstraint (no claim of its own). Conditions: as each theorem states. -/
import Derived.Test.YtooknldfkcdneaaEvaB
import Derived.Test.YtooknldfkcdneaaOutA
import Derived.Deep.RegionHeld3
namespace Go.Proofs.Ytooknldfkcdneaa
open Go.ChangeShapes Go.WideShapes Go.ChangeAt Go.RowKit

/-- TotalCoef of a valid constraint. -/
theorem implTotal_yes (A : Option Addr) (n cap : Nat) (bd : Int) (c l : Nat → Int) (w : World) (hn : n ≤ 1048576) (hr : Rd w w.heap.size A n c l) (hv : validB n c l bd = true) :
    Calls Try.prog 91 #[.agg #[.slice A n cap, .int .i64 bd]] w fun e w' => e = .returned (.int .i64 (totW c l n)) ∧ Below w.heap.size w w' :=
  (implTotal_any A n cap bd c l w hn hr).mono fun _ _ ⟨he, hb⟩ => ⟨by rw [he, hv]; rfl, hb⟩

/-- The bound of the negation, as Go computes it. -/
def negB (n : Nat) (c l : Nat → Int) (bd : Int) : Int := IntKind.i64.wrap (IntKind.i64.wrap (totW c l n - bd) + 1)
def negBd (n : Nat) (c l : Nat → Int) (bd : Int) : Int := if negB n c l bd < 0 then 0 else negB n c l bd
def negL (l : Nat → Int) (i : Nat) : Int := -(l i)

set_option maxRecDepth 100000 in
set_option maxHeartbeats 800000 in
theorem implNeg_inv (A : Option Addr) (n cap : Nat) (bd : Int) (c l : Nat → Int) (w : World) (hn : n ≤ 1048576) (hr : Rd w w.heap.size A n c l) (hv : validB n c l bd = false) :
    Calls Try.prog 78 #[.agg #[.slice A n cap, .int .i64 bd]] w (CRes w 0 c (negL l) 0 false) := by
  have Hv := Lib.hid hv
  clear hv
  go_enter Try.func78, Try.ntmps78
  go_wp2_with fail
  refine (implValid_any _ _ _ _ c l _ hn (hr.later (bl_alloc (bl_alloc (Below.refl _ _) _) _))).mono ?_
  rintro e w1 ⟨rfl, hb⟩
  have HB1 := Lib.hid (bl_trans (bl_alloc (bl_alloc (Below.refl w.heap.size w) _) _) hb)
  have r0 : w1.cell? ⟨w.heap.size + 1, 0, none⟩ = some (.slice none 0 0) := kc hb (by go_simp)
  have r1 : w1.cell? ⟨w.heap.size + 1, 1, none⟩ = some (.int .i64 0) := kc hb (by go_simp)
  have f0 : w1.frozen? ⟨w.heap.size + 1, 0, none⟩ = false := kf hb (by simp) (by go_simp)
  have f1 : w1.frozen? ⟨w.heap.size + 1, 1, none⟩ = false := kf hb (by simp) (by go_simp)
  clear hb
  rw [Hv.out]
  go_wp2
  refine bodyPost_ret (v := .tuple #[.agg #[.slice none 0 0, .int .i64 0], .bool false]) (by simp [results, Try.results78, go_sem, r0, r1]) rfl ?_
  exact ⟨none, 0, rfl, .inl rfl, (HB1.out.setCell (by simp) _).setCell (by simp) _⟩

set_option maxRecDepth 100000 in
set_option maxHeartbeats 1600000 in
theorem implNeg_val (A : Option Addr) (n cap : Nat) (bd : Int) (c l : Nat → Int) (w : World) (hn : n ≤ 1048576) (hr : Rd w w.heap.size A n c l) (hv : validB n c l bd = true) :
    Calls Try.prog 78 #[.agg #[.slice A n cap, .int .i64 bd]] w (CRes w n c (negL l) (negBd n c l bd) true) := by
  have Hv := Lib.hid hv
  clear hv
  obtain ⟨i0, hi, hz0, hz1, hz2⟩ := info_parts Try.infoTerm
  have hmk := fun W => run_make (P := Try.prog) W 40 58 i0 _ Try.underlying40 hi hz0 .i64 .i64 (n : Int) n (by omega) (by omega) (by rw [hz2]; omega) (by omega)
  rw [hz1] at hmk
  clear hi hz0 hz1 hz2
  go_enter Try.func78, Try.ntmps78
  go_wp2_with fail
  refine (implValid_any _ _ _ _ c l _ hn (hr.later (bl_alloc (bl_alloc (Below.refl _ _) _) _))).mono ?_
  rintro e w1 ⟨rfl, hb⟩
  have HB1 := Lib.hid (bl_trans (bl_alloc (bl_alloc (Below.refl w.heap.size w) _) _) hb)
  have a0 : w1.cell? ⟨w.heap.size, 0, none⟩ = some (.slice A n cap) := kc hb (by go_simp)
  have a1 : w1.cell? ⟨w.heap.size, 1, none⟩ = some (.int .i64 bd) := kc hb (by go_simp)
  have r0 : w1.cell? ⟨w.heap.size + 1, 0, none⟩ = some (.slice none 0 0) := kc hb (by go_simp)
  have r1 : w1.cell? ⟨w.heap.size + 1, 1, none⟩ = some (.int .i64 0) := kc hb (by go_simp)
  have f0 : w1.frozen? ⟨w.heap.size + 1, 0, none⟩ = false := kf hb (by simp) (by go_simp)
  have f1 : w1.frozen? ⟨w.heap.size + 1, 1, none⟩ = false := kf hb (by simp) (by go_simp)
  have q1 : w.heap.size + 1 < w1.heap.size := World.block_lt_of_cell? w1 _ r0
  have q0 : w.heap.size < w1.heap.size := by omega
  clear hb
  rw [Hv.out]
  go_wp2
  go_loopw [18] (fun i wr => ∃ k : Nat, k ≤ n ∧ i = .int .i64 k ∧ OwnT wr w1.heap.size n k c (negL l) ∧ Below w1.heap.size w1 wr) (fun i _ => n - (intOf i).toNat)
  case atStart => exact ⟨0, Nat.zero_le _, rfl, ⟨_, heap_alloc_new _ _, by simp [size_madeCells], fun i hi => absurd hi (by omega)⟩, bl_alloc (Below.refl _ _) _⟩
  case round =>
    obtain ⟨k, hk, rfl, hown, hb⟩ := hrel
    by_cases hlt : k < n
    · have hL := litAt Hv.out hlt
      obtain ⟨_, hl1, hl2⟩ := litB_iff.1 hL
      have hbw := bl_trans HB1.out hb
      obtain ⟨b, off, rfl, hbl, hc⟩ := (hr.below hbw) (by omega)
      obtain ⟨hc1, hc2⟩ := hc k hlt
      have hzb : b < wr.heap.size := Nat.lt_of_lt_of_le hbl hbw.size
      have hzg : w1.heap.size < wr.heap.size := hown.lt
      obtain ⟨y1, hy1⟩ := hown.cell (j := k * 2) (by omega)
      obtain ⟨y2, hy2⟩ := hown.cell (j := k * 2 + 1) (by omega)
      have hf1 := hown.frozen (k * 2)
      have hf2 := hown.frozen (k * 2 + 1)
      have Hown := Lib.hid hown
      have Hb := Lib.hid hb
      clear hc hmk hr hL hown hb hbw
      go_wp2
      go_roundw
      case rel => exact ⟨k + 1, by omega, by go_num, (Hown.out.put hlt).alloc_ _, bl_alloc ((Hb.out.setCell (Nat.le_refl _) _).setCell (Nat.le_refl _) _) _⟩
      case measure => simp [intOf]; omega
    · have e : k = n := by omega
      subst e
      replace a0 := kc hb a0
      replace a1 := kc hb a1
      replace r0 := kc hb r0
      replace r1 := kc hb r1
      replace f0 := kf hb q1 f0
      replace f1 := kf hb q1 f1
      have HBr := Lib.hid (bl_trans HB1.out hb)
      have qr : w.heap.size + 1 < wr.heap.size := World.block_lt_of_cell? wr _ r0
      have Hown := Lib.hid hown
      clear hb hown hmk
      go_wp2_with fail
      go_region_held3 (fun w' => w'.cell? ⟨w.heap.size, 0, none⟩ = some (.slice A k cap) ∧ w'.cell? ⟨w.heap.size, 1, none⟩ = some (.int .i64 bd)) (go_keep)
        (first
          | (go_at_call 91; refine (implTotal_yes _ _ _ _ c l _ hn (hr.later HBr.out.drew) Hv.out).mono ?_; rintro e w2 ⟨rfl, hb⟩; have HB2 := Lib.hid (bl_trans HBr.out.drew hb); have Hown2 := Lib.hid (OwnT.below (w := wr.drew) Hown.out hb Hown.out.lt); replace a0 := kc hb a0; replace a1 := kc hb a1; replace r0 := kc hb r0; replace r1 := kc hb r1; replace f0 := kf hb qr f0; replace f1 := kf hb qr f1; clear hb))
      have hB : (if IntKind.i64.wrap (IntKind.i64.wrap (totW c l k - bd) + 1) < 0 then 0 else IntKind.i64.wrap (IntKind.i64.wrap (totW c l k - bd) + 1)) = negBd k c l bd := rfl
      rw [hB]
      clear hB
      go_wp2
      refine bodyPost_ret (v := .tuple #[.agg #[.slice (some ⟨w1.heap.size, 0, none⟩) k k, .int .i64 (negBd k c l bd)], .bool true]) (by simp [results, Try.results78, go_sem, r0, r1]) rfl ?_
      exact ⟨_, _, rfl, .inr ⟨_, rfl, by omega, ((Hown2.out.far (by simp; omega) _).far (by simp; omega) _).u⟩, (HB2.out.setCell (by simp) _).setCell (by simp) _⟩
end Go.Proofs.Ytooknldfkcdneaa
