/- Contracts of the program's infer, over whatever rule whose two methods have contracts (no claim of its own). Conditions: as each theorem states. -/
import Derived.Test.YtjfcgehmeecnfaaComB
namespace Go.Proofs.Ytjfcgehmeecnfaa
open Go.ChangeShapes Go.WideShapes Go.ChangeAt Go.RowKit

/-- What a rule's conclusion comes to. -/
def infB (R : Bool) (n : Nat) (c l : Nat → Int) (bd : Int) : Bool := R && validB n c l bd
def infN (R : Bool) (n : Nat) (c l : Nat → Int) (bd : Int) : Nat := if infB R n c l bd then n else 0
def infD (R : Bool) (n : Nat) (c l : Nat → Int) (bd : Int) : Int := if infB R n c l bd then bd else 0
theorem infN_le (R : Bool) (n : Nat) (c l : Nat → Int) (bd : Int) : infN R n c l bd ≤ n := by unfold infN; split <;> omega

/-- What a rule's apply leaves. -/
def ARes (w : World) (n : Nat) (c l : Nat → Int) (bd : Int) (e : Ending) (w' : World) : Prop :=
  ∃ A cap, e = .returned (.agg #[.slice A n cap, .int .i64 bd]) ∧ Frs w' w.heap.size A n c l ∧ Below w.heap.size w w'

theorem Frs.far' {w : World} {B : Nat} {A : Option Addr} {n : Nat} {c l : Nat → Int} (h : Frs w B A n c l) {p : Addr} (_hs : p.spot = none) (hp : p.block < B) (u : Value) : Frs (w.setCell p u) B A n c l := by
  rcases h with h | ⟨G, e, hG, h⟩
  · exact .inl h
  · exact .inr ⟨G, e, hG, h.at_ (Below.heap_setCell w p u G (by omega))⟩

set_option maxRecDepth 100000 in
set_option maxHeartbeats 1600000 in
theorem infer_no (T : TypeId) (X : Value) (fr : Nat) (n : Nat) (c l : Nat → Int) (bd : Int) (w : World)
    (hm1 : ∀ w : World, (method 264 T X "loop.example/cuttingplanes/impl.ready").run Try.prog w = .ok (fr, X) w)
    (er : ∀ args w, (callFunc fr args).run Try.prog w = .ok (.enter fr args) w)
    (hR : ∀ W, Below w.heap.size w W → Calls Try.prog fr #[X] W fun e w' => e = .returned (.bool false) ∧ Below W.heap.size W w') :
    Calls Try.prog 101 #[.iface T X] w (CRes w (infN false n c l bd) c l (infD false n c l bd) (infB false n c l bd)) := by
  have HR := Lib.hid hR
  clear hR
  go_enter Try.func101, Try.ntmps101
  go_wp2_with fail
  refine (HR.out _ (by repeat (first | exact Below.refl _ _ | refine bl_alloc ?_ _ | refine Below.drew ?_))).mono ?_
  rintro e w1 ⟨rfl, hb⟩
  have HB1 := Lib.hid (bl_trans (bl_alloc (Below.refl w.heap.size w) _) hb)
  have r0 : w1.cell? ⟨w.heap.size, 0, none⟩ = some (.slice none 0 0) := kc hb (by go_simp)
  have r1 : w1.cell? ⟨w.heap.size, 1, none⟩ = some (.int .i64 0) := kc hb (by go_simp)
  have f0 : w1.frozen? ⟨w.heap.size, 0, none⟩ = false := kf hb (by simp) (by go_simp)
  have f1 : w1.frozen? ⟨w.heap.size, 1, none⟩ = false := kf hb (by simp) (by go_simp)
  clear hb
  go_wp2
  refine bodyPost_ret (v := .tuple #[.agg #[.slice none 0 0, .int .i64 0], .bool false]) (by simp [results, Try.results101, go_sem, r0, r1]) rfl ?_
  exact ⟨none, 0, rfl, .inl rfl, (HB1.out.setCell (by simp) _).setCell (by simp) _⟩

set_option maxRecDepth 100000 in
set_option maxHeartbeats 1600000 in
theorem infer_yes (T : TypeId) (X : Value) (fr fa : Nat) (n : Nat) (c l : Nat → Int) (bd : Int) (w : World) (hn : n ≤ 1048576)
    (hm1 : ∀ w : World, (method 264 T X "loop.example/cuttingplanes/impl.ready").run Try.prog w = .ok (fr, X) w)
    (hm2 : ∀ w : World, (method 264 T X "loop.example/cuttingplanes/impl.apply").run Try.prog w = .ok (fa, X) w)
    (er : ∀ args w, (callFunc fr args).run Try.prog w = .ok (.enter fr args) w)
    (ea : ∀ args w, (callFunc fa args).run Try.prog w = .ok (.enter fa args) w)
    (hR : ∀ W, Below w.heap.size w W → Calls Try.prog fr #[X] W fun e w' => e = .returned (.bool true) ∧ Below W.heap.size W w')
    (hA : ∀ W, Below w.heap.size w W → Calls Try.prog fa #[X] W (ARes W n c l bd)) :
    Calls Try.prog 101 #[.iface T X] w (CRes w (infN true n c l bd) c l (infD true n c l bd) (infB true n c l bd)) := by
  have HR := Lib.hid hR
  have HA := Lib.hid hA
  clear hR hA
  go_enter Try.func101, Try.ntmps101
  go_wp2_with fail
  refine (HR.out _ (by repeat (first | exact Below.refl _ _ | refine bl_alloc ?_ _ | refine Below.drew ?_))).mono ?_
  rintro e w1 ⟨rfl, hb⟩
  have HB1 := Lib.hid (bl_trans (bl_alloc (Below.refl w.heap.size w) _) hb)
  have r0 : w1.cell? ⟨w.heap.size, 0, none⟩ = some (.slice none 0 0) := kc hb (by go_simp)
  have r1 : w1.cell? ⟨w.heap.size, 1, none⟩ = some (.int .i64 0) := kc hb (by go_simp)
  have f0 : w1.frozen? ⟨w.heap.size, 0, none⟩ = false := kf hb (by simp) (by go_simp)
  have f1 : w1.frozen? ⟨w.heap.size, 1, none⟩ = false := kf hb (by simp) (by go_simp)
  have q1 : w.heap.size < w1.heap.size := World.block_lt_of_cell? w1 _ r0
  clear hb
  go_wp2_with fail
  refine (HA.out _ HB1.out).mono ?_
  rintro e w2 ⟨A2, cap2, rfl, hF, hb⟩
  have HB2 := Lib.hid (bl_trans HB1.out hb)
  replace r0 := kc hb r0
  replace r1 := kc hb r1
  replace f0 := kf hb q1 f0
  replace f1 := kf hb q1 f1
  have q2 : w.heap.size < w2.heap.size := World.block_lt_of_cell? w2 _ r0
  have hF2 := hF.more (B' := w.heap.size + 1) (by omega)
  clear hb hF
  go_wp2_with fail
  refine (implValid_any _ _ _ _ c l _ hn (hF2.below (bl_alloc (Below.refl w2.heap.size w2) (.cells #[.slice A2 n cap2, .int .i64 bd] 69))).rdAt).mono ?_
  rintro e w3 ⟨rfl, hb1⟩
  have p0 : w3.cell? ⟨w2.heap.size, 0, none⟩ = some (.slice A2 n cap2) := kc hb1 (by go_simp)
  have p1 : w3.cell? ⟨w2.heap.size, 1, none⟩ = some (.int .i64 bd) := kc hb1 (by go_simp)
  have hb := bl_trans (bl_alloc (Below.refl w2.heap.size w2) (.cells #[.slice A2 n cap2, .int .i64 bd] 69)) hb1
  have HB3 := Lib.hid (bl_trans HB2.out hb)
  have HF3 := Lib.hid (hF2.below hb)
  replace r0 := kc hb r0
  replace r1 := kc hb r1
  replace f0 := kf hb q2 f0
  replace f1 := kf hb q2 f1
  clear hb hb1 hF2
  cases hok : validB n c l bd with
  | false =>
    have HX := Lib.hid (show infN true n c l bd = 0 ∧ infD true n c l bd = 0 ∧ infB true n c l bd = false from ⟨by unfold infN infB; rw [hok]; rfl, by unfold infD infB; rw [hok]; rfl, by unfold infB; rw [hok]; rfl⟩)
    clear hok
    go_wp2
    refine bodyPost_ret (v := .tuple #[.agg #[.slice none 0 0, .int .i64 0], .bool false]) (by simp [results, Try.results101, go_sem, r0, r1]) rfl ?_
    obtain ⟨x1, x2, x3⟩ := HX.out
    rw [x1, x2, x3]
    exact ⟨none, 0, rfl, .inl rfl, (HB3.out.setCell (by simp) _).setCell (by simp) _⟩
  | true =>
    have HX := Lib.hid (show infN true n c l bd = n ∧ infD true n c l bd = bd ∧ infB true n c l bd = true from ⟨by unfold infN infB; rw [hok]; rfl, by unfold infD infB; rw [hok]; rfl, by unfold infB; rw [hok]; rfl⟩)
    clear hok
    go_wp2
    refine bodyPost_ret (v := .tuple #[.agg #[.slice A2 n cap2, .int .i64 bd], .bool true]) (by simp [results, Try.results101, go_sem, r0, r1]) rfl ?_
    obtain ⟨x1, x2, x3⟩ := HX.out
    rw [x1, x2, x3]
    exact ⟨_, _, rfl, ((HF3.out.far' (by simp) (by simp) _).far' (by simp) (by simp) _).more (by omega), (HB3.out.setCell (by simp) _).setCell (by simp) _⟩

/-- A rule whose readiness is told by R. -/
theorem infer_any (T : TypeId) (X : Value) (fr fa : Nat) (R : Bool) (n : Nat) (c l : Nat → Int) (bd : Int) (w : World) (hn : n ≤ 1048576)
    (hm1 : ∀ w : World, (method 264 T X "loop.example/cuttingplanes/impl.ready").run Try.prog w = .ok (fr, X) w)
    (hm2 : ∀ w : World, (method 264 T X "loop.example/cuttingplanes/impl.apply").run Try.prog w = .ok (fa, X) w)
    (er : ∀ args w, (callFunc fr args).run Try.prog w = .ok (.enter fr args) w)
    (ea : ∀ args w, (callFunc fa args).run Try.prog w = .ok (.enter fa args) w)
    (hR : ∀ W, Below w.heap.size w W → Calls Try.prog fr #[X] W fun e w' => e = .returned (.bool R) ∧ Below W.heap.size W w')
    (hA : R = true → ∀ W, Below w.heap.size w W → Calls Try.prog fa #[X] W (ARes W n c l bd)) :
    Calls Try.prog 101 #[.iface T X] w (CRes w (infN R n c l bd) c l (infD R n c l bd) (infB R n c l bd)) := by
  cases R with
  | false => exact infer_no T X fr n c l bd w hm1 er hR
  | true => exact infer_yes T X fr fa n c l bd w hn hm1 hm2 er ea hR (hA rfl)
end Go.Proofs.Ytjfcgehmeecnfaa
