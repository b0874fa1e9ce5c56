/- Slices of bytes and the reader of the draws (no claim of its own). Conditions: as each theorem states. · Contracts of the reader of the draws (no claim of its own). Conditions: as each theorem states. · The contract of a question to the reader of the draws (no claim of its own). Conditions: as each theorem states. · Contracts of the draws of numbers and values (no claim of its own). Conditions: as each theorem states. · The draws of partial assignments and of values (no claim of its own). Conditions: as each theorem states. · The draw of a constraint (no claim of its own). Conditions: as each theorem states. · The draw of a valid constraint (no claim of its own). Conditions: as each theorem states. · The copy of a constraint (no claim of its own). Conditions: as each theorem states. · The draw of a constraint that may be made invalid (no claim of its own). Conditions: as each theorem states. · The draw of values (no claim of its own). Conditions: as each theorem states. · Draws of variables and of cubes (no claim of its own). Conditions: as each theorem states. · The draw of CubeHolds' arguments (no claim of its own). Conditions: as each theorem states. · Slices of constraints that a draw makes (no claim of its own). Conditions: as each theorem states. · The draw of a problem (no claim of its own). Conditions: as each theorem states. · The draw of a problem that may be made invalid (no claim of its own). Conditions: as each theorem states. · The draw of SatisfiesAll's arguments (no claim of its own). Conditions: as each theorem states. · Two problems, one behind the other (no claim of its own). Conditions: as each theorem states. · The draw of a hard problem (no claim of its own). Conditions: as each theorem states. · The draws over a hard problem (no claim of its own). Conditions: as each theorem states. · The draw of CubeProblem's arguments (no claim of its own). Conditions: as each theorem states. -/
import Derived.Test.YtbebdhjhlheboaaIntR
import Derived.Test.YtbebdhjhlheboaaOutA
import Derived.Deep.Slices
import Derived.Carry
import Derived.ProofKit
import Derived.Laws.BitsAllLaws
import Derived.Deep.DeepCutAuto
import Derived.Deep.CutBlock
import Derived.Test.YtbebdhjhlheboaaBoolA
import Derived.Laws.OwnMore
import Derived.Test.YtbebdhjhlheboaaSumD
import Derived.Deep.RegionHeld3
import Derived.Maps.AppendAt
import Derived.Laws.AppendOwnNone
import Derived.Test.YtbebdhjhlheboaaProA
import Derived.Test.YtbebdhjhlheboaaSatC
import Derived.Test.YtbebdhjhlheboaaSubM
namespace Go.Proofs.Ytbebdhjhlheboaa
open Go.ChangeShapes Go.WideShapes Go.ChangeAt Go.RowKit
open Go.Deep

/-- A slice of bytes: element i is y i. -/
def RdY (w : World) (B : Nat) (A : Option Addr) (n : Nat) (y : Nat → Int) : Prop :=
  0 < n → ∃ b off, A = some ⟨b, off, none⟩ ∧ b < B ∧ ∀ i, i < n → w.cell? ⟨b, off + i, none⟩ = some (.int .u8 (y i)) ∧ 0 ≤ y i ∧ y i ≤ 255
theorem RdY.more {w : World} {B B' : Nat} {A : Option Addr} {n : Nat} {y : Nat → Int} (h : RdY w B A n y) (hB : B ≤ B') : RdY w B' A n y := fun hn => by
  obtain ⟨b, off, e, hlt, hc⟩ := h hn
  exact ⟨b, off, e, by omega, hc⟩
theorem RdY.below {w w' : World} {B : Nat} {A : Option Addr} {n : Nat} {y : Nat → Int} (h : RdY w B A n y) (hb : Below B w w') : RdY w' B A n y := fun hn => by
  obtain ⟨b, off, e, hlt, hc⟩ := h hn
  exact ⟨b, off, e, hlt, fun i hi => ⟨(hb.cell (p := ⟨b, _, none⟩) hlt).trans (hc i hi).1, (hc i hi).2⟩⟩
theorem RdY.later {w w' : World} {A : Option Addr} {n : Nat} {y : Nat → Int} (h : RdY w w.heap.size A n y) (hb : Below w.heap.size w w') : RdY w' w'.heap.size A n y := (h.below hb).more hb.size

section
variable {H : Type} {enc : TypeId × Value → H} {W : World} {spare : Nat → Bool} {held : Bool}
theorem open_byteS {fuel : Nat} {u : Value} {x : DataW H × List MemPlace} (h : DataW.trod enc Try.prog W 0 spare held fuel 37 [u] = some x) (hs : ∀ b, spare b = true) :
    ∃ (A : Option Addr) (n cap : Nat) (v : Nat → Int), u = .slice A n cap ∧ n ≤ maxLen ∧ n ≤ cap ∧ RdY W W.heap.size A n v := by
  rcases open_slice1 Try.underlying37 (by kernel_rfl) h with ⟨hcs, _⟩ | ⟨a, len, cap, m, fu, V, D, Pl, hcs, _, hl, hm, hmm, _, hi⟩
  · simp at hcs
    exact ⟨none, 0, 0, fun _ => 0, hcs, by unfold maxLen; omega, Nat.le_refl _, fun h => absurd h (by omega)⟩
  · simp at hcs
    rw [hs, if_pos rfl] at hmm
    refine ⟨some a, len, cap, fun i => intOf (V i), hcs, Nat.le_trans hl hm, hl, fun hp => ?_⟩
    obtain ⟨b, off, spot⟩ := a
    have h0 := hi 0 (by omega)
    have hspot : spot = none := by simpa [Addr.add] using World.cell?_spot h0.1
    subst hspot
    refine ⟨b, off, rfl, ?_, fun i hin => ?_⟩
    · exact World.block_lt_of_cell? W _ (by simpa [Addr.add] using h0.1)
    · obtain ⟨g0, t0⟩ := hi i (by omega)
      obtain ⟨x0, e0, _, hwf⟩ := DataW.trod_int Try.underlying5 t0
      simp at e0
      rw [Go.WideShapes.add_plain] at g0
      refine ⟨g0.trans ?_, ?_⟩
      · show some (V i) = some (.int .u8 (intOf (V i)))
        rw [e0]
        rfl
      · show 0 ≤ intOf (V i) ∧ intOf (V i) ≤ 255
        rw [e0]
        simp only [Lit.wf, Bool.and_eq_true, decide_eq_true_eq] at hwf
        have h0 : IntKind.u8.min = 0 := by decide
        have h1 : IntKind.u8.max = 255 := by decide
        show 0 ≤ x0 ∧ x0 ≤ 255
        omega
end

/-- What existed stays, but for the block R. -/
def Gr (R : Nat) (w w' : World) : Prop := w.grownBy w' (some R)
section
variable {w w1 w2 wr wq W : World} {R K lo k n : Nat} {ov : Value}
theorem Gr.refl (R : Nat) (w : World) : Gr R w w := ⟨rfl, rfl, rfl, Nat.le_refl _, fun _ _ _ => rfl⟩
theorem Gr.trans (h : Gr R w w1) (h' : Gr R w1 w2) : Gr R w w2 :=
  ⟨h'.os.trans h.os, h'.tape.trans h.tape, h'.output.trans h.output, Nat.le_trans h.size h'.size, fun k hk hne => (h'.block k (Nat.lt_of_lt_of_le hk h.size) hne).trans (h.block k hk hne)⟩
theorem Gr.bel (h : Gr R w w1) (hb : Below w1.heap.size w1 w2) : Gr R w w2 :=
  ⟨hb.os.trans h.os, hb.tape.trans h.tape, hb.output.trans h.output, Nat.le_trans h.size hb.size, fun k hk hne => (hb.block k (Nat.lt_of_lt_of_le hk h.size)).trans (h.block k hk hne)⟩
theorem Gr.of (hb : Below w.heap.size w w1) : Gr R w w1 := (Gr.refl R w).bel hb
theorem Gr.set (h : Gr R w w1) {p : Addr} (hp : p.block = R ∨ w.heap.size ≤ p.block) (u : Value) : Gr R w (w1.setCell p u) :=
  ⟨h.os, h.tape, h.output, by simpa [World.setCell] using h.size, fun k hk hne => (Below.heap_setCell w1 p u k (by
    rcases hp with rfl | hp
    · intro e; exact hne (by rw [e])
    · omega)).trans (h.block k hk hne)⟩
theorem Gr.grow (h : Gr R w w1) (hg : w1.grownBy w2 ov.ownBlock) (hw : ∀ j, ov.ownBlock = some j → w.heap.size ≤ j) : Gr R w w2 :=
  ⟨hg.os.trans h.os, hg.tape.trans h.tape, hg.output.trans h.output, Nat.le_trans h.size hg.size, fun k hk hne => (hg.block k (Nat.lt_of_lt_of_le hk h.size) (fun e => by have := hw k e.symm; omega)).trans (h.block k hk hne)⟩
theorem Gr.cel (h : Gr R w w1) {j o : Nat} {v : Value} (hc : Cel w j o v) (hne : j ≠ R) : Cel w1 j o v :=
  ⟨(World.cell?_of_block (h.block j (World.block_lt_of_cell? w ⟨j, o, none⟩ hc.1) (by intro e; cases e; exact hne rfl))).trans hc.1,
   (World.frozen?_of_block (a := ⟨j, o, none⟩) (h.block j (World.block_lt_of_cell? w ⟨j, o, none⟩ hc.1) (by intro e; cases e; exact hne rfl))).trans hc.2⟩
theorem Gr.below (h : Gr R w w1) : Below R w w1 ∨ w.heap.size < R := by
  rcases Nat.lt_or_ge w.heap.size R with hlt | hge
  · exact .inr hlt
  · exact .inl ⟨h.os, h.tape, h.output, h.size, fun k hk => h.block k (by omega) (by intro e; cases e; omega)⟩

/-- The reader of a draw: its bytes lie below it; it has been asked at most K times. -/
def Rdr (w : World) (R K : Nat) : Prop := ∃ A nb cap p y, Cel w R 0 (.slice A nb cap) ∧ Cel w R 1 (.int .i64 (p : Nat)) ∧ p ≤ K ∧ nb ≤ 2000 ∧ RdY w R A nb y
theorem Rdr.lt (h : Rdr w R K) : R < w.heap.size := by
  obtain ⟨A, nb, cap, p, y, h0, _⟩ := h
  exact World.block_lt_of_cell? w ⟨R, 0, none⟩ h0.1
theorem Rdr.at_ (h : Rdr w R K) (hb : ∀ j, j ≤ R → w1.heap[j]? = w.heap[j]?) : Rdr w1 R K := by
  obtain ⟨A, nb, cap, p, y, h0, h1, h2, h3, h4⟩ := h
  refine ⟨A, nb, cap, p, y, ⟨(World.cell?_of_block (a := ⟨R, 0, none⟩) (hb R (Nat.le_refl _))).trans h0.1, (World.frozen?_of_block (a := ⟨R, 0, none⟩) (hb R (Nat.le_refl _))).trans h0.2⟩, ⟨(World.cell?_of_block (a := ⟨R, 1, none⟩) (hb R (Nat.le_refl _))).trans h1.1, (World.frozen?_of_block (a := ⟨R, 1, none⟩) (hb R (Nat.le_refl _))).trans h1.2⟩, h2, h3, fun hn => ?_⟩
  obtain ⟨b, off, e, hlt, hc⟩ := h4 hn
  exact ⟨b, off, e, hlt, fun i hi => ⟨(World.cell?_of_block (a := ⟨b, off + i, none⟩) (hb b (by omega))).trans (hc i hi).1, (hc i hi).2⟩⟩
theorem Rdr.bel (h : Rdr w R K) (hb : Below w.heap.size w w1) : Rdr w1 R K := h.at_ fun j hj => hb.block j (by have := h.lt; omega)
theorem Rdr.set (h : Rdr w R K) {p : Addr} (hp : R < p.block) (u : Value) : Rdr (w.setCell p u) R K := h.at_ fun j hj => Below.heap_setCell w p u j (by omega)
theorem Rdr.grow (h : Rdr w R K) (hg : w.grownBy w1 ov.ownBlock) (hw : ∀ j, ov.ownBlock = some j → R < j) : Rdr w1 R K := h.at_ fun j hj => hg.block j (by have := h.lt; omega) (fun e => by have := hw j e.symm; omega)
theorem Rdr.more {K' : Nat} (h : Rdr w R K) (hK : K ≤ K') : Rdr w R K' := by
  obtain ⟨A, nb, cap, p, y, h0, h1, h2, h3, h4⟩ := h
  exact ⟨A, nb, cap, p, y, h0, h1, by omega, h3, h4⟩

/-- A slice of k elements of s cells each, all of them ints, that the draw has made in a block from lo on. -/
def TS (w : World) (lo : Nat) (T : TypeId) (s : Nat) (ov : Value) (k : Nat) : Prop := ∃ xs : List Value, w.ownsRow lo T s ov k xs ∧ xs.length = k * s ∧ ∀ u ∈ xs, ∃ z, u = .int .i64 z
variable {T : TypeId} {s : Nat}
theorem TS.nil (w : World) (lo : Nat) (T : TypeId) (s : Nat) : TS w lo T s (.slice none 0 0) 0 := ⟨[], World.ownsRow_nil _ _ _ _, by simp, fun u hu => by cases hu⟩
theorem TS.bel (h : TS w lo T s ov k) (hb : Below w.heap.size w w1) : TS w1 lo T s ov k := by
  obtain ⟨xs, h0, h1, h2⟩ := h
  exact ⟨xs, row_below' h0 hb, h1, h2⟩
theorem TS.gr (h : TS w lo T s ov k) (hg : Gr R w w1) (hR : R < lo) : TS w1 lo T s ov k := by
  obtain ⟨xs, h0, h1, h2⟩ := h
  refine ⟨xs, h0.kept hg ?_, h1, h2⟩
  cases e : ov.ownBlock with
  | none => exact .inl rfl
  | some j =>
    right
    intro e'
    cases e'
    have := (h0.lt _ e).1
    omega
theorem TS.set_ (h : TS w lo T s ov k) {p : Addr} (hp : p.block < lo) (u : Value) : TS (w.setCell p u) lo T s ov k := by
  obtain ⟨xs, h0, h1, h2⟩ := h
  exact ⟨xs, ownsRow_setCell_below h0 hp _, h1, h2⟩
theorem TS.lt (h : TS w lo T s ov k) : ∀ j, ov.ownBlock = some j → lo ≤ j := fun j e => by
  obtain ⟨xs, h0, h1, h2⟩ := h
  exact (h0.lt j e).1
/-- Such a slice is a slice of terms that reads. -/
theorem TS.terms (h : TS w lo 114 2 ov k) : ∃ A cap c l, ov = .slice A k cap ∧ Frs w lo A k c l ∧ (A = none → cap = 0) := by
  obtain ⟨xs, h0, h1, h2⟩ := h
  rcases h0.2 with ⟨hov, hk⟩ | ⟨g, cap, cur, hov, hg, hh, hnc, _, hsz, htk⟩
  · subst hk
    exact ⟨none, 0, fun _ => 0, fun _ => 0, hov, .inl rfl, fun _ => rfl⟩
  · refine ⟨_, cap, fun i => intOf (xs.getD (i * 2) undef), fun i => intOf (xs.getD (i * 2 + 1) undef), hov, .inr ⟨g, rfl, hg, cur, hh, by omega, fun i hi => ?_⟩, fun h => by cases h⟩
    have key : ∀ j, j < k * 2 → cur[j]? = some (.int .i64 (intOf (xs.getD j undef))) := fun j hj => by
      have hx : xs[j]? = some (xs[j]'(by omega)) := List.getElem?_eq_getElem (by omega)
      obtain ⟨z, hz⟩ := h2 (xs[j]'(by omega)) (List.getElem_mem _)
      have hd : xs.getD j undef = .int .i64 z := by rw [List.getD_eq_getElem?_getD, hx, hz]; rfl
      rw [hd]
      have hx' := hx
      rw [hz, ← htk, List.getElem?_take_of_lt (by omega)] at hx'
      have h3 : cur[j]? = some (.int .i64 z) := by simpa using hx'
      exact h3
    exact ⟨key _ (by omega), key _ (by omega)⟩
/-- Such a slice is a slice of ints that reads. -/
theorem TS.ints (h : TS w lo T 1 ov k) : ∃ A cap v, ov = .slice A k cap ∧ FrI w lo T A k v := by
  obtain ⟨xs, h0, h1, h2⟩ := h
  rcases h0.2 with ⟨hov, hk⟩ | ⟨g, cap, cur, hov, hg, hh, hnc, _, hsz, htk⟩
  · subst hk
    exact ⟨none, 0, fun _ => 0, hov, .inl rfl⟩
  · refine ⟨_, cap, fun i => intOf (xs.getD i undef), hov, .inr ⟨g, rfl, hg, cur, hh, by omega, fun i hi => ?_⟩⟩
    have hx : xs[i]? = some (xs[i]'(by omega)) := List.getElem?_eq_getElem (by omega)
    obtain ⟨z, hz⟩ := h2 (xs[i]'(by omega)) (List.getElem_mem _)
    have hd : xs.getD i undef = .int .i64 z := by rw [List.getD_eq_getElem?_getD, hx, hz]; rfl
    show cur[i]? = some (.int .i64 (intOf (xs.getD i undef)))
    rw [hd]
    rw [hz, ← htk, List.getElem?_take_of_lt (by omega)] at hx
    have h3 : cur[i]? = some (.int .i64 z) := by simpa using hx
    exact h3
end
end Go.Proofs.Ytbebdhjhlheboaa

namespace Go.Proofs.Ytbebdhjhlheboaa
open Go.ChangeShapes Go.WideShapes Go.ChangeAt Go.RowKit

set_option maxRecDepth 100000 in
set_option maxHeartbeats 800000 in
theorem open_any (A : Option Addr) (n cap : Nat) (y : Nat → Int) (w : World) (hm : n ≤ maxLen) (hcap : n ≤ cap) (hr : RdY w w.heap.size A n y) :
    Calls Try.prog 56 #[.slice A n cap] w fun e w' => e = .returned (.pointer (some ⟨w.heap.size, 0, none⟩)) ∧ Below w.heap.size w w' ∧ Rdr w' w.heap.size 0 ∧ w.heap.size < w'.heap.size := by
  unfold maxLen at hm
  have HR := Lib.hid hr
  by_cases h : n ≤ 2000
  · go_enter Try.func56, Try.ntmps56
    go_wp2
    go_ret
    refine ⟨rfl, bl_alloc (Below.refl _ _) _, ⟨A, n, cap, 0, y, ⟨by go_simp, by go_simp⟩, ⟨by go_simp, by go_simp⟩, Nat.le_refl _, h, (HR.out.below (bl_alloc (Below.refl _ _) _))⟩, by simp⟩
  · have h20 : (2000 : Int) ≤ (cap : Int) := by omega
    go_enter Try.func56, Try.ntmps56
    go_wp2
    go_ret
    refine ⟨rfl, bl_alloc (Below.refl _ _) _, ⟨A, 2000, cap, 0, y, ⟨by go_simp, by go_simp⟩, ⟨by go_simp, by go_simp⟩, Nat.le_refl _, Nat.le_refl _, ?_⟩, by simp⟩
    intro hn
    obtain ⟨b, off, e, hlt, hc⟩ := (HR.out.below (bl_alloc (Below.refl w.heap.size w) _)) (by omega)
    exact ⟨b, off, e, hlt, fun i hi => hc i (by omega)⟩

/-- What a question to the reader leaves. -/
def PRes (w : World) (R K : Nat) (n : Int) (e : Ending) (w' : World) : Prop := ∃ x : Int, e = .returned (.int .i64 x) ∧ 0 ≤ x ∧ (x = 0 ∨ x < n) ∧ Gr R w w' ∧ Rdr w' R (K + 1)

theorem xor_bd (a b : Int) (h0 : 0 ≤ a) (h1 : a < 4611686018427387904) (h2 : 0 ≤ b) (h3 : b < 4611686018427387904) : 0 ≤ bits .xor .i64 a b ∧ bits .xor .i64 a b < 4611686018427387904 := by
  obtain ⟨x, rfl⟩ := Int.eq_ofNat_of_zero_le h0
  obtain ⟨z, rfl⟩ := Int.eq_ofNat_of_zero_le h2
  have hx : x < 2 ^ 62 := by omega
  have hz : z < 2 ^ 62 := by omega
  have hlt : x ^^^ z < 2 ^ 62 := Nat.xor_lt_two_pow hx hz
  have e : bits .xor .i64 (x : Int) (z : Int) = ((x ^^^ z : Nat) : Int) := by
    have hb : ((BitVec.ofInt 64 (x : Int)) ^^^ (BitVec.ofInt 64 (z : Int))).toNat = x ^^^ z := by
      simp only [BitVec.toNat_xor, BitVec.ofInt_natCast, BitVec.toNat_ofNat]
      rw [Nat.mod_eq_of_lt (by omega), Nat.mod_eq_of_lt (by omega)]
    show IntKind.i64.wrap ((((BitVec.ofInt 64 (x : Int)) ^^^ (BitVec.ofInt 64 (z : Int))).toNat : Nat) : Int) = _
    rw [hb]
    exact IntWalk.i64_in _ (by omega)
  rw [e]
  omega
end Go.Proofs.Ytbebdhjhlheboaa

namespace Go.Proofs.Ytbebdhjhlheboaa
open Go.ChangeShapes Go.WideShapes Go.ChangeAt Go.RowKit

theorem emod_bd (a n : Int) (hn : 1 ≤ n) : 0 ≤ a % n ∧ a % n < n := ⟨Int.emod_nonneg _ (by omega), Int.emod_lt_of_pos _ (by omega)⟩
theorem tmod_bd (a n : Int) (h0 : 0 ≤ a) (hn : 1 ≤ n) : 0 ≤ a.tmod n ∧ a.tmod n < n := by
  rw [Int.tmod_eq_emod_of_nonneg h0]
  exact emod_bd a n hn

theorem rdr_next {w : World} {R K : Nat} {A : Option Addr} {nb cap p : Nat} {y : Nat → Int} (h0 : Cel w R 0 (.slice A nb cap)) (h1 : Cel w R 1 (.int .i64 (p : Nat))) (hp : p ≤ K) (hnb : nb ≤ 2000) (hy : RdY w R A nb y) :
    Rdr (w.setCell ⟨R, 1, none⟩ (.int .i64 ((p : Int) + 1))) R (K + 1) ∧ Gr R w (w.setCell ⟨R, 1, none⟩ (.int .i64 ((p : Int) + 1))) := by
  refine ⟨⟨A, nb, cap, p + 1, y, h0.set (by omega), ?_, by omega, hnb, fun hn => ?_⟩, (Gr.refl R w).set (.inl rfl) _⟩
  · have := h1.put (u := .int .i64 ((p : Int) + 1))
    simpa using this
  · obtain ⟨b, off, e, hlt, hc⟩ := hy hn
    exact ⟨b, off, e, hlt, fun i hi => ⟨(World.cell?_setCell_other _ _ _ _ (fun e => by injection e with e1; omega)).trans (hc i hi).1, (hc i hi).2⟩⟩

set_option maxRecDepth 100000 in
set_option maxHeartbeats 3200000 in
theorem pick_any (R K : Nat) (n : Int) (w : World) (hK : K ≤ 1000000) (h : Rdr w R K) :
    Calls Try.prog 59 #[.pointer (some ⟨R, 0, none⟩), .int .i64 n] w (PRes w R K n) := by
  obtain ⟨A, nb, cap, p, y, k0, k1, hp, hnb, hy⟩ := h
  obtain ⟨hR, hG⟩ := rdr_next k0 k1 hp hnb hy
  have HR := Lib.hid hR
  have HG := Lib.hid hG
  obtain ⟨c0, f0⟩ := k0
  obtain ⟨c1, f1⟩ := k1
  have HY := Lib.hid hy
  clear hR hG hy
  by_cases hn : n < 1
  · go_enter Try.func59, Try.ntmps59
    go_wp2
    go_ret
    exact ⟨0, rfl, Int.le_refl _, .inl rfl, HG.out, HR.out⟩
  · by_cases h0 : nb = 0
    · subst h0
      go_enter Try.func59, Try.ntmps59
      go_wp2
      go_ret
      exact ⟨0, rfl, Int.le_refl _, .inl rfl, HG.out, HR.out⟩
    · have hnb0 : ((nb : Int) == 0) = false := by rw [beq_eq_false_iff_ne]; omega
      obtain ⟨b, off, rfl, hbR, hc⟩ := HY.out (by omega)
      by_cases hlt : p < nb
      · obtain ⟨hc1, hy0, hy1⟩ := hc p hlt
        have hm := emod_bd (y p) n (by omega)
        have Hm := Lib.hid hm
        clear hc hm
        go_enter Try.func59, Try.ntmps59
        go_wp2
        go_ret
        exact ⟨y p % n, rfl, Hm.out.1, .inr Hm.out.2, HG.out, HR.out⟩
      · obtain ⟨q1, e1, l1⟩ : ∃ q : Nat, Int.tmod (p : Int) (nb : Int) = (q : Int) ∧ q < nb := ⟨p % nb, by rw [Int.tmod_eq_emod_of_nonneg (by omega)]; simp, Nat.mod_lt _ (by omega)⟩
        obtain ⟨q2, e2, l2⟩ : ∃ q : Nat, Int.tmod ((p : Int) * 7 + 3) (nb : Int) = (q : Int) ∧ q < nb := ⟨(p * 7 + 3) % nb, by rw [Int.tmod_eq_emod_of_nonneg (by omega)]; simp, Nat.mod_lt _ (by omega)⟩
        obtain ⟨q3, e3, l3⟩ : ∃ q : Nat, Int.tdiv (p : Int) (nb : Int) = (q : Int) ∧ q ≤ p := ⟨p / nb, by rw [Int.tdiv_eq_ediv_of_nonneg (by omega)]; simp, Nat.div_le_self _ _⟩
        obtain ⟨hc1, ha0, ha1⟩ := hc q1 l1
        obtain ⟨hc2, hb0, hb1⟩ := hc q2 l2
        have Hc := Lib.hid hc
        clear hc
        go_enter Try.func59, Try.ntmps59
        go_upto_region 7 with fail
        have hw1 : IntKind.i64.wrap ((p : Int) * 7) = (p : Int) * 7 := IntWalk.i64_in _ (by omega)
        have hw2 : IntKind.i64.wrap ((p : Int) * 7 + 3) = (p : Int) * 7 + 3 := IntWalk.i64_in _ (by omega)
        have hw3 : IntKind.i64.wrap (y q1) = y q1 := IntWalk.i64_in _ (by omega)
        have hw4 : IntKind.i64.wrap (y q2) = y q2 := IntWalk.i64_in _ (by omega)
        have hw5 : IntKind.i64.wrap (y q1 * 131) = y q1 * 131 := IntWalk.i64_in _ (by omega)
        have hw6 : IntKind.i64.wrap (y q2 * 1117) = y q2 * 1117 := IntWalk.i64_in _ (by omega)
        have hw7 : IntKind.i64.wrap (y q1 * 131 + y q2 * 1117) = y q1 * 131 + y q2 * 1117 := IntWalk.i64_in _ (by omega)
        have hw8 : IntKind.i64.wrap ((p : Int) * 29) = (p : Int) * 29 := IntWalk.i64_in _ (by omega)
        have hw9 : IntKind.i64.wrap (y q1 * 131 + y q2 * 1117 + (p : Int) * 29) = y q1 * 131 + y q2 * 1117 + (p : Int) * 29 := IntWalk.i64_in _ (by omega)
        have hw10 : IntKind.i64.wrap ((q3 : Int) * 53) = (q3 : Int) * 53 := IntWalk.i64_in _ (by omega)
        have hw11 : IntKind.i64.wrap (q3 : Int) = (q3 : Int) := IntWalk.i64_in _ (by omega)
        have hw12 : IntKind.i64.wrap (y q1 * 131 + y q2 * 1117 + (p : Int) * 29 + (q3 : Int) * 53) = y q1 * 131 + y q2 * 1117 + (p : Int) * 29 + (q3 : Int) * 53 := IntWalk.i64_in _ (by omega)
        go_quiet (fail)
        have hX0 : 0 ≤ y q1 * 131 + y q2 * 1117 + (p : Int) * 29 + (q3 : Int) * 53 := by omega
        have hX1 : y q1 * 131 + y q2 * 1117 + (p : Int) * 29 + (q3 : Int) * 53 < 4611686018427387904 := by omega
        clear hw1 hw2 hw3 hw4 hw5 hw6 hw7 hw8 hw9 hw10 hw11 hw12
        generalize y q1 * 131 + y q2 * 1117 + (p : Int) * 29 + (q3 : Int) * 53 = X at *
        clear hc1 hc2 e1 e2 e3
        have hx := xor_bd X (X / 64) hX0 hX1 (by omega) (by omega)
        have hm := emod_bd (bits .xor .i64 X (X / 64)) n (by omega)
        have Hm := Lib.hid hm
        obtain ⟨hx0, hx1⟩ := hx
        clear hm
        go_wp2
        go_ret
        exact ⟨bits .xor .i64 X (X / 64) % n, rfl, Hm.out.1, .inr Hm.out.2, HG.out.bel (bl_drewN (Below.refl _ _) _), HR.out.bel (bl_drewN (Below.refl _ _) _)⟩
end Go.Proofs.Ytbebdhjhlheboaa

namespace Go.Proofs.Ytbebdhjhlheboaa
open Go.ChangeShapes Go.WideShapes Go.ChangeAt Go.RowKit

/-- What the draw of a listed number leaves. -/
def NRes (w : World) (R K : Nat) (cs : Array Value) (e : Ending) (w' : World) : Prop := ∃ z : Int, e = .returned (.int .i64 z) ∧ Value.int .i64 z ∈ cs.toList ∧ Gr R w w' ∧ Rdr w' R (K + 1)
theorem lit_all (L : List Int) : ∀ u ∈ L.map vI, ∃ z, u = .int .i64 z := fun u hu => by
  obtain ⟨z, _, rfl⟩ := List.mem_map.1 hu
  exact ⟨z, rfl⟩

set_option maxRecDepth 100000 in
set_option maxHeartbeats 800000 in
theorem num_any (R K b n : Nat) (cs : Array Value) (T : TypeId) (w : World) (hK : K ≤ 1000000) (h : Rdr w R K) (hb : b ≠ R) (hh : w.heap[b]? = some (.cells cs T (0, 0))) (hn : cs.size = n) (h0 : 0 < n) (hm : n ≤ 1000) (hall : ∀ u ∈ cs.toList, ∃ z, u = .int .i64 z) :
    Calls Try.prog 67 #[.pointer (some ⟨R, 0, none⟩), .slice (some ⟨b, 0, none⟩) n n] w (NRes w R K cs) := by
  have hblt : b < w.heap.size := by
    rcases Nat.lt_or_ge b w.heap.size with hlt | hge
    · exact hlt
    · rw [Array.getElem?_eq_none hge] at hh; cases hh
  have Hp := Lib.hid (pick_any R K (n : Int) w hK h)
  have HH := Lib.hid hh
  have HA := Lib.hid hall
  clear hh hall h
  go_enter Try.func67, Try.ntmps67
  go_wp2_with fail
  refine Hp.out.mono ?_
  rintro e w1 ⟨x, rfl, hx0, hx1, hg, hr⟩
  obtain ⟨i, rfl⟩ := Int.eq_ofNat_of_zero_le hx0
  have hi : i < n := by omega
  have hci : cs[i]? = some (cs[i]'(by omega)) := Array.getElem?_eq_getElem (by omega)
  obtain ⟨z, hz⟩ := HA.out (cs[i]'(by omega)) (by simp)
  rw [hz] at hci
  have hh1 : w1.heap[b]? = some (.cells cs T (0, 0)) := (hg.block b hblt (by intro e; cases e; exact hb rfl)).trans HH.out
  have hc1 : w1.cell? ⟨b, i, none⟩ = some (.int .i64 z) := (cell_of_row w1 b _ cs _ _ hh1).trans hci
  have Hmem := Lib.hid (show Value.int .i64 z ∈ cs.toList from by rw [← hz]; simp)
  have HG := Lib.hid hg
  have HR := Lib.hid hr
  clear hci hz hh1 hg hr hx0 hx1
  go_wp2
  go_ret
  exact ⟨z, rfl, Hmem.out, HG.out, HR.out⟩

section
variable {w wr wq W : World} {R lo k : Nat} {ov : Value} {T : TypeId}
set_option maxRecDepth 100000 in
set_option maxHeartbeats 800000 in
/-- The append of one int to a slice that the draw has made. -/
theorem wp_ts1 {o : Oper} {a : Act} {K : Act → World → Prop} {Q : Exit → Act → World → Prop} (s x : Operand) (t : TypeId)
    (ho : o.op = .call { callee := .builtin .append, args := #[s, x], argTypes := #[t, t] }) (ht : Try.prog.underlying t = some (.slice T))
    (hinf : (Try.prog.info? T).map (fun i => (i.zero, i.size, i.bytes)) = some (some (.int .i64 0), 1, 8))
    (h : TS W lo T 1 ov k) (hlo : lo ≤ W.heap.size) (hs : a.eval s = ov) {H : Nat} (hx : a.eval x = .slice (some ⟨H, 0, none⟩) 1 1) {X : Int} {T' : TypeId} (hnew : W.heap[H]? = some (.cells #[.int .i64 X] T' (0, 0))) (hk : k ≤ 1048576)
    (hK : ∀ g cap w', TS w' lo T 1 (.slice (some ⟨g, 0, none⟩) (k + 1) cap) (k + 1) → W.grownBy w' ov.ownBlock → K (a.put o.dst (.slice (some ⟨g, 0, none⟩) (k + 1) cap)) w') :
    o.wp Try.prog a W K Q := by
  obtain ⟨i0, hi, hz0, hz1, hz2⟩ := info_parts hinf
  obtain ⟨xs, h0, h1, h2⟩ := h
  refine wp_append_lies _ s x t ho lo T i0 _ 1 8 ht hi hz0 hz1 hz2 rfl (by omega) ov k _ hs h0 ⟨H, 0, none⟩ 1 1 [.int .i64 X] hx (by rfl)
    (World.news_of_block hnew) (by simp [Value.oneCell']) (by omega) (by unfold maxLen; omega) (by omega) hlo W.heap.size rfl ?_
  intro g cap w' hown hg _ _
  refine hK g cap w' ⟨_, hown, by simp; omega, fun u hu => ?_⟩ hg
  rcases List.mem_append.1 hu with hu | hu
  · exact h2 u hu
  · exact ⟨X, by simpa using hu⟩
/-- An empty slice that has just been made. -/
theorem ts_lit (W : World) (T : TypeId) (s : Nat) : TS (W.alloc (.cells #[] T)) W.heap.size T s (.slice (some ⟨W.heap.size, 0, none⟩) 0 0) 0 :=
  ⟨[], by simpa using World.ownsRow_lit W #[] 0 (Nat.le_refl _) (by unfold maxLen; omega) (by simp), by simp, fun u hu => by cases hu⟩
end
end Go.Proofs.Ytbebdhjhlheboaa

namespace Go.Proofs.Ytbebdhjhlheboaa
open Go.ChangeShapes Go.WideShapes Go.ChangeAt Go.RowKit

section
variable {w w1 : World} {lo k s g cap : Nat} {T : TypeId} {ov : Value}
theorem TS.open (h : TS w lo T s ov k) (hk : 0 < k) : ∃ g cap, ov = .slice (some ⟨g, 0, none⟩) k cap ∧ k ≤ cap ∧ lo ≤ g ∧ g < w.heap.size ∧ (∀ j, j < k * s → ∃ u, w.cell? ⟨g, j, none⟩ = some u) ∧ ∀ j, w.frozen? ⟨g, j, none⟩ = false := by
  obtain ⟨xs, h0, h1, h2⟩ := h
  rcases h0.2 with ⟨_, h3⟩ | ⟨g, cap, cur, hov, hg, hh, hnc, _, hsz, htk⟩
  · omega
  · have hks : k * s ≤ cur.size := by rw [hsz]; exact Nat.mul_le_mul_right _ hnc
    refine ⟨g, cap, hov, hnc, hg, ?_, fun j hj => ⟨cur[j]'(by omega), (cell_of_row w g _ cur _ _ hh).trans (Array.getElem?_eq_getElem (by omega))⟩, fun j => by simp [World.frozen?, hh]⟩
    rcases Nat.lt_or_ge g w.heap.size with hlt | hge
    · exact hlt
    · rw [Array.getElem?_eq_none hge] at hh; cases hh
theorem TS.store (h : TS w lo T s (.slice (some ⟨g, 0, none⟩) k cap) k) (j : Nat) (z : Int) : TS (w.setCell ⟨g, j, none⟩ (.int .i64 z)) lo T s (.slice (some ⟨g, 0, none⟩) k cap) k := by
  obtain ⟨xs, h0, h1, h2⟩ := h
  refine ⟨_, (h0.stored j (.int .i64 z)).1, by simp [h1], fun u hu => ?_⟩
  rcases List.mem_or_eq_of_mem_set hu with hu | rfl
  · exact h2 u hu
  · exact ⟨z, rfl⟩
theorem FrI.short {B n n' : Nat} {A : Option Addr} {v : Nat → Int} (h : FrI w B T A n v) (hn : n' ≤ n) : FrI w B T A n' v := by
  rcases h with h | ⟨G, e, hG, cs, hh, h1, h2⟩
  · exact .inl (by omega)
  · exact .inr ⟨G, e, hG, cs, hh, by omega, fun i hi => h2 i (by omega)⟩
end

/-- What the draw of a slice of ints leaves. -/
def IDr (w : World) (R K : Nat) (e : Ending) (w' : World) : Prop := ∃ A k cap v, e = .returned (.slice A k cap) ∧ k ≤ 12 ∧ FrI w' w.heap.size 3 A k v ∧ Gr R w w' ∧ Rdr w' R K

set_option maxRecDepth 100000 in
set_option maxHeartbeats 3200000 in
theorem partial_any (R K : Nat) (w : World) (hK : K ≤ 900000) (h : Rdr w R K) :
    Calls Try.prog 57 #[.pointer (some ⟨R, 0, none⟩)] w (IDr w R (K + 20)) := by
  have hRw := h.lt
  have HR := Lib.hid h
  clear h
  go_enter Try.func57, Try.ntmps57
  go_wp2
  go_loopw [3, 4] (fun t i wr => ∃ k : Nat, k ≤ 12 ∧ i = .int .i64 k ∧ TS wr w.heap.size 3 1 t k ∧ Gr R w wr ∧ Rdr wr R (K + k)) (fun _ i _ => 12 - (intOf i).toNat)
  case atStart => exact ⟨0, Nat.zero_le _, rfl, ts_lit w 3 1, Gr.of (bl_alloc (Below.refl _ _) _), HR.out.bel (bl_alloc (Below.refl _ _) _)⟩
  case round =>
    obtain ⟨k, hk, rfl, hts, hgr, hrd⟩ := hrel
    have hRr := hrd.lt
    have TSk := Lib.hid hts
    have GR := Lib.hid hgr
    have RD := Lib.hid hrd
    have hsz : w.heap.size ≤ wr.heap.size := hgr.size
    clear hts hgr hrd
    by_cases hlt : k < 12
    · have hkK : K + k ≤ 1000000 := by omega
      go_wp2_with fail
      have HAl := Lib.hid (bl_alloc (Below.refl wr.heap.size wr) (.cells #[.int .i64 0, .int .i64 0, .int .i64 1, .int .i64 (-1), .int .i64 0] 3))
      refine (num_any R (K + k) wr.heap.size 5 _ _ _ hkK (RD.out.bel HAl.out) (by omega) (heap_alloc_new wr _) (by rfl) (by omega) (by omega) (lit_all [0, 0, 1, -1, 0])).mono ?_
      rintro e w2 ⟨z, rfl, _, hg, hr⟩
      have TS2 := Lib.hid ((TSk.out.bel HAl.out).gr hg hRw)
      have GR2 := Lib.hid ((GR.out.bel HAl.out).trans hg)
      have RD2 := Lib.hid hr
      have hsz2 : w.heap.size ≤ w2.heap.size := GR2.out.size
      clear hg hr
      go_wp2_with (at_builtin; refine wpList_plain (by rfl) fun K' hK' => ?_; refine wp_ts1 _ _ 23 (by rfl) Try.underlying23 Try.infoInt (TS2.out.bel (bl_alloc (Below.refl _ _) _)) (by simp; omega) (by rfl) (by rfl) (heap_alloc_new _ _) (by omega) ?_; intro gg cap1 w3 hts3 hgr3; refine hK' _ _ ?_; clear hK' K')
      go_roundw
      case rel => exact ⟨k + 1, by omega, by go_num, hts3, (GR2.out.bel (bl_alloc (Below.refl _ _) _)).grow hgr3 (fun j e => TS2.out.lt j e), (RD2.out.bel (bl_alloc (Below.refl _ _) _)).grow hgr3 (fun j e => by have := TS2.out.lt j e; omega)⟩
      case measure => simp [intOf]; omega
    · have e : k = 12 := by omega
      subst e
      obtain ⟨g, cap, rfl, hcap, hg1, hg2, hcell, hfro⟩ := TSk.out.open (by omega)
      obtain ⟨A', cap', v, e', hF⟩ := TSk.out.ints
      cases e'
      have HF := Lib.hid hF
      clear hF
      go_wp2_with fail
      refine (pick_any R (K + 12) 40 _ (by omega) RD.out).mono ?_
      rintro e w2 ⟨x, rfl, hx0, hx1, hg, hr⟩
      have TS2 := Lib.hid (TSk.out.gr hg hRw)
      have GR2 := Lib.hid (GR.out.trans hg)
      have RD2 := Lib.hid hr
      have hz2 := hg.size
      clear hg hr hcell hfro HF
      by_cases h0 : x = 0
      · subst h0
        clear hx0 hx1
        go_wp2_with fail
        have HAl := Lib.hid (bl_alloc (Below.refl w2.heap.size w2) (.cells #[.int .i64 2, .int .i64 (-2), .int .i64 9223372036854775807, .int .i64 (-9223372036854775808)] 3))
        refine (num_any R (K + 12 + 1) w2.heap.size 4 _ _ _ (by omega) (RD2.out.bel HAl.out) (by omega) (heap_alloc_new w2 _) (by rfl) (by omega) (by omega) (lit_all [2, -2, 9223372036854775807, -9223372036854775808])).mono ?_
        rintro e w3 ⟨z, rfl, _, hg, hr⟩
        have TS3 := Lib.hid ((TS2.out.bel HAl.out).gr hg hRw)
        have GR3 := Lib.hid ((GR2.out.bel HAl.out).trans hg)
        have RD3 := Lib.hid hr
        obtain ⟨g', cap'', e', _, _, hg3, hcell, hfro⟩ := TS3.out.open (by omega)
        cases e'
        obtain ⟨u0, hu0⟩ := hcell 0 (by omega)
        have hf0 := hfro 0
        clear hg hr hcell hfro
        go_wp2
        go_ret
        obtain ⟨A', cap', v, e', hF⟩ := (TS3.out.store 0 z).ints
        cases e'
        exact ⟨_, 12, _, v, rfl, Nat.le_refl _, hF, GR3.out.set (.inr hg1) _, (RD3.out.set (by show R < g; omega) _).more (by omega)⟩
      · by_cases h1 : x = 1
        · subst h1
          clear hx0 hx1
          obtain ⟨A', cap', v, e', hF⟩ := TS2.out.ints
          cases e'
          have HF := Lib.hid hF
          clear hF
          go_wp2
          go_ret
          exact ⟨_, 11, _, v, rfl, by omega, HF.out.short (by omega), GR2.out, RD2.out.more (by omega)⟩
        · have hd0 : (x == 0) = false := by rw [beq_eq_false_iff_ne]; exact h0
          have hd1 : (x == 1) = false := by rw [beq_eq_false_iff_ne]; exact h1
          clear hx0 hx1 h0 h1
          obtain ⟨A', cap', v, e', hF⟩ := TS2.out.ints
          cases e'
          have HF := Lib.hid hF
          clear hF
          go_wp2
          go_ret
          exact ⟨_, 12, _, v, rfl, Nat.le_refl _, HF.out, GR2.out, RD2.out.more (by omega)⟩
end Go.Proofs.Ytbebdhjhlheboaa

namespace Go.Proofs.Ytbebdhjhlheboaa
open Go.ChangeShapes Go.WideShapes Go.ChangeAt Go.RowKit

section
variable {w w1 wr wq W : World} {R lo k s : Nat} {ov : Value} {T : TypeId} {A : Option Addr}
theorem TS.lt2 (h : TS w lo T s ov k) : ∀ j, ov.ownBlock = some j → lo ≤ j ∧ j < w.heap.size := fun j e => by
  obtain ⟨xs, h0, h1, h2⟩ := h
  exact h0.lt j e
theorem TS.setne (h : TS w lo T s ov k) {p : Addr} (hp : ∀ j, ov.ownBlock = some j → j ≠ p.block) (u : Value) : TS (w.setCell p u) lo T s ov k := by
  obtain ⟨xs, h0, h1, h2⟩ := h
  refine ⟨xs, ⟨h0.1, ?_⟩, h1, h2⟩
  rcases h0.2 with hh | ⟨g, cap, cur, e1, hg, hh, hr⟩
  · exact .inl hh
  · exact .inr ⟨g, cap, cur, e1, hg, (Below.heap_setCell w p u g (hp g (by rw [e1]; rfl))).trans hh, hr⟩
theorem Cel.grow {j o : Nat} {v : Value} (hc : Cel w j o v) (hg : w.grownBy w1 ov.ownBlock) (hne : ∀ b, ov.ownBlock = some b → b ≠ j) : Cel w1 j o v := by
  have hlt : j < w.heap.size := World.block_lt_of_cell? w ⟨j, o, none⟩ hc.1
  have hx : some j ≠ ov.ownBlock := fun e => hne j e.symm rfl
  exact ⟨hg.cell (a := ⟨j, o, none⟩) hc.1 hx, (hg.frozen_far ⟨j, o, none⟩ hlt hx).trans hc.2⟩
set_option maxRecDepth 100000 in
set_option maxHeartbeats 800000 in
/-- The append of one term to a slice that the draw has made. -/
theorem wp_ts2 {o : Oper} {a : Act} {K : Act → World → Prop} {Q : Exit → Act → World → Prop} (s x : Operand)
    (ho : o.op = .call { callee := .builtin .append, args := #[s, x], argTypes := #[53, 53] })
    (h : TS W lo 114 2 ov k) (hlo : lo ≤ W.heap.size) (hs : a.eval s = ov) {H : Nat} (hx : a.eval x = .slice (some ⟨H, 0, none⟩) 1 1) {X Y : Int} (hnew : W.heap[H]? = some (.cells #[.int .i64 X, .int .i64 Y] 114 (0, 0))) (hk : k ≤ 1048576)
    (hK : ∀ g cap w', TS w' lo 114 2 (.slice (some ⟨g, 0, none⟩) (k + 1) cap) (k + 1) → W.grownBy w' ov.ownBlock → K (a.put o.dst (.slice (some ⟨g, 0, none⟩) (k + 1) cap)) w') :
    o.wp Try.prog a W K Q := by
  obtain ⟨i0, hi, hz0, hz1, hz2⟩ := info_parts Try.infoTerm
  obtain ⟨xs, h0, h1, h2⟩ := h
  refine wp_append_lies _ s x 53 ho lo 114 i0 _ 2 16 Try.underlying53 hi hz0 hz1 hz2 rfl (by omega) ov k _ hs h0 ⟨H, 0, none⟩ 1 1 [.int .i64 X, .int .i64 Y] hx (by rfl)
    (World.news_of_block hnew) (by simp [Value.oneCell']) (by omega) (by unfold maxLen; omega) (by omega) hlo W.heap.size rfl ?_
  intro g cap w' hown hg _ _
  refine hK g cap w' ⟨_, hown, by simp; omega, fun u hu => ?_⟩ hg
  rcases List.mem_append.1 hu with hu | hu
  · exact h2 u hu
  · simp only [List.mem_cons, List.not_mem_nil, or_false] at hu
    rcases hu with rfl | rfl
    · exact ⟨X, rfl⟩
    · exact ⟨Y, rfl⟩

/-- A slice of terms that the draw has made, whatever they are. -/
def FE (w : World) (lo : Nat) (A : Option Addr) (k : Nat) : Prop := ∃ c l, Frs w lo A k c l
theorem FE.bel (h : FE w lo A k) (hb : Below w.heap.size w w1) : FE w1 lo A k := by
  obtain ⟨c, l, h⟩ := h
  exact ⟨c, l, h.below hb⟩
theorem FE.gr (h : FE w lo A k) (hg : Gr R w w1) (hR : R < lo) : FE w1 lo A k := by
  obtain ⟨c, l, h⟩ := h
  rcases h with h | ⟨G, e, hG, h⟩
  · exact ⟨c, l, .inl h⟩
  · exact ⟨c, l, .inr ⟨G, e, hG, h.at_ (hg.block G h.lt (by intro e; cases e; omega))⟩⟩
theorem FE.set_ (h : FE w lo A k) {p : Addr} (hp : p.block < lo) (u : Value) : FE (w.setCell p u) lo A k := by
  obtain ⟨c, l, h⟩ := h
  rcases h with h | ⟨G, e, hG, h⟩
  · exact ⟨c, l, .inl h⟩
  · exact ⟨c, l, .inr ⟨G, e, hG, h.at_ (Below.heap_setCell w p u G (by omega))⟩⟩
theorem FE.more (h : FE w lo A k) {lo' : Nat} (hl : lo' ≤ lo) : FE w lo' A k := by
  obtain ⟨c, l, h⟩ := h
  exact ⟨c, l, h.more hl⟩
theorem FE.open (h : FE w lo A k) (hk : 0 < k) : ∃ G, A = some ⟨G, 0, none⟩ ∧ lo ≤ G ∧ G < w.heap.size ∧ (∀ j, j < k * 2 → ∃ u, w.cell? ⟨G, j, none⟩ = some u) ∧ ∀ j, w.frozen? ⟨G, j, none⟩ = false := by
  obtain ⟨c, l, h⟩ := h
  rcases h with h | ⟨G, e, hG, h⟩
  · omega
  · exact ⟨G, e, hG, h.lt, fun j hj => h.cell hj, fun j => h.frozen j⟩
theorem FE.store {G : Nat} (h : FE w lo (some ⟨G, 0, none⟩) k) (j : Nat) (z : Int) : FE (w.setCell ⟨G, j, none⟩ (.int .i64 z)) lo (some ⟨G, 0, none⟩) k := by
  obtain ⟨c, l, h⟩ := h
  rcases h with h | ⟨G', e, hG, cs, hh, h1, h2⟩
  · exact ⟨c, l, .inl h⟩
  · cases e
    refine ⟨fun i => if i * 2 = j then z else c i, fun i => if i * 2 + 1 = j then z else l i, .inr ⟨G, rfl, hG, cs.setIfInBounds j (.int .i64 z), by simp [World.setCell, Array.getElem?_modify, hh], by simp [h1], fun i hi => ?_⟩⟩
    obtain ⟨a, b⟩ := h2 i hi
    constructor
    · rw [Array.getElem?_setIfInBounds]
      by_cases e : j = i * 2
      · rw [if_pos e, if_pos (by omega)]
        simp [e]
      · rw [if_neg e, a]
        simp [show ¬ i * 2 = j by omega]
    · rw [Array.getElem?_setIfInBounds]
      by_cases e : j = i * 2 + 1
      · rw [if_pos e, if_pos (by omega)]
        simp [e]
      · rw [if_neg e, b]
        simp [show ¬ i * 2 + 1 = j by omega]
theorem TS.fe (h : TS w lo 114 2 ov k) : ∃ A cap, ov = .slice A k cap ∧ FE w lo A k := by
  obtain ⟨A, cap, c, l, e, h, _⟩ := h.terms
  exact ⟨A, cap, e, c, l, h⟩
end

/-- A slice that nothing lies behind has no room; none is longer than its room. -/
def CapOk (A : Option Addr) (k cap : Nat) : Prop := (A = none → cap = 0) ∧ k ≤ cap
theorem TS.capOk {w : World} {lo k cap : Nat} {A : Option Addr} (h : TS w lo 114 2 (.slice A k cap) k) : CapOk A k cap := by
  refine ⟨?_, ?_⟩
  · obtain ⟨_, _, _, _, e, _, h'⟩ := h.terms
    cases e
    exact h'
  · by_cases hk : 0 < k
    · obtain ⟨g, cap', e, hc, _⟩ := h.open hk
      cases e
      exact hc
    · omega

/-- What the draw of a constraint leaves: at most m terms, in new memory. -/
def CDr (w : World) (R K m : Nat) (e : Ending) (w' : World) : Prop := ∃ A k cap bd, e = .returned (.agg #[.slice A k cap, .int .i64 bd]) ∧ k ≤ m ∧ FE w' w.heap.size A k ∧ Gr R w w' ∧ Rdr w' R K ∧ CapOk A k cap

set_option maxRecDepth 100000 in
set_option maxHeartbeats 6400000 in
theorem draw_any (R K m : Nat) (w : World) (hK : K ≤ 900000) (hm : m ≤ 12) (h : Rdr w R K) :
    Calls Try.prog 77 #[.pointer (some ⟨R, 0, none⟩), .int .i64 m] w (CDr w R (K + 100) m) := by
  have hRw := h.lt
  have HR := Lib.hid h
  clear h
  go_enter Try.func77, Try.ntmps77
  go_wp2
  go_loopw [6] (fun i wr => ∃ (j k : Nat) (ov : Value), j ≤ m ∧ k ≤ j ∧ i = .int .i64 ((j : Int) + 1) ∧ TS wr (w.heap.size + 1 + 1) 114 2 ov k ∧ Cel wr w.heap.size 0 (.slice none 0 0) ∧ Cel wr w.heap.size 1 (.int .i64 0) ∧ Cel wr (w.heap.size + 1) 0 ov ∧ Cel wr (w.heap.size + 1) 1 (.int .i64 0) ∧ Gr R w wr ∧ Rdr wr R (K + 3 * j)) (fun i _ => m + 1 - (intOf i).toNat)
  case atStart => exact ⟨0, 0, .slice none 0 0, Nat.zero_le _, Nat.le_refl _, rfl, TS.nil _ _ _ _, ⟨by go_simp, by go_simp⟩, ⟨by go_simp, by go_simp⟩, ⟨by go_simp, by go_simp⟩, ⟨by go_simp, by go_simp⟩, Gr.of (bl_alloc (bl_alloc (Below.refl _ _) _) _), HR.out.bel (bl_alloc (bl_alloc (Below.refl _ _) _) _)⟩
  case round =>
    obtain ⟨j, k, ov, hj, hk, rfl, hts, c0, c1, c2, c3, hgr, hrd⟩ := hrel
    have TSk := Lib.hid hts
    have GR := Lib.hid hgr
    have RD := Lib.hid hrd
    have C0 := Lib.hid c0
    have C1 := Lib.hid c1
    have C2 := Lib.hid c2
    have C3 := Lib.hid c3
    have hsz : w.heap.size + 1 < wr.heap.size := World.block_lt_of_cell? wr ⟨w.heap.size + 1, 0, none⟩ c2.1
    clear hts hgr hrd c0 c1 c2 c3
    by_cases hlt : j < m
    · have hjm : (j : Int) + 1 ≤ (m : Int) := by omega
      go_wp2_with fail
      refine (pick_any R (K + 3 * j) 2 _ (by omega) RD.out).mono ?_
      rintro e w2 ⟨x, rfl, hx0, hx1, hg, hr⟩
      have TS2 := Lib.hid (TSk.out.gr hg (by omega))
      have GR2 := Lib.hid (GR.out.trans hg)
      have RD2 := Lib.hid hr
      have D0 := Lib.hid (hg.cel C0.out (by omega))
      have D1 := Lib.hid (hg.cel C1.out (by omega))
      have D2 := Lib.hid (hg.cel C2.out (by omega))
      have D3 := Lib.hid (hg.cel C3.out (by omega))
      have hz2 : w.heap.size + 1 < w2.heap.size := Nat.lt_of_lt_of_le hsz hg.size
      clear hg hr TSk GR RD C0 C1 C2 C3
      by_cases h0 : x = 0
      · subst h0
        clear hx0 hx1
        go_wp2_with fail
        have HAl := Lib.hid (bl_alloc (Below.refl w2.heap.size w2) (.cells #[.int .i64 1, .int .i64 1, .int .i64 2, .int .i64 3, .int .i64 1, .int .i64 5, .int .i64 4] 3))
        refine (num_any R (K + 3 * j + 1) w2.heap.size 7 _ _ _ (by omega) (RD2.out.bel HAl.out) (by omega) (heap_alloc_new w2 _) (by rfl) (by omega) (by omega) (lit_all [1, 1, 2, 3, 1, 5, 4])).mono ?_
        rintro e w3 ⟨z, rfl, _, hg, hr⟩
        have TS3 := Lib.hid ((TS2.out.bel HAl.out).gr hg (by omega))
        have GR3 := Lib.hid ((GR2.out.bel HAl.out).trans hg)
        have RD3 := Lib.hid hr
        have E0 := Lib.hid (hg.cel (D0.out.below HAl.out) (by omega))
        have E1 := Lib.hid (hg.cel (D1.out.below HAl.out) (by omega))
        have E2 := Lib.hid (hg.cel (D2.out.below HAl.out) (by omega))
        have E3 := Lib.hid (hg.cel (D3.out.below HAl.out) (by omega))
        have hz3 : w.heap.size + 1 < w3.heap.size := by have h1 := HAl.out.size; have h2 := hg.size; omega
        have HO := Lib.hid (fun b e => (TS3.out.lt2 b e).2)
        clear hg hr TS2 GR2 RD2 D0 D1 D2 D3 HAl
        go_wp2_with fail
        have HAl := Lib.hid (bl_alloc (Below.refl w3.heap.size w3) (.cells #[.int .i64 z, .int .i64 ((j : Int) + 1)] 114))
        have t0 : Cel (w3.alloc (.cells #[.int .i64 z, .int .i64 ((j : Int) + 1)] 114)) w3.heap.size 0 (.int .i64 z) := ⟨by go_simp, by go_simp⟩
        have t1 : Cel (w3.alloc (.cells #[.int .i64 z, .int .i64 ((j : Int) + 1)] 114)) w3.heap.size 1 (.int .i64 ((j : Int) + 1)) := ⟨by go_simp, by go_simp⟩
        refine (pick_any R (K + 3 * j + 1 + 1) 2 _ (by omega) (RD3.out.bel HAl.out)).mono ?_
        rintro e w4 ⟨x, rfl, hx0, hx1, hg, hr⟩
        have TS4 := Lib.hid ((TS3.out.bel HAl.out).gr hg (by omega))
        have GR4 := Lib.hid ((GR3.out.bel HAl.out).trans hg)
        have RD4 := Lib.hid hr
        have F0 := Lib.hid (hg.cel (E0.out.below HAl.out) (by omega))
        have F1 := Lib.hid (hg.cel (E1.out.below HAl.out) (by omega))
        have F2 := Lib.hid (hg.cel (E2.out.below HAl.out) (by omega))
        have F3 := Lib.hid (hg.cel (E3.out.below HAl.out) (by omega))
        obtain ⟨u0, v0⟩ := hg.cel t0 (by omega)
        obtain ⟨u1, v1⟩ := hg.cel t1 (by omega)
        obtain ⟨g2, g2f⟩ := F2.out
        have hz4 : w.heap.size + 1 < w4.heap.size := World.block_lt_of_cell? w4 ⟨w.heap.size + 1, 0, none⟩ g2
        have hz34 : w3.heap.size < w4.heap.size := World.block_lt_of_cell? w4 ⟨w3.heap.size, 0, none⟩ u0
        clear hg hr TS3 GR3 RD3 E0 E1 E2 E3 HAl t0 t1
        by_cases h0 : x = 0
        · subst h0
          clear hx0 hx1
          go_upto_region 9 with fail
          have TS5 := Lib.hid (TS4.out.setne (p := ⟨w3.heap.size, 1, none⟩) (fun b e => by have := HO.out b e; show b ≠ w3.heap.size; omega) (.int .i64 (-((j : Int) + 1))))
          have GR5 := Lib.hid (GR4.out.set (p := ⟨w3.heap.size, 1, none⟩) (.inr (by show w.heap.size ≤ w3.heap.size; omega)) (.int .i64 (-((j : Int) + 1))))
          have RD5 := Lib.hid (RD4.out.set (p := ⟨w3.heap.size, 1, none⟩) (by show R < w3.heap.size; omega) (.int .i64 (-((j : Int) + 1))))
          have S0 := Lib.hid (F0.out.set (O' := w3.heap.size) (o' := 1) (u := .int .i64 (-((j : Int) + 1))) (by omega))
          have S1 := Lib.hid (F1.out.set (O' := w3.heap.size) (o' := 1) (u := .int .i64 (-((j : Int) + 1))) (by omega))
          have S2 := Lib.hid (F2.out.set (O' := w3.heap.size) (o' := 1) (u := .int .i64 (-((j : Int) + 1))) (by omega))
          have S3 := Lib.hid (F3.out.set (O' := w3.heap.size) (o' := 1) (u := .int .i64 (-((j : Int) + 1))) (by omega))
          have U0 := (Cel.set (O' := w3.heap.size) (o' := 1) (u := .int .i64 (-((j : Int) + 1))) ⟨u0, v0⟩ (by omega)).1
          have U1 := (Cel.put (u := .int .i64 (-((j : Int) + 1))) ⟨u1, v1⟩).1
          clear TS4 GR4 RD4 F0 F1 F2 F3 u0 v0 u1 v1 g2 g2f
          generalize w4.setCell ⟨w3.heap.size, 1, none⟩ (.int .i64 (-((j : Int) + 1))) = W4 at *
          have Z0 := S2.out.1
          have Z1 := S2.out.2
          have hszW : w.heap.size + 1 < W4.heap.size := World.block_lt_of_cell? W4 ⟨w.heap.size + 1, 0, none⟩ Z0
          have HAl := Lib.hid (bl_alloc (Below.refl W4.heap.size W4) (.cells #[.int .i64 z, .int .i64 (-((j : Int) + 1))] 114))
          go_wp2_with (at_builtin; refine wpList_plain (by rfl) fun K' hK' => ?_; refine wp_ts2 _ _ (by rfl) (TS5.out.bel HAl.out) (by simp; omega) (by rfl) (by rfl) (heap_alloc_new _ _) (by omega) ?_; intro gg cap1 w5 hts5 hgr5; have T0 := (S2.out.below HAl.out).grow hgr5 (fun b e => by have := TS5.out.lt2 b e; omega); obtain ⟨T0a, T0b⟩ := T0; refine hK' _ _ ?_; clear hK' K')
          go_roundw
          case rel => exact ⟨j + 1, k + 1, _, by omega, by omega, by go_num, hts5.set_ (by show w.heap.size + 1 < _; omega) _, ((S0.out.below HAl.out).grow hgr5 (fun b e => by have := TS5.out.lt2 b e; omega)).set (by omega), ((S1.out.below HAl.out).grow hgr5 (fun b e => by have := TS5.out.lt2 b e; omega)).set (by omega), Cel.put ⟨T0a, T0b⟩, ((S3.out.below HAl.out).grow hgr5 (fun b e => by have := TS5.out.lt2 b e; omega)).set (by omega), ((GR5.out.bel HAl.out).grow hgr5 (fun b e => by have := TS5.out.lt2 b e; omega)).set (.inr (by show w.heap.size ≤ w.heap.size + 1; omega)) _, (((RD5.out.bel HAl.out).grow hgr5 (fun b e => by have := TS5.out.lt2 b e; omega)).set (by show R < w.heap.size + 1; omega) _).more (by omega)⟩
          case measure => simp [intOf]; omega
        · have hd0 : (x == 0) = false := by rw [beq_eq_false_iff_ne]; exact h0
          clear hx0 hx1 h0
          go_upto_region 9 with fail
          have TS5 := Lib.hid TS4.out
          have GR5 := Lib.hid GR4.out
          have RD5 := Lib.hid RD4.out
          have S0 := Lib.hid F0.out
          have S1 := Lib.hid F1.out
          have S2 := Lib.hid F2.out
          have S3 := Lib.hid F3.out
          clear TS4 GR4 RD4 F0 F1 F2 F3 g2 g2f
          have Z0 := S2.out.1
          have Z1 := S2.out.2
          have hszW : w.heap.size + 1 < w4.heap.size := World.block_lt_of_cell? w4 ⟨w.heap.size + 1, 0, none⟩ Z0
          have HAl := Lib.hid (bl_alloc (Below.refl w4.heap.size w4) (.cells #[.int .i64 z, .int .i64 ((j : Int) + 1)] 114))
          go_wp2_with (at_builtin; refine wpList_plain (by rfl) fun K' hK' => ?_; refine wp_ts2 _ _ (by rfl) (TS5.out.bel HAl.out) (by simp; omega) (by rfl) (by rfl) (heap_alloc_new _ _) (by omega) ?_; intro gg cap1 w5 hts5 hgr5; have T0 := (S2.out.below HAl.out).grow hgr5 (fun b e => by have := TS5.out.lt2 b e; omega); obtain ⟨T0a, T0b⟩ := T0; refine hK' _ _ ?_; clear hK' K')
          go_roundw
          case rel => exact ⟨j + 1, k + 1, _, by omega, by omega, by go_num, hts5.set_ (by show w.heap.size + 1 < _; omega) _, ((S0.out.below HAl.out).grow hgr5 (fun b e => by have := TS5.out.lt2 b e; omega)).set (by omega), ((S1.out.below HAl.out).grow hgr5 (fun b e => by have := TS5.out.lt2 b e; omega)).set (by omega), Cel.put ⟨T0a, T0b⟩, ((S3.out.below HAl.out).grow hgr5 (fun b e => by have := TS5.out.lt2 b e; omega)).set (by omega), ((GR5.out.bel HAl.out).grow hgr5 (fun b e => by have := TS5.out.lt2 b e; omega)).set (.inr (by show w.heap.size ≤ w.heap.size + 1; omega)) _, (((RD5.out.bel HAl.out).grow hgr5 (fun b e => by have := TS5.out.lt2 b e; omega)).set (by show R < w.heap.size + 1; omega) _).more (by omega)⟩
          case measure => simp [intOf]; omega
      · have hd0 : (x == 0) = false := by rw [beq_eq_false_iff_ne]; exact h0
        clear hx0 hx1 h0
        go_wp2
        go_roundw
        case rel => exact ⟨j + 1, k, ov, by omega, by omega, by go_num, TS2.out, D0.out, D1.out, D2.out, D3.out, GR2.out, RD2.out.more (by omega)⟩
        case measure => simp [intOf]; omega
    · obtain rfl : j = m := by omega
      obtain ⟨A', cap', c', l', rfl, hF, hcp⟩ := TSk.out.terms
      have HCp := Lib.hid TSk.out.capOk
      clear hcp
      have FEk := Lib.hid (show FE wr (w.heap.size + 1 + 1) A' k from ⟨c', l', hF⟩)
      have HRd := Lib.hid hF.rdAt
      have a0 := C2.out.1
      have a1 := C3.out.1
      clear hF TSk
      go_wp2_with fail
      refine (l1Total_any _ _ _ _ c' l' _ (by omega) HRd.out).mono ?_
      rintro e w2 ⟨rfl, hb⟩
      generalize totW c' l' k = tt at *
      have FE2 := Lib.hid (FEk.out.bel hb)
      have GR2 := Lib.hid (GR.out.bel hb)
      have RD2 := Lib.hid (RD.out.bel hb)
      have D0 := Lib.hid (C0.out.below hb)
      have D1 := Lib.hid (C1.out.below hb)
      have D2 := Lib.hid (C2.out.below hb)
      have D3 := Lib.hid (C3.out.below hb)
      have hz2 : w.heap.size + 1 < w2.heap.size := Nat.lt_of_lt_of_le hsz hb.size
      clear hb FEk GR RD C0 C1 C2 C3 a0 a1 HRd
      go_wp2_with fail
      have HAl := Lib.hid (bl_alloc (Below.refl w2.heap.size w2) (.cells #[.int .i64 1, .int .i64 2, .int .i64 1, .int .i64 3, .int .i64 0] 3))
      refine (num_any R (K + 3 * j) w2.heap.size 5 _ _ _ (by omega) (RD2.out.bel HAl.out) (by omega) (heap_alloc_new w2 _) (by rfl) (by omega) (by omega) (lit_all [1, 2, 1, 3, 0])).mono ?_
      rintro e w3 ⟨z, rfl, _, hg, hr⟩
      have FE3 := Lib.hid ((FE2.out.bel HAl.out).gr hg (by omega))
      have GR3 := Lib.hid ((GR2.out.bel HAl.out).trans hg)
      have RD3 := Lib.hid hr
      have E0 := Lib.hid (hg.cel (D0.out.below HAl.out) (by omega))
      have E1 := Lib.hid (hg.cel (D1.out.below HAl.out) (by omega))
      have E2 := Lib.hid (hg.cel (D2.out.below HAl.out) (by omega))
      have E3 := Lib.hid (hg.cel (D3.out.below HAl.out) (by omega))
      obtain ⟨b3, f3⟩ := E3.out
      have hz3 : w.heap.size + 1 < w3.heap.size := World.block_lt_of_cell? w3 ⟨w.heap.size + 1, 1, none⟩ b3
      clear hg hr FE2 GR2 RD2 D0 D1 D2 D3 HAl
      go_upto_region 12 with fail
      have FE4 := Lib.hid (FE3.out.set_ (p := ⟨w.heap.size + 1, 1, none⟩) (by show w.heap.size + 1 < _; omega) (.int .i64 z))
      have GR4 := Lib.hid (GR3.out.set (p := ⟨w.heap.size + 1, 1, none⟩) (.inr (by show w.heap.size ≤ w.heap.size + 1; omega)) (.int .i64 z))
      have RD4 := Lib.hid (RD3.out.set (p := ⟨w.heap.size + 1, 1, none⟩) (by show R < w.heap.size + 1; omega) (.int .i64 z))
      have F0 := Lib.hid (E0.out.set (O' := w.heap.size + 1) (o' := 1) (u := .int .i64 z) (by omega))
      have F1 := Lib.hid (E1.out.set (O' := w.heap.size + 1) (o' := 1) (u := .int .i64 z) (by omega))
      have F2 := Lib.hid (E2.out.set (O' := w.heap.size + 1) (o' := 1) (u := .int .i64 z) (by omega))
      have F3 := Lib.hid (E3.out.put (u := .int .i64 z))
      clear FE3 GR3 RD3 E0 E1 E2 E3 b3 f3
      generalize w3.setCell ⟨w.heap.size + 1, 1, none⟩ (.int .i64 z) = W4 at *
      go_wp2_with fail
      refine (pick_any R (K + 3 * j + 1) 4 _ (by omega) RD4.out).mono ?_
      rintro e w5 ⟨x, rfl, hx0, hx1, hg, hr⟩
      have FE5 := Lib.hid (FE4.out.gr hg (by omega))
      have GR5 := Lib.hid (GR4.out.trans hg)
      have RD5 := Lib.hid hr
      have G0 := Lib.hid (hg.cel F0.out (by omega))
      have G1 := Lib.hid (hg.cel F1.out (by omega))
      have G2 := Lib.hid (hg.cel F2.out (by omega))
      have G3 := Lib.hid (hg.cel F3.out (by omega))
      clear hg hr FE4 GR4 RD4 F0 F1 F2 F3
      by_cases h0 : x = 0
      · subst h0
        clear hx0 hx1
        go_wp2_with fail
        refine (pick_any R (K + 3 * j + 1 + 1) _ _ (by omega) RD5.out).mono ?_
        rintro e w6 ⟨y, rfl, hy0, hy1, hg, hr⟩
        have FE6 := Lib.hid (FE5.out.gr hg (by omega))
        have GR6 := Lib.hid (GR5.out.trans hg)
        have RD6 := Lib.hid hr
        obtain ⟨b0, f0⟩ := hg.cel G0.out (by omega)
        obtain ⟨b1, f1⟩ := hg.cel G1.out (by omega)
        obtain ⟨b2, f2⟩ := hg.cel G2.out (by omega)
        obtain ⟨b3, f3⟩ := hg.cel G3.out (by omega)
        clear hg hr FE5 GR5 RD5 G0 G1 G2 G3 hy0 hy1
        go_wp2
        refine bodyPost_ret (v := .agg #[.slice A' k cap', .int .i64 y]) (by simp [results, Try.results77, go_sem, b0, b1]) rfl ?_
        exact ⟨A', k, cap', y, rfl, by omega, (((FE6.out.set_ (by show w.heap.size + 1 < _; omega) _).set_ (by show w.heap.size < _; omega) _).set_ (by show w.heap.size < _; omega) _).more (by omega), ((GR6.out.set (.inr (by show w.heap.size ≤ w.heap.size + 1; omega)) _).set (.inr (Nat.le_refl _)) _).set (.inr (Nat.le_refl _)) _, (((RD6.out.set (by show R < w.heap.size + 1; omega) _).set hRw _).set hRw _).more (by omega), HCp.out⟩
      · have hd0 : (x == 0) = false := by rw [beq_eq_false_iff_ne]; exact h0
        clear hx0 hx1 h0
        obtain ⟨b0, f0⟩ := G0.out
        obtain ⟨b1, f1⟩ := G1.out
        obtain ⟨b2, f2⟩ := G2.out
        obtain ⟨b3, f3⟩ := G3.out
        clear G0 G1 G2 G3
        go_wp2
        refine bodyPost_ret (v := .agg #[.slice A' k cap', .int .i64 z]) (by simp [results, Try.results77, go_sem, b0, b1]) rfl ?_
        exact ⟨A', k, cap', z, rfl, by omega, ((FE5.out.set_ (by show w.heap.size < _; omega) _).set_ (by show w.heap.size < _; omega) _).more (by omega), (GR5.out.set (.inr (Nat.le_refl _)) _).set (.inr (Nat.le_refl _)) _, ((RD5.out.set hRw _).set hRw _).more (by omega), HCp.out⟩
end Go.Proofs.Ytbebdhjhlheboaa

namespace Go.Proofs.Ytbebdhjhlheboaa
open Go.ChangeShapes Go.WideShapes Go.ChangeAt Go.RowKit

theorem alloc_at {W : World} {o : Obj} {H : Nat} (h : W.heap.size = H) : (W.alloc o).heap[H]? = some o := by subst h; exact heap_alloc_new W o
/-- The draw of a listed number, told from an earlier world. -/
theorem num_from {W Wc : World} (hbx : Below W.heap.size W Wc) (R K b n : Nat) (cs : Array Value) (T : TypeId) (hK : K ≤ 1000000) (h : Rdr W R K) (hb : b ≠ R) (hh : Wc.heap[b]? = some (.cells cs T (0, 0))) (hn : cs.size = n) (h0 : 0 < n) (hm : n ≤ 1000) (hall : ∀ u ∈ cs.toList, ∃ z, u = .int .i64 z) :
    Calls Try.prog 67 #[.pointer (some ⟨R, 0, none⟩), .slice (some ⟨b, 0, none⟩) n n] Wc (NRes W R K cs) :=
  (num_any R K b n cs T Wc hK (h.bel hbx) hb hh hn h0 hm hall).mono fun _ _ ⟨z, he, hm, hg, hr⟩ => ⟨z, he, hm, (Gr.of hbx).trans hg, hr⟩
theorem FE.setne {w : World} {lo G k : Nat} (h : FE w lo (some ⟨G, 0, none⟩) k) {p : Addr} (hp : p.block ≠ G) (u : Value) : FE (w.setCell p u) lo (some ⟨G, 0, none⟩) k := by
  obtain ⟨c, l, h⟩ := h
  rcases h with h | ⟨G', e, hG, h⟩
  · exact ⟨c, l, .inl h⟩
  · cases e
    exact ⟨c, l, .inr ⟨G, rfl, hG, h.at_ (Below.heap_setCell w p u G (fun e => hp e.symm))⟩⟩
theorem Cel.gr {w w1 : World} {R j o : Nat} {v : Value} (hc : Cel w j o v) (hg : Gr R w w1) (hne : j ≠ R) : Cel w1 j o v := hg.cel hc hne

set_option maxRecDepth 100000 in
set_option maxHeartbeats 6400000 in
theorem constraint_any (R K : Nat) (w : World) (hK : K ≤ 800000) (h : Rdr w R K) :
    Calls Try.prog 78 #[.pointer (some ⟨R, 0, none⟩)] w (CDr w R (K + 200) 12) := by
  have hRw := h.lt
  have HR := Lib.hid h
  clear h
  go_enter Try.func78, Try.ntmps78
  go_upto_region 1 with fail
  have HB0 := Lib.hid (bl_alloc (Below.refl w.heap.size w) (.cells #[.slice none 0 0, .int .i64 0] 55))
  have r0 : Cel (w.alloc (.cells #[.slice none 0 0, .int .i64 0] 55)) w.heap.size 0 (.slice none 0 0) := ⟨by go_simp, by go_simp⟩
  have r1 : Cel (w.alloc (.cells #[.slice none 0 0, .int .i64 0] 55)) w.heap.size 1 (.int .i64 0) := ⟨by go_simp, by go_simp⟩
  have C0 := Lib.hid r0
  have C1 := Lib.hid r1
  have hz0 : w.heap.size < (w.alloc (.cells #[.slice none 0 0, .int .i64 0] 55)).heap.size := by simp
  clear r0 r1
  generalize w.alloc (.cells #[.slice none 0 0, .int .i64 0] 55) = W0 at *
  have RD0 := Lib.hid (HR.out.bel HB0.out)
  have GR0 := Lib.hid (Gr.of (R := R) HB0.out)
  go_wp2_with fail
  refine (num_from (bl_alloc (Below.refl W0.heap.size W0) _) R K W0.heap.size 5 _ _ (by omega) RD0.out (by omega) (heap_alloc_new W0 _) (by rfl) (by omega) (by omega) (lit_all [4, 5, 3, 6, 12])).mono ?_
  rintro e w1 ⟨m, rfl, hmem, hg, hr⟩
  obtain ⟨mm, rfl, hmm⟩ : ∃ q : Nat, m = (q : Int) ∧ q ≤ 12 := by
    simp [vI] at hmem
    rcases hmem with e | e | e | e | e
    · exact ⟨4, e, by omega⟩
    · exact ⟨5, e, by omega⟩
    · exact ⟨3, e, by omega⟩
    · exact ⟨6, e, by omega⟩
    · exact ⟨12, e, by omega⟩
  have GR1 := Lib.hid (GR0.out.trans hg)
  have RD1 := Lib.hid hr
  have D0 := Lib.hid (hg.cel C0.out (by omega))
  have D1 := Lib.hid (hg.cel C1.out (by omega))
  have hz1 : w.heap.size < w1.heap.size := Nat.lt_of_lt_of_le hz0 hg.size
  clear hg hr hmem GR0 RD0 C0 C1
  go_wp2_with fail
  refine (draw_any R (K + 1) mm _ (by omega) hmm RD1.out).mono ?_
  rintro e w2 ⟨A', k, cap', bd, rfl, hk, hfe, hg, hr, hcp⟩
  have HCp := Lib.hid hcp
  clear hcp
  have FE2 := Lib.hid hfe
  have HO := Lib.hid (fun h => hfe.open h)
  have GR2 := Lib.hid (GR1.out.trans hg)
  have RD2 := Lib.hid hr
  have E0 := Lib.hid (hg.cel D0.out (by omega))
  have E1 := Lib.hid (hg.cel D1.out (by omega))
  have hz2 : w1.heap.size ≤ w2.heap.size := hg.size
  clear hg hr hfe GR1 RD1 D0 D1
  go_upto_region 2 with fail
  have HB3 := Lib.hid (bl_alloc (Below.refl w2.heap.size w2) (.cells #[.slice A' k cap', .int .i64 bd] 55))
  have p0 : Cel (w2.alloc (.cells #[.slice A' k cap', .int .i64 bd] 55)) w2.heap.size 0 (.slice A' k cap') := ⟨by go_simp, by go_simp⟩
  have p1 : Cel (w2.alloc (.cells #[.slice A' k cap', .int .i64 bd] 55)) w2.heap.size 1 (.int .i64 bd) := ⟨by go_simp, by go_simp⟩
  have P0 := Lib.hid p0
  have P1 := Lib.hid p1
  have FE3 := Lib.hid (FE2.out.bel HB3.out)
  have GR3 := Lib.hid (GR2.out.bel HB3.out)
  have RD3 := Lib.hid (RD2.out.bel HB3.out)
  have F0 := Lib.hid (E0.out.below HB3.out)
  have F1 := Lib.hid (E1.out.below HB3.out)
  have hz3 : w2.heap.size < (w2.alloc (.cells #[.slice A' k cap', .int .i64 bd] 55)).heap.size := by simp
  clear p0 p1 FE2 GR2 RD2 E0 E1
  generalize w2.alloc (.cells #[.slice A' k cap', .int .i64 bd] 55) = W3 at *
  go_wp2_with fail
  refine (pick_any R (K + 1 + 100) 12 _ (by omega) RD3.out).mono ?_
  rintro e w4 ⟨x, rfl, hx0, hx1, hg, hr⟩
  have FE4 := Lib.hid (FE3.out.gr hg (by omega))
  have GR4 := Lib.hid (GR3.out.trans hg)
  have RD4 := Lib.hid hr
  have G0 := Lib.hid (hg.cel F0.out (by omega))
  have G1 := Lib.hid (hg.cel F1.out (by omega))
  have Q0 := Lib.hid (hg.cel P0.out (by omega))
  have Q1 := Lib.hid (hg.cel P1.out (by omega))
  have hz4 : w2.heap.size < w4.heap.size := Nat.lt_of_lt_of_le hz3 hg.size
  clear hg hr FE3 GR3 RD3 F0 F1 P0 P1
  by_cases h0 : x = 0 ∧ 0 < k
  · obtain ⟨rfl, hk0⟩ := h0
    clear hx0 hx1
    have hk2 : 0 < k * 2 := by omega
    have hkI : (0 : Int) < (k : Int) := by omega
    obtain ⟨G, rfl, hG1, hG2, _, _⟩ := HO.out hk0
    have q0 := Q0.out.1
    have hRG : R < G := by omega
    have hGn1 : ¬ w2.heap.size = G := by omega
    have hGn2 : ¬ G = w2.heap.size := by omega
    have hKb : K + 1 + 100 + 1 ≤ 1000000 := by omega
    have hne4 : w4.heap.size ≠ R := by omega
    have hne2 : w2.heap.size ≠ R := by omega
    have hne0 : w.heap.size ≠ R := by omega
    have hRl : R < w1.heap.size := by omega
    have h30 : 0 < 3 := by omega
    have h31 : 3 ≤ 1000 := by omega
    have HBl := Lib.hid (fun o => bl_alloc (Below.drew (Below.refl w4.heap.size w4)) o)
    have HAt := Lib.hid (fun o => heap_alloc_new w4.drew o)
    have hsz3 : (#[Value.int .i64 1000, .int .i64 999, .int .i64 100] : Array Value).size = 3 := rfl
    clear HO
    go_upto_region 3 with fail
    go_region_held3 (fun w' => w'.cell? ⟨w2.heap.size, 0, none⟩ = some (.slice (some ⟨G, 0, none⟩) k cap')) (go_keep)
      (first | (go_at_call 67; refine (num_from (W := w4) (HBl.out _) R _ w4.heap.size 3 _ _ hKb RD4.out hne4 (HAt.out _) hsz3 h30 h31 (lit_all [1000, 999, 100])).mono ?_; rintro e w5 ⟨z, rfl, _, hg, hr⟩; have FE5 := Lib.hid (FE4.out.gr hg hRl); have GR5 := Lib.hid (GR4.out.trans hg); have RD5 := Lib.hid hr; have H0 := Lib.hid (hg.cel G0.out hne0); have H1 := Lib.hid (hg.cel G1.out hne0); have S0 := Lib.hid (hg.cel Q0.out hne2); have S1 := Lib.hid (hg.cel Q1.out hne2); replace q0 := S0.out.1; obtain ⟨G', e', _, hG5, hcell, hfro⟩ := FE5.out.open hk0; cases e'; obtain ⟨u0, hu0⟩ := hcell 0 hk2; have hf0 := hfro 0; have hz5 := hg.size; clear hg hr hcell hfro))
    have FE6 := Lib.hid (FE5.out.store 0 z)
    have GR6 := Lib.hid (GR5.out.set (p := ⟨G, 0, none⟩) (.inr (by show w.heap.size ≤ G; omega)) (.int .i64 z))
    have RD6 := Lib.hid (RD5.out.set (p := ⟨G, 0, none⟩) hRG (.int .i64 z))
    have I0 := Lib.hid (H0.out.set (O' := G) (o' := 0) (u := .int .i64 z) (by omega))
    have I1 := Lib.hid (H1.out.set (O' := G) (o' := 0) (u := .int .i64 z) (by omega))
    have J0 := Lib.hid (S0.out.set (O' := G) (o' := 0) (u := .int .i64 z) (by omega))
    have J1 := Lib.hid (S1.out.set (O' := G) (o' := 0) (u := .int .i64 z) (by omega))
    clear FE5 GR5 RD5 H0 H1 S0 S1 q0 u0 hu0 hf0 FE4 GR4 RD4 G0 G1 Q0 Q1
    generalize w5.setCell ⟨G, 0, none⟩ (.int .i64 z) = W6 at *
    have hz6 : w2.heap.size < W6.heap.size := World.block_lt_of_cell? W6 ⟨w2.heap.size, 0, none⟩ J0.out.1
    go_wp2_with fail
    refine (num_from (bl_alloc (Below.refl W6.heap.size W6) _) R (K + 1 + 100 + 1 + 1) W6.heap.size 4 _ _ (by omega) RD6.out (by omega) (heap_alloc_new W6 _) (by rfl) (by omega) (by omega) (lit_all [1000, 500, 20000, 1])).mono ?_
    rintro e w7 ⟨y, rfl, _, hg, hr⟩
    have FE7 := Lib.hid (FE6.out.gr hg (by omega))
    have GR7 := Lib.hid (GR6.out.trans hg)
    have RD7 := Lib.hid hr
    obtain ⟨b0, f0⟩ := hg.cel I0.out (by omega)
    obtain ⟨b1, f1⟩ := hg.cel I1.out (by omega)
    obtain ⟨b2, f2⟩ := hg.cel J0.out (by omega)
    obtain ⟨b3, f3⟩ := hg.cel J1.out (by omega)
    clear hg hr FE6 GR6 RD6 I0 I1 J0 J1
    go_wp2
    refine bodyPost_ret (v := .agg #[.slice (some ⟨G, 0, none⟩) k cap', .int .i64 y]) (by simp [results, Try.results78, go_sem, b0, b1]) rfl ?_
    exact ⟨_, k, cap', y, rfl, by omega, (((FE7.out.setne (by show w2.heap.size ≠ G; omega) _).set_ (by show w.heap.size < _; omega) _).set_ (by show w.heap.size < _; omega) _).more (by omega), ((GR7.out.set (.inr (by show w.heap.size ≤ w2.heap.size; omega)) _).set (.inr (Nat.le_refl _)) _).set (.inr (Nat.le_refl _)) _, (((RD7.out.set (by show R < w2.heap.size; omega) _).set hRw _).set hRw _).more (by omega), ⟨fun h => (by cases h), HCp.out.2⟩⟩
  · have key : x ≠ 0 ∨ k = 0 := by omega
    obtain ⟨b0, f0⟩ := G0.out
    obtain ⟨b1, f1⟩ := G1.out
    obtain ⟨b2, f2⟩ := Q0.out
    obtain ⟨b3, f3⟩ := Q1.out
    clear HO hx0 hx1 h0
    rcases key with h0 | rfl
    · have hd0 : (x == 0) = false := by rw [beq_eq_false_iff_ne]; exact h0
      clear h0
      go_wp2
      refine bodyPost_ret (v := .agg #[.slice A' k cap', .int .i64 bd]) (by simp [results, Try.results78, go_sem, b0, b1]) rfl ?_
      exact ⟨A', k, cap', bd, rfl, by omega, ((FE4.out.set_ (by show w.heap.size < _; omega) _).set_ (by show w.heap.size < _; omega) _).more (by omega), (GR4.out.set (.inr (Nat.le_refl _)) _).set (.inr (Nat.le_refl _)) _, ((RD4.out.set hRw _).set hRw _).more (by omega), HCp.out⟩
    · go_wp2
      all_goals
        refine bodyPost_ret (v := .agg #[.slice A' 0 cap', .int .i64 bd]) (by simp [results, Try.results78, go_sem, b0, b1]) rfl ?_
        exact ⟨A', 0, cap', bd, rfl, by omega, ((FE4.out.set_ (by show w.heap.size < _; omega) _).set_ (by show w.heap.size < _; omega) _).more (by omega), (GR4.out.set (.inr (Nat.le_refl _)) _).set (.inr (Nat.le_refl _)) _, ((RD4.out.set hRw _).set hRw _).more (by omega), HCp.out⟩
end Go.Proofs.Ytbebdhjhlheboaa

namespace Go.Proofs.Ytbebdhjhlheboaa
open Go.ChangeShapes Go.WideShapes Go.ChangeAt Go.RowKit

/-- The cells of the first k terms, as a list. -/
theorem flat_ints (c l : Nat → Int) (k : Nat) : ∀ u ∈ flat c l k, ∃ z, u = .int .i64 z := by
  induction k with
  | zero => intro u hu; cases hu
  | succ k ih =>
    intro u hu
    unfold flat at hu
    rcases List.mem_append.1 hu with hu | hu
    · exact ih u hu
    · simp only [List.mem_cons, List.not_mem_nil, or_false] at hu
      rcases hu with rfl | rfl
      · exact ⟨_, rfl⟩
      · exact ⟨_, rfl⟩
theorem flat_cells {w : World} {b off n : Nat} {c l : Nat → Int} (hc : ∀ i, i < n → w.cell? ⟨b, off + i * 2, none⟩ = some (.int .i64 (c i)) ∧ w.cell? ⟨b, off + i * 2 + 1, none⟩ = some (.int .i64 (l i))) (j : Nat) (u : Value) (h : (flat c l n)[j]? = some u) : w.cell? ((⟨b, off, none⟩ : Addr).add j) = some u := by
  have hj : j < n * 2 := by
    have := (List.getElem?_eq_some_iff.1 h).1
    rw [flat_length] at this
    exact this
  rw [Go.WideShapes.add_plain]
  obtain ⟨i, hi | hi⟩ : ∃ i, j = i * 2 ∨ j = i * 2 + 1 := ⟨j / 2, by omega⟩
  · subst hi
    have := (flat_at c l (show i < n by omega)).1
    rw [this] at h
    cases h
    exact (hc i (by omega)).1
  · subst hi
    have := (flat_at c l (show i < n by omega)).2
    rw [this] at h
    cases h
    have h2 := (hc i (by omega)).2
    rw [Nat.add_assoc] at h2
    exact h2

/-- A list of terms that came in, appended to a row of the call's own. -/
theorem run_appT (W : World) {B0 : Nat} {v : Value} {n m cap : Nat} {A : Option Addr} {c l : Nat → Int} (hown : TS W B0 114 2 v n) (hr : Rd W W.heap.size A m c l) (hcap : A = none → cap = 0) (hB : B0 ≤ W.heap.size) (hn : n + m ≤ 2097152) :
    ∃ v' w', (Builtin.append_ #[53, 53] 53 #[v, .slice A m cap]).run Try.prog W = .ok v' w' ∧ TS w' B0 114 2 v' (n + m) ∧ Below B0 W w' := by
  obtain ⟨i0, hi, hz0, hz1, hz2⟩ := info_parts Try.infoTerm
  have hlt := hown.lt
  obtain ⟨xs, h0, h1, h2⟩ := hown
  have some_ : ∀ a : Addr, A = some a → (∀ j u, (flat c l m)[j]? = some u → W.cell? (a.add j) = some u) → ∃ v' w', (Builtin.append_ #[53, 53] 53 #[v, .slice A m cap]).run Try.prog W = .ok v' w' ∧ TS w' B0 114 2 v' (n + m) ∧ Below B0 W w' := by
    rintro a rfl hc
    obtain ⟨v', w', k1, k2, k3, _, _⟩ := run_append_own_at (P := Try.prog) W B0 53 53 114 i0 _ 2 16 Try.underlying53 hi hz0 hz1 hz2 rfl (by omega) v n _ h0 a m cap (flat c l m) (flat_length c l m) hc (fun u hu => by obtain ⟨z, rfl⟩ := flat_ints c l m u hu; rfl) (by unfold maxLen; omega) (by omega) hB
    refine ⟨v', w', k1, ⟨_, k2, by rw [List.length_append, h1, flat_length]; omega, fun u hu => ?_⟩, (Below.refl B0 W).grown k3 hB hlt⟩
    rcases List.mem_append.1 hu with hu | hu
    · exact h2 u hu
    · exact flat_ints c l m u hu
  rcases Nat.eq_zero_or_pos m with hm | hm
  · cases A with
    | none =>
      obtain rfl := hcap rfl
      subst hm
      exact ⟨v, W, run_append_owned_none (P := Try.prog) (w := W) B0 53 53 114 i0 2 Try.underlying53 hi v n _ h0, ⟨xs, h0, h1, h2⟩, Below.refl _ _⟩
    | some a => exact some_ a rfl (by subst hm; intro j u hj; simp [flat] at hj)
  · obtain ⟨b, off, e, _, hc⟩ := hr hm
    exact some_ _ e (flat_cells hc)
theorem step_appT {ops : Array Oper} {o : Oper} {a : Act} {K : Act → World → Prop} {Q : Exit → Act → World → Prop} {E : Prop} {W : World} (hgd : o.guard = none) (s x : Operand)
    (ho : o.op = .call { callee := .builtin .append, args := #[s, x], argTypes := #[53, 53] }) (hty : o.type = 53)
    {B0 : Nat} {v : Value} {n m cap : Nat} {A : Option Addr} {c l : Nat → Int} (hs : a.eval s = v) (hx : a.eval x = .slice A m cap)
    (hown : TS W B0 114 2 v n) (hr : Rd W W.heap.size A m c l) (hcap : A = none → cap = 0) (hB : B0 ≤ W.heap.size) (hn : n + m ≤ 2097152)
    (h : ∀ v' w', TS w' B0 114 2 v' (n + m) → Below B0 W w' → K (a.put o.dst v') w') :
    if Region.wanted o (yielded ops a.tmps) = true then Oper.wp Try.prog o a W K Q else E := by
  have hw : Region.wanted o (yielded ops a.tmps) = true := by simp [Region.wanted, hgd]
  rw [if_pos hw]
  obtain ⟨v', w', hrun, h2, h3⟩ := run_appT W hown hr hcap hB hn
  unfold Oper.wp execOp
  simp only [ho, hty, resolve, invoke, builtin, Sem.run_bind, Sem.run_pure, Result.andThen_ok, List.map_toArray, List.map_cons, List.map_nil, hs, hx, hrun]
  exact h v' w' h2 h3

/-- What the copy of a constraint leaves. -/
def CpR (w : World) (k : Nat) (bd : Int) (e : Ending) (w' : World) : Prop := ∃ A cap, e = .returned (.agg #[.slice A k cap, .int .i64 bd]) ∧ TS w' w.heap.size 114 2 (.slice A k cap) k ∧ Below w.heap.size w w'

theorem TS.more {w : World} {lo lo' k s : Nat} {T : TypeId} {ov : Value} (h : TS w lo T s ov k) (hl : lo' ≤ lo) : TS w lo' T s ov k := by
  obtain ⟨xs, h0, h1, h2⟩ := h
  refine ⟨xs, ⟨h0.1, ?_⟩, h1, h2⟩
  rcases h0.2 with hh | ⟨g, cap, cur, e1, hg, hr⟩
  · exact .inl hh
  · exact .inr ⟨g, cap, cur, e1, by omega, hr⟩
theorem ts_drew {W : World} {lo k s : Nat} {T : TypeId} {ov : Value} (h : TS W lo T s ov k) : TS W.drew lo T s ov k := h.bel (Below.refl _ _).drew

set_option maxRecDepth 100000 in
set_option maxHeartbeats 6400000 in
theorem copy_any (A : Option Addr) (n cap : Nat) (bd : Int) (c l : Nat → Int) (w : World) (hn : n ≤ 1048576) (hr : Rd w w.heap.size A n c l) (hcap : A = none → cap = 0) :
    Calls Try.prog 109 #[.agg #[.slice A n cap, .int .i64 bd]] w (CpR w n bd) := by
  have HCp := Lib.hid hcap
  clear hcap
  go_enter Try.func109, Try.ntmps109
  go_upto_region 1 with fail
  have HB0 := Lib.hid (bl_alloc (bl_alloc (Below.refl w.heap.size w) (.cells #[.slice A n cap, .int .i64 bd] 55)) (.cells #[.slice none 0 0, .int .i64 0] 55))
  have a0 : ((w.alloc (.cells #[.slice A n cap, .int .i64 bd] 55)).alloc (.cells #[.slice none 0 0, .int .i64 0] 55)).cell? ⟨w.heap.size, 0, none⟩ = some (.slice A n cap) := by go_simp
  have a1 : ((w.alloc (.cells #[.slice A n cap, .int .i64 bd] 55)).alloc (.cells #[.slice none 0 0, .int .i64 0] 55)).cell? ⟨w.heap.size, 1, none⟩ = some (.int .i64 bd) := by go_simp
  have r0 : Cel ((w.alloc (.cells #[.slice A n cap, .int .i64 bd] 55)).alloc (.cells #[.slice none 0 0, .int .i64 0] 55)) (w.heap.size + 1) 0 (.slice none 0 0) := ⟨by go_simp, by go_simp⟩
  have r1 : Cel ((w.alloc (.cells #[.slice A n cap, .int .i64 bd] 55)).alloc (.cells #[.slice none 0 0, .int .i64 0] 55)) (w.heap.size + 1) 1 (.int .i64 0) := ⟨by go_simp, by go_simp⟩
  have hz : w.heap.size + 1 < ((w.alloc (.cells #[.slice A n cap, .int .i64 bd] 55)).alloc (.cells #[.slice none 0 0, .int .i64 0] 55)).heap.size := by simp
  generalize ((w.alloc (.cells #[.slice A n cap, .int .i64 bd] 55)).alloc (.cells #[.slice none 0 0, .int .i64 0] 55)) = W0 at *
  have Hr := Lib.hid (hr.later HB0.out)
  have R0 := Lib.hid r0
  have R1 := Lib.hid r1
  have Hz := Lib.hid hz
  have hz1 : w.heap.size < W0.heap.size := by omega
  clear r0 r1 hr
  go_region_held3 (fun w' => w'.cell? ⟨w.heap.size, 0, none⟩ = some (.slice A n cap) ∧ w'.cell? ⟨w.heap.size, 1, none⟩ = some (.int .i64 bd)) (go_keep)
    (first
      | (refine step_appT (by rfl) _ _ (by rfl) (by rfl) (by rfl) (by rfl) (B0 := W0.heap.size) (n := 0) (by first | exact ts_lit W0.drew 114 2 | exact ts_drew (ts_lit W0 114 2)) (Rd.later Hr.out (by first | exact ((Below.refl W0.heap.size W0).alloc (Nat.le_refl _) _).drew | exact (Below.refl W0.heap.size W0).drew.alloc (Nat.le_refl _) _)) HCp.out (by simp) (by omega) ?_; intro v3 w3 hts3 hb3; rw [Nat.zero_add] at hts3; obtain ⟨A3, cap3, c3, l3, e3, _, _⟩ := hts3.terms; subst e3; have HB3 := Lib.hid (Below.trans (B := W0.heap.size) (a := W0) (by first | exact ((Below.refl W0.heap.size W0).alloc (Nat.le_refl _) _).drew | exact (Below.refl W0.heap.size W0).drew.alloc (Nat.le_refl _) _) hb3); clear hb3; have TS3 := Lib.hid hts3; clear hts3; replace a0 := kc HB3.out a0; replace a1 := kc HB3.out a1; obtain ⟨b0, f0⟩ := R0.out.below HB3.out; obtain ⟨b1, f1⟩ := R1.out.below HB3.out))
  go_wp2
  refine bodyPost_ret (v := .agg #[.slice A3 n cap3, .int .i64 bd]) (by simp [results, Try.results109, go_sem, b0, b1]) rfl ?_
  refine ⟨A3, cap3, rfl, ?_, ?_⟩
  · exact ((TS3.out.set_ (by show w.heap.size + 1 < _; exact Hz.out) _).set_ (by show w.heap.size + 1 < _; exact Hz.out) _).more (by omega)
  · exact ((bl_trans HB0.out HB3.out).setCell (by show w.heap.size ≤ w.heap.size + 1; omega) _).setCell (by show w.heap.size ≤ w.heap.size + 1; omega) _
end Go.Proofs.Ytbebdhjhlheboaa

namespace Go.Proofs.Ytbebdhjhlheboaa
open Go.ChangeShapes Go.WideShapes Go.ChangeAt Go.RowKit

section
variable {W : World} {lo k : Nat} {ov : Value}
set_option maxRecDepth 100000 in
set_option maxHeartbeats 800000 in
/-- The append of one term to a slice that the draw has made, and where it then lies. -/
theorem wp_ts3 {o : Oper} {a : Act} {K : Act → World → Prop} {Q : Exit → Act → World → Prop} (s x : Operand)
    (ho : o.op = .call { callee := .builtin .append, args := #[s, x], argTypes := #[53, 53] })
    (h : TS W lo 114 2 ov k) (hlo : lo ≤ W.heap.size) (hs : a.eval s = ov) {H : Nat} (hx : a.eval x = .slice (some ⟨H, 0, none⟩) 1 1) {X Y : Int} (hnew : W.heap[H]? = some (.cells #[.int .i64 X, .int .i64 Y] 114 (0, 0))) (hk : k ≤ 1048576)
    (hK : ∀ g cap w', TS w' lo 114 2 (.slice (some ⟨g, 0, none⟩) (k + 1) cap) (k + 1) → W.grownBy w' ov.ownBlock → (ov.ownBlock = some g ∨ g = W.heap.size) → K (a.put o.dst (.slice (some ⟨g, 0, none⟩) (k + 1) cap)) w') :
    o.wp Try.prog a W K Q := by
  obtain ⟨i0, hi, hz0, hz1, hz2⟩ := info_parts Try.infoTerm
  obtain ⟨xs, h0, h1, h2⟩ := h
  refine wp_append_lies _ s x 53 ho lo 114 i0 _ 2 16 Try.underlying53 hi hz0 hz1 hz2 rfl (by omega) ov k _ hs h0 ⟨H, 0, none⟩ 1 1 [.int .i64 X, .int .i64 Y] hx (by rfl)
    (World.news_of_block hnew) (by simp [Value.oneCell']) (by omega) (by unfold maxLen; omega) (by omega) hlo W.heap.size rfl ?_
  intro g cap w' hown hg hor _
  refine hK g cap w' ⟨_, hown, by simp; omega, fun u hu => ?_⟩ hg hor
  rcases List.mem_append.1 hu with hu | hu
  · exact h2 u hu
  · simp only [List.mem_cons, List.not_mem_nil, or_false] at hu
    rcases hu with rfl | rfl
    · exact ⟨X, rfl⟩
    · exact ⟨Y, rfl⟩
end

/-- A store into a block that is not the slice's own. -/
theorem fe_far {w : World} {lo k : Nat} {A : Option Addr} (h : FE w lo A k) {p : Addr} (hp : ∀ G, A = some ⟨G, 0, none⟩ → ¬ p.block = G) (u : Value) : FE (w.setCell p u) lo A k := by
  obtain ⟨c, l, h⟩ := h
  rcases h with h | ⟨G, e, hG, h⟩
  · exact ⟨c, l, .inl h⟩
  · exact ⟨c, l, .inr ⟨G, e, hG, h.at_ (Below.heap_setCell w p u G (fun e' => hp G e e'.symm))⟩⟩

set_option maxRecDepth 100000 in
set_option maxHeartbeats 12800000 in
theorem mutate_any (R K : Nat) (A : Option Addr) (n cap : Nat) (bd : Int) (c l : Nat → Int) (w : World) (hK : K ≤ 900000) (hn : n ≤ 1000) (h : Rdr w R K) (hr : Rd w w.heap.size A n c l) (hcap : CapOk A n cap) :
    Calls Try.prog 76 #[.pointer (some ⟨R, 0, none⟩), .agg #[.slice A n cap, .int .i64 bd]] w (CDr w R (K + 10) (n + 1)) := by
  have hRw := h.lt
  have HR := Lib.hid h
  have HCp := Lib.hid hcap
  clear h hcap
  go_enter Try.func76, Try.ntmps76
  go_upto_region 1 with fail
  have HB0 := Lib.hid (bl_alloc (bl_alloc (Below.refl w.heap.size w) (.cells #[.slice A n cap, .int .i64 bd] 55)) (.cells #[.slice none 0 0, .int .i64 0] 55))
  have a0 : ((w.alloc (.cells #[.slice A n cap, .int .i64 bd] 55)).alloc (.cells #[.slice none 0 0, .int .i64 0] 55)).cell? ⟨w.heap.size, 0, none⟩ = some (.slice A n cap) := by go_simp
  have a1 : ((w.alloc (.cells #[.slice A n cap, .int .i64 bd] 55)).alloc (.cells #[.slice none 0 0, .int .i64 0] 55)).cell? ⟨w.heap.size, 1, none⟩ = some (.int .i64 bd) := by go_simp
  have r0 : Cel ((w.alloc (.cells #[.slice A n cap, .int .i64 bd] 55)).alloc (.cells #[.slice none 0 0, .int .i64 0] 55)) (w.heap.size + 1) 0 (.slice none 0 0) := ⟨by go_simp, by go_simp⟩
  have r1 : Cel ((w.alloc (.cells #[.slice A n cap, .int .i64 bd] 55)).alloc (.cells #[.slice none 0 0, .int .i64 0] 55)) (w.heap.size + 1) 1 (.int .i64 0) := ⟨by go_simp, by go_simp⟩
  have hz : w.heap.size + 1 < ((w.alloc (.cells #[.slice A n cap, .int .i64 bd] 55)).alloc (.cells #[.slice none 0 0, .int .i64 0] 55)).heap.size := by simp
  generalize ((w.alloc (.cells #[.slice A n cap, .int .i64 bd] 55)).alloc (.cells #[.slice none 0 0, .int .i64 0] 55)) = W0 at *
  have Hr := Lib.hid (hr.later HB0.out)
  have R0 := Lib.hid r0
  have R1 := Lib.hid r1
  have RD0 := Lib.hid (HR.out.bel HB0.out)
  have hRW : R < W0.heap.size := by omega
  clear r0 r1 hr
  go_wp2_with fail
  refine (copy_any _ _ _ _ c l _ (by omega) Hr.out HCp.out.1).mono ?_
  rintro e w2 ⟨A2, cap2, rfl, hts, hb⟩
  have HB2 := Lib.hid (bl_trans HB0.out hb)
  have TS2 := Lib.hid hts
  have S0 := Lib.hid (R0.out.below hb)
  have S1 := Lib.hid (R1.out.below hb)
  have RD2 := Lib.hid (RD0.out.bel hb)
  have HO := Lib.hid (fun b e => (hts.lt2 b e).2)
  have hz2 : W0.heap.size ≤ w2.heap.size := hb.size
  clear hts hb HB0 R0 R1 RD0 a0 a1 Hr
  go_upto_region 2 with fail
  have HBa := Lib.hid (bl_alloc (Below.refl w2.heap.size w2) (.cells #[.slice A2 n cap2, .int .i64 bd] 55))
  have p0 : Cel (w2.alloc (.cells #[.slice A2 n cap2, .int .i64 bd] 55)) w2.heap.size 0 (.slice A2 n cap2) := ⟨by go_simp, by go_simp⟩
  have p1 : Cel (w2.alloc (.cells #[.slice A2 n cap2, .int .i64 bd] 55)) w2.heap.size 1 (.int .i64 bd) := ⟨by go_simp, by go_simp⟩
  have hz3 : w2.heap.size < (w2.alloc (.cells #[.slice A2 n cap2, .int .i64 bd] 55)).heap.size := by simp
  have TS3 := Lib.hid (TS2.out.bel HBa.out)
  have GR3 := Lib.hid (Gr.of (R := R) (bl_trans HB2.out HBa.out))
  have RD3 := Lib.hid (RD2.out.bel HBa.out)
  have T0 := Lib.hid (S0.out.below HBa.out)
  have T1 := Lib.hid (S1.out.below HBa.out)
  have P0 := Lib.hid p0
  have P1 := Lib.hid p1
  clear p1 TS2 HB2 S0 S1 RD2
  generalize w2.alloc (.cells #[.slice A2 n cap2, .int .i64 bd] 55) = W3 at *
  have q0 := p0.1
  clear p0
  go_wp2_with fail
  refine (pick_any R K 40 _ (by omega) RD3.out).mono ?_
  rintro e w4 ⟨x, rfl, hx0, hx1, hg, hr⟩
  have TS4 := Lib.hid (TS3.out.gr hg hRW)
  have GR4 := Lib.hid (GR3.out.trans hg)
  have RD4 := Lib.hid hr
  have U0 := Lib.hid (hg.cel T0.out (by omega))
  have U1 := Lib.hid (hg.cel T1.out (by omega))
  have Q0 := Lib.hid (hg.cel P0.out (by omega))
  have Q1 := Lib.hid (hg.cel P1.out (by omega))
  have hz4 : w2.heap.size < w4.heap.size := Nat.lt_of_lt_of_le hz3 hg.size
  obtain ⟨A9, cap9, e9, hfe9⟩ := TS4.out.fe
  cases e9
  have FE4 := Lib.hid hfe9
  have HC2 := Lib.hid TS4.out.capOk
  clear hg hr hfe9 TS3 GR3 RD3 T0 T1 P0 P1 HBa q0
  by_cases h0 : x = 0
  · subst h0
    clear hx0 hx1
    go_wp2_with fail
    refine (num_from (bl_alloc (Below.refl w4.heap.size w4) _) R (K + 1) w4.heap.size 3 _ _ (by omega) RD4.out (by omega) (heap_alloc_new w4 _) (by rfl) (by omega) (by omega) (lit_all [-1, 20001, 9223372036854775807])).mono ?_
    rintro e w5 ⟨z, rfl, _, hg, hr⟩
    have FE5 := Lib.hid (FE4.out.gr hg hRW)
    have GR5 := Lib.hid (GR4.out.trans hg)
    have RD5 := Lib.hid hr
    obtain ⟨b0, f0⟩ := hg.cel U0.out (by omega)
    obtain ⟨b1, f1⟩ := hg.cel U1.out (by omega)
    obtain ⟨b2, f2⟩ := hg.cel Q0.out (by omega)
    obtain ⟨b3, f3⟩ := hg.cel Q1.out (by omega)
    have HG := Lib.hid (fun G (e : A2 = some ⟨G, 0, none⟩) => HO.out G (by rw [e]; rfl))
    clear hg hr FE4 GR4 RD4 U0 U1 Q0 Q1 TS4
    go_wp2
    refine bodyPost_ret (v := .agg #[.slice A2 n cap2, .int .i64 z]) (by simp [results, Try.results76, go_sem, b0, b1]) rfl ?_
    refine ⟨_, _, _, _, rfl, by omega, ?_, (((GR5.out.set (p := ⟨w2.heap.size, 1, none⟩) (.inr (by show w.heap.size ≤ w2.heap.size; omega)) _)).set (.inr (by show w.heap.size ≤ w.heap.size + 1; omega)) _).set (.inr (by show w.heap.size ≤ w.heap.size + 1; omega)) _, ((((RD5.out.set (p := ⟨w2.heap.size, 1, none⟩) (by show R < w2.heap.size; omega) _)).set (by show R < w.heap.size + 1; omega) _).set (by show R < w.heap.size + 1; omega) _).more (by omega), HC2.out⟩
    exact ((((fe_far FE5.out (p := ⟨w2.heap.size, 1, none⟩) (fun G e h => by have := HG.out G e; have : w2.heap.size = G := h; omega) _)).set_ (by show w.heap.size + 1 < _; omega) _).set_ (by show w.heap.size + 1 < _; omega) _).more (by omega)
  · by_cases h1 : x = 1
    · subst h1
      clear hx0 hx1 h0
      by_cases hk0 : 0 < n
      · have hk2 : 0 < n * 2 := by omega
        have hkI : (0 : Int) < (n : Int) := by omega
        obtain ⟨G, cap', e', hcc, hG1, _, _, _⟩ := TS4.out.open hk0
        cases e'
        have hG2 : G < w2.heap.size := HO.out G rfl
        have q0 := Q0.out.1
        have hRG : R < G := by omega
        have hGn1 : ¬ w2.heap.size = G := by omega
        have hGn2 : ¬ G = w2.heap.size := by omega
        have hKb : K + 1 ≤ 1000000 := by omega
        have hne4 : w4.heap.size ≠ R := by omega
        have hne2 : w2.heap.size ≠ R := by omega
        have hne0 : w.heap.size + 1 ≠ R := by omega
        have h30 : 0 < 3 := by omega
        have h31 : 3 ≤ 1000 := by omega
        have HBl := Lib.hid (fun o => bl_alloc (Below.drew (Below.refl w4.heap.size w4)) o)
        have HAt := Lib.hid (fun o => heap_alloc_new w4.drew o)
        have hsz3 : (#[Value.int .i64 0, Value.int .i64 (-1), Value.int .i64 1001] : Array Value).size = 3 := rfl
        clear TS4
        go_upto_region 8 with fail
        go_region_held3 (fun w' => w'.cell? ⟨w2.heap.size, 0, none⟩ = some (.slice (some ⟨G, 0, none⟩) n cap2)) (go_keep)
          (first | (go_at_call 67; refine (num_from (W := w4) (HBl.out _) R _ w4.heap.size 3 _ _ hKb RD4.out hne4 (HAt.out _) hsz3 h30 h31 (lit_all [0, -1, 1001])).mono ?_; rintro e w5 ⟨z, rfl, _, hg, hr⟩; have FE5 := Lib.hid (FE4.out.gr hg hRW); have GR5 := Lib.hid (GR4.out.trans hg); have RD5 := Lib.hid hr; have H0 := Lib.hid (hg.cel U0.out hne0); have H1 := Lib.hid (hg.cel U1.out hne0); have S0 := Lib.hid (hg.cel Q0.out hne2); have S1 := Lib.hid (hg.cel Q1.out hne2); replace q0 := S0.out.1; obtain ⟨G', e', _, hG5, hcell, hfro⟩ := FE5.out.open hk0; cases e'; obtain ⟨u0, hu0⟩ := hcell (0) hk2; have hf0 := hfro (0); clear hg hr hcell hfro))
        have FE6 := Lib.hid (FE5.out.store (0) z)
        have GR6 := Lib.hid (GR5.out.set (p := ⟨G, 0, none⟩) (.inr (by show w.heap.size ≤ G; omega)) (.int .i64 z))
        have RD6 := Lib.hid (RD5.out.set (p := ⟨G, 0, none⟩) hRG (.int .i64 z))
        obtain ⟨b0, f0⟩ := H0.out.set (O' := G) (o' := 0) (u := .int .i64 z) (by omega)
        obtain ⟨b1, f1⟩ := H1.out.set (O' := G) (o' := 0) (u := .int .i64 z) (by omega)
        obtain ⟨b2, f2⟩ := S0.out.set (O' := G) (o' := 0) (u := .int .i64 z) (by omega)
        obtain ⟨b3, f3⟩ := S1.out.set (O' := G) (o' := 0) (u := .int .i64 z) (by omega)
        clear FE5 GR5 RD5 H0 H1 S0 S1 q0 u0 hu0 hf0 FE4 GR4 RD4 U0 U1 Q0 Q1
        generalize w5.setCell ⟨G, 0, none⟩ (.int .i64 z) = W6 at *
        go_wp2
        refine bodyPost_ret (v := .agg #[.slice (some ⟨G, 0, none⟩) n cap2, .int .i64 bd]) (by simp [results, Try.results76, go_sem, b0, b1]) rfl ?_
        exact ⟨_, _, _, _, rfl, by omega, ((((FE6.out)).set_ (by show w.heap.size + 1 < _; omega) _).set_ (by show w.heap.size + 1 < _; omega) _).more (by omega), (((GR6.out)).set (.inr (by show w.heap.size ≤ w.heap.size + 1; omega)) _).set (.inr (by show w.heap.size ≤ w.heap.size + 1; omega)) _, ((((RD6.out)).set (by show R < w.heap.size + 1; omega) _).set (by show R < w.heap.size + 1; omega) _).more (by omega), ⟨fun h => (by cases h), HC2.out.2⟩⟩
      · obtain rfl : n = 0 := by omega
        obtain ⟨b0, f0⟩ := U0.out
        obtain ⟨b1, f1⟩ := U1.out
        obtain ⟨b2, f2⟩ := Q0.out
        obtain ⟨b3, f3⟩ := Q1.out
        clear U0 U1 Q0 Q1 TS4
        go_wp2
        refine bodyPost_ret (v := .agg #[.slice A2 0 cap2, .int .i64 bd]) (by simp [results, Try.results76, go_sem, b0, b1]) rfl ?_
        exact ⟨_, _, _, _, rfl, by omega, ((((FE4.out)).set_ (by show w.heap.size + 1 < _; omega) _).set_ (by show w.heap.size + 1 < _; omega) _).more (by omega), (((GR4.out)).set (.inr (by show w.heap.size ≤ w.heap.size + 1; omega)) _).set (.inr (by show w.heap.size ≤ w.heap.size + 1; omega)) _, ((((RD4.out)).set (by show R < w.heap.size + 1; omega) _).set (by show R < w.heap.size + 1; omega) _).more (by omega), HC2.out⟩
    · by_cases h2 : x = 2
      · subst h2
        clear hx0 hx1 h0
        by_cases hk0 : 0 < n
        · obtain ⟨k', rfl⟩ : ∃ k', n = k' + 1 := ⟨n - 1, by omega⟩
          have hk2 : k' * 2 + 1 < (k' + 1) * 2 := by omega
          have hw1 : IntKind.i64.wrap ((k' : Int) + 1 - 1) = (k' : Int) := by rw [IntWalk.i64_in _ (by omega)]; omega
          have hw2 : IntKind.i64.wrap (k' : Int) = (k' : Int) := IntWalk.i64_in _ (by omega)
          have hw3 : (k' : Int) + 1 - 1 = (k' : Int) := by omega
          have hkk : (k' : Int) < (k' : Int) + 1 := by omega
          have hk00 : (0 : Int) ≤ (k' : Int) := by omega
          have hkI : (0 : Int) < ((k' + 1 : Nat) : Int) := by omega
          obtain ⟨G, cap', e', hcc, hG1, _, _, _⟩ := TS4.out.open hk0
          cases e'
          have hG2 : G < w2.heap.size := HO.out G rfl
          have q0 := Q0.out.1
          have hRG : R < G := by omega
          have hGn1 : ¬ w2.heap.size = G := by omega
          have hGn2 : ¬ G = w2.heap.size := by omega
          have hKb : K + 1 ≤ 1000000 := by omega
          have hne4 : w4.heap.size ≠ R := by omega
          have hne2 : w2.heap.size ≠ R := by omega
          have hne0 : w.heap.size + 1 ≠ R := by omega
          have h30 : 0 < 5 := by omega
          have h31 : 5 ≤ 1000 := by omega
          have HBl := Lib.hid (fun o => bl_alloc (Below.drew (Below.refl w4.heap.size w4)) o)
          have HAt := Lib.hid (fun o => heap_alloc_new w4.drew o)
          have hsz3 : (#[Value.int .i64 0, Value.int .i64 13, Value.int .i64 (-13), Value.int .i64 1, Value.int .i64 (-9223372036854775808)] : Array Value).size = 5 := rfl
          clear TS4
          go_upto_region 11 with fail
          go_region_held3 (fun w' => w'.cell? ⟨w2.heap.size, 0, none⟩ = some (.slice (some ⟨G, 0, none⟩) (k' + 1) cap2)) (go_keep)
            (first | (go_at_call 67; refine (num_from (W := w4) (HBl.out _) R _ w4.heap.size 5 _ _ hKb RD4.out hne4 (HAt.out _) hsz3 h30 h31 (lit_all [0, 13, -13, 1, -9223372036854775808])).mono ?_; rintro e w5 ⟨z, rfl, _, hg, hr⟩; have FE5 := Lib.hid (FE4.out.gr hg hRW); have GR5 := Lib.hid (GR4.out.trans hg); have RD5 := Lib.hid hr; have H0 := Lib.hid (hg.cel U0.out hne0); have H1 := Lib.hid (hg.cel U1.out hne0); have S0 := Lib.hid (hg.cel Q0.out hne2); have S1 := Lib.hid (hg.cel Q1.out hne2); replace q0 := S0.out.1; obtain ⟨G', e', _, hG5, hcell, hfro⟩ := FE5.out.open hk0; cases e'; obtain ⟨u0, hu0⟩ := hcell (k' * 2 + 1) hk2; have hf0 := hfro (k' * 2 + 1); clear hg hr hcell hfro))
          have FE6 := Lib.hid (FE5.out.store (k' * 2 + 1) z)
          have GR6 := Lib.hid (GR5.out.set (p := ⟨G, k' * 2 + 1, none⟩) (.inr (by show w.heap.size ≤ G; omega)) (.int .i64 z))
          have RD6 := Lib.hid (RD5.out.set (p := ⟨G, k' * 2 + 1, none⟩) hRG (.int .i64 z))
          obtain ⟨b0, f0⟩ := H0.out.set (O' := G) (o' := k' * 2 + 1) (u := .int .i64 z) (by omega)
          obtain ⟨b1, f1⟩ := H1.out.set (O' := G) (o' := k' * 2 + 1) (u := .int .i64 z) (by omega)
          obtain ⟨b2, f2⟩ := S0.out.set (O' := G) (o' := k' * 2 + 1) (u := .int .i64 z) (by omega)
          obtain ⟨b3, f3⟩ := S1.out.set (O' := G) (o' := k' * 2 + 1) (u := .int .i64 z) (by omega)
          clear FE5 GR5 RD5 H0 H1 S0 S1 q0 u0 hu0 hf0 FE4 GR4 RD4 U0 U1 Q0 Q1
          generalize w5.setCell ⟨G, k' * 2 + 1, none⟩ (.int .i64 z) = W6 at *
          go_wp2
          refine bodyPost_ret (v := .agg #[.slice (some ⟨G, 0, none⟩) (k' + 1) cap2, .int .i64 bd]) (by simp [results, Try.results76, go_sem, b0, b1]) rfl ?_
          exact ⟨_, _, _, _, rfl, by omega, ((((FE6.out)).set_ (by show w.heap.size + 1 < _; omega) _).set_ (by show w.heap.size + 1 < _; omega) _).more (by omega), (((GR6.out)).set (.inr (by show w.heap.size ≤ w.heap.size + 1; omega)) _).set (.inr (by show w.heap.size ≤ w.heap.size + 1; omega)) _, ((((RD6.out)).set (by show R < w.heap.size + 1; omega) _).set (by show R < w.heap.size + 1; omega) _).more (by omega), ⟨fun h => (by cases h), HC2.out.2⟩⟩
        · obtain rfl : n = 0 := by omega
          obtain ⟨b0, f0⟩ := U0.out
          obtain ⟨b1, f1⟩ := U1.out
          obtain ⟨b2, f2⟩ := Q0.out
          obtain ⟨b3, f3⟩ := Q1.out
          clear U0 U1 Q0 Q1 TS4
          go_wp2
          refine bodyPost_ret (v := .agg #[.slice A2 0 cap2, .int .i64 bd]) (by simp [results, Try.results76, go_sem, b0, b1]) rfl ?_
          exact ⟨_, _, _, _, rfl, by omega, ((((FE4.out)).set_ (by show w.heap.size + 1 < _; omega) _).set_ (by show w.heap.size + 1 < _; omega) _).more (by omega), (((GR4.out)).set (.inr (by show w.heap.size ≤ w.heap.size + 1; omega)) _).set (.inr (by show w.heap.size ≤ w.heap.size + 1; omega)) _, ((((RD4.out)).set (by show R < w.heap.size + 1; omega) _).set (by show R < w.heap.size + 1; omega) _).more (by omega), HC2.out⟩
      · by_cases h3 : x = 3
        · subst h3
          clear hx0 hx1 h0 h1 h2
          obtain ⟨b0, f0⟩ := U0.out
          obtain ⟨b1, f1⟩ := U1.out
          obtain ⟨b2, f2⟩ := Q0.out
          obtain ⟨b3, f3⟩ := Q1.out
          have HAl := Lib.hid (bl_alloc (Below.refl w4.heap.size w4) (.cells #[.int .i64 1, .int .i64 1] 114))
          have HW4 := Lib.hid hz4
          go_wp2_with (at_builtin; refine wpList_plain (by rfl) fun K' hK' => ?_; refine wp_ts3 _ _ (by rfl) (TS4.out.bel HAl.out) (by simp; omega) (by rfl) (by rfl) (heap_alloc_new _ _) (by omega) ?_; intro gg cap1 w5 hts5 hgr5 hor5; have X0 := (U0.out.below HAl.out).grow hgr5 (fun b e => by have := TS4.out.lt2 b e; omega); have X1 := (U1.out.below HAl.out).grow hgr5 (fun b e => by have := TS4.out.lt2 b e; omega); have X2 := (Q0.out.below HAl.out).grow hgr5 (fun b e => by have := HO.out b e; omega); have X3 := (Q1.out.below HAl.out).grow hgr5 (fun b e => by have := HO.out b e; omega); obtain ⟨y0, z0⟩ := X0; obtain ⟨y1, z1⟩ := X1; obtain ⟨y2, z2⟩ := X2; obtain ⟨y3, z3⟩ := X3; have TS5 := Lib.hid hts5; have GR5 := Lib.hid ((GR4.out.bel HAl.out).grow hgr5 (fun b e => by have := TS4.out.lt2 b e; omega)); have RD5 := Lib.hid ((RD4.out.bel HAl.out).grow hgr5 (fun b e => by have := TS4.out.lt2 b e; omega)); have HGG := Lib.hid (show ¬ w2.heap.size = gg from by rcases hor5 with e | e; (have := HO.out gg e; omega); (rw [e]; simp; omega)); clear hts5 hgr5 hor5; refine hK' _ _ ?_; clear hK' K')
          skip
          refine bodyPost_ret (v := .agg #[.slice (some ⟨gg, 0, none⟩) (n + 1) cap1, .int .i64 bd]) (by simp [results, Try.results76, go_sem, y0, y1]) rfl ?_
          refine ⟨_, _, _, _, rfl, Nat.le_refl _, ?_, ((GR5.out.set (p := ⟨w2.heap.size, 0, none⟩) (.inr (by show w.heap.size ≤ w2.heap.size; omega)) _).set (.inr (by show w.heap.size ≤ w.heap.size + 1; omega)) _).set (.inr (by show w.heap.size ≤ w.heap.size + 1; omega)) _, (((RD5.out.set (p := ⟨w2.heap.size, 0, none⟩) (by show R < w2.heap.size; omega) _).set (by show R < w.heap.size + 1; omega) _).set (by show R < w.heap.size + 1; omega) _).more (by omega), ⟨fun h => (by cases h), TS5.out.capOk.2⟩⟩
          obtain ⟨A7, cap7, e7, hfe7⟩ := TS5.out.fe
          cases e7
          exact (((hfe7.setne (p := ⟨w2.heap.size, 0, none⟩) HGG.out _).set_ (by show w.heap.size + 1 < _; omega) _).set_ (by show w.heap.size + 1 < _; omega) _).more (by omega)
        · have d0 : (x == 0) = false := by rw [beq_eq_false_iff_ne]; exact h0
          have d1 : (x == 1) = false := by rw [beq_eq_false_iff_ne]; exact h1
          have d2 : (x == 2) = false := by rw [beq_eq_false_iff_ne]; exact h2
          have d3 : (x == 3) = false := by rw [beq_eq_false_iff_ne]; exact h3
          clear hx0 hx1 h0 h1 h2 h3
          obtain ⟨b0, f0⟩ := U0.out
          obtain ⟨b1, f1⟩ := U1.out
          obtain ⟨b2, f2⟩ := Q0.out
          obtain ⟨b3, f3⟩ := Q1.out
          clear U0 U1 Q0 Q1 TS4
          go_wp2
          refine bodyPost_ret (v := .agg #[.slice A2 n cap2, .int .i64 bd]) (by simp [results, Try.results76, go_sem, b0, b1]) rfl ?_
          exact ⟨_, _, _, _, rfl, by omega, ((((FE4.out)).set_ (by show w.heap.size + 1 < _; omega) _).set_ (by show w.heap.size + 1 < _; omega) _).more (by omega), (((GR4.out)).set (.inr (by show w.heap.size ≤ w.heap.size + 1; omega)) _).set (.inr (by show w.heap.size ≤ w.heap.size + 1; omega)) _, ((((RD4.out)).set (by show R < w.heap.size + 1; omega) _).set (by show R < w.heap.size + 1; omega) _).more (by omega), HC2.out⟩
end Go.Proofs.Ytbebdhjhlheboaa

namespace Go.Proofs.Ytbebdhjhlheboaa
open Go.ChangeShapes Go.WideShapes Go.ChangeAt Go.RowKit

/-- A slice of k Booleans that the draw has made in a block from lo on. -/
def BS (w : World) (lo : Nat) (ov : Value) (k : Nat) : Prop := ∃ xs : List Value, w.ownsRow lo 4 1 ov k xs ∧ xs.length = k ∧ ∀ u ∈ xs, ∃ b, u = .bool b
/-- Such a slice, as it reads. -/
def FB (w : World) (lo : Nat) (A : Option Addr) (k : Nat) (v : Nat → Bool) : Prop := k = 0 ∨ ∃ G, A = some ⟨G, 0, none⟩ ∧ lo ≤ G ∧ G < w.heap.size ∧ ∃ cs : Array Value, w.heap[G]? = some (.cells cs 4 (0, 0)) ∧ ∀ i, i < k → cs[i]? = some (.bool (v i))
section
variable {w w1 W : World} {R lo k k' : Nat} {ov : Value} {A : Option Addr} {v : Nat → Bool}
theorem BS.bel (h : BS w lo ov k) (hb : Below w.heap.size w w1) : BS w1 lo ov k := by
  obtain ⟨xs, h0, h1, h2⟩ := h
  exact ⟨xs, row_below' h0 hb, h1, h2⟩
theorem BS.gr (h : BS w lo ov k) (hg : Gr R w w1) (hR : R < lo) : BS w1 lo ov k := by
  obtain ⟨xs, h0, h1, h2⟩ := h
  refine ⟨xs, h0.kept hg ?_, h1, h2⟩
  cases e : ov.ownBlock with
  | none => exact .inl rfl
  | some j =>
    right
    intro e'
    cases e'
    have := (h0.lt _ e).1
    omega
theorem BS.lt (h : BS w lo ov k) : ∀ j, ov.ownBlock = some j → lo ≤ j := fun j e => by
  obtain ⟨xs, h0, h1, h2⟩ := h
  exact (h0.lt j e).1
theorem bs_lit (W : World) : BS (W.alloc (.cells #[] 4)) W.heap.size (.slice (some ⟨W.heap.size, 0, none⟩) 0 0) 0 :=
  ⟨[], by simpa using World.ownsRow_lit W #[] 0 (Nat.le_refl _) (by unfold maxLen; omega) (by simp), by simp, fun u hu => by cases hu⟩
theorem BS.fb (h : BS w lo ov k) : ∃ A cap v, ov = .slice A k cap ∧ k ≤ cap ∧ FB w lo A k v := by
  obtain ⟨xs, h0, h1, h2⟩ := h
  rcases h0.2 with ⟨hov, hk⟩ | ⟨g, cap, cur, hov, hg, hh, hnc, _, hsz, htk⟩
  · subst hk
    exact ⟨none, 0, fun _ => false, hov, Nat.le_refl _, .inl rfl⟩
  · have hlt : g < w.heap.size := by
      rcases Nat.lt_or_ge g w.heap.size with hlt | hge
      · exact hlt
      · rw [Array.getElem?_eq_none hge] at hh; cases hh
    refine ⟨_, cap, fun i => match xs.getD i undef with | .bool b => b | _ => false, hov, hnc, .inr ⟨g, rfl, hg, hlt, cur, hh, fun i hi => ?_⟩⟩
    have hx : xs[i]? = some (xs[i]'(by omega)) := List.getElem?_eq_getElem (by omega)
    obtain ⟨b, hb⟩ := h2 (xs[i]'(by omega)) (List.getElem_mem _)
    have hd : xs.getD i undef = .bool b := by rw [List.getD_eq_getElem?_getD, hx, hb]; rfl
    show cur[i]? = some (.bool (match xs.getD i undef with | .bool b => b | _ => false))
    rw [hd]
    rw [hb, ← htk, List.getElem?_take_of_lt (by omega)] at hx
    have h3 : cur[i]? = some (.bool b) := by simpa using hx
    exact h3
theorem FB.short (h : FB w lo A k v) (hk : k' ≤ k) : FB w lo A k' v := by
  rcases h with h | ⟨G, e, h1, h2, cs, hh, hc⟩
  · exact .inl (by omega)
  · exact .inr ⟨G, e, h1, h2, cs, hh, fun i hi => hc i (by omega)⟩
theorem FB.rd (h : FB w lo A k v) : RdB w w.heap.size A k v := fun hk => by
  rcases h with h | ⟨G, e, h1, h2, cs, hh, hc⟩
  · omega
  · refine ⟨G, 0, e, h2, fun i hi => ?_⟩
    rw [Nat.zero_add]
    exact (cell_of_row w G _ cs _ _ hh).trans (hc i hi)
theorem FB.set_ (h : FB w lo A k v) {p : Addr} (hp : p.block < lo) (u : Value) : FB (w.setCell p u) lo A k v := by
  rcases h with h | ⟨G, e, h1, h2, cs, hh, hc⟩
  · exact .inl h
  · exact .inr ⟨G, e, h1, by simpa [World.setCell] using h2, cs, (Below.heap_setCell w p u G (by omega)).trans hh, hc⟩

set_option maxRecDepth 100000 in
set_option maxHeartbeats 800000 in
theorem wp_bs1 {o : Oper} {a : Act} {K : Act → World → Prop} {Q : Exit → Act → World → Prop} (s x : Operand)
    (ho : o.op = .call { callee := .builtin .append, args := #[s, x], argTypes := #[40, 40] })
    (h : BS W lo ov k) (hlo : lo ≤ W.heap.size) (hs : a.eval s = ov) {H : Nat} (hx : a.eval x = .slice (some ⟨H, 0, none⟩) 1 1) {X : Bool} {T' : TypeId} (hnew : W.heap[H]? = some (.cells #[.bool X] T' (0, 0))) (hk : k ≤ 1048576)
    (hK : ∀ g cap w', BS w' lo (.slice (some ⟨g, 0, none⟩) (k + 1) cap) (k + 1) → W.grownBy w' ov.ownBlock → K (a.put o.dst (.slice (some ⟨g, 0, none⟩) (k + 1) cap)) w') :
    o.wp Try.prog a W K Q := by
  obtain ⟨i0, hi, hz0, hz1, hz2⟩ := info_parts Try.infoBool
  obtain ⟨xs, h0, h1, h2⟩ := h
  refine wp_append_lies _ s x 40 ho lo 4 i0 _ 1 1 Try.underlying40 hi hz0 hz1 hz2 rfl (by omega) ov k _ hs h0 ⟨H, 0, none⟩ 1 1 [.bool X] hx (by rfl)
    (World.news_of_block hnew) (by simp [Value.oneCell']) (by omega) (by unfold maxLen; omega) (by omega) hlo W.heap.size rfl ?_
  intro g cap w' hown hg _ _
  refine hK g cap w' ⟨_, hown, by simp; omega, fun u hu => ?_⟩ hg
  rcases List.mem_append.1 hu with hu | hu
  · exact h2 u hu
  · exact ⟨X, by simpa using hu⟩
end

/-- What the draw of values leaves. -/
def VDr (w : World) (R K : Nat) (e : Ending) (w' : World) : Prop := ∃ A k cap v, e = .returned (.slice A k cap) ∧ k ≤ 12 ∧ FB w' w.heap.size A k v ∧ Gr R w w' ∧ Rdr w' R K

set_option maxRecDepth 100000 in
set_option maxHeartbeats 3200000 in
theorem values_any (R K : Nat) (w : World) (hK : K ≤ 900000) (h : Rdr w R K) :
    Calls Try.prog 58 #[.pointer (some ⟨R, 0, none⟩)] w (VDr w R (K + 20)) := by
  have hRw := h.lt
  have HR := Lib.hid h
  clear h
  go_enter Try.func58, Try.ntmps58
  go_wp2
  go_loopw [3, 4] (fun t i wr => ∃ k : Nat, k ≤ 12 ∧ i = .int .i64 k ∧ BS wr w.heap.size t k ∧ Gr R w wr ∧ Rdr wr R (K + k)) (fun _ i _ => 12 - (intOf i).toNat)
  case atStart => exact ⟨0, Nat.zero_le _, rfl, bs_lit w, Gr.of (bl_alloc (Below.refl _ _) _), HR.out.bel (bl_alloc (Below.refl _ _) _)⟩
  case round =>
    obtain ⟨k, hk, rfl, hts, hgr, hrd⟩ := hrel
    have TSk := Lib.hid hts
    have GR := Lib.hid hgr
    have RD := Lib.hid hrd
    have hsz : w.heap.size ≤ wr.heap.size := hgr.size
    clear hts hgr hrd
    by_cases hlt : k < 12
    · go_wp2_with fail
      refine (pick_any R (K + k) 2 _ (by omega) RD.out).mono ?_
      rintro e w2 ⟨x, rfl, hx0, hx1, hg, hr⟩
      have TS2 := Lib.hid (TSk.out.gr hg hRw)
      have GR2 := Lib.hid (GR.out.trans hg)
      have RD2 := Lib.hid hr
      have hsz2 : w.heap.size ≤ w2.heap.size := GR2.out.size
      clear hg hr hx0 hx1
      go_wp2_with (at_builtin; refine wpList_plain (by rfl) fun K' hK' => ?_; refine wp_bs1 _ _ (by rfl) (TS2.out.bel (bl_alloc (Below.refl _ _) _)) (by simp; omega) (by rfl) (by rfl) (heap_alloc_new _ _) (by omega) ?_; intro gg cap1 w3 hts3 hgr3; refine hK' _ _ ?_; clear hK' K')
      go_roundw
      case rel => exact ⟨k + 1, by omega, by go_num, hts3, (GR2.out.bel (bl_alloc (Below.refl _ _) _)).grow hgr3 (fun j e => TS2.out.lt j e), (RD2.out.bel (bl_alloc (Below.refl _ _) _)).grow hgr3 (fun j e => by have := TS2.out.lt j e; omega)⟩
      case measure => simp [intOf]; omega
    · have e : k = 12 := by omega
      subst e
      obtain ⟨A', cap', v0, rfl, hcap, _⟩ := TSk.out.fb
      go_wp2_with fail
      refine (pick_any R (K + 12) 40 _ (by omega) RD.out).mono ?_
      rintro e w2 ⟨x, rfl, hx0, hx1, hg, hr⟩
      obtain ⟨A9, cap9, v, e9, _, hF⟩ := (TSk.out.gr hg hRw).fb
      cases e9
      have HF := Lib.hid hF
      have GR2 := Lib.hid (GR.out.trans hg)
      have RD2 := Lib.hid hr
      have hc11 : (11 : Int) ≤ (cap' : Int) := by omega
      clear hg hr hF hx0 hx1
      by_cases h0 : x = 0
      · subst h0
        go_wp2
        go_ret
        exact ⟨_, 11, _, v, rfl, by omega, HF.out.short (by omega), GR2.out, RD2.out.more (by omega)⟩
      · have hd0 : (x == 0) = false := by rw [beq_eq_false_iff_ne]; exact h0
        clear h0
        go_wp2
        go_ret
        exact ⟨_, 12, _, v, rfl, Nat.le_refl _, HF.out, GR2.out, RD2.out.more (by omega)⟩
end Go.Proofs.Ytbebdhjhlheboaa

namespace Go.Proofs.Ytbebdhjhlheboaa
open Go.ChangeShapes Go.WideShapes Go.ChangeAt Go.RowKit

theorem tsx_head {w : World} {lo k s : Nat} {T : TypeId} {ov : Value} (h : TS w lo T s ov k) : ∃ A cap, ov = .slice A k cap := by
  obtain ⟨xs, h0, h1, h2⟩ := h
  rcases h0.2 with ⟨hov, hk⟩ | ⟨g, cap, cur, hov, _⟩
  · exact ⟨none, 0, by rw [hk]; exact hov⟩
  · exact ⟨_, cap, hov⟩
theorem tsx_more {w : World} {lo lo' k s : Nat} {T : TypeId} {ov : Value} (h : TS w lo T s ov k) (h1 : lo' ≤ lo) : TS w lo' T s ov k := by
  obtain ⟨xs, h0, hl, h2⟩ := h
  refine ⟨xs, ⟨h0.1, ?_⟩, hl, h2⟩
  rcases h0.2 with hh | ⟨g, cap, cur, e1, hg, hr⟩
  · exact .inl hh
  · exact .inr ⟨g, cap, cur, e1, by omega, hr⟩
theorem tsx_at {w : World} {lo k : Nat} {T : TypeId} {ov : Value} (h : TS w lo T 1 ov k) {j : Nat} (hj : j < k) : ∃ g cap z, ov = .slice (some ⟨g, 0, none⟩) k cap ∧ w.cell? ⟨g, j, none⟩ = some (.int .i64 z) ∧ w.frozen? ⟨g, j, none⟩ = false ∧ lo ≤ g := by
  obtain ⟨xs, h0, h1, h2⟩ := h
  rcases id h0.2 with ⟨_, hk⟩ | ⟨g, cap, cur, rfl, hg, hh, _⟩
  · omega
  · have hx : xs[j]? = some (xs[j]'(by omega)) := List.getElem?_eq_getElem (by omega)
    obtain ⟨z, hz⟩ := h2 _ (List.getElem_mem (by omega : j < xs.length))
    have := h0.cells rfl _ _ hx
    rw [Go.WideShapes.add_plain, Nat.zero_add, hz] at this
    exact ⟨g, cap, z, rfl, this, by simp [World.frozen?, hh], hg⟩
/-- A literal of ints that has just been made. -/
theorem tsx_lit (W : World) (L : List Int) (n : Nat) (hn : L.length = n) (hs : n ≤ 1000) : TS (W.alloc (.cells (L.map vI).toArray 3)) W.heap.size 3 1 (.slice (some ⟨W.heap.size, 0, none⟩) n n) n := by
  refine ⟨L.map vI, ?_, by simp [hn], fun u hu => lit_all L u hu⟩
  simpa [hn] using World.ownsRow_lit W (L.map vI).toArray n (e := 3) (size := 1) (Nat.le_refl _) (by unfold maxLen; omega) (by simp [hn])

/-- What the draw of variables or of a cube leaves. -/
def CbDr (w : World) (R K : Nat) (e : Ending) (w' : World) : Prop := ∃ A k cap, e = .returned (.slice A k cap) ∧ k ≤ 5 ∧ TS w' w.heap.size 3 1 (.slice A k cap) k ∧ Gr R w w' ∧ Rdr w' R K
theorem CbDr.of {w w' : World} {R K k : Nat} {V : Value} (h : TS w' w.heap.size 3 1 V k) (hk : k ≤ 5) (hg : Gr R w w') (hr : Rdr w' R K) : CbDr w R K (.returned V) w' := by
  obtain ⟨A, cap, rfl⟩ := tsx_head h
  exact ⟨A, k, cap, rfl, hk, h, hg, hr⟩

end Go.Proofs.Ytbebdhjhlheboaa

namespace Go.Proofs.Ytbebdhjhlheboaa
open Go.ChangeShapes Go.WideShapes Go.ChangeAt Go.RowKit

set_option maxHeartbeats 400000 in
theorem l1Abs_some (n : Int) (w : World) :
    Calls Try.prog 100 #[.int .i64 n] w fun e w' => (∃ z : Int, e = .returned (.int .i64 z)) ∧ w' = w := by
  by_cases h : n < 0
  · go_enter Try.func100, Try.ntmps100
    go_wp2
    go_ret
    exact ⟨⟨_, rfl⟩, rfl⟩
  · go_enter Try.func100, Try.ntmps100
    go_wp2
    go_ret
    exact ⟨⟨_, rfl⟩, rfl⟩

section
variable {w w1 : World} {lo k j G R : Nat} {A : Option Addr} {v : Nat → Bool}
theorem FB.putB (h : FB w lo (some ⟨G, 0, none⟩) k v) (hk : 0 < k) (b : Bool) : FB (w.setCell ⟨G, j, none⟩ (.bool b)) lo (some ⟨G, 0, none⟩) k (fun i => if i = j then b else v i) := by
  rcases h with h | ⟨G', e, h1, h2, cs, hh, hc⟩
  · omega
  · cases e
    refine .inr ⟨G, rfl, h1, by simpa [World.setCell] using h2, cs.setIfInBounds j (.bool b), ?_, fun i hi => ?_⟩
    · simp [World.setCell, Array.getElem?_modify, hh]
    · rw [Array.getElem?_setIfInBounds]
      by_cases e : i = j
      · subst e
        have := (Array.getElem?_eq_some_iff.1 (hc i hi)).1
        rw [if_pos rfl, if_pos (by omega)]
        simp only [if_pos]
      · rw [if_neg (by omega)]
        simp only [if_neg e]
        exact hc i hi
theorem FB.cellB (h : FB w lo A k v) (hj : j < k) : ∃ G, A = some ⟨G, 0, none⟩ ∧ lo ≤ G ∧ (∃ u, w.cell? ⟨G, j, none⟩ = some u) ∧ w.frozen? ⟨G, j, none⟩ = false := by
  rcases h with h | ⟨G, e, h1, h2, cs, hh, hc⟩
  · omega
  · exact ⟨G, e, h1, ⟨_, (cell_of_row w G _ cs _ _ hh).trans (hc j hj)⟩, by simp [World.frozen?, hh]⟩
theorem FB.grB (h : FB w lo A k v) (hg : Gr R w w1) (hR : R < lo) : FB w1 lo A k v := by
  rcases h with h | ⟨G, e, h1, h2, cs, hh, hc⟩
  · exact .inl h
  · exact .inr ⟨G, e, h1, Nat.lt_of_lt_of_le h2 hg.size, cs, (hg.block G h2 (by intro e'; cases e'; omega)).trans hh, hc⟩
end

theorem gr_bel9 {w w1 w5 : World} {R : Nat} (hb : Below w.heap.size w w1) (hg : Gr R w1 w5) (hR : w.heap.size ≤ R) : Below w.heap.size w w5 :=
  ⟨hg.os.trans hb.os, hg.tape.trans hb.tape, hg.output.trans hb.output, Nat.le_trans hb.size hg.size, fun k hk => (hg.block k (Nat.lt_of_lt_of_le hk hb.size) (by intro e; cases e; omega)).trans (hb.block k hk)⟩
/-- What the draw of a cube and of values leaves. -/
def DCh (w : World) (e : Ending) (w' : World) : Prop := ∃ A k cap c Av kv capv v, e = .returned (.tuple #[.slice A k cap, .slice Av kv capv]) ∧ k ≤ 5 ∧ kv ≤ 12 ∧ RdI w' w'.heap.size A k c ∧ RdB w' w'.heap.size Av kv v ∧ Below w.heap.size w w'

end Go.Proofs.Ytbebdhjhlheboaa

namespace Go.Proofs.Ytbebdhjhlheboaa
open Go.ChangeShapes Go.WideShapes Go.ChangeAt Go.RowKit

/-- The two cells of a constraint of at most N terms, whose terms lie in a block from el on. -/
def El (w : World) (el N : Nat) (a b : Value) : Prop := ∃ A n cap bd, a = .slice A n cap ∧ b = .int .i64 bd ∧ n ≤ N ∧ FE w el A n ∧ CapOk A n cap
/-- A slice of k constraints that the draw has made in a block from lo on; the cells are xs. -/
structure PX (w : World) (lo el N : Nat) (ov : Value) (k : Nat) (xs : List Value) : Prop where
  own : w.ownsRow lo 55 2 ov k xs
  len : xs.length = k * 2
  els : ∀ i, i < k → ∃ a b, xs[i * 2]? = some a ∧ xs[i * 2 + 1]? = some b ∧ El w el N a b
section
variable {w w1 W : World} {R lo el N N' k G : Nat} {ov a b : Value} {xs : List Value} {A : Option Addr}
theorem El.bel (h : El w el N a b) (hb : Below w.heap.size w w1) : El w1 el N a b := by
  obtain ⟨A, n, cap, bd, e1, e2, h1, h2, h3⟩ := h
  exact ⟨A, n, cap, bd, e1, e2, h1, h2.bel hb, h3⟩
theorem El.gr (h : El w el N a b) (hg : Gr R w w1) (hR : R < el) : El w1 el N a b := by
  obtain ⟨A, n, cap, bd, e1, e2, h1, h2, h3⟩ := h
  exact ⟨A, n, cap, bd, e1, e2, h1, h2.gr hg hR, h3⟩
theorem El.up (h : El w el N a b) (hN : N ≤ N') : El w el N' a b := by
  obtain ⟨A, n, cap, bd, e1, e2, h1, h2, h3⟩ := h
  exact ⟨A, n, cap, bd, e1, e2, by omega, h2, h3⟩
/-- A block of constraints is none of terms. -/
theorem FE.other (h : FE w el A k) {g : Nat} {cur : Array Value} (hg : w.heap[g]? = some (.cells cur 55 (0, 0))) (hb : ∀ j, j < w.heap.size → j ≠ g → w1.heap[j]? = w.heap[j]?) : FE w1 el A k := by
  obtain ⟨c, l, h⟩ := h
  rcases h with h | ⟨G, e, hG, h⟩
  · exact ⟨c, l, .inl h⟩
  · refine ⟨c, l, .inr ⟨G, e, hG, h.at_ (hb G h.lt ?_)⟩⟩
    intro e'
    obtain ⟨cs, hh, _, _⟩ := h
    rw [e', hg] at hh
    injection hh with hh
    injection hh with _ h2 _
    exact absurd h2 (by decide)
theorem El.other (h : El w el N a b) {g : Nat} {cur : Array Value} (hg : w.heap[g]? = some (.cells cur 55 (0, 0))) (hb : ∀ j, j < w.heap.size → j ≠ g → w1.heap[j]? = w.heap[j]?) : El w1 el N a b := by
  obtain ⟨A, n, cap, bd, e1, e2, h1, h2, h3⟩ := h
  exact ⟨A, n, cap, bd, e1, e2, h1, h2.other hg hb, h3⟩
theorem PX.bel (h : PX w lo el N ov k xs) (hb : Below w.heap.size w w1) : PX w1 lo el N ov k xs :=
  ⟨row_below' h.own hb, h.len, fun i hi => by obtain ⟨a, b, h1, h2, h3⟩ := h.els i hi; exact ⟨a, b, h1, h2, h3.bel hb⟩⟩
theorem PX.gr (h : PX w lo el N ov k xs) (hg : Gr R w w1) (hR : R < lo) (hR' : R < el) : PX w1 lo el N ov k xs := by
  refine ⟨h.own.kept hg ?_, h.len, fun i hi => by obtain ⟨a, b, h1, h2, h3⟩ := h.els i hi; exact ⟨a, b, h1, h2, h3.gr hg hR'⟩⟩
  cases e : ov.ownBlock with
  | none => exact .inl rfl
  | some j =>
    right
    intro e'
    cases e'
    have := (h.own.lt _ e).1
    omega
theorem PX.lt (h : PX w lo el N ov k xs) : ∀ j, ov.ownBlock = some j → lo ≤ j ∧ j < w.heap.size := fun j e => h.own.lt j e
theorem PX.one (h : PX w lo el N ov k xs) : ∀ u ∈ xs, u.oneCell' = true := fun u hu => by
  obtain ⟨j, hj, e⟩ := List.mem_iff_getElem.1 hu
  have hj2 : j < k * 2 := by have := h.len; omega
  have hx : xs[j]? = some u := by rw [List.getElem?_eq_getElem hj, e]
  obtain ⟨i, hi | hi⟩ : ∃ i, j = i * 2 ∨ j = i * 2 + 1 := ⟨j / 2, by omega⟩
  · obtain ⟨a, b, h1, h2, A, n, cap, bd, e1, e2, _⟩ := h.els i (by omega)
    rw [hi, h1] at hx
    cases hx
    rw [e1]
    rfl
  · obtain ⟨a, b, h1, h2, A, n, cap, bd, e1, e2, _⟩ := h.els i (by omega)
    rw [hi, h2] at hx
    cases hx
    rw [e2]
    rfl
theorem PX.nil_or (h : PX w lo el N ov k xs) : (ov = .slice none 0 0 ∧ k = 0) ∨ ∃ g cap cur, ov = .slice (some ⟨g, 0, none⟩) k cap ∧ w.heap[g]? = some (.cells cur 55 (0, 0)) := by
  rcases h.own.2 with h1 | ⟨g, cap, cur, e, _, hh, _⟩
  · exact .inl h1
  · exact .inr ⟨g, cap, cur, e, hh⟩

theorem px_lit (W : World) (el N : Nat) : PX (W.alloc (.cells #[] 55)) W.heap.size el N (.slice (some ⟨W.heap.size, 0, none⟩) 0 0) 0 [] :=
  ⟨by simpa using World.ownsRow_lit W #[] 0 (Nat.le_refl _) (by unfold maxLen; omega) (by simp), by simp, fun i hi => by omega⟩

/-- The cells of a slice of constraints that came in. -/
def SrcC (W : World) (A : Option Addr) (m : Nat) (ys : List Value) : Prop := ys.length = m * 2 ∧ (∀ u ∈ ys, u.oneCell' = true) ∧ ∀ a, A = some a → ∀ j u, ys[j]? = some u → W.cell? (a.add j) = some u
theorem PX.src {cap : Nat} (h : PX w lo el N (.slice A k cap) k xs) : SrcC w A k xs := by
  refine ⟨h.len, h.one, fun a e j u hu => ?_⟩
  rcases h.own.2 with ⟨h1, _⟩ | ⟨g, cap', cur, e1, _, hh, _⟩
  · cases h1; cases e
  · cases e1
    cases e
    exact h.own.cells rfl j u hu

theorem run_appC (W : World) {B0 : Nat} {v : Value} {n m cap : Nat} {ys : List Value} (hown : W.ownsRow B0 55 2 v n xs) (hs : SrcC W A m ys) (hm0 : A = none → m = 0) (hcap : A = none → cap = 0) (hB : B0 ≤ W.heap.size) (hn : n + m ≤ 1000000) :
    ∃ v' w', (Builtin.append_ #[25, 25] 25 #[v, .slice A m cap]).run Try.prog W = .ok v' w' ∧ w'.ownsRow B0 55 2 v' (n + m) (xs ++ ys) ∧ W.grownBy w' v.ownBlock := by
  obtain ⟨i0, hi, hz0, hz1, hz2⟩ := info_parts Try.infoCon
  obtain ⟨h1, h2, h3⟩ := hs
  cases A with
  | none =>
    obtain rfl := hcap rfl
    obtain rfl := hm0 rfl
    obtain rfl : ys = [] := List.length_eq_zero_iff.1 (by omega)
    exact ⟨v, W, run_append_owned_none (P := Try.prog) (w := W) B0 25 25 55 i0 2 Try.underlying25 hi v n _ hown, by simpa using hown, ⟨rfl, rfl, rfl, Nat.le_refl _, fun _ _ _ => rfl⟩⟩
  | some a =>
    obtain ⟨v', w', k1, k2, k3, _, _⟩ := run_append_own_at (P := Try.prog) W B0 25 25 55 i0 _ 2 32 Try.underlying25 hi hz0 hz1 hz2 rfl (by omega) v n _ hown a m cap ys h1 (h3 a rfl) h2 (by unfold maxLen; omega) (by omega) hB
    exact ⟨v', w', k1, k2, k3⟩

set_option maxRecDepth 100000 in
set_option maxHeartbeats 800000 in
/-- The append of one constraint to a slice that the draw has made. -/
theorem wp_px1 {o : Oper} {a : Act} {K : Act → World → Prop} {Q : Exit → Act → World → Prop} (s x : Operand)
    (ho : o.op = .call { callee := .builtin .append, args := #[s, x], argTypes := #[25, 25] })
    (h : PX W lo el N ov k xs) (hlo : lo ≤ W.heap.size) (hs : a.eval s = ov) {H : Nat} (hx : a.eval x = .slice (some ⟨H, 0, none⟩) 1 1) {A : Option Addr} {n cap : Nat} {bd : Int} {T' : TypeId} (hnew : W.heap[H]? = some (.cells #[.slice A n cap, .int .i64 bd] T' (0, 0))) (hel : El W el N (.slice A n cap) (.int .i64 bd)) (hk : k ≤ 10000)
    (hK : ∀ g cap' w' zs, PX w' lo el N (.slice (some ⟨g, 0, none⟩) (k + 1) cap') (k + 1) zs → W.grownBy w' ov.ownBlock → K (a.put o.dst (.slice (some ⟨g, 0, none⟩) (k + 1) cap')) w') :
    o.wp Try.prog a W K Q := by
  obtain ⟨i0, hi, hz0, hz1, hz2⟩ := info_parts Try.infoCon
  refine wp_append_lies _ s x 25 ho lo 55 i0 _ 2 32 Try.underlying25 hi hz0 hz1 hz2 rfl (by omega) ov k _ hs h.own ⟨H, 0, none⟩ 1 1 [.slice A n cap, .int .i64 bd] hx (by rfl)
    (World.news_of_block hnew) (by simp [Value.oneCell']) (by omega) (by unfold maxLen; omega) (by omega) hlo W.heap.size rfl ?_
  intro g cap' w' hown hg _ _
  have hkeep : ∀ {a b : Value}, El W el N a b → El w' el N a b := fun {a b} he => by
    rcases h.nil_or with ⟨e, _⟩ | ⟨g0, cap0, cur, e, hh⟩
    · obtain ⟨A, n, cap, bd, e1, e2, h1, h2, h3⟩ := he
      refine ⟨A, n, cap, bd, e1, e2, h1, ?_, h3⟩
      obtain ⟨c, l, hf⟩ := h2
      rcases hf with hf | ⟨G, eG, hG, hf⟩
      · exact ⟨c, l, .inl hf⟩
      · exact ⟨c, l, .inr ⟨G, eG, hG, hf.at_ (hg.block G hf.lt (by rw [e]; intro h; cases h))⟩⟩
    · exact he.other hh (fun j hj hne => hg.block j hj (by rw [e]; intro h; cases h; exact hne rfl))
  refine hK g cap' w' _ ⟨hown, by rw [List.length_append, h.len]; simp; omega, fun i hi => ?_⟩ hg
  by_cases e : i = k
  · subst e
    refine ⟨.slice A n cap, .int .i64 bd, ?_, ?_, hkeep hel⟩
    · rw [List.getElem?_append_right (by rw [h.len]; omega), h.len]; simp
    · rw [List.getElem?_append_right (by rw [h.len]; omega), h.len]; simp
  · obtain ⟨a, b, h1, h2, h3⟩ := h.els i (by omega)
    refine ⟨a, b, ?_, ?_, hkeep h3⟩
    · rw [List.getElem?_append_left (by rw [h.len]; omega)]; exact h1
    · rw [List.getElem?_append_left (by rw [h.len]; omega)]; exact h2
end
end Go.Proofs.Ytbebdhjhlheboaa

namespace Go.Proofs.Ytbebdhjhlheboaa
open Go.ChangeShapes Go.WideShapes Go.ChangeAt Go.RowKit

/-- What the draw of a problem leaves. -/
def PDr (w : World) (R K N : Nat) (e : Ending) (w' : World) : Prop := ∃ A k cap xs, e = .returned (.slice A k cap) ∧ k ≤ 8 ∧ (A = none → cap = 0) ∧ (A = none → k = 0) ∧ PX w' w.heap.size (R + 1) N (.slice A k cap) k xs ∧ Gr R w w' ∧ Rdr w' R K
theorem PX.nils {w : World} {lo el N k cap : Nat} {A : Option Addr} {xs : List Value} (h : PX w lo el N (.slice A k cap) k xs) : (A = none → cap = 0) ∧ (A = none → k = 0) := by
  rcases h.nil_or with ⟨e, hk⟩ | ⟨g, cap0, cur, e, _⟩
  · cases e; exact ⟨(fun _ => rfl), (fun _ => rfl)⟩
  · cases e; exact ⟨(fun h => by cases h), (fun h => by cases h)⟩

set_option maxRecDepth 100000 in
set_option maxHeartbeats 3200000 in
theorem problem_any (R K : Nat) (w : World) (hK : K ≤ 800000) (h : Rdr w R K) :
    Calls Try.prog 95 #[.pointer (some ⟨R, 0, none⟩)] w (PDr w R (K + 1000) 12) := by
  have hRw := h.lt
  have HR := Lib.hid h
  clear h
  go_enter Try.func95, Try.ntmps95
  go_upto_region 2 with fail
  have HB0 := Lib.hid (bl_alloc (Below.refl w.heap.size w) (.cells #[] 55))
  have HP0 := Lib.hid (px_lit w (R + 1) 12)
  have hz0 : w.heap.size < (w.alloc (.cells #[] 55)).heap.size := by simp
  generalize w.alloc (.cells #[] 55) = W0 at *
  have RD0 := Lib.hid (HR.out.bel HB0.out)
  have GR0 := Lib.hid (Gr.of (R := R) HB0.out)
  go_wp2_with fail
  refine (num_from (bl_alloc (Below.refl W0.heap.size W0) _) R K W0.heap.size 4 _ _ (by omega) RD0.out (by omega) (heap_alloc_new W0 _) (by rfl) (by omega) (by omega) (lit_all [4, 5, 3, 6])).mono ?_
  rintro e w1 ⟨m, rfl, hmem, hg, hr⟩
  obtain ⟨mm, rfl, hmm⟩ : ∃ q : Nat, m = (q : Int) ∧ q ≤ 12 := by
    simp [vI] at hmem
    rcases hmem with e | e | e | e
    · exact ⟨4, e, by omega⟩
    · exact ⟨5, e, by omega⟩
    · exact ⟨3, e, by omega⟩
    · exact ⟨6, e, by omega⟩
  have GR1 := Lib.hid (GR0.out.trans hg)
  have RD1 := Lib.hid hr
  have HP1 := Lib.hid (HP0.out.gr hg hRw (by omega))
  have hz1 : w.heap.size < w1.heap.size := Nat.lt_of_lt_of_le hz0 hg.size
  clear hg hr hmem GR0 RD0 HP0
  go_wp2_with fail
  refine (num_from (bl_alloc (Below.refl w1.heap.size w1) _) R (K + 1) w1.heap.size 7 _ _ (by omega) RD1.out (by omega) (heap_alloc_new w1 _) (by rfl) (by omega) (by omega) (lit_all [4, 6, 3, 8, 2, 1, 0])).mono ?_
  rintro e w2 ⟨i0, rfl, hmem, hg, hr⟩
  obtain ⟨ii, rfl, hii⟩ : ∃ q : Nat, i0 = (q : Int) ∧ q ≤ 8 := by
    simp [vI] at hmem
    rcases hmem with e | e | e | e | e | e | e
    · exact ⟨4, e, by omega⟩
    · exact ⟨6, e, by omega⟩
    · exact ⟨3, e, by omega⟩
    · exact ⟨8, e, by omega⟩
    · exact ⟨2, e, by omega⟩
    · exact ⟨1, e, by omega⟩
    · exact ⟨0, e, by omega⟩
  have GR2 := Lib.hid (GR1.out.trans hg)
  have RD2 := Lib.hid hr
  have HP2 := Lib.hid (HP1.out.gr hg hRw (by omega))
  have hz2 : w.heap.size < w2.heap.size := Nat.lt_of_lt_of_le hz1 hg.size
  clear hg hr hmem GR1 RD1 HP1
  go_wp2
  go_loopw [3, 5] (fun t i wr => ∃ (j k : Nat) (xs : List Value), k + j ≤ 8 ∧ i = .int .i64 j ∧ PX wr w.heap.size (R + 1) 12 t k xs ∧ Gr R w wr ∧ Rdr wr R (K + 2 + 100 * k)) (fun _ i _ => (intOf i).toNat)
  case atStart => exact ⟨ii, 0, _, by omega, rfl, HP2.out, GR2.out, RD2.out⟩
  case round =>
    obtain ⟨j, k, xs, hjk, rfl, hp, hgr, hrd⟩ := hrel
    have HP := Lib.hid hp
    have GR := Lib.hid hgr
    have RD := Lib.hid hrd
    have hsz : w.heap.size ≤ wr.heap.size := hgr.size
    clear hp hgr hrd
    cases j with
    | zero =>
      rcases HP.out.nil_or with ⟨e, hk0⟩ | ⟨g, cap0, cur, e, _⟩
      · subst e
        subst hk0
        go_wp2
        go_ret
        exact ⟨_, 0, _, _, rfl, by omega, fun _ => rfl, fun _ => rfl, HP.out, GR.out, RD.out.more (by omega)⟩
      · subst e
        go_wp2
        go_ret
        exact ⟨_, k, _, _, rfl, by omega, (HP.out.nils).1, (HP.out.nils).2, HP.out, GR.out, RD.out.more (by omega)⟩
    | succ j =>
      have hj1 : (0 : Int) < ((j + 1 : Nat) : Int) := by omega
      go_wp2_with fail
      refine (draw_any R (K + 2 + 100 * k) mm _ (by omega) hmm RD.out).mono ?_
      rintro e w3 ⟨A', n, cap', bd, rfl, hn, hfe, hg, hr, hcp⟩
      have HP3 := Lib.hid (HP.out.gr hg hRw (by omega))
      have GR3 := Lib.hid (GR.out.trans hg)
      have RD3 := Lib.hid hr
      have HE := Lib.hid (show El w3 (R + 1) 12 (.slice A' n cap') (.int .i64 bd) from ⟨A', n, cap', bd, rfl, rfl, by omega, hfe.more (by omega), hcp⟩)
      have hz3 : w.heap.size ≤ w3.heap.size := GR3.out.size
      clear hfe hg hr hcp HP GR RD
      have HAl := Lib.hid (bl_alloc (Below.refl w3.heap.size w3) (.cells #[.slice A' n cap', .int .i64 bd] 55))
      go_wp2_with (at_builtin; refine wpList_plain (by rfl) fun K' hK' => ?_; refine wp_px1 _ _ (by rfl) (HP3.out.bel HAl.out) (by simp; omega) (by rfl) (by rfl) (heap_alloc_new _ _) (HE.out.bel HAl.out) (by omega) ?_; intro gg cap1 w4 zs hp4 hgr4; refine hK' _ _ ?_; clear hK' K')
      go_roundw
      case rel => exact ⟨j, k + 1, zs, by omega, by first | rfl | go_num | (congr 1; omega), hp4, (GR3.out.bel HAl.out).grow hgr4 (fun b e => (HP3.out.lt b e).1), ((RD3.out.bel HAl.out).grow hgr4 (fun b e => by have := (HP3.out.lt b e).1; omega)).more (by omega)⟩
      case measure => simp [intOf]; try omega
end Go.Proofs.Ytbebdhjhlheboaa

namespace Go.Proofs.Ytbebdhjhlheboaa
open Go.ChangeShapes Go.WideShapes Go.ChangeAt Go.RowKit

section
variable {w w1 W : World} {R lo el N N' k G : Nat} {ov a b : Value} {xs : List Value} {A : Option Addr}
theorem PX.shape (h : PX w lo el N ov k xs) : ∃ A cap, ov = .slice A k cap := by
  rcases h.nil_or with ⟨e, hk⟩ | ⟨g, cap, cur, e, _⟩
  · exact ⟨none, 0, by rw [e, hk]⟩
  · exact ⟨_, cap, e⟩
theorem PX.up (h : PX w lo el N ov k xs) (hN : N ≤ N') : PX w lo el N' ov k xs :=
  ⟨h.own, h.len, fun i hi => by obtain ⟨a, b, h1, h2, h3⟩ := h.els i hi; exact ⟨a, b, h1, h2, h3.up hN⟩⟩
/-- The slice copied into an empty one. -/
theorem px_copy {cap : Nat} {v' : Value} {w' : World} (hp : PX w lo el N (.slice A k cap) k xs) (hown : w'.ownsRow w.heap.size 55 2 v' (0 + k) ([] ++ xs)) (hg : (w.alloc (.cells #[] 55)).grownBy w' (some w.heap.size)) :
    PX w' w.heap.size el N v' k xs := by
  rw [Nat.zero_add, List.nil_append] at hown
  refine ⟨hown, hp.len, fun i hi => ?_⟩
  obtain ⟨a, b, h1, h2, h3⟩ := hp.els i hi
  exact ⟨a, b, h1, h2, (h3.bel (bl_alloc (Below.refl _ _) _)).other (heap_alloc_new w _) (fun j hj hne => hg.block j hj (by intro e; cases e; exact hne rfl))⟩
theorem PX.put {g cap y n' cap' : Nat} {bd : Int} (h : PX w lo el N (.slice (some ⟨g, 0, none⟩) k cap) k xs) (hy : y < k) {A' : Option Addr} (he : El w el N (.slice A' n' cap') (.int .i64 bd)) :
    ∃ zs, PX ((w.setCell ⟨g, y * 2, none⟩ (.slice A' n' cap')).setCell ⟨g, y * 2 + 1, none⟩ (.int .i64 bd)) lo el N (.slice (some ⟨g, 0, none⟩) k cap) k zs := by
  have hlen := h.len
  rcases h.nil_or with ⟨e, hk⟩ | ⟨g0, cap0, cur, e, hh⟩
  · omega
  · cases e
    have hkeep : ∀ {a b : Value}, El w el N a b → El ((w.setCell ⟨g, y * 2, none⟩ (.slice A' n' cap')).setCell ⟨g, y * 2 + 1, none⟩ (.int .i64 bd)) el N a b := fun {a b} hE =>
      hE.other hh (fun j hj hne => (Below.heap_setCell _ ⟨g, y * 2 + 1, none⟩ _ j hne).trans (Below.heap_setCell w ⟨g, y * 2, none⟩ _ j hne))
    refine ⟨_, ((h.own.stored (y * 2) (.slice A' n' cap')).1.stored (y * 2 + 1) (.int .i64 bd)).1, by simp [hlen], fun i hi => ?_⟩
    by_cases e : i = y
    · subst e
      refine ⟨.slice A' n' cap', .int .i64 bd, ?_, ?_, hkeep he⟩
      · rw [List.getElem?_set_ne (by omega), List.getElem?_set_self (by omega)]
      · rw [List.getElem?_set_self (by simp; omega)]
    · obtain ⟨a, b, h1, h2, h3⟩ := h.els i hi
      refine ⟨a, b, ?_, ?_, hkeep h3⟩
      · rw [List.getElem?_set_ne (by omega), List.getElem?_set_ne (by omega)]; exact h1
      · rw [List.getElem?_set_ne (by omega), List.getElem?_set_ne (by omega)]; exact h2

theorem wp_appC {o : Oper} {a : Act} {K : Act → World → Prop} {Q : Exit → Act → World → Prop} (s x : Operand)
    (ho : o.op = .call { callee := .builtin .append, args := #[s, x], argTypes := #[25, 25] }) (hty : o.type = 25)
    {B0 : Nat} {v : Value} {n m cap : Nat} {ys : List Value} (hs : a.eval s = v) (hx : a.eval x = .slice A m cap)
    (hown : W.ownsRow B0 55 2 v n xs) (hsrc : SrcC W A m ys) (hm0 : A = none → m = 0) (hcap : A = none → cap = 0) (hB : B0 ≤ W.heap.size) (hn : n + m ≤ 1000000)
    (h : ∀ v' w', w'.ownsRow B0 55 2 v' (n + m) (xs ++ ys) → W.grownBy w' v.ownBlock → K (a.put o.dst v') w') :
    o.wp Try.prog a W K Q := by
  obtain ⟨v', w', hrun, h2, h3⟩ := run_appC W hown hsrc hm0 hcap hB hn
  unfold Oper.wp execOp
  simp only [ho, hty, resolve, invoke, builtin, Sem.run_bind, Sem.run_pure, Result.andThen_ok, List.map_toArray, List.map_cons, List.map_nil, hs, hx, hrun]
  exact h v' w' h2 h3
end

set_option maxRecDepth 100000 in
set_option maxHeartbeats 6400000 in
theorem mutateP_any (R K N : Nat) (A : Option Addr) (k cap lo : Nat) (xs : List Value) (w : World) (hK : K ≤ 800000) (hN : N ≤ 100) (hk : k ≤ 8) (h : Rdr w R K) (hp : PX w lo (R + 1) N (.slice A k cap) k xs) :
    Calls Try.prog 65 #[.pointer (some ⟨R, 0, none⟩), .slice A k cap] w (PDr w R (K + 40) (N + 3)) := by
  have hRw := h.lt
  have HR := Lib.hid h
  have HP := Lib.hid hp
  have HN1 := Lib.hid hp.nils
  have HBa := Lib.hid (bl_alloc (Below.refl w.heap.size w) (.cells #[] 55))
  have HOw := Lib.hid (px_lit w (R + 1) N).own
  clear h hp
  go_enter Try.func65, Try.ntmps65
  by_cases hk0 : 0 < k
  · have hkI : (0 : Int) < (k : Int) := by omega
    go_wp2_with (at_builtin; refine wpList_plain (by rfl) fun K' hK' => ?_; refine wp_appC _ _ (by rfl) (by rfl) (by rfl) (by rfl) HOw.out (HP.out.bel HBa.out).src HN1.out.2 HN1.out.1 (by simp) (by omega) ?_; intro v1 w1 hown1 hg1; have HP1 := Lib.hid (px_copy HP.out hown1 hg1); obtain ⟨A1, cap1, e1⟩ := HP1.out.shape; subst e1; have GR1 := Lib.hid ((Gr.of (R := R) HBa.out).grow (ov := .slice (some ⟨w.heap.size, 0, none⟩) 0 0) hg1 (by intro j e; cases e; exact Nat.le_refl _)); have RD1 := Lib.hid ((HR.out.bel HBa.out).grow (ov := .slice (some ⟨w.heap.size, 0, none⟩) 0 0) hg1 (by intro j e; cases e; exact hRw)); clear hown1 hg1; refine hK' _ _ ?_; clear hK' K')
    refine (pick_any R K 20 _ (by omega) RD1.out).mono ?_
    rintro e w2 ⟨x, rfl, hx0, hx1, hg, hr⟩
    have HP2 := Lib.hid (HP1.out.gr hg hRw (by omega))
    have GR2 := Lib.hid (GR1.out.trans hg)
    have RD2 := Lib.hid hr
    clear hg hr HP1 GR1 RD1
    by_cases h0 : x = 0
    · subst h0
      clear hx0 hx1
      go_wp2_with fail
      refine (pick_any R (K + 1) (k : Int) _ (by omega) RD2.out).mono ?_
      rintro e w3 ⟨yy, rfl, hy0, hy1, hg, hr⟩
      obtain ⟨y, rfl⟩ := Int.eq_ofNat_of_zero_le hy0
      have hy : y < k := by omega
      have HP3 := Lib.hid (HP2.out.gr hg hRw (by omega))
      have GR3 := Lib.hid (GR2.out.trans hg)
      have RD3 := Lib.hid hr
      clear hg hr HP2 GR2 RD2 hy0 hy1
      rcases HP3.out.nil_or with ⟨_, hkk⟩ | ⟨g, capg, cur, e, _⟩
      · exact absurd hkk (by omega)
      cases e
      obtain ⟨va, vb, hxa, hxb, An, n, capn, bd, rfl, rfl, hn, ⟨c, l, hfr⟩, hcp⟩ := HP3.out.els y hy
      have c0 : w3.cell? ⟨g, y * 2, none⟩ = some (.slice An n capn) := (HP3.out.own.cellAt (y * 2) (by omega)).trans hxa
      have c1 : w3.cell? ⟨g, y * 2 + 1, none⟩ = some (.int .i64 bd) := (HP3.out.own.cellAt (y * 2 + 1) (by omega)).trans hxb
      have HRd := Lib.hid hfr.rdAt
      have HCp := Lib.hid hcp
      have hyI : (y : Int) < (k : Int) := by omega
      clear hxa hxb hfr hcp
      go_wp2_with fail
      refine (mutate_any R (K + 1 + 1) _ _ _ _ c l _ (by omega) (by omega) RD3.out HRd.out HCp.out).mono ?_
      rintro e w4 ⟨A4, n4, cap4, bd4, rfl, hn4, hfe, hg, hr, hcp⟩
      obtain ⟨c4, l4, hfr⟩ := hfe
      have HP4 := Lib.hid (HP3.out.gr hg hRw (by omega))
      have GR4 := Lib.hid (GR3.out.trans hg)
      have RD4 := Lib.hid hr
      have HRd4 := Lib.hid hfr.rdAt
      have HCp4 := Lib.hid hcp
      clear hg hr hfr hcp HP3 GR3 RD3 HRd HCp c0 c1
      go_wp2_with fail
      refine (mutate_any R (K + 1 + 1 + 10) _ _ _ _ c4 l4 _ (by omega) (by omega) RD4.out HRd4.out HCp4.out).mono ?_
      rintro e w5 ⟨A5, n5, cap5, bd5, rfl, hn5, hfe, hg, hr, hcp⟩
      obtain ⟨c5, l5, hfr⟩ := hfe
      have HP5 := Lib.hid (HP4.out.gr hg hRw (by omega))
      have GR5 := Lib.hid (GR4.out.trans hg)
      have RD5 := Lib.hid hr
      have HRd5 := Lib.hid hfr.rdAt
      have HCp5 := Lib.hid hcp
      clear hg hr hfr hcp HP4 GR4 RD4 HRd4 HCp4
      go_wp2_with fail
      refine (mutate_any R (K + 1 + 1 + 10 + 10) _ _ _ _ c5 l5 _ (by omega) (by omega) RD5.out HRd5.out HCp5.out).mono ?_
      rintro e w6 ⟨A6, n6, cap6, bd6, rfl, hn6, hfe, hg, hr, hcp⟩
      have HE := Lib.hid (show El w6 (R + 1) (N + 3) (.slice A6 n6 cap6) (.int .i64 bd6) from ⟨A6, n6, cap6, bd6, rfl, rfl, by omega, hfe.more (by have := RD5.out.lt; omega), hcp⟩)
      have HP6 := Lib.hid ((HP5.out.gr hg hRw (by omega)).up (show N ≤ N + 3 by omega))
      have GR6 := Lib.hid (GR5.out.trans hg)
      have RD6 := Lib.hid hr
      clear hg hr hfe hcp HP5 GR5 RD5 HRd5 HCp5
      obtain ⟨zs, hps⟩ := HP6.out.put hy HE.out
      have HPs := Lib.hid hps
      obtain ⟨va, vb, hxa, hxb, _⟩ := HP6.out.els y hy
      have u0 : w6.cell? ⟨g, y * 2, none⟩ = some va := (HP6.out.own.cellAt (y * 2) (by omega)).trans hxa
      have u1 : w6.cell? ⟨g, y * 2 + 1, none⟩ = some vb := (HP6.out.own.cellAt (y * 2 + 1) (by omega)).trans hxb
      have f0 := HP6.out.own.frozenAt (y * 2)
      have f1 := HP6.out.own.frozenAt (y * 2 + 1)
      have HG := Lib.hid (show w.heap.size ≤ g from (HP6.out.lt g rfl).1)
      clear hxa hxb hps
      go_wp2
      go_ret
      exact ⟨_, k, _, zs, rfl, hk, (fun h => by cases h), (fun h => by cases h), HPs.out, (GR6.out.set (p := ⟨g, y * 2, none⟩) (.inr HG.out) _).set (p := ⟨g, y * 2 + 1, none⟩) (.inr HG.out) _, ((RD6.out.set (p := ⟨g, y * 2, none⟩) (by show R < g; have := HG.out; omega) _).set (p := ⟨g, y * 2 + 1, none⟩) (by show R < g; have := HG.out; omega) _).more (by omega)⟩
    · have hd0 : (x == 0) = false := by rw [beq_eq_false_iff_ne]; exact h0
      clear hx0 hx1 h0
      go_wp2
      go_ret
      exact ⟨_, k, _, _, rfl, hk, HP2.out.nils.1, HP2.out.nils.2, HP2.out.up (by omega), GR2.out, RD2.out.more (by omega)⟩
  · obtain rfl : k = 0 := by omega
    go_wp2_with (at_builtin; refine wpList_plain (by rfl) fun K' hK' => ?_; refine wp_appC _ _ (by rfl) (by rfl) (by rfl) (by rfl) HOw.out (HP.out.bel HBa.out).src HN1.out.2 HN1.out.1 (by simp) (by omega) ?_; intro v1 w1 hown1 hg1; have HP1 := Lib.hid (px_copy HP.out hown1 hg1); obtain ⟨A1, cap1, e1⟩ := HP1.out.shape; subst e1; have GR1 := Lib.hid ((Gr.of (R := R) HBa.out).grow (ov := .slice (some ⟨w.heap.size, 0, none⟩) 0 0) hg1 (by intro j e; cases e; exact Nat.le_refl _)); have RD1 := Lib.hid ((HR.out.bel HBa.out).grow (ov := .slice (some ⟨w.heap.size, 0, none⟩) 0 0) hg1 (by intro j e; cases e; exact hRw)); clear hown1 hg1; refine hK' _ _ ?_; clear hK' K')
    go_ret
    exact ⟨_, 0, _, _, rfl, by omega, HP1.out.nils.1, HP1.out.nils.2, HP1.out.up (by omega), GR1.out, RD1.out.more (by omega)⟩
end Go.Proofs.Ytbebdhjhlheboaa

namespace Go.Proofs.Ytbebdhjhlheboaa
open Go.ChangeShapes Go.WideShapes Go.ChangeAt Go.RowKit

theorem gr_bel' {w w1 w5 : World} {R : Nat} (hb : Below w.heap.size w w1) (hg : Gr R w1 w5) (hR : w.heap.size ≤ R) : Below w.heap.size w w5 :=
  ⟨hg.os.trans hb.os, hg.tape.trans hb.tape, hg.output.trans hb.output, Nat.le_trans hb.size hg.size, fun k hk => (hg.block k (Nat.lt_of_lt_of_le hk hb.size) (by intro e; cases e; omega)).trans (hb.block k hk)⟩
/-- Such a slice is a slice of constraints that reads. -/
theorem PX.rdp {w : World} {lo el N k cap : Nat} {A : Option Addr} {xs : List Value} (h : PX w lo el N (.slice A k cap) k xs) : ∃ p : Nat → Con, (∀ i, i < k → (p i).n ≤ N) ∧ RdP w w.heap.size A k p := by
  have hall : ∀ i, ∃ q : Con, i < k → q.n ≤ N ∧ ∃ A c, xs[i * 2]? = some (.slice A q.n c) ∧ xs[i * 2 + 1]? = some (.int .i64 q.bd) ∧ Rd w w.heap.size A q.n q.c q.l := fun i => by
    by_cases hi : i < k
    · obtain ⟨a, b, h1, h2, A, n, cap, bd, rfl, rfl, hn, ⟨c, l, hfr⟩, _⟩ := h.els i hi
      exact ⟨⟨n, bd, c, l⟩, fun _ => ⟨hn, A, cap, h1, h2, hfr.rdAt⟩⟩
    · exact ⟨⟨0, 0, fun _ => 0, fun _ => 0⟩, fun h => absurd h hi⟩
  obtain ⟨p, hp⟩ : ∃ p : Nat → Con, ∀ i, i < k → (p i).n ≤ N ∧ ∃ A c, xs[i * 2]? = some (.slice A (p i).n c) ∧ xs[i * 2 + 1]? = some (.int .i64 (p i).bd) ∧ Rd w w.heap.size A (p i).n (p i).c (p i).l := ⟨fun i => (hall i).choose, fun i => (hall i).choose_spec⟩
  refine ⟨p, fun i hi => (hp i hi).1, fun hk => ?_⟩
  rcases h.nil_or with ⟨_, h0⟩ | ⟨g, cap0, cur, e, hh⟩
  · omega
  · cases e
    have hlt : g < w.heap.size := by
      rcases Nat.lt_or_ge g w.heap.size with hlt | hge
      · exact hlt
      · rw [Array.getElem?_eq_none hge] at hh; cases hh
    refine ⟨g, 0, rfl, hlt, fun i hi => ?_⟩
    obtain ⟨_, A, c, h1, h2, h3⟩ := hp i hi
    rw [Nat.zero_add]
    exact ⟨A, c, (h.own.cellAt (i * 2) (by omega)).trans h1, (h.own.cellAt (i * 2 + 1) (by omega)).trans h2, h3⟩

/-- What the draw of a problem and values leaves. -/
def DSa (w : World) (e : Ending) (w' : World) : Prop := ∃ Al k capl xs lo el Av kv capv v, e = .returned (.tuple #[.slice Al k capl, .slice Av kv capv]) ∧ k ≤ 8 ∧ kv ≤ 12 ∧ PX w' lo el 15 (.slice Al k capl) k xs ∧ RdB w' w'.heap.size Av kv v ∧ Below w.heap.size w w'

end Go.Proofs.Ytbebdhjhlheboaa

namespace Go.Proofs.Ytbebdhjhlheboaa
open Go.ChangeShapes Go.WideShapes Go.ChangeAt Go.RowKit

/-- The cells of constraints, and what they say. -/
def PxP (w : World) (k : Nat) (p : Nat → Con) (xs : List Value) : Prop := ∀ i, i < k → ∃ A c, xs[i * 2]? = some (.slice A (p i).n c) ∧ xs[i * 2 + 1]? = some (.int .i64 (p i).bd) ∧ Rd w w.heap.size A (p i).n (p i).c (p i).l
section
variable {w w1 : World} {lo el N k m : Nat} {xs ys : List Value} {p q : Nat → Con} {ov : Value}
theorem PxP.later (h : PxP w k p xs) (hb : Below w.heap.size w w1) : PxP w1 k p xs := fun i hi => by
  obtain ⟨A, c, h1, h2, h3⟩ := h i hi
  exact ⟨A, c, h1, h2, h3.later hb⟩
theorem PX.pxp (h : PX w lo el N ov k xs) : ∃ p : Nat → Con, (∀ i, i < k → (p i).n ≤ N) ∧ PxP w k p xs := by
  have hall : ∀ i, ∃ q : Con, i < k → q.n ≤ N ∧ ∃ A c, xs[i * 2]? = some (.slice A q.n c) ∧ xs[i * 2 + 1]? = some (.int .i64 q.bd) ∧ Rd w w.heap.size A q.n q.c q.l := fun i => by
    by_cases hi : i < k
    · obtain ⟨a, b, h1, h2, A, n, cap, bd, rfl, rfl, hn, ⟨c, l, hfr⟩, _⟩ := h.els i hi
      exact ⟨⟨n, bd, c, l⟩, fun _ => ⟨hn, A, cap, h1, h2, hfr.rdAt⟩⟩
    · exact ⟨⟨0, 0, fun _ => 0, fun _ => 0⟩, fun h => absurd h hi⟩
  exact ⟨fun i => (hall i).choose, fun i hi => ((hall i).choose_spec hi).1, fun i hi => ((hall i).choose_spec hi).2⟩
theorem rdp_own {A : Option Addr} {cap : Nat} (h : w.ownsRow lo 55 2 (.slice A k cap) k xs) (hp : PxP w k p xs) : RdP w w.heap.size A k p := fun hk => by
  rcases h.2 with ⟨e, h0⟩ | ⟨g, cap0, cur, e, hg, hh, _⟩
  · omega
  · cases e
    have hlt : g < w.heap.size := by
      rcases Nat.lt_or_ge g w.heap.size with hlt | hge
      · exact hlt
      · rw [Array.getElem?_eq_none hge] at hh; cases hh
    refine ⟨g, 0, rfl, hlt, fun i hi => ?_⟩
    obtain ⟨A, c, h1, h2, h3⟩ := hp i hi
    rw [Nat.zero_add]
    exact ⟨A, c, (h.cellAt (i * 2) (by omega)).trans h1, (h.cellAt (i * 2 + 1) (by omega)).trans h2, h3⟩
/-- One behind the other. -/
def catP (k : Nat) (p q : Nat → Con) (i : Nat) : Con := if i < k then p i else q (i - k)
theorem PxP.cat (hp : PxP w k p xs) (hq : PxP w m q ys) (hl : xs.length = k * 2) : PxP w (k + m) (catP k p q) (xs ++ ys) := fun i hi => by
  unfold catP
  by_cases h : i < k
  · obtain ⟨A, c, h1, h2, h3⟩ := hp i h
    rw [if_pos h]
    exact ⟨A, c, by rw [List.getElem?_append_left (by omega)]; exact h1, by rw [List.getElem?_append_left (by omega)]; exact h2, h3⟩
  · obtain ⟨A, c, h1, h2, h3⟩ := hq (i - k) (by omega)
    rw [if_neg h]
    refine ⟨A, c, ?_, ?_, h3⟩
    · rw [List.getElem?_append_right (by omega), hl, show i * 2 - k * 2 = (i - k) * 2 by omega]; exact h1
    · rw [List.getElem?_append_right (by omega), hl, show i * 2 + 1 - k * 2 = (i - k) * 2 + 1 by omega]; exact h2
theorem allV_cat (k m : Nat) (p q : Nat → Con) : allV (catP k p q) (k + m) = (allV p k && allV q m) := by
  have h1 : ∀ j, j ≤ k → allV (catP k p q) j = allV p j := by
    intro j
    induction j with
    | zero => intro _; rfl
    | succ j ih =>
      intro hj
      unfold allV
      rw [ih (by omega), show catP k p q j = p j from if_pos (by omega)]
  induction m with
  | zero => rw [Nat.add_zero, h1 k (Nat.le_refl _)]; simp [allV]
  | succ m ih =>
    show (allV (catP k p q) (k + m) && _) = (allV p k && (allV q m && _))
    have hc : catP k p q (k.add m) = q m := by
      show catP k p q (k + m) = q m
      unfold catP
      rw [if_neg (by omega)]
      congr 1
      omega
    rw [ih, hc, Bool.and_assoc]
theorem allE_cat (k m : Nat) (p q : Nat → Con) (v : Nat → Bool) : allE (catP k p q) v (k + m) = (allE p v k && allE q v m) := by
  have h1 : ∀ j, j ≤ k → allE (catP k p q) v j = allE p v j := by
    intro j
    induction j with
    | zero => intro _; rfl
    | succ j ih =>
      intro hj
      unfold allE
      rw [ih (by omega), show catP k p q j = p j from if_pos (by omega)]
  induction m with
  | zero => rw [Nat.add_zero, h1 k (Nat.le_refl _)]; simp [allE]
  | succ m ih =>
    show (allE (catP k p q) v (k + m) && _) = (allE p v k && (allE q v m && _))
    have hc : catP k p q (k.add m) = q m := by
      show catP k p q (k + m) = q m
      unfold catP
      rw [if_neg (by omega)]
      congr 1
      omega
    rw [ih, hc, Bool.and_assoc]
/-- Problems are conjunctions. -/
theorem satB_cat {nv : Nat} {v : Nat → Bool} (hk : k + m ≤ 400) : satB (k + m) (catP k p q) nv v = (satB k p nv v && satB m q nv v) := by
  unfold satB probB
  rw [allV_cat, allE_cat, decide_eq_true (show k + m ≤ 400 from hk), decide_eq_true (show k ≤ 400 by omega), decide_eq_true (show m ≤ 400 by omega)]
  cases allV p k <;> cases allV q m <;> cases (nv == 12) <;> cases allE p v k <;> cases allE q v m <;> rfl
theorem row_shape {e : TypeId} {s n : Nat} (h : w.ownsRow lo e s ov n xs) : ∃ A cap, ov = .slice A n cap := by
  rcases h.2 with ⟨e, h0⟩ | ⟨g, cap, cur, e, _⟩
  · exact ⟨none, 0, by rw [e, h0]⟩
  · exact ⟨_, cap, e⟩
/-- An operation whose guard holds, at the list of a plain region's operations. -/
theorem wpList_want {P : Program} {ops : Array Oper} {rest : List Oper} {o : Oper} {a : Act} {w : World} {Q : Exit → Act → World → Prop} (hw : Region.wanted o (yielded ops a.tmps) = true) (h : ∀ K : Act → World → Prop, (∀ a' w', wpList P ops Q rest a' w' → K a' w') → o.wp P a w K Q) : wpList P ops Q (o :: rest) a w := by
  show (if Region.wanted o (yielded ops a.tmps) = true then _ else _)
  rw [if_pos hw]
  exact .inl (h _ fun _ _ h => h)
end
end Go.Proofs.Ytbebdhjhlheboaa

namespace Go.Proofs.Ytbebdhjhlheboaa
open Go.ChangeShapes Go.WideShapes Go.ChangeAt Go.RowKit

/-- What the draw of a hard problem leaves. -/
def PDh (w : World) (R K N : Nat) (e : Ending) (w' : World) : Prop := ∃ A k cap xs, e = .returned (.slice A k cap) ∧ k ≤ 16 ∧ (A = none → cap = 0) ∧ (A = none → k = 0) ∧ PX w' w.heap.size (R + 1) N (.slice A k cap) k xs ∧ Gr R w w' ∧ Rdr w' R K

set_option maxRecDepth 100000 in
set_option maxHeartbeats 3200000 in
theorem hard_any (R K : Nat) (w : World) (hK : K ≤ 700000) (h : Rdr w R K) :
    Calls Try.prog 66 #[.pointer (some ⟨R, 0, none⟩)] w (PDh w R (K + 4000) 12) := by
  have hRw := h.lt
  have HR := Lib.hid h
  clear h
  go_enter Try.func66, Try.ntmps66
  go_wp2_with fail
  refine (problem_any R K w (by omega) HR.out).mono ?_
  rintro e w1 ⟨A1, k1, cap1, xs1, rfl, hk1, _, _, hp, hg, hr⟩
  have HP1 := Lib.hid hp
  have GR1 := Lib.hid hg
  have RD1 := Lib.hid hr
  have hz1 : w.heap.size ≤ w1.heap.size := hg.size
  clear hp hg hr HR
  go_wp2_with fail
  refine (num_from (bl_alloc (Below.refl w1.heap.size w1) _) R (K + 1000) w1.heap.size 5 _ _ (by omega) RD1.out (by omega) (heap_alloc_new w1 _) (by rfl) (by omega) (by omega) (lit_all [2, 4, 3, 6, 0])).mono ?_
  rintro e w2 ⟨i0, rfl, hmem, hg, hr⟩
  obtain ⟨ii, rfl, hii⟩ : ∃ q : Nat, i0 = (q : Int) ∧ q ≤ 6 := by
    simp [vI] at hmem
    rcases hmem with e | e | e | e | e
    · exact ⟨2, e, by omega⟩
    · exact ⟨4, e, by omega⟩
    · exact ⟨3, e, by omega⟩
    · exact ⟨6, e, by omega⟩
    · exact ⟨0, e, by omega⟩
  have GR2 := Lib.hid (GR1.out.trans hg)
  have RD2 := Lib.hid hr
  have HP2 := Lib.hid (HP1.out.gr hg (by omega) (by omega))
  have hz2 : w.heap.size ≤ w2.heap.size := Nat.le_trans hz1 hg.size
  clear hg hr hmem GR1 RD1 HP1
  go_wp2
  go_loopw [3, 4] (fun t i wr => ∃ (j k : Nat) (xs : List Value), k + j ≤ 14 ∧ j ≤ 6 ∧ i = .int .i64 j ∧ PX wr w.heap.size (R + 1) 12 t k xs ∧ Gr R w wr ∧ Rdr wr R (K + 3000 - 200 * j)) (fun _ i _ => (intOf i).toNat)
  case atStart => exact ⟨ii, k1, _, by omega, hii, rfl, HP2.out, GR2.out, RD2.out.more (by omega)⟩
  case round =>
    obtain ⟨j, k, xs, hjk, hj6, rfl, hp, hgr, hrd⟩ := hrel
    have HP := Lib.hid hp
    have GR := Lib.hid hgr
    have RD := Lib.hid hrd
    have hsz : w.heap.size ≤ wr.heap.size := hgr.size
    clear hp hgr hrd
    cases j with
    | zero =>
      rcases HP.out.nil_or with ⟨e, hk0⟩ | ⟨g, cap0, cur, e, _⟩
      · subst e
        subst hk0
        go_wp2
        go_ret
        exact ⟨_, 0, _, _, rfl, by omega, fun _ => rfl, fun _ => rfl, HP.out, GR.out, RD.out.more (by omega)⟩
      · subst e
        go_wp2
        go_ret
        exact ⟨_, k, _, _, rfl, by omega, (HP.out.nils).1, (HP.out.nils).2, HP.out, GR.out, RD.out.more (by omega)⟩
    | succ j =>
      have hj1 : (0 : Int) < ((j + 1 : Nat) : Int) := by omega
      go_wp2_with fail
      refine (draw_any R (K + 3000 - 200 * (j + 1)) 4 _ (by omega) (by omega) RD.out).mono ?_
      rintro e w3 ⟨A', n, cap', bd, rfl, hn, hfe, hg, hr, hcp⟩
      have HP3 := Lib.hid (HP.out.gr hg hRw (by omega))
      have GR3 := Lib.hid (GR.out.trans hg)
      have RD3 := Lib.hid hr
      have HF3 := Lib.hid (hfe.more (show R + 1 ≤ _ by omega))
      have hz3 : w.heap.size ≤ w3.heap.size := GR3.out.size
      clear hfe hg hr HP GR RD
      go_upto_region 6 with fail
      have HAl := Lib.hid (bl_alloc (Below.refl w3.heap.size w3) (.cells #[.slice A' n cap', .int .i64 bd] 55))
      have hx := heap_alloc_new w3 (.cells #[.slice A' n cap', .int .i64 bd] 55)
      have hzz : (w3.alloc (.cells #[.slice A' n cap', .int .i64 bd] 55)).heap.size = w3.heap.size + 1 := World.size_alloc _ _
      generalize w3.alloc (.cells #[.slice A' n cap', .int .i64 bd] 55) = w4 at *
      obtain ⟨c5, l5, hfr⟩ := HF3.out
      have HRd := Lib.hid (hfr.rdAt.later HAl.out)
      have GQ4 := Lib.hid (Gr.of (R := R) HAl.out)
      have RD4 := Lib.hid (RD3.out.bel HAl.out)
      clear hfr RD3 HAl
      obtain ⟨X, hX⟩ : ∃ X, w3.heap.size = X := ⟨_, rfl⟩
      rw [hX] at hx hzz hz3 ⊢
      have x0 : w4.cell? ⟨X, 0, none⟩ = some (.slice A' n cap') := (cell_of_row w4 X _ _ _ _ hx).trans rfl
      have x1 : w4.cell? ⟨X, 1, none⟩ = some (.int .i64 bd) := (cell_of_row w4 X _ _ _ _ hx).trans rfl
      go_wp2_with fail
      refine (l1Total_any A' n cap' bd c5 l5 w4 (by omega) HRd.out).mono ?_
      rintro e w5 ⟨rfl, hb⟩
      have GQ5 := Lib.hid (GQ4.out.bel hb)
      have RD5 := Lib.hid (RD4.out.bel hb)
      have hx5 := (hb.block X (by omega)).trans hx
      have hz5 : X < w5.heap.size := Nat.lt_of_lt_of_le (by omega) hb.size
      clear hb hx x0 x1 GQ4 RD4 HRd
      go_wp2_with fail
      refine (pick_any R (K + 3000 - 200 * (j + 1) + 100) _ w5 (by omega) RD5.out).mono ?_
      rintro e w6 ⟨x, rfl, _, _, hg, hr⟩
      have GQ6 := Lib.hid (GQ5.out.trans hg)
      have RD6 := Lib.hid hr
      have hx6 := (hg.block X hz5 (by intro e; cases e; omega)).trans hx5
      clear hg hr hx5 GQ5 RD5 hz5
      have x0 : w6.cell? ⟨X, 0, none⟩ = some (.slice A' n cap') := (cell_of_row w6 X _ _ _ _ hx6).trans rfl
      have x1 : w6.cell? ⟨X, 1, none⟩ = some (.int .i64 bd) := (cell_of_row w6 X _ _ _ _ hx6).trans rfl
      have xf : w6.frozen? ⟨X, 1, none⟩ = false := by simp [World.frozen?, hx6]
      go_upto_region 8 with fail
      obtain ⟨b2, hb2⟩ : ∃ b2, wrap64 (totW c5 l5 n - x) = b2 := ⟨_, rfl⟩
      rw [hb2]
      have GQ7 := Lib.hid (GQ6.out.set (p := ⟨X, 1, none⟩) (.inr (by show w3.heap.size ≤ X; omega)) (.int .i64 b2))
      have RD7 := Lib.hid (RD6.out.set (p := ⟨X, 1, none⟩) (by show R < X; omega) (.int .i64 b2))
      have hx7 : (w6.setCell ⟨X, 1, none⟩ (.int .i64 b2)).heap[X]? = some (.cells #[.slice A' n cap', .int .i64 b2] 55 (0, 0)) := by simp [World.setCell, Array.getElem?_modify, hx6]
      clear x0 x1 xf hx6 GQ6 RD6
      generalize w6.setCell ⟨X, 1, none⟩ (.int .i64 b2) = w7 at *
      have x0 : w7.cell? ⟨X, 0, none⟩ = some (.slice A' n cap') := (cell_of_row w7 X _ _ _ _ hx7).trans rfl
      have x1 : w7.cell? ⟨X, 1, none⟩ = some (.int .i64 b2) := (cell_of_row w7 X _ _ _ _ hx7).trans rfl
      have HP7 := Lib.hid (HP3.out.gr GQ7.out (by omega) (by omega))
      have GR7 := Lib.hid (GR3.out.trans GQ7.out)
      have HE := Lib.hid (show El w7 (R + 1) 12 (.slice A' n cap') (.int .i64 b2) from ⟨A', n, cap', b2, rfl, rfl, by omega, HF3.out.gr GQ7.out (by omega), hcp⟩)
      have hz7 : w.heap.size ≤ w7.heap.size := GR7.out.size
      clear HF3 HP3 GR3 GQ7 hcp
      have HAl := Lib.hid (bl_alloc (Below.refl w7.heap.size w7) (.cells #[.slice A' n cap', .int .i64 b2] 55))
      go_wp2_with (at_builtin; refine wpList_plain (by rfl) fun K' hK' => ?_; refine wp_px1 _ _ (by rfl) (HP7.out.bel HAl.out) (by simp; omega) (by rfl) (by rfl) (heap_alloc_new _ _) (HE.out.bel HAl.out) (by omega) ?_; intro gg cap1 w8 zs hp4 hgr4; refine hK' _ _ ?_; clear hK' K' x0 x1)
      go_roundw
      case rel => exact ⟨j, k + 1, zs, by omega, by omega, by first | rfl | go_num | (congr 1; omega), hp4, (GR7.out.bel HAl.out).grow hgr4 (fun b e => (HP7.out.lt b e).1), ((RD7.out.bel HAl.out).grow hgr4 (fun b e => by have := (HP7.out.lt b e).1; omega)).more (by omega)⟩
      case measure => simp [intOf]; try omega
end Go.Proofs.Ytbebdhjhlheboaa

namespace Go.Proofs.Ytbebdhjhlheboaa
open Go.ChangeShapes Go.WideShapes Go.ChangeAt Go.RowKit

set_option maxRecDepth 100000 in
set_option maxHeartbeats 6400000 in
theorem mutateQ_any (R K N : Nat) (A : Option Addr) (k cap lo : Nat) (xs : List Value) (w : World) (hK : K ≤ 800000) (hN : N ≤ 100) (hk : k ≤ 16) (h : Rdr w R K) (hp : PX w lo (R + 1) N (.slice A k cap) k xs) :
    Calls Try.prog 65 #[.pointer (some ⟨R, 0, none⟩), .slice A k cap] w (PDh w R (K + 40) (N + 3)) := by
  have hRw := h.lt
  have HR := Lib.hid h
  have HP := Lib.hid hp
  have HN1 := Lib.hid hp.nils
  have HBa := Lib.hid (bl_alloc (Below.refl w.heap.size w) (.cells #[] 55))
  have HOw := Lib.hid (px_lit w (R + 1) N).own
  clear h hp
  go_enter Try.func65, Try.ntmps65
  by_cases hk0 : 0 < k
  · have hkI : (0 : Int) < (k : Int) := by omega
    go_wp2_with (at_builtin; refine wpList_plain (by rfl) fun K' hK' => ?_; refine wp_appC _ _ (by rfl) (by rfl) (by rfl) (by rfl) HOw.out (HP.out.bel HBa.out).src HN1.out.2 HN1.out.1 (by simp) (by omega) ?_; intro v1 w1 hown1 hg1; have HP1 := Lib.hid (px_copy HP.out hown1 hg1); obtain ⟨A1, cap1, e1⟩ := HP1.out.shape; subst e1; have GR1 := Lib.hid ((Gr.of (R := R) HBa.out).grow (ov := .slice (some ⟨w.heap.size, 0, none⟩) 0 0) hg1 (by intro j e; cases e; exact Nat.le_refl _)); have RD1 := Lib.hid ((HR.out.bel HBa.out).grow (ov := .slice (some ⟨w.heap.size, 0, none⟩) 0 0) hg1 (by intro j e; cases e; exact hRw)); clear hown1 hg1; refine hK' _ _ ?_; clear hK' K')
    refine (pick_any R K 20 _ (by omega) RD1.out).mono ?_
    rintro e w2 ⟨x, rfl, hx0, hx1, hg, hr⟩
    have HP2 := Lib.hid (HP1.out.gr hg hRw (by omega))
    have GR2 := Lib.hid (GR1.out.trans hg)
    have RD2 := Lib.hid hr
    clear hg hr HP1 GR1 RD1
    by_cases h0 : x = 0
    · subst h0
      clear hx0 hx1
      go_wp2_with fail
      refine (pick_any R (K + 1) (k : Int) _ (by omega) RD2.out).mono ?_
      rintro e w3 ⟨yy, rfl, hy0, hy1, hg, hr⟩
      obtain ⟨y, rfl⟩ := Int.eq_ofNat_of_zero_le hy0
      have hy : y < k := by omega
      have HP3 := Lib.hid (HP2.out.gr hg hRw (by omega))
      have GR3 := Lib.hid (GR2.out.trans hg)
      have RD3 := Lib.hid hr
      clear hg hr HP2 GR2 RD2 hy0 hy1
      rcases HP3.out.nil_or with ⟨_, hkk⟩ | ⟨g, capg, cur, e, _⟩
      · exact absurd hkk (by omega)
      cases e
      obtain ⟨va, vb, hxa, hxb, An, n, capn, bd, rfl, rfl, hn, ⟨c, l, hfr⟩, hcp⟩ := HP3.out.els y hy
      have c0 : w3.cell? ⟨g, y * 2, none⟩ = some (.slice An n capn) := (HP3.out.own.cellAt (y * 2) (by omega)).trans hxa
      have c1 : w3.cell? ⟨g, y * 2 + 1, none⟩ = some (.int .i64 bd) := (HP3.out.own.cellAt (y * 2 + 1) (by omega)).trans hxb
      have HRd := Lib.hid hfr.rdAt
      have HCp := Lib.hid hcp
      have hyI : (y : Int) < (k : Int) := by omega
      clear hxa hxb hfr hcp
      go_wp2_with fail
      refine (mutate_any R (K + 1 + 1) _ _ _ _ c l _ (by omega) (by omega) RD3.out HRd.out HCp.out).mono ?_
      rintro e w4 ⟨A4, n4, cap4, bd4, rfl, hn4, hfe, hg, hr, hcp⟩
      obtain ⟨c4, l4, hfr⟩ := hfe
      have HP4 := Lib.hid (HP3.out.gr hg hRw (by omega))
      have GR4 := Lib.hid (GR3.out.trans hg)
      have RD4 := Lib.hid hr
      have HRd4 := Lib.hid hfr.rdAt
      have HCp4 := Lib.hid hcp
      clear hg hr hfr hcp HP3 GR3 RD3 HRd HCp c0 c1
      go_wp2_with fail
      refine (mutate_any R (K + 1 + 1 + 10) _ _ _ _ c4 l4 _ (by omega) (by omega) RD4.out HRd4.out HCp4.out).mono ?_
      rintro e w5 ⟨A5, n5, cap5, bd5, rfl, hn5, hfe, hg, hr, hcp⟩
      obtain ⟨c5, l5, hfr⟩ := hfe
      have HP5 := Lib.hid (HP4.out.gr hg hRw (by omega))
      have GR5 := Lib.hid (GR4.out.trans hg)
      have RD5 := Lib.hid hr
      have HRd5 := Lib.hid hfr.rdAt
      have HCp5 := Lib.hid hcp
      clear hg hr hfr hcp HP4 GR4 RD4 HRd4 HCp4
      go_wp2_with fail
      refine (mutate_any R (K + 1 + 1 + 10 + 10) _ _ _ _ c5 l5 _ (by omega) (by omega) RD5.out HRd5.out HCp5.out).mono ?_
      rintro e w6 ⟨A6, n6, cap6, bd6, rfl, hn6, hfe, hg, hr, hcp⟩
      have HE := Lib.hid (show El w6 (R + 1) (N + 3) (.slice A6 n6 cap6) (.int .i64 bd6) from ⟨A6, n6, cap6, bd6, rfl, rfl, by omega, hfe.more (by have := RD5.out.lt; omega), hcp⟩)
      have HP6 := Lib.hid ((HP5.out.gr hg hRw (by omega)).up (show N ≤ N + 3 by omega))
      have GR6 := Lib.hid (GR5.out.trans hg)
      have RD6 := Lib.hid hr
      clear hg hr hfe hcp HP5 GR5 RD5 HRd5 HCp5
      obtain ⟨zs, hps⟩ := HP6.out.put hy HE.out
      have HPs := Lib.hid hps
      obtain ⟨va, vb, hxa, hxb, _⟩ := HP6.out.els y hy
      have u0 : w6.cell? ⟨g, y * 2, none⟩ = some va := (HP6.out.own.cellAt (y * 2) (by omega)).trans hxa
      have u1 : w6.cell? ⟨g, y * 2 + 1, none⟩ = some vb := (HP6.out.own.cellAt (y * 2 + 1) (by omega)).trans hxb
      have f0 := HP6.out.own.frozenAt (y * 2)
      have f1 := HP6.out.own.frozenAt (y * 2 + 1)
      have HG := Lib.hid (show w.heap.size ≤ g from (HP6.out.lt g rfl).1)
      clear hxa hxb hps
      go_wp2
      go_ret
      exact ⟨_, k, _, zs, rfl, hk, (fun h => by cases h), (fun h => by cases h), HPs.out, (GR6.out.set (p := ⟨g, y * 2, none⟩) (.inr HG.out) _).set (p := ⟨g, y * 2 + 1, none⟩) (.inr HG.out) _, ((RD6.out.set (p := ⟨g, y * 2, none⟩) (by show R < g; have := HG.out; omega) _).set (p := ⟨g, y * 2 + 1, none⟩) (by show R < g; have := HG.out; omega) _).more (by omega)⟩
    · have hd0 : (x == 0) = false := by rw [beq_eq_false_iff_ne]; exact h0
      clear hx0 hx1 h0
      go_wp2
      go_ret
      exact ⟨_, k, _, _, rfl, hk, HP2.out.nils.1, HP2.out.nils.2, HP2.out.up (by omega), GR2.out, RD2.out.more (by omega)⟩
  · obtain rfl : k = 0 := by omega
    go_wp2_with (at_builtin; refine wpList_plain (by rfl) fun K' hK' => ?_; refine wp_appC _ _ (by rfl) (by rfl) (by rfl) (by rfl) HOw.out (HP.out.bel HBa.out).src HN1.out.2 HN1.out.1 (by simp) (by omega) ?_; intro v1 w1 hown1 hg1; have HP1 := Lib.hid (px_copy HP.out hown1 hg1); obtain ⟨A1, cap1, e1⟩ := HP1.out.shape; subst e1; have GR1 := Lib.hid ((Gr.of (R := R) HBa.out).grow (ov := .slice (some ⟨w.heap.size, 0, none⟩) 0 0) hg1 (by intro j e; cases e; exact Nat.le_refl _)); have RD1 := Lib.hid ((HR.out.bel HBa.out).grow (ov := .slice (some ⟨w.heap.size, 0, none⟩) 0 0) hg1 (by intro j e; cases e; exact hRw)); clear hown1 hg1; refine hK' _ _ ?_; clear hK' K')
    go_ret
    exact ⟨_, 0, _, _, rfl, by omega, HP1.out.nils.1, HP1.out.nils.2, HP1.out.up (by omega), GR1.out, RD1.out.more (by omega)⟩
end Go.Proofs.Ytbebdhjhlheboaa

namespace Go.Proofs.Ytbebdhjhlheboaa
open Go.ChangeShapes Go.WideShapes Go.ChangeAt Go.RowKit

/-- A drawn slice of constraints, as it reads; lists without a block have no room. -/
theorem PX.rdpc {w : World} {lo el N k cap : Nat} {A : Option Addr} {xs : List Value} (h : PX w lo el N (.slice A k cap) k xs) : ∃ p : Nat → Con, (∀ i, i < k → (p i).n ≤ N) ∧ RdPc w w.heap.size A k p := by
  have hall : ∀ i, ∃ q : Con, i < k → q.n ≤ N ∧ ∃ A c, xs[i * 2]? = some (.slice A q.n c) ∧ xs[i * 2 + 1]? = some (.int .i64 q.bd) ∧ Rd w w.heap.size A q.n q.c q.l ∧ (A = none → c = 0) := fun i => by
    by_cases hi : i < k
    · obtain ⟨a, b, h1, h2, A, n, cap, bd, rfl, rfl, hn, ⟨c, l, hfr⟩, hcp⟩ := h.els i hi
      exact ⟨⟨n, bd, c, l⟩, fun _ => ⟨hn, A, cap, h1, h2, hfr.rdAt, hcp.1⟩⟩
    · exact ⟨⟨0, 0, fun _ => 0, fun _ => 0⟩, fun h => absurd h hi⟩
  refine ⟨fun i => (hall i).choose, fun i hi => ((hall i).choose_spec hi).1, fun hk => ?_⟩
  rcases h.own.2 with ⟨e, h0⟩ | ⟨g, cap0, cur, e, hg, hh, _⟩
  · omega
  · cases e
    refine ⟨g, 0, rfl, ?_, fun i hi => ?_⟩
    · rcases Nat.lt_or_ge g w.heap.size with hlt | hge
      · exact hlt
      · rw [Array.getElem?_eq_none hge] at hh; cases hh
    · obtain ⟨_, A, c, h1, h2, h3, h4⟩ := (hall i).choose_spec hi
      rw [Nat.zero_add]
      exact ⟨A, c, (h.own.cellAt (i * 2) (by omega)).trans h1, (h.own.cellAt (i * 2 + 1) (by omega)).trans h2, h3, h4⟩

/-- What the draw of a problem and a cube leaves. -/
def DCp (w : World) (e : Ending) (w' : World) : Prop := ∃ Al kl capl p A k cap c, e = .returned (.tuple #[.slice Al kl capl, .slice A k cap]) ∧ kl ≤ 16 ∧ (∀ i, i < kl → (p i).n ≤ 15) ∧ k ≤ 5 ∧ RdPc w' w'.heap.size Al kl p ∧ RdI w' w'.heap.size A k c ∧ Below w.heap.size w w'

end Go.Proofs.Ytbebdhjhlheboaa

