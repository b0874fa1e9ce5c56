/- Slices of bytes and the reader of the draws (no claim of its own). Conditions: as each theorem states. -/
import Derived.Test.YtckaeaclclhapaaIntR
import Derived.Test.YtckaeaclclhapaaOutA
import Derived.Deep.Slices
import Derived.Carry
import Derived.ProofKit
import Derived.Laws.BitsAllLaws
namespace Go.Proofs.Ytckaeaclclhapaa
open Go.ChangeShapes Go.WideShapes Go.ChangeAt Go.RowKit
open Go.Deep

/-- A slice of bytes: element i is y i. -/
def RdY (w : World) (B : Nat) (A : Option Addr) (n : Nat) (y : Nat → Int) : Prop :=
  0 < n → ∃ b off, A = some ⟨b, off, none⟩ ∧ b < B ∧ ∀ i, i < n → w.cell? ⟨b, off + i, none⟩ = some (.int .u8 (y i)) ∧ 0 ≤ y i ∧ y i ≤ 255
theorem RdY.more {w : World} {B B' : Nat} {A : Option Addr} {n : Nat} {y : Nat → Int} (h : RdY w B A n y) (hB : B ≤ B') : RdY w B' A n y := fun hn => by
  obtain ⟨b, off, e, hlt, hc⟩ := h hn
  exact ⟨b, off, e, by omega, hc⟩
theorem RdY.below {w w' : World} {B : Nat} {A : Option Addr} {n : Nat} {y : Nat → Int} (h : RdY w B A n y) (hb : Below B w w') : RdY w' B A n y := fun hn => by
  obtain ⟨b, off, e, hlt, hc⟩ := h hn
  exact ⟨b, off, e, hlt, fun i hi => ⟨(hb.cell (p := ⟨b, _, none⟩) hlt).trans (hc i hi).1, (hc i hi).2⟩⟩
theorem RdY.later {w w' : World} {A : Option Addr} {n : Nat} {y : Nat → Int} (h : RdY w w.heap.size A n y) (hb : Below w.heap.size w w') : RdY w' w'.heap.size A n y := (h.below hb).more hb.size

section
variable {H : Type} {enc : TypeId × Value → H} {W : World} {spare : Nat → Bool} {held : Bool}
theorem open_byteS {fuel : Nat} {u : Value} {x : DataW H × List MemPlace} (h : DataW.trod enc Try.prog W 0 spare held fuel 22 [u] = some x) (hs : ∀ b, spare b = true) :
    ∃ (A : Option Addr) (n cap : Nat) (v : Nat → Int), u = .slice A n cap ∧ n ≤ maxLen ∧ n ≤ cap ∧ RdY W W.heap.size A n v := by
  rcases open_slice1 Try.underlying22 (by kernel_rfl) h with ⟨hcs, _⟩ | ⟨a, len, cap, m, fu, V, D, Pl, hcs, _, hl, hm, hmm, _, hi⟩
  · simp at hcs
    exact ⟨none, 0, 0, fun _ => 0, hcs, by unfold maxLen; omega, Nat.le_refl _, fun h => absurd h (by omega)⟩
  · simp at hcs
    rw [hs, if_pos rfl] at hmm
    refine ⟨some a, len, cap, fun i => intOf (V i), hcs, Nat.le_trans hl hm, hl, fun hp => ?_⟩
    obtain ⟨b, off, spot⟩ := a
    have h0 := hi 0 (by omega)
    have hspot : spot = none := by simpa [Addr.add] using World.cell?_spot h0.1
    subst hspot
    refine ⟨b, off, rfl, ?_, fun i hin => ?_⟩
    · exact World.block_lt_of_cell? W _ (by simpa [Addr.add] using h0.1)
    · obtain ⟨g0, t0⟩ := hi i (by omega)
      obtain ⟨x0, e0, _, hwf⟩ := DataW.trod_int Try.underlying5 t0
      simp at e0
      rw [Go.WideShapes.add_plain] at g0
      refine ⟨g0.trans ?_, ?_⟩
      · show some (V i) = some (.int .u8 (intOf (V i)))
        rw [e0]
        rfl
      · show 0 ≤ intOf (V i) ∧ intOf (V i) ≤ 255
        rw [e0]
        simp only [Lit.wf, Bool.and_eq_true, decide_eq_true_eq] at hwf
        have h0 : IntKind.u8.min = 0 := by decide
        have h1 : IntKind.u8.max = 255 := by decide
        show 0 ≤ x0 ∧ x0 ≤ 255
        omega
end

/-- What existed stays, but for the block R. -/
def Gr (R : Nat) (w w' : World) : Prop := w.grownBy w' (some R)
section
variable {w w1 w2 wr wq W : World} {R K lo k n : Nat} {ov : Value}
theorem Gr.refl (R : Nat) (w : World) : Gr R w w := ⟨rfl, rfl, rfl, Nat.le_refl _, fun _ _ _ => rfl⟩
theorem Gr.trans (h : Gr R w w1) (h' : Gr R w1 w2) : Gr R w w2 :=
  ⟨h'.os.trans h.os, h'.tape.trans h.tape, h'.output.trans h.output, Nat.le_trans h.size h'.size, fun k hk hne => (h'.block k (Nat.lt_of_lt_of_le hk h.size) hne).trans (h.block k hk hne)⟩
theorem Gr.bel (h : Gr R w w1) (hb : Below w1.heap.size w1 w2) : Gr R w w2 :=
  ⟨hb.os.trans h.os, hb.tape.trans h.tape, hb.output.trans h.output, Nat.le_trans h.size hb.size, fun k hk hne => (hb.block k (Nat.lt_of_lt_of_le hk h.size)).trans (h.block k hk hne)⟩
theorem Gr.of (hb : Below w.heap.size w w1) : Gr R w w1 := (Gr.refl R w).bel hb
theorem Gr.set (h : Gr R w w1) {p : Addr} (hp : p.block = R ∨ w.heap.size ≤ p.block) (u : Value) : Gr R w (w1.setCell p u) :=
  ⟨h.os, h.tape, h.output, by simpa [World.setCell] using h.size, fun k hk hne => (Below.heap_setCell w1 p u k (by
    rcases hp with rfl | hp
    · intro e; exact hne (by rw [e])
    · omega)).trans (h.block k hk hne)⟩
theorem Gr.grow (h : Gr R w w1) (hg : w1.grownBy w2 ov.ownBlock) (hw : ∀ j, ov.ownBlock = some j → w.heap.size ≤ j) : Gr R w w2 :=
  ⟨hg.os.trans h.os, hg.tape.trans h.tape, hg.output.trans h.output, Nat.le_trans h.size hg.size, fun k hk hne => (hg.block k (Nat.lt_of_lt_of_le hk h.size) (fun e => by have := hw k e.symm; omega)).trans (h.block k hk hne)⟩
theorem Gr.cel (h : Gr R w w1) {j o : Nat} {v : Value} (hc : Cel w j o v) (hne : j ≠ R) : Cel w1 j o v :=
  ⟨(World.cell?_of_block (h.block j (World.block_lt_of_cell? w ⟨j, o, none⟩ hc.1) (by intro e; cases e; exact hne rfl))).trans hc.1,
   (World.frozen?_of_block (a := ⟨j, o, none⟩) (h.block j (World.block_lt_of_cell? w ⟨j, o, none⟩ hc.1) (by intro e; cases e; exact hne rfl))).trans hc.2⟩
theorem Gr.below (h : Gr R w w1) : Below R w w1 ∨ w.heap.size < R := by
  rcases Nat.lt_or_ge w.heap.size R with hlt | hge
  · exact .inr hlt
  · exact .inl ⟨h.os, h.tape, h.output, h.size, fun k hk => h.block k (by omega) (by intro e; cases e; omega)⟩

/-- The reader of a draw: its bytes lie below it; it has been asked at most K times. -/
def Rdr (w : World) (R K : Nat) : Prop := ∃ A nb cap p y, Cel w R 0 (.slice A nb cap) ∧ Cel w R 1 (.int .i64 (p : Nat)) ∧ p ≤ K ∧ nb ≤ 2000 ∧ RdY w R A nb y
theorem Rdr.lt (h : Rdr w R K) : R < w.heap.size := by
  obtain ⟨A, nb, cap, p, y, h0, _⟩ := h
  exact World.block_lt_of_cell? w ⟨R, 0, none⟩ h0.1
theorem Rdr.at_ (h : Rdr w R K) (hb : ∀ j, j ≤ R → w1.heap[j]? = w.heap[j]?) : Rdr w1 R K := by
  obtain ⟨A, nb, cap, p, y, h0, h1, h2, h3, h4⟩ := h
  refine ⟨A, nb, cap, p, y, ⟨(World.cell?_of_block (a := ⟨R, 0, none⟩) (hb R (Nat.le_refl _))).trans h0.1, (World.frozen?_of_block (a := ⟨R, 0, none⟩) (hb R (Nat.le_refl _))).trans h0.2⟩, ⟨(World.cell?_of_block (a := ⟨R, 1, none⟩) (hb R (Nat.le_refl _))).trans h1.1, (World.frozen?_of_block (a := ⟨R, 1, none⟩) (hb R (Nat.le_refl _))).trans h1.2⟩, h2, h3, fun hn => ?_⟩
  obtain ⟨b, off, e, hlt, hc⟩ := h4 hn
  exact ⟨b, off, e, hlt, fun i hi => ⟨(World.cell?_of_block (a := ⟨b, off + i, none⟩) (hb b (by omega))).trans (hc i hi).1, (hc i hi).2⟩⟩
theorem Rdr.bel (h : Rdr w R K) (hb : Below w.heap.size w w1) : Rdr w1 R K := h.at_ fun j hj => hb.block j (by have := h.lt; omega)
theorem Rdr.set (h : Rdr w R K) {p : Addr} (hp : R < p.block) (u : Value) : Rdr (w.setCell p u) R K := h.at_ fun j hj => Below.heap_setCell w p u j (by omega)
theorem Rdr.grow (h : Rdr w R K) (hg : w.grownBy w1 ov.ownBlock) (hw : ∀ j, ov.ownBlock = some j → R < j) : Rdr w1 R K := h.at_ fun j hj => hg.block j (by have := h.lt; omega) (fun e => by have := hw j e.symm; omega)
theorem Rdr.more {K' : Nat} (h : Rdr w R K) (hK : K ≤ K') : Rdr w R K' := by
  obtain ⟨A, nb, cap, p, y, h0, h1, h2, h3, h4⟩ := h
  exact ⟨A, nb, cap, p, y, h0, h1, by omega, h3, h4⟩

/-- A slice of k elements of s cells each, all of them ints, that the draw has made in a block from lo on. -/
def TS (w : World) (lo : Nat) (T : TypeId) (s : Nat) (ov : Value) (k : Nat) : Prop := ∃ xs : List Value, w.ownsRow lo T s ov k xs ∧ xs.length = k * s ∧ ∀ u ∈ xs, ∃ z, u = .int .i64 z
variable {T : TypeId} {s : Nat}
theorem TS.nil (w : World) (lo : Nat) (T : TypeId) (s : Nat) : TS w lo T s (.slice none 0 0) 0 := ⟨[], World.ownsRow_nil _ _ _ _, by simp, fun u hu => by cases hu⟩
theorem TS.bel (h : TS w lo T s ov k) (hb : Below w.heap.size w w1) : TS w1 lo T s ov k := by
  obtain ⟨xs, h0, h1, h2⟩ := h
  exact ⟨xs, row_below' h0 hb, h1, h2⟩
theorem TS.gr (h : TS w lo T s ov k) (hg : Gr R w w1) (hR : R < lo) : TS w1 lo T s ov k := by
  obtain ⟨xs, h0, h1, h2⟩ := h
  refine ⟨xs, h0.kept hg ?_, h1, h2⟩
  cases e : ov.ownBlock with
  | none => exact .inl rfl
  | some j =>
    right
    intro e'
    cases e'
    have := (h0.lt _ e).1
    omega
theorem TS.set_ (h : TS w lo T s ov k) {p : Addr} (hp : p.block < lo) (u : Value) : TS (w.setCell p u) lo T s ov k := by
  obtain ⟨xs, h0, h1, h2⟩ := h
  exact ⟨xs, ownsRow_setCell_below h0 hp _, h1, h2⟩
theorem TS.lt (h : TS w lo T s ov k) : ∀ j, ov.ownBlock = some j → lo ≤ j := fun j e => by
  obtain ⟨xs, h0, h1, h2⟩ := h
  exact (h0.lt j e).1
/-- Such a slice is a slice of terms that reads. -/
theorem TS.terms (h : TS w lo 56 2 ov k) : ∃ A cap c l, ov = .slice A k cap ∧ Frs w lo A k c l ∧ (A = none → cap = 0) := by
  obtain ⟨xs, h0, h1, h2⟩ := h
  rcases h0.2 with ⟨hov, hk⟩ | ⟨g, cap, cur, hov, hg, hh, hnc, _, hsz, htk⟩
  · subst hk
    exact ⟨none, 0, fun _ => 0, fun _ => 0, hov, .inl rfl, fun _ => rfl⟩
  · refine ⟨_, cap, fun i => intOf (xs.getD (i * 2) undef), fun i => intOf (xs.getD (i * 2 + 1) undef), hov, .inr ⟨g, rfl, hg, cur, hh, by omega, fun i hi => ?_⟩, fun h => by cases h⟩
    have key : ∀ j, j < k * 2 → cur[j]? = some (.int .i64 (intOf (xs.getD j undef))) := fun j hj => by
      have hx : xs[j]? = some (xs[j]'(by omega)) := List.getElem?_eq_getElem (by omega)
      obtain ⟨z, hz⟩ := h2 (xs[j]'(by omega)) (List.getElem_mem _)
      have hd : xs.getD j undef = .int .i64 z := by rw [List.getD_eq_getElem?_getD, hx, hz]; rfl
      rw [hd]
      have hx' := hx
      rw [hz, ← htk, List.getElem?_take_of_lt (by omega)] at hx'
      have h3 : cur[j]? = some (.int .i64 z) := by simpa using hx'
      exact h3
    exact ⟨key _ (by omega), key _ (by omega)⟩
/-- Such a slice is a slice of ints that reads. -/
theorem TS.ints (h : TS w lo T 1 ov k) : ∃ A cap v, ov = .slice A k cap ∧ FrI w lo T A k v := by
  obtain ⟨xs, h0, h1, h2⟩ := h
  rcases h0.2 with ⟨hov, hk⟩ | ⟨g, cap, cur, hov, hg, hh, hnc, _, hsz, htk⟩
  · subst hk
    exact ⟨none, 0, fun _ => 0, hov, .inl rfl⟩
  · refine ⟨_, cap, fun i => intOf (xs.getD i undef), hov, .inr ⟨g, rfl, hg, cur, hh, by omega, fun i hi => ?_⟩⟩
    have hx : xs[i]? = some (xs[i]'(by omega)) := List.getElem?_eq_getElem (by omega)
    obtain ⟨z, hz⟩ := h2 (xs[i]'(by omega)) (List.getElem_mem _)
    have hd : xs.getD i undef = .int .i64 z := by rw [List.getD_eq_getElem?_getD, hx, hz]; rfl
    show cur[i]? = some (.int .i64 (intOf (xs.getD i undef)))
    rw [hd]
    rw [hz, ← htk, List.getElem?_take_of_lt (by omega)] at hx
    have h3 : cur[i]? = some (.int .i64 z) := by simpa using hx
    exact h3
end
end Go.Proofs.Ytckaeaclclhapaa
