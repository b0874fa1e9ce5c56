/- What the walks of the laws over models share (no claim of its own). Conditions: as each theorem states. · The marking of a model that a call has made (no claim of its own). Conditions: as each theorem states. · Rows of Booleans that a call makes: marked, asked (no claim of its own). Conditions: as each theorem states. · What the walks of the laws over models with a slice and a Boolean as answer share (no claim of its own). Conditions: as each theorem states. · RuleHolds: what it says (no claim of its own). Conditions: as each theorem states. · RuleHolds: the reference's side (no claim of its own). Conditions: as each theorem states. · The values of cells as an array (no claim of its own). Conditions: as each theorem states. · The values of some cells out of the array (no claim of its own). Conditions: as each theorem states. · RuleHolds: the program's side, the kinds of rules (no claim of its own). Conditions: as each theorem states. · RuleHolds: the program's side, tables; all kinds (no claim of its own). Conditions: as each theorem states. · RuleHolds, SolvesModel: what they say (no claim of its own). Conditions: as each theorem states. · A method value's test for nil (no claim of its own). Conditions: as each theorem states. · RuleHolds, SolvesModel: the reference's side (no claim of its own). Conditions: as each theorem states. · RuleHolds, SolvesModel: the program's side (no claim of its own). Conditions: as each theorem states. · RuleHolds, SolvesModel: the program's side, whole (no claim of its own). Conditions: as each theorem states. · EncodeCells: what it says; the reference's side (no claim of its own). Conditions: as each theorem states. · EncodeCells: the program's side (no claim of its own). Conditions: as each theorem states. · DecodeValues: what it says (no claim of its own). Conditions: as each theorem states. · DecodeValues: the reference's side (no claim of its own). Conditions: as each theorem states. · DecodeValues: the program's side, slices.Index and Contains of Booleans (no claim of its own). Conditions: as each theorem states. · DecodeValues: the program's side (no claim of its own). Conditions: as each theorem states. · EncodeCells, with the room of its answer (no claim of its own). Conditions: as each theorem states. · BoolVar, FreeVars: the program's side, whole (no claim of its own). Conditions: as each theorem states. · Decoding and encoding: what one makes of the other (no claim of its own). Conditions: as each theorem states. · Equal slices of ints compare equal in the laws (no claim of its own). Conditions: as each theorem states. · The draw of values (no claim of its own). Conditions: as each theorem states. · A region that draws its order, operation by operation; edges that do not bind may point ahead (no claim of its own). Conditions: as each theorem states. · DrawDecodeValues (no claim of its own). Conditions: as each theorem states. · The walk of the law FnDecodeValues (no claim of its own). Conditions: as each theorem states. -/
import Derived.Test.YtafiikfaeomhpaaMdlE
import Derived.Test.YtafiikfaeomhpaaIntA
import Derived.Test.YtafiikfaeomhpaaMrkR
import Derived.Test.YtafiikfaeomhpaaBoolA
import Derived.Test.YtafiikfaeomhpaaIntR
import Derived.Deep.AppendLies
import Derived.Test.YtafiikfaeomhpaaBviA
import Derived.Laws.CopyOwn
import Derived.Test.YtafiikfaeomhpaaBaseC
import Derived.Test.YtafiikfaeomhpaaDmJ
import Derived.Test.YtafiikfaeomhpaaRgA
import Derived.Deep.QuietTactic
namespace Go.Proofs.Ytafiikfaeomhpaa
open Go.ChangeShapes Go.WideShapes Go.ChangeAt Go.RowKit

theorem fit_all {n : Nat} {q : Nat → Rul} {m : Nat} (h : totR q n ≤ m) : ∀ i, i < n → (q i).fit m := fun i hi => Rul.fit_of (by have := totR_at q hi; omega)
end Go.Proofs.Ytafiikfaeomhpaa

namespace Go.Proofs.Ytafiikfaeomhpaa
open Go.ChangeShapes Go.WideShapes Go.ChangeAt Go.RowKit

/-- Blocks of cells of other types than int lie as they did. -/
def IntOnly (w w' : World) : Prop := ∀ (k : Nat) (cs : Array Value) (T : TypeId) (fr : Nat × Nat), w.heap[k]? = some (.cells cs T fr) → T ≠ 3 → w'.heap[k]? = w.heap[k]?
section
variable {w w' w1 : World} {lo hi G n : Nat} {T : TypeId}
theorem IntOnly.refl (w : World) : IntOnly w w := fun _ _ _ _ _ _ => rfl
theorem IntOnly.trans (h : IntOnly w w1) (k : IntOnly w1 w') : IntOnly w w' := fun j cs T fr hj hT => by
  have h1 := h j cs T fr hj hT
  exact (k j cs T fr (h1.trans hj) hT).trans h1
theorem IntOnly.set_ (h : IntOnly w w1) {m : Nat} (hr : Room w G 3 m) (o : Nat) (u : Value) : IntOnly w (w1.setCell ⟨G, o, none⟩ u) := fun j cs T fr hj hT => by
  refine (Below.heap_setCell w1 ⟨G, o, none⟩ u j (fun e => ?_)).trans (h j cs T fr hj hT)
  obtain ⟨ds, hd, _⟩ := hr
  have e' : j = G := e
  subst e'
  rw [hd] at hj
  injection hj with hj
  injection hj with _ h2 _
  exact hT h2.symm

set_option maxRecDepth 100000 in
set_option maxHeartbeats 800000 in
/-- The marking of ints, of which the room alone is known. -/
theorem markIntS_room (n cap : Nat) (k : Int) (w : World) (hn : n ≤ 1048576) (hk0 : 0 ≤ k) (hk1 : k ≤ 1099511627776) (hlo : lo ≤ G) (hhi : G < hi) (ho : Room w G 3 n) :
    Calls Try.prog 19 #[.slice (some ⟨G, 0, none⟩) n cap, .int .i64 k] w fun e w' => e = .returned (.int .i64 (k + n)) ∧ OnlyR lo hi w w' ∧ Shp w w' ∧ IntOnly w w' := by
  have hz := Lib.hid ho
  clear ho
  go_enter Try.func19, Try.ntmps19
  go_wp2
  go_loopw [1, 5] (fun t i wr => ∃ j : Nat, j ≤ n ∧ i = .int .i64 j ∧ t = .int .i64 (k + j) ∧ OnlyR lo hi w wr ∧ Shp w wr ∧ IntOnly w wr) (fun _ i _ => n - (intOf i).toNat)
  case atStart => exact ⟨0, Nat.zero_le _, rfl, by simp, OnlyR.refl _ _ _, Shp.refl _, IntOnly.refl _⟩
  case round =>
    obtain ⟨j, hj, rfl, rfl, hon, hsh, hio⟩ := hrel
    by_cases hlt : j < n
    · have hrm := hz.out.shp hsh
      obtain ⟨y1, hy1⟩ := hrm.cell (j := j) (by omega)
      have hf1 := hrm.frozen j
      have Hsh := Lib.hid hsh
      have Hio := Lib.hid hio
      clear hrm hsh hio
      go_wp2
      go_roundw
      case rel => exact ⟨j + 1, by omega, by go_num, add1 k j, hon.set_ hlo hhi _ _, Hsh.out.set_ _ _ _, Hio.out.set_ hz.out _ _⟩
      case measure => simp [intOf]; omega
    · have e : j = n := by omega
      subst e
      go_wp2
      go_ret
      exact ⟨rfl, hon, hsh, hio⟩
end

/-- The heads of a row of lists that lies in block G: each leads to room for its numbers, in a block of the range. -/
def HdL (w : World) (lo hi G n : Nat) (r : Nat → Lst) : Prop :=
  ∃ cs : Array Value, w.heap[G]? = some (.cells cs 22 (0, 0)) ∧ n ≤ cs.size ∧ ∀ i, i < n → ∃ g ci, cs[i]? = some (.slice (some ⟨g, 0, none⟩) (r i).n ci) ∧ lo ≤ g ∧ g < hi ∧ Room w g 3 (r i).n
theorem HdL.keep {w w' : World} {lo hi G n : Nat} {r : Nat → Lst} (h : HdL w lo hi G n r) (hg : w'.heap[G]? = w.heap[G]?) (hs : Shp w w') : HdL w' lo hi G n r := by
  obtain ⟨cs, h1, h2, h3⟩ := h
  refine ⟨cs, hg.trans h1, h2, fun i hi => ?_⟩
  obtain ⟨g, ci, a, b, c, d⟩ := h3 i hi
  exact ⟨g, ci, a, b, c, d.shp hs⟩
theorem HdL.ints {w w' : World} {lo hi G n : Nat} {r : Nat → Lst} (h : HdL w lo hi G n r) (hi' : IntOnly w w') (hs : Shp w w') : HdL w' lo hi G n r := by
  obtain ⟨cs, h1, _⟩ := id h
  exact h.keep (hi' G cs _ _ h1 (by decide)) hs

set_option maxRecDepth 100000 in
set_option maxHeartbeats 1600000 in
theorem markIntSS_any (lo hi G n cap : Nat) (r : Nat → Lst) (k : Int) (w : World) (hn : n + totL r n ≤ 1048576) (hk0 : 0 ≤ k) (hk1 : k ≤ 16777216) (ho : HdL w lo hi G n r) :
    Calls Try.prog 82 #[.slice (some ⟨G, 0, none⟩) n cap, .int .i64 k] w fun e w' => e = .returned (.int .i64 (k + totL r n)) ∧ OnlyR lo hi w w' ∧ Shp w w' ∧ IntOnly w w' := by
  have hz := Lib.hid ho
  clear ho
  go_enter Try.func82, Try.ntmps82
  go_wp2
  go_loopw [1, 5] (fun t i wr => ∃ j : Nat, j ≤ n ∧ i = .int .i64 j ∧ t = .int .i64 (k + totL r j) ∧ OnlyR lo hi w wr ∧ Shp w wr ∧ IntOnly w wr) (fun _ i _ => n - (intOf i).toNat)
  case atStart => exact ⟨0, Nat.zero_le _, rfl, by simp [totL], OnlyR.refl _ _ _, Shp.refl _, IntOnly.refl _⟩
  case round =>
    obtain ⟨j, hj, rfl, rfl, hon, hsh, hio⟩ := hrel
    have Hon := Lib.hid hon
    have Hsh := Lib.hid hsh
    have Hio := Lib.hid hio
    by_cases hlt : j < n
    · have ht := totL_at r hlt
      obtain ⟨cs, c1, c2, c3⟩ := hz.out.ints hio hsh
      obtain ⟨g, ci, a, b, c, d⟩ := c3 j hlt
      have hx1 : wr.cell? ⟨G, j, none⟩ = some (.slice (some ⟨g, 0, none⟩) (r j).n ci) := (cell_of_row wr G _ cs _ _ c1).trans a
      have HD := Lib.hid d
      have hlt' : (j : Int) < (n : Int) := by omega
      have hj0 : (0 : Int) ≤ (j : Int) := by omega
      clear c3 c1 c2 a hon hsh hio d
      go_wp2_with fail
      refine (markIntS_room (lo := lo) (hi := hi) _ _ _ _ (by omega) (by omega) (by omega) b c HD.out).mono ?_
      rintro e w1 ⟨rfl, h1, h2, h3⟩
      have H1 := Lib.hid (Hon.out.trans h1)
      have H2 := Lib.hid (Hsh.out.trans h2)
      have H3 := Lib.hid (Hio.out.trans h3)
      have HN := Lib.hid (show Value.int .i64 (k + (totL r j : Int) + ((r j).n : Int)) = .int .i64 (k + ((totL r (j + 1) : Nat) : Int)) from by
        congr 1
        show _ = k + ((totL r j + (r j).n : Nat) : Int)
        omega)
      clear h1 h2 h3 HD hx1
      go_wp2
      go_roundw
      case rel => exact ⟨j + 1, by omega, by go_num, HN.out, H1.out, H2.out, H3.out⟩
      case measure => simp [intOf]; omega
    · have e : j = n := by omega
      subst e
      go_wp2
      go_ret
      exact ⟨rfl, hon, hsh, hio⟩

/-- The heads of a row of rules that lies in block G. -/
def HdR (w : World) (lo hi G n : Nat) (q : Nat → Rul) : Prop :=
  ∃ cs : Array Value, w.heap[G]? = some (.cells cs 90 (0, 0)) ∧ n * 5 ≤ cs.size ∧
    ∀ i, i < n → ∃ gv cv gc cc gr cr, cs[i * 5 + 1]? = some (.slice (some ⟨gv, 0, none⟩) (q i).v.n cv) ∧ cs[i * 5 + 2]? = some (.slice (some ⟨gc, 0, none⟩) (q i).c.n cc) ∧ cs[i * 5 + 4]? = some (.slice (some ⟨gr, 0, none⟩) (q i).n cr) ∧
      (lo ≤ gv ∧ gv < hi ∧ Room w gv 3 (q i).v.n) ∧ (lo ≤ gc ∧ gc < hi ∧ Room w gc 3 (q i).c.n) ∧ HdL w lo hi gr (q i).n (q i).r
section
variable {w w' : World} {lo hi G n : Nat} {q : Nat → Rul}
theorem HdR.room (h : HdR w lo hi G n q) : Room w G 90 (n * 5) := by
  obtain ⟨cs, h1, h2, _⟩ := h
  exact ⟨cs, h1, h2⟩
theorem HdR.ints (h : HdR w lo hi G n q) (hi' : IntOnly w w') (hs : Shp w w') : HdR w' lo hi G n q := by
  obtain ⟨cs, h1, h2, h3⟩ := h
  refine ⟨cs, (hi' G cs _ _ h1 (by decide)).trans h1, h2, fun i hi => ?_⟩
  obtain ⟨gv, cv, gc, cc, gr, cr, a, b, c, d, e, f⟩ := h3 i hi
  exact ⟨gv, cv, gc, cc, gr, cr, a, b, c, ⟨d.1, d.2.1, d.2.2.shp hs⟩, ⟨e.1, e.2.1, e.2.2.shp hs⟩, f.ints hi' hs⟩
theorem HdR.set_ (h : HdR w lo hi G n q) (j o : Nat) (ho : o = 0 ∨ o = 3) (u : Value) : HdR (w.setCell ⟨G, j * 5 + o, none⟩ u) lo hi G n q := by
  obtain ⟨cs, h1, h2, h3⟩ := h
  refine ⟨cs.setIfInBounds (j * 5 + o) u, by simp [World.setCell, Array.getElem?_modify, h1], by simp [h2], fun i hi => ?_⟩
  obtain ⟨gv, cv, gc, cc, gr, cr, a, b, c, d, e, f⟩ := h3 i hi
  have hs : Shp w (w.setCell ⟨G, j * 5 + o, none⟩ u) := (Shp.refl _).set_ _ _ _
  refine ⟨gv, cv, gc, cc, gr, cr, by rw [Array.getElem?_setIfInBounds, if_neg (by omega)]; exact a, by rw [Array.getElem?_setIfInBounds, if_neg (by omega)]; exact b, by rw [Array.getElem?_setIfInBounds, if_neg (by omega)]; exact c, ⟨d.1, d.2.1, d.2.2.shp hs⟩, ⟨e.1, e.2.1, e.2.2.shp hs⟩, f.keep (Below.heap_setCell w ⟨G, j * 5 + o, none⟩ u gr (fun e => ?_)) hs⟩
  have e' : gr = G := e
  subst e'
  obtain ⟨ds, hd, _⟩ := f
  rw [hd] at h1
  injection h1 with h1
  injection h1 with _ h4 _
  exact absurd h4 (by decide)
end
theorem OwnI.room {w : World} {G n : Nat} {v : Nat → Int} (h : OwnI w G n n v) : Room w G 3 n := by
  obtain ⟨cs, h1, h2, _⟩ := h
  exact ⟨cs, h1, by omega⟩
theorem OwnL.hd {w : World} {lo G n : Nat} {r : Nat → Lst} (h : OwnL w G n n r) (hlo : lo ≤ G) : HdL w lo w.heap.size G n r := by
  obtain ⟨cs, h1, h2, h3⟩ := h
  refine ⟨cs, h1, by omega, fun i hi => ?_⟩
  obtain ⟨g, hg, a, b⟩ := h3 i hi
  exact ⟨g, _, a, by omega, b.lt, b.room⟩
theorem OwnRs.hd {w : World} {lo G n : Nat} {q : Nat → Rul} (h : OwnRs w G n n q) (hlo : lo ≤ G) : HdR w lo w.heap.size G n q := by
  obtain ⟨cs, h1, h2, h3⟩ := h
  refine ⟨cs, h1, by omega, fun i hi => ?_⟩
  obtain ⟨gv, gc, gr, a1, a2, a3, b0, b1, b2, b3, b4, c1, c2, c3⟩ := h3 i hi
  exact ⟨gv, _, gc, _, gr, _, b1, b2, b4, ⟨by omega, c1.lt, c1.room⟩, ⟨by omega, c2.lt, c2.room⟩, c3.hd (by omega)⟩

/-- How far the marks of the first k rules go. -/
def mkR (q : Nat → Rul) : Nat → Nat
  | 0 => 0
  | k + 1 => mkR q k + (2 + (q k).v.n + (q k).c.n + totL (q k).r (q k).n)
theorem mkR_le (q : Nat → Rul) (k : Nat) : mkR q k ≤ 2 * k + totR q k := by
  induction k with
  | zero => exact Nat.le_refl _
  | succ k ih =>
    show mkR q k + (2 + (q k).v.n + (q k).c.n + totL (q k).r (q k).n) ≤ 2 * (k + 1) + (totR q k + (q k).sz)
    unfold Rul.sz
    omega

set_option maxRecDepth 100000 in
set_option maxHeartbeats 3200000 in
theorem markRuleS_any (lo hi G n cap : Nat) (q : Nat → Rul) (k : Int) (w : World) (hn : n + totR q n ≤ 1048576) (hk0 : 0 ≤ k) (hk1 : k ≤ 4194304) (hlo : lo ≤ G) (hhi : G < hi) (ho : HdR w lo hi G n q) :
    Calls Try.prog 49 #[.slice (some ⟨G, 0, none⟩) n cap, .int .i64 k] w fun e w' => e = .returned (.int .i64 (k + mkR q n)) ∧ OnlyR lo hi w w' ∧ Shp w w' := by
  have hz := Lib.hid ho
  clear ho
  go_enter Try.func49, Try.ntmps49
  go_wp2
  go_loopw [1, 5] (fun t i wr => ∃ j : Nat, j ≤ n ∧ i = .int .i64 j ∧ t = .int .i64 (k + mkR q j) ∧ HdR wr lo hi G n q ∧ OnlyR lo hi w wr ∧ Shp w wr) (fun _ i _ => n - (intOf i).toNat)
  case atStart => exact ⟨0, Nat.zero_le _, rfl, by simp [mkR], hz.out, OnlyR.refl _ _ _, Shp.refl _⟩
  case round =>
    obtain ⟨j, hj, rfl, rfl, hh, hon, hsh⟩ := hrel
    by_cases hlt : j < n
    · have ht := totR_at q hlt
      have hmk := mkR_le q j
      have htj := totR_le q (show j ≤ n by omega)
      have hsz : (q j).sz = (q j).v.n + (q j).c.n + ((q j).n + totL (q j).r (q j).n) := rfl
      have hlt' : (j : Int) < (n : Int) := by omega
      have hj0 : (0 : Int) ≤ (j : Int) := by omega
      have HH := Lib.hid hh
      have Hon := Lib.hid hon
      have Hsh := Lib.hid hsh
      have hfr0 := hh.room.frozen (j * 5)
      obtain ⟨y0, hy0⟩ := hh.room.cell (j := j * 5) (by omega)
      obtain ⟨cs, c1, c2, c3⟩ := hh
      obtain ⟨gv, cv, gc, cc, gr, cr, a1, a2, a4, dv, dc, dr⟩ := c3 j hlt
      have x1 : wr.cell? ⟨G, j * 5 + 1, none⟩ = some (.slice (some ⟨gv, 0, none⟩) (q j).v.n cv) := (cell_of_row wr G _ cs _ _ c1).trans a1
      clear c3 c1 c2 hon hsh
      go_wp2_with fail
      have H1 := Lib.hid (HH.out.set_ j 0 (.inl rfl) (.int .i64 (k + (mkR q j : Int))))
      have S1 := Lib.hid ((Shp.refl wr).set_ G (j * 5) (.int .i64 (k + (mkR q j : Int))))
      have O1 := Lib.hid (Hon.out.set_ hlo hhi (j * 5) (.int .i64 (k + (mkR q j : Int))))
      have T1 := Lib.hid (Hsh.out.set_ G (j * 5) (.int .i64 (k + (mkR q j : Int))))
      have DV := Lib.hid (dv.2.2.shp S1.out)
      have dv1 := dv.1
      have dv2 := dv.2.1
      clear a1 a2 a4 dv dc dr x1 hy0 hfr0 cs
      obtain ⟨W1, hW1⟩ : ∃ W, wr.setCell ⟨G, j * 5, none⟩ (.int .i64 (k + (mkR q j : Int))) = W := ⟨_, rfl⟩
      rw [hW1]
      have H1' := Lib.hid (show HdR W1 lo hi G n q from hW1 ▸ H1.out)
      have O1' := Lib.hid (show OnlyR lo hi w W1 from hW1 ▸ O1.out)
      have T1' := Lib.hid (show Shp w W1 from hW1 ▸ T1.out)
      have DV' := Lib.hid (show Room W1 gv 3 (q j).v.n from hW1 ▸ DV.out)
      clear H1 O1 T1 DV S1 HH Hon Hsh hW1
      refine (markIntS_room (lo := lo) (hi := hi) _ _ _ _ (by omega) (by omega) (by omega) dv1 dv2 DV'.out).mono ?_
      rintro e w2 ⟨rfl, h1, h2, h3⟩
      have H2 := Lib.hid (H1'.out.ints h3 h2)
      have O2 := Lib.hid (O1'.out.trans h1)
      have T2 := Lib.hid (T1'.out.trans h2)
      clear h1 h2 h3 H1' O1' T1' DV' dv1 dv2
      obtain ⟨cs, c1, c2, c3⟩ := id H2.out
      obtain ⟨gv2, cv2, gc2, cc2, gr2, cr2, a1, a2, a4, dv, dc, dr⟩ := c3 j hlt
      have x2 : w2.cell? ⟨G, j * 5 + 2, none⟩ = some (.slice (some ⟨gc2, 0, none⟩) (q j).c.n cc2) := (cell_of_row w2 G _ cs _ _ c1).trans a2
      have DC := Lib.hid dc.2.2
      have dc1 := dc.1
      have dc2 := dc.2.1
      clear c3 c1 c2 a1 a2 a4 dv dc dr cs
      go_wp2_with fail
      refine (markIntS_room (lo := lo) (hi := hi) _ _ _ _ (by omega) (by omega) (by omega) dc1 dc2 DC.out).mono ?_
      rintro e w3 ⟨rfl, h1, h2, h3⟩
      have H3 := Lib.hid (H2.out.ints h3 h2)
      have O3 := Lib.hid (O2.out.trans h1)
      have T3 := Lib.hid (T2.out.trans h2)
      clear h1 h2 h3 H2 O2 T2 DC dc1 dc2 x2
      have hfr3 := H3.out.room.frozen (j * 5 + 3)
      obtain ⟨y3, hy3⟩ := H3.out.room.cell (j := j * 5 + 3) (by omega)
      obtain ⟨cs, c1, c2, c3⟩ := id H3.out
      obtain ⟨gv3, cv3, gc3, cc3, gr3, cr3, a1, a2, a4, dv, dc, dr⟩ := c3 j hlt
      have x4 : w3.cell? ⟨G, j * 5 + 4, none⟩ = some (.slice (some ⟨gr3, 0, none⟩) (q j).n cr3) := (cell_of_row w3 G _ cs _ _ c1).trans a4
      obtain ⟨K3, hK3⟩ : ∃ K3 : Int, k + (mkR q j : Int) + 1 + ((q j).v.n : Int) + ((q j).c.n : Int) = K3 := ⟨_, rfl⟩
      have HK3 := Lib.hid hK3
      have hK30 : 0 ≤ K3 ∧ K3 ≤ 12582912 := by omega
      obtain ⟨hK31, hK32⟩ := hK30
      rw [hK3]
      have x4' : (w3.setCell ⟨G, j * 5 + 3, none⟩ (.int .i64 K3)).cell? ⟨G, j * 5 + 4, none⟩ = some (.slice (some ⟨gr3, 0, none⟩) (q j).n cr3) := (World.cell?_setCell_other _ _ _ _ (fun e => by injection e with e1 e2 _; omega)).trans x4
      have H4 := Lib.hid (H3.out.set_ j 3 (.inr rfl) (.int .i64 K3))
      have O4 := Lib.hid (O3.out.set_ hlo hhi (j * 5 + 3) (.int .i64 K3))
      have T4 := Lib.hid (T3.out.set_ G (j * 5 + 3) (.int .i64 K3))
      have hdl : HdL (w3.setCell ⟨G, j * 5 + 3, none⟩ (.int .i64 K3)) lo hi gr3 (q j).n (q j).r := by
        obtain ⟨cs', d1, d2, d3⟩ := id H4.out
        obtain ⟨_, _, _, _, gr4, cr4, _, _, b4, _, _, fr⟩ := d3 j hlt
        have x5 := (cell_of_row _ G _ cs' _ _ d1).trans b4
        rw [x4'] at x5
        injection x5 with x5
        injection x5 with x5 _ _
        injection x5 with x5
        injection x5 with x5 _ _
        rw [x5]
        exact fr
      have HDL := Lib.hid hdl
      clear c3 c1 c2 a1 a2 a4 dv dc dr cs hK3 H3 O3 T3 hdl x4
      go_wp2_with fail
      refine (markIntSS_any lo hi gr3 (q j).n cr3 (q j).r _ _ (by omega) (by omega) (by omega) HDL.out).mono ?_
      rintro e w4 ⟨rfl, h1, h2, h3⟩
      have H5 := Lib.hid (H4.out.ints h3 h2)
      have O5 := Lib.hid (O4.out.trans h1)
      have T5 := Lib.hid (T4.out.trans h2)
      have HN := Lib.hid (show Value.int .i64 (K3 + 1 + (totL (q j).r (q j).n : Int)) = .int .i64 (k + ((mkR q (j + 1) : Nat) : Int)) from by
        congr 1
        have := HK3.out
        show _ = k + ((mkR q j + (2 + (q j).v.n + (q j).c.n + totL (q j).r (q j).n) : Nat) : Int)
        omega)
      clear h1 h2 h3 H4 O4 T4 HDL x4' hy3 hfr3
      go_wp2
      go_roundw
      case rel => exact ⟨j + 1, by omega, by go_num, HN.out, H5.out, O5.out, T5.out⟩
      case measure => simp [intOf]; omega
    · have e : j = n := by omega
      subst e
      go_wp2
      go_ret
      exact ⟨rfl, hon, hsh⟩

set_option maxRecDepth 100000 in
set_option maxHeartbeats 1600000 in
/-- The marking of a model that a call has made: what it may turn lies from lo on and below hi. -/
theorem markModel_any (lo hi Gs Gr sn n cs cr : Nat) (q : Nat → Rul) (k : Int) (w : World) (hs : sn ≤ 1048576) (hn : n + totR q n ≤ 1048576) (hk0 : 0 ≤ k) (hk1 : k ≤ 1000) (hs1 : lo ≤ Gs) (hs2 : Gs < hi) (hr1 : lo ≤ Gr) (hr2 : Gr < hi) (hsr : Room w Gs 3 sn) (ho : HdR w lo hi Gr n q) (hw : hi ≤ w.heap.size) :
    Calls Try.prog 18 #[.agg #[.slice (some ⟨Gs, 0, none⟩) sn cs, .slice (some ⟨Gr, 0, none⟩) n cr], .int .i64 k] w fun e w' => e = .returned (.int .i64 (k + sn + mkR q n)) ∧ OnlyR lo hi w w' ∧ Shp w w' := by
  have hb1 := bl_alloc (Below.refl w.heap.size w) (.cells #[.slice (some ⟨Gs, 0, none⟩) sn cs, .slice (some ⟨Gr, 0, none⟩) n cr] 30)
  have a0 : (w.alloc (.cells #[.slice (some ⟨Gs, 0, none⟩) sn cs, .slice (some ⟨Gr, 0, none⟩) n cr] 30)).cell? ⟨w.heap.size, 0, none⟩ = some (.slice (some ⟨Gs, 0, none⟩) sn cs) := by go_simp
  have a1 : (w.alloc (.cells #[.slice (some ⟨Gs, 0, none⟩) sn cs, .slice (some ⟨Gr, 0, none⟩) n cr] 30)).cell? ⟨w.heap.size, 1, none⟩ = some (.slice (some ⟨Gr, 0, none⟩) n cr) := by go_simp
  have O1 := Lib.hid (bl_range (lo := lo) (hi := hi) hb1)
  have T1 := Lib.hid (bl_shp hb1)
  have R1 := Lib.hid (hsr.shp (bl_shp hb1))
  have I1 : IntOnly w (w.alloc (.cells #[.slice (some ⟨Gs, 0, none⟩) sn cs, .slice (some ⟨Gr, 0, none⟩) n cr] 30)) := fun j ds T fr hj _ => hb1.block j (by
    rcases Nat.lt_or_ge j w.heap.size with hlt | hge
    · exact hlt
    · rw [Array.getElem?_eq_none hge] at hj; cases hj)
  have H1 := Lib.hid (ho.ints I1 (bl_shp hb1))
  have hmk := mkR_le q n
  clear hb1 hsr ho I1
  go_enter Try.func18, Try.ntmps18
  go_wp2_with fail
  obtain ⟨H, hHe⟩ : ∃ H, w.heap.size = H := ⟨_, rfl⟩
  have hH : hi ≤ H := by omega
  rw [hHe] at a0 a1 ⊢
  generalize (w.alloc (.cells #[.slice (some ⟨Gs, 0, none⟩) sn cs, .slice (some ⟨Gr, 0, none⟩) n cr] 30)) = w1 at *
  refine (markIntS_room (lo := lo) (hi := hi) _ _ _ _ hs (by omega) (by omega) hs1 hs2 R1.out).mono ?_
  rintro e w2 ⟨rfl, h1, h2, h3⟩
  have H2 := Lib.hid (H1.out.ints h3 h2)
  have O2 := Lib.hid (O1.out.trans h1)
  have T2 := Lib.hid (T1.out.trans h2)
  replace a1 := h1.cell (p := ⟨H, 1, none⟩) (.inr hH) a1
  clear h1 h2 h3 H1 O1 T1 R1 a0
  go_wp2_with fail
  refine (markRuleS_any lo hi Gr n cr q _ _ hn (by omega) (by omega) hr1 hr2 H2.out).mono ?_
  rintro e w3 ⟨rfl, h1, h2⟩
  have O3 := Lib.hid (O2.out.trans h1)
  have T3 := Lib.hid (T2.out.trans h2)
  clear h1 h2 H2 O2 T2
  go_wp2
  go_ret
  exact ⟨rfl, O3.out, T3.out⟩
end Go.Proofs.Ytafiikfaeomhpaa

namespace Go.Proofs.Ytafiikfaeomhpaa
open Go.ChangeShapes Go.WideShapes Go.ChangeAt Go.RowKit

/-- A block of elements of type T that holds at least n Booleans: the first k of them are known. -/
def OwnVb (w : World) (G : Nat) (T : TypeId) (n k : Nat) (v : Nat → Bool) : Prop :=
  ∃ cs : Array Value, w.heap[G]? = some (.cells cs T (0, 0)) ∧ n ≤ cs.size ∧ ∀ i, i < k → cs[i]? = some (.bool (v i))
section
variable {w w' : World} {G n k : Nat} {T : TypeId} {v v' : Nat → Bool}
theorem OwnB.toV (h : OwnB w G n k v) : OwnVb w G 4 n k v := by
  obtain ⟨cs, hh, h1, h2⟩ := h
  exact ⟨cs, hh, by omega, h2⟩
theorem OwnVb.zero (h : OwnVb w G T n k v) : OwnVb w G T n 0 v' := by
  obtain ⟨cs, hh, h1, _⟩ := h
  exact ⟨cs, hh, h1, fun i hi => absurd hi (by omega)⟩
theorem OwnVb.at_ (h : OwnVb w G T n k v) (hg : w'.heap[G]? = w.heap[G]?) : OwnVb w' G T n k v := by
  obtain ⟨cs, hh, h1, h2⟩ := h
  exact ⟨cs, hg.trans hh, h1, h2⟩
theorem OwnVb.lt (h : OwnVb w G T n k v) : G < w.heap.size := by
  obtain ⟨cs, hh, _, _⟩ := h
  rcases Nat.lt_or_ge G w.heap.size with hlt | hge
  · exact hlt
  · rw [Array.getElem?_eq_none hge] at hh; cases hh
theorem OwnVb.below (h : OwnVb w G T n k v) (hb : Below w.heap.size w w') : OwnVb w' G T n k v := h.at_ (hb.block G h.lt)
theorem OwnVb.rdAt (h : OwnVb w G T n n v) : RdB w w.heap.size (some ⟨G, 0, none⟩) n v := fun _ => by
  have hlt := h.lt
  obtain ⟨cs, hh, h1, h2⟩ := h
  refine ⟨G, 0, rfl, hlt, fun i hi => ?_⟩
  rw [Nat.zero_add]
  exact (cell_of_row w G _ cs _ _ hh).trans (h2 i hi)
theorem OwnVb.cell (h : OwnVb w G T n k v) {j : Nat} (hj : j < n) : ∃ u, w.cell? ⟨G, j, none⟩ = some u := by
  obtain ⟨cs, hh, h1, h2⟩ := h
  exact ⟨cs[j]'(by omega), (cell_of_row w G _ cs _ _ hh).trans (Array.getElem?_eq_getElem (by omega))⟩
theorem OwnVb.frozen (h : OwnVb w G T n k v) (j : Nat) : w.frozen? ⟨G, j, none⟩ = false := by
  obtain ⟨cs, hh, h1, h2⟩ := h
  simp [World.frozen?, hh]
theorem OwnVb.put (h : OwnVb w G T n k v) (hk : k < n) : OwnVb (w.setCell ⟨G, k, none⟩ (.bool (v k))) G T n (k + 1) v := by
  obtain ⟨cs, hh, h1, h2⟩ := h
  refine ⟨cs.setIfInBounds k (.bool (v k)), ?_, by simp [h1], fun i hi => ?_⟩
  · simp [World.setCell, Array.getElem?_modify, hh]
  · simp only [Array.getElem?_setIfInBounds]
    by_cases e : i = k
    · subst e
      rw [if_pos rfl, if_pos (by omega)]
    · rw [if_neg (by omega)]
      exact h2 i (by omega)
end

/-- A slice of Booleans that a call has made: nothing, or the head of a block of its own from B on. -/
def FrB (w : World) (B : Nat) (T : TypeId) (A : Option Addr) (n : Nat) (v : Nat → Bool) : Prop := n = 0 ∨ ∃ G, A = some ⟨G, 0, none⟩ ∧ B ≤ G ∧ OwnVb w G T n n v
section
variable {w w' : World} {B B' n n' : Nat} {T : TypeId} {A A' : Option Addr} {v : Nat → Bool}
theorem FrB.rdAt (h : FrB w B T A n v) : RdB w w.heap.size A n v := by
  rcases h with h | ⟨G, rfl, _, h⟩
  · exact fun hn => absurd hn (by omega)
  · exact h.rdAt
theorem FrB.below (h : FrB w B T A n v) (hb : Below w.heap.size w w') : FrB w' B T A n v := by
  rcases h with h | ⟨G, e, hG, h⟩
  · exact .inl h
  · exact .inr ⟨G, e, hG, h.below hb⟩
theorem FrB.more (h : FrB w B T A n v) (hB : B' ≤ B) : FrB w B' T A n v := by
  rcases h with h | ⟨G, e, hG, h⟩
  · exact .inl h
  · exact .inr ⟨G, e, by omega, h⟩
theorem Only.belowB (h : Only w w' A n) (hf : FrB w B T A n v) (hB : B ≤ w.heap.size) : Below B w w' :=
  ⟨h.os, h.tape, h.output, h.size, fun k hk => h.block k (by omega) (by
    rcases hf with h0 | ⟨G, rfl, hG, _⟩
    · exact .inl h0
    · right
      intro a ha
      cases ha
      show k ≠ G
      omega)⟩
end

/-- Such a slice in a block from lo on and below hi. -/
def FB2 (w : World) (lo hi : Nat) (T : TypeId) (A : Option Addr) (n : Nat) (v : Nat → Bool) : Prop := n = 0 ∨ ∃ G, A = some ⟨G, 0, none⟩ ∧ lo ≤ G ∧ G < hi ∧ OwnVb w G T n n v
section
variable {w w' : World} {lo hi : Nat} {T : TypeId} {A A' : Option Addr} {n n' : Nat} {v : Nat → Bool}
theorem FrB.two (h : FrB w lo T A n v) : FB2 w lo w.heap.size T A n v := by
  rcases h with h | ⟨G, e, hG, h⟩
  · exact .inl h
  · exact .inr ⟨G, e, hG, h.lt, h⟩
theorem FB2.one (h : FB2 w lo hi T A n v) : FrB w lo T A n v := by
  rcases h with h | ⟨G, e, hG, _, h⟩
  · exact .inl h
  · exact .inr ⟨G, e, hG, h⟩
theorem FB2.rdAt (h : FB2 w lo hi T A n v) : RdB w w.heap.size A n v := h.one.rdAt
theorem FB2.below (h : FB2 w lo hi T A n v) (hb : Below w.heap.size w w') : FB2 w' lo hi T A n v := by
  rcases h with h | ⟨G, e, hG, hG', h⟩
  · exact .inl h
  · exact .inr ⟨G, e, hG, hG', h.below hb⟩
theorem FB2.only (h : FB2 w lo hi T A n v) (ho : Only w w' A' n') (hd : n' = 0 ∨ ∀ a, A' = some a → a.block < lo ∨ hi ≤ a.block) : FB2 w' lo hi T A n v := by
  rcases h with h | ⟨G, e, hG, hG', h⟩
  · exact .inl h
  · refine .inr ⟨G, e, hG, hG', h.at_ (ho.block G h.lt ?_)⟩
    rcases hd with h0 | hd
    · exact .inl h0
    · exact .inr fun a ha hh => by have := hd a ha; omega
theorem FB2.apart (h : FB2 w lo hi T A n v) {lo' hi' : Nat} (hh : hi ≤ lo' ∨ hi' ≤ lo) : n = 0 ∨ ∀ a, A = some a → a.block < lo' ∨ hi' ≤ a.block := by
  rcases h with h | ⟨G, e, hG, hG', _⟩
  · exact .inl h
  · refine .inr fun a ha => ?_
    rw [e] at ha
    cases ha
    show G < lo' ∨ hi' ≤ G
    omega
theorem FB2.cell (h : FB2 w lo hi T A n v) (ho : Only w w' A n) {p : Addr} {u : Value} (hp : p.block < lo ∨ hi ≤ p.block) (hc : w.cell? p = some u) : w'.cell? p = some u := by
  refine (World.cell?_of_block (w := w) (ho.block p.block (World.block_lt_of_cell? w p hc) ?_)).trans hc
  rcases h with h | ⟨G, e, hG, hG', _⟩
  · exact .inl h
  · refine .inr fun a ha hh => ?_
    rw [e] at ha
    cases ha
    have : p.block = G := hh
    omega
theorem Only.belB (ho : Only w w' A n) (h : FB2 w lo hi T A n v) {W : World} (hb : Below W.heap.size W w) (hlo : W.heap.size ≤ lo) : Below W.heap.size W w' :=
  hb.trans ((ho.belowB (B := W.heap.size) (h.one.more hlo) hb.size))
end

/-- The Booleans that the marking lays. -/
def mkBl (k : Int) (i : Nat) : Bool := ((k + (i : Int)) % 3 == 0)
end Go.Proofs.Ytafiikfaeomhpaa

namespace Go.Proofs.Ytafiikfaeomhpaa
open Go.ChangeShapes Go.WideShapes Go.ChangeAt Go.RowKit

/-- What a function that answers a slice of ints, or of Booleans, and a Boolean leaves: the slice lies in new memory. -/
def SResI (w : World) (n : Nat) (v : Nat → Int) (ok : Bool) (e : Ending) (w' : World) : Prop := ∃ A cap, e = .returned (.tuple #[.slice A n cap, .bool ok]) ∧ FrI w' w.heap.size 3 A n v ∧ Below w.heap.size w w'
def SResB (w : World) (n : Nat) (v : Nat → Bool) (ok : Bool) (e : Ending) (w' : World) : Prop := ∃ A cap, e = .returned (.tuple #[.slice A n cap, .bool ok]) ∧ FrB w' w.heap.size 4 A n v ∧ Below w.heap.size w w'
theorem bl_ints {w w' : World} (hb : Below w.heap.size w w') : IntOnly w w' := fun j ds T fr hj _ => hb.block j (by
  rcases Nat.lt_or_ge j w.heap.size with hlt | hge
  · exact hlt
  · rw [Array.getElem?_eq_none hge] at hj; cases hj)
theorem HdR.below {w w' : World} {lo hi G n : Nat} {q : Nat → Rul} (h : HdR w lo hi G n q) (hb : Below w.heap.size w w') : HdR w' lo hi G n q := h.ints (bl_ints hb) (bl_shp hb)
theorem FB2.onlyR {w w' : World} {lo hi lo' hi' n : Nat} {T : TypeId} {A : Option Addr} {v : Nat → Bool} (h : FB2 w lo hi T A n v) (ho : OnlyR lo' hi' w w') (hd : hi ≤ lo' ∨ hi' ≤ lo) : FB2 w' lo hi T A n v := by
  rcases h with h | ⟨G, e, hG, hG', h⟩
  · exact .inl h
  · exact .inr ⟨G, e, hG, hG', h.at_ (ho.block G h.lt (by omega))⟩
end Go.Proofs.Ytafiikfaeomhpaa

namespace Go.Proofs.Ytafiikfaeomhpaa
open Go.ChangeShapes Go.WideShapes Go.ChangeAt Go.RowKit

/-- The values of the cells of a list. -/
def pk (v : Lst) (c : Nat → Int) (i : Nat) : Int := c (v.x i).toNat
def linS (a p : Nat → Int) : Nat → Int
  | 0 => 0
  | k + 1 => linS a p k + a k * p k
/-- Cells satisfy a rule. -/
def holdB (q : Rul) (c : Nat → Int) : Bool := if q.k = 1 then decide (q.bd ≤ linS q.c.x (pk q.v c) q.v.n) else if q.k = 2 then prE (newB (pk q.v c)) q.v.n else if q.k = 4 then decide (pk q.v c 0 < pk q.v c 1) else anyQ (fun j => lsE (q.r j) ⟨q.v.n, pk q.v c⟩) q.n

/-- What a valid rule is. -/
structure RuleOk (cells : Nat) (q : Rul) : Prop where
  len : 1 ≤ q.v.n
  at_ : ∀ i, i < q.v.n → 0 ≤ q.v.x i ∧ q.v.x i < cells
  kind : q.k = 1 ∨ q.k = 2 ∨ q.k = 3 ∨ q.k = 4
  lin : q.k = 1 → q.c.n = q.v.n ∧ ∀ i, i < q.c.n → -9 ≤ q.c.x i ∧ q.c.x i ≤ 9
  two : q.k = 4 → q.v.n = 2
theorem rule_ok {cells : Nat} {q : Rul} (h : ruleB cells q = true) : RuleOk cells q := by
  unfold ruleB at h
  simp only [Bool.and_eq_true] at h
  obtain ⟨hv, h1, h2, hk⟩ := h
  unfold varB at hv
  simp only [Bool.and_eq_true, decide_eq_true_eq] at hv
  unfold kindB at hk
  refine ⟨hv.2, fun i hi => ?_, ?_, fun e => ?_, fun e => ?_⟩
  · have := prE_at hv.1 hi
    simp [betB] at this
    omega
  · by_cases k1 : q.k = 1
    · exact .inl k1
    by_cases k2 : q.k = 2
    · exact .inr (.inl k2)
    by_cases k3 : q.k = 3
    · exact .inr (.inr (.inl k3))
    by_cases k4 : q.k = 4
    · exact .inr (.inr (.inr k4))
    · simp [k1, k2, k3, k4] at hk
  · rw [if_pos e] at hk
    unfold linB at hk
    simp only [Bool.and_eq_true, beq_iff_eq] at hk
    refine ⟨hk.2.1, fun i hi => ?_⟩
    have := prE_at hk.1 hi
    simp [wtB] at this
    omega
  · rw [if_neg (by omega), if_neg (by omega), if_neg (by omega), if_pos e] at hk
    simpa using hk
/-- Cells are values: each between 0 and 3. -/
def CelV (m : Nat) (c : Nat → Int) : Prop := ∀ i, i < m → 0 ≤ c i ∧ c i ≤ 3
theorem pk_bd {cells : Nat} {q : Rul} {c : Nat → Int} (h : RuleOk cells q) (hc : CelV cells c) {i : Nat} (hi : i < q.v.n) : 0 ≤ pk q.v c i ∧ pk q.v c i ≤ 3 := by
  obtain ⟨h0, h1⟩ := h.at_ i hi
  exact hc _ (by omega)
theorem lin_bd {a p : Nat → Int} {k : Nat} (ha : ∀ i, i < k → -9 ≤ a i ∧ a i ≤ 9) (hp : ∀ i, i < k → 0 ≤ p i ∧ p i ≤ 3) : -27 * (k : Int) ≤ linS a p k ∧ linS a p k ≤ 27 * k := by
  induction k with
  | zero => exact ⟨Int.le_refl _, Int.le_refl _⟩
  | succ k ih =>
    obtain ⟨h1, h2⟩ := ih (fun i hi => ha i (by omega)) (fun i hi => hp i (by omega))
    obtain ⟨a1, a2⟩ := ha k (by omega)
    obtain ⟨b1, b2⟩ := hp k (by omega)
    unfold linS
    have e : -27 ≤ a k * p k ∧ a k * p k ≤ 27 := by
      have : p k = 0 ∨ p k = 1 ∨ p k = 2 ∨ p k = 3 := by omega
      rcases this with h | h | h | h <;> rw [h] <;> omega
    omega
theorem mul_bd {x y : Int} (hx : -9 ≤ x ∧ x ≤ 9) (hy : 0 ≤ y ∧ y ≤ 3) : -27 ≤ x * y ∧ x * y ≤ 27 := by
  have : y = 0 ∨ y = 1 ∨ y = 2 ∨ y = 3 := by omega
  rcases this with h | h | h | h <;> rw [h] <;> omega
theorem cels_cel {s c : Lst} (h : celsB s c = true) (hs : prE (fun i => betB 0 3 (s.x i)) s.n = true) : c.n = s.n ∧ CelV s.n c.x := by
  unfold celsB at h
  simp only [Bool.and_eq_true, beq_iff_eq] at h
  refine ⟨h.1, fun i hi => ?_⟩
  have h1 := prE_at h.2 hi
  have h2 := size_at hs hi
  simp [betB] at h1
  omega
end Go.Proofs.Ytafiikfaeomhpaa

namespace Go.Proofs.Ytafiikfaeomhpaa
open Go.ChangeShapes Go.WideShapes Go.ChangeAt Go.RowKit

theorem row_lit0 {W : World} {T : TypeId} : RowAt W W.heap.size T [] [] (.slice (some ⟨W.heap.size, 0, none⟩) 0 0) (W.alloc (.cells #[] T)) :=
  ⟨⟨rfl, .inr ⟨W.heap.size, 0, #[], rfl, Nat.le_refl _, heap_alloc_new _ _, Nat.le_refl _, by unfold maxLen; omega, rfl, rfl⟩⟩,
    fun x hx => (by cases hx), bl_alloc (Below.refl _ _) _, Nat.le_refl _, by simp⟩

end Go.Proofs.Ytafiikfaeomhpaa

namespace Go.Proofs.Ytafiikfaeomhpaa
open Go.ChangeShapes Go.WideShapes Go.ChangeAt Go.RowKit

/-- Element i of the array of the values of n cells. -/
def cvV (n : Nat) (c : Nat → Int) (i : Nat) : Int := if i < n then c i else 0
/-- Five values as an array. -/
def arr5 (u : Nat → Int) : Value := .agg #[.int .i64 (u 0), .int .i64 (u 1), .int .i64 (u 2), .int .i64 (u 3), .int .i64 (u 4)]
theorem row5 {n i : Nat} (c : Nat → Int) (hi : i < 5) :
    ((#[Value.int .i64 0, .int .i64 0, .int .i64 0, .int .i64 0, .int .i64 0] : Array Value).toList.take 0 ++ ((vlst c n).map vI ++ (#[Value.int .i64 0, .int .i64 0, .int .i64 0, .int .i64 0, .int .i64 0] : Array Value).toList.drop (0 + ((vlst c n).map vI).length))).toArray[i]? = some (.int .i64 (cvV n c i)) := by
  have hl : ((vlst c n).map vI).length = n := by rw [List.length_map, vlst_length]
  rw [hl, List.getElem?_toArray, List.take_zero, List.nil_append, Nat.zero_add]
  unfold cvV
  by_cases h : i < n
  · rw [if_pos h, List.getElem?_append_left (by omega), List.getElem?_map, vlst_get c h]
    rfl
  · rw [if_neg h, List.getElem?_append_right (by omega), hl, List.getElem?_drop, show n + (i - n) = i by omega]
    have : i = 0 ∨ i = 1 ∨ i = 2 ∨ i = 3 ∨ i = 4 := by omega
    rcases this with rfl | rfl | rfl | rfl | rfl <;> rfl
theorem cell_set5 {w : World} {g i : Nat} {cs cs0 : Array Value} {t : TypeId} {u : Value} (h : w.heap[g]? = some (.cells cs0 t (0, 0))) (hu : cs[i]? = some u) : (w.setRow g cs).cell? ⟨g, i, none⟩ = some u := by
  have := setRow_heap w g cs0 cs t (0, 0) h
  exact (cell_of_row _ g i cs _ _ this).trans hu
theorem len_vlst (c : Nat → Int) (n : Nat) : ((vlst c n).map vI).length = n := by rw [List.length_map, vlst_length]
theorem fit5 (c : Nat → Int) {n : Nat} (hn : n ≤ 5) : 0 + ((vlst c n).map vI).length ≤ (#[Value.int .i64 0, .int .i64 0, .int .i64 0, .int .i64 0, .int .i64 0] : Array Value).size := by rw [len_vlst]; show 0 + n ≤ 5; omega
theorem one_vlst (c : Nat → Int) (n : Nat) : ∀ v ∈ (vlst c n).map vI, v.oneCell' = true := by
  intro v hv
  obtain ⟨x, _, rfl⟩ := List.mem_map.1 hv
  rfl
theorem src_vlst {w : World} {b off n : Nat} {c : Nat → Int} (h : ∀ i, i < n → w.cell? ⟨b, off + i, none⟩ = some (.int .i64 (c i))) : ∀ j v, ((vlst c n).map vI)[j]? = some v → w.cell? ((⟨b, off, none⟩ : Addr).add j) = some v := by
  intro j v hj
  rw [List.getElem?_map] at hj
  by_cases hlt : j < n
  · rw [vlst_get c hlt] at hj
    injection hj with hj
    subst hj
    have := h j hlt
    unfold Addr.add
    by_cases e : j = 0
    · subst e; rw [if_pos rfl]; rw [Nat.add_zero] at this; exact this
    · rw [if_neg e]; exact this
  · rw [List.getElem?_eq_none (by rw [vlst_length]; omega)] at hj
    cases hj

set_option maxRecDepth 100000 in
set_option maxHeartbeats 1600000 in
theorem cvo_any (n cap : Nat) (A : Option Addr) (c : Nat → Int) (w : World) (hn : n ≤ 5) (hn1 : 1 ≤ n) (hr : RdI w w.heap.size A n c) :
    Calls Try.prog 47 #[.slice A n cap] w fun e w' => e = .returned (arr5 (cvV n c)) ∧ Below w.heap.size w w' := by
  have hb1 := bl_alloc (bl_alloc (Below.refl w.heap.size w) (.cells #[.int .i64 0, .int .i64 0, .int .i64 0, .int .i64 0, .int .i64 0] 69)) (.cells #[.int .i64 0, .int .i64 0, .int .i64 0, .int .i64 0, .int .i64 0] 69)
  obtain ⟨b, off, rfl, hbl, hc⟩ := (hr.later hb1) (by omega)
  have HC := Lib.hid hc
  have HB := Lib.hid hb1
  have hh : ((w.alloc (.cells #[.int .i64 0, .int .i64 0, .int .i64 0, .int .i64 0, .int .i64 0] 69)).alloc (.cells #[.int .i64 0, .int .i64 0, .int .i64 0, .int .i64 0, .int .i64 0] 69)).heap[w.heap.size + 1]? = some (.cells #[.int .i64 0, .int .i64 0, .int .i64 0, .int .i64 0, .int .i64 0] 69 (0, 0)) := by
    have := heap_alloc_new (w.alloc (.cells #[.int .i64 0, .int .i64 0, .int .i64 0, .int .i64 0, .int .i64 0] 69)) (.cells #[.int .i64 0, .int .i64 0, .int .i64 0, .int .i64 0, .int .i64 0] 69)
    simpa using this
  have HH := Lib.hid hh
  have HS := Lib.hid (fun i (hi : i < 5) => cell_set5 hh (row5 (n := n) c hi))
  have HU := Lib.hid (fun r => below_setRow (Below.refl (w.heap.size + 1) ((w.alloc (.cells #[.int .i64 0, .int .i64 0, .int .i64 0, .int .i64 0, .int .i64 0] 69)).alloc (.cells #[.int .i64 0, .int .i64 0, .int .i64 0, .int .i64 0, .int .i64 0] 69))) (Nat.le_refl _) r)
  have z0 : ((w.alloc (.cells #[.int .i64 0, .int .i64 0, .int .i64 0, .int .i64 0, .int .i64 0] 69)).alloc (.cells #[.int .i64 0, .int .i64 0, .int .i64 0, .int .i64 0, .int .i64 0] 69)).cell? ⟨w.heap.size, 0, none⟩ = some (.int .i64 0) := by go_simp
  have z1 : ((w.alloc (.cells #[.int .i64 0, .int .i64 0, .int .i64 0, .int .i64 0, .int .i64 0] 69)).alloc (.cells #[.int .i64 0, .int .i64 0, .int .i64 0, .int .i64 0, .int .i64 0] 69)).cell? ⟨w.heap.size, 1, none⟩ = some (.int .i64 0) := by go_simp
  have z2 : ((w.alloc (.cells #[.int .i64 0, .int .i64 0, .int .i64 0, .int .i64 0, .int .i64 0] 69)).alloc (.cells #[.int .i64 0, .int .i64 0, .int .i64 0, .int .i64 0, .int .i64 0] 69)).cell? ⟨w.heap.size, 2, none⟩ = some (.int .i64 0) := by go_simp
  have z3 : ((w.alloc (.cells #[.int .i64 0, .int .i64 0, .int .i64 0, .int .i64 0, .int .i64 0] 69)).alloc (.cells #[.int .i64 0, .int .i64 0, .int .i64 0, .int .i64 0, .int .i64 0] 69)).cell? ⟨w.heap.size, 3, none⟩ = some (.int .i64 0) := by go_simp
  have z4 : ((w.alloc (.cells #[.int .i64 0, .int .i64 0, .int .i64 0, .int .i64 0, .int .i64 0] 69)).alloc (.cells #[.int .i64 0, .int .i64 0, .int .i64 0, .int .i64 0, .int .i64 0] 69)).cell? ⟨w.heap.size, 4, none⟩ = some (.int .i64 0) := by go_simp
  have f0 : ((w.alloc (.cells #[.int .i64 0, .int .i64 0, .int .i64 0, .int .i64 0, .int .i64 0] 69)).alloc (.cells #[.int .i64 0, .int .i64 0, .int .i64 0, .int .i64 0, .int .i64 0] 69)).frozen? ⟨w.heap.size, 0, none⟩ = false := by go_simp
  have f1 : ((w.alloc (.cells #[.int .i64 0, .int .i64 0, .int .i64 0, .int .i64 0, .int .i64 0] 69)).alloc (.cells #[.int .i64 0, .int .i64 0, .int .i64 0, .int .i64 0, .int .i64 0] 69)).frozen? ⟨w.heap.size, 1, none⟩ = false := by go_simp
  have f2 : ((w.alloc (.cells #[.int .i64 0, .int .i64 0, .int .i64 0, .int .i64 0, .int .i64 0] 69)).alloc (.cells #[.int .i64 0, .int .i64 0, .int .i64 0, .int .i64 0, .int .i64 0] 69)).frozen? ⟨w.heap.size, 2, none⟩ = false := by go_simp
  have f3 : ((w.alloc (.cells #[.int .i64 0, .int .i64 0, .int .i64 0, .int .i64 0, .int .i64 0] 69)).alloc (.cells #[.int .i64 0, .int .i64 0, .int .i64 0, .int .i64 0, .int .i64 0] 69)).frozen? ⟨w.heap.size, 3, none⟩ = false := by go_simp
  have f4 : ((w.alloc (.cells #[.int .i64 0, .int .i64 0, .int .i64 0, .int .i64 0, .int .i64 0] 69)).alloc (.cells #[.int .i64 0, .int .i64 0, .int .i64 0, .int .i64 0, .int .i64 0] 69)).frozen? ⟨w.heap.size, 4, none⟩ = false := by go_simp
  clear hc hb1 hr hh
  go_enter Try.func47, Try.ntmps47
  go_wp2_with (with_reducible show wpList _ _ _ _ _ _; with_reducible refine wpList_copy_own rfl (.tmp 4) (.tmp 5) 22 22 rfl 3 Try.underlying22 (by kernel_rfl) (w.heap.size + 1) 0 5 5 ⟨b, off, none⟩ n cap rfl rfl _ _ HH.out ((vlst c n).map vI) ((len_vlst c n).trans (Nat.min_eq_left hn).symm) (src_vlst HC.out) (fit5 c hn) (one_vlst c n) ?_; have s0 := HS.out 0 (by omega); have s1 := HS.out 1 (by omega); have s2 := HS.out 2 (by omega); have s3 := HS.out 3 (by omega); have s4 := HS.out 4 (by omega); have hU := HU.out ((#[Value.int .i64 0, .int .i64 0, .int .i64 0, .int .i64 0, .int .i64 0] : Array Value).toList.take 0 ++ ((vlst c n).map vI ++ (#[Value.int .i64 0, .int .i64 0, .int .i64 0, .int .i64 0, .int .i64 0] : Array Value).toList.drop (0 + ((vlst c n).map vI).length))).toArray; replace z0 := (hU.cell (p := ⟨w.heap.size, 0, none⟩) (Nat.lt_succ_self _)).trans z0; replace z1 := (hU.cell (p := ⟨w.heap.size, 1, none⟩) (Nat.lt_succ_self _)).trans z1; replace z2 := (hU.cell (p := ⟨w.heap.size, 2, none⟩) (Nat.lt_succ_self _)).trans z2; replace z3 := (hU.cell (p := ⟨w.heap.size, 3, none⟩) (Nat.lt_succ_self _)).trans z3; replace z4 := (hU.cell (p := ⟨w.heap.size, 4, none⟩) (Nat.lt_succ_self _)).trans z4; replace f0 := (hU.frozen (p := ⟨w.heap.size, 0, none⟩) (Nat.lt_succ_self _)).trans f0; replace f1 := (hU.frozen (p := ⟨w.heap.size, 1, none⟩) (Nat.lt_succ_self _)).trans f1; replace f2 := (hU.frozen (p := ⟨w.heap.size, 2, none⟩) (Nat.lt_succ_self _)).trans f2; replace f3 := (hU.frozen (p := ⟨w.heap.size, 3, none⟩) (Nat.lt_succ_self _)).trans f3; replace f4 := (hU.frozen (p := ⟨w.heap.size, 4, none⟩) (Nat.lt_succ_self _)).trans f4; have HB2 := Lib.hid (HB.out.trans (hU.mono (Nat.le_succ _))); clear hU HS HU HB HH HC; generalize ((w.alloc (.cells #[.int .i64 0, .int .i64 0, .int .i64 0, .int .i64 0, .int .i64 0] 69)).alloc (.cells #[.int .i64 0, .int .i64 0, .int .i64 0, .int .i64 0, .int .i64 0] 69)).setRow (w.heap.size + 1) ((#[Value.int .i64 0, .int .i64 0, .int .i64 0, .int .i64 0, .int .i64 0] : Array Value).toList.take 0 ++ ((vlst c n).map vI ++ (#[Value.int .i64 0, .int .i64 0, .int .i64 0, .int .i64 0, .int .i64 0] : Array Value).toList.drop (0 + ((vlst c n).map vI).length))).toArray = W5 at *)
  refine bodyPost_ret (v := arr5 (cvV n c)) (by simp [results, Try.results47, go_sem, z0, z1, z2, z3, z4, arr5]) rfl ?_
  refine ⟨rfl, ?_⟩
  exact ((((HB2.out.setCell (p := ⟨w.heap.size, 0, none⟩) (Nat.le_refl _) _).setCell (p := ⟨w.heap.size, 1, none⟩) (Nat.le_refl _) _).setCell (p := ⟨w.heap.size, 2, none⟩) (Nat.le_refl _) _).setCell (p := ⟨w.heap.size, 3, none⟩) (Nat.le_refl _) _).setCell (p := ⟨w.heap.size, 4, none⟩) (Nat.le_refl _) _
end Go.Proofs.Ytafiikfaeomhpaa

namespace Go.Proofs.Ytafiikfaeomhpaa
open Go.ChangeShapes Go.WideShapes Go.ChangeAt Go.RowKit

theorem at_cell {W : World} {H j : Nat} {u : Nat → Int} (h0 : W.cell? ⟨H, 0, none⟩ = some (.int .i64 (u 0))) (h1 : W.cell? ⟨H, 1, none⟩ = some (.int .i64 (u 1))) (h2 : W.cell? ⟨H, 2, none⟩ = some (.int .i64 (u 2))) (h3 : W.cell? ⟨H, 3, none⟩ = some (.int .i64 (u 3))) (h4 : W.cell? ⟨H, 4, none⟩ = some (.int .i64 (u 4))) (hj : j < 5) : W.cell? ⟨H, j, none⟩ = some (.int .i64 (u j)) := by
  have : j = 0 ∨ j = 1 ∨ j = 2 ∨ j = 3 ∨ j = 4 := by omega
  rcases this with rfl | rfl | rfl | rfl | rfl
  · exact h0
  · exact h1
  · exact h2
  · exact h3
  · exact h4

set_option maxRecDepth 100000 in
set_option maxHeartbeats 1600000 in
theorem at_any (v : Lst) (cap : Nat) (A : Option Addr) (u : Nat → Int) (w : World) (hn : v.n ≤ 1048576) (hx : ∀ i, i < v.n → 0 ≤ v.x i ∧ v.x i < 5) (hr : RdI w w.heap.size A v.n v.x) :
    Calls Try.prog 115 #[arr5 u, .slice A v.n cap] w fun e w' => ∃ G, e = .returned (.slice (some ⟨G, 0, none⟩) v.n v.n) ∧ w.heap.size ≤ G ∧ OwnI w' G v.n v.n (pk v u) ∧ Below w.heap.size w w' := by
  obtain ⟨n, x⟩ := v
  simp only at hn hx hr ⊢
  obtain ⟨i0, hi, hz0, hz1, hz2⟩ := info_parts Try.infoInt
  have hmk := fun W => run_make (P := Try.prog) W 22 3 i0 _ Try.underlying22 hi hz0 .i64 .i64 (n : Int) n (by omega) (by omega) (by rw [hz2]; omega) (by omega)
  rw [hz1] at hmk
  have HXx := Lib.hid hx
  have hb1 := bl_alloc (Below.refl w.heap.size w) (.cells #[.int .i64 (u 0), .int .i64 (u 1), .int .i64 (u 2), .int .i64 (u 3), .int .i64 (u 4)] 69)
  have HB := Lib.hid hb1
  have HR := Lib.hid (hr.later hb1)
  have a0 : (w.alloc (.cells #[.int .i64 (u 0), .int .i64 (u 1), .int .i64 (u 2), .int .i64 (u 3), .int .i64 (u 4)] 69)).cell? ⟨w.heap.size, 0, none⟩ = some (.int .i64 (u 0)) := by go_simp
  have a1 : (w.alloc (.cells #[.int .i64 (u 0), .int .i64 (u 1), .int .i64 (u 2), .int .i64 (u 3), .int .i64 (u 4)] 69)).cell? ⟨w.heap.size, 1, none⟩ = some (.int .i64 (u 1)) := by go_simp
  have a2 : (w.alloc (.cells #[.int .i64 (u 0), .int .i64 (u 1), .int .i64 (u 2), .int .i64 (u 3), .int .i64 (u 4)] 69)).cell? ⟨w.heap.size, 2, none⟩ = some (.int .i64 (u 2)) := by go_simp
  have a3 : (w.alloc (.cells #[.int .i64 (u 0), .int .i64 (u 1), .int .i64 (u 2), .int .i64 (u 3), .int .i64 (u 4)] 69)).cell? ⟨w.heap.size, 3, none⟩ = some (.int .i64 (u 3)) := by go_simp
  have a4 : (w.alloc (.cells #[.int .i64 (u 0), .int .i64 (u 1), .int .i64 (u 2), .int .i64 (u 3), .int .i64 (u 4)] 69)).cell? ⟨w.heap.size, 4, none⟩ = some (.int .i64 (u 4)) := by go_simp
  have hsz : (w.alloc (.cells #[.int .i64 (u 0), .int .i64 (u 1), .int .i64 (u 2), .int .i64 (u 3), .int .i64 (u 4)] 69)).heap.size = w.heap.size + 1 := by simp
  have HSz := Lib.hid hsz
  have HA := Lib.hid (fun j (hj : j < 5) => at_cell (j := j) a0 a1 a2 a3 a4 hj)
  clear hi hz0 hz1 hz2 hx hr hb1 a0 a1 a2 a3 a4 hsz
  unfold arr5
  go_enter Try.func115, Try.ntmps115
  go_wp2_with fail
  generalize (w.alloc (.cells #[.int .i64 (u 0), .int .i64 (u 1), .int .i64 (u 2), .int .i64 (u 3), .int .i64 (u 4)] 69)) = W1 at *
  rw [← HSz.out]
  go_loopw [13] (fun i wr => ∃ k : Nat, k ≤ n ∧ i = .int .i64 k ∧ OwnI wr W1.heap.size n k (pk ⟨n, x⟩ u) ∧ Below W1.heap.size W1 wr) (fun i _ => n - (intOf i).toNat)
  case atStart => exact ⟨0, Nat.zero_le _, rfl, ⟨_, heap_alloc_new _ _, by simp [size_madeCells], fun i hi => absurd hi (by omega)⟩, bl_alloc (Below.refl _ _) _⟩
  case round =>
    obtain ⟨k, hk, rfl, hown, hb⟩ := hrel
    by_cases hlt : k < n
    · obtain ⟨b, off, rfl, hbl, hc⟩ := (HR.out.below hb) (by omega)
      have hc1 := hc k hlt
      obtain ⟨hx0, hx5⟩ := HXx.out k hlt
      obtain ⟨j, hj⟩ : ∃ j : Nat, x k = (j : Int) := ⟨(x k).toNat, by omega⟩
      have hj5 : j < 5 := by omega
      have hc2 := kc hb (HA.out j hj5)
      have Hpk := Lib.hid (show pk ⟨n, x⟩ u k = u j from by unfold pk; simp only; rw [hj]; rfl)
      rw [hj] at hc1
      obtain ⟨y1, hy1⟩ := hown.cell hlt
      have hf1 := hown.frozen k
      have hj0 : (0 : Int) ≤ (j : Int) := by omega
      have hj5' : (j : Int) < 5 := by omega
      have Hput := Lib.hid (hown.put hlt)
      rw [Hpk.out] at Hput
      have HBk := Lib.hid hb
      have hltI : (k : Int) < (n : Int) := by omega
      have hk0 : (0 : Int) ≤ (k : Int) := by omega
      clear hc hmk hj hx0 hx5 hown hb
      go_wp2
      go_roundw
      case rel => exact ⟨k + 1, by omega, by go_num, Hput.out, HBk.out.setCell (Nat.le_refl _) _⟩
      case measure => simp [intOf]; omega
    · have e : k = n := by omega
      subst e
      go_wp2
      go_ret
      exact ⟨_, rfl, by rw [HSz.out]; omega, hown, HB.out.trans (hb.mono (by rw [HSz.out]; omega))⟩
end Go.Proofs.Ytafiikfaeomhpaa

namespace Go.Proofs.Ytafiikfaeomhpaa
open Go.ChangeShapes Go.WideShapes Go.ChangeAt Go.RowKit

theorem hold1 {k bd : Int} {v c : Lst} {n : Nat} {r : Nat → Lst} {u : Nat → Int} (h : k = 1) : holdB ⟨k, v, c, bd, n, r⟩ u = decide (bd ≤ linS c.x (pk v u) v.n) := by unfold holdB; simp [h]
theorem hold2 {k bd : Int} {v c : Lst} {n : Nat} {r : Nat → Lst} {u : Nat → Int} (h : k = 2) : holdB ⟨k, v, c, bd, n, r⟩ u = prE (newB (pk v u)) v.n := by unfold holdB; simp [h]
theorem hold4 {k bd : Int} {v c : Lst} {n : Nat} {r : Nat → Lst} {u : Nat → Int} (h : k = 4) : holdB ⟨k, v, c, bd, n, r⟩ u = decide (pk v u 0 < pk v u 1) := by unfold holdB; simp [h]
theorem hold3 {k bd : Int} {v c : Lst} {n : Nat} {r : Nat → Lst} {u : Nat → Int} (h : k = 3) : holdB ⟨k, v, c, bd, n, r⟩ u = anyQ (fun j => lsE (r j) ⟨v.n, pk v u⟩) n := by unfold holdB; simp [h]

end Go.Proofs.Ytafiikfaeomhpaa

namespace Go.Proofs.Ytafiikfaeomhpaa
open Go.ChangeShapes Go.WideShapes Go.ChangeAt Go.RowKit

set_option maxRecDepth 100000 in
set_option maxHeartbeats 1600000 in
theorem indexRowG_any (f : Nat) (lb : Array Value) (A : Option Addr) (n cap : Nat) (r : Nat → Lst) (b : Nat → Bool) (w : World) (hn : n ≤ 1048576) (hr : RdL w w.heap.size A n r)
    (ef : ∀ args w, (callFunc f args).run Try.prog w = .ok (.enter f args) w)
    (hf : ∀ (k : Nat) (Ai : Option Addr) (ci : Nat) (X : World), k < n → Below w.heap.size w X → RdI X X.heap.size Ai (r k).n (r k).x → Calls Try.prog f (#[.slice Ai (r k).n ci] ++ lb) X fun e X' => e = .returned (.bool (b k)) ∧ Below X.heap.size X X') :
    Calls Try.prog 177 #[.slice A n cap, .func (.func f) #[] lb] w fun e w' => ∃ m : Int, e = .returned (.int .i64 m) ∧ decide (0 ≤ m) = anyQ b n ∧ Below w.heap.size w w' := by
  go_enter Try.func177, Try.ntmps177
  go_wp2
  go_loopw [8] (fun i wr => ∃ k : Nat, k ≤ n ∧ i = .int .i64 k ∧ anyQ b k = false ∧ Below w.heap.size w wr) (fun i _ => n - (intOf i).toNat)
  case atStart => exact ⟨0, Nat.zero_le _, rfl, rfl, Below.refl _ _⟩
  case round =>
    obtain ⟨k, hk, rfl, hp, hb⟩ := hrel
    have Hp := Lib.hid hp
    clear hp
    by_cases hlt : k < n
    · obtain ⟨bb, off, rfl, hbl, hc⟩ := (hr.below hb) (by omega)
      obtain ⟨Ai, ci, hc1, hrk⟩ := hc k hlt
      have Hcall := Lib.hid (hf k Ai ci wr hlt hb (hrk.more hb.size))
      clear hc hr hf hrk
      cases hq : b k with
      | true =>
        have Hfin := Lib.hid (show decide (0 ≤ (k : Int)) = anyQ b n from by rw [anyQ_of hlt hq]; simp)
        rw [hq] at Hcall
        clear hq
        go_wp2_with fail
        refine Hcall.out.mono ?_
        rintro e w1 ⟨rfl, hb1⟩
        go_wp2
        go_ret
        exact ⟨_, rfl, Hfin.out, hb.trans (hb1.mono hb.size)⟩
      | false =>
        have Hno := Lib.hid (anyQ_step Hp.out hq)
        rw [hq] at Hcall
        clear hq
        go_wp2_with fail
        refine Hcall.out.mono ?_
        rintro e w1 ⟨rfl, hb1⟩
        go_wp2
        go_roundw
        case rel => exact ⟨k + 1, by omega, by go_num, Hno.out, hb.trans (hb1.mono hb.size)⟩
        case measure => simp [intOf]; omega
    · have e : k = n := by omega
      subst e
      go_wp2
      go_ret
      exact ⟨-1, rfl, by rw [Hp.out]; rfl, hb⟩

set_option maxRecDepth 100000 in
set_option maxHeartbeats 800000 in
theorem containsRowG_any (f : Nat) (lb : Array Value) (A : Option Addr) (n cap : Nat) (r : Nat → Lst) (b : Nat → Bool) (w : World) (hn : n ≤ 1048576) (hr : RdL w w.heap.size A n r)
    (ef : ∀ args w, (callFunc f args).run Try.prog w = .ok (.enter f args) w)
    (hf : ∀ (k : Nat) (Ai : Option Addr) (ci : Nat) (X : World), k < n → Below w.heap.size w X → RdI X X.heap.size Ai (r k).n (r k).x → Calls Try.prog f (#[.slice Ai (r k).n ci] ++ lb) X fun e X' => e = .returned (.bool (b k)) ∧ Below X.heap.size X X') :
    Calls Try.prog 176 #[.slice A n cap, .func (.func f) #[] lb] w fun e w' => e = .returned (.bool (anyQ b n)) ∧ Below w.heap.size w w' := by
  have Hc := Lib.hid (indexRowG_any f lb A n cap r b w hn hr ef hf)
  clear hf ef hr
  go_enter Try.func176, Try.ntmps176
  go_wp2_with fail
  refine Hc.out.mono ?_
  rintro e w1 ⟨m, rfl, hm, hb⟩
  have Hm := Lib.hid hm
  clear hm
  go_wp2
  go_ret
  exact ⟨ret_bool Hm.out, hb⟩

/-- What a rule that has a kind is as a value of its type: its type, its value, its test. -/
structure Typed (k : Int) (a : Value) (u : Nat → Int) (B : Bool) (w : World) : Prop where
  go : ∃ (T : TypeId) (X : Value) (f : Nat), tyV k a = .iface T X ∧ (∀ w : World, (method 308 T X "loop.example/cuttingplanes/impl.check").run Try.prog w = .ok (f, X) w) ∧ (∀ args w, (callFunc f args).run Try.prog w = .ok (.enter f args) w) ∧ (∀ w : World, (nilAhead (Try.prog.types.size + Made.depth) T X "loop.example/cuttingplanes/impl.check").run Try.prog w = .ok (some false) w) ∧
    ∀ W, Below w.heap.size w W → Calls Try.prog f #[X, arr5 u] W fun e w' => e = .returned (.bool B) ∧ Below W.heap.size W w'

end Go.Proofs.Ytafiikfaeomhpaa

namespace Go.Proofs.Ytafiikfaeomhpaa
open Go.ChangeShapes Go.WideShapes Go.ChangeAt Go.RowKit

theorem linS_congr {a p p' : Nat → Int} {k : Nat} (h : ∀ i, i < k → p i = p' i) : linS a p k = linS a p' k := by
  induction k with
  | zero => rfl
  | succ k ih =>
    unfold linS
    rw [ih fun i hi => h i (by omega), h k (by omega)]
theorem prE_congr {e e' : Nat → Bool} {k : Nat} (h : ∀ i, i < k → e i = e' i) : prE e k = prE e' k := by
  induction k with
  | zero => rfl
  | succ k ih =>
    unfold prE
    rw [ih fun i hi => h i (by omega), h k (by omega)]
theorem anyQ_congr {e e' : Nat → Bool} {k : Nat} (h : ∀ i, i < k → e i = e' i) : anyQ e k = anyQ e' k := by
  induction k with
  | zero => rfl
  | succ k ih =>
    unfold anyQ
    rw [ih fun i hi => h i (by omega), h k (by omega)]
theorem newB_congr {p p' : Nat → Int} {n : Nat} (h : ∀ i, i < n → p i = p' i) : prE (newB p) n = prE (newB p') n := by
  refine prE_congr fun i hi => ?_
  unfold newB
  exact prE_congr fun k hk => by rw [h k (by omega), h i hi]
theorem lsE_congr {l : Lst} {p p' : Nat → Int} {n : Nat} (h : ∀ i, i < n → p i = p' i) : lsE l ⟨n, p⟩ = lsE l ⟨n, p'⟩ := by
  unfold lsE
  by_cases e : l.n = n
  · rw [e]
    have : prE (fun i => l.x i == p i) n = prE (fun i => l.x i == p' i) n := prE_congr fun i hi => by rw [h i hi]
    simp only [this]
  · have : (l.n == n) = false := by rw [beq_eq_false_iff_ne]; exact e
    simp only [this, Bool.false_and]
theorem hold_congr {cells : Nat} {q : Rul} {u u' : Nat → Int} (hok : RuleOk cells q) (h : ∀ i, i < cells → u i = u' i) : holdB q u = holdB q u' := by
  have hp : ∀ i, i < q.v.n → pk q.v u i = pk q.v u' i := fun i hi => by
    have := hok.at_ i hi
    exact h _ (by omega)
  obtain ⟨k, v, c, bd, n, r⟩ := q
  have htwo := hok.two
  rcases hok.kind with h1 | h1 | h1 | h1 <;> simp only at h1 hp htwo <;> subst h1
  · rw [hold1 rfl, hold1 rfl, linS_congr hp]
  · rw [hold2 rfl, hold2 rfl, newB_congr hp]
  · rw [hold3 rfl, hold3 rfl]
    exact anyQ_congr fun j _ => lsE_congr hp
  · have h2 := htwo rfl
    rw [hold4 rfl, hold4 rfl, hp 0 (by omega), hp 1 (by omega)]
theorem cvV_at {n i : Nat} {c : Nat → Int} (h : i < n) : cvV n c i = c i := by unfold cvV; rw [if_pos h]
theorem cvV_cel {n : Nat} {c : Nat → Int} (h : CelV n c) : CelV n (cvV n c) := fun i hi => by rw [cvV_at hi]; exact h i hi

/-- What RuleHolds answers. -/
def rhB (s : Lst) (n : Nat) (q : Nat → Rul) (c : Lst) (rule : Int) : Bool := cvB s n q c && (decide (0 ≤ rule) && (decide (rule < n) && holdB (q rule.toNat) c.x))
/-- Cells satisfy all rules. -/
def solB (n : Nat) (q : Nat → Rul) (u : Nat → Int) : Bool := prE (fun i => holdB (q i) u) n
/-- What SolvesModel answers. -/
def smB (s : Lst) (n : Nat) (q : Nat → Rul) (c : Lst) : Bool := cvB s n q c && solB n q c.x
/-- Valid cells of a valid model. -/
structure CelOk (s : Lst) (n : Nat) (q : Nat → Rul) (c : Lst) : Prop where
  one : 1 ≤ s.n
  five : s.n ≤ 5
  sizes : prE (fun i => betB 0 3 (s.x i)) s.n = true
  sum : tS s.x s.n ≤ 12
  eight : n ≤ 8
  rules : ∀ i, i < n → RuleOk s.n (q i)
  len : c.n = s.n
  cel : CelV s.n c.x
theorem cv_ok {s : Lst} {n : Nat} {q : Nat → Rul} {c : Lst} (h : cvB s n q c = true) : CelOk s n q c := by
  unfold cvB at h
  rw [Bool.and_eq_true] at h
  obtain ⟨h1, h2, h3, h4, h5, h6⟩ := mod_parts h.1
  obtain ⟨h7, h8⟩ := cels_cel h.2 h3
  exact ⟨h1, h2, h3, h4, h5, fun i hi => rule_ok (h6 i hi), h7, h8⟩
end Go.Proofs.Ytafiikfaeomhpaa

namespace Go.Proofs.Ytafiikfaeomhpaa
open Go.ChangeShapes Go.WideShapes Go.ChangeAt Go.RowKit

theorem run_nilCheck {P : Program} {a : Act} {o : Oper} {x : Operand} {T : TypeId} {X : Value} {name : String} {w : World} (ho : o.op = .nilCheck x) (hx : a.eval x = .func (.method name) #[.iface T X] #[]) (hn : (nilAhead (P.types.size + Made.depth) T X name).run P w = .ok (some false) w) :
    (execOp a.eval o).run P w = .ok (.value (.func (.method name) #[.iface T X] #[])) w := by
  unfold execOp
  simp only [ho, hx]
  have h0 : (#[Value.iface T X][0]? : Option Value) = some (Value.iface T X) := rfl
  simp only [h0]
  have hp : (program).run P w = .ok P w := rfl
  simp [Sem.run_bind, hp, hn, Result.andThen]
end Go.Proofs.Ytafiikfaeomhpaa

namespace Go.Proofs.Ytafiikfaeomhpaa
open Go.ChangeShapes Go.WideShapes Go.ChangeAt Go.RowKit

end Go.Proofs.Ytafiikfaeomhpaa

namespace Go.Proofs.Ytafiikfaeomhpaa
open Go.ChangeShapes Go.WideShapes Go.ChangeAt Go.RowKit

end Go.Proofs.Ytafiikfaeomhpaa

namespace Go.Proofs.Ytafiikfaeomhpaa
open Go.ChangeShapes Go.WideShapes Go.ChangeAt Go.RowKit

theorem solB_not (n : Nat) (q : Nat → Rul) (u : Nat → Int) : anyQ (fun i => !holdB (q i) u) n = !solB n q u := anyQ_prE n

end Go.Proofs.Ytafiikfaeomhpaa

namespace Go.Proofs.Ytafiikfaeomhpaa
open Go.ChangeShapes Go.WideShapes Go.ChangeAt Go.RowKit

theorem tS_mono {x : Nat → Int} {k n : Nat} (hk : k ≤ n) (h : prE (fun i => betB 0 3 (x i)) n = true) : tS x k ≤ tS x n := by
  induction n with
  | zero => obtain rfl : k = 0 := by omega
            exact Int.le_refl _
  | succ n ih =>
    by_cases e : k = n + 1
    · subst e; exact Int.le_refl _
    · have h1 := ih (by omega) (prE_le h (by omega))
      have h2 := prE_at h (show n < n + 1 by omega)
      simp [betB] at h2
      show _ ≤ tS x n + x n + 1
      omega
/-- The Booleans of the first k cells. -/
def eb (x c : Nat → Int) (k p : Nat) : Bool := anyQ (fun i => decide ((p : Int) = c i + tS x i)) k
theorem eb_zero (x c : Nat → Int) (p : Nat) : eb x c 0 p = false := rfl
theorem eb_hit {x c : Nat → Int} {k p : Nat} (h : c k + tS x k = (p : Int)) : eb x c (k + 1) p = true := by
  unfold eb
  rw [show anyQ (fun i => decide ((p : Int) = c i + tS x i)) (k + 1) = (anyQ (fun i => decide ((p : Int) = c i + tS x i)) k || decide ((p : Int) = c k + tS x k)) from rfl, h]
  simp
theorem eb_miss {x c : Nat → Int} {k p i : Nat} (h : c k + tS x k = (p : Int)) (hi : i ≠ p) : eb x c (k + 1) i = eb x c k i := by
  unfold eb
  rw [show anyQ (fun j => decide ((i : Int) = c j + tS x j)) (k + 1) = (anyQ (fun j => decide ((i : Int) = c j + tS x j)) k || decide ((i : Int) = c k + tS x k)) from rfl, h]
  simp [show ¬ (i : Int) = (p : Int) by omega]
/-- What EncodeCells answers. -/
def ecN (s : Lst) (n : Nat) (q : Nat → Rul) (c : Lst) : Nat := if cvB s n q c then 12 else 0
theorem ecN_le (s : Lst) (n : Nat) (q : Nat → Rul) (c : Lst) : ecN s n q c ≤ 1048576 := by unfold ecN; split <;> omega
theorem sresB_zero {w : World} {n : Nat} {v v' : Nat → Bool} {ok : Bool} {e : Ending} {w' : World} (hn : n = 0) (h : SResB w n v ok e w') : SResB w n v' ok e w' := by
  obtain ⟨A, cap, he, _, hb⟩ := h
  exact ⟨A, cap, he, .inl hn, hb⟩
theorem OwnVb.set_ {w : World} {G n j : Nat} {T : TypeId} {v v' : Nat → Bool} (h : OwnVb w G T n n v) (b : Bool) (e : v' j = b) (he : ∀ i, i ≠ j → v' i = v i) : OwnVb (w.setCell ⟨G, j, none⟩ (.bool b)) G T n n v' := by
  obtain ⟨cs, hh, h1, h2⟩ := h
  refine ⟨cs.setIfInBounds j (.bool b), ?_, by simp [h1], fun i hi => ?_⟩
  · simp [World.setCell, Array.getElem?_modify, hh]
  · simp only [Array.getElem?_setIfInBounds]
    by_cases e1 : i = j
    · subst e1
      rw [if_pos rfl, if_pos (by omega), e]
    · rw [if_neg (by omega), he i e1]
      exact h2 i hi
theorem ownVb_made {w : World} : OwnVb (w.alloc (.cells (madeCells #[Value.bool false] 12) 4)) w.heap.size 4 12 12 (fun _ => false) := by
  have h : (madeCells #[Value.bool false] 12).toList = List.replicate 12 (.bool false) := toList_madeCells_one (.bool false) 12
  refine ⟨_, heap_alloc_new _ _, ?_, fun i hi => ?_⟩
  · rw [← Array.length_toList, h]; simp
  · rw [← Array.getElem?_toList, h, List.getElem?_replicate, if_pos hi]
theorem cv_le {s : Lst} {n : Nat} {q : Nat → Rul} {c : Lst} (h : cvB s n q c = true) : ∀ i, i < s.n → c.x i ≤ s.x i := fun i hi => by
  unfold cvB celsB at h
  simp only [Bool.and_eq_true] at h
  have := prE_at h.2.2 hi
  simp [betB] at this
  exact this.2

set_option linter.unusedSimpArgs false in
set_option maxRecDepth 100000 in
set_option maxHeartbeats 3200000 in
theorem specEnc_any (s c : Lst) (n : Nat) (q : Nat → Rul) (As Ar Ac : Option Addr) (cs cr cc : Nat) (w : World) (p1 : s.n ≤ 1048576) (p2 : c.n ≤ 1048576) (p3 : n ≤ 1048576) (p4 : ∀ i, i < n → (q i).fit 1048576) (hs : RdI w w.heap.size As s.n s.x) (hr : RdRs w w.heap.size Ar n q) (hc : RdI w w.heap.size Ac c.n c.x) :
    Calls Try.prog 58 #[.agg #[.slice As s.n cs, .slice Ar n cr], .slice Ac c.n cc] w (SResB w (ecN s n q c) (eb s.x c.x s.n) (cvB s n q c)) := by
  have HS := Lib.hid hs
  have HR := Lib.hid hr
  have HC := Lib.hid hc
  have P4 := Lib.hid p4
  clear hs hr hc p4
  obtain ⟨i0, hi, hz0, hz1, hz2⟩ := info_parts Try.infoBool
  have hmk := fun W => run_make (P := Try.prog) W 45 4 i0 _ Try.underlying45 hi hz0 .i64 .i64 12 12 (by omega) (by omega) (by rw [hz2]; omega) (by omega)
  rw [hz1] at hmk
  clear hi hz0 hz1 hz2
  have HA := Lib.hid (bl_alloc (Below.refl w.heap.size w))
  go_enter Try.func58, Try.ntmps58
  go_wp2_with fail
  have a0 : (w.alloc (.cells #[.slice As s.n cs, .slice Ar n cr] 30)).cell? ⟨w.heap.size, 0, none⟩ = some (.slice As s.n cs) := by go_simp
  have a1 : (w.alloc (.cells #[.slice As s.n cs, .slice Ar n cr] 30)).cell? ⟨w.heap.size, 1, none⟩ = some (.slice Ar n cr) := by go_simp
  have HB := Lib.hid (HA.out (.cells #[.slice As s.n cs, .slice Ar n cr] 30))
  clear HA
  generalize (w.alloc (.cells #[.slice As s.n cs, .slice Ar n cr] 30)) = w1 at *
  refine (specCells_any s c n q _ _ _ _ _ _ _ p1 p2 p3 P4.out (HS.out.later HB.out) (HR.out.later HB.out) (HC.out.later HB.out)).mono ?_
  rintro e w2 ⟨rfl, hb⟩
  have HB2 := Lib.hid (bl_trans HB.out hb)
  replace a0 := kc hb a0
  replace a1 := kc hb a1
  clear hb HB
  cases hm : cvB s n q c with
  | false =>
    have Hn := Lib.hid (show ecN s n q c = 0 from by unfold ecN; rw [hm]; rfl)
    have Hm := Lib.hid hm
    clear hm
    go_wp2
    refine bodyPost_ret (v := .tuple #[.slice (some ⟨w2.heap.size, 0, none⟩) 0 0, .bool false]) (by simp [results, Try.results58, go_sem]) rfl ?_
    exact ⟨_, _, by rw [Hn.out, Hm.out], .inl Hn.out, bl_trans HB2.out (bl_alloc (Below.refl _ _) _)⟩
  | true =>
    have Hn := Lib.hid (show ecN s n q c = 12 from by unfold ecN; rw [hm]; rfl)
    have Hle := Lib.hid (cv_le hm)
    have Ok := Lib.hid (cv_ok hm)
    have hlen := Ok.out.len
    have Hm := Lib.hid hm
    clear hm
    have hx := HC.out.later HB2.out
    rw [hlen] at hx
    have HX := Lib.hid hx
    clear hx
    have HS2 := Lib.hid (HS.out.later HB2.out)
    obtain ⟨H, hHe⟩ : ∃ H, w.heap.size = H := ⟨_, rfl⟩
    have hHl : H < w2.heap.size := by rw [← hHe]; exact World.block_lt_of_cell? w2 _ a0
    have HH := Lib.hid hHe
    rw [hHe] at a0 a1 ⊢
    clear hHe
    go_wp2
    have Made := Lib.hid (ownVb_made (w := w2))
    go_loopw [7] (fun i wr => ∃ k : Nat, k ≤ s.n ∧ i = .int .i64 k ∧ OwnVb wr w2.heap.size 4 12 12 (eb s.x c.x k) ∧ Below w2.heap.size w2 wr) (fun i _ => s.n - (intOf i).toNat)
    case atStart => exact ⟨0, Nat.zero_le _, rfl, Made.out, bl_alloc (Below.refl _ _) _⟩
    case round =>
      obtain ⟨k, hk, rfl, hown, hb⟩ := hrel
      replace a0 := kc hb a0
      replace a1 := kc hb a1
      by_cases hlt : k < s.n
      · obtain ⟨b, off, rfl, hbl, hc⟩ := (HX.out.below hb) (by omega)
        have c1 := hc k hlt
        clear hc
        have hsz := size_at Ok.out.sizes hlt
        have hcel := Ok.out.cel k hlt
        have hcv : c.x k ≤ s.x k := Hle.out k hlt
        have hT0 := (tS_bd (prE_le Ok.out.sizes (show k ≤ s.n by omega))).1
        have hT1 := tS_mono (show k + 1 ≤ s.n by omega) Ok.out.sizes
        have hT2 : tS s.x (k + 1) = tS s.x k + s.x k + 1 := rfl
        have hT3 := Ok.out.sum
        obtain ⟨p, hp⟩ : ∃ p : Nat, c.x k + tS s.x k = (p : Int) := ⟨(c.x k + tS s.x k).toNat, by omega⟩
        have hp12 : p < 12 := by omega
        have Hset := Lib.hid (fun W (h : OwnVb W w2.heap.size 4 12 12 (eb s.x c.x k)) => h.set_ (v' := eb s.x c.x (k + 1)) (j := p) true (eb_hit hp) (fun i hi => eb_miss hp hi))
        have Hown := Lib.hid hown
        have HBk := Lib.hid hb
        have hlt' : (k : Int) < (s.n : Int) := by omega
        have hk0 : (0 : Int) ≤ (k : Int) := by omega
        have hp0 : (0 : Int) ≤ (p : Int) := by omega
        have hp1 : (p : Int) < 12 := by omega
        have hw : IntKind.i64.wrap (1 + c.x k + tS s.x k - 1) = (p : Int) := by rw [show 1 + c.x k + tS s.x k - 1 = (p : Int) by omega]; exact IntWalk.i64_in _ (by omega)
        have hv3 : 0 ≤ c.x k ∧ c.x k ≤ 3 := hcel
        obtain ⟨y, hy⟩ : ∃ y, 1 + c.x k + tS s.x k = y := ⟨_, rfl⟩
        rw [hy] at hw
        have Hy := Lib.hid hy
        have hy1 : 1 ≤ y := by omega
        have hyp : y = (p : Int) + 1 := by omega
        subst hyp
        clear hown hb hsz hT0 hT1 hT2 hT3 hcv hy hp hw hcel
        have hw : IntKind.i64.wrap ((p : Int) + 1 - 1) = (p : Int) := by rw [Int.add_sub_cancel]; exact IntWalk.i64_in _ (by omega)
        have hw2 : IntKind.i64.wrap (p : Int) = (p : Int) := IntWalk.i64_in _ (by omega)
        have hbG : b ≠ w2.heap.size := by omega
        go_upto_region 7 with fail
        refine wp_region_held_drew (S := fun w' => w'.cell? ⟨H, 0, none⟩ = some (.slice As s.n cs) ∧ w'.cell? ⟨H, 1, none⟩ = some (.slice Ar n cr) ∧ w'.cell? ⟨b, off + k, none⟩ = some (.int .i64 (c.x k))) (by kernel_rfl) ⟨by simpa using a0, by simpa using a1, by simpa using c1⟩ (fun hHeld => ?_)
        refine wpAnyH_take (i := 0) (v := .slice (some ⟨w2.heap.size, 0, none⟩) 12 12) rfl (by kernel_rfl) (by kernel_rfl) (by kernel_rfl) (fun _ _ _ h => h) (Or.inl ⟨by rfl, ?_⟩) (by assumption) ?_
        · intro w hSw; simp only [List.getElem_toArray, List.getElem_cons_zero, List.getElem_cons_succ]; (first | (go_simp; done) | rfl | kernel_rfl)
        try simp only [Act.put, List.getElem_toArray, List.getElem_cons_zero, List.getElem_cons_succ, List.setIfInBounds_toArray, List.set_cons_zero, List.set_cons_succ]
        refine wpAnyH_take (i := 1) (v := .agg #[.slice As s.n cs, .slice Ar n cr]) rfl (by kernel_rfl) (by kernel_rfl) (by kernel_rfl) (fun _ _ _ h => h) (Or.inl ⟨by rfl, ?_⟩) (by assumption) ?_
        · intro w hSw; obtain ⟨s0, s1, s2⟩ := hSw; simp only [List.getElem_toArray, List.getElem_cons_zero, List.getElem_cons_succ]; (first | (go_simp; done) | rfl | kernel_rfl)
        try simp only [Act.put, List.getElem_toArray, List.getElem_cons_zero, List.getElem_cons_succ, List.setIfInBounds_toArray, List.set_cons_zero, List.set_cons_succ]
        refine wpAnyH_take (i := 2) (v := .int .i64 k) rfl (by kernel_rfl) (by kernel_rfl) (by kernel_rfl) (fun _ _ _ h => h) (Or.inl ⟨by rfl, ?_⟩) (by assumption) ?_
        · intro w hSw; simp only [List.getElem_toArray, List.getElem_cons_zero, List.getElem_cons_succ]; (first | (go_simp; done) | rfl | kernel_rfl)
        try simp only [Act.put, List.getElem_toArray, List.getElem_cons_zero, List.getElem_cons_succ, List.setIfInBounds_toArray, List.set_cons_zero, List.set_cons_succ]
        refine wpAnyH_take (i := 3) (v := .slice (some ⟨b, off, none⟩) s.n cc) rfl (by kernel_rfl) (by kernel_rfl) (by kernel_rfl) (fun _ _ _ h => h) (Or.inl ⟨by rfl, ?_⟩) (by assumption) ?_
        · intro w hSw; simp only [List.getElem_toArray, List.getElem_cons_zero, List.getElem_cons_succ]; (first | (go_simp; done) | rfl | kernel_rfl)
        try simp only [Act.put, List.getElem_toArray, List.getElem_cons_zero, List.getElem_cons_succ, List.setIfInBounds_toArray, List.set_cons_zero, List.set_cons_succ]
        refine wpAnyH_take (i := 4) (v := .int .i64 k) rfl (by kernel_rfl) (by kernel_rfl) (by kernel_rfl) (fun _ _ _ h => h) (Or.inl ⟨by rfl, ?_⟩) (by assumption) ?_
        · intro w hSw; simp only [List.getElem_toArray, List.getElem_cons_zero, List.getElem_cons_succ]; (first | (go_simp; done) | rfl | kernel_rfl)
        try simp only [Act.put, List.getElem_toArray, List.getElem_cons_zero, List.getElem_cons_succ, List.setIfInBounds_toArray, List.set_cons_zero, List.set_cons_succ]
        refine wpAnyH_take (i := 5) (v := .pointer (some ⟨b, off + k, none⟩)) rfl (by kernel_rfl) (by kernel_rfl) (by kernel_rfl) (fun _ _ _ h => h) (Or.inl ⟨by rfl, ?_⟩) (by assumption) ?_
        · intro w hSw; simp only [List.getElem_toArray, List.getElem_cons_zero, List.getElem_cons_succ]; (first | (go_simp; done) | rfl | kernel_rfl)
        try simp only [Act.put, List.getElem_toArray, List.getElem_cons_zero, List.getElem_cons_succ, List.setIfInBounds_toArray, List.set_cons_zero, List.set_cons_succ]
        refine wpAnyH_take (i := 6) (v := .int .i64 (c.x k)) rfl (by kernel_rfl) (by kernel_rfl) (by kernel_rfl) (fun _ _ _ h => h) (Or.inl ⟨by rfl, ?_⟩) (by assumption) ?_
        · intro w hSw; obtain ⟨s0, s1, s2⟩ := hSw; simp only [List.getElem_toArray, List.getElem_cons_zero, List.getElem_cons_succ]; (first | (go_simp; done) | rfl | kernel_rfl)
        try simp only [Act.put, List.getElem_toArray, List.getElem_cons_zero, List.getElem_cons_succ, List.setIfInBounds_toArray, List.set_cons_zero, List.set_cons_succ]
        clear hHeld
        refine wpAnyH_ready (rs := [7]) (by kernel_rfl) (by simp) ?_
        refine AllReadyH.cons rfl (fun K hK => ?_) AllReadyH.nil
        simp only [List.getElem_toArray, List.getElem_cons_zero, List.getElem_cons_succ]
        go_simp
        go_at_call 64
        refine (l7Var_any s n _ _ _ _ k (c.x k) _ Ok.out.five (by omega) hv3 Ok.out.sizes (HS2.out.later (HBk.out.drew))).mono ?_
        rintro e w5 ⟨rfl, hb⟩
        rw [Hy.out]
        have hbd := bl_trans (Below.refl wr.heap.size wr).drew hb
        have HB5 := Lib.hid (HBk.out.trans (hbd.mono HBk.out.size))
        have Hown5 := Lib.hid (Hown.out.below hbd)
        replace a0 := kc hbd a0
        replace a1 := kc hbd a1
        replace c1 := kc hbd c1
        clear hb hbd Hown
        refine hK.out _ _ ⟨a0, a1, c1⟩ (fun hHeld => ?_)
        clear hK K
        try simp only [Act.put, List.getElem_toArray, List.getElem_cons_zero, List.getElem_cons_succ, List.setIfInBounds_toArray, List.set_cons_zero, List.set_cons_succ]
        refine wpAnyH_take (i := 8) (v := .int .i64 p) rfl (by kernel_rfl) (by kernel_rfl) (by kernel_rfl) (fun _ _ _ h => h) (Or.inl ⟨by rfl, ?_⟩) (by assumption) ?_
        · intro w hSw; simp only [List.getElem_toArray, List.getElem_cons_zero, List.getElem_cons_succ]; (first | (go_simp; done) | rfl | kernel_rfl)
        try simp only [Act.put, List.getElem_toArray, List.getElem_cons_zero, List.getElem_cons_succ, List.setIfInBounds_toArray, List.set_cons_zero, List.set_cons_succ]
        refine wpAnyH_take (i := 9) (v := .pointer (some ⟨w2.heap.size, p, none⟩)) rfl (by kernel_rfl) (by kernel_rfl) (by kernel_rfl) (fun _ _ _ h => h) (Or.inl ⟨by rfl, ?_⟩) (by assumption) ?_
        · intro w hSw; simp only [List.getElem_toArray, List.getElem_cons_zero, List.getElem_cons_succ]; (first | (go_simp; done) | rfl | kernel_rfl)
        try simp only [Act.put, List.getElem_toArray, List.getElem_cons_zero, List.getElem_cons_succ, List.setIfInBounds_toArray, List.set_cons_zero, List.set_cons_succ]
        obtain ⟨y9, hy9⟩ := Hown5.out.cell hp12
        have hf9 := Hown5.out.frozen p
        clear hHeld
        refine wpAnyH_ready (rs := [10]) (by kernel_rfl) (by simp) ?_
        refine AllReadyH.cons rfl (fun K hK => ?_) AllReadyH.nil
        simp only [List.getElem_toArray, List.getElem_cons_zero, List.getElem_cons_succ]
        go_simp
        refine hK.out _ _ ⟨?_, ?_, ?_⟩ (fun hHeld => ?_)
        · exact (World.cell?_setCell_other _ _ _ _ (fun e => by injection e with e1 e2 _; omega)).trans a0
        · exact (World.cell?_setCell_other _ _ _ _ (fun e => by injection e with e1 e2 _; omega)).trans a1
        · exact (World.cell?_setCell_other _ _ _ _ (fun e => by injection e with e1 e2 _; omega)).trans c1
        clear hK K
        try simp only [Act.put, List.getElem_toArray, List.getElem_cons_zero, List.getElem_cons_succ, List.setIfInBounds_toArray, List.set_cons_zero, List.set_cons_succ]
        refine wpAnyH_done (by kernel_rfl) ?_ _
        go_wp2
        go_roundw
        case rel => exact ⟨k + 1, by omega, by go_num, Hset.out _ Hown5.out, HB5.out.setCell (Nat.le_refl _) _⟩
        case measure => simp [intOf]; omega
      · have e : k = s.n := by omega
        subst e
        have Hown := Lib.hid hown
        have HBk := Lib.hid hb
        clear hown hb
        go_wp2
        refine bodyPost_ret (v := .tuple #[.slice (some ⟨w2.heap.size, 0, none⟩) 12 12, .bool true]) (by simp [results, Try.results58, go_sem]) rfl ?_
        exact ⟨_, _, by rw [Hn.out, Hm.out], .inr ⟨w2.heap.size, rfl, HB2.out.size, by rw [Hn.out]; exact Hown.out⟩, HB2.out.trans (HBk.out.mono HB2.out.size)⟩
end Go.Proofs.Ytafiikfaeomhpaa

namespace Go.Proofs.Ytafiikfaeomhpaa
open Go.ChangeShapes Go.WideShapes Go.ChangeAt Go.RowKit

set_option linter.unusedSimpArgs false in
set_option maxRecDepth 100000 in
set_option maxHeartbeats 3200000 in
theorem implEnc_any (s c : Lst) (n : Nat) (q : Nat → Rul) (As Ar Ac : Option Addr) (cs cr cc : Nat) (w : World) (p1 : s.n ≤ 1048576) (p2 : c.n ≤ 1048576) (p3 : n ≤ 1048576) (p4 : ∀ i, i < n → (q i).fit 1048576) (hs : RdI w w.heap.size As s.n s.x) (hr : RdRs w w.heap.size Ar n q) (hc : RdI w w.heap.size Ac c.n c.x) :
    Calls Try.prog 27 #[.agg #[.slice As s.n cs, .slice Ar n cr], .slice Ac c.n cc] w (SResB w (ecN s n q c) (eb s.x c.x s.n) (cvB s n q c)) := by
  have HS := Lib.hid hs
  have HR := Lib.hid hr
  have HC := Lib.hid hc
  have P4 := Lib.hid p4
  clear hs hr hc p4
  obtain ⟨i0, hi, hz0, hz1, hz2⟩ := info_parts Try.infoBool
  have hmk := fun W => run_make (P := Try.prog) W 45 4 i0 _ Try.underlying45 hi hz0 .i64 .i64 12 12 (by omega) (by omega) (by rw [hz2]; omega) (by omega)
  rw [hz1] at hmk
  clear hi hz0 hz1 hz2
  have HA := Lib.hid (bl_alloc (Below.refl w.heap.size w))
  go_enter Try.func27, Try.ntmps27
  go_wp2_with fail
  have a0 : (w.alloc (.cells #[.slice As s.n cs, .slice Ar n cr] 30)).cell? ⟨w.heap.size, 0, none⟩ = some (.slice As s.n cs) := by go_simp
  have a1 : (w.alloc (.cells #[.slice As s.n cs, .slice Ar n cr] 30)).cell? ⟨w.heap.size, 1, none⟩ = some (.slice Ar n cr) := by go_simp
  have HB := Lib.hid (HA.out (.cells #[.slice As s.n cs, .slice Ar n cr] 30))
  clear HA
  generalize (w.alloc (.cells #[.slice As s.n cs, .slice Ar n cr] 30)) = w1 at *
  refine (implCells_any s c n q _ _ _ _ _ _ _ p1 p2 p3 P4.out (HS.out.later HB.out) (HR.out.later HB.out) (HC.out.later HB.out)).mono ?_
  rintro e w2 ⟨rfl, hb⟩
  have HB2 := Lib.hid (bl_trans HB.out hb)
  replace a0 := kc hb a0
  replace a1 := kc hb a1
  clear hb HB
  cases hm : cvB s n q c with
  | false =>
    have Hn := Lib.hid (show ecN s n q c = 0 from by unfold ecN; rw [hm]; rfl)
    have Hm := Lib.hid hm
    clear hm
    go_wp2
    refine bodyPost_ret (v := .tuple #[.slice none 0 0, .bool false]) (by simp [results, Try.results27, go_sem]) rfl ?_
    exact ⟨_, _, by rw [Hn.out, Hm.out], .inl Hn.out, HB2.out⟩
  | true =>
    have Hn := Lib.hid (show ecN s n q c = 12 from by unfold ecN; rw [hm]; rfl)
    have Hle := Lib.hid (cv_le hm)
    have Ok := Lib.hid (cv_ok hm)
    have hlen := Ok.out.len
    have Hm := Lib.hid hm
    clear hm
    go_wp2_with fail
    refine (newEnc_any s n _ _ _ _ _ Ok.out.five Ok.out.sizes (HS.out.later HB2.out)).mono ?_
    rintro e w3 ⟨A, cap, rfl, hF, hb⟩
    have HB3 := Lib.hid (bl_trans HB2.out hb)
    have HF := Lib.hid hF.rdAt
    clear hb hF a0 a1 HB2
    have hx := HC.out.later HB3.out
    rw [hlen] at hx
    have HX := Lib.hid hx
    clear hx
    have hal := bl_alloc (Below.refl w3.heap.size w3) (.cells #[.slice As s.n cs, .slice Ar n cr, .slice A (s.n + 1) cap] 82)
    have e0 : (w3.alloc (.cells #[.slice As s.n cs, .slice Ar n cr, .slice A (s.n + 1) cap] 82)).cell? ⟨w3.heap.size, 0, none⟩ = some (.slice As s.n cs) := by go_simp
    have e1 : (w3.alloc (.cells #[.slice As s.n cs, .slice Ar n cr, .slice A (s.n + 1) cap] 82)).cell? ⟨w3.heap.size, 1, none⟩ = some (.slice Ar n cr) := by go_simp
    have e2 : (w3.alloc (.cells #[.slice As s.n cs, .slice Ar n cr, .slice A (s.n + 1) cap] 82)).cell? ⟨w3.heap.size, 2, none⟩ = some (.slice A (s.n + 1) cap) := by go_simp
    have hsz : (w3.alloc (.cells #[.slice As s.n cs, .slice Ar n cr, .slice A (s.n + 1) cap] 82)).heap.size = w3.heap.size + 1 := by simp
    have HSz := Lib.hid hsz
    have HB4 := Lib.hid (bl_trans HB3.out hal)
    have HF4 := Lib.hid (HF.out.later hal)
    have HX4 := Lib.hid (HX.out.later hal)
    clear hal hsz HF HX HB3
    go_wp2
    generalize (w3.alloc (.cells #[.slice As s.n cs, .slice Ar n cr, .slice A (s.n + 1) cap] 82)) = w4 at *
    rw [← HSz.out]
    obtain ⟨P, hP⟩ : ∃ P, w3.heap.size = P := ⟨_, rfl⟩
    have hP4 : P < w4.heap.size := by rw [HSz.out]; omega
    rw [hP] at e0 e1 e2 ⊢
    clear hP
    have Made := Lib.hid (ownVb_made (w := w4))
    go_loopw [19] (fun i wr => ∃ k : Nat, k ≤ s.n ∧ i = .int .i64 k ∧ OwnVb wr w4.heap.size 4 12 12 (eb s.x c.x k) ∧ Below w4.heap.size w4 wr) (fun i _ => s.n - (intOf i).toNat)
    case atStart => exact ⟨0, Nat.zero_le _, rfl, Made.out, bl_alloc (Below.refl _ _) _⟩
    case round =>
      obtain ⟨k, hk, rfl, hown, hb⟩ := hrel
      replace e0 := kc hb e0
      replace e1 := kc hb e1
      replace e2 := kc hb e2
      by_cases hlt : k < s.n
      · obtain ⟨b, off, rfl, hbl, hc⟩ := (HX4.out.below hb) (by omega)
        have c1 := hc k hlt
        have hsz := size_at Ok.out.sizes hlt
        have hcel := Ok.out.cel k hlt
        have hcv : c.x k ≤ s.x k := Hle.out k hlt
        have hT0 := (tS_bd (prE_le Ok.out.sizes (show k ≤ s.n by omega))).1
        have hT1 := tS_mono (show k + 1 ≤ s.n by omega) Ok.out.sizes
        have hT2 : tS s.x (k + 1) = tS s.x k + s.x k + 1 := rfl
        have hT3 := Ok.out.sum
        obtain ⟨p, hp⟩ : ∃ p : Nat, c.x k + tS s.x k = (p : Int) := ⟨(c.x k + tS s.x k).toNat, by omega⟩
        have hp12 : p < 12 := by omega
        have Hset := Lib.hid (fun W (h : OwnVb W w4.heap.size 4 12 12 (eb s.x c.x k)) => h.set_ (v' := eb s.x c.x (k + 1)) (j := p) true (eb_hit hp) (fun i hi => eb_miss hp hi))
        have Hown := Lib.hid hown
        have HBk := Lib.hid hb
        have hlt' : (k : Int) < (s.n : Int) := by omega
        have hk0 : (0 : Int) ≤ (k : Int) := by omega
        have hp0 : (0 : Int) ≤ (p : Int) := by omega
        have hp1 : (p : Int) < 12 := by omega
        have hv3 : 0 ≤ c.x k ∧ c.x k ≤ 1000 := by omega
        have ht3 : 0 ≤ tS s.x k ∧ tS s.x k ≤ 1000 := by omega
        have Hy := Lib.hid (show 1 + c.x k + tS s.x k = (p : Int) + 1 by omega)
        clear hown hb hc hsz hT0 hT1 hT2 hT3 hcv hp hcel
        go_wp2_with fail
        refine (encVar_any As Ar A s.n cs n cr (s.n + 1) cap (tS s.x) k (c.x k) _ (by have := Ok.out.five; omega) (by omega) hv3 ht3 (HF4.out.later HBk.out)).mono ?_
        rintro e w5 ⟨rfl, hb⟩
        rw [Hy.out]
        have HB5 := Lib.hid (HBk.out.trans (hb.mono HBk.out.size))
        have Hown5 := Lib.hid (Hown.out.below hb)
        replace e0 := kc hb e0
        replace e1 := kc hb e1
        replace e2 := kc hb e2
        clear hb Hown
        obtain ⟨y9, hy9⟩ := Hown5.out.cell hp12
        have hf9 := Hown5.out.frozen p
        go_wp2
        go_roundw
        case rel => exact ⟨k + 1, by omega, by go_num, Hset.out _ Hown5.out, HB5.out.setCell (Nat.le_refl _) _⟩
        case measure => simp [intOf]; omega
      · have e : k = s.n := by omega
        subst e
        have Hown := Lib.hid hown
        have HBk := Lib.hid hb
        clear hown hb
        go_wp2
        refine bodyPost_ret (v := .tuple #[.slice (some ⟨w4.heap.size, 0, none⟩) 12 12, .bool true]) (by simp [results, Try.results27, go_sem]) rfl ?_
        exact ⟨_, _, by rw [Hn.out, Hm.out], .inr ⟨w4.heap.size, rfl, HB4.out.size, by rw [Hn.out]; exact Hown.out⟩, HB4.out.trans (HBk.out.mono HB4.out.size)⟩
end Go.Proofs.Ytafiikfaeomhpaa

namespace Go.Proofs.Ytafiikfaeomhpaa
open Go.ChangeShapes Go.WideShapes Go.ChangeAt Go.RowKit

/-- How many of the first k are true; the last one of them. -/
def cntB (e : Nat → Bool) : Nat → Nat
  | 0 => 0
  | k + 1 => if e k then cntB e k + 1 else cntB e k
def lstB (e : Nat → Bool) : Nat → Int
  | 0 => -1
  | k + 1 => if e k then k else lstB e k
section
variable {e : Nat → Bool}
theorem cnt_yes {k : Nat} (h : e k = true) : cntB e (k + 1) = cntB e k + 1 := if_pos h
theorem cnt_no {k : Nat} (h : e k = false) : cntB e (k + 1) = cntB e k := if_neg (by rw [h]; decide)
theorem lst_yes {k : Nat} (h : e k = true) : lstB e (k + 1) = k := if_pos h
theorem lst_no {k : Nat} (h : e k = false) : lstB e (k + 1) = lstB e k := if_neg (by rw [h]; decide)
theorem cnt_le (k : Nat) : cntB e k ≤ k := by
  induction k with
  | zero => exact Nat.le_refl _
  | succ k ih =>
    cases h : e k with
    | true => rw [cnt_yes h]; omega
    | false => rw [cnt_no h]; omega
theorem cnt_mono {k n : Nat} (hk : k ≤ n) : cntB e k ≤ cntB e n := by
  induction n with
  | zero => obtain rfl : k = 0 := by omega
            exact Nat.le_refl _
  | succ n ih =>
    by_cases e1 : k = n + 1
    · subst e1; exact Nat.le_refl _
    · have := ih (by omega)
      cases h : e n with
      | true => rw [cnt_yes h]; omega
      | false => rw [cnt_no h]; omega
theorem cnt_stay {f n : Nat} (hf : f ≤ n) (h : ∀ j, f ≤ j → j < n → e j = false) : cntB e n = cntB e f ∧ lstB e n = lstB e f := by
  induction n with
  | zero => obtain rfl : f = 0 := by omega
            exact ⟨rfl, rfl⟩
  | succ n ih =>
    by_cases e1 : f = n + 1
    · subst e1; exact ⟨rfl, rfl⟩
    · obtain ⟨h1, h2⟩ := ih (by omega) (fun j a b => h j a (by omega))
      have hn := h n (by omega) (by omega)
      rw [cnt_no hn, lst_no hn]
      exact ⟨h1, h2⟩
theorem lst_bd (k : Nat) : -1 ≤ lstB e k ∧ lstB e k < k := by
  induction k with
  | zero => exact ⟨Int.le_refl _, show (-1 : Int) < ((0 : Nat) : Int) by omega⟩
  | succ k ih =>
    cases h : e k with
    | true => rw [lst_yes h]; omega
    | false => rw [lst_no h]; omega
/-- None is true. -/
theorem cnt_none {n : Nat} (h : ∀ j, j < n → e j = false) : cntB e n = 0 := (cnt_stay (Nat.zero_le n) fun j _ hj => h j hj).1
/-- One is true, and no later one. -/
theorem cnt_one {f n : Nat} (hf : f < n) (h0 : ∀ j, j < f → e j = false) (h1 : e f = true) (h2 : ∀ j, f < j → j < n → e j = false) : cntB e n = 1 ∧ lstB e n = f := by
  obtain ⟨a, b⟩ := cnt_stay (e := e) (show f + 1 ≤ n by omega) (fun j x y => h2 j (by omega) y)
  rw [a, b, cnt_yes h1, lst_yes h1, cnt_none h0]
  exact ⟨rfl, rfl⟩
/-- One is true, and a later one. -/
theorem cnt_two {f g n : Nat} (h1 : e f = true) (hg : f < g) (hn : g < n) (h2 : e g = true) : 2 ≤ cntB e n := by
  have a := cnt_mono (e := e) (show f + 1 ≤ g by omega)
  have b := cnt_mono (e := e) (show g + 1 ≤ n by omega)
  rw [cnt_yes h1] at a
  rw [cnt_yes h2] at b
  omega
end
/-- The Booleans of a cell. -/
def winB (x : Nat → Int) (y : Nat → Bool) (i j : Nat) : Bool := y ((tS x i).toNat + j)
/-- How many values a cell has. -/
def szN (x : Nat → Int) (i : Nat) : Nat := (x i).toNat + 1
/-- A cell has one value; the value. -/
def okC (x : Nat → Int) (y : Nat → Bool) (i : Nat) : Bool := cntB (winB x y i) (szN x i) == 1
def valC (x : Nat → Int) (y : Nat → Bool) (i : Nat) : Int := lstB (winB x y i) (szN x i)
/-- What DecodeValues answers. -/
def dvB (s : Lst) (n : Nat) (q : Nat → Rul) (m : Nat) (y : Nat → Bool) : Bool := modB s n q && (m == 12 && prE (okC s.x y) s.n)
def dvN (s : Lst) (n : Nat) (q : Nat → Rul) (m : Nat) (y : Nat → Bool) : Nat := if dvB s n q m y then s.n else 0
theorem dvN_le {s : Lst} {n : Nat} {q : Nat → Rul} {m : Nat} {y : Nat → Bool} (h : s.n ≤ 1048576) : dvN s n q m y ≤ 1048576 := by unfold dvN; split <;> omega
/-- What a valid model's cells are. -/
structure ModOk (s : Lst) (n : Nat) (q : Nat → Rul) : Prop where
  one : 1 ≤ s.n
  five : s.n ≤ 5
  sizes : prE (fun i => betB 0 3 (s.x i)) s.n = true
  sum : tS s.x s.n ≤ 12
  eight : n ≤ 8
theorem mod_ok {s : Lst} {n : Nat} {q : Nat → Rul} (h : modB s n q = true) : ModOk s n q := by
  obtain ⟨h1, h2, h3, h4, h5, _⟩ := mod_parts h
  exact ⟨h1, h2, h3, h4, h5⟩
/-- Where a cell's Booleans lie: numbers. -/
theorem win_bd {s : Lst} {n : Nat} {q : Nat → Rul} (h : ModOk s n q) {i : Nat} (hi : i < s.n) : ∃ a z : Nat, tS s.x i = (a : Int) ∧ s.x i = (z : Int) ∧ tS s.x (i + 1) = (a : Int) + z + 1 ∧ a + z < 12 ∧ z ≤ 3 ∧ szN s.x i = z + 1 ∧ (tS s.x i).toNat = a := by
  have h1 := size_at h.sizes hi
  have h2 := (tS_bd (prE_le h.sizes (show i ≤ s.n by omega))).1
  have h3 := tS_mono (show i + 1 ≤ s.n by omega) h.sizes
  have h4 : tS s.x (i + 1) = tS s.x i + s.x i + 1 := rfl
  have h5 := h.sum
  refine ⟨(tS s.x i).toNat, (s.x i).toNat, by omega, by omega, by omega, by omega, by omega, rfl, rfl⟩
theorem sresI_cut {w : World} {n : Nat} {v v' : Nat → Int} {ok : Bool} {e : Ending} {w' : World} (h : SResI w n v ok e w') (hv : ∀ i, i < n → v i = v' i) : SResI w n v' ok e w' := by
  obtain ⟨A, cap, he, hf, hb⟩ := h
  exact ⟨A, cap, he, hf.congr hv, hb⟩
end Go.Proofs.Ytafiikfaeomhpaa

namespace Go.Proofs.Ytafiikfaeomhpaa
open Go.ChangeShapes Go.WideShapes Go.ChangeAt Go.RowKit

set_option maxRecDepth 100000 in
set_option maxHeartbeats 3200000 in
theorem specDec_any (s : Lst) (m : Nat) (y : Nat → Bool) (n : Nat) (q : Nat → Rul) (As Ar Ay : Option Addr) (cs cr cy : Nat) (w : World) (p1 : s.n ≤ 1048576) (p2 : m ≤ 1048576) (p3 : n ≤ 1048576) (p4 : ∀ i, i < n → (q i).fit 1048576) (hs : RdI w w.heap.size As s.n s.x) (hr : RdRs w w.heap.size Ar n q) (hy : RdB w w.heap.size Ay m y) :
    Calls Try.prog 26 #[.agg #[.slice As s.n cs, .slice Ar n cr], .slice Ay m cy] w (SResI w (dvN s n q m y) (valC s.x y) (dvB s n q m y)) := by
  have HS := Lib.hid hs
  have HR := Lib.hid hr
  have HY := Lib.hid hy
  have P4 := Lib.hid p4
  clear hs hr hy p4
  have HA := Lib.hid (bl_alloc (Below.refl w.heap.size w))
  have Hdv := Lib.hid (show ∀ z, dvB s n q m y = z ↔ (modB s n q && (m == 12 && prE (okC s.x y) s.n)) = z from fun z => Iff.rfl)
  have Hno := Lib.hid (show dvB s n q m y = false → dvN s n q m y = 0 from fun h => by unfold dvN; rw [h]; rfl)
  have Hyes := Lib.hid (show dvB s n q m y = true → dvN s n q m y = s.n from fun h => by unfold dvN; rw [h]; rfl)
  go_enter Try.func26, Try.ntmps26
  go_wp2_with fail
  have a0 : (w.alloc (.cells #[.slice As s.n cs, .slice Ar n cr] 30)).cell? ⟨w.heap.size, 0, none⟩ = some (.slice As s.n cs) := by go_simp
  have a1 : (w.alloc (.cells #[.slice As s.n cs, .slice Ar n cr] 30)).cell? ⟨w.heap.size, 1, none⟩ = some (.slice Ar n cr) := by go_simp
  have HB := Lib.hid (HA.out (.cells #[.slice As s.n cs, .slice Ar n cr] 30))
  clear HA
  generalize (w.alloc (.cells #[.slice As s.n cs, .slice Ar n cr] 30)) = w1 at *
  refine (specValidM_any s n q _ _ _ _ _ p1 p3 P4.out (HS.out.later HB.out) (HR.out.later HB.out)).mono ?_
  rintro e w2 ⟨rfl, hb⟩
  have HB2 := Lib.hid (bl_trans HB.out hb)
  replace a0 := kc hb a0
  replace a1 := kc hb a1
  clear hb HB
  cases hm : modB s n q with
  | false =>
    have Hd := Lib.hid ((Hdv.out false).2 (by rw [hm]; rfl))
    clear hm
    go_wp2
    refine bodyPost_ret (v := .tuple #[.slice (some ⟨w2.heap.size, 0, none⟩) 0 0, .bool false]) (by simp [results, Try.results26, go_sem]) rfl ?_
    exact ⟨_, _, by rw [Hno.out Hd.out, Hd.out], .inl (Hno.out Hd.out), bl_trans HB2.out (bl_alloc (Below.refl _ _) _)⟩
  | true =>
    have Hm := Lib.hid hm
    have Ok := Lib.hid (mod_ok hm)
    clear hm
    by_cases hm12 : (m : Int) ≠ 12
    · have Hd := Lib.hid ((Hdv.out false).2 (by rw [Hm.out]; simp [show ¬ m = 12 by omega]))
      have hm13 : ((m : Int) != 12) = true := by simpa using hm12
      go_wp2
      refine bodyPost_ret (v := .tuple #[.slice (some ⟨w2.heap.size, 0, none⟩) 0 0, .bool false]) (by simp [results, Try.results26, go_sem]) rfl ?_
      exact ⟨_, _, by rw [Hno.out Hd.out, Hd.out], .inl (Hno.out Hd.out), bl_trans HB2.out (bl_alloc (Below.refl _ _) _)⟩
    obtain rfl : m = 12 := by omega
    clear hm12
    have Hdp := Lib.hid (show ∀ z, prE (okC s.x y) s.n = z → dvB s n q 12 y = z from fun z h => (Hdv.out z).2 (by rw [Hm.out, h]; simp))
    have HS2 := Lib.hid (HS.out.later HB2.out)
    have HY2 := Lib.hid (HY.out.later HB2.out)
    obtain ⟨H, hHe⟩ : ∃ H, w.heap.size = H := ⟨_, rfl⟩
    have hHl : H < w2.heap.size := by rw [← hHe]; exact World.block_lt_of_cell? w2 _ a0
    rw [hHe] at a0 a1 ⊢
    have HHe := Lib.hid hHe
    clear hHe
    have Row0 := Lib.hid (row_lit0 (W := w2) (T := 3))
    have A0 := Lib.hid a0
    have A1 := Lib.hid a1
    go_wp2
    go_loopw [6, 7] (fun o i wr => ∃ (k : Nat) (ov : Value), ov = o ∧ k ≤ s.n ∧ i = .int .i64 k ∧ prE (okC s.x y) k = true ∧ RowAt w2 w2.heap.size 3 [] (vlst (valC s.x y) k) ov wr) (fun _ i _ => s.n - (intOf i).toNat)
    case atStart => exact ⟨0, _, rfl, Nat.zero_le _, rfl, rfl, Row0.out⟩
    case round =>
      obtain ⟨k, ov, rfl, hk, rfl, hok, hrow⟩ := hrel
      have Hok := Lib.hid hok
      have Row := Lib.hid hrow
      have hb := hrow.bel
      replace a0 := kc hb A0.out
      replace a1 := kc hb A1.out
      have HBr := Lib.hid hb
      clear hok hrow hb
      by_cases hlt : k < s.n
      · obtain ⟨a, z, ha, hz, hT, haz, hz3, hsz, hta⟩ := win_bd Ok.out hlt
        have Hsz := Lib.hid hsz
        have Hta := Lib.hid hta
        have Ha := Lib.hid ha
        obtain ⟨b, off, rfl, hbl, hc⟩ := (HS2.out.later HBr.out) (by omega)
        have c1 := hc k hlt
        rw [hz] at c1
        have hlt' : (k : Int) < (s.n : Int) := by omega
        have hk0 : (0 : Int) ≤ (k : Int) := by omega
        have HSr := Lib.hid (HS2.out.later HBr.out)
        have HYr := Lib.hid (HY2.out.later HBr.out)
        clear hc hsz hta ha hz hT
        obtain ⟨W3, rfl⟩ : ∃ X, X = wr := ⟨_, rfl⟩
        have a0' := Lib.hid a0
        have a1' := Lib.hid a1
        have c1' := Lib.hid c1
        go_wp2
        go_loopw [8, 9, 10] (fun v t i wr => ∃ j : Nat, j ≤ z + 1 ∧ i = .int .i64 j ∧ v = .int .i64 (lstB (winB s.x y k) j) ∧ t = .int .i64 (cntB (winB s.x y k) j) ∧ Below W3.heap.size W3 wr) (fun _ _ i _ => z + 1 - (intOf i).toNat)
        case atStart => exact ⟨0, Nat.zero_le _, rfl, rfl, rfl, Below.refl _ _⟩
        case round =>
          obtain ⟨j, hj, rfl, rfl, rfl, hb⟩ := hrel
          have a0 := kc hb a0'.out
          have a1 := kc hb a1'.out
          have c1 := kc hb c1'.out
          have hcl := cnt_le (e := winB s.x y k) j
          obtain ⟨hl0, hl1⟩ := lst_bd (e := winB s.x y k) j
          by_cases hjz : j < z + 1
          · obtain ⟨by_, oy, rfl, hby, hcy⟩ := (HYr.out.later hb) (by omega)
            have d1 := hcy (a + j) (by omega)
            have hwin : winB s.x y k j = y (a + j) := by unfold winB; rw [Hta.out]
            have hjz' : (j : Int) ≤ (z : Int) := by omega
            have hj0 : (0 : Int) ≤ (j : Int) := by omega
            have HBj := Lib.hid hb
            clear hcy hb
            go_wp2_with fail
            refine (l7Var_any s n _ _ _ _ k (j : Int) _ Ok.out.five (by omega) (by omega) Ok.out.sizes (HSr.out.later HBj.out)).mono ?_
            rintro e w5 ⟨rfl, hb⟩
            rw [Ha.out]
            have HB5 := Lib.hid (HBj.out.trans (hb.mono HBj.out.size))
            replace a0 := kc hb a0
            replace a1 := kc hb a1
            replace c1 := kc hb c1
            replace d1 := kc hb d1
            clear hb HBj
            have hw : IntKind.i64.wrap (1 + (j : Int) + (a : Int) - 1) = ((a + j : Nat) : Int) := by rw [show (1 + (j : Int) + (a : Int) - 1) = ((a + j : Nat) : Int) by omega]; exact IntWalk.i64_in _ (by omega)
            have hix : ((a + j : Nat) : Int) < 12 := by omega
            have hix0 : (0 : Int) ≤ ((a + j : Nat) : Int) := by omega
            cases hv : y (a + j) with
            | true =>
              rw [hv] at d1 hwin
              have Hc := Lib.hid (cnt_yes (e := winB s.x y k) hwin)
              have Hl := Lib.hid (lst_yes (e := winB s.x y k) hwin)
              clear hwin hv
              go_wp2
              go_roundw
              case rel => exact ⟨j + 1, by omega, by go_num, by rw [Hl.out], by rw [Hc.out]; go_num, HB5.out⟩
              case measure => simp [intOf]; omega
            | false =>
              rw [hv] at d1 hwin
              have Hc := Lib.hid (cnt_no (e := winB s.x y k) hwin)
              have Hl := Lib.hid (lst_no (e := winB s.x y k) hwin)
              clear hwin hv
              go_wp2
              go_roundw
              case rel => exact ⟨j + 1, by omega, by go_num, by rw [Hl.out], by rw [Hc.out], HB5.out⟩
              case measure => simp [intOf]; omega
          · have e1 : j = z + 1 := by omega
            subst e1
            have Hokc := Lib.hid (show okC s.x y k = (cntB (winB s.x y k) (z + 1) == 1) from by unfold okC; rw [Hsz.out])
            have Hval := Lib.hid (show lstB (winB s.x y k) (z + 1) = valC s.x y k from by unfold valC; rw [Hsz.out])
            have HBj := Lib.hid hb
            obtain ⟨cn, hcn⟩ : ∃ cn, cntB (winB s.x y k) (z + 1) = cn := ⟨_, rfl⟩
            rw [hcn] at Hokc hcl ⊢
            rw [Hval.out] at hl0 hl1 ⊢
            clear hb hcn
            by_cases h1 : (cn : Int) ≠ 1
            · have Hd := Lib.hid (Hdp.out false (prE_no hlt (by rw [Hokc.out, beq_eq_false_iff_ne]; omega)))
              have h1' : ((cn : Int) != 1) = true := by simpa using h1
              go_wp2
              refine bodyPost_ret (v := .tuple #[.slice (some ⟨wr.heap.size, 0, none⟩) 0 0, .bool false]) (by simp [results, Try.results26, go_sem]) rfl ?_
              refine ⟨_, _, by rw [Hno.out Hd.out, Hd.out], .inl (Hno.out Hd.out), ?_⟩
              first
                | exact bl_trans HB2.out (bl_trans HBr.out (bl_trans HBj.out (bl_alloc (Below.refl _ _) _)))
                | (rw [← HHe.out]; exact bl_trans HB2.out (bl_trans HBr.out (bl_trans HBj.out (bl_alloc (Below.refl _ _) _))))
            · have hcn1 : (cn : Int) = 1 := by omega
              have Hokk := Lib.hid (prE_yes Hok.out (show okC s.x y k = true by rw [Hokc.out, beq_iff_eq]; omega))
              have Hle := Lib.hid (show (vlst (valC s.x y) k).length ≤ 1048576 from by rw [vlst_length]; omega)
              have Hs := Lib.hid (show vlst (valC s.x y) k ++ [valC s.x y k] = vlst (valC s.x y) (k + 1) from rfl)
              have Row2 := Lib.hid (Row.out.below HBj.out)
              obtain ⟨vv, hvv⟩ : ∃ vv, valC s.x y k = vv := ⟨_, rfl⟩
              rw [hvv] at Hs hl0 hl1 ⊢
              clear hvv h1 hcl
              go_wp2_with (at_builtin; refine wpList_plain (by rfl) fun K' hK' => ?_; refine wp_rowI _ _ 22 (by rfl) Try.underlying22 Try.infoInt Row2.out (bl_alloc (Below.refl _ _) _) (by rfl) (by rfl) (heap_alloc_new _ _) Hle.out ?_; intro gg cap1 w9 hout; refine hK' _ _ ?_; clear hK' K')
              rw [Hs.out] at hout
              go_roundw
              case rel => exact ⟨k + 1, _, rfl, by omega, by go_num, Hokk.out, hout⟩
              case measure => simp [intOf]; omega
      · have e1 : k = s.n := by omega
        subst e1
        have Hd := Lib.hid (Hdp.out true Hok.out)
        obtain ⟨A2, cap2, hov, hF⟩ := Row.out.fr
        rw [vlst_length] at hov hF
        subst hov
        have HF := Lib.hid hF
        clear hF
        go_wp2
        refine bodyPost_ret (v := .tuple #[.slice A2 s.n cap2, .bool true]) (by simp [results, Try.results26, go_sem]) rfl ?_
        refine ⟨_, _, by rw [Hyes.out Hd.out, Hd.out], ?_, ?_⟩
        · rw [Hyes.out Hd.out]
          exact (HF.out.congr (fun i hi => gI_vlst hi)).more HB2.out.size
        · first
            | exact bl_trans HB2.out HBr.out
            | (rw [← HHe.out]; exact bl_trans HB2.out HBr.out)
end Go.Proofs.Ytafiikfaeomhpaa

namespace Go.Proofs.Ytafiikfaeomhpaa
open Go.ChangeShapes Go.WideShapes Go.ChangeAt Go.RowKit

/-- The first one that is true: -1 if none is. -/
def FstB (e : Nat → Bool) (n : Nat) (m : Int) : Prop := (m = -1 ∧ ∀ j, j < n → e j = false) ∨ ∃ f : Nat, f < n ∧ m = f ∧ e f = true ∧ ∀ j, j < f → e j = false

set_option maxRecDepth 100000 in
set_option maxHeartbeats 1600000 in
theorem indexTrue_any (A : Option Addr) (n cap : Nat) (e : Nat → Bool) (w : World) (hn : n ≤ 1048576) (hr : RdB w w.heap.size A n e) :
    Calls Try.prog 62 #[.slice A n cap, .bool true] w fun r w' => ∃ m : Int, r = .returned (.int .i64 m) ∧ FstB e n m ∧ Below w.heap.size w w' := by
  go_enter Try.func62, Try.ntmps62
  go_wp2
  go_loopw [8] (fun i wr => ∃ k : Nat, k ≤ n ∧ i = .int .i64 k ∧ (∀ j, j < k → e j = false) ∧ Below w.heap.size w wr) (fun i _ => n - (intOf i).toNat)
  case atStart => exact ⟨0, Nat.zero_le _, rfl, fun j hj => absurd hj (by omega), Below.refl _ _⟩
  case round =>
    obtain ⟨k, hk, rfl, hp, hb⟩ := hrel
    have Hp := Lib.hid hp
    clear hp
    by_cases hlt : k < n
    · obtain ⟨b, off, rfl, hbl, hc⟩ := (hr.below hb) (by omega)
      have hc1 := hc k hlt
      clear hc hr
      have hlt' : (k : Int) < (n : Int) := by omega
      have hk0 : (0 : Int) ≤ (k : Int) := by omega
      cases he : e k with
      | true =>
        have Hf := Lib.hid (show FstB e n (k : Int) from .inr ⟨k, hlt, rfl, he, Hp.out⟩)
        rw [he] at hc1
        clear he
        go_wp2_with fail
        try go_quiet (fail)
        try go_wp2
        go_ret
        exact ⟨_, rfl, Hf.out, by first | exact hb | exact bl_drewN hb _⟩
      | false =>
        have Hy := Lib.hid (show ∀ j, j < k + 1 → e j = false from fun j hj => by
          by_cases e1 : j = k
          · subst e1; exact he
          · exact Hp.out j (by omega))
        rw [he] at hc1
        clear he
        go_wp2_with fail
        try go_quiet (fail)
        try go_wp2
        go_roundw
        case rel => exact ⟨k + 1, by omega, by go_num, Hy.out, by first | exact hb | exact bl_drewN hb _⟩
        case measure => simp [intOf]; omega
    · have e1 : k = n := by omega
      subst e1
      go_wp2
      go_ret
      exact ⟨-1, rfl, .inl ⟨rfl, Hp.out⟩, hb⟩

set_option maxRecDepth 100000 in
set_option maxHeartbeats 1600000 in
theorem containsTrue_any (A : Option Addr) (n cap : Nat) (e : Nat → Bool) (w : World) (hn : n ≤ 1048576) (hr : RdB w w.heap.size A n e) :
    Calls Try.prog 63 #[.slice A n cap, .bool true] w fun r w' => ∃ b : Bool, r = .returned (.bool b) ∧ (b = false → ∀ j, j < n → e j = false) ∧ (b = true → ∃ j, j < n ∧ e j = true) ∧ Below w.heap.size w w' := by
  have Hc := Lib.hid (indexTrue_any A n cap e w hn hr)
  clear hr
  go_enter Try.func63, Try.ntmps63
  go_wp2_with fail
  refine Hc.out.mono ?_
  rintro r w1 ⟨m, rfl, hm, hb⟩
  rcases hm with ⟨rfl, hm⟩ | ⟨f, hf, rfl, h1, h2⟩
  · have Hm := Lib.hid hm
    clear hm
    go_wp2
    go_ret
    exact ⟨false, rfl, fun _ => Hm.out, fun h => by (cases h), hb⟩
  · have Hm := Lib.hid h1
    clear h1 h2
    go_wp2
    go_ret
    exact ⟨true, by first | rfl | (congr 2; simp), fun h => by (cases h), fun _ => ⟨f, hf, Hm.out⟩, hb⟩
end Go.Proofs.Ytafiikfaeomhpaa

namespace Go.Proofs.Ytafiikfaeomhpaa
open Go.ChangeShapes Go.WideShapes Go.ChangeAt Go.RowKit

/-- What a slice's part says: its Booleans. -/
theorem rdB_part {w : World} {B b off n k a : Nat} {y e : Nat → Bool} (hlt : b < B) (h : ∀ i, i < n → w.cell? ⟨b, off + i, none⟩ = some (.bool (y i))) (ha : a + k ≤ n) (he : ∀ j, j < k → e j = y (a + j)) : RdB w B (some ⟨b, off + a, none⟩) k e := fun _ =>
  ⟨b, off + a, rfl, hlt, fun j hj => by rw [he j hj, Nat.add_assoc]; exact h (a + j) (by omega)⟩

set_option linter.unusedSimpArgs false in
set_option maxRecDepth 100000 in
set_option maxHeartbeats 3200000 in
theorem implDec_any (s : Lst) (m : Nat) (y : Nat → Bool) (n : Nat) (q : Nat → Rul) (As Ar Ay : Option Addr) (cs cr cy : Nat) (w : World) (p1 : s.n ≤ 1048576) (p2 : m ≤ 1048576) (p3 : n ≤ 1048576) (p4 : ∀ i, i < n → (q i).fit 1048576) (hcy : m ≤ cy) (hs : RdI w w.heap.size As s.n s.x) (hr : RdRs w w.heap.size Ar n q) (hy : RdB w w.heap.size Ay m y) :
    Calls Try.prog 25 #[.agg #[.slice As s.n cs, .slice Ar n cr], .slice Ay m cy] w (SResI w (dvN s n q m y) (valC s.x y) (dvB s n q m y)) := by
  have HS := Lib.hid hs
  have HR := Lib.hid hr
  have HY := Lib.hid hy
  have P4 := Lib.hid p4
  clear hs hr hy p4
  have HA := Lib.hid (bl_alloc (Below.refl w.heap.size w))
  have Hdv := Lib.hid (show ∀ z, dvB s n q m y = z ↔ (modB s n q && (m == 12 && prE (okC s.x y) s.n)) = z from fun z => Iff.rfl)
  have Hno := Lib.hid (show dvB s n q m y = false → dvN s n q m y = 0 from fun h => by unfold dvN; rw [h]; rfl)
  have Hyes := Lib.hid (show dvB s n q m y = true → dvN s n q m y = s.n from fun h => by unfold dvN; rw [h]; rfl)
  obtain ⟨i0, hi, hz0, hz1, hz2⟩ := info_parts Try.infoInt
  have hmk0 := fun (k : Nat) (hk : k ≤ 5) (W : World) => run_make (P := Try.prog) W 22 3 i0 _ Try.underlying22 hi hz0 .i64 .i64 (k : Int) k (by omega) (by omega) (by rw [hz2]; omega) (by omega)
  rw [hz1] at hmk0
  have HMk := Lib.hid hmk0
  clear hi hz0 hz1 hz2 hmk0
  go_enter Try.func25, Try.ntmps25
  go_wp2_with fail
  have a0 : (w.alloc (.cells #[.slice As s.n cs, .slice Ar n cr] 30)).cell? ⟨w.heap.size, 0, none⟩ = some (.slice As s.n cs) := by go_simp
  have a1 : (w.alloc (.cells #[.slice As s.n cs, .slice Ar n cr] 30)).cell? ⟨w.heap.size, 1, none⟩ = some (.slice Ar n cr) := by go_simp
  have HB := Lib.hid (HA.out (.cells #[.slice As s.n cs, .slice Ar n cr] 30))
  clear HA
  generalize (w.alloc (.cells #[.slice As s.n cs, .slice Ar n cr] 30)) = w1 at *
  refine (implValidM_any s n q _ _ _ _ _ p1 p3 P4.out (HS.out.later HB.out) (HR.out.later HB.out)).mono ?_
  rintro e w2 ⟨rfl, hb⟩
  have HB2 := Lib.hid (bl_trans HB.out hb)
  replace a0 := kc hb a0
  replace a1 := kc hb a1
  clear hb HB
  cases hm : modB s n q with
  | false =>
    have Hd := Lib.hid ((Hdv.out false).2 (by rw [hm]; rfl))
    clear hm
    go_wp2
    refine bodyPost_ret (v := .tuple #[.slice none 0 0, .bool false]) (by simp [results, Try.results25, go_sem]) rfl ?_
    exact ⟨_, _, by rw [Hno.out Hd.out, Hd.out], .inl (Hno.out Hd.out), HB2.out⟩
  | true =>
    have Hm := Lib.hid hm
    have Ok := Lib.hid (mod_ok hm)
    clear hm
    by_cases hm12 : (m : Int) ≠ 12
    · have Hd := Lib.hid ((Hdv.out false).2 (by rw [Hm.out]; simp [show ¬ m = 12 by omega]))
      have hm13 : ((m : Int) != 12) = true := by simpa using hm12
      go_wp2
      refine bodyPost_ret (v := .tuple #[.slice none 0 0, .bool false]) (by simp [results, Try.results25, go_sem]) rfl ?_
      exact ⟨_, _, by rw [Hno.out Hd.out, Hd.out], .inl (Hno.out Hd.out), HB2.out⟩
    obtain rfl : m = 12 := by omega
    clear hm12
    have Hdp := Lib.hid (show ∀ z, prE (okC s.x y) s.n = z → dvB s n q 12 y = z from fun z h => (Hdv.out z).2 (by rw [Hm.out, h]; simp))
    have hmk := HMk.out s.n Ok.out.five
    have h5 := Ok.out.five
    go_wp2_with fail
    refine (newEnc_any s n _ _ _ _ _ Ok.out.five Ok.out.sizes (HS.out.later HB2.out)).mono ?_
    rintro e w3 ⟨A, cap, rfl, hF, hb⟩
    have HB3 := Lib.hid (bl_trans HB2.out hb)
    have HF := Lib.hid hF.rdAt
    have HY3 := Lib.hid (HY.out.later HB3.out)
    replace a0 := kc hb a0
    replace a1 := kc hb a1
    clear hb hF HB2
    have hfld : ∀ W : World, (Instr.field 82 (.agg #[.slice As s.n cs, .slice Ar n cr, .slice A (s.n + 1) cap]) 1).run Try.prog W = .ok (.slice A (s.n + 1) cap) W := fun _ => by kernel_rfl
    obtain ⟨H, hHe⟩ : ∃ H, w.heap.size = H := ⟨_, rfl⟩
    have HHe := Lib.hid hHe
    rw [hHe] at a0 a1 ⊢
    clear hHe
    go_wp2
    clear hfld hmk
    go_loopw [28] (fun i wr => ∃ k : Nat, k ≤ s.n ∧ i = .int .i64 k ∧ prE (okC s.x y) k = true ∧ OwnV wr w3.heap.size 3 s.n k (valC s.x y) ∧ Below w3.heap.size w3 wr) (fun i _ => s.n - (intOf i).toNat)
    case atStart => exact ⟨0, Nat.zero_le _, rfl, rfl, ⟨_, heap_alloc_new _ _, by simp [size_madeCells], fun i hi => absurd hi (by omega)⟩, bl_alloc (Below.refl _ _) _⟩
    case round =>
      obtain ⟨k, hk, rfl, hok, hown, hb⟩ := hrel
      have Hok := Lib.hid hok
      have Hown := Lib.hid hown
      have HBr := Lib.hid hb
      clear hok hown hb
      by_cases hlt : k < s.n
      · obtain ⟨a, z, ha, hz, hT, haz, hz3, hsz, hta⟩ := win_bd Ok.out hlt
        have Hsz := Lib.hid hsz
        have Hta := Lib.hid hta
        obtain ⟨b, off, rfl, hbl, hc⟩ := (HF.out.later HBr.out) (by omega)
        have c1 := hc k (by omega)
        have c2 := hc (k + 1) (by omega)
        rw [ha] at c1
        rw [hT] at c2
        obtain ⟨bY, oY, rfl, hbY, hcY⟩ := (HY3.out.later HBr.out) (by omega)
        have HW := Lib.hid (rdB_part (e := winB s.x y k) (k := z + 1) (a := a) hbY hcY (by omega) (fun j hj => by unfold winB; rw [hta]))
        have hlt' : (k : Int) < (s.n : Int) := by omega
        have hk0 : (0 : Int) ≤ (k : Int) := by omega
        have hk1 : (k : Int) < (s.n : Int) + 1 := by omega
        have hk2 : (k : Int) + 1 < (s.n : Int) + 1 := by omega
        have ha0 : (0 : Int) ≤ (a : Int) := by omega
        have hac : (a : Int) + (z : Int) + 1 ≤ (cy : Int) := by omega
        have hac2 : (a : Int) ≤ (a : Int) + (z : Int) + 1 := by omega
        clear hc hcY hsz hta ha hz hT
        go_wp2_with fail
        go_quiet (fail)
        rw [show a + z + 1 - a = z + 1 by omega]
        have HBd := Lib.hid (bl_drewN HBr.out nq)
        have hokd := bl_drewN (Below.refl wr.heap.size wr) nq
        have Hownd := Lib.hid (Hown.out.below hokd)
        have HWd := Lib.hid (HW.out.later hokd)
        clear hokd Hown HW HBr c1 c2
        generalize wr.drewN nq = wd at *
        go_wp2_with fail
        refine (indexTrue_any _ (z + 1) _ (winB s.x y k) _ (by omega) HWd.out).mono ?_
        rintro e w5 ⟨fm, rfl, hfm, hb⟩
        have HB5 := Lib.hid (HBd.out.trans (hb.mono HBd.out.size))
        have Hown5 := Lib.hid (Hownd.out.below hb)
        have HW5 := Lib.hid (HWd.out.later hb)
        clear hb Hownd HWd HBd
        have Hokc := Lib.hid (show okC s.x y k = (cntB (winB s.x y k) (z + 1) == 1) from by unfold okC; rw [Hsz.out])
        have Hval := Lib.hid (show lstB (winB s.x y k) (z + 1) = valC s.x y k from by unfold valC; rw [Hsz.out])
        rcases hfm with ⟨rfl, hnone⟩ | ⟨f, hf, rfl, hf1, hf0⟩
        · have Hd := Lib.hid (Hdp.out false (prE_no hlt (by rw [Hokc.out, cnt_none hnone]; rfl)))
          clear hnone
          go_wp2
          refine bodyPost_ret (v := .tuple #[.slice none 0 0, .bool false]) (by simp [results, Try.results25, go_sem]) rfl ?_
          refine ⟨_, _, by rw [Hno.out Hd.out, Hd.out], .inl (Hno.out Hd.out), ?_⟩
          first
            | exact bl_trans HB3.out HB5.out
            | (rw [← HHe.out]; exact bl_trans HB3.out HB5.out)
        · have Hf1 := Lib.hid hf1
          have Hf0 := Lib.hid hf0
          clear hf0 hf1
          have hfz : (f : Int) + 1 ≤ (z : Int) + 1 := by omega
          have hf00 : (0 : Int) ≤ (f : Int) := by omega
          go_wp2_with fail
          case inl h =>
            have hzf : z - f = 0 := by omega
            clear h
            have HRest := Lib.hid (show RdB w5 w5.heap.size (some ⟨bY, oY + a, none⟩) (z - f) (fun j => winB s.x y k (f + 1 + j)) from fun h => absurd h (by omega))
            have Hzf := Lib.hid hzf
            clear hzf
            refine (containsTrue_any (some ⟨bY, oY + a, none⟩) (z - f) _ (fun j => winB s.x y k (f + 1 + j)) _ (by omega) HRest.out).mono ?_
            rintro e w6 ⟨bb, rfl, hb0, hb1, hb⟩
            have HB6 := Lib.hid (HB5.out.trans (hb.mono HB5.out.size))
            have Hown6 := Lib.hid (Hown5.out.below hb)
            have Hb0 := Lib.hid hb0
            have Hb1 := Lib.hid hb1
            clear hb hb0 hb1 Hown5 HW5 HRest
            cases bb with
            | true =>
              have Hd := Lib.hid (Hdp.out false (prE_no hlt (by
                obtain ⟨j, hj, hj1⟩ := Hb1.out rfl
                have := cnt_two (e := winB s.x y k) (f := f) (g := f + 1 + j) (n := z + 1) Hf1.out (by omega) (by omega) hj1
                rw [Hokc.out, beq_eq_false_iff_ne]
                omega)))
              go_wp2
              refine bodyPost_ret (v := .tuple #[.slice none 0 0, .bool false]) (by simp [results, Try.results25, go_sem]) rfl ?_
              refine ⟨_, _, by rw [Hno.out Hd.out, Hd.out], .inl (Hno.out Hd.out), ?_⟩
              first
                | exact bl_trans HB3.out HB6.out
                | (rw [← HHe.out]; exact bl_trans HB3.out HB6.out)
            | false =>
              have hone := cnt_one (e := winB s.x y k) (n := z + 1) hf Hf0.out Hf1.out (fun j h1 h2 => by have := Hb0.out rfl (j - f - 1) (by omega); rw [show f + 1 + (j - f - 1) = j by omega] at this; exact this)
              have Hokk := Lib.hid (prE_yes Hok.out (show okC s.x y k = true by rw [Hokc.out, hone.1]; rfl))
              have hvf : valC s.x y k = (f : Int) := by rw [← Hval.out, hone.2]
              have hput := Hown6.out.put hlt
              rw [hvf] at hput
              have Hput := Lib.hid hput
              obtain ⟨y1, hy1⟩ := Hown6.out.cell hlt
              have hf1 := Hown6.out.frozen k
              clear hone hvf hput
              go_wp2
              go_roundw
              case rel => exact ⟨k + 1, by omega, by go_num, Hokk.out, Hput.out, HB6.out.setCell (Nat.le_refl _) _⟩
              case measure => simp [intOf]; omega
          case inr h =>
            clear h
            have HRest := Lib.hid (show RdB w5 w5.heap.size (some ⟨bY, oY + a + (f + 1), none⟩) (z - f) (fun j => winB s.x y k (f + 1 + j)) from by
              obtain ⟨b9, o9, e9, h9, c9⟩ := HW5.out (by omega)
              injection e9 with e9; injection e9 with e91 e92
              subst e91 e92
              exact rdB_part (n := z + 1) (k := z - f) (a := f + 1) (e := fun j => winB s.x y k (f + 1 + j)) h9 c9 (by omega) (fun j hj => rfl))
            refine (containsTrue_any (some ⟨bY, oY + a + (f + 1), none⟩) (z - f) _ (fun j => winB s.x y k (f + 1 + j)) _ (by omega) HRest.out).mono ?_
            rintro e w6 ⟨bb, rfl, hb0, hb1, hb⟩
            have HB6 := Lib.hid (HB5.out.trans (hb.mono HB5.out.size))
            have Hown6 := Lib.hid (Hown5.out.below hb)
            have Hb0 := Lib.hid hb0
            have Hb1 := Lib.hid hb1
            clear hb hb0 hb1 Hown5 HW5 HRest
            cases bb with
            | true =>
              have Hd := Lib.hid (Hdp.out false (prE_no hlt (by
                obtain ⟨j, hj, hj1⟩ := Hb1.out rfl
                have := cnt_two (e := winB s.x y k) (f := f) (g := f + 1 + j) (n := z + 1) Hf1.out (by omega) (by omega) hj1
                rw [Hokc.out, beq_eq_false_iff_ne]
                omega)))
              go_wp2
              refine bodyPost_ret (v := .tuple #[.slice none 0 0, .bool false]) (by simp [results, Try.results25, go_sem]) rfl ?_
              refine ⟨_, _, by rw [Hno.out Hd.out, Hd.out], .inl (Hno.out Hd.out), ?_⟩
              first
                | exact bl_trans HB3.out HB6.out
                | (rw [← HHe.out]; exact bl_trans HB3.out HB6.out)
            | false =>
              have hone := cnt_one (e := winB s.x y k) (n := z + 1) hf Hf0.out Hf1.out (fun j h1 h2 => by have := Hb0.out rfl (j - f - 1) (by omega); rw [show f + 1 + (j - f - 1) = j by omega] at this; exact this)
              have Hokk := Lib.hid (prE_yes Hok.out (show okC s.x y k = true by rw [Hokc.out, hone.1]; rfl))
              have hvf : valC s.x y k = (f : Int) := by rw [← Hval.out, hone.2]
              have hput := Hown6.out.put hlt
              rw [hvf] at hput
              have Hput := Lib.hid hput
              obtain ⟨y1, hy1⟩ := Hown6.out.cell hlt
              have hf1 := Hown6.out.frozen k
              clear hone hvf hput
              go_wp2
              go_roundw
              case rel => exact ⟨k + 1, by omega, by go_num, Hokk.out, Hput.out, HB6.out.setCell (Nat.le_refl _) _⟩
              case measure => simp [intOf]; omega
      · have e1 : k = s.n := by omega
        subst e1
        have Hd := Lib.hid (Hdp.out true Hok.out)
        go_wp2
        refine bodyPost_ret (v := .tuple #[.slice (some ⟨w3.heap.size, 0, none⟩) s.n s.n, .bool true]) (by simp [results, Try.results25, go_sem]) rfl ?_
        refine ⟨_, _, by rw [Hyes.out Hd.out, Hd.out], .inr ⟨w3.heap.size, rfl, ?_, by rw [Hyes.out Hd.out]; exact Hown.out⟩, ?_⟩
        · first | exact HB3.out.size | (rw [← HHe.out]; exact HB3.out.size)
        · first
            | exact bl_trans HB3.out HBr.out
            | (rw [← HHe.out]; exact bl_trans HB3.out HBr.out)
end Go.Proofs.Ytafiikfaeomhpaa

namespace Go.Proofs.Ytafiikfaeomhpaa
open Go.ChangeShapes Go.WideShapes Go.ChangeAt Go.RowKit

def SResBc (w : World) (n : Nat) (v : Nat → Bool) (ok : Bool) (e : Ending) (w' : World) : Prop := ∃ A cap, e = .returned (.tuple #[.slice A n cap, .bool ok]) ∧ FrB w' w.heap.size 4 A n v ∧ Below w.heap.size w w' ∧ n ≤ cap

set_option linter.unusedSimpArgs false in
set_option maxRecDepth 100000 in
set_option maxHeartbeats 3200000 in
theorem specEncC_any (s c : Lst) (n : Nat) (q : Nat → Rul) (As Ar Ac : Option Addr) (cs cr cc : Nat) (w : World) (p1 : s.n ≤ 1048576) (p2 : c.n ≤ 1048576) (p3 : n ≤ 1048576) (p4 : ∀ i, i < n → (q i).fit 1048576) (hs : RdI w w.heap.size As s.n s.x) (hr : RdRs w w.heap.size Ar n q) (hc : RdI w w.heap.size Ac c.n c.x) :
    Calls Try.prog 58 #[.agg #[.slice As s.n cs, .slice Ar n cr], .slice Ac c.n cc] w (SResBc w (ecN s n q c) (eb s.x c.x s.n) (cvB s n q c)) := by
  have HS := Lib.hid hs
  have HR := Lib.hid hr
  have HC := Lib.hid hc
  have P4 := Lib.hid p4
  clear hs hr hc p4
  obtain ⟨i0, hi, hz0, hz1, hz2⟩ := info_parts Try.infoBool
  have hmk := fun W => run_make (P := Try.prog) W 45 4 i0 _ Try.underlying45 hi hz0 .i64 .i64 12 12 (by omega) (by omega) (by rw [hz2]; omega) (by omega)
  rw [hz1] at hmk
  clear hi hz0 hz1 hz2
  have HA := Lib.hid (bl_alloc (Below.refl w.heap.size w))
  go_enter Try.func58, Try.ntmps58
  go_wp2_with fail
  have a0 : (w.alloc (.cells #[.slice As s.n cs, .slice Ar n cr] 30)).cell? ⟨w.heap.size, 0, none⟩ = some (.slice As s.n cs) := by go_simp
  have a1 : (w.alloc (.cells #[.slice As s.n cs, .slice Ar n cr] 30)).cell? ⟨w.heap.size, 1, none⟩ = some (.slice Ar n cr) := by go_simp
  have HB := Lib.hid (HA.out (.cells #[.slice As s.n cs, .slice Ar n cr] 30))
  clear HA
  generalize (w.alloc (.cells #[.slice As s.n cs, .slice Ar n cr] 30)) = w1 at *
  refine (specCells_any s c n q _ _ _ _ _ _ _ p1 p2 p3 P4.out (HS.out.later HB.out) (HR.out.later HB.out) (HC.out.later HB.out)).mono ?_
  rintro e w2 ⟨rfl, hb⟩
  have HB2 := Lib.hid (bl_trans HB.out hb)
  replace a0 := kc hb a0
  replace a1 := kc hb a1
  clear hb HB
  cases hm : cvB s n q c with
  | false =>
    have Hn := Lib.hid (show ecN s n q c = 0 from by unfold ecN; rw [hm]; rfl)
    have Hm := Lib.hid hm
    clear hm
    go_wp2
    refine bodyPost_ret (v := .tuple #[.slice (some ⟨w2.heap.size, 0, none⟩) 0 0, .bool false]) (by simp [results, Try.results58, go_sem]) rfl ?_
    exact ⟨_, _, by rw [Hn.out, Hm.out], .inl Hn.out, bl_trans HB2.out (bl_alloc (Below.refl _ _) _), by rw [Hn.out]; exact Nat.zero_le _⟩
  | true =>
    have Hn := Lib.hid (show ecN s n q c = 12 from by unfold ecN; rw [hm]; rfl)
    have Hle := Lib.hid (cv_le hm)
    have Ok := Lib.hid (cv_ok hm)
    have hlen := Ok.out.len
    have Hm := Lib.hid hm
    clear hm
    have hx := HC.out.later HB2.out
    rw [hlen] at hx
    have HX := Lib.hid hx
    clear hx
    have HS2 := Lib.hid (HS.out.later HB2.out)
    obtain ⟨H, hHe⟩ : ∃ H, w.heap.size = H := ⟨_, rfl⟩
    have hHl : H < w2.heap.size := by rw [← hHe]; exact World.block_lt_of_cell? w2 _ a0
    have HH := Lib.hid hHe
    rw [hHe] at a0 a1 ⊢
    clear hHe
    go_wp2
    have Made := Lib.hid (ownVb_made (w := w2))
    go_loopw [7] (fun i wr => ∃ k : Nat, k ≤ s.n ∧ i = .int .i64 k ∧ OwnVb wr w2.heap.size 4 12 12 (eb s.x c.x k) ∧ Below w2.heap.size w2 wr) (fun i _ => s.n - (intOf i).toNat)
    case atStart => exact ⟨0, Nat.zero_le _, rfl, Made.out, bl_alloc (Below.refl _ _) _⟩
    case round =>
      obtain ⟨k, hk, rfl, hown, hb⟩ := hrel
      replace a0 := kc hb a0
      replace a1 := kc hb a1
      by_cases hlt : k < s.n
      · obtain ⟨b, off, rfl, hbl, hc⟩ := (HX.out.below hb) (by omega)
        have c1 := hc k hlt
        clear hc
        have hsz := size_at Ok.out.sizes hlt
        have hcel := Ok.out.cel k hlt
        have hcv : c.x k ≤ s.x k := Hle.out k hlt
        have hT0 := (tS_bd (prE_le Ok.out.sizes (show k ≤ s.n by omega))).1
        have hT1 := tS_mono (show k + 1 ≤ s.n by omega) Ok.out.sizes
        have hT2 : tS s.x (k + 1) = tS s.x k + s.x k + 1 := rfl
        have hT3 := Ok.out.sum
        obtain ⟨p, hp⟩ : ∃ p : Nat, c.x k + tS s.x k = (p : Int) := ⟨(c.x k + tS s.x k).toNat, by omega⟩
        have hp12 : p < 12 := by omega
        have Hset := Lib.hid (fun W (h : OwnVb W w2.heap.size 4 12 12 (eb s.x c.x k)) => h.set_ (v' := eb s.x c.x (k + 1)) (j := p) true (eb_hit hp) (fun i hi => eb_miss hp hi))
        have Hown := Lib.hid hown
        have HBk := Lib.hid hb
        have hlt' : (k : Int) < (s.n : Int) := by omega
        have hk0 : (0 : Int) ≤ (k : Int) := by omega
        have hp0 : (0 : Int) ≤ (p : Int) := by omega
        have hp1 : (p : Int) < 12 := by omega
        have hw : IntKind.i64.wrap (1 + c.x k + tS s.x k - 1) = (p : Int) := by rw [show 1 + c.x k + tS s.x k - 1 = (p : Int) by omega]; exact IntWalk.i64_in _ (by omega)
        have hv3 : 0 ≤ c.x k ∧ c.x k ≤ 3 := hcel
        obtain ⟨y, hy⟩ : ∃ y, 1 + c.x k + tS s.x k = y := ⟨_, rfl⟩
        rw [hy] at hw
        have Hy := Lib.hid hy
        have hy1 : 1 ≤ y := by omega
        have hyp : y = (p : Int) + 1 := by omega
        subst hyp
        clear hown hb hsz hT0 hT1 hT2 hT3 hcv hy hp hw hcel
        have hw : IntKind.i64.wrap ((p : Int) + 1 - 1) = (p : Int) := by rw [Int.add_sub_cancel]; exact IntWalk.i64_in _ (by omega)
        have hw2 : IntKind.i64.wrap (p : Int) = (p : Int) := IntWalk.i64_in _ (by omega)
        have hbG : b ≠ w2.heap.size := by omega
        go_upto_region 7 with fail
        refine wp_region_held_drew (S := fun w' => w'.cell? ⟨H, 0, none⟩ = some (.slice As s.n cs) ∧ w'.cell? ⟨H, 1, none⟩ = some (.slice Ar n cr) ∧ w'.cell? ⟨b, off + k, none⟩ = some (.int .i64 (c.x k))) (by kernel_rfl) ⟨by simpa using a0, by simpa using a1, by simpa using c1⟩ (fun hHeld => ?_)
        refine wpAnyH_take (i := 0) (v := .slice (some ⟨w2.heap.size, 0, none⟩) 12 12) rfl (by kernel_rfl) (by kernel_rfl) (by kernel_rfl) (fun _ _ _ h => h) (Or.inl ⟨by rfl, ?_⟩) (by assumption) ?_
        · intro w hSw; simp only [List.getElem_toArray, List.getElem_cons_zero, List.getElem_cons_succ]; (first | (go_simp; done) | rfl | kernel_rfl)
        try simp only [Act.put, List.getElem_toArray, List.getElem_cons_zero, List.getElem_cons_succ, List.setIfInBounds_toArray, List.set_cons_zero, List.set_cons_succ]
        refine wpAnyH_take (i := 1) (v := .agg #[.slice As s.n cs, .slice Ar n cr]) rfl (by kernel_rfl) (by kernel_rfl) (by kernel_rfl) (fun _ _ _ h => h) (Or.inl ⟨by rfl, ?_⟩) (by assumption) ?_
        · intro w hSw; obtain ⟨s0, s1, s2⟩ := hSw; simp only [List.getElem_toArray, List.getElem_cons_zero, List.getElem_cons_succ]; (first | (go_simp; done) | rfl | kernel_rfl)
        try simp only [Act.put, List.getElem_toArray, List.getElem_cons_zero, List.getElem_cons_succ, List.setIfInBounds_toArray, List.set_cons_zero, List.set_cons_succ]
        refine wpAnyH_take (i := 2) (v := .int .i64 k) rfl (by kernel_rfl) (by kernel_rfl) (by kernel_rfl) (fun _ _ _ h => h) (Or.inl ⟨by rfl, ?_⟩) (by assumption) ?_
        · intro w hSw; simp only [List.getElem_toArray, List.getElem_cons_zero, List.getElem_cons_succ]; (first | (go_simp; done) | rfl | kernel_rfl)
        try simp only [Act.put, List.getElem_toArray, List.getElem_cons_zero, List.getElem_cons_succ, List.setIfInBounds_toArray, List.set_cons_zero, List.set_cons_succ]
        refine wpAnyH_take (i := 3) (v := .slice (some ⟨b, off, none⟩) s.n cc) rfl (by kernel_rfl) (by kernel_rfl) (by kernel_rfl) (fun _ _ _ h => h) (Or.inl ⟨by rfl, ?_⟩) (by assumption) ?_
        · intro w hSw; simp only [List.getElem_toArray, List.getElem_cons_zero, List.getElem_cons_succ]; (first | (go_simp; done) | rfl | kernel_rfl)
        try simp only [Act.put, List.getElem_toArray, List.getElem_cons_zero, List.getElem_cons_succ, List.setIfInBounds_toArray, List.set_cons_zero, List.set_cons_succ]
        refine wpAnyH_take (i := 4) (v := .int .i64 k) rfl (by kernel_rfl) (by kernel_rfl) (by kernel_rfl) (fun _ _ _ h => h) (Or.inl ⟨by rfl, ?_⟩) (by assumption) ?_
        · intro w hSw; simp only [List.getElem_toArray, List.getElem_cons_zero, List.getElem_cons_succ]; (first | (go_simp; done) | rfl | kernel_rfl)
        try simp only [Act.put, List.getElem_toArray, List.getElem_cons_zero, List.getElem_cons_succ, List.setIfInBounds_toArray, List.set_cons_zero, List.set_cons_succ]
        refine wpAnyH_take (i := 5) (v := .pointer (some ⟨b, off + k, none⟩)) rfl (by kernel_rfl) (by kernel_rfl) (by kernel_rfl) (fun _ _ _ h => h) (Or.inl ⟨by rfl, ?_⟩) (by assumption) ?_
        · intro w hSw; simp only [List.getElem_toArray, List.getElem_cons_zero, List.getElem_cons_succ]; (first | (go_simp; done) | rfl | kernel_rfl)
        try simp only [Act.put, List.getElem_toArray, List.getElem_cons_zero, List.getElem_cons_succ, List.setIfInBounds_toArray, List.set_cons_zero, List.set_cons_succ]
        refine wpAnyH_take (i := 6) (v := .int .i64 (c.x k)) rfl (by kernel_rfl) (by kernel_rfl) (by kernel_rfl) (fun _ _ _ h => h) (Or.inl ⟨by rfl, ?_⟩) (by assumption) ?_
        · intro w hSw; obtain ⟨s0, s1, s2⟩ := hSw; simp only [List.getElem_toArray, List.getElem_cons_zero, List.getElem_cons_succ]; (first | (go_simp; done) | rfl | kernel_rfl)
        try simp only [Act.put, List.getElem_toArray, List.getElem_cons_zero, List.getElem_cons_succ, List.setIfInBounds_toArray, List.set_cons_zero, List.set_cons_succ]
        clear hHeld
        refine wpAnyH_ready (rs := [7]) (by kernel_rfl) (by simp) ?_
        refine AllReadyH.cons rfl (fun K hK => ?_) AllReadyH.nil
        simp only [List.getElem_toArray, List.getElem_cons_zero, List.getElem_cons_succ]
        go_simp
        go_at_call 64
        refine (l7Var_any s n _ _ _ _ k (c.x k) _ Ok.out.five (by omega) hv3 Ok.out.sizes (HS2.out.later (HBk.out.drew))).mono ?_
        rintro e w5 ⟨rfl, hb⟩
        rw [Hy.out]
        have hbd := bl_trans (Below.refl wr.heap.size wr).drew hb
        have HB5 := Lib.hid (HBk.out.trans (hbd.mono HBk.out.size))
        have Hown5 := Lib.hid (Hown.out.below hbd)
        replace a0 := kc hbd a0
        replace a1 := kc hbd a1
        replace c1 := kc hbd c1
        clear hb hbd Hown
        refine hK.out _ _ ⟨a0, a1, c1⟩ (fun hHeld => ?_)
        clear hK K
        try simp only [Act.put, List.getElem_toArray, List.getElem_cons_zero, List.getElem_cons_succ, List.setIfInBounds_toArray, List.set_cons_zero, List.set_cons_succ]
        refine wpAnyH_take (i := 8) (v := .int .i64 p) rfl (by kernel_rfl) (by kernel_rfl) (by kernel_rfl) (fun _ _ _ h => h) (Or.inl ⟨by rfl, ?_⟩) (by assumption) ?_
        · intro w hSw; simp only [List.getElem_toArray, List.getElem_cons_zero, List.getElem_cons_succ]; (first | (go_simp; done) | rfl | kernel_rfl)
        try simp only [Act.put, List.getElem_toArray, List.getElem_cons_zero, List.getElem_cons_succ, List.setIfInBounds_toArray, List.set_cons_zero, List.set_cons_succ]
        refine wpAnyH_take (i := 9) (v := .pointer (some ⟨w2.heap.size, p, none⟩)) rfl (by kernel_rfl) (by kernel_rfl) (by kernel_rfl) (fun _ _ _ h => h) (Or.inl ⟨by rfl, ?_⟩) (by assumption) ?_
        · intro w hSw; simp only [List.getElem_toArray, List.getElem_cons_zero, List.getElem_cons_succ]; (first | (go_simp; done) | rfl | kernel_rfl)
        try simp only [Act.put, List.getElem_toArray, List.getElem_cons_zero, List.getElem_cons_succ, List.setIfInBounds_toArray, List.set_cons_zero, List.set_cons_succ]
        obtain ⟨y9, hy9⟩ := Hown5.out.cell hp12
        have hf9 := Hown5.out.frozen p
        clear hHeld
        refine wpAnyH_ready (rs := [10]) (by kernel_rfl) (by simp) ?_
        refine AllReadyH.cons rfl (fun K hK => ?_) AllReadyH.nil
        simp only [List.getElem_toArray, List.getElem_cons_zero, List.getElem_cons_succ]
        go_simp
        refine hK.out _ _ ⟨?_, ?_, ?_⟩ (fun hHeld => ?_)
        · exact (World.cell?_setCell_other _ _ _ _ (fun e => by injection e with e1 e2 _; omega)).trans a0
        · exact (World.cell?_setCell_other _ _ _ _ (fun e => by injection e with e1 e2 _; omega)).trans a1
        · exact (World.cell?_setCell_other _ _ _ _ (fun e => by injection e with e1 e2 _; omega)).trans c1
        clear hK K
        try simp only [Act.put, List.getElem_toArray, List.getElem_cons_zero, List.getElem_cons_succ, List.setIfInBounds_toArray, List.set_cons_zero, List.set_cons_succ]
        refine wpAnyH_done (by kernel_rfl) ?_ _
        go_wp2
        go_roundw
        case rel => exact ⟨k + 1, by omega, by go_num, Hset.out _ Hown5.out, HB5.out.setCell (Nat.le_refl _) _⟩
        case measure => simp [intOf]; omega
      · have e : k = s.n := by omega
        subst e
        have Hown := Lib.hid hown
        have HBk := Lib.hid hb
        clear hown hb
        go_wp2
        refine bodyPost_ret (v := .tuple #[.slice (some ⟨w2.heap.size, 0, none⟩) 12 12, .bool true]) (by simp [results, Try.results58, go_sem]) rfl ?_
        exact ⟨_, _, by rw [Hn.out, Hm.out], .inr ⟨w2.heap.size, rfl, HB2.out.size, by rw [Hn.out]; exact Hown.out⟩, HB2.out.trans (HBk.out.mono HB2.out.size), by rw [Hn.out]; exact Nat.le_refl _⟩
set_option linter.unusedSimpArgs false in
set_option maxRecDepth 100000 in
set_option maxHeartbeats 3200000 in
theorem implEncC_any (s c : Lst) (n : Nat) (q : Nat → Rul) (As Ar Ac : Option Addr) (cs cr cc : Nat) (w : World) (p1 : s.n ≤ 1048576) (p2 : c.n ≤ 1048576) (p3 : n ≤ 1048576) (p4 : ∀ i, i < n → (q i).fit 1048576) (hs : RdI w w.heap.size As s.n s.x) (hr : RdRs w w.heap.size Ar n q) (hc : RdI w w.heap.size Ac c.n c.x) :
    Calls Try.prog 27 #[.agg #[.slice As s.n cs, .slice Ar n cr], .slice Ac c.n cc] w (SResBc w (ecN s n q c) (eb s.x c.x s.n) (cvB s n q c)) := by
  have HS := Lib.hid hs
  have HR := Lib.hid hr
  have HC := Lib.hid hc
  have P4 := Lib.hid p4
  clear hs hr hc p4
  obtain ⟨i0, hi, hz0, hz1, hz2⟩ := info_parts Try.infoBool
  have hmk := fun W => run_make (P := Try.prog) W 45 4 i0 _ Try.underlying45 hi hz0 .i64 .i64 12 12 (by omega) (by omega) (by rw [hz2]; omega) (by omega)
  rw [hz1] at hmk
  clear hi hz0 hz1 hz2
  have HA := Lib.hid (bl_alloc (Below.refl w.heap.size w))
  go_enter Try.func27, Try.ntmps27
  go_wp2_with fail
  have a0 : (w.alloc (.cells #[.slice As s.n cs, .slice Ar n cr] 30)).cell? ⟨w.heap.size, 0, none⟩ = some (.slice As s.n cs) := by go_simp
  have a1 : (w.alloc (.cells #[.slice As s.n cs, .slice Ar n cr] 30)).cell? ⟨w.heap.size, 1, none⟩ = some (.slice Ar n cr) := by go_simp
  have HB := Lib.hid (HA.out (.cells #[.slice As s.n cs, .slice Ar n cr] 30))
  clear HA
  generalize (w.alloc (.cells #[.slice As s.n cs, .slice Ar n cr] 30)) = w1 at *
  refine (implCells_any s c n q _ _ _ _ _ _ _ p1 p2 p3 P4.out (HS.out.later HB.out) (HR.out.later HB.out) (HC.out.later HB.out)).mono ?_
  rintro e w2 ⟨rfl, hb⟩
  have HB2 := Lib.hid (bl_trans HB.out hb)
  replace a0 := kc hb a0
  replace a1 := kc hb a1
  clear hb HB
  cases hm : cvB s n q c with
  | false =>
    have Hn := Lib.hid (show ecN s n q c = 0 from by unfold ecN; rw [hm]; rfl)
    have Hm := Lib.hid hm
    clear hm
    go_wp2
    refine bodyPost_ret (v := .tuple #[.slice none 0 0, .bool false]) (by simp [results, Try.results27, go_sem]) rfl ?_
    exact ⟨_, _, by rw [Hn.out, Hm.out], .inl Hn.out, HB2.out, by rw [Hn.out]; exact Nat.zero_le _⟩
  | true =>
    have Hn := Lib.hid (show ecN s n q c = 12 from by unfold ecN; rw [hm]; rfl)
    have Hle := Lib.hid (cv_le hm)
    have Ok := Lib.hid (cv_ok hm)
    have hlen := Ok.out.len
    have Hm := Lib.hid hm
    clear hm
    go_wp2_with fail
    refine (newEnc_any s n _ _ _ _ _ Ok.out.five Ok.out.sizes (HS.out.later HB2.out)).mono ?_
    rintro e w3 ⟨A, cap, rfl, hF, hb⟩
    have HB3 := Lib.hid (bl_trans HB2.out hb)
    have HF := Lib.hid hF.rdAt
    clear hb hF a0 a1 HB2
    have hx := HC.out.later HB3.out
    rw [hlen] at hx
    have HX := Lib.hid hx
    clear hx
    have hal := bl_alloc (Below.refl w3.heap.size w3) (.cells #[.slice As s.n cs, .slice Ar n cr, .slice A (s.n + 1) cap] 82)
    have e0 : (w3.alloc (.cells #[.slice As s.n cs, .slice Ar n cr, .slice A (s.n + 1) cap] 82)).cell? ⟨w3.heap.size, 0, none⟩ = some (.slice As s.n cs) := by go_simp
    have e1 : (w3.alloc (.cells #[.slice As s.n cs, .slice Ar n cr, .slice A (s.n + 1) cap] 82)).cell? ⟨w3.heap.size, 1, none⟩ = some (.slice Ar n cr) := by go_simp
    have e2 : (w3.alloc (.cells #[.slice As s.n cs, .slice Ar n cr, .slice A (s.n + 1) cap] 82)).cell? ⟨w3.heap.size, 2, none⟩ = some (.slice A (s.n + 1) cap) := by go_simp
    have hsz : (w3.alloc (.cells #[.slice As s.n cs, .slice Ar n cr, .slice A (s.n + 1) cap] 82)).heap.size = w3.heap.size + 1 := by simp
    have HSz := Lib.hid hsz
    have HB4 := Lib.hid (bl_trans HB3.out hal)
    have HF4 := Lib.hid (HF.out.later hal)
    have HX4 := Lib.hid (HX.out.later hal)
    clear hal hsz HF HX HB3
    go_wp2
    generalize (w3.alloc (.cells #[.slice As s.n cs, .slice Ar n cr, .slice A (s.n + 1) cap] 82)) = w4 at *
    rw [← HSz.out]
    obtain ⟨P, hP⟩ : ∃ P, w3.heap.size = P := ⟨_, rfl⟩
    have hP4 : P < w4.heap.size := by rw [HSz.out]; omega
    rw [hP] at e0 e1 e2 ⊢
    clear hP
    have Made := Lib.hid (ownVb_made (w := w4))
    go_loopw [19] (fun i wr => ∃ k : Nat, k ≤ s.n ∧ i = .int .i64 k ∧ OwnVb wr w4.heap.size 4 12 12 (eb s.x c.x k) ∧ Below w4.heap.size w4 wr) (fun i _ => s.n - (intOf i).toNat)
    case atStart => exact ⟨0, Nat.zero_le _, rfl, Made.out, bl_alloc (Below.refl _ _) _⟩
    case round =>
      obtain ⟨k, hk, rfl, hown, hb⟩ := hrel
      replace e0 := kc hb e0
      replace e1 := kc hb e1
      replace e2 := kc hb e2
      by_cases hlt : k < s.n
      · obtain ⟨b, off, rfl, hbl, hc⟩ := (HX4.out.below hb) (by omega)
        have c1 := hc k hlt
        have hsz := size_at Ok.out.sizes hlt
        have hcel := Ok.out.cel k hlt
        have hcv : c.x k ≤ s.x k := Hle.out k hlt
        have hT0 := (tS_bd (prE_le Ok.out.sizes (show k ≤ s.n by omega))).1
        have hT1 := tS_mono (show k + 1 ≤ s.n by omega) Ok.out.sizes
        have hT2 : tS s.x (k + 1) = tS s.x k + s.x k + 1 := rfl
        have hT3 := Ok.out.sum
        obtain ⟨p, hp⟩ : ∃ p : Nat, c.x k + tS s.x k = (p : Int) := ⟨(c.x k + tS s.x k).toNat, by omega⟩
        have hp12 : p < 12 := by omega
        have Hset := Lib.hid (fun W (h : OwnVb W w4.heap.size 4 12 12 (eb s.x c.x k)) => h.set_ (v' := eb s.x c.x (k + 1)) (j := p) true (eb_hit hp) (fun i hi => eb_miss hp hi))
        have Hown := Lib.hid hown
        have HBk := Lib.hid hb
        have hlt' : (k : Int) < (s.n : Int) := by omega
        have hk0 : (0 : Int) ≤ (k : Int) := by omega
        have hp0 : (0 : Int) ≤ (p : Int) := by omega
        have hp1 : (p : Int) < 12 := by omega
        have hv3 : 0 ≤ c.x k ∧ c.x k ≤ 1000 := by omega
        have ht3 : 0 ≤ tS s.x k ∧ tS s.x k ≤ 1000 := by omega
        have Hy := Lib.hid (show 1 + c.x k + tS s.x k = (p : Int) + 1 by omega)
        clear hown hb hc hsz hT0 hT1 hT2 hT3 hcv hp hcel
        go_wp2_with fail
        refine (encVar_any As Ar A s.n cs n cr (s.n + 1) cap (tS s.x) k (c.x k) _ (by have := Ok.out.five; omega) (by omega) hv3 ht3 (HF4.out.later HBk.out)).mono ?_
        rintro e w5 ⟨rfl, hb⟩
        rw [Hy.out]
        have HB5 := Lib.hid (HBk.out.trans (hb.mono HBk.out.size))
        have Hown5 := Lib.hid (Hown.out.below hb)
        replace e0 := kc hb e0
        replace e1 := kc hb e1
        replace e2 := kc hb e2
        clear hb Hown
        obtain ⟨y9, hy9⟩ := Hown5.out.cell hp12
        have hf9 := Hown5.out.frozen p
        go_wp2
        go_roundw
        case rel => exact ⟨k + 1, by omega, by go_num, Hset.out _ Hown5.out, HB5.out.setCell (Nat.le_refl _) _⟩
        case measure => simp [intOf]; omega
      · have e : k = s.n := by omega
        subst e
        have Hown := Lib.hid hown
        have HBk := Lib.hid hb
        clear hown hb
        go_wp2
        refine bodyPost_ret (v := .tuple #[.slice (some ⟨w4.heap.size, 0, none⟩) 12 12, .bool true]) (by simp [results, Try.results27, go_sem]) rfl ?_
        exact ⟨_, _, by rw [Hn.out, Hm.out], .inr ⟨w4.heap.size, rfl, HB4.out.size, by rw [Hn.out]; exact Hown.out⟩, HB4.out.trans (HBk.out.mono HB4.out.size), by rw [Hn.out]; exact Nat.le_refl _⟩
end Go.Proofs.Ytafiikfaeomhpaa

namespace Go.Proofs.Ytafiikfaeomhpaa
open Go.ChangeShapes Go.WideShapes Go.ChangeAt Go.RowKit

set_option linter.unusedSimpArgs false in
set_option maxRecDepth 100000 in
set_option maxHeartbeats 1600000 in
theorem implFree_any (s : Lst) (n : Nat) (q : Nat → Rul) (As Ar : Option Addr) (cs cr : Nat) (w : World) (p1 : s.n ≤ 1048576) (p3 : n ≤ 1048576) (p4 : ∀ i, i < n → (q i).fit 1048576) (hs : RdI w w.heap.size As s.n s.x) (hr : RdRs w w.heap.size Ar n q) :
    Calls Try.prog 28 #[.agg #[.slice As s.n cs, .slice Ar n cr]] w fun e w' => e = .returned (.int .i64 (fvI s n q)) ∧ Below w.heap.size w w' := by
  have HS := Lib.hid hs
  have HR := Lib.hid hr
  have P4 := Lib.hid p4
  clear hs hr p4
  have HA := Lib.hid (bl_alloc (Below.refl w.heap.size w))
  go_enter Try.func28, Try.ntmps28
  go_wp2_with fail
  have a0 : (w.alloc (.cells #[.slice As s.n cs, .slice Ar n cr] 30)).cell? ⟨w.heap.size, 0, none⟩ = some (.slice As s.n cs) := by go_simp
  have a1 : (w.alloc (.cells #[.slice As s.n cs, .slice Ar n cr] 30)).cell? ⟨w.heap.size, 1, none⟩ = some (.slice Ar n cr) := by go_simp
  have HB := Lib.hid (HA.out (.cells #[.slice As s.n cs, .slice Ar n cr] 30))
  clear HA
  generalize (w.alloc (.cells #[.slice As s.n cs, .slice Ar n cr] 30)) = w1 at *
  refine (implValidM_any s n q _ _ _ _ _ p1 p3 P4.out (HS.out.later HB.out) (HR.out.later HB.out)).mono ?_
  rintro e w2 ⟨rfl, hb⟩
  have HB2 := Lib.hid (bl_trans HB.out hb)
  replace a0 := kc hb a0
  replace a1 := kc hb a1
  clear hb HB
  cases hm : modB s n q with
  | false =>
    have He := Lib.hid (show fvI s n q = 0 from ite_no hm)
    clear hm
    go_wp2
    go_ret
    exact ⟨ret_int He.out.symm, HB2.out⟩
  | true =>
    have He := Lib.hid (show fvI s n q = 12 - tS s.x s.n from ite_yes hm)
    obtain ⟨m1, m2, m3, m4, -, -⟩ := mod_parts hm
    have M3 := Lib.hid m3
    have tb := (tS_bd m3).1
    clear hm m3
    go_wp2_with fail
    obtain ⟨H, hHe⟩ : ∃ H, w.heap.size = H := ⟨_, rfl⟩
    rw [hHe] at a0 a1 ⊢
    refine wp_region_held_drew (S := fun w' => w'.cell? ⟨H, 0, none⟩ = some (.slice As s.n cs) ∧ w'.cell? ⟨H, 1, none⟩ = some (.slice Ar n cr)) (by kernel_rfl) ⟨by simpa using a0, by simpa using a1⟩ (fun hHeld => ?_)
    refine wpAnyH_take (i := 0) (v := .agg #[.slice As s.n cs, .slice Ar n cr]) rfl (by kernel_rfl) (by kernel_rfl) (by kernel_rfl) (fun _ _ _ h => h) (Or.inl ⟨by rfl, ?_⟩) (by assumption) ?_
    · intro w hSw; obtain ⟨s0, s1⟩ := hSw; simp only [List.getElem_toArray, List.getElem_cons_zero, List.getElem_cons_succ]; (first | (go_simp; done) | rfl | kernel_rfl)
    try simp only [Act.put, List.getElem_toArray, List.getElem_cons_zero, List.getElem_cons_succ, List.setIfInBounds_toArray, List.set_cons_zero, List.set_cons_succ]
    refine wpAnyH_take (i := 3) (v := .pointer (some ⟨H, 0, none⟩)) rfl (by kernel_rfl) (by kernel_rfl) (by kernel_rfl) (fun _ _ _ h => h) (Or.inl ⟨by rfl, ?_⟩) (by assumption) ?_
    · intro w hSw; simp only [List.getElem_toArray, List.getElem_cons_zero, List.getElem_cons_succ]; (first | (go_simp; done) | rfl | kernel_rfl)
    try simp only [Act.put, List.getElem_toArray, List.getElem_cons_zero, List.getElem_cons_succ, List.setIfInBounds_toArray, List.set_cons_zero, List.set_cons_succ]
    refine wpAnyH_take (i := 4) (v := .slice As s.n cs) rfl (by kernel_rfl) (by kernel_rfl) (by kernel_rfl) (fun _ _ _ h => h) (Or.inl ⟨by rfl, ?_⟩) (by assumption) ?_
    · intro w hSw; obtain ⟨s0, s1⟩ := hSw; simp only [List.getElem_toArray, List.getElem_cons_zero, List.getElem_cons_succ]; (first | (go_simp; done) | rfl | kernel_rfl)
    try simp only [Act.put, List.getElem_toArray, List.getElem_cons_zero, List.getElem_cons_succ, List.setIfInBounds_toArray, List.set_cons_zero, List.set_cons_succ]
    refine wpAnyH_take (i := 5) (v := .int .i64 s.n) rfl (by kernel_rfl) (by kernel_rfl) (by kernel_rfl) (fun _ _ _ h => h) (Or.inl ⟨by rfl, ?_⟩) (by assumption) ?_
    · intro w hSw; simp only [List.getElem_toArray, List.getElem_cons_zero, List.getElem_cons_succ]; (first | (go_simp; done) | rfl | kernel_rfl)
    try simp only [Act.put, List.getElem_toArray, List.getElem_cons_zero, List.getElem_cons_succ, List.setIfInBounds_toArray, List.set_cons_zero, List.set_cons_succ]
    clear hHeld
    refine wpAnyH_ready (rs := [1]) (by kernel_rfl) (by simp) ?_
    refine AllReadyH.cons rfl (fun K hK => ?_) AllReadyH.nil
    simp only [List.getElem_toArray, List.getElem_cons_zero, List.getElem_cons_succ]
    go_simp
    go_at_call 61
    refine (newEnc_any s n _ _ _ _ _ m2 M3.out (HS.out.later (bl_trans HB2.out (Below.refl w2.heap.size w2).drew))).mono ?_
    rintro e w3 ⟨A, cap, rfl, hF, hb⟩
    have hbd := bl_trans (Below.refl w2.heap.size w2).drew hb
    have HB3 := Lib.hid (bl_trans HB2.out hbd)
    replace a0 := kc hbd a0
    replace a1 := kc hbd a1
    obtain ⟨b, off, rfl, hbl, hc⟩ := hF.rdAt (by omega)
    have hc1 := hc s.n (by omega)
    clear hb hbd hc hF
    have hs0 : (0 : Int) ≤ (s.n : Int) := by omega
    have hs1 : (s.n : Int) < (s.n : Int) + 1 := by omega
    obtain ⟨z, hz⟩ : ∃ z, tS s.x s.n = z := ⟨_, rfl⟩
    rw [hz] at hc1 He tb m4
    clear hz
    refine hK.out _ _ ⟨a0, a1⟩ (fun hHeld => ?_)
    clear hK K
    try simp only [Act.put, List.getElem_toArray, List.getElem_cons_zero, List.getElem_cons_succ, List.setIfInBounds_toArray, List.set_cons_zero, List.set_cons_succ]
    refine wpAnyH_take (i := 2) (v := .slice (some ⟨b, off, none⟩) (s.n + 1) cap) rfl (by kernel_rfl) (by kernel_rfl) (by kernel_rfl) (fun _ _ _ h => h) (Or.inl ⟨by rfl, ?_⟩) (by assumption) ?_
    · intro w hSw; simp only [List.getElem_toArray, List.getElem_cons_zero, List.getElem_cons_succ]; (first | (go_simp; done) | rfl | kernel_rfl)
    try simp only [Act.put, List.getElem_toArray, List.getElem_cons_zero, List.getElem_cons_succ, List.setIfInBounds_toArray, List.set_cons_zero, List.set_cons_succ]
    refine wpAnyH_take (i := 6) (v := .pointer (some ⟨b, off + s.n, none⟩)) rfl (by kernel_rfl) (by kernel_rfl) (by kernel_rfl) (fun _ _ _ h => h) (Or.inl ⟨by rfl, ?_⟩) (by assumption) ?_
    · intro w hSw; simp only [List.getElem_toArray, List.getElem_cons_zero, List.getElem_cons_succ]; (first | (go_simp; done) | rfl | kernel_rfl)
    try simp only [Act.put, List.getElem_toArray, List.getElem_cons_zero, List.getElem_cons_succ, List.setIfInBounds_toArray, List.set_cons_zero, List.set_cons_succ]
    clear hHeld
    refine wpAnyH_ready (rs := [7]) (by kernel_rfl) (by simp) ?_
    refine AllReadyH.cons rfl (fun K hK => ?_) AllReadyH.nil
    simp only [List.getElem_toArray, List.getElem_cons_zero, List.getElem_cons_succ]
    go_simp
    refine hK.out _ _ ⟨a0, a1⟩ (fun hHeld => ?_)
    clear hK K
    try simp only [Act.put, List.getElem_toArray, List.getElem_cons_zero, List.getElem_cons_succ, List.setIfInBounds_toArray, List.set_cons_zero, List.set_cons_succ]
    have hw : IntKind.i64.wrap (12 - z) = 12 - z := IntWalk.i64_in _ (by omega)
    refine wpAnyH_take (i := 8) (v := .int .i64 (12 - z)) rfl (by kernel_rfl) (by kernel_rfl) (by kernel_rfl) (fun _ _ _ h => h) (Or.inl ⟨by rfl, ?_⟩) (by assumption) ?_
    · intro w hSw; simp only [List.getElem_toArray, List.getElem_cons_zero, List.getElem_cons_succ]; (first | (go_simp; done) | rfl | kernel_rfl)
    try simp only [Act.put, List.getElem_toArray, List.getElem_cons_zero, List.getElem_cons_succ, List.setIfInBounds_toArray, List.set_cons_zero, List.set_cons_succ]
    refine wpAnyH_take (i := 9) (v := .int .i64 (12 - z)) rfl (by kernel_rfl) (by kernel_rfl) (by kernel_rfl) (fun _ _ _ h => h) (Or.inl ⟨by rfl, ?_⟩) (by assumption) ?_
    · intro w hSw; simp only [List.getElem_toArray, List.getElem_cons_zero, List.getElem_cons_succ]; (first | (go_simp; done) | rfl | kernel_rfl)
    try simp only [Act.put, List.getElem_toArray, List.getElem_cons_zero, List.getElem_cons_succ, List.setIfInBounds_toArray, List.set_cons_zero, List.set_cons_succ]
    refine wpAnyH_done (by kernel_rfl) ?_ _
    go_wp2
    go_ret
    exact ⟨ret_int (by rw [He.out]; try omega), by first | exact HB3.out | (rw [← hHe]; exact HB3.out)⟩

end Go.Proofs.Ytafiikfaeomhpaa

namespace Go.Proofs.Ytafiikfaeomhpaa
open Go.ChangeShapes Go.WideShapes Go.ChangeAt Go.RowKit

theorem cnt_is_one {e : Nat → Bool} {n : Nat} (h : cntB e n = 1) : ∃ f, f < n ∧ e f = true ∧ (∀ j, j < n → j ≠ f → e j = false) ∧ lstB e n = (f : Int) := by
  induction n with
  | zero => cases h
  | succ n ih =>
    cases hn : e n with
    | true =>
      rw [cnt_yes hn] at h
      have h0 : cntB e n = 0 := by omega
      refine ⟨n, by omega, hn, fun j hj hne => ?_, lst_yes hn⟩
      cases hj2 : e j with
      | false => rfl
      | true =>
        have := cnt_mono (e := e) (show j + 1 ≤ n by omega)
        rw [cnt_yes hj2] at this
        omega
    | false =>
      rw [cnt_no hn] at h
      obtain ⟨f, h1, h2, h3, h4⟩ := ih h
      refine ⟨f, by omega, h2, fun j hj hne => ?_, by rw [lst_no hn, h4]⟩
      by_cases e1 : j = n
      · subst e1; exact hn
      · exact h3 j (by omega) hne
theorem cnt_congr8 {e e' : Nat → Bool} {n : Nat} (h : ∀ j, j < n → e j = e' j) : cntB e n = cntB e' n ∧ lstB e n = lstB e' n := by
  induction n with
  | zero => exact ⟨rfl, rfl⟩
  | succ n ih =>
    obtain ⟨h1, h2⟩ := ih fun j hj => h j (by omega)
    have hn := h n (by omega)
    unfold cntB lstB
    rw [hn, h1, h2]
    exact ⟨rfl, rfl⟩
theorem anyQ_iff8 {f : Nat → Bool} {k : Nat} : anyQ f k = true ↔ ∃ i, i < k ∧ f i = true := by
  induction k with
  | zero => exact ⟨fun h => (by cases h), fun ⟨i, h, _⟩ => (by omega)⟩
  | succ k ih =>
    show (anyQ f k || f k) = true ↔ _
    rw [Bool.or_eq_true, ih]
    constructor
    · rintro (⟨i, hi, h⟩ | h)
      · exact ⟨i, by omega, h⟩
      · exact ⟨k, by omega, h⟩
    · rintro ⟨i, hi, h⟩
      by_cases e : i = k
      · subst e; exact .inr h
      · exact .inl ⟨i, by omega, h⟩
/-- Each place below the sum lies in one cell's window. -/
theorem in_win {x : Nat → Int} {n p : Nat} (h : prE (fun i => betB 0 3 (x i)) n = true) (hp : (p : Int) < tS x n) : ∃ i k : Nat, i < n ∧ (p : Int) = tS x i + k ∧ (k : Int) ≤ x i := by
  induction n with
  | zero => simp [tS] at hp; omega
  | succ n ih =>
    have h2 := prE_at h (show n < n + 1 by omega)
    simp [betB] at h2
    by_cases hlt : (p : Int) < tS x n
    · obtain ⟨i, k, h3, h4, h5⟩ := ih (prE_le h (by omega)) hlt
      exact ⟨i, k, by omega, h4, h5⟩
    · have : tS x (n + 1) = tS x n + x n + 1 := rfl
      exact ⟨n, ((p : Int) - tS x n).toNat, by omega, by omega, by omega⟩
structure DcOk (s : Lst) (n : Nat) (q : Nat → Rul) (y : Nat → Bool) : Prop where
  mod : ModOk s n q
  md : modB s n q = true
  ok : ∀ i, i < s.n → cntB (winB s.x y i) (szN s.x i) = 1
theorem dv_ok {s : Lst} {n : Nat} {q : Nat → Rul} {m : Nat} {y : Nat → Bool} (h : dvB s n q m y = true) : DcOk s n q y ∧ m = 12 := by
  unfold dvB at h
  simp only [Bool.and_eq_true, beq_iff_eq] at h
  obtain ⟨h1, h2, h3⟩ := h
  refine ⟨⟨mod_ok h1, h1, fun i hi => ?_⟩, h2⟩
  have := prE_at h3 hi
  unfold okC at this
  simpa using this
theorem dc_val {s : Lst} {n : Nat} {q : Nat → Rul} {y : Nat → Bool} (h : DcOk s n q y) {i : Nat} (hi : i < s.n) : 0 ≤ valC s.x y i ∧ valC s.x y i ≤ s.x i ∧ ∀ k : Nat, (k : Int) ≤ s.x i → winB s.x y i k = decide (valC s.x y i = (k : Int)) := by
  obtain ⟨f, h1, h2, h3, h4⟩ := cnt_is_one (h.ok i hi)
  have h5 := size_at h.mod.sizes hi
  have h6 : szN s.x i = (s.x i).toNat + 1 := rfl
  have h7 : valC s.x y i = (f : Int) := h4
  rw [h7]
  refine ⟨by omega, by omega, fun k hk => ?_⟩
  by_cases e : k = f
  · subst e
    rw [h2]
    simp
  · rw [h3 k (by omega) e]
    simp
    omega
/-- The cells that were decoded are cells of the model. -/
theorem dc_cv {s : Lst} {n : Nat} {q : Nat → Rul} {y : Nat → Bool} (h : DcOk s n q y) : cvB s n q ⟨s.n, valC s.x y⟩ = true := by
  unfold cvB celsB
  rw [h.md]
  simp only [Bool.true_and, Bool.and_eq_true, beq_iff_eq, true_and]
  rw [prE_iff]
  intro i hi
  obtain ⟨h1, h2, -⟩ := dc_val h hi
  simp [betB]
  omega
theorem tS_lt {x : Nat → Int} {n i : Nat} (h : prE (fun i => betB 0 3 (x i)) n = true) (hi : i < n) : tS x i + x i + 1 ≤ tS x n := by
  have := tS_mono (show i + 1 ≤ n by omega) h
  exact this
/-- Their encoding has the values at all places that the model uses. -/
theorem dc_eb {s : Lst} {n : Nat} {q : Nat → Rul} {y : Nat → Bool} (h : DcOk s n q y) {p : Nat} (hp : (p : Int) < tS s.x s.n) : eb s.x (valC s.x y) s.n p = y p := by
  obtain ⟨i, k, hi, he, hk⟩ := in_win h.mod.sizes hp
  obtain ⟨h1, h2, h3⟩ := dc_val h hi
  have ht := (tS_bd (prE_le h.mod.sizes (show i ≤ s.n by omega))).1
  have hw : y p = decide (valC s.x y i = (k : Int)) := by
    rw [← h3 k hk]
    unfold winB
    congr 1
    omega
  rw [hw]
  have key : eb s.x (valC s.x y) s.n p = true ↔ valC s.x y i = (k : Int) := by
    unfold eb
    rw [anyQ_iff8]
    constructor
    · rintro ⟨j, hj, hd⟩
      rw [decide_eq_true_eq] at hd
      obtain ⟨g1, g2, -⟩ := dc_val h hj
      have hji : j = i := by
        by_cases a : j < i
        · have := tS_lt (prE_le h.mod.sizes (show i ≤ s.n by omega)) a
          omega
        · by_cases b : i < j
          · have := tS_lt (prE_le h.mod.sizes (show j ≤ s.n by omega)) b
            omega
          · omega
      subst hji
      omega
    · intro hv
      exact ⟨i, hi, by rw [decide_eq_true_eq]; omega⟩
  by_cases hv : valC s.x y i = (k : Int)
  · rw [key.2 hv]; simp [hv]
  · have : ¬ eb s.x (valC s.x y) s.n p = true := fun hh => hv (key.1 hh)
    rw [Bool.not_eq_true] at this
    rw [this]; simp [hv]
theorem dc_win {s : Lst} {n : Nat} {q : Nat → Rul} {y : Nat → Bool} (h : DcOk s n q y) {i : Nat} (hi : i < s.n) : cntB (winB s.x (eb s.x (valC s.x y) s.n) i) (szN s.x i) = cntB (winB s.x y i) (szN s.x i) ∧ lstB (winB s.x (eb s.x (valC s.x y) s.n) i) (szN s.x i) = lstB (winB s.x y i) (szN s.x i) := by
  refine cnt_congr8 fun j hj => ?_
  have h5 := size_at h.mod.sizes hi
  have h6 : szN s.x i = (s.x i).toNat + 1 := rfl
  have ht := (tS_bd (prE_le h.mod.sizes (show i ≤ s.n by omega))).1
  have hl := tS_lt h.mod.sizes hi
  unfold winB
  exact dc_eb h (by omega)
/-- And decoding it gives the cells again. -/
theorem dc_again {s : Lst} {n : Nat} {q : Nat → Rul} {y : Nat → Bool} (h : DcOk s n q y) : dvB s n q 12 (eb s.x (valC s.x y) s.n) = true ∧ ∀ i, i < s.n → valC s.x (eb s.x (valC s.x y) s.n) i = valC s.x y i := by
  refine ⟨?_, fun i hi => (dc_win h hi).2⟩
  unfold dvB
  rw [h.md]
  simp only [Bool.true_and, Bool.and_eq_true, beq_iff_eq, true_and]
  rw [prE_iff]
  intro i hi
  unfold okC
  rw [(dc_win h hi).1, h.ok i hi]
  rfl
end Go.Proofs.Ytafiikfaeomhpaa

namespace Go.Proofs.Ytafiikfaeomhpaa
open Go.ChangeShapes Go.WideShapes Go.ChangeAt Go.RowKit

set_option maxRecDepth 100000 in
set_option maxHeartbeats 1600000 in
theorem cpInts_refl (A A' : Option Addr) (n cap cap' : Nat) (v : Nat → Int) (w : World) (hn : n ≤ 1048576) (hr : RdI w w.heap.size A n v) (hr' : RdI w w.heap.size A' n v) :
    Calls Try.prog 22 #[.slice A n cap, .slice A' n cap'] w fun e w' => e = .returned (.bool true) ∧ Below w.heap.size w w' := by
  go_enter Try.func22, Try.ntmps22
  go_wp2
  go_loopw [5] (fun i wr => ∃ k : Nat, k ≤ n ∧ i = .int .i64 k ∧ Below w.heap.size w wr) (fun i _ => n - (intOf i).toNat)
  case atStart => exact ⟨0, Nat.zero_le _, rfl, Below.refl _ _⟩
  case round =>
    obtain ⟨k, hk, rfl, hb⟩ := hrel
    by_cases hlt : k < n
    · obtain ⟨b, off, rfl, hbl, hc⟩ := (hr.below hb) (by omega)
      obtain ⟨b', off', rfl, hbl', hc'⟩ := (hr'.below hb) (by omega)
      have hc1 := hc k hlt
      have hc2 := hc' k hlt
      clear hc hc' hr hr'
      have hlt' : (k : Int) < (n : Int) := by omega
      have hk0 : (0 : Int) ≤ (k : Int) := by omega
      go_wp2_with fail
      go_quiet (fail)
      go_wp2
      go_roundw
      case rel => exact ⟨k + 1, by omega, by go_num, bl_drewN hb _⟩
      case measure => simp [intOf]; omega
    · have e : k = n := by omega
      subst e
      go_wp2
      go_ret
      exact ⟨rfl, hb⟩

end Go.Proofs.Ytafiikfaeomhpaa

namespace Go.Proofs.Ytafiikfaeomhpaa
open Go.ChangeShapes Go.WideShapes Go.ChangeAt Go.RowKit

/-- A slice of k Booleans that the draw has made in a block from lo on. -/
def BS (w : World) (lo : Nat) (ov : Value) (k : Nat) : Prop := ∃ xs : List Value, w.ownsRow lo 4 1 ov k xs ∧ xs.length = k ∧ ∀ u ∈ xs, ∃ b, u = .bool b
/-- Such a slice, as it reads. -/
def FB (w : World) (lo : Nat) (A : Option Addr) (k : Nat) (v : Nat → Bool) : Prop := k = 0 ∨ ∃ G, A = some ⟨G, 0, none⟩ ∧ lo ≤ G ∧ G < w.heap.size ∧ ∃ cs : Array Value, w.heap[G]? = some (.cells cs 4 (0, 0)) ∧ ∀ i, i < k → cs[i]? = some (.bool (v i))
section
variable {w w1 W : World} {R lo k k' : Nat} {ov : Value} {A : Option Addr} {v : Nat → Bool}
theorem BS.bel (h : BS w lo ov k) (hb : Below w.heap.size w w1) : BS w1 lo ov k := by
  obtain ⟨xs, h0, h1, h2⟩ := h
  exact ⟨xs, row_below' h0 hb, h1, h2⟩
theorem BS.gr (h : BS w lo ov k) (hg : Gr R w w1) (hR : R < lo) : BS w1 lo ov k := by
  obtain ⟨xs, h0, h1, h2⟩ := h
  refine ⟨xs, h0.kept hg ?_, h1, h2⟩
  cases e : ov.ownBlock with
  | none => exact .inl rfl
  | some j =>
    right
    intro e'
    cases e'
    have := (h0.lt _ e).1
    omega
theorem BS.lt (h : BS w lo ov k) : ∀ j, ov.ownBlock = some j → lo ≤ j := fun j e => by
  obtain ⟨xs, h0, h1, h2⟩ := h
  exact (h0.lt j e).1
theorem bs_lit (W : World) : BS (W.alloc (.cells #[] 4)) W.heap.size (.slice (some ⟨W.heap.size, 0, none⟩) 0 0) 0 :=
  ⟨[], by simpa using World.ownsRow_lit W #[] 0 (Nat.le_refl _) (by unfold maxLen; omega) (by simp), by simp, fun u hu => by cases hu⟩
theorem BS.fb (h : BS w lo ov k) : ∃ A cap v, ov = .slice A k cap ∧ k ≤ cap ∧ FB w lo A k v := by
  obtain ⟨xs, h0, h1, h2⟩ := h
  rcases h0.2 with ⟨hov, hk⟩ | ⟨g, cap, cur, hov, hg, hh, hnc, _, hsz, htk⟩
  · subst hk
    exact ⟨none, 0, fun _ => false, hov, Nat.le_refl _, .inl rfl⟩
  · have hlt : g < w.heap.size := by
      rcases Nat.lt_or_ge g w.heap.size with hlt | hge
      · exact hlt
      · rw [Array.getElem?_eq_none hge] at hh; cases hh
    refine ⟨_, cap, fun i => match xs.getD i undef with | .bool b => b | _ => false, hov, hnc, .inr ⟨g, rfl, hg, hlt, cur, hh, fun i hi => ?_⟩⟩
    have hx : xs[i]? = some (xs[i]'(by omega)) := List.getElem?_eq_getElem (by omega)
    obtain ⟨b, hb⟩ := h2 (xs[i]'(by omega)) (List.getElem_mem _)
    have hd : xs.getD i undef = .bool b := by rw [List.getD_eq_getElem?_getD, hx, hb]; rfl
    show cur[i]? = some (.bool (match xs.getD i undef with | .bool b => b | _ => false))
    rw [hd]
    rw [hb, ← htk, List.getElem?_take_of_lt (by omega)] at hx
    have h3 : cur[i]? = some (.bool b) := by simpa using hx
    exact h3
theorem FB.short (h : FB w lo A k v) (hk : k' ≤ k) : FB w lo A k' v := by
  rcases h with h | ⟨G, e, h1, h2, cs, hh, hc⟩
  · exact .inl (by omega)
  · exact .inr ⟨G, e, h1, h2, cs, hh, fun i hi => hc i (by omega)⟩
theorem FB.rd (h : FB w lo A k v) : RdB w w.heap.size A k v := fun hk => by
  rcases h with h | ⟨G, e, h1, h2, cs, hh, hc⟩
  · omega
  · refine ⟨G, 0, e, h2, fun i hi => ?_⟩
    rw [Nat.zero_add]
    exact (cell_of_row w G _ cs _ _ hh).trans (hc i hi)
theorem FB.set_ (h : FB w lo A k v) {p : Addr} (hp : p.block < lo) (u : Value) : FB (w.setCell p u) lo A k v := by
  rcases h with h | ⟨G, e, h1, h2, cs, hh, hc⟩
  · exact .inl h
  · exact .inr ⟨G, e, h1, by simpa [World.setCell] using h2, cs, (Below.heap_setCell w p u G (by omega)).trans hh, hc⟩

set_option maxRecDepth 100000 in
set_option maxHeartbeats 800000 in
theorem wp_bs1 {o : Oper} {a : Act} {K : Act → World → Prop} {Q : Exit → Act → World → Prop} (s x : Operand)
    (ho : o.op = .call { callee := .builtin .append, args := #[s, x], argTypes := #[45, 45] })
    (h : BS W lo ov k) (hlo : lo ≤ W.heap.size) (hs : a.eval s = ov) {H : Nat} (hx : a.eval x = .slice (some ⟨H, 0, none⟩) 1 1) {X : Bool} {T' : TypeId} (hnew : W.heap[H]? = some (.cells #[.bool X] T' (0, 0))) (hk : k ≤ 1048576)
    (hK : ∀ g cap w', BS w' lo (.slice (some ⟨g, 0, none⟩) (k + 1) cap) (k + 1) → W.grownBy w' ov.ownBlock → K (a.put o.dst (.slice (some ⟨g, 0, none⟩) (k + 1) cap)) w') :
    o.wp Try.prog a W K Q := by
  obtain ⟨i0, hi, hz0, hz1, hz2⟩ := info_parts Try.infoBool
  obtain ⟨xs, h0, h1, h2⟩ := h
  refine wp_append_lies _ s x 45 ho lo 4 i0 _ 1 1 Try.underlying45 hi hz0 hz1 hz2 rfl (by omega) ov k _ hs h0 ⟨H, 0, none⟩ 1 1 [.bool X] hx (by rfl)
    (World.news_of_block hnew) (by simp [Value.oneCell']) (by omega) (by unfold maxLen; omega) (by omega) hlo W.heap.size rfl ?_
  intro g cap w' hown hg _ _
  refine hK g cap w' ⟨_, hown, by simp; omega, fun u hu => ?_⟩ hg
  rcases List.mem_append.1 hu with hu | hu
  · exact h2 u hu
  · exact ⟨X, by simpa using hu⟩
end

/-- What the draw of values leaves. -/
def VDr (w : World) (R K : Nat) (e : Ending) (w' : World) : Prop := ∃ A k cap v, e = .returned (.slice A k cap) ∧ k ≤ 12 ∧ k ≤ cap ∧ FB w' w.heap.size A k v ∧ Gr R w w' ∧ Rdr w' R K

set_option maxRecDepth 100000 in
set_option maxHeartbeats 3200000 in
theorem values_any (R K : Nat) (w : World) (hK : K ≤ 900000) (h : Rdr w R K) :
    Calls Try.prog 60 #[.pointer (some ⟨R, 0, none⟩)] w (VDr w R (K + 20)) := by
  have hRw := h.lt
  have HR := Lib.hid h
  clear h
  go_enter Try.func60, Try.ntmps60
  go_wp2
  go_loopw [3, 4] (fun t i wr => ∃ k : Nat, k ≤ 12 ∧ i = .int .i64 k ∧ BS wr w.heap.size t k ∧ Gr R w wr ∧ Rdr wr R (K + k)) (fun _ i _ => 12 - (intOf i).toNat)
  case atStart => exact ⟨0, Nat.zero_le _, rfl, bs_lit w, Gr.of (bl_alloc (Below.refl _ _) _), HR.out.bel (bl_alloc (Below.refl _ _) _)⟩
  case round =>
    obtain ⟨k, hk, rfl, hts, hgr, hrd⟩ := hrel
    have TSk := Lib.hid hts
    have GR := Lib.hid hgr
    have RD := Lib.hid hrd
    have hsz : w.heap.size ≤ wr.heap.size := hgr.size
    clear hts hgr hrd
    by_cases hlt : k < 12
    · go_wp2_with fail
      refine (pick_any R (K + k) 2 _ (by omega) RD.out).mono ?_
      rintro e w2 ⟨x, rfl, hx0, hx1, hg, hr⟩
      have TS2 := Lib.hid (TSk.out.gr hg hRw)
      have GR2 := Lib.hid (GR.out.trans hg)
      have RD2 := Lib.hid hr
      have hsz2 : w.heap.size ≤ w2.heap.size := GR2.out.size
      clear hg hr hx0 hx1
      go_wp2_with (at_builtin; refine wpList_plain (by rfl) fun K' hK' => ?_; refine wp_bs1 _ _ (by rfl) (TS2.out.bel (bl_alloc (Below.refl _ _) _)) (by simp; omega) (by rfl) (by rfl) (heap_alloc_new _ _) (by omega) ?_; intro gg cap1 w3 hts3 hgr3; refine hK' _ _ ?_; clear hK' K')
      go_roundw
      case rel => exact ⟨k + 1, by omega, by go_num, hts3, (GR2.out.bel (bl_alloc (Below.refl _ _) _)).grow hgr3 (fun j e => TS2.out.lt j e), (RD2.out.bel (bl_alloc (Below.refl _ _) _)).grow hgr3 (fun j e => by have := TS2.out.lt j e; omega)⟩
      case measure => simp [intOf]; omega
    · have e : k = 12 := by omega
      subst e
      obtain ⟨A', cap', v0, rfl, hcap, _⟩ := TSk.out.fb
      go_wp2_with fail
      refine (pick_any R (K + 12) 40 _ (by omega) RD.out).mono ?_
      rintro e w2 ⟨x, rfl, hx0, hx1, hg, hr⟩
      obtain ⟨A9, cap9, v, e9, _, hF⟩ := (TSk.out.gr hg hRw).fb
      cases e9
      have HF := Lib.hid hF
      have GR2 := Lib.hid (GR.out.trans hg)
      have RD2 := Lib.hid hr
      have hc11 : (11 : Int) ≤ (cap' : Int) := by omega
      clear hg hr hF hx0 hx1
      by_cases h0 : x = 0
      · subst h0
        go_wp2
        go_ret
        exact ⟨_, 11, _, v, rfl, by omega, by omega, HF.out.short (by omega), GR2.out, RD2.out.more (by omega)⟩
      · have hd0 : (x == 0) = false := by rw [beq_eq_false_iff_ne]; exact h0
        clear h0
        go_wp2
        go_ret
        exact ⟨_, 12, _, v, rfl, Nat.le_refl _, hcap, HF.out, GR2.out, RD2.out.more (by omega)⟩
end Go.Proofs.Ytafiikfaeomhpaa

namespace Go.Proofs.Ytafiikfaeomhpaa
open Go.ChangeShapes Go.WideShapes Go.ChangeAt Go.RowKit

theorem all_listed2 {md : Region.Mode} {ops : Array Oper} {listed : Array Bool} (hs : listed.size = ops.size) (hac : ∀ (i : Nat) (o : Oper), ops[i]? = some o → ∀ e : Edge, e ∈ o.after → Region.binds md e = true → e.on < i) (hr : Region.ready md ops listed = []) : ∀ i, listed.getD i true = true := by
  intro i
  induction i using Nat.strongRecOn with
  | ind i ih =>
    by_cases hlt : i < ops.size
    · cases hb : listed.getD i true with
      | true => rfl
      | false =>
        exfalso
        have hm : i ∈ Region.ready md ops listed := by
          unfold Region.ready
          refine List.mem_filter.2 ⟨List.mem_range.2 hlt, ?_⟩
          have ho : ops[i]? = some ops[i] := Array.getElem?_eq_getElem hlt
          simp only [Bool.and_eq_true, Bool.not_eq_true', hb, true_and]
          rw [ho]
          simp only [Option.map_some, Option.getD_some]
          rw [Array.all_eq_true_iff_forall_mem]
          intro e he
          cases hbd : Region.binds md e with
          | false => simp
          | true =>
            have h1 := ih e.on (hac i _ ho e he hbd)
            have h2 : e.on < listed.size := by have := hac i _ ho e he hbd; omega
            have h3 : listed.getD e.on false = true := by
              simp [Array.getD, h2] at h1 ⊢
              exact h1
            rw [h3]; simp
        rw [hr] at hm
        cases hm
    · simp [Array.getD, show ¬ i < listed.size by omega]

/-- A region that draws its order: an invariant over what has run. -/
theorem region_inv2 {P : Program} {id : Nat} {ops : Array Oper} {Q : Exit → Act → World → Prop} {a : Act} {w : World} (hmix : P.follows .mixedOrders = true) (I : (Nat → Bool) → Act → World → Prop)
    (hac : ∀ (i : Nat) (o : Oper), ops[i]? = some o → ∀ e : Edge, e ∈ o.after → Region.binds .any e = true → e.on < i)
    (h0 : ∀ L : Nat → Bool, (∀ i, i < ops.size → L i = false) → I L a w.drew)
    (hend : ∀ (L : Nat → Bool) a w, (∀ i, L i = true) → I L a w → Q .normal a w)
    (hstep : ∀ (L : Nat → Bool) (i : Nat) (o : Oper), ops[i]? = some o → L i = false → (∀ e : Edge, e ∈ o.after → Region.binds .any e = true → L e.on = true) → ∀ a w, I L a w → ∀ K' : Act → World → Prop, (∀ a' w', I (updL L i) a' w' → K' a' w') → if Region.wanted o (yielded ops a.tmps) = true then Oper.wp P o a w K' Q else K' (a.put o.dst undef) w) :
    (Code.region id ops true).wp P Q a w := by
  refine wp_region_any hmix ?_
  have key : ∀ (fuel : Nat) (listed : Array Bool) (a : Act) (w : World), listed.size = ops.size → leftO listed ≤ fuel → I (fun j => listed.getD j true) a w → wpAny P .any ops Q fuel listed a w := by
    intro fuel
    induction fuel with
    | zero =>
      intro listed a w hs hl hI
      have hr := leftO_zero (md := .any) (ops := ops) (listed := listed) (by omega)
      exact ⟨hr, hend _ a w (all_listed2 hs hac hr) hI⟩
    | succ fuel ih =>
      intro listed a w hs hl hI
      refine ⟨fun hr => hend _ a w (all_listed2 hs hac hr) hI, fun i hi => ?_⟩
      unfold Region.ready at hi
      obtain ⟨hi1, hi2⟩ := List.mem_filter.1 hi
      have hlt := List.mem_range.1 hi1
      have ho : ops[i]? = some ops[i] := Array.getElem?_eq_getElem hlt
      simp only [Bool.and_eq_true, Bool.not_eq_true'] at hi2
      obtain ⟨hu, hd⟩ := hi2
      rw [ho] at hd
      simp only [Option.map_some, Option.getD_some] at hd
      rw [Array.all_eq_true_iff_forall_mem] at hd
      refine wpOp_step ho fun K' hK' => hstep (fun j => listed.getD j true) i _ ho hu (fun e he hb => ?_) a w hI K' fun a' w' hI' => hK' a' w' (ih _ a' w' (by simp [hs]) (by have := leftO_set hu; omega) ?_)
      · have h1 := hd e he
        rw [hb] at h1
        simp only [Bool.not_true, Bool.false_or] at h1
        have h2 : e.on < listed.size := by have := hac i _ ho e he hb; omega
        simp [Array.getD, h2] at h1 ⊢
        exact h1
      · have e : (fun j => (listed.setIfInBounds i true).getD j true) = updL (fun j => listed.getD j true) i := funext fun j => getD_set
        rw [e]; exact hI'
  refine key _ _ _ _ (by simp) ?_ ?_
  · unfold leftO
    refine Nat.le_trans List.countP_le_length ?_
    simp
  · exact h0 _ fun i hi => by simp [Array.getD, hi]
/-- The edges that are told stand in the text. -/
def edgesOk2 (l : List (List Nat)) (ops : List Oper) : Bool := decide (l.length ≤ ops.length) && (List.range ops.length).all fun i => match ops[i]? with
  | some o => o.guard.isNone && (o.after.toList.all (fun e => !Region.binds .any e || decide (e.on < i)) && (l.getD i []).all fun k => o.after.toList.any fun e => e.on == k && Region.binds .any e)
  | none => true
theorem region_steps2 {P : Program} {id : Nat} {ops : List Oper} {Q : Exit → Act → World → Prop} {a : Act} {w : World} (J : Act → (Nat → Bool) → Act → World → Prop) (l : List (List Nat)) (hmix : P.follows .mixedOrders = true) (hok : edgesOk2 l ops = true)
    (h0 : ∀ L : Nat → Bool, (∀ i, i < ops.length → L i = false) → J a L a w.drew)
    (hs : StepsI P Q (J a) l 0 ops)
    (hend : ∀ L : Nat → Bool, (∀ i, L i = true) → ∀ a' w', J a L a' w' → Q .normal a' w') :
    (Code.region id ops.toArray true).wp P Q a w := by
  unfold edgesOk2 at hok
  rw [Bool.and_eq_true] at hok
  have hlen := of_decide_eq_true hok.1
  have hall : ∀ (i : Nat) (o : Oper), ops[i]? = some o → o.guard = none ∧ (∀ e : Edge, e ∈ o.after → Region.binds .any e = true → e.on < i) ∧ ∀ k, k ∈ l.getD i [] → ∃ e : Edge, e ∈ o.after ∧ e.on = k ∧ Region.binds .any e = true := by
    intro i o ho
    have hi : i < ops.length := (List.getElem?_eq_some_iff.1 ho).1
    have := List.all_eq_true.1 hok.2 i (List.mem_range.2 hi)
    rw [ho] at this
    simp only [Bool.and_eq_true] at this
    obtain ⟨h1, h2, h3⟩ := this
    have h1' : o.guard = none := by
      cases hg : o.guard with
      | none => rfl
      | some x => rw [hg] at h1; cases h1
    refine ⟨h1', fun e he hb => ?_, fun k hk => ?_⟩
    · have := List.all_eq_true.1 h2 e (by simpa using he)
      rw [hb] at this
      simpa using this
    · obtain ⟨e, he, h4⟩ := List.any_eq_true.1 (List.all_eq_true.1 h3 k hk)
      rw [Bool.and_eq_true, beq_iff_eq] at h4
      exact ⟨e, by simpa using he, h4.1, h4.2⟩
  refine region_inv2 hmix (fun L a' w' => J a L a' w' ∧ ∀ j k, k ∈ l.getD j [] → L j = true → L k = true) (fun i o ho => (hall i o (by simpa using ho)).2.1) (fun L hL => ⟨h0 L (fun i hi => hL i (by simpa using hi)), fun j k hk hj => ?_⟩) (fun L a' w' hL hI => hend L hL a' w' hI.1) ?_
  · by_cases hlt : j < ops.length
    · rw [hL j (by simpa using hlt)] at hj; cases hj
    · rw [List.getD_eq_getElem?_getD, List.getElem?_eq_none (by omega)] at hk
      simp at hk
  · intro L i o ho hLi hd a' w' hI K' hK'
    have ho' : ops[i]? = some o := by simpa using ho
    obtain ⟨hg, _, he⟩ := hall i o ho'
    rw [if_pos (by unfold Region.wanted; rw [hg])]
    have hdl : ∀ k, k ∈ l.getD i [] → L k = true := fun k hk => by
      obtain ⟨e, h1, h2, h3⟩ := he k hk
      rw [← h2]
      exact hd e h1 h3
    have := hs.at_ ho' L (by rw [Nat.zero_add]; exact hLi) (by rw [Nat.zero_add]; exact hdl) hI.2 a' w' hI.1 K'
    rw [Nat.zero_add] at this
    refine this fun a2 w2 h2 => hK' a2 w2 ⟨h2, fun j k hk hj => ?_⟩
    have hup : ∀ k, L k = true → updL L i k = true := fun k hk => by
      unfold updL
      split
      · rfl
      · exact hk
    by_cases e : j = i
    · subst e; exact hup k (hdl k hk)
    · refine hup k (hI.2 j k hk ?_)
      unfold updL at hj
      rwa [if_neg e] at hj
end Go.Proofs.Ytafiikfaeomhpaa

namespace Go.Proofs.Ytafiikfaeomhpaa
open Go.ChangeShapes Go.WideShapes Go.ChangeAt Go.RowKit

theorem FrB.gr8 {w w' : World} {lo R n : Nat} {T : TypeId} {A : Option Addr} {v : Nat → Bool} (h : FrB w lo T A n v) (hg : Gr R w w') (hR : R < lo) : FrB w' lo T A n v := by
  rcases h with h | ⟨G, e, h1, h2⟩
  · exact .inl h
  · exact .inr ⟨G, e, h1, h2.at_ (hg.block G h2.lt (by intro e; cases e; omega))⟩
theorem FrB.set8 {w : World} {lo n : Nat} {T : TypeId} {A : Option Addr} {v : Nat → Bool} (h : FrB w lo T A n v) {p : Addr} (hp : p.block < lo) (u : Value) : FrB (w.setCell p u) lo T A n v := by
  rcases h with h | ⟨G, e, h1, h2⟩
  · exact .inl h
  · exact .inr ⟨G, e, h1, h2.at_ (Below.heap_setCell w p u G (by omega))⟩
theorem OwnVb.val8 {w : World} {G n : Nat} {T : TypeId} {v : Nat → Bool} (h : OwnVb w G T n n v) {j : Nat} (hj : j < n) : w.cell? ⟨G, j, none⟩ = some (.bool (v j)) := by
  obtain ⟨cs, h1, h2, h3⟩ := h
  exact (cell_of_row _ G j cs _ _ h1).trans (h3 j hj)
theorem OwnVb.set8b {w : World} {G n j : Nat} {T : TypeId} {v : Nat → Bool} (h : OwnVb w G T n n v) (b : Bool) (hj : j < n) : OwnVb (w.setCell ⟨G, j, none⟩ (.bool b)) G T n n (fun i => if i = j then b else v i) := by
  obtain ⟨cs, hh, h1, h2⟩ := h
  refine ⟨cs.setIfInBounds j (.bool b), by simp [World.setCell, Array.getElem?_modify, hh], by simp [h1], fun i hi => ?_⟩
  rw [Array.getElem?_setIfInBounds]
  by_cases e2 : i = j
  · subst e2
    simp only [if_true]
    rw [if_pos (by omega)]
  · rw [if_neg (fun e' => e2 e'.symm)]
    simp only [if_neg e2]
    exact h2 i hi
structure FDv (w4 : World) (R : Nat) (vm : Value) (L : Nat → Bool) (w : World) (u6 u7 u15 u16 u17 u18 u19 u20 u21 u22 : Value) : Prop where
  gr : Gr R w4 w
  rd0 : L 3 = false → Rdr w R 2010
  rd1 : L 3 = true → Rdr w R 2030
  b0 : L 0 = true → u16 = vm
  b1 : L 1 = true → u17 = .pointer (some ⟨R, 0, none⟩)
  b2 : L 2 = true → u18 = vm
  b3 : L 3 = true → ∃ V kc cc, u19 = .slice V kc cc ∧ kc ≤ 11 ∧ TI w w4.heap.size w.heap.size (.slice V kc cc) kc
  b4 : L 4 = true → ∃ Ab kb cb ok, ∃ vb : Nat → Bool, u20 = .tuple #[.slice Ab kb cb, .bool ok] ∧ kb ≤ 12 ∧ (ok = true → kb = 12) ∧ kb ≤ cb ∧ FrB w w4.heap.size 4 Ab kb vb
  b5 : L 5 = true → u15 = u20
  b6 : L 6 = true → ∀ a b, u20 = .tuple #[a, b] → u21 = a
  b7 : L 7 = true → ∀ a b, u20 = .tuple #[a, b] → u22 = b
  b8 : L 8 = true → u6 = u21
  b9 : L 9 = true → u7 = u22

set_option linter.unusedVariables false in
set_option linter.unusedSimpArgs false in
set_option maxRecDepth 100000 in
set_option maxHeartbeats 6400000 in
theorem drawDecode_any (A : Option Addr) (n0 cap0 : Nat) (y : Nat → Int) (w : World) (hm : n0 ≤ maxLen) (hcap : n0 ≤ cap0) (hr : RdY w w.heap.size A n0 y) :
    Calls Try.prog 24 #[.slice A n0 cap0] w fun e w' => ∃ As cs Ar cr sn n, ∃ Av kv cv, ∃ vv : Nat → Bool, e = .returned (.tuple #[.agg #[.slice As sn cs, .slice Ar n cr], .slice Av kv cv]) ∧ MT w w' As Ar sn cs n cr ∧ kv ≤ 12 ∧ kv ≤ cv ∧ RdB w' w'.heap.size Av kv vv := by
  have HY0 := Lib.hid (bl_alloc (Below.refl w.heap.size w) (.cells #[.slice none 0 0, .slice none 0 0] 30))
  have y0 : Cel (w.alloc (.cells #[.slice none 0 0, .slice none 0 0] 30)) w.heap.size 0 (.slice none 0 0) := ⟨by go_simp, by go_simp⟩
  have y1 : Cel (w.alloc (.cells #[.slice none 0 0, .slice none 0 0] 30)) w.heap.size 1 (.slice none 0 0) := ⟨by go_simp, by go_simp⟩
  have hz0 : (w.alloc (.cells #[.slice none 0 0, .slice none 0 0] 30)).heap.size = w.heap.size + 1 := by simp
  have Y0 := Lib.hid y0
  have Y1 := Lib.hid y1
  clear y0 y1
  go_enter Try.func24, Try.ntmps24
  go_wp2_with fail
  refine (open_any _ _ _ y _ hm hcap (hr.later HY0.out)).mono ?_
  rintro e w1 ⟨rfl, hb, hrd, hz1⟩
  have hb1 := bl_trans HY0.out hb
  have Y0a := Lib.hid (Y0.out.below hb)
  have Y1a := Lib.hid (Y1.out.below hb)
  rw [hz0] at hrd hz1
  have HB1 := Lib.hid hb1
  have RD1 := Lib.hid hrd
  clear hb hb1 hrd hr Y0 Y1
  go_wp2_with fail
  refine (model_any (w.heap.size + 1) 0 _ (by omega) RD1.out).mono ?_
  rintro e w2 ⟨Aa, ca, Ab, cb, sa, na, rfl, hsa, hna, hti, her, hg, hrd⟩
  have Y0b := Lib.hid (hg.cel Y0a.out (by omega))
  have Y1b := Lib.hid (hg.cel Y1a.out (by omega))
  have HB2 := Lib.hid (gr_bel8 HB1.out hg (by omega))
  have TI2 := Lib.hid hti
  have ER2 := Lib.hid her
  have RD2 := Lib.hid hrd
  have hz2 : w.heap.size + 1 < w2.heap.size := Nat.lt_of_lt_of_le hz1 hg.size
  clear hti her hg hrd Y0a Y1a HB1 RD1
  go_wp2_with fail
  refine (mutate_any (w.heap.size + 1) (0 + 2000) _ _ _ _ _ _ _ _ _ (by omega) hsa hna TI2.out (ER2.out) RD2.out).mono ?_
  rintro e w3 ⟨As, cs, Ar, cr, sn, n, rfl, hsn, hn, hti, her, hg, hrd⟩
  have hz3 : w.heap.size + 1 < w3.heap.size := Nat.lt_of_lt_of_le hz2 hg.size
  have Y0c := hg.cel Y0b.out (by omega)
  have Y1c := hg.cel Y1b.out (by omega)
  have hb3 := gr_bel8 HB2.out hg (by omega)
  have hal := bl_alloc (Below.refl w3.heap.size w3) (.cells #[.slice As sn cs, .slice Ar n cr] 30)
  have DX4 : Hid (DX w (w3.alloc (.cells #[.slice As sn cs, .slice Ar n cr] 30)) (w.heap.size + 1) 2010 w3.heap.size w.heap.size (.slice As sn cs) (.slice Ar n cr)) := Lib.hid ⟨by omega, by omega, by omega, by omega, by omega, by omega, ⟨_, Y0c.below hal⟩, ⟨_, Y1c.below hal⟩, ⟨by go_simp, by go_simp⟩, ⟨by go_simp, by go_simp⟩, bl_trans hb3 hal, hrd.bel hal⟩
  have TI4 := Lib.hid (hti.kept (gb_of hal) oth_none)
  have ER4 := Lib.hid (her.kept (gb_of hal) oth_none)
  have hz4 : (w3.alloc (.cells #[.slice As sn cs, .slice Ar n cr] 30)).heap.size = w3.heap.size + 1 := by simp
  clear hti her hg hrd hb3 hal Y0b Y1b Y0c Y1c HB2 TI2 ER2 RD2 hz0 HY0
  have hz23 : w.heap.size + 1 < w2.heap.size := hz2
  go_upto_region 3 with fail
  generalize (w3.alloc (.cells #[.slice As sn cs, .slice Ar n cr] 30)) = w4 at *
  obtain ⟨X, hX⟩ : ∃ X, w3.heap.size = X := ⟨_, rfl⟩
  rw [hX] at DX4 TI4 ER4 hz4 ⊢
  have hR2 : w.heap.size + 1 < w2.heap.size := by omega
  have hX4 : X ≤ w4.heap.size := by omega
  have hXR := DX4.out.hXR
  have hYR := DX4.out.hYR
  have hR4 : w.heap.size + 1 < w4.heap.size := by omega
  refine region_steps2 (J := fun _ L a' w' => ∃ u6 u7 u15 u16 u17 u18 u19 u20 u21 u22 : Value, a' = ⟨#[.slice A n0 cap0, undef, .pointer (some ⟨w.heap.size, 0, none⟩), .slice none 0 0, .pointer (some ⟨w.heap.size + 1, 0, none⟩), .pointer (some ⟨X, 0, none⟩), u6, u7, undef, .slice A n0 cap0, .pointer (some ⟨w.heap.size + 1, 0, none⟩), .pointer (some ⟨w.heap.size + 1, 0, none⟩), .pointer (some ⟨w.heap.size + 1, 0, none⟩), .agg #[.slice Aa sa ca, .slice Ab na cb], .agg #[.slice As sn cs, .slice Ar n cr], u15, u16, u17, u18, u19, u20, u21, u22, undef, undef, undef, undef, undef, undef, undef, undef, undef, undef, undef, undef, undef, undef, undef, undef, undef, undef, undef, undef, undef, undef, undef, undef, undef], []⟩ ∧ FDv w4 (w.heap.size + 1) (.agg #[.slice As sn cs, .slice Ar n cr]) L w' u6 u7 u15 u16 u17 u18 u19 u20 u21 u22) [[], [], [], [1, 2], [0, 3], [4], [5], [5], [6], [7]] (by kernel_rfl) (by kernel_rfl) ?_ ⟨?_, ?_, ?_, ?_, ?_, ?_, ?_, ?_, ?_, ?_, trivial⟩ ?_
  · intro L hL
    exact ⟨_, _, _, _, _, _, _, _, _, _, rfl, ⟨Gr.of (Below.refl w4.heap.size w4).drew, fun _ => DX4.out.rd.bel (Below.refl w4.heap.size w4).drew, fun h => tf h (hL 3 (by decide)), fun h => tf h (hL 0 (by decide)), fun h => tf h (hL 1 (by decide)), fun h => tf h (hL 2 (by decide)), fun h => tf h (hL 3 (by decide)), fun h => tf h (hL 4 (by decide)), fun h => tf h (hL 5 (by decide)), fun h => tf h (hL 6 (by decide)), fun h => tf h (hL 7 (by decide)), fun h => tf h (hL 8 (by decide)), fun h => tf h (hL 9 (by decide))⟩⟩
  · intro L hL hd hc a w5 hI K' hK'
    obtain ⟨u6, u7, u15, u16, u17, u18, u19, u20, u21, u22, rfl, hF⟩ := hI
    have z0 := (hF.gr.cel DX4.out.x0 hXR).1
    have z1 := (hF.gr.cel DX4.out.x1 hXR).1
    go_simp
    refine hK' _ _ ⟨_, _, _, _, _, _, _, _, _, _, rfl, ⟨hF.gr, hF.rd0, hF.rd1, fun _ => rfl, hF.b1, hF.b2, hF.b3, hF.b4, hF.b5, hF.b6, hF.b7, hF.b8, hF.b9⟩⟩
  · intro L hL hd hc a w5 hI K' hK'
    obtain ⟨u6, u7, u15, u16, u17, u18, u19, u20, u21, u22, rfl, hF⟩ := hI
    go_simp
    refine hK' _ _ ⟨_, _, _, _, _, _, _, _, _, _, rfl, ⟨hF.gr, hF.rd0, hF.rd1, hF.b0, fun _ => rfl, hF.b2, hF.b3, hF.b4, hF.b5, hF.b6, hF.b7, hF.b8, hF.b9⟩⟩
  · intro L hL hd hc a w5 hI K' hK'
    obtain ⟨u6, u7, u15, u16, u17, u18, u19, u20, u21, u22, rfl, hF⟩ := hI
    have z0 := (hF.gr.cel DX4.out.x0 hXR).1
    have z1 := (hF.gr.cel DX4.out.x1 hXR).1
    go_simp
    refine hK' _ _ ⟨_, _, _, _, _, _, _, _, _, _, rfl, ⟨hF.gr, hF.rd0, hF.rd1, hF.b0, hF.b1, fun _ => rfl, hF.b3, hF.b4, hF.b5, hF.b6, hF.b7, hF.b8, hF.b9⟩⟩
  · intro L hL hd hc a w5 hI K' hK'
    obtain ⟨u6, u7, u15, u16, u17, u18, u19, u20, u21, u22, rfl, hF⟩ := hI
    have hgr := hF.gr
    have hsz := hgr.size
    have hrd := hF.rd0 hL
    obtain rfl := hF.b1 (hd 1 (by simp))
    obtain rfl := hF.b2 (hd 2 (by simp))
    go_simp; go_at_call 54
    refine (dcells_any (w.heap.size + 1) 2010 _ _ _ _ _ _ w2.heap.size X _ (by omega) hsn (TI4.out.kept hgr (oth_some (.inl hR2))) hrd hR2 (by omega)).mono ?_
    rintro e w6 ⟨V, kc, rfl, hkc, hts, hg, hr⟩
    obtain ⟨Ac, cc, rfl⟩ := ts_head hts
    go_simp
    refine hK' _ _ ⟨_, _, _, _, _, _, _, _, _, _, rfl, ⟨hgr.trans hg, fun h => tf (show true = true from rfl) h, fun _ => hr, hF.b0, hF.b1, hF.b2, fun _ => ⟨_, _, _, rfl, hkc, (hts.ti (Nat.le_refl _)).more (by omega) (Nat.le_refl _)⟩, fun h => tf (hc 4 3 (by simp) h) hL, hF.b5, hF.b6, hF.b7, hF.b8, hF.b9⟩⟩
  · intro L hL hd hc a w5 hI K' hK'
    obtain ⟨u6, u7, u15, u16, u17, u18, u19, u20, u21, u22, rfl, hF⟩ := hI
    have hgr := hF.gr
    have hsz := hgr.size
    obtain rfl := hF.b0 (hd 0 (by simp))
    obtain ⟨V, kc, cc, rfl, hkc, htc⟩ := hF.b3 (hd 3 (by simp))
    have hti5 := TI4.out.kept hgr (oth_some (.inl hR2))
    have her5 := ER4.out.kept hgr (oth_some (.inl hR2))
    obtain ⟨A1, c1, v1, e1, hr1⟩ := hti5.rd
    obtain ⟨A2, c2, q2, e2, hf2, hq2⟩ := her5.rd
    obtain ⟨A3, c3, v3, e3, hr3⟩ := htc.rd
    cases e1; cases e2; cases e3
    go_simp; go_at_call 58
    refine (specEncC_any ⟨sn, v1⟩ ⟨kc, v3⟩ n q2 _ _ _ _ _ _ _ (by simp only; omega) (by simp only; omega) (by omega) (fun i hi => Rul.fit_more (hf2 i hi) (by omega)) hr1 hq2 hr3).mono ?_
    rintro e w6 ⟨Av, capv, rfl, hfb, hb, hcapv⟩
    go_simp
    refine hK' _ _ ⟨_, _, _, _, _, _, _, _, _, _, rfl, ⟨hgr.bel hb, fun h => tf (hd 3 (by simp)) h, fun h => (hF.rd1 h).bel hb, hF.b0, hF.b1, hF.b2, fun _ => ⟨_, _, _, rfl, hkc, (htc.kept (gb_of hb) oth_none).more (Nat.le_refl _) hb.size⟩, fun _ => ⟨_, _, _, _, _, rfl, (by unfold ecN; split <;> omega), (fun h => by unfold ecN; rw [h]; rfl), hcapv, hfb.more hsz⟩, fun h => tf (hc 5 4 (by simp) h) hL, fun h => tf (hc 5 4 (by simp) (hc 6 5 (by simp) h)) hL, fun h => tf (hc 5 4 (by simp) (hc 7 5 (by simp) h)) hL, hF.b8, hF.b9⟩⟩
  · intro L hL hd hc a w5 hI K' hK'
    obtain ⟨u6, u7, u15, u16, u17, u18, u19, u20, u21, u22, rfl, hF⟩ := hI
    go_simp
    refine hK' _ _ ⟨_, _, _, _, _, _, _, _, _, _, rfl, ⟨hF.gr, hF.rd0, hF.rd1, hF.b0, hF.b1, hF.b2, hF.b3, hF.b4, fun _ => rfl, hF.b6, hF.b7, hF.b8, hF.b9⟩⟩
  · intro L hL hd hc a w5 hI K' hK'
    obtain ⟨u6, u7, u15, u16, u17, u18, u19, u20, u21, u22, rfl, hF⟩ := hI
    obtain ⟨Av, kv, cv, ok, vb, rfl, hk1, hk2, hkcb, hfb⟩ := hF.b4 (hc 5 4 (by simp) (hd 5 (by simp)))
    obtain rfl := hF.b5 (hd 5 (by simp))
    go_simp
    refine hK' _ _ ⟨_, _, _, _, _, _, _, _, _, _, rfl, ⟨hF.gr, hF.rd0, hF.rd1, hF.b0, hF.b1, hF.b2, hF.b3, fun _ => ⟨_, _, _, _, _, rfl, hk1, hk2, hkcb, hfb⟩, hF.b5, fun _ a b h => by cases h; rfl, hF.b7, fun h => tf (hc 8 6 (by simp) h) hL, hF.b9⟩⟩
  · intro L hL hd hc a w5 hI K' hK'
    obtain ⟨u6, u7, u15, u16, u17, u18, u19, u20, u21, u22, rfl, hF⟩ := hI
    obtain ⟨Av, kv, cv, ok, vb, rfl, hk1, hk2, hkcb, hfb⟩ := hF.b4 (hc 5 4 (by simp) (hd 5 (by simp)))
    obtain rfl := hF.b5 (hd 5 (by simp))
    go_simp
    refine hK' _ _ ⟨_, _, _, _, _, _, _, _, _, _, rfl, ⟨hF.gr, hF.rd0, hF.rd1, hF.b0, hF.b1, hF.b2, hF.b3, fun _ => ⟨_, _, _, _, _, rfl, hk1, hk2, hkcb, hfb⟩, hF.b5, hF.b6, fun _ a b h => by cases h; rfl, hF.b8, fun h => tf (hc 9 7 (by simp) h) hL⟩⟩
  · intro L hL hd hc a w5 hI K' hK'
    obtain ⟨u6, u7, u15, u16, u17, u18, u19, u20, u21, u22, rfl, hF⟩ := hI
    go_simp
    refine hK' _ _ ⟨_, _, _, _, _, _, _, _, _, _, rfl, ⟨hF.gr, hF.rd0, hF.rd1, hF.b0, hF.b1, hF.b2, hF.b3, hF.b4, hF.b5, hF.b6, hF.b7, fun _ => rfl, hF.b9⟩⟩
  · intro L hL hd hc a w5 hI K' hK'
    obtain ⟨u6, u7, u15, u16, u17, u18, u19, u20, u21, u22, rfl, hF⟩ := hI
    go_simp
    refine hK' _ _ ⟨_, _, _, _, _, _, _, _, _, _, rfl, ⟨hF.gr, hF.rd0, hF.rd1, hF.b0, hF.b1, hF.b2, hF.b3, hF.b4, hF.b5, hF.b6, hF.b7, hF.b8, fun _ => rfl⟩⟩
  intro L hL a' w6 hI
  obtain ⟨u6, u7, u15, u16, u17, u18, u19, u20, u21, u22, rfl, hF⟩ := hI
  obtain ⟨Av, kv, cv, ok, vb, rfl, hk1, hk2, hkcb, hfb⟩ := hF.b4 (hL 4)
  obtain rfl := hF.b5 (hL 5)
  obtain rfl := hF.b6 (hL 6) _ _ rfl
  obtain rfl := hF.b7 (hL 7) _ _ rfl
  obtain rfl := hF.b8 (hL 8)
  obtain rfl := hF.b9 (hL 9)
  obtain rfl := hF.b0 (hL 0)
  obtain rfl := hF.b1 (hL 1)
  obtain rfl := hF.b2 (hL 2)
  obtain ⟨V, kc, cc, rfl, hkc, htc⟩ := hF.b3 (hL 3)
  have hgr := hF.gr
  have DX6 := Lib.hid (DX4.out.ask hgr (hF.rd1 (hL 3)))
  have TI6 := Lib.hid (TI4.out.kept hgr (oth_some (.inl hR2)))
  have ER6 := Lib.hid (ER4.out.kept hgr (oth_some (.inl hR2)))
  have FB6 := Lib.hid hfb
  have hz6 := hgr.size
  have HK2 := Lib.hid hk2
  have HKC := Lib.hid hkcb
  clear hF hL hgr hfb htc hkc hk2 hkcb DX4 TI4 ER4
  cases ok with
  | false =>
    go_upto_region 5 with fail
    obtain ⟨x0a, x0b⟩ := DX6.out.x0
    obtain ⟨x1a, x1b⟩ := DX6.out.x1
    obtain ⟨yv0, y0a, y0b⟩ := DX6.out.y0
    obtain ⟨yv1, y1a, y1b⟩ := DX6.out.y1
    have HRD := Lib.hid (DX6.out.rd.bel (Below.refl w6.heap.size w6).drew)
    go_region_law (first
      | (go_simp; go_at_call 60; refine (values_any (w.heap.size + 1) 2030 _ (by omega) HRD.out).mono ?_; rintro e w8 ⟨Av8, kv8, cv8, vv8, rfl, hkv, hkc8, hfb8, hg0, hrd⟩; have hg := (Gr.of (R := w.heap.size + 1) (Below.refl w6.heap.size w6).drew).trans hg0; have DX8 := Lib.hid (DX6.out.ask hg hrd); have TI8 := Lib.hid (TI6.out.kept hg (oth_some (.inl hR2))); have ER8 := Lib.hid (ER6.out.kept hg (oth_some (.inl hR2))); have FB8 := Lib.hid hfb8; replace x0a := DX8.out.x0.1; replace x1a := DX8.out.x1.1; obtain ⟨yv0', y0a', y0b'⟩ := DX8.out.y0; obtain ⟨yv1', y1a', y1b'⟩ := DX8.out.y1; have hz8 := hg.size; clear hg hg0 hrd hfb8))
    all_goals
      go_wp2
      refine bodyPost_ret (v := .tuple #[.agg #[.slice As sn cs, .slice Ar n cr], .slice Av8 kv8 cv8]) (by simp [results, Try.results24, go_sem, y0a', y1a']) rfl ?_
      obtain ⟨f1, f2⟩ := DX8.out.fin (.slice As sn cs) (.slice Ar n cr)
      have f3 := f1.size
      have h := MT.mk' (w0 := w) TI8.out ER8.out hsn hn f1 (by omega) (by omega) f2 (by omega) (by omega) (by omega) (by omega)
      exact ⟨As, cs, Ar, cr, sn, n, Av8, kv8, cv8, vv8, rfl, h, hkv, hkc8, ((FB8.out.set_ (p := ⟨w.heap.size, 0, none⟩) (show w.heap.size < w6.heap.size by omega) _).set_ (p := ⟨w.heap.size, 1, none⟩) (show w.heap.size < w6.heap.size by omega) _).rd⟩
  | true =>
    have hk12 := HK2.out rfl
    subst hk12
    have hcap12 := HKC.out
    go_wp2_with fail
    refine (pick_any (w.heap.size + 1) 2030 4 _ (by omega) DX6.out.rd).mono ?_
    rintro e w7 ⟨x, rfl, hx0, hx1, hg, hr⟩
    have DX7 := Lib.hid (DX6.out.ask hg hr)
    have TI7 := Lib.hid (TI6.out.kept hg (oth_some (.inl hR2)))
    have ER7 := Lib.hid (ER6.out.kept hg (oth_some (.inl hR2)))
    have FB7 := Lib.hid (FB6.out.gr8 hg hR4)
    have hz7 : w4.heap.size ≤ w7.heap.size := Nat.le_trans hz6 hg.size
    clear hg hr
    by_cases h0 : x = 0
    · subst h0
      go_upto_region 5 with fail
      obtain ⟨x0a, x0b⟩ := DX7.out.x0
      obtain ⟨x1a, x1b⟩ := DX7.out.x1
      obtain ⟨yv0, y0a, y0b⟩ := DX7.out.y0
      obtain ⟨yv1, y1a, y1b⟩ := DX7.out.y1
      have HRD := Lib.hid (DX7.out.rd.bel (Below.refl w7.heap.size w7).drew)
      go_region_law (first
        | (go_simp; go_at_call 60; refine (values_any (w.heap.size + 1) 2031 _ (by omega) HRD.out).mono ?_; rintro e w8 ⟨Av8, kv8, cv8, vv8, rfl, hkv, hkc8, hfb8, hg0, hrd⟩; have hg := (Gr.of (R := w.heap.size + 1) (Below.refl w7.heap.size w7).drew).trans hg0; have DX8 := Lib.hid (DX7.out.ask hg hrd); have TI8 := Lib.hid (TI7.out.kept hg (oth_some (.inl hR2))); have ER8 := Lib.hid (ER7.out.kept hg (oth_some (.inl hR2))); have FB8 := Lib.hid hfb8; replace x0a := DX8.out.x0.1; replace x1a := DX8.out.x1.1; obtain ⟨yv0', y0a', y0b'⟩ := DX8.out.y0; obtain ⟨yv1', y1a', y1b'⟩ := DX8.out.y1; have hz8 := hg.size; clear hg hg0 hrd hfb8))
      all_goals
        go_wp2
        refine bodyPost_ret (v := .tuple #[.agg #[.slice As sn cs, .slice Ar n cr], .slice Av8 kv8 cv8]) (by simp [results, Try.results24, go_sem, y0a', y1a']) rfl ?_
        obtain ⟨f1, f2⟩ := DX8.out.fin (.slice As sn cs) (.slice Ar n cr)
        have f3 := f1.size
        have h := MT.mk' (w0 := w) TI8.out ER8.out hsn hn f1 (by omega) (by omega) f2 (by omega) (by omega) (by omega) (by omega)
        exact ⟨As, cs, Ar, cr, sn, n, Av8, kv8, cv8, vv8, rfl, h, hkv, hkc8, ((FB8.out.set_ (p := ⟨w.heap.size, 0, none⟩) (show w.heap.size < w7.heap.size by omega) _).set_ (p := ⟨w.heap.size, 1, none⟩) (show w.heap.size < w7.heap.size by omega) _).rd⟩
    · have hd0 : (x == 0) = false := by rw [beq_eq_false_iff_ne]; exact h0
      clear h0
      go_wp2_with fail
      refine (pick_any (w.heap.size + 1) 2031 4 _ (by omega) DX7.out.rd).mono ?_
      rintro e w8 ⟨x2, rfl, hx20, hx21, hg, hr⟩
      have DX8 := Lib.hid (DX7.out.ask hg hr)
      have TI8 := Lib.hid (TI7.out.kept hg (oth_some (.inl hR2)))
      have ER8 := Lib.hid (ER7.out.kept hg (oth_some (.inl hR2)))
      have FB8 := Lib.hid (FB7.out.gr8 hg hR4)
      have hz8 : w4.heap.size ≤ w8.heap.size := Nat.le_trans hz7 hg.size
      clear hg hr
      by_cases h0 : x2 = 0
      · subst h0
        go_wp2_with fail
        refine (pick_any (w.heap.size + 1) 2032 12 _ (by omega) DX8.out.rd).mono ?_
        rintro e w9 ⟨x3, rfl, hx30, hx31, hg, hr⟩
        have DX9 := Lib.hid (DX8.out.ask hg hr)
        have TI9 := Lib.hid (TI8.out.kept hg (oth_some (.inl hR2)))
        have ER9 := Lib.hid (ER8.out.kept hg (oth_some (.inl hR2)))
        have FB9 := Lib.hid (FB8.out.gr8 hg hR4)
        have hz9 : w4.heap.size ≤ w9.heap.size := Nat.le_trans hz8 hg.size
        clear hg hr
        obtain ⟨j, rfl⟩ : ∃ j : Nat, x3 = (j : Int) := ⟨x3.toNat, by omega⟩
        have hj : j < 12 := by omega
        rcases FB9.out with hno | ⟨GB, rfl, hGB, hov⟩
        · exact absurd hno (by omega)
        have hval := hov.val8 hj
        have hfr := hov.frozen j
        have hset := hov.set8b (!vb j) hj
        obtain ⟨x0a, x0b⟩ := DX9.out.x0
        obtain ⟨x1a, x1b⟩ := DX9.out.x1
        obtain ⟨yv0, y0a, y0b⟩ := DX9.out.y0
        obtain ⟨yv1, y1a, y1b⟩ := DX9.out.y1
        have hGX : X ≠ GB := by omega
        have hGY : w.heap.size ≠ GB := by omega
        have BLn := Lib.hid (DX9.out.bl.setCell (p := ⟨GB, j, none⟩) (show w.heap.size ≤ GB by omega) (.bool (!vb j)))
        have TIn := Lib.hid (TI9.out.kept (gb_set w9 ⟨GB, j, none⟩ (.bool (!vb j))) (oth_some (.inr (by show X ≤ GB; omega))))
        have ERn := Lib.hid (ER9.out.kept (gb_set w9 ⟨GB, j, none⟩ (.bool (!vb j))) (oth_some (.inr (by show X ≤ GB; omega))))
        have FBn := Lib.hid (show FrB (w9.setCell ⟨GB, j, none⟩ (.bool (!vb j))) w4.heap.size 4 (some ⟨GB, 0, none⟩) 12 (fun i => if i = j then !vb j else vb i) from .inr ⟨GB, rfl, hGB, hset⟩)
        have k0 := Cel.set (u := .bool (!vb j)) (O' := GB) (o' := j) ⟨x0a, x0b⟩ (.inl hGX)
        have k1 := Cel.set (u := .bool (!vb j)) (O' := GB) (o' := j) ⟨x1a, x1b⟩ (.inl hGX)
        have k2 := Cel.set (u := .bool (!vb j)) (O' := GB) (o' := j) ⟨y0a, y0b⟩ (.inl hGY)
        have k3 := Cel.set (u := .bool (!vb j)) (O' := GB) (o' := j) ⟨y1a, y1b⟩ (.inl hGY)
        have K0 := Lib.hid k0
        have K1 := Lib.hid k1
        have K2 := Lib.hid k2
        have K3 := Lib.hid k3
        have hzn : w4.heap.size ≤ (w9.setCell ⟨GB, j, none⟩ (.bool (!vb j))).heap.size := by simpa [World.setCell] using hz9
        have hj0 : (0 : Int) ≤ (j : Int) := by omega
        have hjI : (j : Int) < 12 := by omega
        clear k0 k1 k2 k3 x0a x0b x1a x1b y0a y0b y1a y1b hset hov hGB
        go_upto_region 9 with fail
        clear hval hfr
        generalize (w9.setCell ⟨GB, j, none⟩ (.bool (!vb j))) = wn at *
        obtain ⟨x0a, x0b⟩ := K0.out
        obtain ⟨x1a, x1b⟩ := K1.out
        obtain ⟨y0a, y0b⟩ := K2.out
        obtain ⟨y1a, y1b⟩ := K3.out
        go_wp2
        refine bodyPost_ret (v := .tuple #[.agg #[.slice As sn cs, .slice Ar n cr], .slice (some ⟨GB, 0, none⟩) 12 cv]) (by simp [results, Try.results24, go_sem, y0a, y1a]) rfl ?_
        have f1 : wn.grownBy ((wn.setCell ⟨w.heap.size, 0, none⟩ (.slice As sn cs)).setCell ⟨w.heap.size, 1, none⟩ (.slice Ar n cr)) (some w.heap.size) := Gr.trans (gb_set _ ⟨w.heap.size, 0, none⟩ _) (gb_set _ ⟨w.heap.size, 1, none⟩ _)
        have f2 : Below w.heap.size w ((wn.setCell ⟨w.heap.size, 0, none⟩ (.slice As sn cs)).setCell ⟨w.heap.size, 1, none⟩ (.slice Ar n cr)) := (BLn.out.setCell (Nat.le_refl _) _).setCell (Nat.le_refl _) _
        have f3 := f1.size
        have h := MT.mk' (w0 := w) TIn.out ERn.out hsn hn f1 (by omega) (by omega) f2 (by omega) (by omega) (by omega) (by omega)
        exact ⟨As, cs, Ar, cr, sn, n, (some ⟨GB, 0, none⟩), 12, cv, _, rfl, h, Nat.le_refl _, hcap12, ((FBn.out.set8 (p := ⟨w.heap.size, 0, none⟩) (show w.heap.size < w4.heap.size by omega) _).set8 (p := ⟨w.heap.size, 1, none⟩) (show w.heap.size < w4.heap.size by omega) _).rdAt⟩
      · have hd1 : (x2 == 0) = false := by rw [beq_eq_false_iff_ne]; exact h0
        clear h0
        obtain ⟨x0a, x0b⟩ := DX8.out.x0
        obtain ⟨x1a, x1b⟩ := DX8.out.x1
        obtain ⟨yv0, y0a, y0b⟩ := DX8.out.y0
        obtain ⟨yv1, y1a, y1b⟩ := DX8.out.y1
        go_wp2
        refine bodyPost_ret (v := .tuple #[.agg #[.slice As sn cs, .slice Ar n cr], .slice Av 12 cv]) (by simp [results, Try.results24, go_sem, y0a, y1a]) rfl ?_
        have f1 : w8.grownBy ((w8.setCell ⟨w.heap.size, 0, none⟩ (.slice As sn cs)).setCell ⟨w.heap.size, 1, none⟩ (.slice Ar n cr)) (some w.heap.size) := Gr.trans (gb_set _ ⟨w.heap.size, 0, none⟩ _) (gb_set _ ⟨w.heap.size, 1, none⟩ _)
        have f2 : Below w.heap.size w ((w8.setCell ⟨w.heap.size, 0, none⟩ (.slice As sn cs)).setCell ⟨w.heap.size, 1, none⟩ (.slice Ar n cr)) := (DX8.out.bl.setCell (Nat.le_refl _) _).setCell (Nat.le_refl _) _
        have f3 := f1.size
        have h := MT.mk' (w0 := w) TI8.out ER8.out hsn hn f1 (by omega) (by omega) f2 (by omega) (by omega) (by omega) (by omega)
        exact ⟨As, cs, Ar, cr, sn, n, Av, 12, cv, _, rfl, h, Nat.le_refl _, hcap12, ((FB8.out.set8 (p := ⟨w.heap.size, 0, none⟩) (show w.heap.size < w4.heap.size by omega) _).set8 (p := ⟨w.heap.size, 1, none⟩) (show w.heap.size < w4.heap.size by omega) _).rdAt⟩
end Go.Proofs.Ytafiikfaeomhpaa

namespace Go.Proofs.Ytafiikfaeomhpaa
open Go.ChangeShapes Go.WideShapes Go.ChangeAt Go.RowKit

set_option linter.unusedSimpArgs false in
set_option linter.unusedVariables false in
set_option maxRecDepth 100000 in
set_option maxHeartbeats 6400000 in
theorem lawFnDecodeValues_ok (A0 : Option Addr) (n0 cap0 : Nat) (y0 : Nat → Int) (w : World) (h0 : n0 ≤ 1048576) (hc0 : n0 ≤ cap0) (hr0 : RdY w w.heap.size A0 n0 y0) :
    Calls Try.prog 6 #[.slice A0 n0 cap0] w fun e w' => e = .returned (.bool true) ∧ Below w.heap.size w w' := by
  have hm0 : n0 ≤ maxLen := by unfold maxLen; omega
  have hi0 : ¬ (1048576 : Int) < (n0 : Int) := by omega
  go_enter Try.func6, Try.ntmps6
  go_wp2_with fail
  refine (drawDecode_any _ _ _ y0 _ hm0 hc0 hr0).mono ?_
  rintro e w1 ⟨As, cs, Ar, cr, sn, n, Av, kv, cv, vv, rfl, hmt, hkv, hkc, hv⟩
  obtain ⟨s, q, rfl, hm⟩ := hmt.rd
  have p1 : s.n ≤ 1048576 := by have := hm.hs; omega
  have p2 : kv ≤ 1048576 := by omega
  have p3 : n ≤ 1048576 := by have := hm.hn; omega
  have p4 := Lib.hid (fun i hi => Rul.fit_more (hm.fit i hi) (show 22 ≤ 1048576 by omega))
  have HB := Lib.hid hm.bl
  have HM := Lib.hid hm
  have HV := Lib.hid hv
  clear hmt hm hv
  go_wp2_with fail
  have hal := bl_alloc (Below.refl w1.heap.size w1) (.cells #[.slice As s.n cs, .slice Ar n cr] 30)
  have x0 : (w1.alloc (.cells #[.slice As s.n cs, .slice Ar n cr] 30)).cell? ⟨w1.heap.size, 0, none⟩ = some (.slice As s.n cs) := by go_simp
  have x1 : (w1.alloc (.cells #[.slice As s.n cs, .slice Ar n cr] 30)).cell? ⟨w1.heap.size, 1, none⟩ = some (.slice Ar n cr) := by go_simp
  have HB' := Lib.hid (bl_trans HB.out hal)
  have HM' := Lib.hid (HM.out.later hal)
  have HV' := Lib.hid (HV.out.later hal)
  clear hal HB HM HV
  have HB := HB'
  clear HB'
  have HM := HM'
  clear HM'
  have HV := HV'
  clear HV'
  generalize (w1.alloc (.cells #[.slice As s.n cs, .slice Ar n cr] 30)) = w2 at *
  obtain ⟨X, hX⟩ : ∃ X, w1.heap.size = X := ⟨_, rfl⟩
  rw [hX] at x0 x1 ⊢
  clear hX
  refine (implDec_any s kv vv n q As Ar Av cs cr cv _ p1 p2 p3 p4.out hkc HM.out.rs HM.out.rr HV.out).mono ?_
  have hNl := dvN_le (s := s) (n := n) (q := q) (m := kv) (y := vv) p1
  have hdc := fun h => dv_ok (s := s) (n := n) (q := q) (m := kv) (y := vv) h
  have hdn : dvB s n q kv vv = true → dvN s n q kv vv = s.n := fun h => by unfold dvN; rw [h]; rfl
  obtain ⟨N, hN⟩ : ∃ N, dvN s n q kv vv = N := ⟨_, rfl⟩
  obtain ⟨b, hb⟩ : ∃ b, dvB s n q kv vv = b := ⟨_, rfl⟩
  have HN := Lib.hid hN
  have HBv := Lib.hid hb
  rw [hN, hb] at hdn ⊢
  rw [hb] at hdc
  rw [hN] at hNl
  have HDC := Lib.hid hdc
  have HDN := Lib.hid hdn
  clear hN hb hdc hdn
  rintro e w3 ⟨Ag, cg, rfl, hfg, hb⟩
  have HG := Lib.hid hfg.rdAt
  clear hfg
  have HB' := Lib.hid (bl_trans HB.out hb)
  have HM' := Lib.hid (HM.out.later hb)
  have HV' := Lib.hid (HV.out.later hb)
  replace x0 := kc hb x0
  replace x1 := kc hb x1
  clear hb HB HM HV
  have HB := HB'
  clear HB'
  have HM := HM'
  clear HM'
  have HV := HV'
  clear HV'
  go_wp2_with fail
  refine (specDec_any s kv vv n q As Ar Av cs cr cv _ p1 p2 p3 p4.out HM.out.rs HM.out.rr HV.out).mono ?_
  rw [HN.out, HBv.out]
  rintro e w4 ⟨Aw, cw, rfl, hfw, hb⟩
  have HW := Lib.hid hfw.rdAt
  clear hfw
  have HB' := Lib.hid (bl_trans HB.out hb)
  have HM' := Lib.hid (HM.out.later hb)
  have HV' := Lib.hid (HV.out.later hb)
  have HG' := Lib.hid (HG.out.later hb)
  replace x0 := kc hb x0
  replace x1 := kc hb x1
  clear hb HB HM HV HG
  have HB := HB'
  clear HB'
  have HM := HM'
  clear HM'
  have HV := HV'
  clear HV'
  have HG := HG'
  clear HG'
  go_wp2_with fail
  cases b with
  | false =>
    go_wp2_with fail
    refine (cpInts_refl Ag Aw N cg cw (valC s.x vv) _ hNl HG.out HW.out).mono ?_
    rintro e w5 ⟨rfl, hb⟩
    have HB' := Lib.hid (bl_trans HB.out hb)
    have HM' := Lib.hid (HM.out.later hb)
    have HV' := Lib.hid (HV.out.later hb)
    have HG' := Lib.hid (HG.out.later hb)
    have HW' := Lib.hid (HW.out.later hb)
    replace x0 := kc hb x0
    replace x1 := kc hb x1
    clear hb HB HM HV HG HW
    have HB := HB'
    clear HB'
    have HM := HM'
    clear HM'
    have HV := HV'
    clear HV'
    have HG := HG'
    clear HG'
    have HW := HW'
    clear HW'
    go_wp2_with fail
    refine (cpInts_refl Ag Aw N cg cw (valC s.x vv) _ hNl HG.out HW.out).mono ?_
    rintro e w6 ⟨rfl, hb⟩
    have HB' := Lib.hid (bl_trans HB.out hb)
    have HM' := Lib.hid (HM.out.later hb)
    have HV' := Lib.hid (HV.out.later hb)
    have HG' := Lib.hid (HG.out.later hb)
    have HW' := Lib.hid (HW.out.later hb)
    replace x0 := kc hb x0
    replace x1 := kc hb x1
    clear hb HB HM HV HG HW
    have HB := HB'
    clear HB'
    have HM := HM'
    clear HM'
    have HV := HV'
    clear HV'
    have HG := HG'
    clear HG'
    have HW := HW'
    clear HW'
    go_wp2
    go_ret
    exact ⟨rfl, HB.out⟩
  | true =>
    go_wp2_with fail
    refine (cpInts_refl Ag Aw N cg cw (valC s.x vv) _ hNl HG.out HW.out).mono ?_
    rintro e w5 ⟨rfl, hb⟩
    have HB' := Lib.hid (bl_trans HB.out hb)
    have HM' := Lib.hid (HM.out.later hb)
    have HV' := Lib.hid (HV.out.later hb)
    have HG' := Lib.hid (HG.out.later hb)
    have HW' := Lib.hid (HW.out.later hb)
    replace x0 := kc hb x0
    replace x1 := kc hb x1
    clear hb HB HM HV HG HW
    have HB := HB'
    clear HB'
    have HM := HM'
    clear HM'
    have HV := HV'
    clear HV'
    have HG := HG'
    clear HG'
    have HW := HW'
    clear HW'
    obtain ⟨hdc, hk12⟩ := HDC.out (by trivial)
    subst hk12
    have hNs := HDN.out (by trivial)
    subst hNs
    have DC := Lib.hid hdc
    have HCV := Lib.hid (dc_cv hdc)
    have HEN := Lib.hid (show ecN s n q ⟨s.n, valC s.x vv⟩ = 12 from by unfold ecN; rw [dc_cv hdc]; rfl)
    have hT0 := (tS_bd (k := s.n) hdc.mod.sizes).1
    have hT1 := hdc.mod.sum
    obtain ⟨T, hT⟩ : ∃ T : Nat, tS s.x s.n = (T : Int) := ⟨(tS s.x s.n).toNat, by omega⟩
    have hT12 : T ≤ 12 := by omega
    have HEB := Lib.hid (fun (k : Nat) (hk : k < T) => dc_eb hdc (p := k) (by rw [hT]; omega))
    have HFV := Lib.hid (show fvI s n q = 12 - (T : Int) from by unfold fvI; rw [hdc.md, hT]; rfl)
    have HAG := Lib.hid (dc_again hdc)
    clear hdc hT hT0 hT1 HDC HDN HN HW
    go_wp2_with fail
    refine (implEncC_any s ⟨s.n, valC s.x vv⟩ n q As Ar Ag cs cr cg _ p1 p1 p3 p4.out HM.out.rs HM.out.rr HG.out).mono ?_
    obtain ⟨E, hE⟩ : ∃ E, eb s.x (valC s.x vv) s.n = E := ⟨_, rfl⟩
    rw [HEN.out, HCV.out]
    simp only
    rw [hE] at HEB HAG ⊢
    clear hE HEN HCV
    rintro e w6 ⟨Ao, co, rfl, hfo, hb, hco⟩
    have HO := Lib.hid hfo.rdAt
    clear hfo
    have HB' := Lib.hid (bl_trans HB.out hb)
    have HM' := Lib.hid (HM.out.later hb)
    have HV' := Lib.hid (HV.out.later hb)
    have HG' := Lib.hid (HG.out.later hb)
    replace x0 := kc hb x0
    replace x1 := kc hb x1
    clear hb HB HM HV HG
    have HB := HB'
    clear HB'
    have HM := HM'
    clear HM'
    have HV := HV'
    clear HV'
    have HG := HG'
    clear HG'
    have X0 := Lib.hid x0
    have X1 := Lib.hid x1
    clear x0 x1
    go_wp2
    go_loopw [11] (fun i wr => ∃ k : Nat, k ≤ T ∧ i = .int .i64 k ∧ Below w6.heap.size w6 wr) (fun i _ => T - (intOf i).toNat)
    case atStart => exact ⟨0, Nat.zero_le _, rfl, Below.refl _ _⟩
    case round =>
      obtain ⟨k, hk, rfl, hb⟩ := hrel
      have x0 := kc hb X0.out
      have x1 := kc hb X1.out
      have HBk := Lib.hid hb
      have HMk := Lib.hid (HM.out.later hb)
      clear hb
      go_wp2_with fail
      refine (implFree_any s n q As Ar cs cr _ p1 p3 p4.out HMk.out.rs HMk.out.rr).mono ?_
      rintro e w7 ⟨rfl, hb⟩
      rw [HFV.out]
      replace x0 := kc hb x0
      replace x1 := kc hb x1
      have HB7 := Lib.hid (bl_trans HBk.out hb)
      clear hb HBk HMk
      have hw1 : IntKind.i64.wrap (12 - (12 - (T : Int))) = (T : Int) := by rw [show (12 - (12 - (T : Int))) = (T : Int) by omega]; exact IntWalk.i64_in _ (by omega)
      have hw2 : wrap64 (12 - (12 - (T : Int))) = (T : Int) := by rw [show (12 - (12 - (T : Int))) = (T : Int) by omega]; exact IntWalk.wrap64_in _ (by omega)
      by_cases hlt : k < T
      · have hltI : (k : Int) < (T : Int) := by omega
        have hk0 : (0 : Int) ≤ (k : Int) := by omega
        have hk12 : (k : Int) < 12 := by omega
        obtain ⟨b1, o1, rfl, hbl1, hc1⟩ := (HO.out.later HB7.out) (by omega)
        obtain ⟨b2, o2, rfl, hbl2, hc2⟩ := (HV.out.later HB7.out) (by omega)
        have c1 := hc1 k (by omega)
        have c2 := hc2 k (by omega)
        rw [HEB.out k hlt] at c1
        clear hc1 hc2 hbl1 hbl2
        go_wp2_with fail
        try go_quiet (fail)
        try go_wp2
        go_roundw
        case rel => exact ⟨k + 1, by omega, by go_num, by first | exact HB7.out | exact bl_drewN HB7.out _⟩
        case measure => simp [intOf]; omega
      · obtain rfl : k = T := by omega
        have HM7 := Lib.hid (HM.out.later HB7.out)
        have HO7 := Lib.hid (HO.out.later HB7.out)
        have HG7 := Lib.hid (HG.out.later HB7.out)
        have HB8 := Lib.hid (bl_trans HB.out HB7.out)
        clear HM HO HG HV HB HB7
        go_wp2_with fail
        refine (implDec_any s 12 E n q As Ar Ao cs cr co _ p1 (by omega) p3 p4.out hco HM7.out.rs HM7.out.rr HO7.out).mono ?_
        rw [show dvN s n q 12 E = s.n from by unfold dvN; rw [HAG.out.1]; rfl, HAG.out.1]
        rintro e w8 ⟨Aa, ca, rfl, hfa, hb⟩
        have HA8 := Lib.hid (hfa.congr HAG.out.2).rdAt
        have HG8 := Lib.hid (HG7.out.later hb)
        have HB9 := Lib.hid (bl_trans HB8.out hb)
        clear hfa hb x0 x1
        go_wp2_with fail
        refine (cpInts_refl Aa Ag s.n ca cg (valC s.x vv) _ p1 HA8.out HG8.out).mono ?_
        rintro e w9 ⟨rfl, hb⟩
        have HBz := Lib.hid (bl_trans HB9.out hb)
        clear hb
        go_wp2
        go_ret
        exact ⟨rfl, HBz.out⟩

set_option linter.unusedSimpArgs false in
set_option linter.unusedVariables false in
set_option maxRecDepth 100000 in
set_option maxHeartbeats 6400000 in
theorem lawFnDecodeValues_walk (A0 : Option Addr) (n0 cap0 : Nat) (y0 : Nat → Int) (w : World) (hm0 : n0 ≤ maxLen) (hc0 : n0 ≤ cap0) (hr0 : RdY w w.heap.size A0 n0 y0) :
    Calls Try.prog 6 #[.slice A0 n0 cap0] w fun e w' => e = .returned (.bool true) ∧ Below w.heap.size w w' := by
  by_cases h0 : n0 ≤ 1048576
  · exact lawFnDecodeValues_ok A0 n0 cap0 y0 w h0 hc0 hr0
  · unfold maxLen at hm0
    have hi0 : (1048576 : Int) < (n0 : Int) := by omega
    go_enter Try.func6, Try.ntmps6
    go_wp2
    go_ret
    exact ⟨rfl, Below.refl _ _⟩
end Go.Proofs.Ytafiikfaeomhpaa

