/- What the walks of the laws over models share (no claim of its own). Conditions: as each theorem states. · The marking of a model that a call has made (no claim of its own). Conditions: as each theorem states. · Rows of Booleans that a call makes: marked, asked (no claim of its own). Conditions: as each theorem states. · What the walks of the laws over models with a slice and a Boolean as answer share (no claim of its own). Conditions: as each theorem states. · PermuteCells: both sides (no claim of its own). Conditions: as each theorem states. · Regions that draw their order and whose operations all yield one value in a class of worlds (no claim of its own). Conditions: as each theorem states. · Equal slices of ints compare equal in the laws (no claim of its own). Conditions: as each theorem states. · A model that often has symmetries, drawn (no claim of its own). Conditions: as each theorem states. · A permutation drawn (no claim of its own). Conditions: as each theorem states. · A region that draws its order, operation by operation; edges that do not bind may point ahead (no claim of its own). Conditions: as each theorem states. · DrawPermuteCells (no claim of its own). Conditions: as each theorem states. · The walk of the law FnPermuteCells (no claim of its own). Conditions: as each theorem states. -/
import Derived.Test.YtafiikfaeomhpaaMdlE
import Derived.Test.YtafiikfaeomhpaaIntA
import Derived.Test.YtafiikfaeomhpaaMrkR
import Derived.Test.YtafiikfaeomhpaaBoolA
import Derived.Test.YtafiikfaeomhpaaIntR
import Derived.Deep.AppendLies
import Derived.Test.YtafiikfaeomhpaaPrmZ
import Derived.Test.YtafiikfaeomhpaaRgA
import Derived.Laws.OwnMore
import Derived.Maps.AppendAt
import Derived.Lib.SliceRun
import Derived.Test.YtafiikfaeomhpaaComA
import Derived.Deep.RegionHeld3
import Derived.BigQuiet
import Derived.Test.YtafiikfaeomhpaaBaseC
import Derived.Test.YtafiikfaeomhpaaDmJ
import Derived.Deep.QuietTactic
namespace Go.Proofs.Ytafiikfaeomhpaa
open Go.ChangeShapes Go.WideShapes Go.ChangeAt Go.RowKit

theorem fit_all {n : Nat} {q : Nat → Rul} {m : Nat} (h : totR q n ≤ m) : ∀ i, i < n → (q i).fit m := fun i hi => Rul.fit_of (by have := totR_at q hi; omega)
end Go.Proofs.Ytafiikfaeomhpaa

namespace Go.Proofs.Ytafiikfaeomhpaa
open Go.ChangeShapes Go.WideShapes Go.ChangeAt Go.RowKit

/-- Blocks of cells of other types than int lie as they did. -/
def IntOnly (w w' : World) : Prop := ∀ (k : Nat) (cs : Array Value) (T : TypeId) (fr : Nat × Nat), w.heap[k]? = some (.cells cs T fr) → T ≠ 3 → w'.heap[k]? = w.heap[k]?
section
variable {w w' w1 : World} {lo hi G n : Nat} {T : TypeId}
theorem IntOnly.refl (w : World) : IntOnly w w := fun _ _ _ _ _ _ => rfl
theorem IntOnly.trans (h : IntOnly w w1) (k : IntOnly w1 w') : IntOnly w w' := fun j cs T fr hj hT => by
  have h1 := h j cs T fr hj hT
  exact (k j cs T fr (h1.trans hj) hT).trans h1
theorem IntOnly.set_ (h : IntOnly w w1) {m : Nat} (hr : Room w G 3 m) (o : Nat) (u : Value) : IntOnly w (w1.setCell ⟨G, o, none⟩ u) := fun j cs T fr hj hT => by
  refine (Below.heap_setCell w1 ⟨G, o, none⟩ u j (fun e => ?_)).trans (h j cs T fr hj hT)
  obtain ⟨ds, hd, _⟩ := hr
  have e' : j = G := e
  subst e'
  rw [hd] at hj
  injection hj with hj
  injection hj with _ h2 _
  exact hT h2.symm

set_option maxRecDepth 100000 in
set_option maxHeartbeats 800000 in
/-- The marking of ints, of which the room alone is known. -/
theorem markIntS_room (n cap : Nat) (k : Int) (w : World) (hn : n ≤ 1048576) (hk0 : 0 ≤ k) (hk1 : k ≤ 1099511627776) (hlo : lo ≤ G) (hhi : G < hi) (ho : Room w G 3 n) :
    Calls Try.prog 19 #[.slice (some ⟨G, 0, none⟩) n cap, .int .i64 k] w fun e w' => e = .returned (.int .i64 (k + n)) ∧ OnlyR lo hi w w' ∧ Shp w w' ∧ IntOnly w w' := by
  have hz := Lib.hid ho
  clear ho
  go_enter Try.func19, Try.ntmps19
  go_wp2
  go_loopw [1, 5] (fun t i wr => ∃ j : Nat, j ≤ n ∧ i = .int .i64 j ∧ t = .int .i64 (k + j) ∧ OnlyR lo hi w wr ∧ Shp w wr ∧ IntOnly w wr) (fun _ i _ => n - (intOf i).toNat)
  case atStart => exact ⟨0, Nat.zero_le _, rfl, by simp, OnlyR.refl _ _ _, Shp.refl _, IntOnly.refl _⟩
  case round =>
    obtain ⟨j, hj, rfl, rfl, hon, hsh, hio⟩ := hrel
    by_cases hlt : j < n
    · have hrm := hz.out.shp hsh
      obtain ⟨y1, hy1⟩ := hrm.cell (j := j) (by omega)
      have hf1 := hrm.frozen j
      have Hsh := Lib.hid hsh
      have Hio := Lib.hid hio
      clear hrm hsh hio
      go_wp2
      go_roundw
      case rel => exact ⟨j + 1, by omega, by go_num, add1 k j, hon.set_ hlo hhi _ _, Hsh.out.set_ _ _ _, Hio.out.set_ hz.out _ _⟩
      case measure => simp [intOf]; omega
    · have e : j = n := by omega
      subst e
      go_wp2
      go_ret
      exact ⟨rfl, hon, hsh, hio⟩
end

/-- The heads of a row of lists that lies in block G: each leads to room for its numbers, in a block of the range. -/
def HdL (w : World) (lo hi G n : Nat) (r : Nat → Lst) : Prop :=
  ∃ cs : Array Value, w.heap[G]? = some (.cells cs 22 (0, 0)) ∧ n ≤ cs.size ∧ ∀ i, i < n → ∃ g ci, cs[i]? = some (.slice (some ⟨g, 0, none⟩) (r i).n ci) ∧ lo ≤ g ∧ g < hi ∧ Room w g 3 (r i).n
theorem HdL.keep {w w' : World} {lo hi G n : Nat} {r : Nat → Lst} (h : HdL w lo hi G n r) (hg : w'.heap[G]? = w.heap[G]?) (hs : Shp w w') : HdL w' lo hi G n r := by
  obtain ⟨cs, h1, h2, h3⟩ := h
  refine ⟨cs, hg.trans h1, h2, fun i hi => ?_⟩
  obtain ⟨g, ci, a, b, c, d⟩ := h3 i hi
  exact ⟨g, ci, a, b, c, d.shp hs⟩
theorem HdL.ints {w w' : World} {lo hi G n : Nat} {r : Nat → Lst} (h : HdL w lo hi G n r) (hi' : IntOnly w w') (hs : Shp w w') : HdL w' lo hi G n r := by
  obtain ⟨cs, h1, _⟩ := id h
  exact h.keep (hi' G cs _ _ h1 (by decide)) hs

set_option maxRecDepth 100000 in
set_option maxHeartbeats 1600000 in
theorem markIntSS_any (lo hi G n cap : Nat) (r : Nat → Lst) (k : Int) (w : World) (hn : n + totL r n ≤ 1048576) (hk0 : 0 ≤ k) (hk1 : k ≤ 16777216) (ho : HdL w lo hi G n r) :
    Calls Try.prog 82 #[.slice (some ⟨G, 0, none⟩) n cap, .int .i64 k] w fun e w' => e = .returned (.int .i64 (k + totL r n)) ∧ OnlyR lo hi w w' ∧ Shp w w' ∧ IntOnly w w' := by
  have hz := Lib.hid ho
  clear ho
  go_enter Try.func82, Try.ntmps82
  go_wp2
  go_loopw [1, 5] (fun t i wr => ∃ j : Nat, j ≤ n ∧ i = .int .i64 j ∧ t = .int .i64 (k + totL r j) ∧ OnlyR lo hi w wr ∧ Shp w wr ∧ IntOnly w wr) (fun _ i _ => n - (intOf i).toNat)
  case atStart => exact ⟨0, Nat.zero_le _, rfl, by simp [totL], OnlyR.refl _ _ _, Shp.refl _, IntOnly.refl _⟩
  case round =>
    obtain ⟨j, hj, rfl, rfl, hon, hsh, hio⟩ := hrel
    have Hon := Lib.hid hon
    have Hsh := Lib.hid hsh
    have Hio := Lib.hid hio
    by_cases hlt : j < n
    · have ht := totL_at r hlt
      obtain ⟨cs, c1, c2, c3⟩ := hz.out.ints hio hsh
      obtain ⟨g, ci, a, b, c, d⟩ := c3 j hlt
      have hx1 : wr.cell? ⟨G, j, none⟩ = some (.slice (some ⟨g, 0, none⟩) (r j).n ci) := (cell_of_row wr G _ cs _ _ c1).trans a
      have HD := Lib.hid d
      have hlt' : (j : Int) < (n : Int) := by omega
      have hj0 : (0 : Int) ≤ (j : Int) := by omega
      clear c3 c1 c2 a hon hsh hio d
      go_wp2_with fail
      refine (markIntS_room (lo := lo) (hi := hi) _ _ _ _ (by omega) (by omega) (by omega) b c HD.out).mono ?_
      rintro e w1 ⟨rfl, h1, h2, h3⟩
      have H1 := Lib.hid (Hon.out.trans h1)
      have H2 := Lib.hid (Hsh.out.trans h2)
      have H3 := Lib.hid (Hio.out.trans h3)
      have HN := Lib.hid (show Value.int .i64 (k + (totL r j : Int) + ((r j).n : Int)) = .int .i64 (k + ((totL r (j + 1) : Nat) : Int)) from by
        congr 1
        show _ = k + ((totL r j + (r j).n : Nat) : Int)
        omega)
      clear h1 h2 h3 HD hx1
      go_wp2
      go_roundw
      case rel => exact ⟨j + 1, by omega, by go_num, HN.out, H1.out, H2.out, H3.out⟩
      case measure => simp [intOf]; omega
    · have e : j = n := by omega
      subst e
      go_wp2
      go_ret
      exact ⟨rfl, hon, hsh, hio⟩

/-- The heads of a row of rules that lies in block G. -/
def HdR (w : World) (lo hi G n : Nat) (q : Nat → Rul) : Prop :=
  ∃ cs : Array Value, w.heap[G]? = some (.cells cs 90 (0, 0)) ∧ n * 5 ≤ cs.size ∧
    ∀ i, i < n → ∃ gv cv gc cc gr cr, cs[i * 5 + 1]? = some (.slice (some ⟨gv, 0, none⟩) (q i).v.n cv) ∧ cs[i * 5 + 2]? = some (.slice (some ⟨gc, 0, none⟩) (q i).c.n cc) ∧ cs[i * 5 + 4]? = some (.slice (some ⟨gr, 0, none⟩) (q i).n cr) ∧
      (lo ≤ gv ∧ gv < hi ∧ Room w gv 3 (q i).v.n) ∧ (lo ≤ gc ∧ gc < hi ∧ Room w gc 3 (q i).c.n) ∧ HdL w lo hi gr (q i).n (q i).r
section
variable {w w' : World} {lo hi G n : Nat} {q : Nat → Rul}
theorem HdR.room (h : HdR w lo hi G n q) : Room w G 90 (n * 5) := by
  obtain ⟨cs, h1, h2, _⟩ := h
  exact ⟨cs, h1, h2⟩
theorem HdR.ints (h : HdR w lo hi G n q) (hi' : IntOnly w w') (hs : Shp w w') : HdR w' lo hi G n q := by
  obtain ⟨cs, h1, h2, h3⟩ := h
  refine ⟨cs, (hi' G cs _ _ h1 (by decide)).trans h1, h2, fun i hi => ?_⟩
  obtain ⟨gv, cv, gc, cc, gr, cr, a, b, c, d, e, f⟩ := h3 i hi
  exact ⟨gv, cv, gc, cc, gr, cr, a, b, c, ⟨d.1, d.2.1, d.2.2.shp hs⟩, ⟨e.1, e.2.1, e.2.2.shp hs⟩, f.ints hi' hs⟩
theorem HdR.set_ (h : HdR w lo hi G n q) (j o : Nat) (ho : o = 0 ∨ o = 3) (u : Value) : HdR (w.setCell ⟨G, j * 5 + o, none⟩ u) lo hi G n q := by
  obtain ⟨cs, h1, h2, h3⟩ := h
  refine ⟨cs.setIfInBounds (j * 5 + o) u, by simp [World.setCell, Array.getElem?_modify, h1], by simp [h2], fun i hi => ?_⟩
  obtain ⟨gv, cv, gc, cc, gr, cr, a, b, c, d, e, f⟩ := h3 i hi
  have hs : Shp w (w.setCell ⟨G, j * 5 + o, none⟩ u) := (Shp.refl _).set_ _ _ _
  refine ⟨gv, cv, gc, cc, gr, cr, by rw [Array.getElem?_setIfInBounds, if_neg (by omega)]; exact a, by rw [Array.getElem?_setIfInBounds, if_neg (by omega)]; exact b, by rw [Array.getElem?_setIfInBounds, if_neg (by omega)]; exact c, ⟨d.1, d.2.1, d.2.2.shp hs⟩, ⟨e.1, e.2.1, e.2.2.shp hs⟩, f.keep (Below.heap_setCell w ⟨G, j * 5 + o, none⟩ u gr (fun e => ?_)) hs⟩
  have e' : gr = G := e
  subst e'
  obtain ⟨ds, hd, _⟩ := f
  rw [hd] at h1
  injection h1 with h1
  injection h1 with _ h4 _
  exact absurd h4 (by decide)
end
theorem OwnI.room {w : World} {G n : Nat} {v : Nat → Int} (h : OwnI w G n n v) : Room w G 3 n := by
  obtain ⟨cs, h1, h2, _⟩ := h
  exact ⟨cs, h1, by omega⟩
theorem OwnL.hd {w : World} {lo G n : Nat} {r : Nat → Lst} (h : OwnL w G n n r) (hlo : lo ≤ G) : HdL w lo w.heap.size G n r := by
  obtain ⟨cs, h1, h2, h3⟩ := h
  refine ⟨cs, h1, by omega, fun i hi => ?_⟩
  obtain ⟨g, hg, a, b⟩ := h3 i hi
  exact ⟨g, _, a, by omega, b.lt, b.room⟩
theorem OwnRs.hd {w : World} {lo G n : Nat} {q : Nat → Rul} (h : OwnRs w G n n q) (hlo : lo ≤ G) : HdR w lo w.heap.size G n q := by
  obtain ⟨cs, h1, h2, h3⟩ := h
  refine ⟨cs, h1, by omega, fun i hi => ?_⟩
  obtain ⟨gv, gc, gr, a1, a2, a3, b0, b1, b2, b3, b4, c1, c2, c3⟩ := h3 i hi
  exact ⟨gv, _, gc, _, gr, _, b1, b2, b4, ⟨by omega, c1.lt, c1.room⟩, ⟨by omega, c2.lt, c2.room⟩, c3.hd (by omega)⟩

/-- How far the marks of the first k rules go. -/
def mkR (q : Nat → Rul) : Nat → Nat
  | 0 => 0
  | k + 1 => mkR q k + (2 + (q k).v.n + (q k).c.n + totL (q k).r (q k).n)
theorem mkR_le (q : Nat → Rul) (k : Nat) : mkR q k ≤ 2 * k + totR q k := by
  induction k with
  | zero => exact Nat.le_refl _
  | succ k ih =>
    show mkR q k + (2 + (q k).v.n + (q k).c.n + totL (q k).r (q k).n) ≤ 2 * (k + 1) + (totR q k + (q k).sz)
    unfold Rul.sz
    omega

set_option maxRecDepth 100000 in
set_option maxHeartbeats 3200000 in
theorem markRuleS_any (lo hi G n cap : Nat) (q : Nat → Rul) (k : Int) (w : World) (hn : n + totR q n ≤ 1048576) (hk0 : 0 ≤ k) (hk1 : k ≤ 4194304) (hlo : lo ≤ G) (hhi : G < hi) (ho : HdR w lo hi G n q) :
    Calls Try.prog 49 #[.slice (some ⟨G, 0, none⟩) n cap, .int .i64 k] w fun e w' => e = .returned (.int .i64 (k + mkR q n)) ∧ OnlyR lo hi w w' ∧ Shp w w' := by
  have hz := Lib.hid ho
  clear ho
  go_enter Try.func49, Try.ntmps49
  go_wp2
  go_loopw [1, 5] (fun t i wr => ∃ j : Nat, j ≤ n ∧ i = .int .i64 j ∧ t = .int .i64 (k + mkR q j) ∧ HdR wr lo hi G n q ∧ OnlyR lo hi w wr ∧ Shp w wr) (fun _ i _ => n - (intOf i).toNat)
  case atStart => exact ⟨0, Nat.zero_le _, rfl, by simp [mkR], hz.out, OnlyR.refl _ _ _, Shp.refl _⟩
  case round =>
    obtain ⟨j, hj, rfl, rfl, hh, hon, hsh⟩ := hrel
    by_cases hlt : j < n
    · have ht := totR_at q hlt
      have hmk := mkR_le q j
      have htj := totR_le q (show j ≤ n by omega)
      have hsz : (q j).sz = (q j).v.n + (q j).c.n + ((q j).n + totL (q j).r (q j).n) := rfl
      have hlt' : (j : Int) < (n : Int) := by omega
      have hj0 : (0 : Int) ≤ (j : Int) := by omega
      have HH := Lib.hid hh
      have Hon := Lib.hid hon
      have Hsh := Lib.hid hsh
      have hfr0 := hh.room.frozen (j * 5)
      obtain ⟨y0, hy0⟩ := hh.room.cell (j := j * 5) (by omega)
      obtain ⟨cs, c1, c2, c3⟩ := hh
      obtain ⟨gv, cv, gc, cc, gr, cr, a1, a2, a4, dv, dc, dr⟩ := c3 j hlt
      have x1 : wr.cell? ⟨G, j * 5 + 1, none⟩ = some (.slice (some ⟨gv, 0, none⟩) (q j).v.n cv) := (cell_of_row wr G _ cs _ _ c1).trans a1
      clear c3 c1 c2 hon hsh
      go_wp2_with fail
      have H1 := Lib.hid (HH.out.set_ j 0 (.inl rfl) (.int .i64 (k + (mkR q j : Int))))
      have S1 := Lib.hid ((Shp.refl wr).set_ G (j * 5) (.int .i64 (k + (mkR q j : Int))))
      have O1 := Lib.hid (Hon.out.set_ hlo hhi (j * 5) (.int .i64 (k + (mkR q j : Int))))
      have T1 := Lib.hid (Hsh.out.set_ G (j * 5) (.int .i64 (k + (mkR q j : Int))))
      have DV := Lib.hid (dv.2.2.shp S1.out)
      have dv1 := dv.1
      have dv2 := dv.2.1
      clear a1 a2 a4 dv dc dr x1 hy0 hfr0 cs
      obtain ⟨W1, hW1⟩ : ∃ W, wr.setCell ⟨G, j * 5, none⟩ (.int .i64 (k + (mkR q j : Int))) = W := ⟨_, rfl⟩
      rw [hW1]
      have H1' := Lib.hid (show HdR W1 lo hi G n q from hW1 ▸ H1.out)
      have O1' := Lib.hid (show OnlyR lo hi w W1 from hW1 ▸ O1.out)
      have T1' := Lib.hid (show Shp w W1 from hW1 ▸ T1.out)
      have DV' := Lib.hid (show Room W1 gv 3 (q j).v.n from hW1 ▸ DV.out)
      clear H1 O1 T1 DV S1 HH Hon Hsh hW1
      refine (markIntS_room (lo := lo) (hi := hi) _ _ _ _ (by omega) (by omega) (by omega) dv1 dv2 DV'.out).mono ?_
      rintro e w2 ⟨rfl, h1, h2, h3⟩
      have H2 := Lib.hid (H1'.out.ints h3 h2)
      have O2 := Lib.hid (O1'.out.trans h1)
      have T2 := Lib.hid (T1'.out.trans h2)
      clear h1 h2 h3 H1' O1' T1' DV' dv1 dv2
      obtain ⟨cs, c1, c2, c3⟩ := id H2.out
      obtain ⟨gv2, cv2, gc2, cc2, gr2, cr2, a1, a2, a4, dv, dc, dr⟩ := c3 j hlt
      have x2 : w2.cell? ⟨G, j * 5 + 2, none⟩ = some (.slice (some ⟨gc2, 0, none⟩) (q j).c.n cc2) := (cell_of_row w2 G _ cs _ _ c1).trans a2
      have DC := Lib.hid dc.2.2
      have dc1 := dc.1
      have dc2 := dc.2.1
      clear c3 c1 c2 a1 a2 a4 dv dc dr cs
      go_wp2_with fail
      refine (markIntS_room (lo := lo) (hi := hi) _ _ _ _ (by omega) (by omega) (by omega) dc1 dc2 DC.out).mono ?_
      rintro e w3 ⟨rfl, h1, h2, h3⟩
      have H3 := Lib.hid (H2.out.ints h3 h2)
      have O3 := Lib.hid (O2.out.trans h1)
      have T3 := Lib.hid (T2.out.trans h2)
      clear h1 h2 h3 H2 O2 T2 DC dc1 dc2 x2
      have hfr3 := H3.out.room.frozen (j * 5 + 3)
      obtain ⟨y3, hy3⟩ := H3.out.room.cell (j := j * 5 + 3) (by omega)
      obtain ⟨cs, c1, c2, c3⟩ := id H3.out
      obtain ⟨gv3, cv3, gc3, cc3, gr3, cr3, a1, a2, a4, dv, dc, dr⟩ := c3 j hlt
      have x4 : w3.cell? ⟨G, j * 5 + 4, none⟩ = some (.slice (some ⟨gr3, 0, none⟩) (q j).n cr3) := (cell_of_row w3 G _ cs _ _ c1).trans a4
      obtain ⟨K3, hK3⟩ : ∃ K3 : Int, k + (mkR q j : Int) + 1 + ((q j).v.n : Int) + ((q j).c.n : Int) = K3 := ⟨_, rfl⟩
      have HK3 := Lib.hid hK3
      have hK30 : 0 ≤ K3 ∧ K3 ≤ 12582912 := by omega
      obtain ⟨hK31, hK32⟩ := hK30
      rw [hK3]
      have x4' : (w3.setCell ⟨G, j * 5 + 3, none⟩ (.int .i64 K3)).cell? ⟨G, j * 5 + 4, none⟩ = some (.slice (some ⟨gr3, 0, none⟩) (q j).n cr3) := (World.cell?_setCell_other _ _ _ _ (fun e => by injection e with e1 e2 _; omega)).trans x4
      have H4 := Lib.hid (H3.out.set_ j 3 (.inr rfl) (.int .i64 K3))
      have O4 := Lib.hid (O3.out.set_ hlo hhi (j * 5 + 3) (.int .i64 K3))
      have T4 := Lib.hid (T3.out.set_ G (j * 5 + 3) (.int .i64 K3))
      have hdl : HdL (w3.setCell ⟨G, j * 5 + 3, none⟩ (.int .i64 K3)) lo hi gr3 (q j).n (q j).r := by
        obtain ⟨cs', d1, d2, d3⟩ := id H4.out
        obtain ⟨_, _, _, _, gr4, cr4, _, _, b4, _, _, fr⟩ := d3 j hlt
        have x5 := (cell_of_row _ G _ cs' _ _ d1).trans b4
        rw [x4'] at x5
        injection x5 with x5
        injection x5 with x5 _ _
        injection x5 with x5
        injection x5 with x5 _ _
        rw [x5]
        exact fr
      have HDL := Lib.hid hdl
      clear c3 c1 c2 a1 a2 a4 dv dc dr cs hK3 H3 O3 T3 hdl x4
      go_wp2_with fail
      refine (markIntSS_any lo hi gr3 (q j).n cr3 (q j).r _ _ (by omega) (by omega) (by omega) HDL.out).mono ?_
      rintro e w4 ⟨rfl, h1, h2, h3⟩
      have H5 := Lib.hid (H4.out.ints h3 h2)
      have O5 := Lib.hid (O4.out.trans h1)
      have T5 := Lib.hid (T4.out.trans h2)
      have HN := Lib.hid (show Value.int .i64 (K3 + 1 + (totL (q j).r (q j).n : Int)) = .int .i64 (k + ((mkR q (j + 1) : Nat) : Int)) from by
        congr 1
        have := HK3.out
        show _ = k + ((mkR q j + (2 + (q j).v.n + (q j).c.n + totL (q j).r (q j).n) : Nat) : Int)
        omega)
      clear h1 h2 h3 H4 O4 T4 HDL x4' hy3 hfr3
      go_wp2
      go_roundw
      case rel => exact ⟨j + 1, by omega, by go_num, HN.out, H5.out, O5.out, T5.out⟩
      case measure => simp [intOf]; omega
    · have e : j = n := by omega
      subst e
      go_wp2
      go_ret
      exact ⟨rfl, hon, hsh⟩

set_option maxRecDepth 100000 in
set_option maxHeartbeats 1600000 in
/-- The marking of a model that a call has made: what it may turn lies from lo on and below hi. -/
theorem markModel_any (lo hi Gs Gr sn n cs cr : Nat) (q : Nat → Rul) (k : Int) (w : World) (hs : sn ≤ 1048576) (hn : n + totR q n ≤ 1048576) (hk0 : 0 ≤ k) (hk1 : k ≤ 1000) (hs1 : lo ≤ Gs) (hs2 : Gs < hi) (hr1 : lo ≤ Gr) (hr2 : Gr < hi) (hsr : Room w Gs 3 sn) (ho : HdR w lo hi Gr n q) (hw : hi ≤ w.heap.size) :
    Calls Try.prog 18 #[.agg #[.slice (some ⟨Gs, 0, none⟩) sn cs, .slice (some ⟨Gr, 0, none⟩) n cr], .int .i64 k] w fun e w' => e = .returned (.int .i64 (k + sn + mkR q n)) ∧ OnlyR lo hi w w' ∧ Shp w w' := by
  have hb1 := bl_alloc (Below.refl w.heap.size w) (.cells #[.slice (some ⟨Gs, 0, none⟩) sn cs, .slice (some ⟨Gr, 0, none⟩) n cr] 30)
  have a0 : (w.alloc (.cells #[.slice (some ⟨Gs, 0, none⟩) sn cs, .slice (some ⟨Gr, 0, none⟩) n cr] 30)).cell? ⟨w.heap.size, 0, none⟩ = some (.slice (some ⟨Gs, 0, none⟩) sn cs) := by go_simp
  have a1 : (w.alloc (.cells #[.slice (some ⟨Gs, 0, none⟩) sn cs, .slice (some ⟨Gr, 0, none⟩) n cr] 30)).cell? ⟨w.heap.size, 1, none⟩ = some (.slice (some ⟨Gr, 0, none⟩) n cr) := by go_simp
  have O1 := Lib.hid (bl_range (lo := lo) (hi := hi) hb1)
  have T1 := Lib.hid (bl_shp hb1)
  have R1 := Lib.hid (hsr.shp (bl_shp hb1))
  have I1 : IntOnly w (w.alloc (.cells #[.slice (some ⟨Gs, 0, none⟩) sn cs, .slice (some ⟨Gr, 0, none⟩) n cr] 30)) := fun j ds T fr hj _ => hb1.block j (by
    rcases Nat.lt_or_ge j w.heap.size with hlt | hge
    · exact hlt
    · rw [Array.getElem?_eq_none hge] at hj; cases hj)
  have H1 := Lib.hid (ho.ints I1 (bl_shp hb1))
  have hmk := mkR_le q n
  clear hb1 hsr ho I1
  go_enter Try.func18, Try.ntmps18
  go_wp2_with fail
  obtain ⟨H, hHe⟩ : ∃ H, w.heap.size = H := ⟨_, rfl⟩
  have hH : hi ≤ H := by omega
  rw [hHe] at a0 a1 ⊢
  generalize (w.alloc (.cells #[.slice (some ⟨Gs, 0, none⟩) sn cs, .slice (some ⟨Gr, 0, none⟩) n cr] 30)) = w1 at *
  refine (markIntS_room (lo := lo) (hi := hi) _ _ _ _ hs (by omega) (by omega) hs1 hs2 R1.out).mono ?_
  rintro e w2 ⟨rfl, h1, h2, h3⟩
  have H2 := Lib.hid (H1.out.ints h3 h2)
  have O2 := Lib.hid (O1.out.trans h1)
  have T2 := Lib.hid (T1.out.trans h2)
  replace a1 := h1.cell (p := ⟨H, 1, none⟩) (.inr hH) a1
  clear h1 h2 h3 H1 O1 T1 R1 a0
  go_wp2_with fail
  refine (markRuleS_any lo hi Gr n cr q _ _ hn (by omega) (by omega) hr1 hr2 H2.out).mono ?_
  rintro e w3 ⟨rfl, h1, h2⟩
  have O3 := Lib.hid (O2.out.trans h1)
  have T3 := Lib.hid (T2.out.trans h2)
  clear h1 h2 H2 O2 T2
  go_wp2
  go_ret
  exact ⟨rfl, O3.out, T3.out⟩
end Go.Proofs.Ytafiikfaeomhpaa

namespace Go.Proofs.Ytafiikfaeomhpaa
open Go.ChangeShapes Go.WideShapes Go.ChangeAt Go.RowKit

/-- A block of elements of type T that holds at least n Booleans: the first k of them are known. -/
def OwnVb (w : World) (G : Nat) (T : TypeId) (n k : Nat) (v : Nat → Bool) : Prop :=
  ∃ cs : Array Value, w.heap[G]? = some (.cells cs T (0, 0)) ∧ n ≤ cs.size ∧ ∀ i, i < k → cs[i]? = some (.bool (v i))
section
variable {w w' : World} {G n k : Nat} {T : TypeId} {v v' : Nat → Bool}
theorem OwnB.toV (h : OwnB w G n k v) : OwnVb w G 4 n k v := by
  obtain ⟨cs, hh, h1, h2⟩ := h
  exact ⟨cs, hh, by omega, h2⟩
theorem OwnVb.zero (h : OwnVb w G T n k v) : OwnVb w G T n 0 v' := by
  obtain ⟨cs, hh, h1, _⟩ := h
  exact ⟨cs, hh, h1, fun i hi => absurd hi (by omega)⟩
theorem OwnVb.at_ (h : OwnVb w G T n k v) (hg : w'.heap[G]? = w.heap[G]?) : OwnVb w' G T n k v := by
  obtain ⟨cs, hh, h1, h2⟩ := h
  exact ⟨cs, hg.trans hh, h1, h2⟩
theorem OwnVb.lt (h : OwnVb w G T n k v) : G < w.heap.size := by
  obtain ⟨cs, hh, _, _⟩ := h
  rcases Nat.lt_or_ge G w.heap.size with hlt | hge
  · exact hlt
  · rw [Array.getElem?_eq_none hge] at hh; cases hh
theorem OwnVb.below (h : OwnVb w G T n k v) (hb : Below w.heap.size w w') : OwnVb w' G T n k v := h.at_ (hb.block G h.lt)
theorem OwnVb.rdAt (h : OwnVb w G T n n v) : RdB w w.heap.size (some ⟨G, 0, none⟩) n v := fun _ => by
  have hlt := h.lt
  obtain ⟨cs, hh, h1, h2⟩ := h
  refine ⟨G, 0, rfl, hlt, fun i hi => ?_⟩
  rw [Nat.zero_add]
  exact (cell_of_row w G _ cs _ _ hh).trans (h2 i hi)
theorem OwnVb.cell (h : OwnVb w G T n k v) {j : Nat} (hj : j < n) : ∃ u, w.cell? ⟨G, j, none⟩ = some u := by
  obtain ⟨cs, hh, h1, h2⟩ := h
  exact ⟨cs[j]'(by omega), (cell_of_row w G _ cs _ _ hh).trans (Array.getElem?_eq_getElem (by omega))⟩
theorem OwnVb.frozen (h : OwnVb w G T n k v) (j : Nat) : w.frozen? ⟨G, j, none⟩ = false := by
  obtain ⟨cs, hh, h1, h2⟩ := h
  simp [World.frozen?, hh]
theorem OwnVb.put (h : OwnVb w G T n k v) (hk : k < n) : OwnVb (w.setCell ⟨G, k, none⟩ (.bool (v k))) G T n (k + 1) v := by
  obtain ⟨cs, hh, h1, h2⟩ := h
  refine ⟨cs.setIfInBounds k (.bool (v k)), ?_, by simp [h1], fun i hi => ?_⟩
  · simp [World.setCell, Array.getElem?_modify, hh]
  · simp only [Array.getElem?_setIfInBounds]
    by_cases e : i = k
    · subst e
      rw [if_pos rfl, if_pos (by omega)]
    · rw [if_neg (by omega)]
      exact h2 i (by omega)
end

/-- A slice of Booleans that a call has made: nothing, or the head of a block of its own from B on. -/
def FrB (w : World) (B : Nat) (T : TypeId) (A : Option Addr) (n : Nat) (v : Nat → Bool) : Prop := n = 0 ∨ ∃ G, A = some ⟨G, 0, none⟩ ∧ B ≤ G ∧ OwnVb w G T n n v
section
variable {w w' : World} {B B' n n' : Nat} {T : TypeId} {A A' : Option Addr} {v : Nat → Bool}
theorem FrB.rdAt (h : FrB w B T A n v) : RdB w w.heap.size A n v := by
  rcases h with h | ⟨G, rfl, _, h⟩
  · exact fun hn => absurd hn (by omega)
  · exact h.rdAt
theorem FrB.below (h : FrB w B T A n v) (hb : Below w.heap.size w w') : FrB w' B T A n v := by
  rcases h with h | ⟨G, e, hG, h⟩
  · exact .inl h
  · exact .inr ⟨G, e, hG, h.below hb⟩
theorem FrB.more (h : FrB w B T A n v) (hB : B' ≤ B) : FrB w B' T A n v := by
  rcases h with h | ⟨G, e, hG, h⟩
  · exact .inl h
  · exact .inr ⟨G, e, by omega, h⟩
theorem Only.belowB (h : Only w w' A n) (hf : FrB w B T A n v) (hB : B ≤ w.heap.size) : Below B w w' :=
  ⟨h.os, h.tape, h.output, h.size, fun k hk => h.block k (by omega) (by
    rcases hf with h0 | ⟨G, rfl, hG, _⟩
    · exact .inl h0
    · right
      intro a ha
      cases ha
      show k ≠ G
      omega)⟩
end

/-- Such a slice in a block from lo on and below hi. -/
def FB2 (w : World) (lo hi : Nat) (T : TypeId) (A : Option Addr) (n : Nat) (v : Nat → Bool) : Prop := n = 0 ∨ ∃ G, A = some ⟨G, 0, none⟩ ∧ lo ≤ G ∧ G < hi ∧ OwnVb w G T n n v
section
variable {w w' : World} {lo hi : Nat} {T : TypeId} {A A' : Option Addr} {n n' : Nat} {v : Nat → Bool}
theorem FrB.two (h : FrB w lo T A n v) : FB2 w lo w.heap.size T A n v := by
  rcases h with h | ⟨G, e, hG, h⟩
  · exact .inl h
  · exact .inr ⟨G, e, hG, h.lt, h⟩
theorem FB2.one (h : FB2 w lo hi T A n v) : FrB w lo T A n v := by
  rcases h with h | ⟨G, e, hG, _, h⟩
  · exact .inl h
  · exact .inr ⟨G, e, hG, h⟩
theorem FB2.rdAt (h : FB2 w lo hi T A n v) : RdB w w.heap.size A n v := h.one.rdAt
theorem FB2.below (h : FB2 w lo hi T A n v) (hb : Below w.heap.size w w') : FB2 w' lo hi T A n v := by
  rcases h with h | ⟨G, e, hG, hG', h⟩
  · exact .inl h
  · exact .inr ⟨G, e, hG, hG', h.below hb⟩
theorem FB2.only (h : FB2 w lo hi T A n v) (ho : Only w w' A' n') (hd : n' = 0 ∨ ∀ a, A' = some a → a.block < lo ∨ hi ≤ a.block) : FB2 w' lo hi T A n v := by
  rcases h with h | ⟨G, e, hG, hG', h⟩
  · exact .inl h
  · refine .inr ⟨G, e, hG, hG', h.at_ (ho.block G h.lt ?_)⟩
    rcases hd with h0 | hd
    · exact .inl h0
    · exact .inr fun a ha hh => by have := hd a ha; omega
theorem FB2.apart (h : FB2 w lo hi T A n v) {lo' hi' : Nat} (hh : hi ≤ lo' ∨ hi' ≤ lo) : n = 0 ∨ ∀ a, A = some a → a.block < lo' ∨ hi' ≤ a.block := by
  rcases h with h | ⟨G, e, hG, hG', _⟩
  · exact .inl h
  · refine .inr fun a ha => ?_
    rw [e] at ha
    cases ha
    show G < lo' ∨ hi' ≤ G
    omega
theorem FB2.cell (h : FB2 w lo hi T A n v) (ho : Only w w' A n) {p : Addr} {u : Value} (hp : p.block < lo ∨ hi ≤ p.block) (hc : w.cell? p = some u) : w'.cell? p = some u := by
  refine (World.cell?_of_block (w := w) (ho.block p.block (World.block_lt_of_cell? w p hc) ?_)).trans hc
  rcases h with h | ⟨G, e, hG, hG', _⟩
  · exact .inl h
  · refine .inr fun a ha hh => ?_
    rw [e] at ha
    cases ha
    have : p.block = G := hh
    omega
theorem Only.belB (ho : Only w w' A n) (h : FB2 w lo hi T A n v) {W : World} (hb : Below W.heap.size W w) (hlo : W.heap.size ≤ lo) : Below W.heap.size W w' :=
  hb.trans ((ho.belowB (B := W.heap.size) (h.one.more hlo) hb.size))
end

/-- The Booleans that the marking lays. -/
def mkBl (k : Int) (i : Nat) : Bool := ((k + (i : Int)) % 3 == 0)
end Go.Proofs.Ytafiikfaeomhpaa

namespace Go.Proofs.Ytafiikfaeomhpaa
open Go.ChangeShapes Go.WideShapes Go.ChangeAt Go.RowKit

/-- What a function that answers a slice of ints, or of Booleans, and a Boolean leaves: the slice lies in new memory. -/
def SResI (w : World) (n : Nat) (v : Nat → Int) (ok : Bool) (e : Ending) (w' : World) : Prop := ∃ A cap, e = .returned (.tuple #[.slice A n cap, .bool ok]) ∧ FrI w' w.heap.size 3 A n v ∧ Below w.heap.size w w'
def SResB (w : World) (n : Nat) (v : Nat → Bool) (ok : Bool) (e : Ending) (w' : World) : Prop := ∃ A cap, e = .returned (.tuple #[.slice A n cap, .bool ok]) ∧ FrB w' w.heap.size 4 A n v ∧ Below w.heap.size w w'
theorem bl_ints {w w' : World} (hb : Below w.heap.size w w') : IntOnly w w' := fun j ds T fr hj _ => hb.block j (by
  rcases Nat.lt_or_ge j w.heap.size with hlt | hge
  · exact hlt
  · rw [Array.getElem?_eq_none hge] at hj; cases hj)
theorem HdR.below {w w' : World} {lo hi G n : Nat} {q : Nat → Rul} (h : HdR w lo hi G n q) (hb : Below w.heap.size w w') : HdR w' lo hi G n q := h.ints (bl_ints hb) (bl_shp hb)
theorem FB2.onlyR {w w' : World} {lo hi lo' hi' n : Nat} {T : TypeId} {A : Option Addr} {v : Nat → Bool} (h : FB2 w lo hi T A n v) (ho : OnlyR lo' hi' w w') (hd : hi ≤ lo' ∨ hi' ≤ lo) : FB2 w' lo hi T A n v := by
  rcases h with h | ⟨G, e, hG, hG', h⟩
  · exact .inl h
  · exact .inr ⟨G, e, hG, hG', h.at_ (ho.block G h.lt (by omega))⟩
end Go.Proofs.Ytafiikfaeomhpaa

namespace Go.Proofs.Ytafiikfaeomhpaa
open Go.ChangeShapes Go.WideShapes Go.ChangeAt Go.RowKit Go.Shelf

theorem runP_cp (W : World) {B0 : Nat} {v : Value} {n cap b off : Nat} {vv : Nat → Int} (hn : 1 ≤ n) (hm : n ≤ 1048576) (hown : W.ownsRow B0 3 1 v 0 []) (hlt : ∀ j, v.ownBlock = some j → B0 ≤ j) (hc : ∀ i, i < n → W.cell? ⟨b, off + i, none⟩ = some (.int .i64 (vv i))) (hB : B0 ≤ W.heap.size) :
    ∃ g cap' w', (Builtin.append_ #[22, 22] 22 #[v, .slice (some ⟨b, off, none⟩) n cap]).run Try.prog W = .ok (.slice (some ⟨g, 0, none⟩) n cap') w' ∧ B0 ≤ g ∧ OwnV w' g 3 n n vv ∧ Below B0 W w' := by
  obtain ⟨i0, hi, hz0, hz1, hz2⟩ := info_parts Try.infoInt
  obtain ⟨v', w', k1, k2, k3, _, _⟩ := run_append_own_at (P := Try.prog) W B0 22 22 3 i0 _ 1 8 Try.underlying22 hi hz0 hz1 hz2 rfl (by omega) v 0 _ hown ⟨b, off, none⟩ n cap ((vlst vv n).map vI) (by rw [len_vlst]; omega) (src_vlst hc) (one_vlst vv n) (by unfold maxLen; omega) (by omega) hB
  rcases k2.2 with ⟨_, h⟩ | ⟨g, cap', cur, e1, hg, hh, hnc, _, hsz, htk⟩
  · omega
  · simp only [Nat.zero_add] at e1
    refine ⟨g, cap', w', by rw [k1, e1], hg, ⟨cur, hh, by omega, fun i hi => ?_⟩, (Below.refl B0 W).grown k3 hB hlt⟩
    have h3 : ([] ++ (vlst vv n).map vI)[i]? = some (.int .i64 (vv i)) := by
      rw [List.nil_append, List.getElem?_map, vlst_get vv hi]
      rfl
    rw [← htk, List.getElem?_take_of_lt (by omega)] at h3
    simpa using h3
theorem wpP_cp {o : Oper} {a : Act} {K : Act → World → Prop} {Q : Exit → Act → World → Prop} {W : World} (s x : Operand)
    (ho : o.op = .call { callee := .builtin .append, args := #[s, x], argTypes := #[22, 22] }) (hty : o.type = 22)
    {B0 : Nat} {v : Value} {n cap b off : Nat} {vv : Nat → Int} (hn : 1 ≤ n) (hm : n ≤ 1048576) (hs : a.eval s = v) (hx : a.eval x = .slice (some ⟨b, off, none⟩) n cap)
    (hown : W.ownsRow B0 3 1 v 0 []) (hlt : ∀ j, v.ownBlock = some j → B0 ≤ j) (hc : ∀ i, i < n → W.cell? ⟨b, off + i, none⟩ = some (.int .i64 (vv i))) (hB : B0 ≤ W.heap.size)
    (h : ∀ g cap' w', B0 ≤ g → OwnV w' g 3 n n vv → Below B0 W w' → K (a.put o.dst (.slice (some ⟨g, 0, none⟩) n cap')) w') :
    o.wp Try.prog a W K Q := by
  obtain ⟨g, cap', w', hrun, h1, h2, h3⟩ := runP_cp W hn hm hown hlt hc hB (cap := cap)
  unfold Oper.wp execOp
  simp only [ho, hty, resolve, invoke, builtin, Sem.run_bind, Sem.run_pure, Result.andThen_ok, List.map_toArray, List.map_cons, List.map_nil, hs, hx, hrun]
  exact h g cap' w' h1 h2 h3
theorem rowP_new (W : World) : (W.alloc (.cells #[] 3)).ownsRow W.heap.size 3 1 (.slice (some ⟨W.heap.size, 0, none⟩) 0 0) 0 [] := by
  simpa using World.ownsRow_lit W #[] 0 (e := 3) (size := 1) (Nat.le_refl _) (by unfold maxLen; omega) (by simp)

set_option maxRecDepth 100000 in
set_option maxHeartbeats 800000 in
theorem cloneP_any (A : Option Addr) (n cap : Nat) (c : Nat → Int) (w : World) (h1 : 1 ≤ n) (hn : n ≤ 1048576) (hr : RdI w w.heap.size A n c) :
    Calls Try.prog 48 #[.slice A n cap] w fun e w' => ∃ g cap', e = .returned (.slice (some ⟨g, 0, none⟩) n cap') ∧ w.heap.size ≤ g ∧ OwnV w' g 3 n n c ∧ Below w.heap.size w w' := by
  have qT : ∀ (w : World) (a : Option Addr) (n c n' c' : Nat), (binOp .eql 22 (.slice a n c) (.slice none n' c')).run Try.prog w = .ok (.bool a.isNone) w := fun w a n c n' c' => Lib.run_eql_slice_nil w _ _ a n c n' c' Try.underlying22
  obtain ⟨b, off, rfl, hbl, hc⟩ := hr (by omega)
  have HcA := Lib.hid (fun j (hj : j < n) => kc (bl_alloc (Below.refl w.heap.size w) (.cells #[] 3)) (hc j hj))
  have HR0 := Lib.hid (rowP_new w)
  clear hc hr
  go_enter Try.func48, Try.ntmps48
  go_wp2_with (at_builtin; refine wpList_plain (by rfl) fun K' hK' => ?_; refine wpP_cp _ _ (by rfl) (by rfl) (B0 := w.heap.size) h1 hn (by rfl) (by rfl) HR0.out (by intro j hj; cases hj; exact Nat.le_refl _) HcA.out (by simp) ?_; intro g cap1 w7 hg1 hov hb7; have Hbx := Lib.hid ((bl_alloc (Below.refl w.heap.size w) (.cells #[] 3)).trans hb7); have Hov := Lib.hid hov; have Hg := Lib.hid hg1; clear hov hb7 hg1; refine hK' _ _ ?_; clear hK' K')
  go_ret
  exact ⟨g, cap1, rfl, Hg.out, Hov.out, Hbx.out⟩

theorem ownP_zeros {w : World} {n : Nat} : OwnI (w.alloc (.cells (madeCells #[Value.int .i64 0] n) 3)) w.heap.size n n (fun _ => 0) := by
  have h : (madeCells #[Value.int .i64 0] n).toList = List.replicate n (.int .i64 0) := toList_madeCells_one (.int .i64 0) n
  refine ⟨_, heap_alloc_new _ _, by simp [size_madeCells], fun i hi => ?_⟩
  rw [← Array.getElem?_toList, h, List.getElem?_replicate, if_pos hi]
theorem tfP {b : Bool} {P : Prop} (h : b = true) (h' : b = false) : P := by rw [h] at h'; cases h'
theorem OwnV.congrP {w : World} {G n k : Nat} {T : TypeId} {v v' : Nat → Int} (h : OwnV w G T n k v) (e : ∀ i, i < k → v i = v' i) : OwnV w G T n k v' := by
  obtain ⟨cs, h1, h2, h3⟩ := h
  exact ⟨cs, h1, h2, fun i hi => by rw [← e i hi]; exact h3 i hi⟩
/-- What the region that moves the values leaves, by what has run. -/
structure FPc (w5 : World) (u z v : Nat → Int) (cV : Value) (L : Nat → Bool) (w' : World) (u10 u25 u26 u27 u28 : Value) : Prop where
  bl : Below w5.heap.size w5 w'
  b0 : L 0 = true → u25 = arr5 u
  b1 : L 1 = true → u26 = cV
  b2 : L 2 = true → u27 = arr5 v
  b3 : L 3 = true → u28 = arr5 z
  b4 : L 4 = true → ∃ G, u10 = .pointer (some ⟨G, 0, none⟩) ∧ w5.heap.size ≤ G ∧ (L 5 = false → OwnV w' G 69 5 0 z) ∧ (L 5 = true → OwnV w' G 69 5 5 z)
/-- What PermuteCells answers. -/
def pcB (s : Lst) (n : Nat) (q : Nat → Rul) (p c : Lst) : Bool := pmB s n q p && celsB s c
def pcN (s : Lst) (n : Nat) (q : Nat → Rul) (p c : Lst) : Nat := if pcB s n q p c then c.n else 0
theorem pcN_le {s : Lst} {n m : Nat} {q : Nat → Rul} {p c : Lst} (h : c.n ≤ m) : pcN s n q p c ≤ m := by unfold pcN; split <;> omega
/-- What a permutation of a valid model's cells is. -/
structure PmOk (s : Lst) (n : Nat) (q : Nat → Rul) (p : Lst) : Prop where
  mod : modB s n q = true
  one : 1 ≤ s.n
  five : s.n ≤ 5
  len : p.n = s.n
  perm : varB s.n ⟨s.n, p.x⟩ = true
  pm : PmF s.n p.x
  keep : kpB s.n s.x p.x = true
theorem pm_ok {s : Lst} {n : Nat} {q : Nat → Rul} {p : Lst} (h : pmB s n q p = true) : PmOk s n q p := by
  unfold pmB at h
  simp only [Bool.and_eq_true, beq_iff_eq] at h
  obtain ⟨h1, h2, h3, h4⟩ := h
  have h5 := h1
  unfold modB at h5
  simp only [Bool.and_eq_true, decide_eq_true_eq] at h5
  have h6 : varB s.n ⟨s.n, p.x⟩ = true := by
    obtain ⟨pn, px⟩ := p
    simp only at h2 h3 ⊢
    rw [h2] at h3
    exact h3
  exact ⟨h1, h5.1.1, h5.1.2, h2, h6, varB_pm h5.1.1 h5.1.2 h6, h4⟩

set_option linter.unusedVariables false in
set_option linter.unusedSimpArgs false in
set_option maxRecDepth 100000 in
set_option maxHeartbeats 1600000 in
theorem l10Cells_any (k : Nat) (p c : Nat → Int) (Ap Ac : Option Addr) (cp cc : Nat) (w : World) (h1 : 1 ≤ k) (h5 : k ≤ 5) (hpm : ∀ i, i < k → 0 ≤ p i ∧ p i < k) (hp : RdI w w.heap.size Ap k p) (hc : RdI w w.heap.size Ac k c) :
    Calls Try.prog 45 #[.slice Ap k cp, .slice Ac k cc] w fun e w' => ∃ G, e = .returned (.slice (some ⟨G, 0, none⟩) k k) ∧ w.heap.size ≤ G ∧ OwnV w' G 3 k k (mvF p c k) ∧ Below w.heap.size w w' := by
  obtain ⟨i0, hi, hz0, hz1, hz2⟩ := info_parts Try.infoInt
  have hmk := fun W => run_make (P := Try.prog) W 22 3 i0 _ Try.underlying22 hi hz0 .i64 .i64 (k : Int) k (by omega) (by omega) (by rw [hz2]; omega) (by omega)
  rw [hz1] at hmk
  have HPm := Lib.hid hpm
  have HP := Lib.hid hp
  have HC := Lib.hid hc
  clear hi hz0 hz1 hz2 hpm hp hc
  go_enter Try.func45, Try.ntmps45
  go_wp2_with fail
  go_loopw [6] (fun i wr => ∃ j : Nat, j ≤ k ∧ i = .int .i64 j ∧ OwnV wr w.heap.size 3 k k (mvF p c j) ∧ Below w.heap.size w wr) (fun i _ => k - (intOf i).toNat)
  case atStart => exact ⟨0, Nat.zero_le _, rfl, ownP_zeros.toV, bl_alloc (Below.refl _ _) _⟩
  case round =>
    obtain ⟨j, hj, rfl, hown, hb⟩ := hrel
    by_cases hlt : j < k
    · obtain ⟨b, off, rfl, hbl, hcp⟩ := (HP.out.later hb) (by omega)
      obtain ⟨b2, off2, rfl, hbl2, hcc⟩ := (HC.out.later hb) (by omega)
      obtain ⟨i, hi⟩ : ∃ i : Nat, p j = (i : Int) := ⟨(p j).toNat, by have := HPm.out j hlt; omega⟩
      have hik : i < k := by have := HPm.out j hlt; omega
      have c1 := hcp j hlt
      have c2 := hcc j hlt
      rw [hi] at c1
      obtain ⟨y1, hy1⟩ := hown.cell hik
      have hf1 := hown.frozen i
      have hltI : (j : Int) < (k : Int) := by omega
      have hj0 : (0 : Int) ≤ (j : Int) := by omega
      have hikI : (i : Int) < (k : Int) := by omega
      have hi0 : (0 : Int) ≤ (i : Int) := by omega
      have Hput := Lib.hid (OwnV.setP (v' := mvF p c (j + 1)) (hown.at_ (w' := wr.drew) rfl) hik (z := c j) (by show (if (i : Int) = p j then c j else mvF p c j i) = c j; rw [if_pos hi.symm]) (fun a ha => by show (if (a : Int) = p j then c j else mvF p c j a) = mvF p c j a; rw [if_neg (by rw [hi]; omega)]))
      have HBk := Lib.hid hb
      have hlo : w.heap.size < wr.heap.size := hown.lt
      clear hown hb hi hcp hcc hmk
      go_upto_region 5 with fail
      go_still_tail 10, (by kernel_rfl)
      change wpList _ _ _ _ _ wr.drew
      go_wp2
      go_roundw
      case rel => exact ⟨j + 1, by omega, by go_num, Hput.out, HBk.out.drew.setCell (Nat.le_refl _) _⟩
      case measure => simp [intOf]; omega
    · obtain rfl : j = k := by omega
      go_wp2
      go_ret
      exact ⟨_, rfl, Nat.le_refl _, hown, hb⟩
set_option linter.unusedVariables false in
set_option linter.unusedSimpArgs false in
set_option maxRecDepth 100000 in
set_option maxHeartbeats 1600000 in
theorem specPC_any (s p c : Lst) (n : Nat) (q : Nat → Rul) (As Ar Ap Ac : Option Addr) (cs cr cp cc : Nat) (w : World) (p1 : s.n ≤ 1048576) (p2 : p.n ≤ 1048576) (p5 : c.n ≤ 1048576) (p3 : n ≤ 1048576) (p4 : ∀ i, i < n → (q i).fit 1048576) (hs : RdI w w.heap.size As s.n s.x) (hr : RdRs w w.heap.size Ar n q) (hp : RdI w w.heap.size Ap p.n p.x) (hc : RdI w w.heap.size Ac c.n c.x) :
    Calls Try.prog 16 #[.agg #[.slice As s.n cs, .slice Ar n cr], .slice Ap p.n cp, .slice Ac c.n cc] w (SResI w (pcN s n q p c) (mvF p.x c.x c.n) (pcB s n q p c)) := by
  have a0 : (w.alloc (.cells #[.slice As s.n cs, .slice Ar n cr] 30)).cell? ⟨w.heap.size, 0, none⟩ = some (.slice As s.n cs) := by go_simp
  have a1 : (w.alloc (.cells #[.slice As s.n cs, .slice Ar n cr] 30)).cell? ⟨w.heap.size, 1, none⟩ = some (.slice Ar n cr) := by go_simp
  have HB := Lib.hid (bl_alloc (Below.refl w.heap.size w) (.cells #[.slice As s.n cs, .slice Ar n cr] 30))
  have HS := Lib.hid hs
  have HR := Lib.hid hr
  have HP := Lib.hid hp
  have HC := Lib.hid hc
  have P4 := Lib.hid p4
  clear hs hr hp hc p4
  go_enter Try.func16, Try.ntmps16
  go_wp2_with fail
  generalize (w.alloc (.cells #[.slice As s.n cs, .slice Ar n cr] 30)) = w1 at *
  refine (specPV_any s p n q As Ar Ap cs cr cp w1 p1 p2 p3 P4.out (HS.out.later HB.out) (HR.out.later HB.out) (HP.out.later HB.out)).mono ?_
  rintro e w2 ⟨rfl, hb⟩
  have HB2 := Lib.hid (bl_trans HB.out hb)
  replace a0 := kc hb a0
  replace a1 := kc hb a1
  clear hb HB
  cases hm : pmB s n q p with
  | false =>
    have h1 : pcB s n q p c = false := by unfold pcB; rw [hm]; rfl
    have h2 : pcN s n q p c = 0 := by unfold pcN; rw [h1]; rfl
    have H1 := Lib.hid h1
    have H2 := Lib.hid h2
    clear hm h1 h2
    go_wp2
    go_ret2
    exact ⟨_, 0, by rw [H1.out, H2.out]; rfl, .inl H2.out, bl_alloc HB2.out _⟩
  | true =>
    have HO := Lib.hid (pm_ok hm)
    have Hm := Lib.hid hm
    clear hm
    go_wp2_with fail
    refine (l6Cells_any s c _ _ _ _ _ _ _ _ p1 p5 (HS.out.later HB2.out) (HC.out.later HB2.out)).mono ?_
    rintro e w3 ⟨rfl, hb⟩
    have HB3 := Lib.hid (bl_trans HB2.out hb)
    clear hb a0 a1 HB2
    cases hcc : celsB s c with
    | false =>
      have h1 : pcB s n q p c = false := by unfold pcB; rw [hcc]; simp
      have h2 : pcN s n q p c = 0 := by unfold pcN; rw [h1]; rfl
      have H1 := Lib.hid h1
      have H2 := Lib.hid h2
      clear hcc h1 h2
      go_wp2
      go_ret2
      exact ⟨_, 0, by rw [H1.out, H2.out]; rfl, .inl H2.out, bl_alloc HB3.out _⟩
    | true =>
      have h1 : pcB s n q p c = true := by unfold pcB; rw [Hm.out, hcc]; rfl
      have h2 : pcN s n q p c = c.n := by unfold pcN; rw [h1]; rfl
      have h3 : c.n = s.n := by
        unfold celsB at hcc
        rw [Bool.and_eq_true, beq_iff_eq] at hcc
        exact hcc.1
      obtain ⟨cn, cx⟩ := c
      obtain ⟨pn, px⟩ := p
      have h4 := HO.out.len
      obtain ⟨sn, sx⟩ := s
      simp only at h3 h4
      subst h3
      subst h4
      simp only at h1 h2 HC HP HO p1 p2 p5 ⊢
      have H1 := Lib.hid h1
      have H2 := Lib.hid h2
      clear hcc h1 h2
      go_wp2_with fail
      refine (l10Cells_any pn px cx Ap Ac cp cc w3 HO.out.one HO.out.five HO.out.pm.lt (HP.out.later HB3.out) (HC.out.later HB3.out)).mono ?_
      rintro e w4 ⟨G, rfl, hG, ho, hb⟩
      have HB4 := Lib.hid (bl_trans HB3.out hb)
      have HW := Lib.hid ho
      have HG := Lib.hid (show w.heap.size ≤ G from Nat.le_trans HB3.out.size hG)
      clear hb ho hG
      go_wp2
      go_ret2
      exact ⟨some ⟨G, 0, none⟩, pn, by rw [H1.out, H2.out]; rfl, .inr ⟨G, rfl, HG.out, by rw [H2.out]; exact HW.out⟩, HB4.out⟩

set_option linter.unusedVariables false in
set_option linter.unusedSimpArgs false in
set_option maxRecDepth 100000 in
set_option maxHeartbeats 1600000 in
theorem implPC_any (s p c : Lst) (n : Nat) (q : Nat → Rul) (As Ar Ap Ac : Option Addr) (cs cr cp cc : Nat) (w : World) (p1 : s.n ≤ 1048576) (p2 : p.n ≤ 1048576) (p5 : c.n ≤ 1048576) (p3 : n ≤ 1048576) (p4 : ∀ i, i < n → (q i).fit 1048576) (hs : RdI w w.heap.size As s.n s.x) (hr : RdRs w w.heap.size Ar n q) (hp : RdI w w.heap.size Ap p.n p.x) (hc : RdI w w.heap.size Ac c.n c.x) :
    Calls Try.prog 17 #[.agg #[.slice As s.n cs, .slice Ar n cr], .slice Ap p.n cp, .slice Ac c.n cc] w (SResI w (pcN s n q p c) (mvF p.x c.x c.n) (pcB s n q p c)) := by
  have a0 : (w.alloc (.cells #[.slice As s.n cs, .slice Ar n cr] 30)).cell? ⟨w.heap.size, 0, none⟩ = some (.slice As s.n cs) := by go_simp
  have a1 : (w.alloc (.cells #[.slice As s.n cs, .slice Ar n cr] 30)).cell? ⟨w.heap.size, 1, none⟩ = some (.slice Ar n cr) := by go_simp
  have HB := Lib.hid (bl_alloc (Below.refl w.heap.size w) (.cells #[.slice As s.n cs, .slice Ar n cr] 30))
  have HS := Lib.hid hs
  have HR := Lib.hid hr
  have HP := Lib.hid hp
  have HC := Lib.hid hc
  have P4 := Lib.hid p4
  clear hs hr hp hc p4
  go_enter Try.func17, Try.ntmps17
  go_wp2_with fail
  generalize (w.alloc (.cells #[.slice As s.n cs, .slice Ar n cr] 30)) = w1 at *
  refine (perm_any s p n q As Ar Ap cs cr cp w1 p1 p2 p3 P4.out (HS.out.later HB.out) (HR.out.later HB.out) (HP.out.later HB.out)).mono ?_
  rintro e w2 ⟨u, rfl, hu, hb⟩
  have HB2 := Lib.hid (bl_trans HB.out hb)
  have HU := Lib.hid hu
  replace a0 := kc hb a0
  replace a1 := kc hb a1
  clear hb HB hu
  obtain ⟨W3, hW3⟩ : ∃ W, w2.alloc (.cells #[.int .i64 0, .int .i64 0, .int .i64 0, .int .i64 0, .int .i64 0] 64) = W := ⟨_, rfl⟩
  have hb := bl_alloc (Below.refl w2.heap.size w2) (.cells #[.int .i64 0, .int .i64 0, .int .i64 0, .int .i64 0, .int .i64 0] 64)
  have o3 := own5_new (w := w2) (T := 64) idn
  have hlt2 : w.heap.size < w2.heap.size := World.block_lt_of_cell? w2 _ a0
  rw [hW3] at hb o3
  have HB3 := Lib.hid (bl_trans HB2.out hb)
  replace a0 := kc hb a0
  replace a1 := kc hb a1
  obtain ⟨G, hG⟩ : ∃ G, w2.heap.size = G := ⟨_, rfl⟩
  rw [hG] at o3 hlt2
  obtain ⟨yz0, z0⟩ := o3.cell (j := 0) (by omega)
  obtain ⟨yz1, z1⟩ := o3.cell (j := 1) (by omega)
  obtain ⟨yz2, z2⟩ := o3.cell (j := 2) (by omega)
  obtain ⟨yz3, z3⟩ := o3.cell (j := 3) (by omega)
  obtain ⟨yz4, z4⟩ := o3.cell (j := 4) (by omega)
  have fz0 := o3.frozen 0
  have fz1 := o3.frozen 1
  have fz2 := o3.frozen 2
  have fz3 := o3.frozen 3
  have fz4 := o3.frozen 4
  have h4 := o3.put5 (v := u)
  have HB4 := Lib.hid (bel5 (H := G) HB3.out (Nat.le_of_lt hlt2) u)
  have hb5 := bel5 (Below.refl G W3) (Nat.le_refl _) u
  replace a0 := (hb5.cell (p := ⟨w.heap.size, 0, none⟩) (show w.heap.size < G by omega)).trans a0
  replace a1 := (hb5.cell (p := ⟨w.heap.size, 1, none⟩) (show w.heap.size < G by omega)).trans a1
  have HO4 := Lib.hid h4
  have A0 := Lib.hid a0
  have A1 := Lib.hid a1
  clear o3 hb hb5 h4 HB2 HB3 a0 a1
  unfold arr5
  go_upto_region 2 with fail
  clear hW3 z0 z1 z2 z3 z4 fz0 fz1 fz2 fz3 fz4
  generalize (((((W3.setCell ⟨G, 0, none⟩ (.int .i64 (u 0))).setCell ⟨G, 1, none⟩ (.int .i64 (u 1))).setCell ⟨G, 2, none⟩ (.int .i64 (u 2))).setCell ⟨G, 3, none⟩ (.int .i64 (u 3))).setCell ⟨G, 4, none⟩ (.int .i64 (u 4))) = W4 at *
  have a0 := A0.out
  have a1 := A1.out
  clear A0 A1
  cases hm : pmB s n q p with
  | false =>
    have h1 : pcB s n q p c = false := by unfold pcB; rw [hm]; rfl
    have h2 : pcN s n q p c = 0 := by unfold pcN; rw [h1]; rfl
    have H1 := Lib.hid h1
    have H2 := Lib.hid h2
    clear hm h1 h2
    go_wp2
    go_ret2
    exact ⟨_, 0, by rw [H1.out, H2.out]; rfl, .inl H2.out, HB4.out⟩
  | true =>
    have HO := Lib.hid (pm_ok hm)
    have HUe := Lib.hid (HU.out hm)
    have Hm := Lib.hid hm
    clear hm HU
    go_wp2_with fail
    refine (implCells_any s c n q _ _ _ _ _ _ _ p1 p5 p3 P4.out (HS.out.later HB4.out) (HR.out.later HB4.out) (HC.out.later HB4.out)).mono ?_
    rintro e w5 ⟨rfl, hb⟩
    have HB5 := Lib.hid (bl_trans HB4.out hb)
    have HO5 := Lib.hid (HO4.out.below hb)
    have hcv : cvB s n q c = celsB s c := by unfold cvB; rw [HO.out.mod]; rfl
    rw [hcv]
    clear hb a0 a1 HB4 HO4 hcv
    cases hcc : celsB s c with
    | false =>
      have h1 : pcB s n q p c = false := by unfold pcB; rw [hcc]; simp
      have h2 : pcN s n q p c = 0 := by unfold pcN; rw [h1]; rfl
      have H1 := Lib.hid h1
      have H2 := Lib.hid h2
      clear hcc h1 h2
      go_wp2
      go_ret2
      exact ⟨_, 0, by rw [H1.out, H2.out]; rfl, .inl H2.out, HB5.out⟩
    | true =>
      have h1 : pcB s n q p c = true := by unfold pcB; rw [Hm.out, hcc]; rfl
      have h2 : pcN s n q p c = c.n := by unfold pcN; rw [h1]; rfl
      have h3 : c.n = s.n := by
        unfold celsB at hcc
        rw [Bool.and_eq_true, beq_iff_eq] at hcc
        exact hcc.1
      obtain ⟨cn, cx⟩ := c
      obtain ⟨pn, px⟩ := p
      have h4 := HO.out.len
      obtain ⟨sn, sx⟩ := s
      simp only at h3 h4
      subst h3
      subst h4
      simp only at h1 h2 HC HP HO HUe p1 p2 p5 ⊢
      have H1 := Lib.hid h1
      have H2 := Lib.hid h2
      have HS1 := Lib.hid HO.out.one
      have HS5 := Lib.hid HO.out.five
      have hP5 : ∀ i, i < 5 → 0 ≤ u i ∧ u i ≤ 4 := by
        rw [HUe.out]
        exact (srt_id.1 (srA_id.1 ((exP_ok HS1.out HS5.out).trans HO.out.perm))).1
      have HP5 := Lib.hid hP5
      clear hcc h1 h2 hP5 HP HR HS Hm
      have HA := Lib.hid H1.out
      go_upto_region 4 with fail
      obtain ⟨X0, hX0⟩ : ∃ X0, w.heap.size = X0 := ⟨_, rfl⟩
      have HX0 := Lib.hid hX0
      have hw0 : X0 < G := by omega
      obtain ⟨v, hv⟩ : ∃ v, cvV pn cx = v := ⟨_, rfl⟩
      obtain ⟨z, hz⟩ : ∃ z, mvF u v 5 = z := ⟨_, rfl⟩
      have HV := Lib.hid hv
      have HZ := Lib.hid hz
      have HC5 := Lib.hid (HC.out.later HB5.out)
      rw [hX0]
      clear hX0 hv hz
      refine region_steps (J := fun _ L a' w' => ∃ u10 u25 u26 u27 u28 : Value, a' = ⟨#[.agg #[.slice As pn cs, .slice Ar n cr], .slice Ap pn cp, .slice Ac pn cc, .pointer (some ⟨X0, 0, none⟩), undef, undef, .slice none 0 0, .bool false, .pointer (some ⟨G, 0, none⟩), .bool true, u10, .tuple #[.agg #[.int .i64 (u 0), .int .i64 (u 1), .int .i64 (u 2), .int .i64 (u 3), .int .i64 (u 4)], .bool true], .agg #[.slice As pn cs, .slice Ar n cr], .slice Ap pn cp, .tuple #[.agg #[.int .i64 (u 0), .int .i64 (u 1), .int .i64 (u 2), .int .i64 (u 3), .int .i64 (u 4)], .bool true], .agg #[.int .i64 (u 0), .int .i64 (u 1), .int .i64 (u 2), .int .i64 (u 3), .int .i64 (u 4)], .bool true, .bool true, .bool false, .bool false, .agg #[.slice As pn cs, .slice Ar n cr], .slice Ac pn cc, .bool true, .bool false, .bool false, u25, u26, u27, u28, undef, undef, undef, undef], []⟩ ∧ FPc w5 u z v (.slice Ac pn cc) L w' u10 u25 u26 u27 u28) [[], [], [1], [0, 2], [], [3, 4]] (by kernel_rfl) (by kernel_rfl) ?_ ⟨?_, ?_, ?_, ?_, ?_, ?_, trivial⟩ ?_
      · intro L hL
        exact ⟨_, _, _, _, _, rfl, ⟨(Below.refl w5.heap.size w5).drew, fun h => tfP h (hL 0 (by decide)), fun h => tfP h (hL 1 (by decide)), fun h => tfP h (hL 2 (by decide)), fun h => tfP h (hL 3 (by decide)), fun h => tfP h (hL 4 (by decide))⟩⟩
      · intro L hL hd hc a w6 hI K' hK'
        obtain ⟨u10, u25, u26, u27, u28, rfl, hF⟩ := hI
        have ho := HO5.out.below hF.bl
        have c0 := ho.valP (j := 0) (by omega)
        have c1 := ho.valP (j := 1) (by omega)
        have c2 := ho.valP (j := 2) (by omega)
        have c3 := ho.valP (j := 3) (by omega)
        have c4 := ho.valP (j := 4) (by omega)
        go_simp
        refine hK' _ _ ⟨_, _, _, _, _, rfl, ⟨hF.bl, fun _ => rfl, hF.b1, hF.b2, hF.b3, hF.b4⟩⟩
      · intro L hL hd hc a w6 hI K' hK'
        obtain ⟨u10, u25, u26, u27, u28, rfl, hF⟩ := hI
        go_simp
        refine hK' _ _ ⟨_, _, _, _, _, rfl, ⟨hF.bl, hF.b0, fun _ => rfl, hF.b2, hF.b3, hF.b4⟩⟩
      · intro L hL hd hc a w6 hI K' hK'
        obtain ⟨u10, u25, u26, u27, u28, rfl, hF⟩ := hI
        obtain rfl := hF.b1 (hd 1 (by simp))
        go_simp; go_at_call 47
        refine (cvo_any pn cc Ac cx w6 HS5.out HS1.out (HC.out.later (bl_trans HB5.out hF.bl))).mono ?_
        rintro e w7 ⟨rfl, hb⟩
        rw [HV.out]
        go_simp
        refine hK' _ _ ⟨_, _, _, _, _, rfl, ⟨bl_trans hF.bl hb, hF.b0, hF.b1, fun _ => rfl, hF.b3, fun h => by obtain ⟨G', e, h1, h2, h3⟩ := hF.b4 h; exact ⟨G', e, h1, fun k => (h2 k).below hb, fun k => (h3 k).below hb⟩⟩⟩
      · intro L hL hd hc a w6 hI K' hK'
        obtain ⟨u10, u25, u26, u27, u28, rfl, hF⟩ := hI
        obtain rfl := hF.b0 (hd 0 (by simp))
        obtain rfl := hF.b2 (hd 2 (by simp))
        go_simp; go_at_call 46
        refine (move_any u v w6 HP5.out).mono ?_
        rintro e w7 ⟨rfl, hb⟩
        rw [HZ.out]
        go_simp
        refine hK' _ _ ⟨_, _, _, _, _, rfl, ⟨bl_trans hF.bl hb, hF.b0, hF.b1, hF.b2, fun _ => rfl, fun h => by obtain ⟨G', e, h1, h2, h3⟩ := hF.b4 h; exact ⟨G', e, h1, fun k => (h2 k).below hb, fun k => (h3 k).below hb⟩⟩⟩
      · intro L hL hd hc a w6 hI K' hK'
        obtain ⟨u10, u25, u26, u27, u28, rfl, hF⟩ := hI
        have hal := bl_alloc (Below.refl w6.heap.size w6) (.cells #[.int .i64 0, .int .i64 0, .int .i64 0, .int .i64 0, .int .i64 0] 69)
        have hsz := hF.bl.size
        go_simp
        refine hK' _ _ ⟨_, _, _, _, _, rfl, ⟨bl_trans hF.bl hal, hF.b0, hF.b1, hF.b2, hF.b3, fun _ => ⟨_, rfl, hsz, fun _ => own5_new z, fun h => tfP (hc 5 4 (by simp) h) hL⟩⟩⟩
      · intro L hL hd hc a w6 hI K' hK'
        obtain ⟨u10, u25, u26, u27, u28, rfl, hF⟩ := hI
        obtain rfl := hF.b3 (hd 3 (by simp))
        obtain ⟨G', rfl, h1, h2, -⟩ := hF.b4 (hd 4 (by simp))
        have o3 := h2 hL
        obtain ⟨yz0, z0⟩ := o3.cell (j := 0) (by omega)
        obtain ⟨yz1, z1⟩ := o3.cell (j := 1) (by omega)
        obtain ⟨yz2, z2⟩ := o3.cell (j := 2) (by omega)
        obtain ⟨yz3, z3⟩ := o3.cell (j := 3) (by omega)
        obtain ⟨yz4, z4⟩ := o3.cell (j := 4) (by omega)
        have fz0 := o3.frozen 0
        have fz1 := o3.frozen 1
        have fz2 := o3.frozen 2
        have fz3 := o3.frozen 3
        have fz4 := o3.frozen 4
        unfold arr5
        go_simp
        refine hK' _ _ ⟨_, _, _, _, _, rfl, ⟨bel5 hF.bl h1 z, hF.b0, hF.b1, hF.b2, hF.b3, fun _ => ⟨_, rfl, h1, fun h => tfP (show true = true from rfl) h, fun _ => o3.put5⟩⟩⟩
      · intro L hL a' w6 hI
        obtain ⟨u10, u25, u26, u27, u28, rfl, hF⟩ := hI
        obtain ⟨G', rfl, h1, -, h3⟩ := hF.b4 (hL 4)
        obtain rfl := hF.b3 (hL 3)
        obtain rfl := hF.b2 (hL 2)
        obtain rfl := hF.b1 (hL 1)
        obtain rfl := hF.b0 (hL 0)
        have ho := h3 (hL 5)
        have HB6 := Lib.hid (bl_trans HB5.out hF.bl)
        have HO6 := Lib.hid ho
        clear ho h3 h1 hF hL HB5 HO5 HC5
        have hn5 : (pn : Int) ≤ 5 := by have : pn ≤ 5 := HS5.out; omega
        have hn0 : (0 : Int) ≤ (pn : Int) := by omega
        have hr : RdI w6 w6.heap.size (some ⟨G', 0, none⟩) pn z := fun _ => ⟨G', 0, rfl, HO6.out.lt, fun i hi => by rw [Nat.zero_add]; exact HO6.out.valP (by have : pn ≤ 5 := HS5.out; omega)⟩
        have HRz := Lib.hid hr
        clear hr
        go_wp2_with fail
        refine (cloneP_any (some ⟨G', 0, none⟩) pn 5 z w6 HS1.out (by have : pn ≤ 5 := HS5.out; omega) HRz.out).mono ?_
        rintro e w7 ⟨g, cap', rfl, hg, ho, hb⟩
        have HB7 := Lib.hid (bl_trans HB6.out hb)
        have HO7 := Lib.hid ho
        have HG7 := Lib.hid (show w.heap.size ≤ g from Nat.le_trans HB6.out.size hg)
        clear hb ho hg
        go_wp2
        go_ret2
        refine ⟨some ⟨g, 0, none⟩, cap', by rw [H1.out, H2.out]; rfl, .inr ⟨g, rfl, HG7.out, ?_⟩, HB7.out⟩
        rw [H2.out]
        refine HO7.out.congrP fun i hi => ?_
        rw [← HZ.out, ← HV.out, HUe.out]
        exact mvF_five HS5.out hi

end Go.Proofs.Ytafiikfaeomhpaa

namespace Go.Proofs.Ytafiikfaeomhpaa
open Go.ChangeShapes Go.WideShapes Go.ChangeAt Go.RowKit

/-- The worlds in which nothing that lay in W has turned. -/
def Cls (W w' : World) : Prop := Below W.heap.size W w'

section
variable {P : Program} {C : World → Prop} {a : Act} {o : Oper} {K : Act → Prop}
/-- An operation that yields one value in every world of the class. -/
theorem quiet_val {v : Value} (h : ∀ w, C w → (execOp a.eval o).run P w = .ok (.value v) w) (hk : K (a.put o.dst v)) : o.quiet P a C K :=
  ⟨v, fun w hw => by unfold Oper.quietAt; rw [h w hw]; exact ⟨rfl, rfl⟩, hk⟩
/-- A call that hands back one value in every world of the class, and leaves a world of the class. -/
theorem quiet_enter {v : Value} {f : FuncId} {args : Array Value} (h : ∀ w, C w → (execOp a.eval o).run P w = .ok (.enter f args) w) (hc : ∀ w, C w → Calls P f args w fun e w'' => e = .returned v ∧ C w'')
    (hk : K (a.put o.dst v)) : o.quiet P a C K :=
  ⟨v, fun w hw => by unfold Oper.quietAt; rw [h w hw]; exact ⟨rfl, hc w hw⟩, hk⟩
/-- A region that draws its order, all of whose operations are so. -/
theorem region_class {id : Nat} {Q : Exit → Act → World → Prop} {w : World} {l : List Oper} (hm : P.follows .mixedOrders = true) (hB : Region.lexB .any l.toArray = true) (hC : C w.drew)
    (h : wpQuiet P l.toArray C (fun a' => ∀ w', C w' → Q .normal a' w') l a) : (Code.region id l.toArray true).wp P Q a w :=
  wp_region_quiet (C := C) hm hB hC (by simpa using h)
end
end Go.Proofs.Ytafiikfaeomhpaa

namespace Go.Proofs.Ytafiikfaeomhpaa
open Go.ChangeShapes Go.WideShapes Go.ChangeAt Go.RowKit

set_option maxRecDepth 100000 in
set_option maxHeartbeats 1600000 in
theorem cpInts_refl (A A' : Option Addr) (n cap cap' : Nat) (v : Nat → Int) (w : World) (hn : n ≤ 1048576) (hr : RdI w w.heap.size A n v) (hr' : RdI w w.heap.size A' n v) :
    Calls Try.prog 22 #[.slice A n cap, .slice A' n cap'] w fun e w' => e = .returned (.bool true) ∧ Below w.heap.size w w' := by
  go_enter Try.func22, Try.ntmps22
  go_wp2
  go_loopw [5] (fun i wr => ∃ k : Nat, k ≤ n ∧ i = .int .i64 k ∧ Below w.heap.size w wr) (fun i _ => n - (intOf i).toNat)
  case atStart => exact ⟨0, Nat.zero_le _, rfl, Below.refl _ _⟩
  case round =>
    obtain ⟨k, hk, rfl, hb⟩ := hrel
    by_cases hlt : k < n
    · obtain ⟨b, off, rfl, hbl, hc⟩ := (hr.below hb) (by omega)
      obtain ⟨b', off', rfl, hbl', hc'⟩ := (hr'.below hb) (by omega)
      have hc1 := hc k hlt
      have hc2 := hc' k hlt
      clear hc hc' hr hr'
      have hlt' : (k : Int) < (n : Int) := by omega
      have hk0 : (0 : Int) ≤ (k : Int) := by omega
      go_wp2_with fail
      go_quiet (fail)
      go_wp2
      go_roundw
      case rel => exact ⟨k + 1, by omega, by go_num, bl_drewN hb _⟩
      case measure => simp [intOf]; omega
    · have e : k = n := by omega
      subst e
      go_wp2
      go_ret
      exact ⟨rfl, hb⟩

end Go.Proofs.Ytafiikfaeomhpaa

namespace Go.Proofs.Ytafiikfaeomhpaa
open Go.ChangeShapes Go.WideShapes Go.ChangeAt Go.RowKit

section
variable {w w' W : World} {lo hi n N k : Nat} {V : Value}
theorem ER.lit8 (W : World) : ER (W.alloc (.cells #[] 90)) W.heap.size (W.alloc (.cells #[] 90)).heap.size (.slice (some ⟨W.heap.size, 0, none⟩) 0 0) 0 N :=
  ⟨[], by simpa using World.ownsRow_lit W #[] 0 (e := 90) (size := 5) (Nat.le_refl _) (by unfold maxLen; omega) (by simp), (fun j e => by cases e; simp), (fun i hi => by omega)⟩
theorem TS.head8 (h : TS w lo 3 1 V n) : ∃ A cap, V = .slice A n cap := ts_head h
set_option maxRecDepth 100000 in
set_option maxHeartbeats 800000 in
/-- The append of one int: which block it lies in. -/
theorem wp_ti1 {o : Oper} {a : Act} {K : Act → World → Prop} {Q : Exit → Act → World → Prop} (s x : Operand)
    (ho : o.op = .call { callee := .builtin .append, args := #[s, x], argTypes := #[22, 22] })
    (h : TS W lo 3 1 V k) (hlo : lo ≤ W.heap.size) (hs : a.eval s = V) {H : Nat} (hx : a.eval x = .slice (some ⟨H, 0, none⟩) 1 1) {X : Int} {T' : TypeId} (hnew : W.heap[H]? = some (.cells #[.int .i64 X] T' (0, 0))) (hk : k ≤ 1048576)
    (hK : ∀ g cap w', TS w' lo 3 1 (.slice (some ⟨g, 0, none⟩) (k + 1) cap) (k + 1) → W.grownBy w' V.ownBlock → (V.ownBlock = some g ∨ g = W.heap.size) → K (a.put o.dst (.slice (some ⟨g, 0, none⟩) (k + 1) cap)) w') :
    o.wp Try.prog a W K Q := by
  obtain ⟨i0, hi, hz0, hz1, hz2⟩ := info_parts Try.infoInt
  obtain ⟨xs, h0, h1, h2⟩ := h
  refine wp_append_lies _ s x 22 ho lo 3 i0 _ 1 8 Try.underlying22 hi hz0 hz1 hz2 rfl (by omega) V k _ hs h0 ⟨H, 0, none⟩ 1 1 [.int .i64 X] hx (by rfl)
    (World.news_of_block hnew) (by simp [Value.oneCell']) (by omega) (by unfold maxLen; omega) (by omega) hlo W.heap.size rfl ?_
  intro g cap w' hown hg hor _
  refine hK g cap w' ⟨_, hown, by simp; omega, fun u hu => ?_⟩ hg hor
  rcases List.mem_append.1 hu with hu | hu
  · exact h2 u hu
  · exact ⟨X, by simpa using hu⟩
end
theorem ts_lo8 {w : World} {lo lo' k : Nat} {V : Value} (h : TS w lo 3 1 V k) (hlo : lo' ≤ lo) : TS w lo' 3 1 V k := by
  obtain ⟨xs, h0, h1, h2⟩ := h
  refine ⟨xs, ⟨h0.1, ?_⟩, h1, h2⟩
  rcases h0.2 with h | ⟨g, cap, cur, e, hg, r⟩
  · exact .inl h
  · exact .inr ⟨g, cap, cur, e, by omega, r⟩
/-- Two slices of the call's own, in blocks of their own. -/
structure AB (w : World) (lo : Nat) (a b : Value) (k : Nat) : Prop where
  ta : TS w lo 3 1 a k
  tb : TS w lo 3 1 b k
  ne : ∀ p, a.ownBlock = some p → b.ownBlock ≠ some p
/-- The model whose rules are drawn anew. -/
structure LM (w wr : World) (R K X : Nat) (VS : Value) (sn : Nat) (V a b : Value) (n : Nat) : Prop where
  mx : MX w wr R K X w.heap.size VS V
  er : ER wr (X + 1) wr.heap.size V n 22
  ti : TI wr (w.heap.size + 1) X VS sn
  hz : X + 1 ≤ wr.heap.size
  ta : TI wr (X + 1) wr.heap.size a sn
  tb : TI wr (X + 1) wr.heap.size b sn
theorem LM.ask {w wr w' : World} {R K K' X : Nat} {VS : Value} {sn : Nat} {V a b : Value} {n : Nat} (h : LM w wr R K X VS sn V a b n) (hg : Gr R wr w') (hr : Rdr w' R K') : LM w w' R K' X VS sn V a b n :=
  have hR := h.mx.hR
  have hX := h.mx.hX
  have hs := hg.size
  have hz := h.hz
  ⟨h.mx.ask hg hr, (h.er.kept hg (oth_some (.inl (by omega)))).more (Nat.le_refl _) hs (Nat.le_refl _), h.ti.kept hg (oth_some (.inl (by omega))), by omega, (h.ta.kept hg (oth_some (.inl (by omega)))).more (Nat.le_refl _) hs, (h.tb.kept hg (oth_some (.inl (by omega)))).more (Nat.le_refl _) hs⟩
theorem five8 (a b c d e : Value) : ∃ f : Nat → Value, f 0 = a ∧ f 1 = b ∧ f 2 = c ∧ f 3 = d ∧ f 4 = e := ⟨fun | 0 => a | 1 => b | 2 => c | 3 => d | _ => e, rfl, rfl, rfl, rfl, rfl⟩
theorem LM.more8 {w wr : World} {R K K' X : Nat} {VS : Value} {sn : Nat} {V a b : Value} {n : Nat} (h : LM w wr R K X VS sn V a b n) (hK : K ≤ K') : LM w wr R K' X VS sn V a b n := ⟨h.mx.more hK, h.er, h.ti, h.hz, h.ta, h.tb⟩
theorem LM.bel {w wr w' : World} {R K X : Nat} {VS : Value} {sn : Nat} {V a b : Value} {n : Nat} (h : LM w wr R K X VS sn V a b n) (hb : Below wr.heap.size wr w') : LM w w' R K X VS sn V a b n :=
  have hs := hb.size
  have hz := h.hz
  ⟨h.mx.bel hb, (h.er.kept (gb_of hb) oth_none).more (Nat.le_refl _) hs (Nat.le_refl _), h.ti.kept (gb_of hb) oth_none, by omega, (h.ta.kept (gb_of hb) oth_none).more (Nat.le_refl _) hs, (h.tb.kept (gb_of hb) oth_none).more (Nat.le_refl _) hs⟩

theorem ER.typed8 {w : World} {lo hi n N j : Nat} {V : Value} (h : ER w lo hi V n N) (e : V.ownBlock = some j) : lo ≤ j ∧ j < w.heap.size ∧ ∃ cs, w.heap[j]? = some (.cells cs 90 (0, 0)) := by
  obtain ⟨xs, h0, -⟩ := h
  exact ⟨(h0.lt j e).1, (h0.lt j e).2, row_typed h0 e⟩
/-- Behind the append of a rule and the store of the rules. -/
theorem LM.app {w wr wl w7 : World} {R K X : Nat} {VS : Value} {sn : Nat} {V a b : Value} {n g cap : Nat} (h : LM w wr R K X VS sn V a b n) (hb : Below wr.heap.size wr wl) (her : ER w7 (X + 1) w7.heap.size (.slice (some ⟨g, 0, none⟩) (n + 1) cap) (n + 1) 22) (hgr : wl.grownBy w7 V.ownBlock) : LM w (w7.setCell ⟨X, 1, none⟩ (.slice (some ⟨g, 0, none⟩) (n + 1) cap)) R K X VS sn (.slice (some ⟨g, 0, none⟩) (n + 1) cap) a b (n + 1) := by
  have h' := h.bel hb
  have hX := h.mx.hX
  have hs7 := hgr.size
  have hz' := h'.hz
  have hty := fun j (e : V.ownBlock = some j) => h'.er.typed8 e
  have hlt := h'.mx.lt
  have hYX := h.mx.hne
  have hgs := gb_set w7 ⟨X, 1, none⟩ (.slice (some ⟨g, 0, none⟩) (n + 1) cap)
  have hsz : (w7.setCell ⟨X, 1, none⟩ (.slice (some ⟨g, 0, none⟩) (n + 1) cap)).heap.size = w7.heap.size := by simp [World.setCell]
  have hoth : ∀ j, V.ownBlock = some j → ∃ cs T, wl.heap[j]? = some (.cells cs T (0, 0)) ∧ T ≠ 3 := fun j e => by
    obtain ⟨-, -, cs, hc⟩ := hty j e
    exact ⟨cs, _, hc, by decide⟩
  have hYl : w.heap.size < X := by omega
  refine ⟨(h'.mx.grow hgr fun j e => ?_).put1, (her.kept hgs (oth_some (.inl (show X < X + 1 by omega)))).more (Nat.le_refl _) (by rw [hsz]; exact Nat.le_refl _) (Nat.le_refl _), (h'.ti.kept hgr fun j e => ?_).kept hgs (oth_some (.inr (Nat.le_refl _))), by rw [hsz]; omega, ((h'.ta.other hgr hoth).kept hgs (oth_some (.inl (show X < X + 1 by omega)))).more (Nat.le_refl _) (by rw [hsz]; omega), ((h'.tb.other hgr hoth).kept hgs (oth_some (.inl (show X < X + 1 by omega)))).more (Nat.le_refl _) (by rw [hsz]; omega)⟩
  · have := (hty j e).1
    omega
  · have := (hty j e).1
    omega
theorem LM.mx7 {w wr wl w7 : World} {R K X : Nat} {VS : Value} {sn : Nat} {V a b : Value} {n : Nat} (h : LM w wr R K X VS sn V a b n) (hb : Below wr.heap.size wr wl) (hgr : wl.grownBy w7 V.ownBlock) : MX w w7 R K X w.heap.size VS V := by
  have h' := h.bel hb
  have hX := h.mx.hX
  have hne := h.mx.hne
  refine h'.mx.grow hgr fun j e => ?_
  have := (h'.er.typed8 e).1
  omega
/-- Behind the append to a slice of the call's own that is new. -/
theorem LM.cp {w wr wl w6 : World} {R K X : Nat} {VS : Value} {sn : Nat} {V a b : Value} {n p : Nat} (h : LM w wr R K X VS sn V a b n) (hb : Below wr.heap.size wr wl) (hgr : wl.grownBy w6 (some p)) (hp : wr.heap.size ≤ p) : LM w w6 R K X VS sn V a b n := by
  have hX := h.mx.hX
  have hne := h.mx.hne
  have hz := h.hz
  have hs1 := hb.size
  have hs2 := hgr.size
  have h' := h.mx.bel hb
  refine ⟨h'.grow (ov := .slice (some ⟨p, 0, none⟩) 0 0) hgr (fun j e => ?_), ((h.er.kept (gb_of hb) oth_none).kept hgr (oth_some (.inr hp))).more (Nat.le_refl _) (by omega) (Nat.le_refl _), (h.ti.kept (gb_of hb) oth_none).kept hgr (oth_some (.inr (by omega))), by omega, ((h.ta.kept (gb_of hb) oth_none).kept hgr (oth_some (.inr hp))).more (Nat.le_refl _) (by omega), ((h.tb.kept (gb_of hb) oth_none).kept hgr (oth_some (.inr hp))).more (Nat.le_refl _) (by omega)⟩
  cases e
  show w.heap.size ≤ p ∧ p ≠ X ∧ p ≠ w.heap.size
  omega

set_option linter.unusedVariables false in
set_option linter.unusedSimpArgs false in
set_option maxRecDepth 100000 in
set_option maxHeartbeats 12800000 in
theorem l10Model_any (R K : Nat) (w : World) (hK : K ≤ 600000) (h : Rdr w R K) :
    Calls Try.prog 52 #[.pointer (some ⟨R, 0, none⟩)] w (MDr w R (K + 4000)) := by
  have hRw := h.lt
  have hb1 := bl_alloc (Below.refl w.heap.size w) (.cells #[.slice none 0 0, .slice none 0 0] 30)
  have y0 : Cel (w.alloc (.cells #[.slice none 0 0, .slice none 0 0] 30)) w.heap.size 0 (.slice none 0 0) := ⟨by go_simp, by go_simp⟩
  have y1 : Cel (w.alloc (.cells #[.slice none 0 0, .slice none 0 0] 30)) w.heap.size 1 (.slice none 0 0) := ⟨by go_simp, by go_simp⟩
  have hz1 : (w.alloc (.cells #[.slice none 0 0, .slice none 0 0] 30)).heap.size = w.heap.size + 1 := by simp
  have Y0 := Lib.hid y0
  have Y1 := Lib.hid y1
  have HB1 := Lib.hid hb1
  have HR := Lib.hid h
  clear y0 y1 hb1 h
  go_enter Try.func52, Try.ntmps52
  go_wp2_with fail
  have HR1 := Lib.hid (HR.out.bel HB1.out)
  clear HR
  generalize (w.alloc (.cells #[.slice none 0 0, .slice none 0 0] 30)) = w1 at *
  refine (model_any R K _ (by omega) HR1.out).mono ?_
  rintro e w2 ⟨Aa, ca, Ab, cb, sn, na, rfl, hsa, hna, hti, her, hg, hrd⟩
  rw [hz1] at hti her
  have hs2 := hg.size
  have hgw : Gr R w w2 := (Gr.of HB1.out).trans hg
  have Y0b := hg.cel Y0.out (by omega)
  have Y1b := hg.cel Y1.out (by omega)
  have hal := bl_alloc (Below.refl w2.heap.size w2) (.cells #[.slice Aa sn ca, .slice Ab na cb] 30)
  have MX3 : Hid (MX w (w2.alloc (.cells #[.slice Aa sn ca, .slice Ab na cb] 30)) R (K + 2000) w2.heap.size w.heap.size (.slice Aa sn ca) (.slice Ab na cb)) := Lib.hid ⟨hRw, by omega, Nat.le_refl _, by omega, (fun i hi => by
    have : i = 0 ∨ i = 1 := by omega
    rcases this with rfl | rfl
    · exact ⟨_, Y0b.below hal⟩
    · exact ⟨_, Y1b.below hal⟩), ⟨by go_simp, by go_simp⟩, ⟨by go_simp, by go_simp⟩, hgw.bel hal, hrd.bel hal⟩
  have TI3 := Lib.hid (hti.kept (gb_of hal) oth_none)
  have ER3 := Lib.hid (her.kept (gb_of hal) oth_none)
  have hz3 : (w2.alloc (.cells #[.slice Aa sn ca, .slice Ab na cb] 30)).heap.size = w2.heap.size + 1 := by simp
  clear hti her hg hrd hgw Y0b Y1b Y0 Y1 HB1 HR1 hal
  go_wp2_with fail
  obtain ⟨X, hX⟩ : ∃ X, w2.heap.size = X := ⟨_, rfl⟩
  rw [hX] at MX3 TI3 ER3 hz3 hs2 ⊢
  generalize (w2.alloc (.cells #[.slice Aa sn ca, .slice Ab na cb] 30)) = w3 at *
  clear hX
  have hXl : w.heap.size + 1 ≤ X := by omega
  refine (pick_any R (K + 2000) 4 _ (by omega) MX3.out.rd).mono ?_
  rintro e w4 ⟨x, rfl, hx0, hx1, hg, hr⟩
  have MX4 := Lib.hid (MX3.out.ask hg hr)
  have TI4 := Lib.hid (TI3.out.kept hg (oth_some (.inl (by omega))))
  have ER4 := Lib.hid (ER3.out.kept hg (oth_some (.inl (by omega))))
  have hz4 : X + 1 ≤ w4.heap.size := by have := hg.size; omega
  clear hg hr MX3 TI3 ER3 hz3
  by_cases h0 : x = 0
  · subst h0
    obtain ⟨e0, g0, g0f⟩ := MX4.out.res 0 (by omega)
    obtain ⟨e1, g1, g1f⟩ := MX4.out.res 1 (by omega)
    obtain ⟨x0a, x0b⟩ := MX4.out.c0
    obtain ⟨x1a, x1b⟩ := MX4.out.c1
    go_wp2
    refine bodyPost_ret (v := .agg #[.slice Aa sn ca, .slice Ab na cb]) (by simp [results, Try.results52, go_sem, g0, g1]) rfl ?_
    obtain ⟨f1, f2, f3⟩ := MX4.out.fin (.slice Aa sn ca) (.slice Ab na cb)
    have f4 := f1.size
    exact ⟨Aa, ca, Ab, cb, sn, na, rfl, by omega, by omega, (TI4.out.kept f1 (oth_some (.inl (by omega)))).more (by omega) (by omega), (ER4.out.kept f1 (oth_some (.inl (by omega)))).more (by omega) (by omega) (Nat.le_refl _), f2, f3.more (by omega)⟩
  have hd0 : (x == 0) = false := by rw [beq_eq_false_iff_ne]; exact h0
  clear h0 ER4
  go_wp2_with fail
  have HAl := Lib.hid (bl_alloc (Below.refl w4.heap.size w4) (.cells #[.int .i64 1, .int .i64 2, .int .i64 2] 3))
  have hbR : w4.heap.size ≠ R := by omega
  refine (num_any R (K + 2001) w4.heap.size 3 _ _ _ (by omega) (MX4.out.bel HAl.out).rd hbR (heap_alloc_new w4 _) (by rfl) (by omega) (by omega) (lit_all [1, 2, 2])).mono ?_
  rintro e w5 ⟨z, rfl, -, hg, hr⟩
  have MX5 := Lib.hid ((MX4.out.bel HAl.out).ask hg hr)
  have TI5 := Lib.hid ((TI4.out.kept (gb_of HAl.out) oth_none).kept hg (oth_some (.inl (by omega))))
  have hz5 : X + 1 ≤ w5.heap.size := by have := hg.size; have := HAl.out.size; omega
  clear hg hr MX4 TI4 HAl
  obtain ⟨x0a, x0b⟩ := MX5.out.c0
  go_wp2
  clear x0a x0b
  go_loopw [6] (fun i wr => ∃ j : Nat, j ≤ sn ∧ i = .int .i64 j ∧ MX w wr R (K + 2002) X w.heap.size (.slice Aa sn ca) (.slice Ab na cb) ∧ TI wr (w.heap.size + 1) X (.slice Aa sn ca) sn ∧ X + 1 ≤ wr.heap.size) (fun i _ => sn - (intOf i).toNat)
  case atStart => exact ⟨0, Nat.zero_le _, rfl, MX5.out, TI5.out, hz5⟩
  case round =>
    obtain ⟨j, hj, rfl, hmx, hti, hsr⟩ := hrel
    have MXk := Lib.hid hmx
    have TIk := Lib.hid hti
    clear hmx hti MX5 TI5
    obtain ⟨x0a, x0b⟩ := MXk.out.c0
    by_cases hlt : j < sn
    · have hltI : (j : Int) < (sn : Int) := by omega
      have hj0 : (0 : Int) ≤ (j : Int) := by omega
      obtain ⟨g, cp, e, hcp, hg1, hg2, hcell, hfr⟩ := TIk.out.1.open (by omega)
      cases e
      obtain ⟨u0, hu0⟩ := hcell j (by omega)
      have hf0 := hfr j
      have hgm : g < X := by have := TIk.out.2 g rfl; omega
      have MX7 := Lib.hid (MXk.out.grow1 (g := g) (o := j) (u := .int .i64 z) (by omega) (by omega) (by omega))
      have TI7 := Lib.hid (TIk.out.store g j z)
      clear hcell hfr
      go_wp2
      go_roundw
      case rel => exact ⟨j + 1, by omega, by go_num, MX7.out, TI7.out, by simpa [World.setCell] using hsr⟩
      case measure => simp [intOf]; omega
    · obtain rfl : j = sn := by omega
      have hal := bl_alloc (bl_alloc (Below.refl wr.heap.size wr) (.cells #[] 3)) (.cells #[] 3)
      have hts1 := (ts_lit wr 3 1).bel (bl_alloc (Below.refl _ _) (.cells #[] 3))
      have hts2 := ts_lit (wr.alloc (.cells #[] 3)) 3 1
      have hsz1 : (wr.alloc (.cells #[] 3)).heap.size = wr.heap.size + 1 := by simp
      rw [hsz1] at hts2
      have AB0 : Hid (AB ((wr.alloc (.cells #[] 3)).alloc (.cells #[] 3)) (X + 1) (.slice (some ⟨wr.heap.size, 0, none⟩) 0 0) (.slice (some ⟨wr.heap.size + 1, 0, none⟩) 0 0) 0) := Lib.hid ⟨ts_lo8 hts1 (by omega), ts_lo8 hts2 (by omega), fun p e e' => by cases e; simp [Value.ownBlock] at e'⟩
      have MX8 := Lib.hid (MXk.out.bel hal)
      have TI8 := Lib.hid (TIk.out.kept (gb_of hal) oth_none)
      have hz8 : X + 1 ≤ ((wr.alloc (.cells #[] 3)).alloc (.cells #[] 3)).heap.size := by have := hal.size; omega
      clear hal hts1 hts2 MXk TIk x0a x0b
      go_wp2
      generalize ((wr.alloc (.cells #[] 3)).alloc (.cells #[] 3)) = w8 at *
      obtain ⟨q1, hq1⟩ : ∃ q1, wr.heap.size = q1 := ⟨_, rfl⟩
      rw [hq1] at AB0 ⊢
      clear hq1 hsz1 hsr
      go_loopw [7, 8, 9] (fun a b i wr => ∃ j' : Nat, j' ≤ j ∧ i = .int .i64 j' ∧ AB wr (X + 1) a b j' ∧ MX w wr R (K + 2002) X w.heap.size (.slice Aa j ca) (.slice Ab na cb) ∧ TI wr (w.heap.size + 1) X (.slice Aa j ca) j ∧ X + 1 ≤ wr.heap.size) (fun _ _ i _ => j - (intOf i).toNat)
      case atStart => exact ⟨0, Nat.zero_le _, rfl, AB0.out, MX8.out, TI8.out, hz8⟩
      case round =>
        obtain ⟨i, hi, rfl, hab, hmx, hti, hsr⟩ := hrel
        have ABk := Lib.hid hab
        have MXk := Lib.hid hmx
        have TIk := Lib.hid hti
        obtain ⟨Va, ka, rfl⟩ := ts_head hab.ta
        obtain ⟨Vb, kb, rfl⟩ := ts_head hab.tb
        clear hab hmx hti AB0 MX8 TI8
        by_cases hlt : i < j
        · have hltI : (i : Int) < (j : Int) := by omega
          have hi0 : (0 : Int) ≤ (i : Int) := by omega
          go_upto_region 16 with (at_builtin; refine wpList_plain (by rfl) fun K' hK' => ?_; refine wp_ti1 (lo := X + 1) (k := i) _ _ (by rfl) (ABk.out.ta.bel (bl_alloc (Below.refl _ _) _)) (by simp; omega) (by rfl) (by rfl) (heap_alloc_new _ _) (by omega) ?_; intro gg cap1 w7 hts7 hgr7 hor7; refine hK' _ _ ?_; clear hK' K')
          have hbA := bl_alloc (Below.refl wr.heap.size wr) (.cells #[.int .i64 (i : Int)] 3)
          have hsA : (wr.alloc (.cells #[.int .i64 (i : Int)] 3)).heap.size = wr.heap.size + 1 := by simp
          have hs7 := hgr7.size
          have hbo := fun p (e : (Value.slice Vb i kb).ownBlock = some p) => ABk.out.tb.lt2 p e
          have hao := fun p (e : (Value.slice Va i ka).ownBlock = some p) => ABk.out.ta.lt2 p e
          have AB7 : Hid (TS w7 (X + 1) 3 1 (.slice Vb i kb) i) := Lib.hid (ts_kept (ABk.out.tb.bel hbA) hgr7 (fun p e e' => ABk.out.ne p e' e))
          have NE7 : Hid (∀ p, (Value.slice (some ⟨gg, 0, none⟩) (i + 1) cap1).ownBlock = some p → (Value.slice Vb i kb).ownBlock ≠ some p) := Lib.hid (fun p e e' => by
            cases e
            rcases hor7 with h1 | h1
            · exact ABk.out.ne _ h1 e'
            · rw [hsA] at h1; have h9 : gg < wr.heap.size := (hbo _ e').2; omega)
          have MX7 := Lib.hid ((MXk.out.bel hbA).grow hgr7 (fun b e => by have := hao b e; have := MXk.out.lt; omega))
          have TI7 := Lib.hid ((TIk.out.kept (gb_of hbA) oth_none).kept hgr7 (fun b e => by have := hao b e; omega))
          have TA7 := Lib.hid hts7
          have hz7 : X + 1 ≤ w7.heap.size := by omega
          clear hts7 hgr7 hor7 hbA hbo hao MXk TIk ABk hsA hs7
          go_wp2_with (at_builtin; refine wpList_plain (by rfl) fun K' hK' => ?_; refine wp_ti1 (lo := X + 1) (k := i) _ _ (by rfl) (AB7.out.bel (bl_alloc (Below.refl _ _) _)) (by simp; omega) (by rfl) (by rfl) (heap_alloc_new _ _) (by omega) ?_; intro gg2 cap2 w9 hts9 hgr9 hor9; refine hK' _ _ ?_; clear hK' K')
          go_roundw
          case rel =>
            have hbA := bl_alloc (Below.refl w7.heap.size w7) (.cells #[.int .i64 1] 3)
            have hsA : (w7.alloc (.cells #[.int .i64 1] 3)).heap.size = w7.heap.size + 1 := by simp
            have hs9 := hgr9.size
            have hbo := fun p (e : (Value.slice Vb i kb).ownBlock = some p) => AB7.out.lt2 p e
            refine ⟨i + 1, by omega, by go_num, ⟨ts_kept (TA7.out.bel hbA) hgr9 (fun p e e' => NE7.out p e e'), hts9, fun p e e' => ?_⟩, (MX7.out.bel hbA).grow hgr9 (fun b e => by have := hbo b e; have := MX7.out.lt; omega), (TI7.out.kept (gb_of hbA) oth_none).kept hgr9 (fun b e => by have := hbo b e; omega), by omega⟩
            have hl := TA7.out.lt2 p e
            cases e'
            rcases hor9 with h1 | h1
            · exact NE7.out _ e h1
            · rw [hsA] at h1; have h9 : gg2 < w7.heap.size := hl.2; omega
          case measure => simp [intOf]; omega
        · obtain rfl : i = j := by omega
          have hsS : (wr.setCell ⟨X, 1, none⟩ (.slice (some ⟨wr.heap.size, 0, none⟩) 0 0)).heap.size = wr.heap.size := by simp [World.setCell]
          have hal := bl_alloc (Below.refl (wr.setCell ⟨X, 1, none⟩ (.slice (some ⟨wr.heap.size, 0, none⟩) 0 0)).heap.size (wr.setCell ⟨X, 1, none⟩ (.slice (some ⟨wr.heap.size, 0, none⟩) 0 0))) (.cells #[] 90)
          have hsA : ((wr.setCell ⟨X, 1, none⟩ (.slice (some ⟨wr.heap.size, 0, none⟩) 0 0)).alloc (.cells #[] 90)).heap.size = wr.heap.size + 1 := by simp
          have hxl := MXk.out.lt
          have mx9 := (MXk.out.put1 (u := (.slice (some ⟨wr.heap.size, 0, none⟩) 0 0))).bel hal
          obtain ⟨x1a, x1b⟩ := MXk.out.c1
          have hg9 := gb_set wr ⟨X, 1, none⟩ (.slice (some ⟨wr.heap.size, 0, none⟩) 0 0)
          have her9 := ER.lit8 (N := 22) (wr.setCell ⟨X, 1, none⟩ (.slice (some ⟨wr.heap.size, 0, none⟩) 0 0))
          rw [hsS, hsA] at her9
          have LM9 : Hid (LM w ((wr.setCell ⟨X, 1, none⟩ (.slice (some ⟨wr.heap.size, 0, none⟩) 0 0)).alloc (.cells #[] 90)) R (K + 2002) X (.slice Aa i ca) i (.slice (some ⟨wr.heap.size, 0, none⟩) 0 0) (.slice Va i ka) (.slice Vb i kb) 0) := Lib.hid ⟨mx9, her9.more (by omega) (by rw [hsA]; exact Nat.le_refl _) (Nat.le_refl _), ((TIk.out.kept hg9 (oth_some (.inr (Nat.le_refl _)))).kept (gb_of hal) oth_none), by omega, (((TS.ti ABk.out.ta (Nat.le_refl _)).kept hg9 (oth_some (.inl (by show X < _; omega)))).kept (gb_of hal) oth_none).more (Nat.le_refl _) (by omega), (((TS.ti ABk.out.tb (Nat.le_refl _)).kept hg9 (oth_some (.inl (by show X < _; omega)))).kept (gb_of hal) oth_none).more (Nat.le_refl _) (by omega)⟩
          have HSN := Lib.hid hsa
          clear hal mx9 hg9 her9 MXk TIk ABk hsr
          go_upto_region 18 with fail
          clear x1a x1b hsA hsS hxl
          generalize ((wr.setCell ⟨X, 1, none⟩ (.slice (some ⟨wr.heap.size, 0, none⟩) 0 0)).alloc (.cells #[] 90)) = w9 at *
          obtain ⟨V0, hV0⟩ : ∃ V0, Value.slice (some ⟨wr.heap.size, 0, none⟩) 0 0 = V0 := ⟨_, rfl⟩
          rw [hV0] at LM9
          go_wp2_with fail
          refine (pick_any R (K + 2002) 2 _ (by omega) LM9.out.mx.rd).mono ?_
          rintro e wp1 ⟨x1, rfl, -, -, hg, hr⟩
          have LP1 := Lib.hid (LM9.out.ask hg hr)
          clear hg hr LM9
          go_upto_if 50 with fail
          go_cut [] (fun wx => ∃ (n' : Nat) (V' : Value), n' ≤ 1 ∧ LM w wx R (K + 2003) X (.slice Aa i ca) i V' (.slice Va i ka) (.slice Vb i kb) n')
          case first =>
            by_cases h0 : x1 = 0
            · subst h0
              obtain ⟨A9, c9, rfl⟩ := LP1.out.er.head
              obtain ⟨x1a, x1b⟩ := LP1.out.mx.c1
              obtain ⟨x0a, x0b⟩ := LP1.out.mx.c0
              have HD := Lib.hid (LP1.out.bel (Below.refl wp1.heap.size wp1).drew)
              have hzp := LP1.out.hz
              go_upto_region 19 with fail
              have hal := bl_alloc (Below.refl wp1.drew.heap.size wp1.drew) (.cells #[] 3)
              have HAL := Lib.hid hal
              clear hal
              have HTL := Lib.hid (ts_lit wp1.drew 3 1)
              have x1l := kc (bl_alloc (Below.refl wp1.heap.size wp1) (.cells #[] 3)) x1a
              go_region_law (first
                  | (refine step_of (by rfl) (wp_cpI (m := i) (U := (.slice Va i ka)) _ _ (by rfl) (by rfl) (by rfl) (by rfl) HTL.out (HD.out.ta.kept (gb_of HAL.out) oth_none) (by simp) (by omega) ?_); intro A5 cap5 w6 hts6 hgr6 hor6; have LM6 := Lib.hid (HD.out.cp HAL.out hgr6 (Nat.le_refl _)); have hz6 := LM6.out.hz; have TC6 := Lib.hid ((TS.ti (ts_lo8 hts6 (show X + 1 ≤ wp1.heap.size from hzp)) (Nat.le_refl _))); obtain ⟨c, hc0, hc1, hc2, hc3, hc4⟩ := five8 (.int .i64 2) (.slice A5 i cap5) (.slice none 0 0) (.int .i64 0) (.slice none 0 0); have E6 : Hid (E5 w6 (X + 1) w6.heap.size 22 c) := Lib.hid ⟨2, 0, i, 0, 0, hc0, hc3, by omega, by omega, by omega, by rw [hc1]; exact TC6.out, by rw [hc2]; exact TI.nil, by rw [hc4]; exact EL.nil⟩; replace x1a := LM6.out.mx.c1.1; have x1m := kc (bl_alloc (Below.refl w6.heap.size w6) (.cells #[.int .i64 2, .slice A5 i cap5, .slice none 0 0, .int .i64 0, .slice none 0 0] 90)) x1a; clear hts6 hgr6 hor6 x1b x1l)
                  | (refine step_of (by rfl) (wp_er1 (k := 0) (c := c) (lo := X + 1) (hi := w6.heap.size) (N := 22) _ _ (by rfl) (LM6.out.er.kept (gb_of (bl_alloc (Below.refl _ _) _)) oth_none) (by have := LM6.out.hz; first | (simp; omega) | simp) (by rfl) (by rfl) (by first | exact heap_alloc_new _ _ | (rw [hc0, hc1, hc2, hc3, hc4]; exact heap_alloc_new _ _)) (E6.out.kept (gb_of (bl_alloc (Below.refl _ _) _)) oth_none) (by omega) ?_ (by simp)); intro gg cap3 w7 her7 hgr7 hown7 hhi7; have HE7 := Lib.hid her7; have HG7 := Lib.hid hgr7; obtain ⟨q1a, q1b⟩ := (LM6.out.mx7 (bl_alloc (Below.refl _ _) _) hgr7).c1; clear her7 hgr7 hown7 hhi7))
              all_goals
                go_wp2_with fail
                go_meet
                exact ⟨_, _, by omega, (LM6.out.app (bl_alloc (Below.refl _ _) _) HE7.out HG7.out).more8 (by omega)⟩
            · have hd9 : (x1 == 0) = false := by rw [beq_eq_false_iff_ne]; exact h0
              go_wp2_with fail
              go_meet
              exact ⟨_, _, by omega, LP1.out.more8 (by omega)⟩
          case rest =>
            obtain ⟨n1, V1, hn1, hlm⟩ := hcut
            have LC1 := Lib.hid hlm
            clear hlm LP1
            obtain ⟨wd1, hwd⟩ : ∃ wd1, wc = wd1 := ⟨_, rfl⟩
            rw [hwd] at LC1 ⊢
            clear hwd
            go_wp2_with fail
            refine (pick_any R (K + 2003) 2 _ (by omega) LC1.out.mx.rd).mono ?_
            rintro e wp2 ⟨x2, rfl, -, -, hg, hr⟩
            have LP2 := Lib.hid (LC1.out.ask hg hr)
            clear hg hr LC1
            go_upto_if 62 with fail
            go_cut [] (fun wx => ∃ (n' : Nat) (V' : Value), n' ≤ 2 ∧ LM w wx R (K + 2005) X (.slice Aa i ca) i V' (.slice Va i ka) (.slice Vb i kb) n')
            case first =>
              by_cases h0 : x2 = 0
              · subst h0
                obtain ⟨A9, c9, rfl⟩ := LP2.out.er.head
                obtain ⟨x1a, x1b⟩ := LP2.out.mx.c1
                obtain ⟨x0a, x0b⟩ := LP2.out.mx.c0
                have HD := Lib.hid (LP2.out.bel (Below.refl wp2.heap.size wp2).drew)
                have hzp := LP2.out.hz
                go_upto_region 21 with fail
                go_region_law (first
                    | (go_simp; go_at_call 59; refine (pick_any R (K + 2004) 4 _ (by omega) HD.out.mx.rd).mono ?_; rintro e w6 ⟨y, rfl, -, -, hg, hr⟩; have LM6 := Lib.hid (HD.out.ask hg hr); have hz6 := LM6.out.hz; obtain ⟨c, hc0, hc1, hc2, hc3, hc4⟩ := five8 (.int .i64 1) (.slice Va i ka) (.slice Vb i kb) (.int .i64 y) (.slice none 0 0); have E6 : Hid (E5 w6 (X + 1) w6.heap.size 22 c) := Lib.hid ⟨1, y, i, i, 0, hc0, hc3, by omega, by omega, by omega, by rw [hc1]; exact LM6.out.ta, by rw [hc2]; exact LM6.out.tb, by rw [hc4]; exact EL.nil⟩; replace x1a := LM6.out.mx.c1.1; have x1m := kc (bl_alloc (Below.refl w6.heap.size w6) (.cells #[.int .i64 1, .slice Va i ka, .slice Vb i kb, .int .i64 y, .slice none 0 0] 90)) x1a; clear hg hr x1b)
                    | (refine step_of (by rfl) (wp_er1 (k := n1) (c := c) (lo := X + 1) (hi := w6.heap.size) (N := 22) _ _ (by rfl) (LM6.out.er.kept (gb_of (bl_alloc (Below.refl _ _) _)) oth_none) (by have := LM6.out.hz; first | (simp; omega) | simp) (by rfl) (by rfl) (by first | exact heap_alloc_new _ _ | (rw [hc0, hc1, hc2, hc3, hc4]; exact heap_alloc_new _ _)) (E6.out.kept (gb_of (bl_alloc (Below.refl _ _) _)) oth_none) (by omega) ?_ (by simp)); intro gg cap3 w7 her7 hgr7 hown7 hhi7; have HE7 := Lib.hid her7; have HG7 := Lib.hid hgr7; obtain ⟨q1a, q1b⟩ := (LM6.out.mx7 (bl_alloc (Below.refl _ _) _) hgr7).c1; clear her7 hgr7 hown7 hhi7))
                all_goals
                  go_wp2_with fail
                  go_meet
                  exact ⟨_, _, by omega, (LM6.out.app (bl_alloc (Below.refl _ _) _) HE7.out HG7.out).more8 (by omega)⟩
              · have hd9 : (x2 == 0) = false := by rw [beq_eq_false_iff_ne]; exact h0
                go_wp2_with fail
                go_meet
                exact ⟨_, _, by omega, LP2.out.more8 (by omega)⟩
            case rest =>
              obtain ⟨n2, V2, hn2, hlm⟩ := hcut
              have LC2 := Lib.hid hlm
              clear hlm LP2
              obtain ⟨wd2, hwd⟩ : ∃ wd2, wc = wd2 := ⟨_, rfl⟩
              rw [hwd] at LC2 ⊢
              clear hwd
              go_wp2_with fail
              refine (pick_any R (K + 2005) 3 _ (by omega) LC2.out.mx.rd).mono ?_
              rintro e wp3 ⟨x3, rfl, -, -, hg, hr⟩
              have LP3 := Lib.hid (LC2.out.ask hg hr)
              clear hg hr LC2
              go_upto_if 75 with fail
              go_cut [] (fun wx => ∃ (n' : Nat) (V' : Value), n' ≤ 3 ∧ LM w wx R (K + 2406) X (.slice Aa i ca) i V' (.slice Va i ka) (.slice Vb i kb) n')
              case first =>
                by_cases h0 : x3 = 0
                · subst h0
                  obtain ⟨A9, c9, rfl⟩ := LP3.out.er.head
                  obtain ⟨x1a, x1b⟩ := LP3.out.mx.c1
                  obtain ⟨x0a, x0b⟩ := LP3.out.mx.c0
                  have HD := Lib.hid (LP3.out.bel (Below.refl wp3.heap.size wp3).drew)
                  have hzp := LP3.out.hz
                  go_upto_region 23 with fail
                  go_region_law (first
                      | (go_simp; go_at_call 85; refine (drawR_any R (K + 2006) _ _ _ _ _ _ _ (by omega) (by omega) HD.out.mx.rd).mono ?_; rintro e w6 ⟨c, rfl, he5, hg, hr⟩; have LM6 := Lib.hid (HD.out.ask hg hr); have hz6 := LM6.out.hz; have hs6 := hg.size; have E6 : Hid (E5 w6 (X + 1) w6.heap.size 22 c) := Lib.hid (he5.more (show X + 1 ≤ wp3.heap.size from hzp) (Nat.le_refl _) (Nat.le_refl _)); replace x1a := LM6.out.mx.c1.1; replace x0a := LM6.out.mx.c0.1; have x1m := kc (bl_alloc (Below.refl w6.heap.size w6) (.cells #[c 0, c 1, c 2, c 3, c 4] 90)) x1a; clear hg hr he5 x1b x0b)
                      | (refine step_of (by rfl) (wp_er1 (k := n2) (c := c) (lo := X + 1) (hi := w6.heap.size) (N := 22) _ _ (by rfl) (LM6.out.er.kept (gb_of (bl_alloc (Below.refl _ _) _)) oth_none) (by have := LM6.out.hz; first | (simp; omega) | simp) (by rfl) (by rfl) (by first | exact heap_alloc_new _ _ | (rw [hc0, hc1, hc2, hc3, hc4]; exact heap_alloc_new _ _)) (E6.out.kept (gb_of (bl_alloc (Below.refl _ _) _)) oth_none) (by omega) ?_ (by simp)); intro gg cap3 w7 her7 hgr7 hown7 hhi7; have HE7 := Lib.hid her7; have HG7 := Lib.hid hgr7; obtain ⟨q1a, q1b⟩ := (LM6.out.mx7 (bl_alloc (Below.refl _ _) _) hgr7).c1; clear her7 hgr7 hown7 hhi7))
                  all_goals
                    go_wp2_with fail
                    go_meet
                    exact ⟨_, _, by omega, (LM6.out.app (bl_alloc (Below.refl _ _) _) HE7.out HG7.out).more8 (by omega)⟩
                · have hd9 : (x3 == 0) = false := by rw [beq_eq_false_iff_ne]; exact h0
                  go_wp2_with fail
                  go_meet
                  exact ⟨_, _, by omega, LP3.out.more8 (by omega)⟩
              case rest =>
                obtain ⟨n3, V3, hn3, hlm⟩ := hcut
                have LC3 := Lib.hid hlm
                clear hlm LP3
                obtain ⟨A9, c9, rfl⟩ := LC3.out.er.head
                have hzc := LC3.out.hz
                have hsa9 := HSN.out
                obtain ⟨e0, g0, g0f⟩ := LC3.out.mx.res 0 (by omega)
                obtain ⟨e1, g1, g1f⟩ := LC3.out.mx.res 1 (by omega)
                obtain ⟨x0a, x0b⟩ := LC3.out.mx.c0
                obtain ⟨x1a, x1b⟩ := LC3.out.mx.c1
                go_wp2
                refine bodyPost_ret (v := .agg #[.slice Aa i ca, .slice A9 n3 c9]) (by simp [results, Try.results52, go_sem, g0, g1]) rfl ?_
                obtain ⟨f1, f2, f3⟩ := LC3.out.mx.fin (.slice Aa i ca) (.slice A9 n3 c9)
                have f4 := f1.size
                exact ⟨Aa, ca, A9, c9, i, n3, rfl, by omega, by omega, (LC3.out.ti.kept f1 (oth_some (.inl (by omega)))).more (by omega) (by omega), (LC3.out.er.kept f1 (oth_some (.inl (by omega)))).more (by omega) (by omega) (Nat.le_refl _), f2, f3.more (by omega)⟩
end Go.Proofs.Ytafiikfaeomhpaa

namespace Go.Proofs.Ytafiikfaeomhpaa
open Go.ChangeShapes Go.WideShapes Go.ChangeAt Go.RowKit

/-- What the draw of a permutation leaves. -/
def PmDr (w : World) (R K sn : Nat) (e : Ending) (w' : World) : Prop := ∃ A cap, e = .returned (.slice A sn cap) ∧ TI w' w.heap.size w'.heap.size (.slice A sn cap) sn ∧ Gr R w w' ∧ Rdr w' R K
/-- The slice that is drawn. -/
structure PD (w wr : World) (R K lo hi : Nat) (V : Value) (k : Nat) : Prop where
  ti : TI wr lo hi V k
  gr : Gr R w wr
  rd : Rdr wr R K
  hz : hi ≤ wr.heap.size
theorem PD.ask {w wr w' : World} {R K K' lo hi : Nat} {V : Value} {k : Nat} (h : PD w wr R K lo hi V k) (hR : R < lo) (hg : Gr R wr w') (hr : Rdr w' R K') : PD w w' R K' lo hi V k :=
  have hs := hg.size
  have hz := h.hz
  ⟨h.ti.kept hg (oth_some (.inl hR)), h.gr.trans hg, hr, by omega⟩
theorem PD.bel {w wr w' : World} {R K lo hi : Nat} {V : Value} {k : Nat} (h : PD w wr R K lo hi V k) (hb : Below wr.heap.size wr w') : PD w w' R K lo hi V k :=
  have hs := hb.size
  have hz := h.hz
  ⟨h.ti.kept (gb_of hb) oth_none, h.gr.bel hb, h.rd.bel hb, by omega⟩
theorem PD.put {w wr : World} {R K lo hi g j : Nat} {V : Value} {k : Nat} (h : PD w wr R K lo hi V k) (hR : R < lo) (hlo : w.heap.size ≤ lo) (hg : lo ≤ g) (z : Int) : PD w (wr.setCell ⟨g, j, none⟩ (.int .i64 z)) R K lo hi V k :=
  have hz := h.hz
  ⟨h.ti.store g j z, h.gr.set (.inr (by show w.heap.size ≤ g; omega)) _, h.rd.set (by show R < g; omega) _, by simpa [World.setCell] using hz⟩
theorem PD.more {w wr : World} {R K K' lo hi : Nat} {V : Value} {k : Nat} (h : PD w wr R K lo hi V k) (hK : K ≤ K') : PD w wr R K' lo hi V k := ⟨h.ti, h.gr, h.rd.more hK, h.hz⟩
theorem PD.at_ {w wr : World} {R K lo hi : Nat} {A : Option Addr} {k cap : Nat} (h : PD w wr R K lo hi (.slice A k cap) k) (hk : 0 < k) : ∃ g, ∃ v : Nat → Int, A = some ⟨g, 0, none⟩ ∧ lo ≤ g ∧ k ≤ cap ∧ (∀ j, j < k → wr.cell? ⟨g, j, none⟩ = some (.int .i64 (v j))) ∧ ∀ j, wr.frozen? ⟨g, j, none⟩ = false := by
  obtain ⟨g, cp, e, hcp, hg1, hg2, hcell, hfr⟩ := h.ti.1.open hk
  obtain ⟨A', c', v, e', hr⟩ := h.ti.rd
  cases e
  cases e'
  obtain ⟨b, off, e2, -, hc⟩ := hr hk
  cases e2
  exact ⟨g, v, rfl, hg1, hcp, fun j hj => by have := hc j hj; rwa [Nat.zero_add] at this, hfr⟩

set_option linter.unusedVariables false in
set_option linter.unusedSimpArgs false in
set_option maxRecDepth 100000 in
set_option maxHeartbeats 6400000 in
theorem l10Perm_any (R K : Nat) (As Ar : Option Addr) (sn cs n cr : Nat) (w : World) (hK : K ≤ 800000) (hs : sn ≤ 20) (h : Rdr w R K) :
    Calls Try.prog 53 #[.pointer (some ⟨R, 0, none⟩), .agg #[.slice As sn cs, .slice Ar n cr]] w (PmDr w R (K + 20) sn) := by
  have hRw := h.lt
  have a0 : Cel (w.alloc (.cells #[.slice As sn cs, .slice Ar n cr] 30)) w.heap.size 0 (.slice As sn cs) := ⟨by go_simp, by go_simp⟩
  obtain ⟨WA, hWA⟩ : ∃ W, w.alloc (.cells #[.slice As sn cs, .slice Ar n cr] 30) = W := ⟨_, rfl⟩
  rw [hWA] at a0
  obtain ⟨WB, hWB⟩ : ∃ W, WA.alloc (.cells #[] 3) = W := ⟨_, rfl⟩
  have sA : WA.heap.size = w.heap.size + 1 := by rw [← hWA]; simp
  have sB : WB.heap.size = w.heap.size + 2 := by rw [← hWB]; simp [sA]
  have bA : Below w.heap.size w WA := by rw [← hWA]; exact bl_alloc (Below.refl _ _) _
  have bB : Below WA.heap.size WA WB := by rw [← hWB]; exact bl_alloc (Below.refl _ _) _
  replace a0 := a0.below bB
  have hts : TS WB (w.heap.size + 1) 3 1 (.slice (some ⟨w.heap.size + 1, 0, none⟩) 0 0) 0 := by rw [← hWB, ← sA]; exact ts_lit WA 3 1
  have T0 := Lib.hid hts
  have HB := Lib.hid (bl_trans bA bB)
  have HR := Lib.hid (h.bel (bl_trans bA bB))
  have SB := Lib.hid sB
  have A0 := Lib.hid a0
  clear bA bB hts h
  have a0c := a0.1
  clear a0
  go_enter Try.func53, Try.ntmps53
  go_wp2
  clear hWA hWB sA sB a0c
  go_loopw [5, 6] (fun t i wr => ∃ k : Nat, k ≤ sn ∧ i = .int .i64 k ∧ TS wr (w.heap.size + 1) 3 1 t k ∧ Below w.heap.size w wr ∧ WB.heap.size ≤ wr.heap.size ∧ Cel wr w.heap.size 0 (.slice As sn cs) ∧ Rdr wr R K) (fun _ i _ => sn - (intOf i).toNat)
  case atStart => exact ⟨0, Nat.zero_le _, rfl, T0.out, HB.out, Nat.le_refl _, A0.out, HR.out⟩
  case round =>
    obtain ⟨k, hk, rfl, hts, hb, hzr, a0, hrd⟩ := hrel
    have TSk := Lib.hid hts
    have HBk := Lib.hid hb
    obtain ⟨Av, cv, rfl⟩ := ts_head hts
    have RDk := Lib.hid hrd
    have Ck := Lib.hid a0
    obtain ⟨a0c, a0f⟩ := a0
    clear hts hb hrd T0 A0
    have hzw : w.heap.size + 2 ≤ wr.heap.size := by have := SB.out; omega
    by_cases hlt : k < sn
    · have hltI : (k : Int) < (sn : Int) := by omega
      go_wp2_with (at_builtin; refine wpList_plain (by rfl) fun K' hK' => ?_; refine wp_ti1 (lo := w.heap.size + 1) (k := k) _ _ (by rfl) (TSk.out.bel (bl_alloc (Below.refl _ _) _)) (by simp; omega) (by rfl) (by rfl) (heap_alloc_new _ _) (by omega) ?_; intro gg cap1 w7 hts7 hgr7 hor7; refine hK' _ _ ?_; clear hK' K')
      go_roundw
      case rel =>
        have hbA := bl_alloc (Below.refl wr.heap.size wr) (.cells #[.int .i64 (k : Int)] 3)
        have hs7 := hgr7.size
        have hsA := hbA.size
        have hown := fun b (e : (Value.slice Av k cv).ownBlock = some b) => TSk.out.lt2 b e
        exact ⟨k + 1, by omega, by go_num, hts7, (HBk.out.trans (hbA.mono (by omega))).grown hgr7 (by omega) (fun b e => by have := (hown b e).1; omega), by omega, (Ck.out.below hbA).grow hgr7 (fun b e => by have := (hown b e).1; omega), (RDk.out.bel hbA).grow hgr7 (fun b e => by have := (hown b e).1; omega)⟩
      case measure => simp [intOf]; omega
    · obtain rfl : k = sn := by omega
      have PD0 : Hid (PD w wr R K (w.heap.size + 1) wr.heap.size (.slice Av k cv) k) := Lib.hid ⟨TS.ti TSk.out (Nat.le_refl _), Gr.of HBk.out, RDk.out, Nat.le_refl _⟩
      have hR1 : R < w.heap.size + 1 := by omega
      have HAl := Lib.hid (bl_alloc (Below.refl wr.heap.size wr) (.cells #[.int .i64 1, .int .i64 2, .int .i64 0, .int .i64 1] 3))
      have hbR : wr.heap.size ≠ R := by omega
      go_wp2_with fail
      clear a0c a0f TSk HBk RDk Ck
      refine (num_any R K wr.heap.size 4 _ _ _ (by omega) (PD0.out.bel HAl.out).rd hbR (heap_alloc_new wr _) (by rfl) (by omega) (by omega) (lit_all [1, 2, 0, 1])).mono ?_
      rintro e w2 ⟨z, rfl, hz, hg, hr⟩
      have hz' : 0 ≤ z ∧ z ≤ 2 := by
        have := hz
        simp at this
        omega
      obtain ⟨iz, rfl⟩ : ∃ iz : Nat, z = (iz : Int) := ⟨z.toNat, by omega⟩
      have PD2 := Lib.hid ((PD0.out.bel HAl.out).ask hR1 hg hr)
      clear hg hr hz PD0 HAl
      obtain ⟨hi9, hh9⟩ : ∃ h9, wr.heap.size = h9 := ⟨_, rfl⟩
      rw [hh9] at PD2 ⊢
      go_wp2
      go_loopw [7] (fun c wq => ∃ i : Nat, i ≤ 2 ∧ c = .int .i64 i ∧ PD w wq R (K + 1 + 2 * (2 - i)) (w.heap.size + 1) hi9 (.slice Av k cv) k) (fun c _ => (intOf c).toNat)
      case atStart => exact ⟨iz, by omega, rfl, PD2.out.more (by omega)⟩
      case round =>
        obtain ⟨i, hi2, rfl, hpd⟩ := hrel
        have PDk := Lib.hid hpd
        clear hpd PD2
        by_cases hi0 : 0 < i
        · have hi0' : (0 : Int) < (i : Int) := by omega
          by_cases hk1 : 1 < k
          · have hk1' : (1 : Int) < (k : Int) := by omega
            go_wp2_with fail
            refine (pick_any R (K + 1 + 2 * (2 - i)) (k : Int) _ (by omega) PDk.out.rd).mono ?_
            rintro e w3 ⟨x, rfl, hx0, hx1, hg, hr⟩
            have PD3 := Lib.hid (PDk.out.ask hR1 hg hr)
            clear hg hr PDk
            obtain ⟨ax, rfl⟩ : ∃ a : Nat, x = (a : Int) := ⟨x.toNat, by omega⟩
            have hax : ax < k := by omega
            go_wp2_with fail
            refine (pick_any R (K + 1 + 2 * (2 - i) + 1) (k : Int) _ (by omega) PD3.out.rd).mono ?_
            rintro e w4 ⟨y, rfl, hy0, hy1, hg, hr⟩
            have PD4 := Lib.hid (PD3.out.ask hR1 hg hr)
            clear hg hr PD3
            obtain ⟨bx, rfl⟩ : ∃ a : Nat, y = (a : Int) := ⟨y.toNat, by omega⟩
            have hbx : bx < k := by omega
            obtain ⟨g, v, rfl, hgl, hkc, hcl, hfr⟩ := PD4.out.at_ (by omega)
            have c1 := hcl ax hax
            have c2 := hcl bx hbx
            have f1 := hfr ax
            have f2 := hfr bx
            have hax' : (ax : Int) < (k : Int) := by omega
            have hax0 : (0 : Int) ≤ (ax : Int) := by omega
            have hbx' : (bx : Int) < (k : Int) := by omega
            have hbx0 : (0 : Int) ≤ (bx : Int) := by omega
            have PD5 := Lib.hid (PD4.out.put (g := g) (j := ax) hR1 (by omega) hgl (v bx))
            obtain ⟨g', v', e', hgl', hkc', hcl', hfr'⟩ := PD5.out.at_ (by omega)
            cases e'
            have c3 := hcl' bx hbx
            have f3 := hfr' bx
            have PD6 := Lib.hid (PD5.out.put (g := g) (j := bx) hR1 (by omega) hgl (v ax))
            clear hcl hfr hcl' hfr' PD4 PD5
            go_wp2
            go_roundw
            case rel => exact ⟨i - 1, by omega, by first | go_num | (congr 1; omega), PD6.out.more (by omega)⟩
            case measure => simp [intOf]; omega
          · have hk1' : ¬ (1 : Int) < (k : Int) := by omega
            have PDe := Lib.hid (PDk.out.more (show K + 1 + 2 * (2 - i) ≤ K + 5 by omega))
            clear PDk
            by_cases hk0 : 0 < k
            · have hk0' : (0 : Int) < (k : Int) := by omega
              go_wp2_with fail
              refine (pick_any R (K + 5) 20 _ (by omega) PDe.out.rd).mono ?_
              rintro e w6 ⟨x9, rfl, -, -, hg, hr⟩
              have PD7 := Lib.hid (PDe.out.ask hR1 hg hr)
              clear hg hr PDe
              by_cases h0 : x9 = 0
              · subst h0
                have HAl := Lib.hid (bl_alloc (Below.refl w6.heap.size w6) (.cells #[.int .i64 (-1), .int .i64 5, .int .i64 1, .int .i64 0] 3))
                have hbR6 : w6.heap.size ≠ R := by have := PD7.out.gr.size; omega
                go_wp2_with fail
                refine (num_any R (K + 5 + 1) w6.heap.size 4 _ _ _ (by omega) (PD7.out.bel HAl.out).rd hbR6 (heap_alloc_new w6 _) (by rfl) (by omega) (by omega) (lit_all [-1, 5, 1, 0])).mono ?_
                rintro e w7 ⟨z9, rfl, -, hg, hr⟩
                have PD8 := Lib.hid ((PD7.out.bel HAl.out).ask hR1 hg hr)
                clear hg hr PD7 HAl
                obtain ⟨g, v, rfl, hgl, hkc, hcl, hfr⟩ := PD8.out.at_ (by omega)
                have c1 := hcl 0 (by omega)
                have f1 := hfr 0
                have PD9 := Lib.hid (PD8.out.put (g := g) (j := 0) hR1 (by omega) hgl z9)
                clear hcl hfr PD8
                go_wp2
                go_ret
                exact ⟨_, _, rfl, PD9.out.ti.more (by omega) PD9.out.hz, PD9.out.gr, PD9.out.rd.more (by omega)⟩
              · have hd9 : (x9 == 0) = false := by rw [beq_eq_false_iff_ne]; exact h0
                go_wp2
                go_ret
                exact ⟨_, _, rfl, PD7.out.ti.more (by omega) PD7.out.hz, PD7.out.gr, PD7.out.rd.more (by omega)⟩
            · have hk0' : ¬ (0 : Int) < (k : Int) := by omega
              go_wp2
              go_ret
              exact ⟨_, _, rfl, PDe.out.ti.more (by omega) PDe.out.hz, PDe.out.gr, PDe.out.rd.more (by omega)⟩
        · obtain rfl : i = 0 := by omega
          have PDe := Lib.hid (PDk.out.more (show K + 1 + 2 * (2 - 0) ≤ K + 5 by omega))
          clear PDk
          by_cases hk0 : 0 < k
          · have hk0' : (0 : Int) < (k : Int) := by omega
            go_wp2_with fail
            refine (pick_any R (K + 5) 20 _ (by omega) PDe.out.rd).mono ?_
            rintro e w6 ⟨x9, rfl, -, -, hg, hr⟩
            have PD7 := Lib.hid (PDe.out.ask hR1 hg hr)
            clear hg hr PDe
            by_cases h0 : x9 = 0
            · subst h0
              have HAl := Lib.hid (bl_alloc (Below.refl w6.heap.size w6) (.cells #[.int .i64 (-1), .int .i64 5, .int .i64 1, .int .i64 0] 3))
              have hbR6 : w6.heap.size ≠ R := by have := PD7.out.gr.size; omega
              go_wp2_with fail
              refine (num_any R (K + 5 + 1) w6.heap.size 4 _ _ _ (by omega) (PD7.out.bel HAl.out).rd hbR6 (heap_alloc_new w6 _) (by rfl) (by omega) (by omega) (lit_all [-1, 5, 1, 0])).mono ?_
              rintro e w7 ⟨z9, rfl, -, hg, hr⟩
              have PD8 := Lib.hid ((PD7.out.bel HAl.out).ask hR1 hg hr)
              clear hg hr PD7 HAl
              obtain ⟨g, v, rfl, hgl, hkc, hcl, hfr⟩ := PD8.out.at_ (by omega)
              have c1 := hcl 0 (by omega)
              have f1 := hfr 0
              have PD9 := Lib.hid (PD8.out.put (g := g) (j := 0) hR1 (by omega) hgl z9)
              clear hcl hfr PD8
              go_wp2
              go_ret
              exact ⟨_, _, rfl, PD9.out.ti.more (by omega) PD9.out.hz, PD9.out.gr, PD9.out.rd.more (by omega)⟩
            · have hd9 : (x9 == 0) = false := by rw [beq_eq_false_iff_ne]; exact h0
              go_wp2
              go_ret
              exact ⟨_, _, rfl, PD7.out.ti.more (by omega) PD7.out.hz, PD7.out.gr, PD7.out.rd.more (by omega)⟩
          · have hk0' : ¬ (0 : Int) < (k : Int) := by omega
            go_wp2
            go_ret
            exact ⟨_, _, rfl, PDe.out.ti.more (by omega) PDe.out.hz, PDe.out.gr, PDe.out.rd.more (by omega)⟩
end Go.Proofs.Ytafiikfaeomhpaa

namespace Go.Proofs.Ytafiikfaeomhpaa
open Go.ChangeShapes Go.WideShapes Go.ChangeAt Go.RowKit

theorem all_listed2 {md : Region.Mode} {ops : Array Oper} {listed : Array Bool} (hs : listed.size = ops.size) (hac : ∀ (i : Nat) (o : Oper), ops[i]? = some o → ∀ e : Edge, e ∈ o.after → Region.binds md e = true → e.on < i) (hr : Region.ready md ops listed = []) : ∀ i, listed.getD i true = true := by
  intro i
  induction i using Nat.strongRecOn with
  | ind i ih =>
    by_cases hlt : i < ops.size
    · cases hb : listed.getD i true with
      | true => rfl
      | false =>
        exfalso
        have hm : i ∈ Region.ready md ops listed := by
          unfold Region.ready
          refine List.mem_filter.2 ⟨List.mem_range.2 hlt, ?_⟩
          have ho : ops[i]? = some ops[i] := Array.getElem?_eq_getElem hlt
          simp only [Bool.and_eq_true, Bool.not_eq_true', hb, true_and]
          rw [ho]
          simp only [Option.map_some, Option.getD_some]
          rw [Array.all_eq_true_iff_forall_mem]
          intro e he
          cases hbd : Region.binds md e with
          | false => simp
          | true =>
            have h1 := ih e.on (hac i _ ho e he hbd)
            have h2 : e.on < listed.size := by have := hac i _ ho e he hbd; omega
            have h3 : listed.getD e.on false = true := by
              simp [Array.getD, h2] at h1 ⊢
              exact h1
            rw [h3]; simp
        rw [hr] at hm
        cases hm
    · simp [Array.getD, show ¬ i < listed.size by omega]

/-- A region that draws its order: an invariant over what has run. -/
theorem region_inv2 {P : Program} {id : Nat} {ops : Array Oper} {Q : Exit → Act → World → Prop} {a : Act} {w : World} (hmix : P.follows .mixedOrders = true) (I : (Nat → Bool) → Act → World → Prop)
    (hac : ∀ (i : Nat) (o : Oper), ops[i]? = some o → ∀ e : Edge, e ∈ o.after → Region.binds .any e = true → e.on < i)
    (h0 : ∀ L : Nat → Bool, (∀ i, i < ops.size → L i = false) → I L a w.drew)
    (hend : ∀ (L : Nat → Bool) a w, (∀ i, L i = true) → I L a w → Q .normal a w)
    (hstep : ∀ (L : Nat → Bool) (i : Nat) (o : Oper), ops[i]? = some o → L i = false → (∀ e : Edge, e ∈ o.after → Region.binds .any e = true → L e.on = true) → ∀ a w, I L a w → ∀ K' : Act → World → Prop, (∀ a' w', I (updL L i) a' w' → K' a' w') → if Region.wanted o (yielded ops a.tmps) = true then Oper.wp P o a w K' Q else K' (a.put o.dst undef) w) :
    (Code.region id ops true).wp P Q a w := by
  refine wp_region_any hmix ?_
  have key : ∀ (fuel : Nat) (listed : Array Bool) (a : Act) (w : World), listed.size = ops.size → leftO listed ≤ fuel → I (fun j => listed.getD j true) a w → wpAny P .any ops Q fuel listed a w := by
    intro fuel
    induction fuel with
    | zero =>
      intro listed a w hs hl hI
      have hr := leftO_zero (md := .any) (ops := ops) (listed := listed) (by omega)
      exact ⟨hr, hend _ a w (all_listed2 hs hac hr) hI⟩
    | succ fuel ih =>
      intro listed a w hs hl hI
      refine ⟨fun hr => hend _ a w (all_listed2 hs hac hr) hI, fun i hi => ?_⟩
      unfold Region.ready at hi
      obtain ⟨hi1, hi2⟩ := List.mem_filter.1 hi
      have hlt := List.mem_range.1 hi1
      have ho : ops[i]? = some ops[i] := Array.getElem?_eq_getElem hlt
      simp only [Bool.and_eq_true, Bool.not_eq_true'] at hi2
      obtain ⟨hu, hd⟩ := hi2
      rw [ho] at hd
      simp only [Option.map_some, Option.getD_some] at hd
      rw [Array.all_eq_true_iff_forall_mem] at hd
      refine wpOp_step ho fun K' hK' => hstep (fun j => listed.getD j true) i _ ho hu (fun e he hb => ?_) a w hI K' fun a' w' hI' => hK' a' w' (ih _ a' w' (by simp [hs]) (by have := leftO_set hu; omega) ?_)
      · have h1 := hd e he
        rw [hb] at h1
        simp only [Bool.not_true, Bool.false_or] at h1
        have h2 : e.on < listed.size := by have := hac i _ ho e he hb; omega
        simp [Array.getD, h2] at h1 ⊢
        exact h1
      · have e : (fun j => (listed.setIfInBounds i true).getD j true) = updL (fun j => listed.getD j true) i := funext fun j => getD_set
        rw [e]; exact hI'
  refine key _ _ _ _ (by simp) ?_ ?_
  · unfold leftO
    refine Nat.le_trans List.countP_le_length ?_
    simp
  · exact h0 _ fun i hi => by simp [Array.getD, hi]
/-- The edges that are told stand in the text. -/
def edgesOk2 (l : List (List Nat)) (ops : List Oper) : Bool := decide (l.length ≤ ops.length) && (List.range ops.length).all fun i => match ops[i]? with
  | some o => o.guard.isNone && (o.after.toList.all (fun e => !Region.binds .any e || decide (e.on < i)) && (l.getD i []).all fun k => o.after.toList.any fun e => e.on == k && Region.binds .any e)
  | none => true
theorem region_steps2 {P : Program} {id : Nat} {ops : List Oper} {Q : Exit → Act → World → Prop} {a : Act} {w : World} (J : Act → (Nat → Bool) → Act → World → Prop) (l : List (List Nat)) (hmix : P.follows .mixedOrders = true) (hok : edgesOk2 l ops = true)
    (h0 : ∀ L : Nat → Bool, (∀ i, i < ops.length → L i = false) → J a L a w.drew)
    (hs : StepsI P Q (J a) l 0 ops)
    (hend : ∀ L : Nat → Bool, (∀ i, L i = true) → ∀ a' w', J a L a' w' → Q .normal a' w') :
    (Code.region id ops.toArray true).wp P Q a w := by
  unfold edgesOk2 at hok
  rw [Bool.and_eq_true] at hok
  have hlen := of_decide_eq_true hok.1
  have hall : ∀ (i : Nat) (o : Oper), ops[i]? = some o → o.guard = none ∧ (∀ e : Edge, e ∈ o.after → Region.binds .any e = true → e.on < i) ∧ ∀ k, k ∈ l.getD i [] → ∃ e : Edge, e ∈ o.after ∧ e.on = k ∧ Region.binds .any e = true := by
    intro i o ho
    have hi : i < ops.length := (List.getElem?_eq_some_iff.1 ho).1
    have := List.all_eq_true.1 hok.2 i (List.mem_range.2 hi)
    rw [ho] at this
    simp only [Bool.and_eq_true] at this
    obtain ⟨h1, h2, h3⟩ := this
    have h1' : o.guard = none := by
      cases hg : o.guard with
      | none => rfl
      | some x => rw [hg] at h1; cases h1
    refine ⟨h1', fun e he hb => ?_, fun k hk => ?_⟩
    · have := List.all_eq_true.1 h2 e (by simpa using he)
      rw [hb] at this
      simpa using this
    · obtain ⟨e, he, h4⟩ := List.any_eq_true.1 (List.all_eq_true.1 h3 k hk)
      rw [Bool.and_eq_true, beq_iff_eq] at h4
      exact ⟨e, by simpa using he, h4.1, h4.2⟩
  refine region_inv2 hmix (fun L a' w' => J a L a' w' ∧ ∀ j k, k ∈ l.getD j [] → L j = true → L k = true) (fun i o ho => (hall i o (by simpa using ho)).2.1) (fun L hL => ⟨h0 L (fun i hi => hL i (by simpa using hi)), fun j k hk hj => ?_⟩) (fun L a' w' hL hI => hend L hL a' w' hI.1) ?_
  · by_cases hlt : j < ops.length
    · rw [hL j (by simpa using hlt)] at hj; cases hj
    · rw [List.getD_eq_getElem?_getD, List.getElem?_eq_none (by omega)] at hk
      simp at hk
  · intro L i o ho hLi hd a' w' hI K' hK'
    have ho' : ops[i]? = some o := by simpa using ho
    obtain ⟨hg, _, he⟩ := hall i o ho'
    rw [if_pos (by unfold Region.wanted; rw [hg])]
    have hdl : ∀ k, k ∈ l.getD i [] → L k = true := fun k hk => by
      obtain ⟨e, h1, h2, h3⟩ := he k hk
      rw [← h2]
      exact hd e h1 h3
    have := hs.at_ ho' L (by rw [Nat.zero_add]; exact hLi) (by rw [Nat.zero_add]; exact hdl) hI.2 a' w' hI.1 K'
    rw [Nat.zero_add] at this
    refine this fun a2 w2 h2 => hK' a2 w2 ⟨h2, fun j k hk hj => ?_⟩
    have hup : ∀ k, L k = true → updL L i k = true := fun k hk => by
      unfold updL
      split
      · rfl
      · exact hk
    by_cases e : j = i
    · subst e; exact hup k (hdl k hk)
    · refine hup k (hI.2 j k hk ?_)
      unfold updL at hj
      rwa [if_neg e] at hj
end Go.Proofs.Ytafiikfaeomhpaa

namespace Go.Proofs.Ytafiikfaeomhpaa
open Go.ChangeShapes Go.WideShapes Go.ChangeAt Go.RowKit

/-- What stays of the bundle when only the reader has turned. -/
structure DYq (w0 w : World) (Y : Nat) : Prop where
  hY : w0.heap.size ≤ Y
  y0 : ∃ v, Cel w Y 0 v
  y1 : ∃ v, Cel w Y 1 v
  bl : Below w0.heap.size w0 w
theorem DX.grq {w0 w w' : World} {R K X Y : Nat} {v0 v1 : Value} (h : DX w0 w R K X Y v0 v1) (hg : Gr R w w') : DYq w0 w' Y :=
  ⟨h.hY, h.y0.imp fun _ q => hg.cel q h.hYR, h.y1.imp fun _ q => hg.cel q h.hYR, gr_bel8 h.bl hg h.hR⟩
theorem DYq.fin' {w0 w : World} {Y : Nat} (h : DYq w0 w Y) (u u' : Value) : w.grownBy ((w.setCell ⟨Y, 0, none⟩ u).setCell ⟨Y, 1, none⟩ u') (some Y) ∧ Below w0.heap.size w0 ((w.setCell ⟨Y, 0, none⟩ u).setCell ⟨Y, 1, none⟩ u') :=
  ⟨Gr.trans (gb_set _ ⟨Y, 0, none⟩ _) (gb_set _ ⟨Y, 1, none⟩ _), (h.bl.setCell h.hY _).setCell h.hY _⟩
structure FPq (w5 : World) (R Y : Nat) (vm v0 v1 vp : Value) (L : Nat → Bool) (w : World) (u3 u4 u17 u18 u19 u20 u21 : Value) : Prop where
  gr : L 5 = false → Gr R w5 w
  rd0 : L 5 = false → L 4 = false → Rdr w R 4030
  b0 : L 0 = true → u17 = vm
  b1 : L 1 = true → u18 = vp
  b2 : L 2 = true → u19 = .pointer (some ⟨R, 0, none⟩)
  b3 : L 3 = true → u20 = vm
  b4 : L 4 = true → ∃ V kc cc, u21 = .slice V kc cc ∧ kc ≤ 11 ∧ (L 5 = false → TI w w5.heap.size w.heap.size (.slice V kc cc) kc)
  fin : L 5 = true → ∃ w'', Gr R w5 w'' ∧ w = (w''.setCell ⟨Y, 0, none⟩ v0).setCell ⟨Y, 1, none⟩ v1 ∧ ∃ V kc cc, u21 = .slice V kc cc ∧ kc ≤ 11 ∧ TI w'' w5.heap.size w''.heap.size (.slice V kc cc) kc
  b6 : L 6 = true → u3 = u18
  b7 : L 7 = true → u4 = u21

set_option linter.unusedVariables false in
set_option linter.unusedSimpArgs false in
set_option maxRecDepth 100000 in
set_option maxHeartbeats 6400000 in
theorem drawPerm_any (A : Option Addr) (n0 cap0 : Nat) (y : Nat → Int) (w : World) (hm : n0 ≤ maxLen) (hcap : n0 ≤ cap0) (hr : RdY w w.heap.size A n0 y) :
    Calls Try.prog 21 #[.slice A n0 cap0] w fun e w' => ∃ As cs Ar cr sn n Ap cp Ac kc cc, e = .returned (.tuple #[.agg #[.slice As sn cs, .slice Ar n cr], .slice Ap sn cp, .slice Ac kc cc]) ∧ MT w w' As Ar sn cs n cr ∧ TI w' w.heap.size w'.heap.size (.slice Ap sn cp) sn ∧ kc ≤ 11 ∧ TI w' w.heap.size w'.heap.size (.slice Ac kc cc) kc := by
  have HY0 := Lib.hid (bl_alloc (Below.refl w.heap.size w) (.cells #[.slice none 0 0, .slice none 0 0] 30))
  have y0 : Cel (w.alloc (.cells #[.slice none 0 0, .slice none 0 0] 30)) w.heap.size 0 (.slice none 0 0) := ⟨by go_simp, by go_simp⟩
  have y1 : Cel (w.alloc (.cells #[.slice none 0 0, .slice none 0 0] 30)) w.heap.size 1 (.slice none 0 0) := ⟨by go_simp, by go_simp⟩
  have hz0 : (w.alloc (.cells #[.slice none 0 0, .slice none 0 0] 30)).heap.size = w.heap.size + 1 := by simp
  have Y0 := Lib.hid y0
  have Y1 := Lib.hid y1
  clear y0 y1
  go_enter Try.func21, Try.ntmps21
  go_wp2_with fail
  refine (open_any _ _ _ y _ hm hcap (hr.later HY0.out)).mono ?_
  rintro e w1 ⟨rfl, hb, hrd, hz1⟩
  have hb1 := bl_trans HY0.out hb
  have Y0a := Lib.hid (Y0.out.below hb)
  have Y1a := Lib.hid (Y1.out.below hb)
  rw [hz0] at hrd hz1
  have HB1 := Lib.hid hb1
  have RD1 := Lib.hid hrd
  clear hb hb1 hrd hr Y0 Y1
  go_wp2_with fail
  refine (l10Model_any (w.heap.size + 1) 0 _ (by omega) RD1.out).mono ?_
  rintro e w2 ⟨Aa, ca, Ab, cb, sa, na, rfl, hsa, hna, hti, her, hg, hrd⟩
  have Y0b := Lib.hid (hg.cel Y0a.out (by omega))
  have Y1b := Lib.hid (hg.cel Y1a.out (by omega))
  have HB2 := Lib.hid (gr_bel8 HB1.out hg (by omega))
  have TI2 := Lib.hid hti
  have ER2 := Lib.hid her
  have RD2 := Lib.hid hrd
  have hz2 : w.heap.size + 1 < w2.heap.size := Nat.lt_of_lt_of_le hz1 hg.size
  clear hti her hg hrd Y0a Y1a HB1 RD1
  go_wp2_with fail
  refine (mutate_any (w.heap.size + 1) (0 + 4000) _ _ _ _ _ _ _ _ _ (by omega) hsa hna TI2.out (ER2.out) RD2.out).mono ?_
  rintro e w3 ⟨As, cs, Ar, cr, sn, n, rfl, hsn, hn, hti, her, hg, hrd⟩
  have hz3 : w.heap.size + 1 < w3.heap.size := Nat.lt_of_lt_of_le hz2 hg.size
  have Y0c := hg.cel Y0b.out (by omega)
  have Y1c := hg.cel Y1b.out (by omega)
  have hb3 := gr_bel8 HB2.out hg (by omega)
  have hal := bl_alloc (Below.refl w3.heap.size w3) (.cells #[.slice As sn cs, .slice Ar n cr] 30)
  have DX4 : Hid (DX w (w3.alloc (.cells #[.slice As sn cs, .slice Ar n cr] 30)) (w.heap.size + 1) 4010 w3.heap.size w.heap.size (.slice As sn cs) (.slice Ar n cr)) := Lib.hid ⟨by omega, by omega, by omega, by omega, by omega, by omega, ⟨_, Y0c.below hal⟩, ⟨_, Y1c.below hal⟩, ⟨by go_simp, by go_simp⟩, ⟨by go_simp, by go_simp⟩, bl_trans hb3 hal, hrd.bel hal⟩
  have TI4 := Lib.hid (hti.kept (gb_of hal) oth_none)
  have ER4 := Lib.hid (her.kept (gb_of hal) oth_none)
  have hz4 : (w3.alloc (.cells #[.slice As sn cs, .slice Ar n cr] 30)).heap.size = w3.heap.size + 1 := by simp
  clear hti her hg hrd hb3 hal Y0b Y1b Y0c Y1c HB2 TI2 ER2 RD2 hz0 HY0
  have hz23 : w.heap.size + 1 < w2.heap.size := hz2
  go_upto_region 3 with fail
  generalize (w3.alloc (.cells #[.slice As sn cs, .slice Ar n cr] 30)) = w4 at *
  obtain ⟨X, hX⟩ : ∃ X, w3.heap.size = X := ⟨_, rfl⟩
  rw [hX] at DX4 TI4 ER4 hz4 ⊢
  have hR2 : w.heap.size + 1 < w2.heap.size := by omega
  have hX4 : X ≤ w4.heap.size := by omega
  have hR4 : w.heap.size + 1 < w4.heap.size := by omega
  obtain ⟨x0a, x0b⟩ := DX4.out.x0
  obtain ⟨x1a, x1b⟩ := DX4.out.x1
  go_wp2_with fail
  refine (l10Perm_any (w.heap.size + 1) 4010 As Ar sn cs n cr w4 (by omega) (by omega) DX4.out.rd).mono ?_
  rintro e w5 ⟨Ap, cp, rfl, htp, hg, hr⟩
  have DX5 := Lib.hid (DX4.out.ask hg hr)
  have TI5 := Lib.hid (TI4.out.kept hg (oth_some (.inl hR2)))
  have ER5 := Lib.hid (ER4.out.kept hg (oth_some (.inl hR2)))
  have TP5 := Lib.hid htp
  have hz5 := hg.size
  clear hg hr htp DX4 TI4 ER4 x0a x0b x1a x1b
  go_upto_region 4 with fail
  have hXR := DX5.out.hXR
  have hYR := DX5.out.hYR
  refine region_steps2 (J := fun _ L a' w' => ∃ u3 u4 u17 u18 u19 u20 u21 : Value, a' = ⟨#[.slice A n0 cap0, undef, .pointer (some ⟨w.heap.size, 0, none⟩), u3, u4, .pointer (some ⟨w.heap.size + 1, 0, none⟩), .pointer (some ⟨X, 0, none⟩), .slice Ap sn cp, .slice A n0 cap0, .pointer (some ⟨w.heap.size + 1, 0, none⟩), .pointer (some ⟨w.heap.size + 1, 0, none⟩), .pointer (some ⟨w.heap.size + 1, 0, none⟩), .agg #[.slice Aa sa ca, .slice Ab na cb], .agg #[.slice As sn cs, .slice Ar n cr], .pointer (some ⟨w.heap.size + 1, 0, none⟩), .agg #[.slice As sn cs, .slice Ar n cr], .slice Ap sn cp, u17, u18, u19, u20, u21], []⟩ ∧ FPq w5 (w.heap.size + 1) (w.heap.size) (.agg #[.slice As sn cs, .slice Ar n cr]) (.slice As sn cs) (.slice Ar n cr) (.slice Ap sn cp) L w' u3 u4 u17 u18 u19 u20 u21) [[], [], [], [], [2, 3], [0, 4], [1, 5], [4, 6]] (by kernel_rfl) (by kernel_rfl) ?_ ⟨?_, ?_, ?_, ?_, ?_, ?_, ?_, ?_, trivial⟩ ?_
  · intro L hL
    exact ⟨_, _, _, _, _, _, _, rfl, ⟨fun _ => Gr.of (Below.refl w5.heap.size w5).drew, fun _ _ => DX5.out.rd.bel (Below.refl w5.heap.size w5).drew, fun h => tf h (hL 0 (by decide)), fun h => tf h (hL 1 (by decide)), fun h => tf h (hL 2 (by decide)), fun h => tf h (hL 3 (by decide)), fun h => tf h (hL 4 (by decide)), fun h => tf h (hL 5 (by decide)), fun h => tf h (hL 6 (by decide)), fun h => tf h (hL 7 (by decide))⟩⟩
  · intro L hL hd hc a w6 hI K' hK'
    obtain ⟨u3, u4, u17, u18, u19, u20, u21, rfl, hF⟩ := hI
    have h5 : L 5 = false := by
      cases h : L 5 with
      | false => rfl
      | true => exact tf (hc 5 0 (by simp) h) hL
    have hgr := hF.gr h5
    have z0 := (hgr.cel DX5.out.x0 hXR).1
    have z1 := (hgr.cel DX5.out.x1 hXR).1
    go_simp
    refine hK' _ _ ⟨_, _, _, _, _, _, _, rfl, ⟨hF.gr, hF.rd0, fun _ => rfl, hF.b1, hF.b2, hF.b3, hF.b4, fun h => tf h h5, hF.b6, hF.b7⟩⟩
  · intro L hL hd hc a w6 hI K' hK'
    obtain ⟨u3, u4, u17, u18, u19, u20, u21, rfl, hF⟩ := hI
    go_simp
    refine hK' _ _ ⟨_, _, _, _, _, _, _, rfl, ⟨hF.gr, hF.rd0, hF.b0, fun _ => rfl, hF.b2, hF.b3, hF.b4, hF.fin, fun h => tf (hc 6 1 (by simp) h) hL, hF.b7⟩⟩
  · intro L hL hd hc a w6 hI K' hK'
    obtain ⟨u3, u4, u17, u18, u19, u20, u21, rfl, hF⟩ := hI
    go_simp
    refine hK' _ _ ⟨_, _, _, _, _, _, _, rfl, ⟨hF.gr, hF.rd0, hF.b0, hF.b1, fun _ => rfl, hF.b3, hF.b4, hF.fin, hF.b6, hF.b7⟩⟩
  · intro L hL hd hc a w6 hI K' hK'
    obtain ⟨u3, u4, u17, u18, u19, u20, u21, rfl, hF⟩ := hI
    have h5 : L 5 = false := by
      cases h : L 5 with
      | false => rfl
      | true => exact tf (hc 4 3 (by simp) (hc 5 4 (by simp) h)) hL
    have hgr := hF.gr h5
    have z0 := (hgr.cel DX5.out.x0 hXR).1
    have z1 := (hgr.cel DX5.out.x1 hXR).1
    go_simp
    refine hK' _ _ ⟨_, _, _, _, _, _, _, rfl, ⟨hF.gr, hF.rd0, hF.b0, hF.b1, hF.b2, fun _ => rfl, hF.b4, fun h => tf h h5, hF.b6, hF.b7⟩⟩
  · intro L hL hd hc a w6 hI K' hK'
    obtain ⟨u3, u4, u17, u18, u19, u20, u21, rfl, hF⟩ := hI
    have h5 : L 5 = false := by
      cases h : L 5 with
      | false => rfl
      | true => exact tf (hc 5 4 (by simp) h) hL
    have hgr := hF.gr h5
    have hsz := hgr.size
    have hrd := hF.rd0 h5 hL
    obtain rfl := hF.b2 (hd 2 (by simp))
    obtain rfl := hF.b3 (hd 3 (by simp))
    go_simp; go_at_call 54
    refine (dcells_any (w.heap.size + 1) 4030 _ _ _ _ _ _ w2.heap.size X _ (by omega) hsn (TI5.out.kept hgr (oth_some (.inl hR2))) hrd hR2 (by omega)).mono ?_
    rintro e w7 ⟨V, kc, rfl, hkc, hts, hg, hr⟩
    obtain ⟨Ac, cc, rfl⟩ := ts_head hts
    go_simp
    refine hK' _ _ ⟨_, _, _, _, _, _, _, rfl, ⟨fun _ => hgr.trans hg, fun _ h => tf (show true = true from rfl) h, hF.b0, hF.b1, hF.b2, hF.b3, fun _ => ⟨_, _, _, rfl, hkc, fun _ => (hts.ti (Nat.le_refl _)).more (by omega) (Nat.le_refl _)⟩, fun h => tf h h5, hF.b6, fun h => tf (hc 7 4 (by simp) h) hL⟩⟩
  · intro L hL hd hc a w6 hI K' hK'
    obtain ⟨u3, u4, u17, u18, u19, u20, u21, rfl, hF⟩ := hI
    have hgr := hF.gr hL
    obtain rfl := hF.b0 (hd 0 (by simp))
    obtain ⟨V4, kc4, cc4, rfl, hk4, ht4⟩ := hF.b4 (hd 4 (by simp))
    obtain ⟨yv0, yq0⟩ := DX5.out.y0
    obtain ⟨yv1, yq1⟩ := DX5.out.y1
    obtain ⟨ya, yb⟩ := hgr.cel yq0 hYR
    obtain ⟨yc, yd⟩ := hgr.cel yq1 hYR
    go_simp
    refine hK' _ _ ⟨_, _, _, _, _, _, _, rfl, ⟨fun h => tf (show true = true from rfl) h, fun h _ => tf (show true = true from rfl) h, hF.b0, hF.b1, hF.b2, hF.b3, fun _ => ⟨_, _, _, rfl, hk4, fun h => tf (show true = true from rfl) h⟩, fun _ => ⟨w6, hgr, rfl, _, _, _, rfl, hk4, ht4 hL⟩, hF.b6, hF.b7⟩⟩
  · intro L hL hd hc a w6 hI K' hK'
    obtain ⟨u3, u4, u17, u18, u19, u20, u21, rfl, hF⟩ := hI
    go_simp
    refine hK' _ _ ⟨_, _, _, _, _, _, _, rfl, ⟨hF.gr, hF.rd0, hF.b0, hF.b1, hF.b2, hF.b3, hF.b4, hF.fin, fun _ => rfl, hF.b7⟩⟩
  · intro L hL hd hc a w6 hI K' hK'
    obtain ⟨u3, u4, u17, u18, u19, u20, u21, rfl, hF⟩ := hI
    go_simp
    refine hK' _ _ ⟨_, _, _, _, _, _, _, rfl, ⟨hF.gr, hF.rd0, hF.b0, hF.b1, hF.b2, hF.b3, hF.b4, hF.fin, hF.b6, fun _ => rfl⟩⟩
  · intro L hL a' w6 hI
    obtain ⟨u3, u4, u17, u18, u19, u20, u21, rfl, hF⟩ := hI
    obtain ⟨w7, hgr, rfl, V, kc, cc, rfl, hkc, htc⟩ := hF.fin (hL 5)
    obtain rfl := hF.b7 (hL 7)
    obtain rfl := hF.b6 (hL 6)
    obtain rfl := hF.b1 (hL 1)
    clear hF hL
    have DX6 := Lib.hid (DX5.out.grq hgr)
    have TI6 := Lib.hid (TI5.out.kept hgr (oth_some (.inl hR2)))
    have ER6 := Lib.hid (ER5.out.kept hgr (oth_some (.inl hR2)))
    have TP6 := Lib.hid (TP5.out.kept hgr (oth_some (.inl hR4)))
    have TC6 := Lib.hid htc
    have hz6 := hgr.size
    obtain ⟨f1, f2⟩ := DX6.out.fin' (.slice As sn cs) (.slice Ar n cr)
    have f3 := f1.size
    obtain ⟨yv0, yq0⟩ := DX6.out.y0
    obtain ⟨yv1, yq1⟩ := DX6.out.y1
    have g0 := (Cel.put (u := .slice As sn cs) yq0).set (u := .slice Ar n cr) (O' := w.heap.size) (o' := 1) (.inr (by omega))
    have g1 := Cel.put (u := .slice Ar n cr) (yq1.set (u := .slice As sn cs) (O' := w.heap.size) (o' := 0) (.inr (by omega)))
    obtain ⟨g0, -⟩ := g0
    obtain ⟨g1, -⟩ := g1
    go_wp2
    refine bodyPost_ret (v := .tuple #[.agg #[.slice As sn cs, .slice Ar n cr], .slice Ap sn cp, .slice V kc cc]) (by simp [results, Try.results21, go_sem, g0, g1]) rfl ?_
    have h := MT.mk' (w0 := w) TI6.out ER6.out hsn hn f1 (by omega) (by omega) f2 (by omega) (by omega) (by omega) (by omega)
    exact ⟨As, cs, Ar, cr, sn, n, Ap, cp, V, kc, cc, rfl, h, (TP6.out.kept f1 (oth_some (.inl (by omega)))).more (by omega) (by omega), hkc, (TC6.out.kept f1 (oth_some (.inl (by omega)))).more (by omega) f3⟩
end Go.Proofs.Ytafiikfaeomhpaa

namespace Go.Proofs.Ytafiikfaeomhpaa
open Go.ChangeShapes Go.WideShapes Go.ChangeAt Go.RowKit

theorem cels_at8 {s c : Lst} (h : celsB s c = true) : c.n = s.n ∧ ∀ i, i < s.n → 0 ≤ c.x i ∧ c.x i ≤ s.x i := by
  unfold celsB at h
  rw [Bool.and_eq_true, beq_iff_eq, prE_iff] at h
  refine ⟨h.1, fun i hi => ?_⟩
  have := h.2 i hi
  simp [betB] at this
  exact this
theorem pc_all {s p c : Lst} {n : Nat} {q : Nat → Rul} (h : pcB s n q p c = true) : pmB s n q p = true ∧ p.n = s.n ∧ c.n = s.n ∧ 1 ≤ s.n ∧ s.n ≤ 5 ∧ (∀ i, i < s.n → 0 ≤ p.x i ∧ p.x i < s.n) ∧ pcB s n q ⟨s.n, bkF s.n p.x⟩ ⟨s.n, mvF p.x c.x s.n⟩ = true ∧ (∀ i, i < s.n → mvF (bkF s.n p.x) (mvF p.x c.x s.n) s.n i = c.x i) ∧ cvB s n q ⟨s.n, mvF p.x c.x s.n⟩ = true := by
  unfold pcB at h
  rw [Bool.and_eq_true] at h
  have ok := pm_ok h.1
  obtain ⟨hcn, hcb⟩ := cels_at8 h.2
  have hce : celsB s ⟨s.n, mvF p.x c.x s.n⟩ = true := by
    unfold celsB
    rw [Bool.and_eq_true, beq_iff_eq, prE_iff]
    refine ⟨rfl, fun i hi => ?_⟩
    have := mvF_bd ok.pm ok.keep hcb hi
    simp [betB]
    exact this
  refine ⟨h.1, ok.len, hcn, ok.one, ok.five, ok.pm.lt, ?_, fun i hi => bkF_mv ok.one ok.pm hi, ?_⟩
  · unfold pcB pmB
    rw [ok.mod, bkF_pm ok.one ok.pm, bkF_kp ok.pm ok.keep, hce]
    simp
  · unfold cvB
    rw [ok.mod, hce]
    rfl
set_option linter.unusedSimpArgs false in
set_option linter.unusedVariables false in
set_option maxRecDepth 100000 in
set_option maxHeartbeats 6400000 in
theorem lawFnPermuteCells_ok (A0 : Option Addr) (n0 cap0 : Nat) (y0 : Nat → Int) (w : World) (h0 : n0 ≤ 1048576) (hc0 : n0 ≤ cap0) (hr0 : RdY w w.heap.size A0 n0 y0) :
    Calls Try.prog 5 #[.slice A0 n0 cap0] w fun e w' => e = .returned (.bool true) ∧ Below w.heap.size w w' := by
  have hm0 : n0 ≤ maxLen := by unfold maxLen; omega
  have hi0 : ¬ (1048576 : Int) < (n0 : Int) := by omega
  go_enter Try.func5, Try.ntmps5
  go_wp2_with fail
  refine (drawPerm_any _ _ _ y0 _ hm0 hc0 hr0).mono ?_
  rintro e w1 ⟨As, cs, Ar, cr, sn, n, Ap, cp, Ac, kc, cc, rfl, hmt, htp, hkc, htc⟩
  have hsn := hmt.hs
  obtain ⟨s, q, rfl, hm⟩ := hmt.rd
  obtain ⟨A', c', v, e, hv⟩ := htc.rd
  cases e
  obtain ⟨A', c', v2, e, hv2⟩ := htp.rd
  cases e
  obtain ⟨c, rfl, hc⟩ : ∃ c : Lst, c.n = kc ∧ RdI w1 w1.heap.size Ac c.n c.x := ⟨⟨kc, v⟩, rfl, hv⟩
  obtain ⟨pf, hp⟩ : ∃ pf, RdI w1 w1.heap.size Ap s.n pf := ⟨v2, hv2⟩
  have p1 : s.n ≤ 1048576 := by omega
  have p5 : c.n ≤ 1048576 := by omega
  have p3 : n ≤ 1048576 := by have := hm.hn; omega
  have p4 := Lib.hid (fun i hi => Rul.fit_more (hm.fit i hi) (show 22 ≤ 1048576 by omega))
  have HB := Lib.hid hm.bl
  have HM := Lib.hid hm
  have HC := Lib.hid hc
  have HP := Lib.hid hp
  clear hmt htc htp hm hc hp hv hv2 hsn hkc
  go_wp2_with fail
  have hal := bl_alloc (Below.refl w1.heap.size w1) (.cells #[.slice As s.n cs, .slice Ar n cr] 30)
  have x0 : (w1.alloc (.cells #[.slice As s.n cs, .slice Ar n cr] 30)).cell? ⟨w1.heap.size, 0, none⟩ = some (.slice As s.n cs) := by go_simp
  have x1 : (w1.alloc (.cells #[.slice As s.n cs, .slice Ar n cr] 30)).cell? ⟨w1.heap.size, 1, none⟩ = some (.slice Ar n cr) := by go_simp
  have HB' := Lib.hid (bl_trans HB.out hal)
  have HM' := Lib.hid (HM.out.later hal)
  have HC' := Lib.hid (HC.out.later hal)
  have HP' := Lib.hid (HP.out.later hal)
  clear hal HB HM HC HP
  have HB := HB'
  clear HB'
  have HM := HM'
  clear HM'
  have HC := HC'
  clear HC'
  have HP := HP'
  clear HP'
  generalize (w1.alloc (.cells #[.slice As s.n cs, .slice Ar n cr] 30)) = w2 at *
  obtain ⟨X, hX⟩ : ∃ X, w1.heap.size = X := ⟨_, rfl⟩
  rw [hX] at x0 x1 ⊢
  clear hX
  refine (implPC_any s ⟨s.n, pf⟩ c n q As Ar Ap Ac cs cr cp cc _ p1 p1 p5 p3 p4.out HM.out.rs HM.out.rr HP.out HC.out).mono ?_
  have hNl := pcN_le (s := s) (n := n) (q := q) (p := ⟨s.n, pf⟩) (c := c) p5
  have hall := fun h => pc_all (s := s) (n := n) (q := q) (p := ⟨s.n, pf⟩) (c := c) h
  have hdn : pcB s n q ⟨s.n, pf⟩ c = true → pcN s n q ⟨s.n, pf⟩ c = c.n := fun h => by unfold pcN; rw [h]; rfl
  obtain ⟨N, hN⟩ : ∃ N, pcN s n q ⟨s.n, pf⟩ c = N := ⟨_, rfl⟩
  obtain ⟨b, hb⟩ : ∃ b, pcB s n q ⟨s.n, pf⟩ c = b := ⟨_, rfl⟩
  obtain ⟨P, hP⟩ : ∃ P, pmB s n q ⟨s.n, pf⟩ = P := ⟨_, rfl⟩
  have HN := Lib.hid hN
  have HBv := Lib.hid hb
  have HPv := Lib.hid hP
  rw [hN, hb] at hdn ⊢
  rw [hb, hP] at hall
  rw [hN] at hNl
  have HALL := Lib.hid hall
  have HDN := Lib.hid hdn
  clear hN hb hP hall hdn
  rintro e w3 ⟨Ax, cx, rfl, hfx, hb⟩
  have HX := Lib.hid hfx.rdAt
  clear hfx
  have HB' := Lib.hid (bl_trans HB.out hb)
  have HM' := Lib.hid (HM.out.later hb)
  have HC' := Lib.hid (HC.out.later hb)
  have HP' := Lib.hid (HP.out.later hb)
  replace x0 := kc hb x0
  replace x1 := kc hb x1
  clear hb HB HM HC HP
  have HB := HB'
  clear HB'
  have HM := HM'
  clear HM'
  have HC := HC'
  clear HC'
  have HP := HP'
  clear HP'
  go_wp2_with fail
  refine (specPC_any s ⟨s.n, pf⟩ c n q As Ar Ap Ac cs cr cp cc _ p1 p1 p5 p3 p4.out HM.out.rs HM.out.rr HP.out HC.out).mono ?_
  rw [HN.out, HBv.out]
  rintro e w4 ⟨Aw, cw, rfl, hfw, hb⟩
  have HW := Lib.hid hfw.rdAt
  clear hfw
  have HB' := Lib.hid (bl_trans HB.out hb)
  have HM' := Lib.hid (HM.out.later hb)
  have HC' := Lib.hid (HC.out.later hb)
  have HP' := Lib.hid (HP.out.later hb)
  have HX' := Lib.hid (HX.out.later hb)
  replace x0 := kc hb x0
  replace x1 := kc hb x1
  clear hb HB HM HC HP HX
  have HB := HB'
  clear HB'
  have HM := HM'
  clear HM'
  have HC := HC'
  clear HC'
  have HP := HP'
  clear HP'
  have HX := HX'
  clear HX'
  go_upto_region 6 with fail
  cases b with
  | false =>
    clear HALL HDN
    cases P with
    | false =>
      refine region_class (C := Cls w4) (by kernel_rfl) (by kernel_rfl) (Below.refl w4.heap.size w4).drew ?_
      refine BigFrame.wpQuiet_want (by rfl) (fun K hK => quiet_val (v := .bool false) (fun w' hw => ?_) (hK _ ?_))
      · clear x0 x1 hK K
        go_simp
      clear hK K
      simp only [Act.put, List.setIfInBounds_toArray, List.set_cons_succ, List.set_cons_zero]
      refine BigFrame.wpQuiet_want (by rfl) (fun K hK => quiet_val (v := .bool false) (fun w' hw => ?_) (hK _ ?_))
      · clear x0 x1 hK K
        go_simp
      clear hK K
      simp only [Act.put, List.setIfInBounds_toArray, List.set_cons_succ, List.set_cons_zero]
      refine BigFrame.wpQuiet_want (by rfl) (fun K hK => quiet_val (v := .bool false) (fun w' hw => ?_) (hK _ ?_))
      · clear x0 x1 hK K
        go_simp
      clear hK K
      simp only [Act.put, List.setIfInBounds_toArray, List.set_cons_succ, List.set_cons_zero]
      refine BigFrame.wpQuiet_want (by rfl) (fun K hK => quiet_val (v := .bool false) (fun w' hw => ?_) (hK _ ?_))
      · clear x0 x1 hK K
        go_simp
      clear hK K
      simp only [Act.put, List.setIfInBounds_toArray, List.set_cons_succ, List.set_cons_zero]
      refine BigFrame.wpQuiet_want (by rfl) (fun K hK => quiet_val (v := .slice Ax N cx) (fun w' hw => ?_) (hK _ ?_))
      · clear x0 x1 hK K
        go_simp
      clear hK K
      simp only [Act.put, List.setIfInBounds_toArray, List.set_cons_succ, List.set_cons_zero]
      refine BigFrame.wpQuiet_want (by rfl) (fun K hK => quiet_val (v := .slice Aw N cw) (fun w' hw => ?_) (hK _ ?_))
      · clear x0 x1 hK K
        go_simp
      clear hK K
      simp only [Act.put, List.setIfInBounds_toArray, List.set_cons_succ, List.set_cons_zero]
      refine BigFrame.wpQuiet_want (by rfl) (fun K hK => quiet_enter (v := .bool true) (f := 22) (args := #[.slice Ax N cx, .slice Aw N cw]) (fun w' hw => ?_) (fun w' hw => ?_) (hK _ ?_))
      · go_simp
      · refine (cpInts_refl Ax Aw N cx cw (mvF pf c.x c.n) _ hNl (HX.out.later hw) (HW.out.later hw)).mono ?_
        rintro e w8 ⟨rfl, hb⟩
        exact ⟨rfl, bl_trans hw hb⟩
      clear hK K
      simp only [Act.put, List.setIfInBounds_toArray, List.set_cons_succ, List.set_cons_zero]
      refine BigFrame.wpQuiet_want (by rfl) (fun K hK => quiet_val (v := .bool false) (fun w' hw => ?_) (hK _ ?_))
      · clear x0 x1 hK K
        go_simp
      clear hK K
      simp only [Act.put, List.setIfInBounds_toArray, List.set_cons_succ, List.set_cons_zero]
      refine BigFrame.wpQuiet_want (by rfl) (fun K hK => quiet_val (v := .bool false) (fun w' hw => ?_) (hK _ ?_))
      · clear x0 x1 hK K
        go_simp
      clear hK K
      simp only [Act.put, List.setIfInBounds_toArray, List.set_cons_succ, List.set_cons_zero]
      refine BigFrame.wpQuiet_want (by rfl) (fun K hK => quiet_val (v := .bool false) (fun w' hw => ?_) (hK _ ?_))
      · clear x0 x1 hK K
        go_simp
      clear hK K
      simp only [Act.put, List.setIfInBounds_toArray, List.set_cons_succ, List.set_cons_zero]
      refine BigFrame.wpQuiet_want (by rfl) (fun K hK => quiet_val (v := .agg #[.slice As s.n cs, .slice Ar n cr]) (fun w' hw => ?_) (hK _ ?_))
      · have e0 := kc hw x0; have e1 := kc hw x1; clear x0 x1 hK K
        go_simp
      clear hK K
      simp only [Act.put, List.setIfInBounds_toArray, List.set_cons_succ, List.set_cons_zero]
      refine BigFrame.wpQuiet_want (by rfl) (fun K hK => quiet_val (v := .slice Ap s.n cp) (fun w' hw => ?_) (hK _ ?_))
      · clear x0 x1 hK K
        go_simp
      clear hK K
      simp only [Act.put, List.setIfInBounds_toArray, List.set_cons_succ, List.set_cons_zero]
      refine BigFrame.wpQuiet_want (by rfl) (fun K hK => quiet_enter (v := .bool false) (f := 13) (args := #[.agg #[.slice As s.n cs, .slice Ar n cr], .slice Ap s.n cp]) (fun w' hw => ?_) (fun w' hw => ?_) (hK _ ?_))
      · go_simp
      · refine (implPV_any s ⟨s.n, pf⟩ n q As Ar Ap cs cr cp _ p1 p1 p3 p4.out (HM.out.later hw).rs (HM.out.later hw).rr (HP.out.later hw)).mono ?_
        rintro e w8 ⟨rfl, hb⟩
        exact ⟨by rw [HPv.out], bl_trans hw hb⟩
      clear hK K
      simp only [Act.put, List.setIfInBounds_toArray, List.set_cons_succ, List.set_cons_zero]
      refine BigFrame.wpQuiet_want (by rfl) (fun K hK => quiet_val (v := .agg #[.slice As s.n cs, .slice Ar n cr]) (fun w' hw => ?_) (hK _ ?_))
      · have e0 := kc hw x0; have e1 := kc hw x1; clear x0 x1 hK K
        go_simp
      clear hK K
      simp only [Act.put, List.setIfInBounds_toArray, List.set_cons_succ, List.set_cons_zero]
      refine BigFrame.wpQuiet_want (by rfl) (fun K hK => quiet_val (v := .slice Ap s.n cp) (fun w' hw => ?_) (hK _ ?_))
      · clear x0 x1 hK K
        go_simp
      clear hK K
      simp only [Act.put, List.setIfInBounds_toArray, List.set_cons_succ, List.set_cons_zero]
      refine BigFrame.wpQuiet_want (by rfl) (fun K hK => quiet_enter (v := .bool false) (f := 10) (args := #[.agg #[.slice As s.n cs, .slice Ar n cr], .slice Ap s.n cp]) (fun w' hw => ?_) (fun w' hw => ?_) (hK _ ?_))
      · go_simp
      · refine (specPV_any s ⟨s.n, pf⟩ n q As Ar Ap cs cr cp _ p1 p1 p3 p4.out (HM.out.later hw).rs (HM.out.later hw).rr (HP.out.later hw)).mono ?_
        rintro e w8 ⟨rfl, hb⟩
        exact ⟨by rw [HPv.out], bl_trans hw hb⟩
      clear hK K
      simp only [Act.put, List.setIfInBounds_toArray, List.set_cons_succ, List.set_cons_zero]
      refine BigFrame.wpQuiet_want (by rfl) (fun K hK => quiet_val (v := .bool false) (fun w' hw => ?_) (hK _ ?_))
      · clear x0 x1 hK K
        go_simp
      clear hK K
      simp only [Act.put, List.setIfInBounds_toArray, List.set_cons_succ, List.set_cons_zero]
      refine BigFrame.wpQuiet_want (by rfl) (fun K hK => quiet_val (v := .bool false) (fun w' hw => ?_) (hK _ ?_))
      · clear x0 x1 hK K
        go_simp
      clear hK K
      simp only [Act.put, List.setIfInBounds_toArray, List.set_cons_succ, List.set_cons_zero]
      refine BigFrame.wpQuiet_want (by rfl) (fun K hK => quiet_val (v := .bool false) (fun w' hw => ?_) (hK _ ?_))
      · clear x0 x1 hK K
        go_simp
      clear hK K
      simp only [Act.put, List.setIfInBounds_toArray, List.set_cons_succ, List.set_cons_zero]
      refine BigFrame.wpQuiet_want (by rfl) (fun K hK => quiet_val (v := .bool false) (fun w' hw => ?_) (hK _ ?_))
      · clear x0 x1 hK K
        go_simp
      clear hK K
      simp only [Act.put, List.setIfInBounds_toArray, List.set_cons_succ, List.set_cons_zero]
      refine BigFrame.wpQuiet_want (by rfl) (fun K hK => quiet_val (v := .bool true) (fun w' hw => ?_) (hK _ ?_))
      · clear x0 x1 hK K
        go_simp
      clear hK K
      simp only [Act.put, List.setIfInBounds_toArray, List.set_cons_succ, List.set_cons_zero]
      refine BigFrame.wpQuiet_want (by rfl) (fun K hK => quiet_val (v := .bool true) (fun w' hw => ?_) (hK _ ?_))
      · clear x0 x1 hK K
        go_simp
      clear hK K
      simp only [Act.put, List.setIfInBounds_toArray, List.set_cons_succ, List.set_cons_zero]
      refine wpQuiet_nil ?_
      intro w5 hw9
      have HB' := Lib.hid (bl_trans HB.out hw9)
      have HM' := Lib.hid (HM.out.later hw9)
      have HC' := Lib.hid (HC.out.later hw9)
      have HP' := Lib.hid (HP.out.later hw9)
      have HX' := Lib.hid (HX.out.later hw9)
      have HW' := Lib.hid (HW.out.later hw9)
      replace x0 := kc hw9 x0
      replace x1 := kc hw9 x1
      clear hw9 HB HM HC HP HX HW
      have HB := HB'
      clear HB'
      have HM := HM'
      clear HM'
      have HC := HC'
      clear HC'
      have HP := HP'
      clear HP'
      have HX := HX'
      clear HX'
      have HW := HW'
      clear HW'
      go_upto_region 7 with fail
      refine region_class (C := Cls w5) (by kernel_rfl) (by kernel_rfl) (Below.refl w5.heap.size w5).drew ?_
      refine BigFrame.wpQuiet_want (by rfl) (fun K hK => quiet_val (v := .bool false) (fun w' hw => ?_) (hK _ ?_))
      · clear x0 x1 hK K
        go_simp
      clear hK K
      simp only [Act.put, List.setIfInBounds_toArray, List.set_cons_succ, List.set_cons_zero]
      refine BigFrame.wpQuiet_want (by rfl) (fun K hK => quiet_val (v := .bool false) (fun w' hw => ?_) (hK _ ?_))
      · clear x0 x1 hK K
        go_simp
      clear hK K
      simp only [Act.put, List.setIfInBounds_toArray, List.set_cons_succ, List.set_cons_zero]
      refine BigFrame.wpQuiet_want (by rfl) (fun K hK => quiet_val (v := .bool true) (fun w' hw => ?_) (hK _ ?_))
      · clear x0 x1 hK K
        go_simp
      clear hK K
      simp only [Act.put, List.setIfInBounds_toArray, List.set_cons_succ, List.set_cons_zero]
      refine BigFrame.wpQuiet_want (by rfl) (fun K hK => quiet_val (v := .bool true) (fun w' hw => ?_) (hK _ ?_))
      · clear x0 x1 hK K
        go_simp
      clear hK K
      simp only [Act.put, List.setIfInBounds_toArray, List.set_cons_succ, List.set_cons_zero]
      refine BigFrame.wpQuiet_want (by rfl) (fun K hK => quiet_val (v := .slice Ax N cx) (fun w' hw => ?_) (hK _ ?_))
      · clear x0 x1 hK K
        go_simp
      clear hK K
      simp only [Act.put, List.setIfInBounds_toArray, List.set_cons_succ, List.set_cons_zero]
      refine BigFrame.wpQuiet_want (by rfl) (fun K hK => quiet_val (v := .slice Aw N cw) (fun w' hw => ?_) (hK _ ?_))
      · clear x0 x1 hK K
        go_simp
      clear hK K
      simp only [Act.put, List.setIfInBounds_toArray, List.set_cons_succ, List.set_cons_zero]
      refine BigFrame.wpQuiet_want (by rfl) (fun K hK => quiet_enter (v := .bool true) (f := 22) (args := #[.slice Ax N cx, .slice Aw N cw]) (fun w' hw => ?_) (fun w' hw => ?_) (hK _ ?_))
      · go_simp
      · refine (cpInts_refl Ax Aw N cx cw (mvF pf c.x c.n) _ hNl (HX.out.later hw) (HW.out.later hw)).mono ?_
        rintro e w8 ⟨rfl, hb⟩
        exact ⟨rfl, bl_trans hw hb⟩
      clear hK K
      simp only [Act.put, List.setIfInBounds_toArray, List.set_cons_succ, List.set_cons_zero]
      refine BigFrame.wpQuiet_want (by rfl) (fun K hK => quiet_val (v := .bool true) (fun w' hw => ?_) (hK _ ?_))
      · clear x0 x1 hK K
        go_simp
      clear hK K
      simp only [Act.put, List.setIfInBounds_toArray, List.set_cons_succ, List.set_cons_zero]
      refine BigFrame.wpQuiet_want (by rfl) (fun K hK => quiet_val (v := .bool true) (fun w' hw => ?_) (hK _ ?_))
      · clear x0 x1 hK K
        go_simp
      clear hK K
      simp only [Act.put, List.setIfInBounds_toArray, List.set_cons_succ, List.set_cons_zero]
      refine BigFrame.wpQuiet_want (by rfl) (fun K hK => quiet_val (v := .agg #[.slice As s.n cs, .slice Ar n cr]) (fun w' hw => ?_) (hK _ ?_))
      · have e0 := kc hw x0; have e1 := kc hw x1; clear x0 x1 hK K
        go_simp
      clear hK K
      simp only [Act.put, List.setIfInBounds_toArray, List.set_cons_succ, List.set_cons_zero]
      refine BigFrame.wpQuiet_want (by rfl) (fun K hK => quiet_val (v := .slice Ap s.n cp) (fun w' hw => ?_) (hK _ ?_))
      · clear x0 x1 hK K
        go_simp
      clear hK K
      simp only [Act.put, List.setIfInBounds_toArray, List.set_cons_succ, List.set_cons_zero]
      refine BigFrame.wpQuiet_want (by rfl) (fun K hK => quiet_enter (v := .bool false) (f := 13) (args := #[.agg #[.slice As s.n cs, .slice Ar n cr], .slice Ap s.n cp]) (fun w' hw => ?_) (fun w' hw => ?_) (hK _ ?_))
      · go_simp
      · refine (implPV_any s ⟨s.n, pf⟩ n q As Ar Ap cs cr cp _ p1 p1 p3 p4.out (HM.out.later hw).rs (HM.out.later hw).rr (HP.out.later hw)).mono ?_
        rintro e w8 ⟨rfl, hb⟩
        exact ⟨by rw [HPv.out], bl_trans hw hb⟩
      clear hK K
      simp only [Act.put, List.setIfInBounds_toArray, List.set_cons_succ, List.set_cons_zero]
      refine BigFrame.wpQuiet_want (by rfl) (fun K hK => quiet_val (v := .agg #[.slice As s.n cs, .slice Ar n cr]) (fun w' hw => ?_) (hK _ ?_))
      · have e0 := kc hw x0; have e1 := kc hw x1; clear x0 x1 hK K
        go_simp
      clear hK K
      simp only [Act.put, List.setIfInBounds_toArray, List.set_cons_succ, List.set_cons_zero]
      refine BigFrame.wpQuiet_want (by rfl) (fun K hK => quiet_val (v := .slice Ap s.n cp) (fun w' hw => ?_) (hK _ ?_))
      · clear x0 x1 hK K
        go_simp
      clear hK K
      simp only [Act.put, List.setIfInBounds_toArray, List.set_cons_succ, List.set_cons_zero]
      refine BigFrame.wpQuiet_want (by rfl) (fun K hK => quiet_enter (v := .bool false) (f := 10) (args := #[.agg #[.slice As s.n cs, .slice Ar n cr], .slice Ap s.n cp]) (fun w' hw => ?_) (fun w' hw => ?_) (hK _ ?_))
      · go_simp
      · refine (specPV_any s ⟨s.n, pf⟩ n q As Ar Ap cs cr cp _ p1 p1 p3 p4.out (HM.out.later hw).rs (HM.out.later hw).rr (HP.out.later hw)).mono ?_
        rintro e w8 ⟨rfl, hb⟩
        exact ⟨by rw [HPv.out], bl_trans hw hb⟩
      clear hK K
      simp only [Act.put, List.setIfInBounds_toArray, List.set_cons_succ, List.set_cons_zero]
      refine BigFrame.wpQuiet_want (by rfl) (fun K hK => quiet_val (v := .bool true) (fun w' hw => ?_) (hK _ ?_))
      · clear x0 x1 hK K
        go_simp
      clear hK K
      simp only [Act.put, List.setIfInBounds_toArray, List.set_cons_succ, List.set_cons_zero]
      refine BigFrame.wpQuiet_want (by rfl) (fun K hK => quiet_val (v := .bool true) (fun w' hw => ?_) (hK _ ?_))
      · clear x0 x1 hK K
        go_simp
      clear hK K
      simp only [Act.put, List.setIfInBounds_toArray, List.set_cons_succ, List.set_cons_zero]
      refine BigFrame.wpQuiet_want (by rfl) (fun K hK => quiet_val (v := .bool true) (fun w' hw => ?_) (hK _ ?_))
      · clear x0 x1 hK K
        go_simp
      clear hK K
      simp only [Act.put, List.setIfInBounds_toArray, List.set_cons_succ, List.set_cons_zero]
      refine wpQuiet_nil ?_
      intro w6 hw9
      have HB6 := Lib.hid (bl_trans HB.out hw9)
      clear hw9 x0 x1
      go_wp2
      go_ret
      exact ⟨rfl, HB6.out⟩
    | true =>
      refine region_class (C := Cls w4) (by kernel_rfl) (by kernel_rfl) (Below.refl w4.heap.size w4).drew ?_
      refine BigFrame.wpQuiet_want (by rfl) (fun K hK => quiet_val (v := .bool false) (fun w' hw => ?_) (hK _ ?_))
      · clear x0 x1 hK K
        go_simp
      clear hK K
      simp only [Act.put, List.setIfInBounds_toArray, List.set_cons_succ, List.set_cons_zero]
      refine BigFrame.wpQuiet_want (by rfl) (fun K hK => quiet_val (v := .bool false) (fun w' hw => ?_) (hK _ ?_))
      · clear x0 x1 hK K
        go_simp
      clear hK K
      simp only [Act.put, List.setIfInBounds_toArray, List.set_cons_succ, List.set_cons_zero]
      refine BigFrame.wpQuiet_want (by rfl) (fun K hK => quiet_val (v := .bool false) (fun w' hw => ?_) (hK _ ?_))
      · clear x0 x1 hK K
        go_simp
      clear hK K
      simp only [Act.put, List.setIfInBounds_toArray, List.set_cons_succ, List.set_cons_zero]
      refine BigFrame.wpQuiet_want (by rfl) (fun K hK => quiet_val (v := .bool false) (fun w' hw => ?_) (hK _ ?_))
      · clear x0 x1 hK K
        go_simp
      clear hK K
      simp only [Act.put, List.setIfInBounds_toArray, List.set_cons_succ, List.set_cons_zero]
      refine BigFrame.wpQuiet_want (by rfl) (fun K hK => quiet_val (v := .slice Ax N cx) (fun w' hw => ?_) (hK _ ?_))
      · clear x0 x1 hK K
        go_simp
      clear hK K
      simp only [Act.put, List.setIfInBounds_toArray, List.set_cons_succ, List.set_cons_zero]
      refine BigFrame.wpQuiet_want (by rfl) (fun K hK => quiet_val (v := .slice Aw N cw) (fun w' hw => ?_) (hK _ ?_))
      · clear x0 x1 hK K
        go_simp
      clear hK K
      simp only [Act.put, List.setIfInBounds_toArray, List.set_cons_succ, List.set_cons_zero]
      refine BigFrame.wpQuiet_want (by rfl) (fun K hK => quiet_enter (v := .bool true) (f := 22) (args := #[.slice Ax N cx, .slice Aw N cw]) (fun w' hw => ?_) (fun w' hw => ?_) (hK _ ?_))
      · go_simp
      · refine (cpInts_refl Ax Aw N cx cw (mvF pf c.x c.n) _ hNl (HX.out.later hw) (HW.out.later hw)).mono ?_
        rintro e w8 ⟨rfl, hb⟩
        exact ⟨rfl, bl_trans hw hb⟩
      clear hK K
      simp only [Act.put, List.setIfInBounds_toArray, List.set_cons_succ, List.set_cons_zero]
      refine BigFrame.wpQuiet_want (by rfl) (fun K hK => quiet_val (v := .bool false) (fun w' hw => ?_) (hK _ ?_))
      · clear x0 x1 hK K
        go_simp
      clear hK K
      simp only [Act.put, List.setIfInBounds_toArray, List.set_cons_succ, List.set_cons_zero]
      refine BigFrame.wpQuiet_want (by rfl) (fun K hK => quiet_val (v := .bool false) (fun w' hw => ?_) (hK _ ?_))
      · clear x0 x1 hK K
        go_simp
      clear hK K
      simp only [Act.put, List.setIfInBounds_toArray, List.set_cons_succ, List.set_cons_zero]
      refine BigFrame.wpQuiet_want (by rfl) (fun K hK => quiet_val (v := .bool false) (fun w' hw => ?_) (hK _ ?_))
      · clear x0 x1 hK K
        go_simp
      clear hK K
      simp only [Act.put, List.setIfInBounds_toArray, List.set_cons_succ, List.set_cons_zero]
      refine BigFrame.wpQuiet_want (by rfl) (fun K hK => quiet_val (v := .agg #[.slice As s.n cs, .slice Ar n cr]) (fun w' hw => ?_) (hK _ ?_))
      · have e0 := kc hw x0; have e1 := kc hw x1; clear x0 x1 hK K
        go_simp
      clear hK K
      simp only [Act.put, List.setIfInBounds_toArray, List.set_cons_succ, List.set_cons_zero]
      refine BigFrame.wpQuiet_want (by rfl) (fun K hK => quiet_val (v := .slice Ap s.n cp) (fun w' hw => ?_) (hK _ ?_))
      · clear x0 x1 hK K
        go_simp
      clear hK K
      simp only [Act.put, List.setIfInBounds_toArray, List.set_cons_succ, List.set_cons_zero]
      refine BigFrame.wpQuiet_want (by rfl) (fun K hK => quiet_enter (v := .bool true) (f := 13) (args := #[.agg #[.slice As s.n cs, .slice Ar n cr], .slice Ap s.n cp]) (fun w' hw => ?_) (fun w' hw => ?_) (hK _ ?_))
      · go_simp
      · refine (implPV_any s ⟨s.n, pf⟩ n q As Ar Ap cs cr cp _ p1 p1 p3 p4.out (HM.out.later hw).rs (HM.out.later hw).rr (HP.out.later hw)).mono ?_
        rintro e w8 ⟨rfl, hb⟩
        exact ⟨by rw [HPv.out], bl_trans hw hb⟩
      clear hK K
      simp only [Act.put, List.setIfInBounds_toArray, List.set_cons_succ, List.set_cons_zero]
      refine BigFrame.wpQuiet_want (by rfl) (fun K hK => quiet_val (v := .agg #[.slice As s.n cs, .slice Ar n cr]) (fun w' hw => ?_) (hK _ ?_))
      · have e0 := kc hw x0; have e1 := kc hw x1; clear x0 x1 hK K
        go_simp
      clear hK K
      simp only [Act.put, List.setIfInBounds_toArray, List.set_cons_succ, List.set_cons_zero]
      refine BigFrame.wpQuiet_want (by rfl) (fun K hK => quiet_val (v := .slice Ap s.n cp) (fun w' hw => ?_) (hK _ ?_))
      · clear x0 x1 hK K
        go_simp
      clear hK K
      simp only [Act.put, List.setIfInBounds_toArray, List.set_cons_succ, List.set_cons_zero]
      refine BigFrame.wpQuiet_want (by rfl) (fun K hK => quiet_enter (v := .bool true) (f := 10) (args := #[.agg #[.slice As s.n cs, .slice Ar n cr], .slice Ap s.n cp]) (fun w' hw => ?_) (fun w' hw => ?_) (hK _ ?_))
      · go_simp
      · refine (specPV_any s ⟨s.n, pf⟩ n q As Ar Ap cs cr cp _ p1 p1 p3 p4.out (HM.out.later hw).rs (HM.out.later hw).rr (HP.out.later hw)).mono ?_
        rintro e w8 ⟨rfl, hb⟩
        exact ⟨by rw [HPv.out], bl_trans hw hb⟩
      clear hK K
      simp only [Act.put, List.setIfInBounds_toArray, List.set_cons_succ, List.set_cons_zero]
      refine BigFrame.wpQuiet_want (by rfl) (fun K hK => quiet_val (v := .bool false) (fun w' hw => ?_) (hK _ ?_))
      · clear x0 x1 hK K
        go_simp
      clear hK K
      simp only [Act.put, List.setIfInBounds_toArray, List.set_cons_succ, List.set_cons_zero]
      refine BigFrame.wpQuiet_want (by rfl) (fun K hK => quiet_val (v := .bool false) (fun w' hw => ?_) (hK _ ?_))
      · clear x0 x1 hK K
        go_simp
      clear hK K
      simp only [Act.put, List.setIfInBounds_toArray, List.set_cons_succ, List.set_cons_zero]
      refine BigFrame.wpQuiet_want (by rfl) (fun K hK => quiet_val (v := .bool false) (fun w' hw => ?_) (hK _ ?_))
      · clear x0 x1 hK K
        go_simp
      clear hK K
      simp only [Act.put, List.setIfInBounds_toArray, List.set_cons_succ, List.set_cons_zero]
      refine BigFrame.wpQuiet_want (by rfl) (fun K hK => quiet_val (v := .bool false) (fun w' hw => ?_) (hK _ ?_))
      · clear x0 x1 hK K
        go_simp
      clear hK K
      simp only [Act.put, List.setIfInBounds_toArray, List.set_cons_succ, List.set_cons_zero]
      refine BigFrame.wpQuiet_want (by rfl) (fun K hK => quiet_val (v := .bool true) (fun w' hw => ?_) (hK _ ?_))
      · clear x0 x1 hK K
        go_simp
      clear hK K
      simp only [Act.put, List.setIfInBounds_toArray, List.set_cons_succ, List.set_cons_zero]
      refine BigFrame.wpQuiet_want (by rfl) (fun K hK => quiet_val (v := .bool true) (fun w' hw => ?_) (hK _ ?_))
      · clear x0 x1 hK K
        go_simp
      clear hK K
      simp only [Act.put, List.setIfInBounds_toArray, List.set_cons_succ, List.set_cons_zero]
      refine wpQuiet_nil ?_
      intro w5 hw9
      have HB' := Lib.hid (bl_trans HB.out hw9)
      have HM' := Lib.hid (HM.out.later hw9)
      have HC' := Lib.hid (HC.out.later hw9)
      have HP' := Lib.hid (HP.out.later hw9)
      have HX' := Lib.hid (HX.out.later hw9)
      have HW' := Lib.hid (HW.out.later hw9)
      replace x0 := kc hw9 x0
      replace x1 := kc hw9 x1
      clear hw9 HB HM HC HP HX HW
      have HB := HB'
      clear HB'
      have HM := HM'
      clear HM'
      have HC := HC'
      clear HC'
      have HP := HP'
      clear HP'
      have HX := HX'
      clear HX'
      have HW := HW'
      clear HW'
      go_upto_region 7 with fail
      refine region_class (C := Cls w5) (by kernel_rfl) (by kernel_rfl) (Below.refl w5.heap.size w5).drew ?_
      refine BigFrame.wpQuiet_want (by rfl) (fun K hK => quiet_val (v := .bool false) (fun w' hw => ?_) (hK _ ?_))
      · clear x0 x1 hK K
        go_simp
      clear hK K
      simp only [Act.put, List.setIfInBounds_toArray, List.set_cons_succ, List.set_cons_zero]
      refine BigFrame.wpQuiet_want (by rfl) (fun K hK => quiet_val (v := .bool false) (fun w' hw => ?_) (hK _ ?_))
      · clear x0 x1 hK K
        go_simp
      clear hK K
      simp only [Act.put, List.setIfInBounds_toArray, List.set_cons_succ, List.set_cons_zero]
      refine BigFrame.wpQuiet_want (by rfl) (fun K hK => quiet_val (v := .bool true) (fun w' hw => ?_) (hK _ ?_))
      · clear x0 x1 hK K
        go_simp
      clear hK K
      simp only [Act.put, List.setIfInBounds_toArray, List.set_cons_succ, List.set_cons_zero]
      refine BigFrame.wpQuiet_want (by rfl) (fun K hK => quiet_val (v := .bool true) (fun w' hw => ?_) (hK _ ?_))
      · clear x0 x1 hK K
        go_simp
      clear hK K
      simp only [Act.put, List.setIfInBounds_toArray, List.set_cons_succ, List.set_cons_zero]
      refine BigFrame.wpQuiet_want (by rfl) (fun K hK => quiet_val (v := .slice Ax N cx) (fun w' hw => ?_) (hK _ ?_))
      · clear x0 x1 hK K
        go_simp
      clear hK K
      simp only [Act.put, List.setIfInBounds_toArray, List.set_cons_succ, List.set_cons_zero]
      refine BigFrame.wpQuiet_want (by rfl) (fun K hK => quiet_val (v := .slice Aw N cw) (fun w' hw => ?_) (hK _ ?_))
      · clear x0 x1 hK K
        go_simp
      clear hK K
      simp only [Act.put, List.setIfInBounds_toArray, List.set_cons_succ, List.set_cons_zero]
      refine BigFrame.wpQuiet_want (by rfl) (fun K hK => quiet_enter (v := .bool true) (f := 22) (args := #[.slice Ax N cx, .slice Aw N cw]) (fun w' hw => ?_) (fun w' hw => ?_) (hK _ ?_))
      · go_simp
      · refine (cpInts_refl Ax Aw N cx cw (mvF pf c.x c.n) _ hNl (HX.out.later hw) (HW.out.later hw)).mono ?_
        rintro e w8 ⟨rfl, hb⟩
        exact ⟨rfl, bl_trans hw hb⟩
      clear hK K
      simp only [Act.put, List.setIfInBounds_toArray, List.set_cons_succ, List.set_cons_zero]
      refine BigFrame.wpQuiet_want (by rfl) (fun K hK => quiet_val (v := .bool true) (fun w' hw => ?_) (hK _ ?_))
      · clear x0 x1 hK K
        go_simp
      clear hK K
      simp only [Act.put, List.setIfInBounds_toArray, List.set_cons_succ, List.set_cons_zero]
      refine BigFrame.wpQuiet_want (by rfl) (fun K hK => quiet_val (v := .bool true) (fun w' hw => ?_) (hK _ ?_))
      · clear x0 x1 hK K
        go_simp
      clear hK K
      simp only [Act.put, List.setIfInBounds_toArray, List.set_cons_succ, List.set_cons_zero]
      refine BigFrame.wpQuiet_want (by rfl) (fun K hK => quiet_val (v := .agg #[.slice As s.n cs, .slice Ar n cr]) (fun w' hw => ?_) (hK _ ?_))
      · have e0 := kc hw x0; have e1 := kc hw x1; clear x0 x1 hK K
        go_simp
      clear hK K
      simp only [Act.put, List.setIfInBounds_toArray, List.set_cons_succ, List.set_cons_zero]
      refine BigFrame.wpQuiet_want (by rfl) (fun K hK => quiet_val (v := .slice Ap s.n cp) (fun w' hw => ?_) (hK _ ?_))
      · clear x0 x1 hK K
        go_simp
      clear hK K
      simp only [Act.put, List.setIfInBounds_toArray, List.set_cons_succ, List.set_cons_zero]
      refine BigFrame.wpQuiet_want (by rfl) (fun K hK => quiet_enter (v := .bool true) (f := 13) (args := #[.agg #[.slice As s.n cs, .slice Ar n cr], .slice Ap s.n cp]) (fun w' hw => ?_) (fun w' hw => ?_) (hK _ ?_))
      · go_simp
      · refine (implPV_any s ⟨s.n, pf⟩ n q As Ar Ap cs cr cp _ p1 p1 p3 p4.out (HM.out.later hw).rs (HM.out.later hw).rr (HP.out.later hw)).mono ?_
        rintro e w8 ⟨rfl, hb⟩
        exact ⟨by rw [HPv.out], bl_trans hw hb⟩
      clear hK K
      simp only [Act.put, List.setIfInBounds_toArray, List.set_cons_succ, List.set_cons_zero]
      refine BigFrame.wpQuiet_want (by rfl) (fun K hK => quiet_val (v := .agg #[.slice As s.n cs, .slice Ar n cr]) (fun w' hw => ?_) (hK _ ?_))
      · have e0 := kc hw x0; have e1 := kc hw x1; clear x0 x1 hK K
        go_simp
      clear hK K
      simp only [Act.put, List.setIfInBounds_toArray, List.set_cons_succ, List.set_cons_zero]
      refine BigFrame.wpQuiet_want (by rfl) (fun K hK => quiet_val (v := .slice Ap s.n cp) (fun w' hw => ?_) (hK _ ?_))
      · clear x0 x1 hK K
        go_simp
      clear hK K
      simp only [Act.put, List.setIfInBounds_toArray, List.set_cons_succ, List.set_cons_zero]
      refine BigFrame.wpQuiet_want (by rfl) (fun K hK => quiet_enter (v := .bool true) (f := 10) (args := #[.agg #[.slice As s.n cs, .slice Ar n cr], .slice Ap s.n cp]) (fun w' hw => ?_) (fun w' hw => ?_) (hK _ ?_))
      · go_simp
      · refine (specPV_any s ⟨s.n, pf⟩ n q As Ar Ap cs cr cp _ p1 p1 p3 p4.out (HM.out.later hw).rs (HM.out.later hw).rr (HP.out.later hw)).mono ?_
        rintro e w8 ⟨rfl, hb⟩
        exact ⟨by rw [HPv.out], bl_trans hw hb⟩
      clear hK K
      simp only [Act.put, List.setIfInBounds_toArray, List.set_cons_succ, List.set_cons_zero]
      refine BigFrame.wpQuiet_want (by rfl) (fun K hK => quiet_val (v := .bool true) (fun w' hw => ?_) (hK _ ?_))
      · clear x0 x1 hK K
        go_simp
      clear hK K
      simp only [Act.put, List.setIfInBounds_toArray, List.set_cons_succ, List.set_cons_zero]
      refine BigFrame.wpQuiet_want (by rfl) (fun K hK => quiet_val (v := .bool true) (fun w' hw => ?_) (hK _ ?_))
      · clear x0 x1 hK K
        go_simp
      clear hK K
      simp only [Act.put, List.setIfInBounds_toArray, List.set_cons_succ, List.set_cons_zero]
      refine BigFrame.wpQuiet_want (by rfl) (fun K hK => quiet_val (v := .bool true) (fun w' hw => ?_) (hK _ ?_))
      · clear x0 x1 hK K
        go_simp
      clear hK K
      simp only [Act.put, List.setIfInBounds_toArray, List.set_cons_succ, List.set_cons_zero]
      refine wpQuiet_nil ?_
      intro w6 hw9
      have HB6 := Lib.hid (bl_trans HB.out hw9)
      clear hw9 x0 x1
      go_wp2
      go_ret
      exact ⟨rfl, HB6.out⟩
  | true =>
    obtain ⟨hP1, hpn, hcn, hs1, hs5, hpb, hpc2, hmv2, hcv2⟩ := HALL.out (by trivial)
    have hNc := HDN.out (by trivial)
    subst hP1
    clear HALL HDN
    have HPB := Lib.hid hpb
    have HPC2 := Lib.hid hpc2
    have HMV2 := Lib.hid hmv2
    have HCV2 := Lib.hid hcv2
    clear hpb hpc2 hmv2 hcv2
    have Hpn := Lib.hid hpn
    have Hcn := Lib.hid hcn
    have HNc := Lib.hid hNc
    have S1 := Lib.hid hs1
    have S5 := Lib.hid hs5
    clear hpn hcn hNc hs1 hs5
    refine region_class (C := Cls w4) (by kernel_rfl) (by kernel_rfl) (Below.refl w4.heap.size w4).drew ?_
    refine BigFrame.wpQuiet_want (by rfl) (fun K hK => quiet_val (v := .bool true) (fun w' hw => ?_) (hK _ ?_))
    · clear x0 x1 hK K
      go_simp
    clear hK K
    simp only [Act.put, List.setIfInBounds_toArray, List.set_cons_succ, List.set_cons_zero]
    refine BigFrame.wpQuiet_want (by rfl) (fun K hK => quiet_val (v := .bool true) (fun w' hw => ?_) (hK _ ?_))
    · clear x0 x1 hK K
      go_simp
    clear hK K
    simp only [Act.put, List.setIfInBounds_toArray, List.set_cons_succ, List.set_cons_zero]
    refine BigFrame.wpQuiet_want (by rfl) (fun K hK => quiet_val (v := .bool false) (fun w' hw => ?_) (hK _ ?_))
    · clear x0 x1 hK K
      go_simp
    clear hK K
    simp only [Act.put, List.setIfInBounds_toArray, List.set_cons_succ, List.set_cons_zero]
    refine BigFrame.wpQuiet_want (by rfl) (fun K hK => quiet_val (v := .bool false) (fun w' hw => ?_) (hK _ ?_))
    · clear x0 x1 hK K
      go_simp
    clear hK K
    simp only [Act.put, List.setIfInBounds_toArray, List.set_cons_succ, List.set_cons_zero]
    refine BigFrame.wpQuiet_want (by rfl) (fun K hK => quiet_val (v := .slice Ax N cx) (fun w' hw => ?_) (hK _ ?_))
    · clear x0 x1 hK K
      go_simp
    clear hK K
    simp only [Act.put, List.setIfInBounds_toArray, List.set_cons_succ, List.set_cons_zero]
    refine BigFrame.wpQuiet_want (by rfl) (fun K hK => quiet_val (v := .slice Aw N cw) (fun w' hw => ?_) (hK _ ?_))
    · clear x0 x1 hK K
      go_simp
    clear hK K
    simp only [Act.put, List.setIfInBounds_toArray, List.set_cons_succ, List.set_cons_zero]
    refine BigFrame.wpQuiet_want (by rfl) (fun K hK => quiet_enter (v := .bool true) (f := 22) (args := #[.slice Ax N cx, .slice Aw N cw]) (fun w' hw => ?_) (fun w' hw => ?_) (hK _ ?_))
    · go_simp
    · refine (cpInts_refl Ax Aw N cx cw (mvF pf c.x c.n) _ hNl (HX.out.later hw) (HW.out.later hw)).mono ?_
      rintro e w8 ⟨rfl, hb⟩
      exact ⟨rfl, bl_trans hw hb⟩
    clear hK K
    simp only [Act.put, List.setIfInBounds_toArray, List.set_cons_succ, List.set_cons_zero]
    refine BigFrame.wpQuiet_want (by rfl) (fun K hK => quiet_val (v := .bool false) (fun w' hw => ?_) (hK _ ?_))
    · clear x0 x1 hK K
      go_simp
    clear hK K
    simp only [Act.put, List.setIfInBounds_toArray, List.set_cons_succ, List.set_cons_zero]
    refine BigFrame.wpQuiet_want (by rfl) (fun K hK => quiet_val (v := .bool false) (fun w' hw => ?_) (hK _ ?_))
    · clear x0 x1 hK K
      go_simp
    clear hK K
    simp only [Act.put, List.setIfInBounds_toArray, List.set_cons_succ, List.set_cons_zero]
    refine BigFrame.wpQuiet_want (by rfl) (fun K hK => quiet_val (v := .bool false) (fun w' hw => ?_) (hK _ ?_))
    · clear x0 x1 hK K
      go_simp
    clear hK K
    simp only [Act.put, List.setIfInBounds_toArray, List.set_cons_succ, List.set_cons_zero]
    refine BigFrame.wpQuiet_want (by rfl) (fun K hK => quiet_val (v := .agg #[.slice As s.n cs, .slice Ar n cr]) (fun w' hw => ?_) (hK _ ?_))
    · have e0 := kc hw x0; have e1 := kc hw x1; clear x0 x1 hK K
      go_simp
    clear hK K
    simp only [Act.put, List.setIfInBounds_toArray, List.set_cons_succ, List.set_cons_zero]
    refine BigFrame.wpQuiet_want (by rfl) (fun K hK => quiet_val (v := .slice Ap s.n cp) (fun w' hw => ?_) (hK _ ?_))
    · clear x0 x1 hK K
      go_simp
    clear hK K
    simp only [Act.put, List.setIfInBounds_toArray, List.set_cons_succ, List.set_cons_zero]
    refine BigFrame.wpQuiet_want (by rfl) (fun K hK => quiet_enter (v := .bool true) (f := 13) (args := #[.agg #[.slice As s.n cs, .slice Ar n cr], .slice Ap s.n cp]) (fun w' hw => ?_) (fun w' hw => ?_) (hK _ ?_))
    · go_simp
    · refine (implPV_any s ⟨s.n, pf⟩ n q As Ar Ap cs cr cp _ p1 p1 p3 p4.out (HM.out.later hw).rs (HM.out.later hw).rr (HP.out.later hw)).mono ?_
      rintro e w8 ⟨rfl, hb⟩
      exact ⟨by rw [HPv.out], bl_trans hw hb⟩
    clear hK K
    simp only [Act.put, List.setIfInBounds_toArray, List.set_cons_succ, List.set_cons_zero]
    refine BigFrame.wpQuiet_want (by rfl) (fun K hK => quiet_val (v := .agg #[.slice As s.n cs, .slice Ar n cr]) (fun w' hw => ?_) (hK _ ?_))
    · have e0 := kc hw x0; have e1 := kc hw x1; clear x0 x1 hK K
      go_simp
    clear hK K
    simp only [Act.put, List.setIfInBounds_toArray, List.set_cons_succ, List.set_cons_zero]
    refine BigFrame.wpQuiet_want (by rfl) (fun K hK => quiet_val (v := .slice Ap s.n cp) (fun w' hw => ?_) (hK _ ?_))
    · clear x0 x1 hK K
      go_simp
    clear hK K
    simp only [Act.put, List.setIfInBounds_toArray, List.set_cons_succ, List.set_cons_zero]
    refine BigFrame.wpQuiet_want (by rfl) (fun K hK => quiet_enter (v := .bool true) (f := 10) (args := #[.agg #[.slice As s.n cs, .slice Ar n cr], .slice Ap s.n cp]) (fun w' hw => ?_) (fun w' hw => ?_) (hK _ ?_))
    · go_simp
    · refine (specPV_any s ⟨s.n, pf⟩ n q As Ar Ap cs cr cp _ p1 p1 p3 p4.out (HM.out.later hw).rs (HM.out.later hw).rr (HP.out.later hw)).mono ?_
      rintro e w8 ⟨rfl, hb⟩
      exact ⟨by rw [HPv.out], bl_trans hw hb⟩
    clear hK K
    simp only [Act.put, List.setIfInBounds_toArray, List.set_cons_succ, List.set_cons_zero]
    refine BigFrame.wpQuiet_want (by rfl) (fun K hK => quiet_val (v := .bool false) (fun w' hw => ?_) (hK _ ?_))
    · clear x0 x1 hK K
      go_simp
    clear hK K
    simp only [Act.put, List.setIfInBounds_toArray, List.set_cons_succ, List.set_cons_zero]
    refine BigFrame.wpQuiet_want (by rfl) (fun K hK => quiet_val (v := .bool false) (fun w' hw => ?_) (hK _ ?_))
    · clear x0 x1 hK K
      go_simp
    clear hK K
    simp only [Act.put, List.setIfInBounds_toArray, List.set_cons_succ, List.set_cons_zero]
    refine BigFrame.wpQuiet_want (by rfl) (fun K hK => quiet_val (v := .bool false) (fun w' hw => ?_) (hK _ ?_))
    · clear x0 x1 hK K
      go_simp
    clear hK K
    simp only [Act.put, List.setIfInBounds_toArray, List.set_cons_succ, List.set_cons_zero]
    refine BigFrame.wpQuiet_want (by rfl) (fun K hK => quiet_val (v := .bool true) (fun w' hw => ?_) (hK _ ?_))
    · clear x0 x1 hK K
      go_simp
    clear hK K
    simp only [Act.put, List.setIfInBounds_toArray, List.set_cons_succ, List.set_cons_zero]
    refine BigFrame.wpQuiet_want (by rfl) (fun K hK => quiet_val (v := .bool false) (fun w' hw => ?_) (hK _ ?_))
    · clear x0 x1 hK K
      go_simp
    clear hK K
    simp only [Act.put, List.setIfInBounds_toArray, List.set_cons_succ, List.set_cons_zero]
    refine BigFrame.wpQuiet_want (by rfl) (fun K hK => quiet_val (v := .bool false) (fun w' hw => ?_) (hK _ ?_))
    · clear x0 x1 hK K
      go_simp
    clear hK K
    simp only [Act.put, List.setIfInBounds_toArray, List.set_cons_succ, List.set_cons_zero]
    refine wpQuiet_nil ?_
    intro w5 hw9
    have HB' := Lib.hid (bl_trans HB.out hw9)
    have HM' := Lib.hid (HM.out.later hw9)
    have HC' := Lib.hid (HC.out.later hw9)
    have HP' := Lib.hid (HP.out.later hw9)
    have HX' := Lib.hid (HX.out.later hw9)
    have HW' := Lib.hid (HW.out.later hw9)
    replace x0 := kc hw9 x0
    replace x1 := kc hw9 x1
    clear hw9 HB HM HC HP HX HW
    have HB := HB'
    clear HB'
    have HM := HM'
    clear HM'
    have HC := HC'
    clear HC'
    have HP := HP'
    clear HP'
    have HX := HX'
    clear HX'
    have HW := HW'
    clear HW'
    obtain ⟨sn, sx⟩ := s
    obtain ⟨cn, cx'⟩ := c
    have e2 := Hcn.out
    have e3 := HNc.out
    simp only at e2 e3
    subst e2
    subst e3
    clear Hpn Hcn HNc HBv HPv HN HW
    simp only at p1 p5 x0 x1 HP HC HX HM HPB HPC2 HMV2 HCV2 S1 S5 ⊢
    obtain ⟨i0, hi9, hz0, hz1, hz2⟩ := info_parts Try.infoInt
    have hmk := fun W => run_make (P := Try.prog) W 22 3 i0 _ Try.underlying22 hi9 hz0 .i64 .i64 (N : Int) N (by omega) (by omega) (by rw [hz2]; omega) (by omega)
    rw [hz1] at hmk
    clear hi9 hz0 hz1 hz2
    have X0 := Lib.hid x0
    have X1 := Lib.hid x1
    clear x0 x1
    go_wp2_with fail
    clear hmk
    go_loopw [11] (fun i wr => ∃ j : Nat, j ≤ N ∧ i = .int .i64 j ∧ OwnV wr w5.heap.size 3 N N (mvF pf idn j) ∧ Below w5.heap.size w5 wr) (fun i _ => N - (intOf i).toNat)
    case atStart => exact ⟨0, Nat.zero_le _, rfl, ownP_zeros.toV, bl_alloc (Below.refl _ _) _⟩
    case round =>
      obtain ⟨j, hj, rfl, hown, hb⟩ := hrel
      by_cases hlt : j < N
      · obtain ⟨b1, o1, rfl, hbl, hcp⟩ := (HP.out.later hb) (by omega)
        obtain ⟨i, hi⟩ : ∃ i : Nat, pf j = (i : Int) := ⟨(pf j).toNat, by have := HPB.out j hlt; omega⟩
        have hik : i < N := by have := HPB.out j hlt; omega
        have c1 := hcp j hlt
        rw [hi] at c1
        obtain ⟨y1, hy1⟩ := hown.cell hik
        have hf1 := hown.frozen i
        have hltI : (j : Int) < (N : Int) := by omega
        have hj0 : (0 : Int) ≤ (j : Int) := by omega
        have hikI : (i : Int) < (N : Int) := by omega
        have hi0' : (0 : Int) ≤ (i : Int) := by omega
        have Hput := Lib.hid (OwnV.setP (v' := mvF pf idn (j + 1)) hown hik (z := (j : Int)) (by show (if (i : Int) = pf j then idn j else mvF pf idn j i) = (j : Int); rw [if_pos hi.symm]; rfl) (fun a ha => by show (if (a : Int) = pf j then idn j else mvF pf idn j a) = mvF pf idn j a; rw [if_neg (by rw [hi]; omega)]))
        have HBk := Lib.hid hb
        clear hown hb hi hcp hbl
        go_wp2
        go_roundw
        case rel => exact ⟨j + 1, by omega, by go_num, Hput.out, HBk.out.setCell (Nat.le_refl _) _⟩
        case measure => simp [intOf]; omega
      · obtain rfl : j = N := by omega
        have HK := Lib.hid (show RdI wr wr.heap.size (some ⟨w5.heap.size, 0, none⟩) j (bkF j pf) from hown.rdAt)
        have x0 := kc hb X0.out
        have x1 := kc hb X1.out
        clear X0 X1 hown
        have HB' := Lib.hid (bl_trans HB.out hb)
        have HM' := Lib.hid (HM.out.later hb)
        have HC' := Lib.hid (HC.out.later hb)
        have HP' := Lib.hid (HP.out.later hb)
        have HX' := Lib.hid (HX.out.later hb)
        clear hb HB HM HC HP HX
        have HB := HB'
        clear HB'
        have HM := HM'
        clear HM'
        have HC := HC'
        clear HC'
        have HP := HP'
        clear HP'
        have HX := HX'
        clear HX'
        obtain ⟨GB, hGB⟩ : ∃ GB, w5.heap.size = GB := ⟨_, rfl⟩
        rw [hGB] at HK ⊢
        clear hGB
        go_wp2_with fail
        refine (implPC_any ⟨j, sx⟩ ⟨j, bkF j pf⟩ ⟨j, mvF pf cx' j⟩ n q As Ar (some ⟨GB, 0, none⟩) Ax cs cr j cx _ p1 p1 p1 p3 p4.out HM.out.rs HM.out.rr HK.out HX.out).mono ?_
        rw [show pcN ⟨j, sx⟩ n q ⟨j, bkF j pf⟩ ⟨j, mvF pf cx' j⟩ = j from by unfold pcN; rw [HPC2.out]; rfl, HPC2.out]
        simp only
        rintro e w7 ⟨Ay, cy, rfl, hfy, hb⟩
        have HY := Lib.hid (hfy.congr HMV2.out).rdAt
        clear hfy HK
        have HB' := Lib.hid (bl_trans HB.out hb)
        have HM' := Lib.hid (HM.out.later hb)
        have HC' := Lib.hid (HC.out.later hb)
        have HP' := Lib.hid (HP.out.later hb)
        have HX' := Lib.hid (HX.out.later hb)
        replace x0 := kc hb x0
        replace x1 := kc hb x1
        clear hb HB HM HC HP HX
        have HB := HB'
        clear HB'
        have HM := HM'
        clear HM'
        have HC := HC'
        clear HC'
        have HP := HP'
        clear HP'
        have HX := HX'
        clear HX'
        go_wp2_with fail
        refine (cpInts_refl Ay Ac j cy cc cx' _ p1 HY.out HC.out).mono ?_
        rintro e w8 ⟨rfl, hb⟩
        clear HY
        have HB' := Lib.hid (bl_trans HB.out hb)
        have HM' := Lib.hid (HM.out.later hb)
        have HC' := Lib.hid (HC.out.later hb)
        have HP' := Lib.hid (HP.out.later hb)
        have HX' := Lib.hid (HX.out.later hb)
        replace x0 := kc hb x0
        replace x1 := kc hb x1
        clear hb HB HM HC HP HX
        have HB := HB'
        clear HB'
        have HM := HM'
        clear HM'
        have HC := HC'
        clear HC'
        have HP := HP'
        clear HP'
        have HX := HX'
        clear HX'
        go_wp2_with fail
        refine (implCells_any ⟨j, sx⟩ ⟨j, mvF pf cx' j⟩ n q As Ar Ax cs cr cx _ p1 p1 p3 p4.out HM.out.rs HM.out.rr HX.out).mono ?_
        rintro e w9 ⟨rfl, hb⟩
        rw [HCV2.out]
        have HB9 := Lib.hid (bl_trans HB.out hb)
        clear hb x0 x1
        go_wp2
        go_ret
        exact ⟨rfl, HB9.out⟩

set_option linter.unusedSimpArgs false in
set_option linter.unusedVariables false in
set_option maxRecDepth 100000 in
set_option maxHeartbeats 6400000 in
theorem lawFnPermuteCells_walk (A0 : Option Addr) (n0 cap0 : Nat) (y0 : Nat → Int) (w : World) (hm0 : n0 ≤ maxLen) (hc0 : n0 ≤ cap0) (hr0 : RdY w w.heap.size A0 n0 y0) :
    Calls Try.prog 5 #[.slice A0 n0 cap0] w fun e w' => e = .returned (.bool true) ∧ Below w.heap.size w w' := by
  by_cases h0 : n0 ≤ 1048576
  · exact lawFnPermuteCells_ok A0 n0 cap0 y0 w h0 hc0 hr0
  · unfold maxLen at hm0
    have hi0 : (1048576 : Int) < (n0 : Int) := by omega
    go_enter Try.func5, Try.ntmps5
    go_wp2
    go_ret
    exact ⟨rfl, Below.refl _ _⟩
end Go.Proofs.Ytafiikfaeomhpaa

