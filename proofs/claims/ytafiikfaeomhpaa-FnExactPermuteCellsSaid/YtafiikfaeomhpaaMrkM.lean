/- The marking of a model that a call has made (no claim of its own). Conditions: as each theorem states. -/
import Derived.Test.YtafiikfaeomhpaaMrkR
import Derived.Test.YtafiikfaeomhpaaMdlE
namespace Go.Proofs.Ytafiikfaeomhpaa
open Go.ChangeShapes Go.WideShapes Go.ChangeAt Go.RowKit

/-- Blocks of cells of other types than int lie as they did. -/
def IntOnly (w w' : World) : Prop := ∀ (k : Nat) (cs : Array Value) (T : TypeId) (fr : Nat × Nat), w.heap[k]? = some (.cells cs T fr) → T ≠ 3 → w'.heap[k]? = w.heap[k]?
section
variable {w w' w1 : World} {lo hi G n : Nat} {T : TypeId}
theorem IntOnly.refl (w : World) : IntOnly w w := fun _ _ _ _ _ _ => rfl
theorem IntOnly.trans (h : IntOnly w w1) (k : IntOnly w1 w') : IntOnly w w' := fun j cs T fr hj hT => by
  have h1 := h j cs T fr hj hT
  exact (k j cs T fr (h1.trans hj) hT).trans h1
theorem IntOnly.set_ (h : IntOnly w w1) {m : Nat} (hr : Room w G 3 m) (o : Nat) (u : Value) : IntOnly w (w1.setCell ⟨G, o, none⟩ u) := fun j cs T fr hj hT => by
  refine (Below.heap_setCell w1 ⟨G, o, none⟩ u j (fun e => ?_)).trans (h j cs T fr hj hT)
  obtain ⟨ds, hd, _⟩ := hr
  have e' : j = G := e
  subst e'
  rw [hd] at hj
  injection hj with hj
  injection hj with _ h2 _
  exact hT h2.symm

set_option maxRecDepth 100000 in
set_option maxHeartbeats 800000 in
/-- The marking of ints, of which the room alone is known. -/
theorem markIntS_room (n cap : Nat) (k : Int) (w : World) (hn : n ≤ 1048576) (hk0 : 0 ≤ k) (hk1 : k ≤ 1099511627776) (hlo : lo ≤ G) (hhi : G < hi) (ho : Room w G 3 n) :
    Calls Try.prog 19 #[.slice (some ⟨G, 0, none⟩) n cap, .int .i64 k] w fun e w' => e = .returned (.int .i64 (k + n)) ∧ OnlyR lo hi w w' ∧ Shp w w' ∧ IntOnly w w' := by
  have hz := Lib.hid ho
  clear ho
  go_enter Try.func19, Try.ntmps19
  go_wp2
  go_loopw [1, 5] (fun t i wr => ∃ j : Nat, j ≤ n ∧ i = .int .i64 j ∧ t = .int .i64 (k + j) ∧ OnlyR lo hi w wr ∧ Shp w wr ∧ IntOnly w wr) (fun _ i _ => n - (intOf i).toNat)
  case atStart => exact ⟨0, Nat.zero_le _, rfl, by simp, OnlyR.refl _ _ _, Shp.refl _, IntOnly.refl _⟩
  case round =>
    obtain ⟨j, hj, rfl, rfl, hon, hsh, hio⟩ := hrel
    by_cases hlt : j < n
    · have hrm := hz.out.shp hsh
      obtain ⟨y1, hy1⟩ := hrm.cell (j := j) (by omega)
      have hf1 := hrm.frozen j
      have Hsh := Lib.hid hsh
      have Hio := Lib.hid hio
      clear hrm hsh hio
      go_wp2
      go_roundw
      case rel => exact ⟨j + 1, by omega, by go_num, add1 k j, hon.set_ hlo hhi _ _, Hsh.out.set_ _ _ _, Hio.out.set_ hz.out _ _⟩
      case measure => simp [intOf]; omega
    · have e : j = n := by omega
      subst e
      go_wp2
      go_ret
      exact ⟨rfl, hon, hsh, hio⟩
end

/-- The heads of a row of lists that lies in block G: each leads to room for its numbers, in a block of the range. -/
def HdL (w : World) (lo hi G n : Nat) (r : Nat → Lst) : Prop :=
  ∃ cs : Array Value, w.heap[G]? = some (.cells cs 22 (0, 0)) ∧ n ≤ cs.size ∧ ∀ i, i < n → ∃ g ci, cs[i]? = some (.slice (some ⟨g, 0, none⟩) (r i).n ci) ∧ lo ≤ g ∧ g < hi ∧ Room w g 3 (r i).n
theorem HdL.keep {w w' : World} {lo hi G n : Nat} {r : Nat → Lst} (h : HdL w lo hi G n r) (hg : w'.heap[G]? = w.heap[G]?) (hs : Shp w w') : HdL w' lo hi G n r := by
  obtain ⟨cs, h1, h2, h3⟩ := h
  refine ⟨cs, hg.trans h1, h2, fun i hi => ?_⟩
  obtain ⟨g, ci, a, b, c, d⟩ := h3 i hi
  exact ⟨g, ci, a, b, c, d.shp hs⟩
theorem HdL.ints {w w' : World} {lo hi G n : Nat} {r : Nat → Lst} (h : HdL w lo hi G n r) (hi' : IntOnly w w') (hs : Shp w w') : HdL w' lo hi G n r := by
  obtain ⟨cs, h1, _⟩ := id h
  exact h.keep (hi' G cs _ _ h1 (by decide)) hs

set_option maxRecDepth 100000 in
set_option maxHeartbeats 1600000 in
theorem markIntSS_any (lo hi G n cap : Nat) (r : Nat → Lst) (k : Int) (w : World) (hn : n + totL r n ≤ 1048576) (hk0 : 0 ≤ k) (hk1 : k ≤ 16777216) (ho : HdL w lo hi G n r) :
    Calls Try.prog 82 #[.slice (some ⟨G, 0, none⟩) n cap, .int .i64 k] w fun e w' => e = .returned (.int .i64 (k + totL r n)) ∧ OnlyR lo hi w w' ∧ Shp w w' ∧ IntOnly w w' := by
  have hz := Lib.hid ho
  clear ho
  go_enter Try.func82, Try.ntmps82
  go_wp2
  go_loopw [1, 5] (fun t i wr => ∃ j : Nat, j ≤ n ∧ i = .int .i64 j ∧ t = .int .i64 (k + totL r j) ∧ OnlyR lo hi w wr ∧ Shp w wr ∧ IntOnly w wr) (fun _ i _ => n - (intOf i).toNat)
  case atStart => exact ⟨0, Nat.zero_le _, rfl, by simp [totL], OnlyR.refl _ _ _, Shp.refl _, IntOnly.refl _⟩
  case round =>
    obtain ⟨j, hj, rfl, rfl, hon, hsh, hio⟩ := hrel
    have Hon := Lib.hid hon
    have Hsh := Lib.hid hsh
    have Hio := Lib.hid hio
    by_cases hlt : j < n
    · have ht := totL_at r hlt
      obtain ⟨cs, c1, c2, c3⟩ := hz.out.ints hio hsh
      obtain ⟨g, ci, a, b, c, d⟩ := c3 j hlt
      have hx1 : wr.cell? ⟨G, j, none⟩ = some (.slice (some ⟨g, 0, none⟩) (r j).n ci) := (cell_of_row wr G _ cs _ _ c1).trans a
      have HD := Lib.hid d
      have hlt' : (j : Int) < (n : Int) := by omega
      have hj0 : (0 : Int) ≤ (j : Int) := by omega
      clear c3 c1 c2 a hon hsh hio d
      go_wp2_with fail
      refine (markIntS_room (lo := lo) (hi := hi) _ _ _ _ (by omega) (by omega) (by omega) b c HD.out).mono ?_
      rintro e w1 ⟨rfl, h1, h2, h3⟩
      have H1 := Lib.hid (Hon.out.trans h1)
      have H2 := Lib.hid (Hsh.out.trans h2)
      have H3 := Lib.hid (Hio.out.trans h3)
      have HN := Lib.hid (show Value.int .i64 (k + (totL r j : Int) + ((r j).n : Int)) = .int .i64 (k + ((totL r (j + 1) : Nat) : Int)) from by
        congr 1
        show _ = k + ((totL r j + (r j).n : Nat) : Int)
        omega)
      clear h1 h2 h3 HD hx1
      go_wp2
      go_roundw
      case rel => exact ⟨j + 1, by omega, by go_num, HN.out, H1.out, H2.out, H3.out⟩
      case measure => simp [intOf]; omega
    · have e : j = n := by omega
      subst e
      go_wp2
      go_ret
      exact ⟨rfl, hon, hsh, hio⟩

/-- The heads of a row of rules that lies in block G. -/
def HdR (w : World) (lo hi G n : Nat) (q : Nat → Rul) : Prop :=
  ∃ cs : Array Value, w.heap[G]? = some (.cells cs 90 (0, 0)) ∧ n * 5 ≤ cs.size ∧
    ∀ i, i < n → ∃ gv cv gc cc gr cr, cs[i * 5 + 1]? = some (.slice (some ⟨gv, 0, none⟩) (q i).v.n cv) ∧ cs[i * 5 + 2]? = some (.slice (some ⟨gc, 0, none⟩) (q i).c.n cc) ∧ cs[i * 5 + 4]? = some (.slice (some ⟨gr, 0, none⟩) (q i).n cr) ∧
      (lo ≤ gv ∧ gv < hi ∧ Room w gv 3 (q i).v.n) ∧ (lo ≤ gc ∧ gc < hi ∧ Room w gc 3 (q i).c.n) ∧ HdL w lo hi gr (q i).n (q i).r
section
variable {w w' : World} {lo hi G n : Nat} {q : Nat → Rul}
theorem HdR.room (h : HdR w lo hi G n q) : Room w G 90 (n * 5) := by
  obtain ⟨cs, h1, h2, _⟩ := h
  exact ⟨cs, h1, h2⟩
theorem HdR.ints (h : HdR w lo hi G n q) (hi' : IntOnly w w') (hs : Shp w w') : HdR w' lo hi G n q := by
  obtain ⟨cs, h1, h2, h3⟩ := h
  refine ⟨cs, (hi' G cs _ _ h1 (by decide)).trans h1, h2, fun i hi => ?_⟩
  obtain ⟨gv, cv, gc, cc, gr, cr, a, b, c, d, e, f⟩ := h3 i hi
  exact ⟨gv, cv, gc, cc, gr, cr, a, b, c, ⟨d.1, d.2.1, d.2.2.shp hs⟩, ⟨e.1, e.2.1, e.2.2.shp hs⟩, f.ints hi' hs⟩
theorem HdR.set_ (h : HdR w lo hi G n q) (j o : Nat) (ho : o = 0 ∨ o = 3) (u : Value) : HdR (w.setCell ⟨G, j * 5 + o, none⟩ u) lo hi G n q := by
  obtain ⟨cs, h1, h2, h3⟩ := h
  refine ⟨cs.setIfInBounds (j * 5 + o) u, by simp [World.setCell, Array.getElem?_modify, h1], by simp [h2], fun i hi => ?_⟩
  obtain ⟨gv, cv, gc, cc, gr, cr, a, b, c, d, e, f⟩ := h3 i hi
  have hs : Shp w (w.setCell ⟨G, j * 5 + o, none⟩ u) := (Shp.refl _).set_ _ _ _
  refine ⟨gv, cv, gc, cc, gr, cr, by rw [Array.getElem?_setIfInBounds, if_neg (by omega)]; exact a, by rw [Array.getElem?_setIfInBounds, if_neg (by omega)]; exact b, by rw [Array.getElem?_setIfInBounds, if_neg (by omega)]; exact c, ⟨d.1, d.2.1, d.2.2.shp hs⟩, ⟨e.1, e.2.1, e.2.2.shp hs⟩, f.keep (Below.heap_setCell w ⟨G, j * 5 + o, none⟩ u gr (fun e => ?_)) hs⟩
  have e' : gr = G := e
  subst e'
  obtain ⟨ds, hd, _⟩ := f
  rw [hd] at h1
  injection h1 with h1
  injection h1 with _ h4 _
  exact absurd h4 (by decide)
end
theorem OwnI.room {w : World} {G n : Nat} {v : Nat → Int} (h : OwnI w G n n v) : Room w G 3 n := by
  obtain ⟨cs, h1, h2, _⟩ := h
  exact ⟨cs, h1, by omega⟩
theorem OwnL.hd {w : World} {lo G n : Nat} {r : Nat → Lst} (h : OwnL w G n n r) (hlo : lo ≤ G) : HdL w lo w.heap.size G n r := by
  obtain ⟨cs, h1, h2, h3⟩ := h
  refine ⟨cs, h1, by omega, fun i hi => ?_⟩
  obtain ⟨g, hg, a, b⟩ := h3 i hi
  exact ⟨g, _, a, by omega, b.lt, b.room⟩
theorem OwnRs.hd {w : World} {lo G n : Nat} {q : Nat → Rul} (h : OwnRs w G n n q) (hlo : lo ≤ G) : HdR w lo w.heap.size G n q := by
  obtain ⟨cs, h1, h2, h3⟩ := h
  refine ⟨cs, h1, by omega, fun i hi => ?_⟩
  obtain ⟨gv, gc, gr, a1, a2, a3, b0, b1, b2, b3, b4, c1, c2, c3⟩ := h3 i hi
  exact ⟨gv, _, gc, _, gr, _, b1, b2, b4, ⟨by omega, c1.lt, c1.room⟩, ⟨by omega, c2.lt, c2.room⟩, c3.hd (by omega)⟩

/-- How far the marks of the first k rules go. -/
def mkR (q : Nat → Rul) : Nat → Nat
  | 0 => 0
  | k + 1 => mkR q k + (2 + (q k).v.n + (q k).c.n + totL (q k).r (q k).n)
theorem mkR_le (q : Nat → Rul) (k : Nat) : mkR q k ≤ 2 * k + totR q k := by
  induction k with
  | zero => exact Nat.le_refl _
  | succ k ih =>
    show mkR q k + (2 + (q k).v.n + (q k).c.n + totL (q k).r (q k).n) ≤ 2 * (k + 1) + (totR q k + (q k).sz)
    unfold Rul.sz
    omega

set_option maxRecDepth 100000 in
set_option maxHeartbeats 3200000 in
theorem markRuleS_any (lo hi G n cap : Nat) (q : Nat → Rul) (k : Int) (w : World) (hn : n + totR q n ≤ 1048576) (hk0 : 0 ≤ k) (hk1 : k ≤ 4194304) (hlo : lo ≤ G) (hhi : G < hi) (ho : HdR w lo hi G n q) :
    Calls Try.prog 49 #[.slice (some ⟨G, 0, none⟩) n cap, .int .i64 k] w fun e w' => e = .returned (.int .i64 (k + mkR q n)) ∧ OnlyR lo hi w w' ∧ Shp w w' := by
  have hz := Lib.hid ho
  clear ho
  go_enter Try.func49, Try.ntmps49
  go_wp2
  go_loopw [1, 5] (fun t i wr => ∃ j : Nat, j ≤ n ∧ i = .int .i64 j ∧ t = .int .i64 (k + mkR q j) ∧ HdR wr lo hi G n q ∧ OnlyR lo hi w wr ∧ Shp w wr) (fun _ i _ => n - (intOf i).toNat)
  case atStart => exact ⟨0, Nat.zero_le _, rfl, by simp [mkR], hz.out, OnlyR.refl _ _ _, Shp.refl _⟩
  case round =>
    obtain ⟨j, hj, rfl, rfl, hh, hon, hsh⟩ := hrel
    by_cases hlt : j < n
    · have ht := totR_at q hlt
      have hmk := mkR_le q j
      have htj := totR_le q (show j ≤ n by omega)
      have hsz : (q j).sz = (q j).v.n + (q j).c.n + ((q j).n + totL (q j).r (q j).n) := rfl
      have hlt' : (j : Int) < (n : Int) := by omega
      have hj0 : (0 : Int) ≤ (j : Int) := by omega
      have HH := Lib.hid hh
      have Hon := Lib.hid hon
      have Hsh := Lib.hid hsh
      have hfr0 := hh.room.frozen (j * 5)
      obtain ⟨y0, hy0⟩ := hh.room.cell (j := j * 5) (by omega)
      obtain ⟨cs, c1, c2, c3⟩ := hh
      obtain ⟨gv, cv, gc, cc, gr, cr, a1, a2, a4, dv, dc, dr⟩ := c3 j hlt
      have x1 : wr.cell? ⟨G, j * 5 + 1, none⟩ = some (.slice (some ⟨gv, 0, none⟩) (q j).v.n cv) := (cell_of_row wr G _ cs _ _ c1).trans a1
      clear c3 c1 c2 hon hsh
      go_wp2_with fail
      have H1 := Lib.hid (HH.out.set_ j 0 (.inl rfl) (.int .i64 (k + (mkR q j : Int))))
      have S1 := Lib.hid ((Shp.refl wr).set_ G (j * 5) (.int .i64 (k + (mkR q j : Int))))
      have O1 := Lib.hid (Hon.out.set_ hlo hhi (j * 5) (.int .i64 (k + (mkR q j : Int))))
      have T1 := Lib.hid (Hsh.out.set_ G (j * 5) (.int .i64 (k + (mkR q j : Int))))
      have DV := Lib.hid (dv.2.2.shp S1.out)
      have dv1 := dv.1
      have dv2 := dv.2.1
      clear a1 a2 a4 dv dc dr x1 hy0 hfr0 cs
      obtain ⟨W1, hW1⟩ : ∃ W, wr.setCell ⟨G, j * 5, none⟩ (.int .i64 (k + (mkR q j : Int))) = W := ⟨_, rfl⟩
      rw [hW1]
      have H1' := Lib.hid (show HdR W1 lo hi G n q from hW1 ▸ H1.out)
      have O1' := Lib.hid (show OnlyR lo hi w W1 from hW1 ▸ O1.out)
      have T1' := Lib.hid (show Shp w W1 from hW1 ▸ T1.out)
      have DV' := Lib.hid (show Room W1 gv 3 (q j).v.n from hW1 ▸ DV.out)
      clear H1 O1 T1 DV S1 HH Hon Hsh hW1
      refine (markIntS_room (lo := lo) (hi := hi) _ _ _ _ (by omega) (by omega) (by omega) dv1 dv2 DV'.out).mono ?_
      rintro e w2 ⟨rfl, h1, h2, h3⟩
      have H2 := Lib.hid (H1'.out.ints h3 h2)
      have O2 := Lib.hid (O1'.out.trans h1)
      have T2 := Lib.hid (T1'.out.trans h2)
      clear h1 h2 h3 H1' O1' T1' DV' dv1 dv2
      obtain ⟨cs, c1, c2, c3⟩ := id H2.out
      obtain ⟨gv2, cv2, gc2, cc2, gr2, cr2, a1, a2, a4, dv, dc, dr⟩ := c3 j hlt
      have x2 : w2.cell? ⟨G, j * 5 + 2, none⟩ = some (.slice (some ⟨gc2, 0, none⟩) (q j).c.n cc2) := (cell_of_row w2 G _ cs _ _ c1).trans a2
      have DC := Lib.hid dc.2.2
      have dc1 := dc.1
      have dc2 := dc.2.1
      clear c3 c1 c2 a1 a2 a4 dv dc dr cs
      go_wp2_with fail
      refine (markIntS_room (lo := lo) (hi := hi) _ _ _ _ (by omega) (by omega) (by omega) dc1 dc2 DC.out).mono ?_
      rintro e w3 ⟨rfl, h1, h2, h3⟩
      have H3 := Lib.hid (H2.out.ints h3 h2)
      have O3 := Lib.hid (O2.out.trans h1)
      have T3 := Lib.hid (T2.out.trans h2)
      clear h1 h2 h3 H2 O2 T2 DC dc1 dc2 x2
      have hfr3 := H3.out.room.frozen (j * 5 + 3)
      obtain ⟨y3, hy3⟩ := H3.out.room.cell (j := j * 5 + 3) (by omega)
      obtain ⟨cs, c1, c2, c3⟩ := id H3.out
      obtain ⟨gv3, cv3, gc3, cc3, gr3, cr3, a1, a2, a4, dv, dc, dr⟩ := c3 j hlt
      have x4 : w3.cell? ⟨G, j * 5 + 4, none⟩ = some (.slice (some ⟨gr3, 0, none⟩) (q j).n cr3) := (cell_of_row w3 G _ cs _ _ c1).trans a4
      obtain ⟨K3, hK3⟩ : ∃ K3 : Int, k + (mkR q j : Int) + 1 + ((q j).v.n : Int) + ((q j).c.n : Int) = K3 := ⟨_, rfl⟩
      have HK3 := Lib.hid hK3
      have hK30 : 0 ≤ K3 ∧ K3 ≤ 12582912 := by omega
      obtain ⟨hK31, hK32⟩ := hK30
      rw [hK3]
      have x4' : (w3.setCell ⟨G, j * 5 + 3, none⟩ (.int .i64 K3)).cell? ⟨G, j * 5 + 4, none⟩ = some (.slice (some ⟨gr3, 0, none⟩) (q j).n cr3) := (World.cell?_setCell_other _ _ _ _ (fun e => by injection e with e1 e2 _; omega)).trans x4
      have H4 := Lib.hid (H3.out.set_ j 3 (.inr rfl) (.int .i64 K3))
      have O4 := Lib.hid (O3.out.set_ hlo hhi (j * 5 + 3) (.int .i64 K3))
      have T4 := Lib.hid (T3.out.set_ G (j * 5 + 3) (.int .i64 K3))
      have hdl : HdL (w3.setCell ⟨G, j * 5 + 3, none⟩ (.int .i64 K3)) lo hi gr3 (q j).n (q j).r := by
        obtain ⟨cs', d1, d2, d3⟩ := id H4.out
        obtain ⟨_, _, _, _, gr4, cr4, _, _, b4, _, _, fr⟩ := d3 j hlt
        have x5 := (cell_of_row _ G _ cs' _ _ d1).trans b4
        rw [x4'] at x5
        injection x5 with x5
        injection x5 with x5 _ _
        injection x5 with x5
        injection x5 with x5 _ _
        rw [x5]
        exact fr
      have HDL := Lib.hid hdl
      clear c3 c1 c2 a1 a2 a4 dv dc dr cs hK3 H3 O3 T3 hdl x4
      go_wp2_with fail
      refine (markIntSS_any lo hi gr3 (q j).n cr3 (q j).r _ _ (by omega) (by omega) (by omega) HDL.out).mono ?_
      rintro e w4 ⟨rfl, h1, h2, h3⟩
      have H5 := Lib.hid (H4.out.ints h3 h2)
      have O5 := Lib.hid (O4.out.trans h1)
      have T5 := Lib.hid (T4.out.trans h2)
      have HN := Lib.hid (show Value.int .i64 (K3 + 1 + (totL (q j).r (q j).n : Int)) = .int .i64 (k + ((mkR q (j + 1) : Nat) : Int)) from by
        congr 1
        have := HK3.out
        show _ = k + ((mkR q j + (2 + (q j).v.n + (q j).c.n + totL (q j).r (q j).n) : Nat) : Int)
        omega)
      clear h1 h2 h3 H4 O4 T4 HDL x4' hy3 hfr3
      go_wp2
      go_roundw
      case rel => exact ⟨j + 1, by omega, by go_num, HN.out, H5.out, O5.out, T5.out⟩
      case measure => simp [intOf]; omega
    · have e : j = n := by omega
      subst e
      go_wp2
      go_ret
      exact ⟨rfl, hon, hsh⟩

set_option maxRecDepth 100000 in
set_option maxHeartbeats 1600000 in
/-- The marking of a model that a call has made: what it may turn lies from lo on and below hi. -/
theorem markModel_any (lo hi Gs Gr sn n cs cr : Nat) (q : Nat → Rul) (k : Int) (w : World) (hs : sn ≤ 1048576) (hn : n + totR q n ≤ 1048576) (hk0 : 0 ≤ k) (hk1 : k ≤ 1000) (hs1 : lo ≤ Gs) (hs2 : Gs < hi) (hr1 : lo ≤ Gr) (hr2 : Gr < hi) (hsr : Room w Gs 3 sn) (ho : HdR w lo hi Gr n q) (hw : hi ≤ w.heap.size) :
    Calls Try.prog 18 #[.agg #[.slice (some ⟨Gs, 0, none⟩) sn cs, .slice (some ⟨Gr, 0, none⟩) n cr], .int .i64 k] w fun e w' => e = .returned (.int .i64 (k + sn + mkR q n)) ∧ OnlyR lo hi w w' ∧ Shp w w' := by
  have hb1 := bl_alloc (Below.refl w.heap.size w) (.cells #[.slice (some ⟨Gs, 0, none⟩) sn cs, .slice (some ⟨Gr, 0, none⟩) n cr] 30)
  have a0 : (w.alloc (.cells #[.slice (some ⟨Gs, 0, none⟩) sn cs, .slice (some ⟨Gr, 0, none⟩) n cr] 30)).cell? ⟨w.heap.size, 0, none⟩ = some (.slice (some ⟨Gs, 0, none⟩) sn cs) := by go_simp
  have a1 : (w.alloc (.cells #[.slice (some ⟨Gs, 0, none⟩) sn cs, .slice (some ⟨Gr, 0, none⟩) n cr] 30)).cell? ⟨w.heap.size, 1, none⟩ = some (.slice (some ⟨Gr, 0, none⟩) n cr) := by go_simp
  have O1 := Lib.hid (bl_range (lo := lo) (hi := hi) hb1)
  have T1 := Lib.hid (bl_shp hb1)
  have R1 := Lib.hid (hsr.shp (bl_shp hb1))
  have I1 : IntOnly w (w.alloc (.cells #[.slice (some ⟨Gs, 0, none⟩) sn cs, .slice (some ⟨Gr, 0, none⟩) n cr] 30)) := fun j ds T fr hj _ => hb1.block j (by
    rcases Nat.lt_or_ge j w.heap.size with hlt | hge
    · exact hlt
    · rw [Array.getElem?_eq_none hge] at hj; cases hj)
  have H1 := Lib.hid (ho.ints I1 (bl_shp hb1))
  have hmk := mkR_le q n
  clear hb1 hsr ho I1
  go_enter Try.func18, Try.ntmps18
  go_wp2_with fail
  obtain ⟨H, hHe⟩ : ∃ H, w.heap.size = H := ⟨_, rfl⟩
  have hH : hi ≤ H := by omega
  rw [hHe] at a0 a1 ⊢
  generalize (w.alloc (.cells #[.slice (some ⟨Gs, 0, none⟩) sn cs, .slice (some ⟨Gr, 0, none⟩) n cr] 30)) = w1 at *
  refine (markIntS_room (lo := lo) (hi := hi) _ _ _ _ hs (by omega) (by omega) hs1 hs2 R1.out).mono ?_
  rintro e w2 ⟨rfl, h1, h2, h3⟩
  have H2 := Lib.hid (H1.out.ints h3 h2)
  have O2 := Lib.hid (O1.out.trans h1)
  have T2 := Lib.hid (T1.out.trans h2)
  replace a1 := h1.cell (p := ⟨H, 1, none⟩) (.inr hH) a1
  clear h1 h2 h3 H1 O1 T1 R1 a0
  go_wp2_with fail
  refine (markRuleS_any lo hi Gr n cr q _ _ hn (by omega) (by omega) hr1 hr2 H2.out).mono ?_
  rintro e w3 ⟨rfl, h1, h2⟩
  have O3 := Lib.hid (O2.out.trans h1)
  have T3 := Lib.hid (T2.out.trans h2)
  clear h1 h2 H2 O2 T2
  go_wp2
  go_ret
  exact ⟨rfl, O3.out, T3.out⟩
end Go.Proofs.Ytafiikfaeomhpaa
