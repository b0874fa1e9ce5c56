/- The program's rows of literals, collected and sorted (no claim of its own). Conditions: as each theorem states. -/
import Derived.Test.YtjfcgehmeecnfaaDsjM
import Derived.Test.YtjfcgehmeecnfaaSumD
import Derived.Test.YtjfcgehmeecnfaaIntA
namespace Go.Proofs.Ytjfcgehmeecnfaa
open Go.ChangeShapes Go.WideShapes Go.ChangeAt Go.RowKit Go.Shelf

attribute [local go_sem] Oper.semAt_some

/-- The first k of a row. -/
def vlst (v : Nat → Int) : Nat → List Int
  | 0 => []
  | k + 1 => vlst v k ++ [v k]
theorem vlst_length (v : Nat → Int) (k : Nat) : (vlst v k).length = k := by
  induction k with
  | zero => rfl
  | succ k ih => simp [vlst, ih]
theorem vlst_prefix (v : Nat → Int) {k n : Nat} (h : k ≤ n) : vlst v k <+: vlst v n := by
  induction n with
  | zero =>
    have : k = 0 := by omega
    subst this; exact List.prefix_refl _
  | succ n ih =>
    by_cases e : k = n + 1
    · subst e; exact List.prefix_refl _
    · exact (ih (by omega)).trans ⟨[v n], rfl⟩
theorem vlst_get (v : Nat → Int) {n i : Nat} (h : i < n) : (vlst v n)[i]? = some (v i) := by
  induction n with
  | zero => omega
  | succ n ih =>
    show (vlst v n ++ [v n])[i]? = _
    by_cases e : i = n
    · subst e
      rw [List.getElem?_append_right (by rw [vlst_length]; exact Nat.le_refl _), vlst_length]
      simp
    · rw [List.getElem?_append_left (by rw [vlst_length]; omega)]
      exact ih (by omega)

set_option maxRecDepth 100000 in
set_option maxHeartbeats 1000000 in
theorem vals1_in (F : Fence) (n : Nat) (h58 : F.fn 131) (hro : F.round = none) (hn : 1 ≤ n) (l B1 n₀ : Nat) (A : Option Addr) (len cap : Nat) (v : Nat → Int) (hlen : len ≤ 1048576) (J Jx : List Int → World → Prop)
    (hY : ∀ pre x W, J pre W → pre.length < len → YieldAt F (n - 1) Try.prog l #[.int .i64 x] W fun e W' =>
      (e = .returned (.bool true) ∧ J (pre ++ [x]) W' ∧ Below n₀ W W') ∨ (e = .returned (.bool false) ∧ Jx (pre ++ [x]) W'))
    (W : World) (hn0 : n₀ ≤ W.heap.size) (ht : W.cell? ⟨B1, 0, none⟩ = some (.slice A len cap))
    (hr : RdI W n₀ A len v) (h0 : J [] W) :
    CallsIn F n Try.prog 131 #[.func (.yield l) #[] #[], .pointer (some ⟨B1, 0, none⟩)] W fun e W' => (∃ v, e = .returned v) ∧
      ((∃ ys, ys = vlst v len ∧ J ys W') ∨ (∃ pre, pre <+: vlst v len ∧ Jx pre W')) := by
  refine callsIn_of_wp Try.func131 rfl h58 ?_ hro
  simp only [Try.ntmps131, List.size_toArray, List.length_cons, List.length_nil, Nat.reduceAdd, Nat.reduceSub, Array.replicate_succ, Array.replicate_zero, List.push_toArray, List.append_toArray, List.nil_append, List.cons_append]
  gi_wp2
  gi_loopw [7] (fun i wr => ∃ k : Nat, k ≤ len ∧ i = .int .i64 k ∧ J (vlst v k) wr ∧ Below n₀ W wr) (fun i _ => len - (intOf i).toNat)
  case atStart => exact ⟨0, Nat.zero_le _, rfl, h0, Below.refl _ _⟩
  case round =>
    obtain ⟨k, hk, rfl, hJs, hb⟩ := hrel
    by_cases hlt : k < len
    · obtain ⟨b, off, rfl, hbl, hcs⟩ := (hr.below hb) (by omega)
      have hc1 := hcs k hlt
      have hzw : n₀ ≤ wr.heap.size := Nat.le_trans hn0 hb.size
      have hzb : b < wr.heap.size := by omega
      have hll : (vlst v k).length < len := by rw [vlst_length]; exact hlt
      clear hcs hr
      obtain ⟨fn, tmps, assign, body, hy, hR⟩ := hY (vlst v k) (v k) wr hJs hll
      gi_wp2
      refine hR.mono ?_
      rintro e W3 (⟨rfl, hJ3, hk3⟩ | ⟨rfl, hJx3⟩)
      · gi_wp2
        go_roundw
        case rel => exact ⟨k + 1, by omega, by go_num, hJ3, hb.trans hk3⟩
        case measure => simp [intOf]; omega
      · gi_wp2
        refine bodyPost_ret (results_none rfl _ _ _) rfl ?_
        exact ⟨⟨_, rfl⟩, .inr ⟨_, vlst_prefix v hlt, hJx3⟩⟩
    · have e : k = len := by omega
      subst e
      gi_wp2
      go_end0
      exact ⟨⟨_, rfl⟩, .inl ⟨_, rfl, hJs⟩⟩

theorem vals_stops (F : Fence) (n : Nat) (h58 : F.fn 131) (hro : F.round = none) (hn : 1 ≤ n) (B1 n₀ : Nat) (A : Option Addr) (len cap : Nat) (v : Nat → Int) (hlen : len ≤ 1048576) (w : World)
    (hn0 : n₀ ≤ w.heap.size) (hB1 : B1 < n₀) (ht : w.cell? ⟨B1, 0, none⟩ = some (.slice A len cap)) (hr : RdI w n₀ A len v) :
    SeqStopsK F n Try.prog 131 #[.pointer (some ⟨B1, 0, none⟩)] (fun x : Int => #[Value.int .i64 x]) (Below n₀) (fun ys => ys = vlst v len) (fun pre => pre <+: vlst v len) len w :=
  fun l J Jx W hW _ _ hY h0 =>
    have hW0 : Below n₀ w W := hW.mono hn0
    vals1_in F n h58 hro hn l B1 n₀ A len cap v hlen J Jx hY W (Nat.le_trans hn0 hW.size)
      ((hW0.cell (p := ⟨B1, 0, none⟩) hB1).trans ht) (hr.below hW0) h0

/-- What the loop's invariant says: the box holds a slice that owns what has come, in a block of the call's own; nil while nothing has come. -/
structure ApX (w : World) (ss : List Int) (W : World) : Prop where
  box : ∃ u, W.cell? ⟨w.heap.size, 0, none⟩ = some u ∧ W.frozen? ⟨w.heap.size, 0, none⟩ = false ∧ W.ownsRow (w.heap.size + 1) 3 1 u ss.length (ss.map (Value.int .i64)) ∧ (ss = [] → u = .slice none 0 0)
  bel : Below w.heap.size w W

theorem row_formD {w : World} {B : Nat} {e : TypeId} {s : Nat} {v : Value} {n : Nat} {xs : List Value} (h : w.ownsRow B e s v (n + 1) xs) : ∃ g cap, v = .slice (some ⟨g, 0, none⟩) (n + 1) cap := by
  rcases h.2 with ⟨rfl, hn⟩ | ⟨g, cap, cur, rfl, _⟩
  · omega
  · exact ⟨g, cap, rfl⟩
theorem row_cellsD {w : World} {B : Nat} {e : TypeId} {s : Nat} {v : Value} {n : Nat} {xs : List Value} (h : w.ownsRow B e s v n xs) : ∀ (j : Nat) (o : Obj), v.ownBlock = some j → w.heap[j]? = some o → o.isCells = true := by
  intro j o ej hj
  rcases h.2 with ⟨rfl, _⟩ | ⟨g, cap, cur, rfl, _, hh, _⟩
  · cases ej
  · obtain rfl : g = j := by simpa [Value.ownBlock] using ej
    rw [hh] at hj
    cases hj
    rfl
theorem row_at {w : World} {B : Nat} {e : TypeId} {s : Nat} {v : Value} {n : Nat} {xs : List Value} (h : w.ownsRow B e s v n xs) {g : Nat} (hg : v.ownBlock = some g) : ∃ o : Obj, w.heap[g]? = some o ∧ o.isCells = true := by
  rcases h.2 with ⟨rfl, _⟩ | ⟨g', cap, cur, rfl, _, hh, _⟩
  · cases hg
  · obtain rfl : g' = g := by simpa [Value.ownBlock] using hg
    exact ⟨_, hh, rfl⟩
theorem row_sameD {w w' : World} {B : Nat} {e : TypeId} {s : Nat} {v : Value} {n : Nat} {xs : List Value} (h : w.ownsRow B e s v n xs) (hg : ∀ g, v.ownBlock = some g → w'.heap[g]? = w.heap[g]?) : w'.ownsRow B e s v n xs := by
  refine ⟨h.1, ?_⟩
  rcases h.2 with hh | ⟨g, cap, cur, rfl, hge, hh, hr⟩
  · exact .inl hh
  · exact .inr ⟨g, cap, cur, rfl, hge, (hg g rfl).trans hh, hr⟩
theorem apX_own (w : World) : OwnFrom (w.heap.size + 1) (ApX w) := fun s W W' row h hg hr => by
  obtain ⟨u, hc, hf, ho, hn⟩ := h.box
  have hrow : ∀ r, row = some r → ∃ o : Obj, W.heap[r]? = some o ∧ o.isCells = false := fun r e => (hr r e).2
  refine ⟨⟨u, cell_kept hc hg hrow, (frozen_kept hc hg hrow).trans hf, row_sameD ho (fun g e => ?_), hn⟩, h.bel.grown hg h.bel.size (fun k e => by have := (hr k e).1; omega)⟩
  obtain ⟨o, h1, h2⟩ := row_at ho e
  exact grownBy_keeps_cells hg hrow h1 h2

set_option maxRecDepth 100000 in
set_option maxHeartbeats 2000000 in
theorem appendSeq_in (F : Fence) (n : Nat) (h50 : F.fn 134) (h58 : F.fn 131) (hro : F.round = none) (hn : 3 ≤ n) (B1 : Nat) (A : Option Addr) (len cap : Nat) (v : Nat → Int) (hlen : len ≤ 1048576) (w : World)
    (hB1 : B1 < w.heap.size) (ht : w.cell? ⟨B1, 0, none⟩ = some (.slice A len cap)) (hr : RdI w w.heap.size A len v) :
    CallsIn F n Try.prog 134 #[.slice none 0 0, .func (.func 131) #[] #[.pointer (some ⟨B1, 0, none⟩)]] w fun e W' => ∃ u, e = .returned u ∧ W'.ownsRow (w.heap.size + 1) 3 1 u len ((vlst v len).map (Value.int .i64)) ∧ (len = 0 → u = .slice none 0 0) ∧ Below w.heap.size w W' := by
  have h1 : 1 ≤ n := by omega
  have hseq := vals_stops F (n - 1) h58 hro (by omega) B1 w.heap.size A len cap v hlen w (Nat.le_refl _) hB1 ht hr
  clear ht hr
  have Hseq := Lib.hid hseq
  clear hseq
  obtain ⟨i0, hi, hz0, hz1, hz2⟩ := info_parts Try.infoInt
  refine callsIn_of_wp_marks Try.func134 rfl h50 ?_ hro
  simp only [Try.ntmps134, List.size_toArray, List.length_cons, List.length_nil, Nat.reduceAdd, Nat.reduceSub, Array.replicate_succ, Array.replicate_zero, List.push_toArray, List.append_toArray, List.nil_append, List.cons_append]
  gi_wp2
  have hbox : ApX w [] (w.alloc (.cells #[.slice none 0 0] 22)) := ⟨⟨_, by go_simp, by go_simp, World.ownsRow_nil _ _ _ _, fun _ => rfl⟩, bl_alloc (Below.refl _ _) _⟩
  refine wpIn_rangeFunc_ownF hro h1 (gf := 131) (lb := #[.pointer (some ⟨B1, 0, none⟩)]) rfl h58 (enters_of Try.func131 (by kernel_rfl) rfl)
    Hseq.out belowK_t (belowK_b (by simp)) (bl_alloc (Below.refl _ _) _) (fun _ => rfl)
    (ApX w)
    (fun _ _ _ => False)
    (by rw [World.size_alloc]; exact apX_own w)
    (fun _ _ _ _ _ hs _ _ => hs)
    hbox
    (fun x => { tmps := #[.slice none 0 0, .func (.func 131) #[] #[.pointer (some ⟨B1, 0, none⟩)], .pointer (some ⟨w.heap.size, 0, none⟩), undef, .slice none 0 0, .int .i64 x, .func (.func 131) #[] #[.pointer (some ⟨B1, 0, none⟩)], .int .i64 x, undef, undef, undef, undef, undef], defers := [] }) ?assign ?body ?done ?stop
  case assign =>
    intro l x W K hK
    gi_wp2
    exact hK
  case body =>
    rintro l pre x W ⟨⟨u, hc, hf, ho, hn⟩, hb⟩ hlen2
    have hbl : w.heap.size < W.heap.size := World.block_lt_of_cell? W ⟨w.heap.size, 0, none⟩ hc
    have far : some w.heap.size ≠ u.ownBlock := fun e => by have := (ho.lt _ e.symm).1; omega
    have hal := bl_alloc (Below.refl W.heap.size W) (.cells #[.int .i64 x] 3)
    have c1 := Lib.hid (kc hal hc)
    have f1 := Lib.hid (kf hal hbl hf)
    have hoA := Lib.hid (row_sameD ho (fun g e => by
      obtain ⟨o, h1, _⟩ := row_at ho e
      exact hal.block g (Array.getElem?_eq_some_iff.1 h1).1))
    have Far := Lib.hid far
    have Hi := Lib.hid hi
    have Hz0 := Lib.hid hz0
    have Hz1 := Lib.hid hz1
    have Hz2 := Lib.hid hz2
    have HB := Lib.hid hb
    have News := Lib.hid (World.news_of_block (w := W.alloc (.cells #[.int .i64 x] 3)) (B := W.heap.size) (cs := #[.int .i64 x]) (t := 3) (fr := (0, 0)) (heap_alloc_new W _))
    clear hal hi hz0 hz1 hz2 hb far hn ho hbox
    gi_wp2_with (gi_at_builtin; refine wpListIn_append_own _ (by rfl) _ _ 22 (by rfl) (w.heap.size + 1) 3 i0 _ 1 8 Try.underlying22 Hi.out Hz0.out Hz1.out Hz2.out rfl (by omega) u pre.length _ (by rfl) hoA.out ⟨W.heap.size, 0, none⟩ 1 1 [.int .i64 x] (by rfl) (by rfl) News.out (by simp [Value.oneCell']) (by unfold maxLen; omega) (by omega) (by simp; omega) ?_; intro v' w3 hown' hg3 hnil3; have t0 := hg3.cell (a := ⟨w.heap.size, 0, none⟩) c1.out Far.out; have u0 := (hg3.frozen_far ⟨w.heap.size, 0, none⟩ (by simp; omega) Far.out).trans f1.out; have HG := Lib.hid hg3; have HO := Lib.hid hown'; obtain ⟨g, cp, rfl⟩ := row_formD hown'; clear hown' hg3 hnil3)
    refine ⟨((KeepsOthers.alloc _ _).trans (KeepsOthers.of_grownBy HG.out (row_cellsD hoA.out))).trans (KeepsOthers.setCell _ _ _), ?_, ⟨⟨_, World.cell?_setCell_same' _ _ _ (by rw [t0]; rfl), by rw [World.frozen?_setCell]; exact u0, ?_, fun h => by simp at h⟩, ?_⟩⟩
    · exact (((Below.refl w.heap.size W).alloc (by omega) _).grown HG.out (by simp; omega) (fun k e => by have := (hoA.out.lt k e).1; omega)).setCell (Nat.le_refl _) _
    · rw [List.length_append, List.map_append]
      exact ownsRow_setCell_below HO.out (by show w.heap.size < w.heap.size + 1; omega) _
    · exact ((HB.out.alloc (by omega) _).grown HG.out (by simp; omega) (fun k e => by have := (hoA.out.lt k e).1; omega)).setCell (Nat.le_refl _) _
  case done =>
    rintro D ys W hD rfl ⟨⟨u, hc, hf, ho, hn⟩, hb⟩ hK
    have HO := Lib.hid ho
    have HN := Lib.hid hn
    have HB := Lib.hid hb
    clear ho hn hb hbox
    gi_wp2
    refine ⟨by simp, .inl ⟨_, _, rfl, run_takeDeferred hK, ?_⟩⟩
    refine ⟨_, results_tmp rfl _ _ _, u, rfl, ?_, fun h => HN.out (by rw [h]; rfl), HB.out.trans (belowK_b (w := w) (Nat.le_refl _) W D _ _ (by simp at hD; omega) hK rfl rfl)⟩
    have h2 := HO.out
    rw [vlst_length] at h2
    refine row_sameD h2 fun g e => World.putObj_heap_other fun e2 => ?_
    obtain ⟨o, h3, h4⟩ := row_at h2 e
    subst e2
    rw [hK] at h3
    cases h3
    cases h4
  case stop =>
    rintro D c pre W _ _ h _
    exact h.elim
end Go.Proofs.Ytjfcgehmeecnfaa
