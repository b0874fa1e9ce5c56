/- Slices of constraints that a draw makes (no claim of its own). Conditions: as each theorem states. · The draw of a problem (no claim of its own). Conditions: as each theorem states. · The draw of a problem that may be made invalid (no claim of its own). Conditions: as each theorem states. · The draw of SatisfiesAll's arguments (no claim of its own). Conditions: as each theorem states. · Two problems, one behind the other (no claim of its own). Conditions: as each theorem states. · The draw of Propagate's arguments (no claim of its own). Conditions: as each theorem states. -/
import Derived.Test.YtbebdhjhlheboaaGreatDrwJ
import Derived.Test.YtbebdhjhlheboaaGreatProA
import Derived.Test.YtbebdhjhlheboaaGreatSatC
import Derived.Test.YtbebdhjhlheboaaGreatDrwE
import Derived.Test.YtbebdhjhlheboaaGreatPgZ
namespace Go.Proofs.YtbebdhjhlheboaaGreat
open Go.ChangeShapes Go.WideShapes Go.ChangeAt Go.RowKit

/-- The two cells of a constraint of at most N terms, whose terms lie in a block from el on. -/
def El (w : World) (el N : Nat) (a b : Value) : Prop := ∃ A n cap bd, a = .slice A n cap ∧ b = .int .i64 bd ∧ n ≤ N ∧ FE w el A n ∧ CapOk A n cap
/-- A slice of k constraints that the draw has made in a block from lo on; the cells are xs. -/
structure PX (w : World) (lo el N : Nat) (ov : Value) (k : Nat) (xs : List Value) : Prop where
  own : w.ownsRow lo 33 2 ov k xs
  len : xs.length = k * 2
  els : ∀ i, i < k → ∃ a b, xs[i * 2]? = some a ∧ xs[i * 2 + 1]? = some b ∧ El w el N a b
section
variable {w w1 W : World} {R lo el N N' k G : Nat} {ov a b : Value} {xs : List Value} {A : Option Addr}
theorem El.bel (h : El w el N a b) (hb : Below w.heap.size w w1) : El w1 el N a b := by
  obtain ⟨A, n, cap, bd, e1, e2, h1, h2, h3⟩ := h
  exact ⟨A, n, cap, bd, e1, e2, h1, h2.bel hb, h3⟩
theorem El.gr (h : El w el N a b) (hg : Gr R w w1) (hR : R < el) : El w1 el N a b := by
  obtain ⟨A, n, cap, bd, e1, e2, h1, h2, h3⟩ := h
  exact ⟨A, n, cap, bd, e1, e2, h1, h2.gr hg hR, h3⟩
theorem El.up (h : El w el N a b) (hN : N ≤ N') : El w el N' a b := by
  obtain ⟨A, n, cap, bd, e1, e2, h1, h2, h3⟩ := h
  exact ⟨A, n, cap, bd, e1, e2, by omega, h2, h3⟩
/-- A block of constraints is none of terms. -/
theorem FE.other (h : FE w el A k) {g : Nat} {cur : Array Value} (hg : w.heap[g]? = some (.cells cur 33 (0, 0))) (hb : ∀ j, j < w.heap.size → j ≠ g → w1.heap[j]? = w.heap[j]?) : FE w1 el A k := by
  obtain ⟨c, l, h⟩ := h
  rcases h with h | ⟨G, e, hG, h⟩
  · exact ⟨c, l, .inl h⟩
  · refine ⟨c, l, .inr ⟨G, e, hG, h.at_ (hb G h.lt ?_)⟩⟩
    intro e'
    obtain ⟨cs, hh, _, _⟩ := h
    rw [e', hg] at hh
    injection hh with hh
    injection hh with _ h2 _
    exact absurd h2 (by decide)
theorem El.other (h : El w el N a b) {g : Nat} {cur : Array Value} (hg : w.heap[g]? = some (.cells cur 33 (0, 0))) (hb : ∀ j, j < w.heap.size → j ≠ g → w1.heap[j]? = w.heap[j]?) : El w1 el N a b := by
  obtain ⟨A, n, cap, bd, e1, e2, h1, h2, h3⟩ := h
  exact ⟨A, n, cap, bd, e1, e2, h1, h2.other hg hb, h3⟩
theorem PX.bel (h : PX w lo el N ov k xs) (hb : Below w.heap.size w w1) : PX w1 lo el N ov k xs :=
  ⟨row_below' h.own hb, h.len, fun i hi => by obtain ⟨a, b, h1, h2, h3⟩ := h.els i hi; exact ⟨a, b, h1, h2, h3.bel hb⟩⟩
theorem PX.gr (h : PX w lo el N ov k xs) (hg : Gr R w w1) (hR : R < lo) (hR' : R < el) : PX w1 lo el N ov k xs := by
  refine ⟨h.own.kept hg ?_, h.len, fun i hi => by obtain ⟨a, b, h1, h2, h3⟩ := h.els i hi; exact ⟨a, b, h1, h2, h3.gr hg hR'⟩⟩
  cases e : ov.ownBlock with
  | none => exact .inl rfl
  | some j =>
    right
    intro e'
    cases e'
    have := (h.own.lt _ e).1
    omega
theorem PX.lt (h : PX w lo el N ov k xs) : ∀ j, ov.ownBlock = some j → lo ≤ j ∧ j < w.heap.size := fun j e => h.own.lt j e
theorem PX.one (h : PX w lo el N ov k xs) : ∀ u ∈ xs, u.oneCell' = true := fun u hu => by
  obtain ⟨j, hj, e⟩ := List.mem_iff_getElem.1 hu
  have hj2 : j < k * 2 := by have := h.len; omega
  have hx : xs[j]? = some u := by rw [List.getElem?_eq_getElem hj, e]
  obtain ⟨i, hi | hi⟩ : ∃ i, j = i * 2 ∨ j = i * 2 + 1 := ⟨j / 2, by omega⟩
  · obtain ⟨a, b, h1, h2, A, n, cap, bd, e1, e2, _⟩ := h.els i (by omega)
    rw [hi, h1] at hx
    cases hx
    rw [e1]
    rfl
  · obtain ⟨a, b, h1, h2, A, n, cap, bd, e1, e2, _⟩ := h.els i (by omega)
    rw [hi, h2] at hx
    cases hx
    rw [e2]
    rfl
theorem PX.nil_or (h : PX w lo el N ov k xs) : (ov = .slice none 0 0 ∧ k = 0) ∨ ∃ g cap cur, ov = .slice (some ⟨g, 0, none⟩) k cap ∧ w.heap[g]? = some (.cells cur 33 (0, 0)) := by
  rcases h.own.2 with h1 | ⟨g, cap, cur, e, _, hh, _⟩
  · exact .inl h1
  · exact .inr ⟨g, cap, cur, e, hh⟩

theorem px_lit (W : World) (el N : Nat) : PX (W.alloc (.cells #[] 33)) W.heap.size el N (.slice (some ⟨W.heap.size, 0, none⟩) 0 0) 0 [] :=
  ⟨by simpa using World.ownsRow_lit W #[] 0 (Nat.le_refl _) (by unfold maxLen; omega) (by simp), by simp, fun i hi => by omega⟩

/-- The cells of a slice of constraints that came in. -/
def SrcC (W : World) (A : Option Addr) (m : Nat) (ys : List Value) : Prop := ys.length = m * 2 ∧ (∀ u ∈ ys, u.oneCell' = true) ∧ ∀ a, A = some a → ∀ j u, ys[j]? = some u → W.cell? (a.add j) = some u
theorem PX.src {cap : Nat} (h : PX w lo el N (.slice A k cap) k xs) : SrcC w A k xs := by
  refine ⟨h.len, h.one, fun a e j u hu => ?_⟩
  rcases h.own.2 with ⟨h1, _⟩ | ⟨g, cap', cur, e1, _, hh, _⟩
  · cases h1; cases e
  · cases e1
    cases e
    exact h.own.cells rfl j u hu

theorem run_appC (W : World) {B0 : Nat} {v : Value} {n m cap : Nat} {ys : List Value} (hown : W.ownsRow B0 33 2 v n xs) (hs : SrcC W A m ys) (hm0 : A = none → m = 0) (hcap : A = none → cap = 0) (hB : B0 ≤ W.heap.size) (hn : n + m ≤ 1000000) :
    ∃ v' w', (Builtin.append_ #[23, 23] 23 #[v, .slice A m cap]).run Tryz.prog W = .ok v' w' ∧ w'.ownsRow B0 33 2 v' (n + m) (xs ++ ys) ∧ W.grownBy w' v.ownBlock := by
  obtain ⟨i0, hi, hz0, hz1, hz2⟩ := info_parts Tryz.infoCon
  obtain ⟨h1, h2, h3⟩ := hs
  cases A with
  | none =>
    obtain rfl := hcap rfl
    obtain rfl := hm0 rfl
    obtain rfl : ys = [] := List.length_eq_zero_iff.1 (by omega)
    exact ⟨v, W, run_append_owned_none (P := Tryz.prog) (w := W) B0 23 23 33 i0 2 Tryz.underlying23 hi v n _ hown, by simpa using hown, ⟨rfl, rfl, rfl, Nat.le_refl _, fun _ _ _ => rfl⟩⟩
  | some a =>
    obtain ⟨v', w', k1, k2, k3, _, _⟩ := run_append_own_at (P := Tryz.prog) W B0 23 23 33 i0 _ 2 32 Tryz.underlying23 hi hz0 hz1 hz2 rfl (by omega) v n _ hown a m cap ys h1 (h3 a rfl) h2 (by unfold maxLen; omega) (by omega) hB
    exact ⟨v', w', k1, k2, k3⟩

set_option maxRecDepth 100000 in
set_option maxHeartbeats 800000 in
/-- The append of one constraint to a slice that the draw has made. -/
theorem wp_px1 {o : Oper} {a : Act} {K : Act → World → Prop} {Q : Exit → Act → World → Prop} (s x : Operand)
    (ho : o.op = .call { callee := .builtin .append, args := #[s, x], argTypes := #[23, 23] })
    (h : PX W lo el N ov k xs) (hlo : lo ≤ W.heap.size) (hs : a.eval s = ov) {H : Nat} (hx : a.eval x = .slice (some ⟨H, 0, none⟩) 1 1) {A : Option Addr} {n cap : Nat} {bd : Int} {T' : TypeId} (hnew : W.heap[H]? = some (.cells #[.slice A n cap, .int .i64 bd] T' (0, 0))) (hel : El W el N (.slice A n cap) (.int .i64 bd)) (hk : k ≤ 10000)
    (hK : ∀ g cap' w' zs, PX w' lo el N (.slice (some ⟨g, 0, none⟩) (k + 1) cap') (k + 1) zs → W.grownBy w' ov.ownBlock → K (a.put o.dst (.slice (some ⟨g, 0, none⟩) (k + 1) cap')) w') :
    o.wp Tryz.prog a W K Q := by
  obtain ⟨i0, hi, hz0, hz1, hz2⟩ := info_parts Tryz.infoCon
  refine wp_append_lies _ s x 23 ho lo 33 i0 _ 2 32 Tryz.underlying23 hi hz0 hz1 hz2 rfl (by omega) ov k _ hs h.own ⟨H, 0, none⟩ 1 1 [.slice A n cap, .int .i64 bd] hx (by rfl)
    (World.news_of_block hnew) (by simp [Value.oneCell']) (by omega) (by unfold maxLen; omega) (by omega) hlo W.heap.size rfl ?_
  intro g cap' w' hown hg _ _
  have hkeep : ∀ {a b : Value}, El W el N a b → El w' el N a b := fun {a b} he => by
    rcases h.nil_or with ⟨e, _⟩ | ⟨g0, cap0, cur, e, hh⟩
    · obtain ⟨A, n, cap, bd, e1, e2, h1, h2, h3⟩ := he
      refine ⟨A, n, cap, bd, e1, e2, h1, ?_, h3⟩
      obtain ⟨c, l, hf⟩ := h2
      rcases hf with hf | ⟨G, eG, hG, hf⟩
      · exact ⟨c, l, .inl hf⟩
      · exact ⟨c, l, .inr ⟨G, eG, hG, hf.at_ (hg.block G hf.lt (by rw [e]; intro h; cases h))⟩⟩
    · exact he.other hh (fun j hj hne => hg.block j hj (by rw [e]; intro h; cases h; exact hne rfl))
  refine hK g cap' w' _ ⟨hown, by rw [List.length_append, h.len]; simp; omega, fun i hi => ?_⟩ hg
  by_cases e : i = k
  · subst e
    refine ⟨.slice A n cap, .int .i64 bd, ?_, ?_, hkeep hel⟩
    · rw [List.getElem?_append_right (by rw [h.len]; omega), h.len]; simp
    · rw [List.getElem?_append_right (by rw [h.len]; omega), h.len]; simp
  · obtain ⟨a, b, h1, h2, h3⟩ := h.els i (by omega)
    refine ⟨a, b, ?_, ?_, hkeep h3⟩
    · rw [List.getElem?_append_left (by rw [h.len]; omega)]; exact h1
    · rw [List.getElem?_append_left (by rw [h.len]; omega)]; exact h2
end
end Go.Proofs.YtbebdhjhlheboaaGreat

namespace Go.Proofs.YtbebdhjhlheboaaGreat
open Go.ChangeShapes Go.WideShapes Go.ChangeAt Go.RowKit

/-- What the draw of a problem leaves. -/
def PDr (w : World) (R K N : Nat) (e : Ending) (w' : World) : Prop := ∃ A k cap xs, e = .returned (.slice A k cap) ∧ k ≤ 8 ∧ (A = none → cap = 0) ∧ (A = none → k = 0) ∧ PX w' w.heap.size (R + 1) N (.slice A k cap) k xs ∧ Gr R w w' ∧ Rdr w' R K
theorem PX.nils {w : World} {lo el N k cap : Nat} {A : Option Addr} {xs : List Value} (h : PX w lo el N (.slice A k cap) k xs) : (A = none → cap = 0) ∧ (A = none → k = 0) := by
  rcases h.nil_or with ⟨e, hk⟩ | ⟨g, cap0, cur, e, _⟩
  · cases e; exact ⟨(fun _ => rfl), (fun _ => rfl)⟩
  · cases e; exact ⟨(fun h => by cases h), (fun h => by cases h)⟩

set_option maxRecDepth 100000 in
set_option maxHeartbeats 3200000 in
theorem problem_any (R K : Nat) (w : World) (hK : K ≤ 800000) (h : Rdr w R K) :
    Calls Tryz.prog 35 #[.pointer (some ⟨R, 0, none⟩)] w (PDr w R (K + 1000) 12) := by
  have hRw := h.lt
  have HR := Lib.hid h
  clear h
  go_enter Tryz.func35, Tryz.ntmps35
  go_upto_region 2 with fail
  have HB0 := Lib.hid (bl_alloc (Below.refl w.heap.size w) (.cells #[] 33))
  have HP0 := Lib.hid (px_lit w (R + 1) 12)
  have hz0 : w.heap.size < (w.alloc (.cells #[] 33)).heap.size := by simp
  generalize w.alloc (.cells #[] 33) = W0 at *
  have RD0 := Lib.hid (HR.out.bel HB0.out)
  have GR0 := Lib.hid (Gr.of (R := R) HB0.out)
  go_wp2_with fail
  refine (num_from (bl_alloc (Below.refl W0.heap.size W0) _) R K W0.heap.size 4 _ _ (by omega) RD0.out (by omega) (heap_alloc_new W0 _) (by rfl) (by omega) (by omega) (lit_all [4, 5, 3, 6])).mono ?_
  rintro e w1 ⟨m, rfl, hmem, hg, hr⟩
  obtain ⟨mm, rfl, hmm⟩ : ∃ q : Nat, m = (q : Int) ∧ q ≤ 12 := by
    simp [vI] at hmem
    rcases hmem with e | e | e | e
    · exact ⟨4, e, by omega⟩
    · exact ⟨5, e, by omega⟩
    · exact ⟨3, e, by omega⟩
    · exact ⟨6, e, by omega⟩
  have GR1 := Lib.hid (GR0.out.trans hg)
  have RD1 := Lib.hid hr
  have HP1 := Lib.hid (HP0.out.gr hg hRw (by omega))
  have hz1 : w.heap.size < w1.heap.size := Nat.lt_of_lt_of_le hz0 hg.size
  clear hg hr hmem GR0 RD0 HP0
  go_wp2_with fail
  refine (num_from (bl_alloc (Below.refl w1.heap.size w1) _) R (K + 1) w1.heap.size 7 _ _ (by omega) RD1.out (by omega) (heap_alloc_new w1 _) (by rfl) (by omega) (by omega) (lit_all [4, 6, 3, 8, 2, 1, 0])).mono ?_
  rintro e w2 ⟨i0, rfl, hmem, hg, hr⟩
  obtain ⟨ii, rfl, hii⟩ : ∃ q : Nat, i0 = (q : Int) ∧ q ≤ 8 := by
    simp [vI] at hmem
    rcases hmem with e | e | e | e | e | e | e
    · exact ⟨4, e, by omega⟩
    · exact ⟨6, e, by omega⟩
    · exact ⟨3, e, by omega⟩
    · exact ⟨8, e, by omega⟩
    · exact ⟨2, e, by omega⟩
    · exact ⟨1, e, by omega⟩
    · exact ⟨0, e, by omega⟩
  have GR2 := Lib.hid (GR1.out.trans hg)
  have RD2 := Lib.hid hr
  have HP2 := Lib.hid (HP1.out.gr hg hRw (by omega))
  have hz2 : w.heap.size < w2.heap.size := Nat.lt_of_lt_of_le hz1 hg.size
  clear hg hr hmem GR1 RD1 HP1
  go_wp2
  go_loopw [3, 5] (fun t i wr => ∃ (j k : Nat) (xs : List Value), k + j ≤ 8 ∧ i = .int .i64 j ∧ PX wr w.heap.size (R + 1) 12 t k xs ∧ Gr R w wr ∧ Rdr wr R (K + 2 + 100 * k)) (fun _ i _ => (intOf i).toNat)
  case atStart => exact ⟨ii, 0, _, by omega, rfl, HP2.out, GR2.out, RD2.out⟩
  case round =>
    obtain ⟨j, k, xs, hjk, rfl, hp, hgr, hrd⟩ := hrel
    have HP := Lib.hid hp
    have GR := Lib.hid hgr
    have RD := Lib.hid hrd
    have hsz : w.heap.size ≤ wr.heap.size := hgr.size
    clear hp hgr hrd
    cases j with
    | zero =>
      rcases HP.out.nil_or with ⟨e, hk0⟩ | ⟨g, cap0, cur, e, _⟩
      · subst e
        subst hk0
        go_wp2
        go_ret
        exact ⟨_, 0, _, _, rfl, by omega, fun _ => rfl, fun _ => rfl, HP.out, GR.out, RD.out.more (by omega)⟩
      · subst e
        go_wp2
        go_ret
        exact ⟨_, k, _, _, rfl, by omega, (HP.out.nils).1, (HP.out.nils).2, HP.out, GR.out, RD.out.more (by omega)⟩
    | succ j =>
      have hj1 : (0 : Int) < ((j + 1 : Nat) : Int) := by omega
      go_wp2_with fail
      refine (draw_any R (K + 2 + 100 * k) mm _ (by omega) hmm RD.out).mono ?_
      rintro e w3 ⟨A', n, cap', bd, rfl, hn, hfe, hg, hr, hcp⟩
      have HP3 := Lib.hid (HP.out.gr hg hRw (by omega))
      have GR3 := Lib.hid (GR.out.trans hg)
      have RD3 := Lib.hid hr
      have HE := Lib.hid (show El w3 (R + 1) 12 (.slice A' n cap') (.int .i64 bd) from ⟨A', n, cap', bd, rfl, rfl, by omega, hfe.more (by omega), hcp⟩)
      have hz3 : w.heap.size ≤ w3.heap.size := GR3.out.size
      clear hfe hg hr hcp HP GR RD
      have HAl := Lib.hid (bl_alloc (Below.refl w3.heap.size w3) (.cells #[.slice A' n cap', .int .i64 bd] 33))
      go_wp2_with (at_builtin; refine wpList_plain (by rfl) fun K' hK' => ?_; refine wp_px1 _ _ (by rfl) (HP3.out.bel HAl.out) (by simp; omega) (by rfl) (by rfl) (heap_alloc_new _ _) (HE.out.bel HAl.out) (by omega) ?_; intro gg cap1 w4 zs hp4 hgr4; refine hK' _ _ ?_; clear hK' K')
      go_roundw
      case rel => exact ⟨j, k + 1, zs, by omega, by first | rfl | go_num | (congr 1; omega), hp4, (GR3.out.bel HAl.out).grow hgr4 (fun b e => (HP3.out.lt b e).1), ((RD3.out.bel HAl.out).grow hgr4 (fun b e => by have := (HP3.out.lt b e).1; omega)).more (by omega)⟩
      case measure => simp [intOf]; try omega
end Go.Proofs.YtbebdhjhlheboaaGreat

namespace Go.Proofs.YtbebdhjhlheboaaGreat
open Go.ChangeShapes Go.WideShapes Go.ChangeAt Go.RowKit

section
variable {w w1 W : World} {R lo el N N' k G : Nat} {ov a b : Value} {xs : List Value} {A : Option Addr}
theorem PX.shape (h : PX w lo el N ov k xs) : ∃ A cap, ov = .slice A k cap := by
  rcases h.nil_or with ⟨e, hk⟩ | ⟨g, cap, cur, e, _⟩
  · exact ⟨none, 0, by rw [e, hk]⟩
  · exact ⟨_, cap, e⟩
theorem PX.up (h : PX w lo el N ov k xs) (hN : N ≤ N') : PX w lo el N' ov k xs :=
  ⟨h.own, h.len, fun i hi => by obtain ⟨a, b, h1, h2, h3⟩ := h.els i hi; exact ⟨a, b, h1, h2, h3.up hN⟩⟩
/-- The slice copied into an empty one. -/
theorem px_copy {cap : Nat} {v' : Value} {w' : World} (hp : PX w lo el N (.slice A k cap) k xs) (hown : w'.ownsRow w.heap.size 33 2 v' (0 + k) ([] ++ xs)) (hg : (w.alloc (.cells #[] 33)).grownBy w' (some w.heap.size)) :
    PX w' w.heap.size el N v' k xs := by
  rw [Nat.zero_add, List.nil_append] at hown
  refine ⟨hown, hp.len, fun i hi => ?_⟩
  obtain ⟨a, b, h1, h2, h3⟩ := hp.els i hi
  exact ⟨a, b, h1, h2, (h3.bel (bl_alloc (Below.refl _ _) _)).other (heap_alloc_new w _) (fun j hj hne => hg.block j hj (by intro e; cases e; exact hne rfl))⟩
theorem PX.put {g cap y n' cap' : Nat} {bd : Int} (h : PX w lo el N (.slice (some ⟨g, 0, none⟩) k cap) k xs) (hy : y < k) {A' : Option Addr} (he : El w el N (.slice A' n' cap') (.int .i64 bd)) :
    ∃ zs, PX ((w.setCell ⟨g, y * 2, none⟩ (.slice A' n' cap')).setCell ⟨g, y * 2 + 1, none⟩ (.int .i64 bd)) lo el N (.slice (some ⟨g, 0, none⟩) k cap) k zs := by
  have hlen := h.len
  rcases h.nil_or with ⟨e, hk⟩ | ⟨g0, cap0, cur, e, hh⟩
  · omega
  · cases e
    have hkeep : ∀ {a b : Value}, El w el N a b → El ((w.setCell ⟨g, y * 2, none⟩ (.slice A' n' cap')).setCell ⟨g, y * 2 + 1, none⟩ (.int .i64 bd)) el N a b := fun {a b} hE =>
      hE.other hh (fun j hj hne => (Below.heap_setCell _ ⟨g, y * 2 + 1, none⟩ _ j hne).trans (Below.heap_setCell w ⟨g, y * 2, none⟩ _ j hne))
    refine ⟨_, ((h.own.stored (y * 2) (.slice A' n' cap')).1.stored (y * 2 + 1) (.int .i64 bd)).1, by simp [hlen], fun i hi => ?_⟩
    by_cases e : i = y
    · subst e
      refine ⟨.slice A' n' cap', .int .i64 bd, ?_, ?_, hkeep he⟩
      · rw [List.getElem?_set_ne (by omega), List.getElem?_set_self (by omega)]
      · rw [List.getElem?_set_self (by simp; omega)]
    · obtain ⟨a, b, h1, h2, h3⟩ := h.els i hi
      refine ⟨a, b, ?_, ?_, hkeep h3⟩
      · rw [List.getElem?_set_ne (by omega), List.getElem?_set_ne (by omega)]; exact h1
      · rw [List.getElem?_set_ne (by omega), List.getElem?_set_ne (by omega)]; exact h2

theorem wp_appC {o : Oper} {a : Act} {K : Act → World → Prop} {Q : Exit → Act → World → Prop} (s x : Operand)
    (ho : o.op = .call { callee := .builtin .append, args := #[s, x], argTypes := #[23, 23] }) (hty : o.type = 23)
    {B0 : Nat} {v : Value} {n m cap : Nat} {ys : List Value} (hs : a.eval s = v) (hx : a.eval x = .slice A m cap)
    (hown : W.ownsRow B0 33 2 v n xs) (hsrc : SrcC W A m ys) (hm0 : A = none → m = 0) (hcap : A = none → cap = 0) (hB : B0 ≤ W.heap.size) (hn : n + m ≤ 1000000)
    (h : ∀ v' w', w'.ownsRow B0 33 2 v' (n + m) (xs ++ ys) → W.grownBy w' v.ownBlock → K (a.put o.dst v') w') :
    o.wp Tryz.prog a W K Q := by
  obtain ⟨v', w', hrun, h2, h3⟩ := run_appC W hown hsrc hm0 hcap hB hn
  unfold Oper.wp execOp
  simp only [ho, hty, resolve, invoke, builtin, Sem.run_bind, Sem.run_pure, Result.andThen_ok, List.map_toArray, List.map_cons, List.map_nil, hs, hx, hrun]
  exact h v' w' h2 h3
end

set_option maxRecDepth 100000 in
set_option maxHeartbeats 6400000 in
theorem mutateP_any (R K N : Nat) (A : Option Addr) (k cap lo : Nat) (xs : List Value) (w : World) (hK : K ≤ 800000) (hN : N ≤ 100) (hk : k ≤ 8) (h : Rdr w R K) (hp : PX w lo (R + 1) N (.slice A k cap) k xs) :
    Calls Tryz.prog 15 #[.pointer (some ⟨R, 0, none⟩), .slice A k cap] w (PDr w R (K + 40) (N + 3)) := by
  have hRw := h.lt
  have HR := Lib.hid h
  have HP := Lib.hid hp
  have HN1 := Lib.hid hp.nils
  have HBa := Lib.hid (bl_alloc (Below.refl w.heap.size w) (.cells #[] 33))
  have HOw := Lib.hid (px_lit w (R + 1) N).own
  clear h hp
  go_enter Tryz.func15, Tryz.ntmps15
  by_cases hk0 : 0 < k
  · have hkI : (0 : Int) < (k : Int) := by omega
    go_wp2_with (at_builtin; refine wpList_plain (by rfl) fun K' hK' => ?_; refine wp_appC _ _ (by rfl) (by rfl) (by rfl) (by rfl) HOw.out (HP.out.bel HBa.out).src HN1.out.2 HN1.out.1 (by simp) (by omega) ?_; intro v1 w1 hown1 hg1; have HP1 := Lib.hid (px_copy HP.out hown1 hg1); obtain ⟨A1, cap1, e1⟩ := HP1.out.shape; subst e1; have GR1 := Lib.hid ((Gr.of (R := R) HBa.out).grow (ov := .slice (some ⟨w.heap.size, 0, none⟩) 0 0) hg1 (by intro j e; cases e; exact Nat.le_refl _)); have RD1 := Lib.hid ((HR.out.bel HBa.out).grow (ov := .slice (some ⟨w.heap.size, 0, none⟩) 0 0) hg1 (by intro j e; cases e; exact hRw)); clear hown1 hg1; refine hK' _ _ ?_; clear hK' K')
    refine (pick_any R K 20 _ (by omega) RD1.out).mono ?_
    rintro e w2 ⟨x, rfl, hx0, hx1, hg, hr⟩
    have HP2 := Lib.hid (HP1.out.gr hg hRw (by omega))
    have GR2 := Lib.hid (GR1.out.trans hg)
    have RD2 := Lib.hid hr
    clear hg hr HP1 GR1 RD1
    by_cases h0 : x = 0
    · subst h0
      clear hx0 hx1
      go_wp2_with fail
      refine (pick_any R (K + 1) (k : Int) _ (by omega) RD2.out).mono ?_
      rintro e w3 ⟨yy, rfl, hy0, hy1, hg, hr⟩
      obtain ⟨y, rfl⟩ := Int.eq_ofNat_of_zero_le hy0
      have hy : y < k := by omega
      have HP3 := Lib.hid (HP2.out.gr hg hRw (by omega))
      have GR3 := Lib.hid (GR2.out.trans hg)
      have RD3 := Lib.hid hr
      clear hg hr HP2 GR2 RD2 hy0 hy1
      rcases HP3.out.nil_or with ⟨_, hkk⟩ | ⟨g, capg, cur, e, _⟩
      · exact absurd hkk (by omega)
      cases e
      obtain ⟨va, vb, hxa, hxb, An, n, capn, bd, rfl, rfl, hn, ⟨c, l, hfr⟩, hcp⟩ := HP3.out.els y hy
      have c0 : w3.cell? ⟨g, y * 2, none⟩ = some (.slice An n capn) := (HP3.out.own.cellAt (y * 2) (by omega)).trans hxa
      have c1 : w3.cell? ⟨g, y * 2 + 1, none⟩ = some (.int .i64 bd) := (HP3.out.own.cellAt (y * 2 + 1) (by omega)).trans hxb
      have HRd := Lib.hid hfr.rdAt
      have HCp := Lib.hid hcp
      have hyI : (y : Int) < (k : Int) := by omega
      clear hxa hxb hfr hcp
      go_wp2_with fail
      refine (mutate_any R (K + 1 + 1) _ _ _ _ c l _ (by omega) (by omega) RD3.out HRd.out HCp.out).mono ?_
      rintro e w4 ⟨A4, n4, cap4, bd4, rfl, hn4, hfe, hg, hr, hcp⟩
      obtain ⟨c4, l4, hfr⟩ := hfe
      have HP4 := Lib.hid (HP3.out.gr hg hRw (by omega))
      have GR4 := Lib.hid (GR3.out.trans hg)
      have RD4 := Lib.hid hr
      have HRd4 := Lib.hid hfr.rdAt
      have HCp4 := Lib.hid hcp
      clear hg hr hfr hcp HP3 GR3 RD3 HRd HCp c0 c1
      go_wp2_with fail
      refine (mutate_any R (K + 1 + 1 + 10) _ _ _ _ c4 l4 _ (by omega) (by omega) RD4.out HRd4.out HCp4.out).mono ?_
      rintro e w5 ⟨A5, n5, cap5, bd5, rfl, hn5, hfe, hg, hr, hcp⟩
      obtain ⟨c5, l5, hfr⟩ := hfe
      have HP5 := Lib.hid (HP4.out.gr hg hRw (by omega))
      have GR5 := Lib.hid (GR4.out.trans hg)
      have RD5 := Lib.hid hr
      have HRd5 := Lib.hid hfr.rdAt
      have HCp5 := Lib.hid hcp
      clear hg hr hfr hcp HP4 GR4 RD4 HRd4 HCp4
      go_wp2_with fail
      refine (mutate_any R (K + 1 + 1 + 10 + 10) _ _ _ _ c5 l5 _ (by omega) (by omega) RD5.out HRd5.out HCp5.out).mono ?_
      rintro e w6 ⟨A6, n6, cap6, bd6, rfl, hn6, hfe, hg, hr, hcp⟩
      have HE := Lib.hid (show El w6 (R + 1) (N + 3) (.slice A6 n6 cap6) (.int .i64 bd6) from ⟨A6, n6, cap6, bd6, rfl, rfl, by omega, hfe.more (by have := RD5.out.lt; omega), hcp⟩)
      have HP6 := Lib.hid ((HP5.out.gr hg hRw (by omega)).up (show N ≤ N + 3 by omega))
      have GR6 := Lib.hid (GR5.out.trans hg)
      have RD6 := Lib.hid hr
      clear hg hr hfe hcp HP5 GR5 RD5 HRd5 HCp5
      obtain ⟨zs, hps⟩ := HP6.out.put hy HE.out
      have HPs := Lib.hid hps
      obtain ⟨va, vb, hxa, hxb, _⟩ := HP6.out.els y hy
      have u0 : w6.cell? ⟨g, y * 2, none⟩ = some va := (HP6.out.own.cellAt (y * 2) (by omega)).trans hxa
      have u1 : w6.cell? ⟨g, y * 2 + 1, none⟩ = some vb := (HP6.out.own.cellAt (y * 2 + 1) (by omega)).trans hxb
      have f0 := HP6.out.own.frozenAt (y * 2)
      have f1 := HP6.out.own.frozenAt (y * 2 + 1)
      have HG := Lib.hid (show w.heap.size ≤ g from (HP6.out.lt g rfl).1)
      clear hxa hxb hps
      go_wp2
      go_ret
      exact ⟨_, k, _, zs, rfl, hk, (fun h => by cases h), (fun h => by cases h), HPs.out, (GR6.out.set (p := ⟨g, y * 2, none⟩) (.inr HG.out) _).set (p := ⟨g, y * 2 + 1, none⟩) (.inr HG.out) _, ((RD6.out.set (p := ⟨g, y * 2, none⟩) (by show R < g; have := HG.out; omega) _).set (p := ⟨g, y * 2 + 1, none⟩) (by show R < g; have := HG.out; omega) _).more (by omega)⟩
    · have hd0 : (x == 0) = false := by rw [beq_eq_false_iff_ne]; exact h0
      clear hx0 hx1 h0
      go_wp2
      go_ret
      exact ⟨_, k, _, _, rfl, hk, HP2.out.nils.1, HP2.out.nils.2, HP2.out.up (by omega), GR2.out, RD2.out.more (by omega)⟩
  · obtain rfl : k = 0 := by omega
    go_wp2_with (at_builtin; refine wpList_plain (by rfl) fun K' hK' => ?_; refine wp_appC _ _ (by rfl) (by rfl) (by rfl) (by rfl) HOw.out (HP.out.bel HBa.out).src HN1.out.2 HN1.out.1 (by simp) (by omega) ?_; intro v1 w1 hown1 hg1; have HP1 := Lib.hid (px_copy HP.out hown1 hg1); obtain ⟨A1, cap1, e1⟩ := HP1.out.shape; subst e1; have GR1 := Lib.hid ((Gr.of (R := R) HBa.out).grow (ov := .slice (some ⟨w.heap.size, 0, none⟩) 0 0) hg1 (by intro j e; cases e; exact Nat.le_refl _)); have RD1 := Lib.hid ((HR.out.bel HBa.out).grow (ov := .slice (some ⟨w.heap.size, 0, none⟩) 0 0) hg1 (by intro j e; cases e; exact hRw)); clear hown1 hg1; refine hK' _ _ ?_; clear hK' K')
    go_ret
    exact ⟨_, 0, _, _, rfl, by omega, HP1.out.nils.1, HP1.out.nils.2, HP1.out.up (by omega), GR1.out, RD1.out.more (by omega)⟩
end Go.Proofs.YtbebdhjhlheboaaGreat

namespace Go.Proofs.YtbebdhjhlheboaaGreat
open Go.ChangeShapes Go.WideShapes Go.ChangeAt Go.RowKit

theorem gr_bel' {w w1 w5 : World} {R : Nat} (hb : Below w.heap.size w w1) (hg : Gr R w1 w5) (hR : w.heap.size ≤ R) : Below w.heap.size w w5 :=
  ⟨hg.os.trans hb.os, hg.tape.trans hb.tape, hg.output.trans hb.output, Nat.le_trans hb.size hg.size, fun k hk => (hg.block k (Nat.lt_of_lt_of_le hk hb.size) (by intro e; cases e; omega)).trans (hb.block k hk)⟩
/-- Such a slice is a slice of constraints that reads. -/
theorem PX.rdp {w : World} {lo el N k cap : Nat} {A : Option Addr} {xs : List Value} (h : PX w lo el N (.slice A k cap) k xs) : ∃ p : Nat → Con, (∀ i, i < k → (p i).n ≤ N) ∧ RdP w w.heap.size A k p := by
  have hall : ∀ i, ∃ q : Con, i < k → q.n ≤ N ∧ ∃ A c, xs[i * 2]? = some (.slice A q.n c) ∧ xs[i * 2 + 1]? = some (.int .i64 q.bd) ∧ Rd w w.heap.size A q.n q.c q.l := fun i => by
    by_cases hi : i < k
    · obtain ⟨a, b, h1, h2, A, n, cap, bd, rfl, rfl, hn, ⟨c, l, hfr⟩, _⟩ := h.els i hi
      exact ⟨⟨n, bd, c, l⟩, fun _ => ⟨hn, A, cap, h1, h2, hfr.rdAt⟩⟩
    · exact ⟨⟨0, 0, fun _ => 0, fun _ => 0⟩, fun h => absurd h hi⟩
  obtain ⟨p, hp⟩ : ∃ p : Nat → Con, ∀ i, i < k → (p i).n ≤ N ∧ ∃ A c, xs[i * 2]? = some (.slice A (p i).n c) ∧ xs[i * 2 + 1]? = some (.int .i64 (p i).bd) ∧ Rd w w.heap.size A (p i).n (p i).c (p i).l := ⟨fun i => (hall i).choose, fun i => (hall i).choose_spec⟩
  refine ⟨p, fun i hi => (hp i hi).1, fun hk => ?_⟩
  rcases h.nil_or with ⟨_, h0⟩ | ⟨g, cap0, cur, e, hh⟩
  · omega
  · cases e
    have hlt : g < w.heap.size := by
      rcases Nat.lt_or_ge g w.heap.size with hlt | hge
      · exact hlt
      · rw [Array.getElem?_eq_none hge] at hh; cases hh
    refine ⟨g, 0, rfl, hlt, fun i hi => ?_⟩
    obtain ⟨_, A, c, h1, h2, h3⟩ := hp i hi
    rw [Nat.zero_add]
    exact ⟨A, c, (h.own.cellAt (i * 2) (by omega)).trans h1, (h.own.cellAt (i * 2 + 1) (by omega)).trans h2, h3⟩

/-- What the draw of a problem and values leaves. -/
def DSa (w : World) (e : Ending) (w' : World) : Prop := ∃ Al k capl xs lo el Av kv capv v, e = .returned (.tuple #[.slice Al k capl, .slice Av kv capv]) ∧ k ≤ 8 ∧ kv ≤ 12 ∧ PX w' lo el 15 (.slice Al k capl) k xs ∧ RdB w' w'.heap.size Av kv v ∧ Below w.heap.size w w'

end Go.Proofs.YtbebdhjhlheboaaGreat

namespace Go.Proofs.YtbebdhjhlheboaaGreat
open Go.ChangeShapes Go.WideShapes Go.ChangeAt Go.RowKit

/-- The cells of constraints, and what they say. -/
def PxP (w : World) (k : Nat) (p : Nat → Con) (xs : List Value) : Prop := ∀ i, i < k → ∃ A c, xs[i * 2]? = some (.slice A (p i).n c) ∧ xs[i * 2 + 1]? = some (.int .i64 (p i).bd) ∧ Rd w w.heap.size A (p i).n (p i).c (p i).l
section
variable {w w1 : World} {lo el N k m : Nat} {xs ys : List Value} {p q : Nat → Con} {ov : Value}
theorem PxP.later (h : PxP w k p xs) (hb : Below w.heap.size w w1) : PxP w1 k p xs := fun i hi => by
  obtain ⟨A, c, h1, h2, h3⟩ := h i hi
  exact ⟨A, c, h1, h2, h3.later hb⟩
theorem PX.pxp (h : PX w lo el N ov k xs) : ∃ p : Nat → Con, (∀ i, i < k → (p i).n ≤ N) ∧ PxP w k p xs := by
  have hall : ∀ i, ∃ q : Con, i < k → q.n ≤ N ∧ ∃ A c, xs[i * 2]? = some (.slice A q.n c) ∧ xs[i * 2 + 1]? = some (.int .i64 q.bd) ∧ Rd w w.heap.size A q.n q.c q.l := fun i => by
    by_cases hi : i < k
    · obtain ⟨a, b, h1, h2, A, n, cap, bd, rfl, rfl, hn, ⟨c, l, hfr⟩, _⟩ := h.els i hi
      exact ⟨⟨n, bd, c, l⟩, fun _ => ⟨hn, A, cap, h1, h2, hfr.rdAt⟩⟩
    · exact ⟨⟨0, 0, fun _ => 0, fun _ => 0⟩, fun h => absurd h hi⟩
  exact ⟨fun i => (hall i).choose, fun i hi => ((hall i).choose_spec hi).1, fun i hi => ((hall i).choose_spec hi).2⟩
theorem rdp_own {A : Option Addr} {cap : Nat} (h : w.ownsRow lo 33 2 (.slice A k cap) k xs) (hp : PxP w k p xs) : RdP w w.heap.size A k p := fun hk => by
  rcases h.2 with ⟨e, h0⟩ | ⟨g, cap0, cur, e, hg, hh, _⟩
  · omega
  · cases e
    have hlt : g < w.heap.size := by
      rcases Nat.lt_or_ge g w.heap.size with hlt | hge
      · exact hlt
      · rw [Array.getElem?_eq_none hge] at hh; cases hh
    refine ⟨g, 0, rfl, hlt, fun i hi => ?_⟩
    obtain ⟨A, c, h1, h2, h3⟩ := hp i hi
    rw [Nat.zero_add]
    exact ⟨A, c, (h.cellAt (i * 2) (by omega)).trans h1, (h.cellAt (i * 2 + 1) (by omega)).trans h2, h3⟩
/-- One behind the other. -/
def catP (k : Nat) (p q : Nat → Con) (i : Nat) : Con := if i < k then p i else q (i - k)
theorem PxP.cat (hp : PxP w k p xs) (hq : PxP w m q ys) (hl : xs.length = k * 2) : PxP w (k + m) (catP k p q) (xs ++ ys) := fun i hi => by
  unfold catP
  by_cases h : i < k
  · obtain ⟨A, c, h1, h2, h3⟩ := hp i h
    rw [if_pos h]
    exact ⟨A, c, by rw [List.getElem?_append_left (by omega)]; exact h1, by rw [List.getElem?_append_left (by omega)]; exact h2, h3⟩
  · obtain ⟨A, c, h1, h2, h3⟩ := hq (i - k) (by omega)
    rw [if_neg h]
    refine ⟨A, c, ?_, ?_, h3⟩
    · rw [List.getElem?_append_right (by omega), hl, show i * 2 - k * 2 = (i - k) * 2 by omega]; exact h1
    · rw [List.getElem?_append_right (by omega), hl, show i * 2 + 1 - k * 2 = (i - k) * 2 + 1 by omega]; exact h2
theorem allV_cat (k m : Nat) (p q : Nat → Con) : allV (catP k p q) (k + m) = (allV p k && allV q m) := by
  have h1 : ∀ j, j ≤ k → allV (catP k p q) j = allV p j := by
    intro j
    induction j with
    | zero => intro _; rfl
    | succ j ih =>
      intro hj
      unfold allV
      rw [ih (by omega), show catP k p q j = p j from if_pos (by omega)]
  induction m with
  | zero => rw [Nat.add_zero, h1 k (Nat.le_refl _)]; simp [allV]
  | succ m ih =>
    show (allV (catP k p q) (k + m) && _) = (allV p k && (allV q m && _))
    have hc : catP k p q (k.add m) = q m := by
      show catP k p q (k + m) = q m
      unfold catP
      rw [if_neg (by omega)]
      congr 1
      omega
    rw [ih, hc, Bool.and_assoc]
theorem allE_cat (k m : Nat) (p q : Nat → Con) (v : Nat → Bool) : allE (catP k p q) v (k + m) = (allE p v k && allE q v m) := by
  have h1 : ∀ j, j ≤ k → allE (catP k p q) v j = allE p v j := by
    intro j
    induction j with
    | zero => intro _; rfl
    | succ j ih =>
      intro hj
      unfold allE
      rw [ih (by omega), show catP k p q j = p j from if_pos (by omega)]
  induction m with
  | zero => rw [Nat.add_zero, h1 k (Nat.le_refl _)]; simp [allE]
  | succ m ih =>
    show (allE (catP k p q) v (k + m) && _) = (allE p v k && (allE q v m && _))
    have hc : catP k p q (k.add m) = q m := by
      show catP k p q (k + m) = q m
      unfold catP
      rw [if_neg (by omega)]
      congr 1
      omega
    rw [ih, hc, Bool.and_assoc]
/-- Problems are conjunctions. -/
theorem satB_cat {nv : Nat} {v : Nat → Bool} (hk : k + m ≤ 400) : satB (k + m) (catP k p q) nv v = (satB k p nv v && satB m q nv v) := by
  unfold satB probB
  rw [allV_cat, allE_cat, decide_eq_true (show k + m ≤ 400 from hk), decide_eq_true (show k ≤ 400 by omega), decide_eq_true (show m ≤ 400 by omega)]
  cases allV p k <;> cases allV q m <;> cases (nv == 12) <;> cases allE p v k <;> cases allE q v m <;> rfl
theorem row_shape {e : TypeId} {s n : Nat} (h : w.ownsRow lo e s ov n xs) : ∃ A cap, ov = .slice A n cap := by
  rcases h.2 with ⟨e, h0⟩ | ⟨g, cap, cur, e, _⟩
  · exact ⟨none, 0, by rw [e, h0]⟩
  · exact ⟨_, cap, e⟩
/-- An operation whose guard holds, at the list of a plain region's operations. -/
theorem wpList_want {P : Program} {ops : Array Oper} {rest : List Oper} {o : Oper} {a : Act} {w : World} {Q : Exit → Act → World → Prop} (hw : Region.wanted o (yielded ops a.tmps) = true) (h : ∀ K : Act → World → Prop, (∀ a' w', wpList P ops Q rest a' w' → K a' w') → o.wp P a w K Q) : wpList P ops Q (o :: rest) a w := by
  show (if Region.wanted o (yielded ops a.tmps) = true then _ else _)
  rw [if_pos hw]
  exact .inl (h _ fun _ _ h => h)
end
end Go.Proofs.YtbebdhjhlheboaaGreat

namespace Go.Proofs.YtbebdhjhlheboaaGreat
open Go.ChangeShapes Go.WideShapes Go.ChangeAt Go.RowKit

theorem FrI.cellAt {w : World} {B n : Nat} {T : TypeId} {A : Option Addr} {v : Nat → Int} (h : FrI w B T A n v) {j : Nat} (hj : j < n) : ∃ G, A = some ⟨G, 0, none⟩ ∧ B ≤ G ∧ G < w.heap.size ∧ w.cell? ⟨G, j, none⟩ = some (.int .i64 (v j)) ∧ w.frozen? ⟨G, j, none⟩ = false ∧ ∀ z, FrI (w.setCell ⟨G, j, none⟩ (.int .i64 z)) B T A n (fun i => if i = j then z else v i) := by
  rcases h with h | ⟨G, e, hG, h⟩
  · omega
  · have hlt := h.lt
    have hf := h.frozen j
    refine ⟨G, e, hG, hlt, ?_, hf, fun z => .inr ⟨G, e, hG, h.setI hj z⟩⟩
    obtain ⟨cs, hh, h1, h2⟩ := h
    exact (cell_of_row w G _ cs _ _ hh).trans (h2 j hj)
theorem FrI.gr {w w' : World} {B n R : Nat} {T : TypeId} {A : Option Addr} {v : Nat → Int} (h : FrI w B T A n v) (hg : Gr R w w') (hR : R < B) : FrI w' B T A n v := by
  rcases h with h | ⟨G, e, hG, h⟩
  · exact .inl h
  · exact .inr ⟨G, e, hG, h.at_ (hg.block G h.lt (by intro e; cases e; omega))⟩

/-- What the draw of a problem and a partial assignment leaves. -/
def DPr (w : World) (e : Ending) (w' : World) : Prop := ∃ Al k capl xs lo el Av kv capv v, e = .returned (.tuple #[.slice Al k capl, .slice Av kv capv]) ∧ k ≤ 8 ∧ kv ≤ 12 ∧ PX w' lo el 15 (.slice Al k capl) k xs ∧ RdI w' w'.heap.size Av kv v ∧ Below w.heap.size w w'

end Go.Proofs.YtbebdhjhlheboaaGreat

