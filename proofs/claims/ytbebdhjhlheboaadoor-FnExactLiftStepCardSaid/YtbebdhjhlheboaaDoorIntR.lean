/- Rows of ints that a call makes: built by appending, marked, asked (no claim of its own). Conditions: as each theorem states. -/
import Derived.Test.YtbebdhjhlheboaaDoorIntA
import Derived.Test.YtbebdhjhlheboaaDoorComB
import Derived.Deep.AppendLies
namespace Go.Proofs.YtbebdhjhlheboaaDoor
open Go.ChangeShapes Go.WideShapes Go.ChangeAt Go.RowKit

/-- A block of elements of type T that holds at least n ints: the first k of them are known. -/
def OwnV (w : World) (G : Nat) (T : TypeId) (n k : Nat) (v : Nat → Int) : Prop :=
  ∃ cs : Array Value, w.heap[G]? = some (.cells cs T (0, 0)) ∧ n ≤ cs.size ∧ ∀ i, i < k → cs[i]? = some (.int .i64 (v i))
section
variable {w w' : World} {G n k : Nat} {T : TypeId} {v v' : Nat → Int}
theorem OwnI.toV (h : OwnI w G n k v) : OwnV w G 3 n k v := by
  obtain ⟨cs, hh, h1, h2⟩ := h
  exact ⟨cs, hh, by omega, h2⟩
theorem OwnV.zero (h : OwnV w G T n k v) : OwnV w G T n 0 v' := by
  obtain ⟨cs, hh, h1, _⟩ := h
  exact ⟨cs, hh, h1, fun i hi => absurd hi (by omega)⟩
theorem OwnV.at_ (h : OwnV w G T n k v) (hg : w'.heap[G]? = w.heap[G]?) : OwnV w' G T n k v := by
  obtain ⟨cs, hh, h1, h2⟩ := h
  exact ⟨cs, hg.trans hh, h1, h2⟩
theorem OwnV.lt (h : OwnV w G T n k v) : G < w.heap.size := by
  obtain ⟨cs, hh, _, _⟩ := h
  rcases Nat.lt_or_ge G w.heap.size with hlt | hge
  · exact hlt
  · rw [Array.getElem?_eq_none hge] at hh; cases hh
theorem OwnV.below (h : OwnV w G T n k v) (hb : Below w.heap.size w w') : OwnV w' G T n k v := h.at_ (hb.block G h.lt)
theorem OwnV.rdAt (h : OwnV w G T n n v) : RdI w w.heap.size (some ⟨G, 0, none⟩) n v := fun _ => by
  have hlt := h.lt
  obtain ⟨cs, hh, h1, h2⟩ := h
  refine ⟨G, 0, rfl, hlt, fun i hi => ?_⟩
  rw [Nat.zero_add]
  exact (cell_of_row w G _ cs _ _ hh).trans (h2 i hi)
theorem OwnV.cell (h : OwnV w G T n k v) {j : Nat} (hj : j < n) : ∃ u, w.cell? ⟨G, j, none⟩ = some u := by
  obtain ⟨cs, hh, h1, h2⟩ := h
  exact ⟨cs[j]'(by omega), (cell_of_row w G _ cs _ _ hh).trans (Array.getElem?_eq_getElem (by omega))⟩
theorem OwnV.frozen (h : OwnV w G T n k v) (j : Nat) : w.frozen? ⟨G, j, none⟩ = false := by
  obtain ⟨cs, hh, h1, h2⟩ := h
  simp [World.frozen?, hh]
theorem OwnV.put (h : OwnV w G T n k v) (hk : k < n) : OwnV (w.setCell ⟨G, k, none⟩ (.int .i64 (v k))) G T n (k + 1) v := by
  obtain ⟨cs, hh, h1, h2⟩ := h
  refine ⟨cs.setIfInBounds k (.int .i64 (v k)), ?_, by simp [h1], fun i hi => ?_⟩
  · simp [World.setCell, Array.getElem?_modify, hh]
  · simp only [Array.getElem?_setIfInBounds]
    by_cases e : i = k
    · subst e
      rw [if_pos rfl, if_pos (by omega)]
    · rw [if_neg (by omega)]
      exact h2 i (by omega)
end

/-- A slice of ints that a call has made: nothing, or the head of a block of its own from B on. -/
def FrI (w : World) (B : Nat) (T : TypeId) (A : Option Addr) (n : Nat) (v : Nat → Int) : Prop := n = 0 ∨ ∃ G, A = some ⟨G, 0, none⟩ ∧ B ≤ G ∧ OwnV w G T n n v
section
variable {w w' : World} {B B' n n' : Nat} {T : TypeId} {A A' : Option Addr} {v : Nat → Int}
theorem FrI.rdAt (h : FrI w B T A n v) : RdI w w.heap.size A n v := by
  rcases h with h | ⟨G, rfl, _, h⟩
  · exact fun hn => absurd hn (by omega)
  · exact h.rdAt
theorem FrI.below (h : FrI w B T A n v) (hb : Below w.heap.size w w') : FrI w' B T A n v := by
  rcases h with h | ⟨G, e, hG, h⟩
  · exact .inl h
  · exact .inr ⟨G, e, hG, h.below hb⟩
theorem FrI.more (h : FrI w B T A n v) (hB : B' ≤ B) : FrI w B' T A n v := by
  rcases h with h | ⟨G, e, hG, h⟩
  · exact .inl h
  · exact .inr ⟨G, e, by omega, h⟩
theorem Only.belowI (h : Only w w' A n) (hf : FrI w B T A n v) (hB : B ≤ w.heap.size) : Below B w w' :=
  ⟨h.os, h.tape, h.output, h.size, fun k hk => h.block k (by omega) (by
    rcases hf with h0 | ⟨G, rfl, hG, _⟩
    · exact .inl h0
    · right
      intro a ha
      cases ha
      show k ≠ G
      omega)⟩
end

/-- Such a slice in a block from lo on and below hi. -/
def FI2 (w : World) (lo hi : Nat) (T : TypeId) (A : Option Addr) (n : Nat) (v : Nat → Int) : Prop := n = 0 ∨ ∃ G, A = some ⟨G, 0, none⟩ ∧ lo ≤ G ∧ G < hi ∧ OwnV w G T n n v
section
variable {w w' : World} {lo hi : Nat} {T : TypeId} {A A' : Option Addr} {n n' : Nat} {v : Nat → Int}
theorem FrI.two (h : FrI w lo T A n v) : FI2 w lo w.heap.size T A n v := by
  rcases h with h | ⟨G, e, hG, h⟩
  · exact .inl h
  · exact .inr ⟨G, e, hG, h.lt, h⟩
theorem FI2.one (h : FI2 w lo hi T A n v) : FrI w lo T A n v := by
  rcases h with h | ⟨G, e, hG, _, h⟩
  · exact .inl h
  · exact .inr ⟨G, e, hG, h⟩
theorem FI2.rdAt (h : FI2 w lo hi T A n v) : RdI w w.heap.size A n v := h.one.rdAt
theorem FI2.below (h : FI2 w lo hi T A n v) (hb : Below w.heap.size w w') : FI2 w' lo hi T A n v := by
  rcases h with h | ⟨G, e, hG, hG', h⟩
  · exact .inl h
  · exact .inr ⟨G, e, hG, hG', h.below hb⟩
theorem FI2.only (h : FI2 w lo hi T A n v) (ho : Only w w' A' n') (hd : n' = 0 ∨ ∀ a, A' = some a → a.block < lo ∨ hi ≤ a.block) : FI2 w' lo hi T A n v := by
  rcases h with h | ⟨G, e, hG, hG', h⟩
  · exact .inl h
  · refine .inr ⟨G, e, hG, hG', h.at_ (ho.block G h.lt ?_)⟩
    rcases hd with h0 | hd
    · exact .inl h0
    · exact .inr fun a ha hh => by have := hd a ha; omega
theorem FI2.apart (h : FI2 w lo hi T A n v) {lo' hi' : Nat} (hh : hi ≤ lo' ∨ hi' ≤ lo) : n = 0 ∨ ∀ a, A = some a → a.block < lo' ∨ hi' ≤ a.block := by
  rcases h with h | ⟨G, e, hG, hG', _⟩
  · exact .inl h
  · refine .inr fun a ha => ?_
    rw [e] at ha
    cases ha
    show G < lo' ∨ hi' ≤ G
    omega
theorem FI2.cell (h : FI2 w lo hi T A n v) (ho : Only w w' A n) {p : Addr} {u : Value} (hp : p.block < lo ∨ hi ≤ p.block) (hc : w.cell? p = some u) : w'.cell? p = some u := by
  refine (World.cell?_of_block (w := w) (ho.block p.block (World.block_lt_of_cell? w p hc) ?_)).trans hc
  rcases h with h | ⟨G, e, hG, hG', _⟩
  · exact .inl h
  · refine .inr fun a ha hh => ?_
    rw [e] at ha
    cases ha
    have : p.block = G := hh
    omega
theorem Only.belI (ho : Only w w' A n) (h : FI2 w lo hi T A n v) {W : World} (hb : Below W.heap.size W w) (hlo : W.heap.size ≤ lo) : Below W.heap.size W w' :=
  hb.trans ((ho.belowI (B := W.heap.size) (h.one.more hlo) hb.size))
end

/-- The numbers that the marking lays. -/
def mkI (k : Int) (i : Nat) : Int := k + i
theorem add1 (k : Int) (j : Nat) : Value.int .i64 (k + (j : Int) + 1) = .int .i64 (k + ((j + 1 : Nat) : Int)) := by
  congr 1
  omega

set_option maxRecDepth 100000 in
set_option maxHeartbeats 800000 in
theorem markIntS_own {T : TypeId} (G n cap : Nat) (v : Nat → Int) (k : Int) (w : World) (hn : n ≤ 1048576) (hk0 : 0 ≤ k) (hk1 : k ≤ 16777216) (ho : OwnV w G T n n v) :
    Calls Tryd.prog 13 #[.slice (some ⟨G, 0, none⟩) n cap, .int .i64 k] w fun e w' => e = .returned (.int .i64 (k + n)) ∧ OwnV w' G T n n (mkI k) ∧ Only w w' (some ⟨G, 0, none⟩) n := by
  have hz := Lib.hid (ho.zero (v' := mkI k))
  clear ho
  go_enter Tryd.func13, Tryd.ntmps13
  go_wp2
  go_loopw [1, 5] (fun t i wr => ∃ j : Nat, j ≤ n ∧ i = .int .i64 j ∧ t = .int .i64 (k + j) ∧ OwnV wr G T n j (mkI k) ∧ Only w wr (some ⟨G, 0, none⟩) n) (fun _ i _ => n - (intOf i).toNat)
  case atStart => exact ⟨0, Nat.zero_le _, rfl, by simp, hz.out, Only.refl _ _ _⟩
  case round =>
    obtain ⟨j, hj, rfl, rfl, hown, hon⟩ := hrel
    by_cases hlt : j < n
    · obtain ⟨y1, hy1⟩ := hown.cell hlt
      have hf1 := hown.frozen j
      go_wp2
      go_roundw
      case rel => exact ⟨j + 1, by omega, by go_num, add1 k j, hown.put hlt, hon.set_ (by omega) _ _⟩
      case measure => simp [intOf]; omega
    · have e : j = n := by omega
      subst e
      go_wp2
      go_ret
      exact ⟨rfl, hown, hon⟩

set_option maxHeartbeats 800000 in
theorem markIntS_any {T : TypeId} (A : Option Addr) (n cap B : Nat) (v : Nat → Int) (k : Int) (w : World) (hn : n ≤ 1048576) (hk0 : 0 ≤ k) (hk1 : k ≤ 16777216) (hf : FrI w B T A n v) :
    Calls Tryd.prog 13 #[.slice A n cap, .int .i64 k] w fun e w' => e = .returned (.int .i64 (k + n)) ∧ FrI w' B T A n (mkI k) ∧ Only w w' A n := by
  rcases hf with rfl | ⟨G, rfl, hG, ho⟩
  · go_enter Tryd.func13, Tryd.ntmps13
    go_wp2
    go_loop [1, 5] (fun t i => i = .int .i64 0 ∧ t = .int .i64 k) (fun _ _ => 0)
    case atStart => exact ⟨rfl, rfl⟩
    case round =>
      obtain ⟨rfl, rfl⟩ := hrel
      go_wp2
      go_ret
      exact ⟨ret_int (by simp), .inl rfl, Only.refl _ _ _⟩
  · exact (markIntS_own G n cap v k w hn hk0 hk1 ho).mono fun e w' ⟨he, h1, h2⟩ => ⟨he, .inr ⟨G, rfl, hG, h1⟩, h2⟩

/-- An int as a value; a list of ints as a function of the place. -/
def vI (x : Int) : Value := .int .i64 x
def gI (L : List Int) (i : Nat) : Int := L.getD i 0

/-- A slice of elements of type T that a loop builds by appending: L so far; the cells of ks stay. -/
structure RowAt (w : World) (B : Nat) (T : TypeId) (ks : List (Nat × Nat × Value)) (L : List Int) (ov : Value) (wr : World) : Prop where
  own : wr.ownsRow B T 1 ov L.length (L.map vI)
  keep : ∀ x ∈ ks, x.1 < B ∧ wr.cell? ⟨x.1, x.2.1, none⟩ = some x.2.2
  bel : Below w.heap.size w wr
  lo : w.heap.size ≤ B
  hi : B ≤ wr.heap.size
section
variable {w wr wq w1 W : World} {B : Nat} {T : TypeId} {ks : List (Nat × Nat × Value)} {L : List Int} {ov : Value}
theorem row_below' {B : Nat} {e : TypeId} {s : Nat} {v : Value} {n : Nat} {xs : List Value} (h : w.ownsRow B e s v n xs) (hb : Below w.heap.size w w1) : w1.ownsRow B e s v n xs := by
  refine ⟨h.1, ?_⟩
  rcases h.2 with hh | ⟨g, cap, cur, e1, hg, hh, hr⟩
  · exact .inl hh
  · refine .inr ⟨g, cap, cur, e1, hg, (hb.block g ?_).trans hh, hr⟩
    rcases Nat.lt_or_ge g w.heap.size with hlt | hge
    · exact hlt
    · rw [Array.getElem?_eq_none hge] at hh; cases hh
theorem RowAt.below (h : RowAt w B T ks L ov wr) (hb : Below wr.heap.size wr wq) : RowAt w B T ks L ov wq :=
  ⟨row_below' h.own hb, fun x hx => ⟨(h.keep x hx).1, kc hb (h.keep x hx).2⟩, bl_trans h.bel hb, h.lo, Nat.le_trans h.hi hb.size⟩
theorem RowAt.at_ (h : RowAt w B T ks L ov wr) {j o : Nat} {v : Value} (hx : (j, o, v) ∈ ks) : wr.cell? ⟨j, o, none⟩ = some v := (h.keep _ hx).2
theorem RowAt.grow {X : Int} {g cap : Nat} (h : RowAt w B T ks L ov wq) (hown : w1.ownsRow B T 1 (.slice (some ⟨g, 0, none⟩) (L.length + 1) cap) (L.length + 1) (L.map vI ++ [.int .i64 X])) (hg : wq.grownBy w1 ov.ownBlock) :
    RowAt w B T ks (L ++ [X]) (.slice (some ⟨g, 0, none⟩) (L.length + 1) cap) w1 := by
  have hsz := hg.size
  refine ⟨?_, fun x hx => ?_, ?_, h.lo, Nat.le_trans h.hi hsz⟩
  · rw [List.length_append, List.map_append]
    exact hown
  · obtain ⟨h1, h2⟩ := h.keep x hx
    exact ⟨h1, hg.cell (a := ⟨x.1, x.2.1, none⟩) h2 (fun e => by have := (h.own.lt x.1 e.symm).1; omega)⟩
  · exact h.bel.grown hg h.bel.size (fun j e => by have := (h.own.lt j e).1; have := h.lo; omega)

set_option maxRecDepth 100000 in
set_option maxHeartbeats 800000 in
theorem wp_rowI {o : Oper} {a : Act} {K : Act → World → Prop} {Q : Exit → Act → World → Prop} (s x : Operand) (t : TypeId)
    (ho : o.op = .call { callee := .builtin .append, args := #[s, x], argTypes := #[t, t] }) (ht : Tryd.prog.underlying t = some (.slice T))
    (hinf : (Tryd.prog.info? T).map (fun i => (i.zero, i.size, i.bytes)) = some (some (.int .i64 0), 1, 8))
    (h : RowAt w B T ks L ov wq) (hq : Below wq.heap.size wq W) (hs : a.eval s = ov) {H : Nat} (hx : a.eval x = .slice (some ⟨H, 0, none⟩) 1 1) {X : Int} {T' : TypeId} (hnew : W.heap[H]? = some (.cells #[.int .i64 X] T' (0, 0))) (hk : L.length ≤ 1048576)
    (hK : ∀ g cap w', RowAt w B T ks (L ++ [X]) (.slice (some ⟨g, 0, none⟩) (L.length + 1) cap) w' → K (a.put o.dst (.slice (some ⟨g, 0, none⟩) (L.length + 1) cap)) w') :
    o.wp Tryd.prog a W K Q := by
  obtain ⟨i0, hi, hz0, hz1, hz2⟩ := info_parts hinf
  have h' := h.below hq
  refine wp_append_lies _ s x t ho B T i0 _ 1 8 ht hi hz0 hz1 hz2 rfl (by omega) ov L.length _ hs h'.own ⟨H, 0, none⟩ 1 1 [.int .i64 X] hx (by rfl)
    (World.news_of_block hnew) (by simp [Value.oneCell']) (by omega) (by unfold maxLen; omega) (by omega) h'.hi W.heap.size rfl ?_
  intro g cap w' hown hg _ _
  exact hK g cap w' (h'.grow hown hg)

/-- What such a loop leaves is a slice that the call has made. -/
theorem RowAt.fr (h : RowAt w B T ks L ov wr) : ∃ A cap, ov = .slice A L.length cap ∧ FrI wr B T A L.length (gI L) := by
  rcases h.own.2 with ⟨hov, h0⟩ | ⟨g, cap, cur, hov, hg, hh, hnc, _, hsz, htk⟩
  · exact ⟨none, 0, by rw [hov]; simp_all, .inl (by simp_all)⟩
  · refine ⟨_, cap, hov, .inr ⟨g, rfl, hg, cur, hh, by omega, fun i hi => ?_⟩⟩
    have hx : (L.map vI)[i]? = some (vI (gI L i)) := by
      rw [List.getElem?_map, List.getElem?_eq_getElem hi]
      simp [gI, List.getD, List.getElem?_eq_getElem hi]
    rw [← htk, List.getElem?_take_of_lt (by omega)] at hx
    simpa [vI] using hx
theorem rowAt_nil (hb : Below w.heap.size w wr) (h1 : w.heap.size ≤ B) (h2 : B ≤ wr.heap.size) (hk : ∀ x ∈ ks, x.1 < B ∧ wr.cell? ⟨x.1, x.2.1, none⟩ = some x.2.2) : RowAt w B T ks [] (.slice none 0 0) wr :=
  ⟨World.ownsRow_nil _ _ _ _, hk, hb, h1, h2⟩
end
end Go.Proofs.YtbebdhjhlheboaaDoor
