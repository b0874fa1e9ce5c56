/- A scope with two labels; what a search may turn (no claim of its own). Conditions: as each theorem states. -/
import Derived.Test.YtaenbajghblgiaaSrcB
import Derived.Scope
namespace Go.Proofs.Ytaenbajghblgiaa
open Go.ChangeShapes Go.WideShapes Go.ChangeAt Go.RowKit

/-- As Q; by a goto to one of the labels 0 and 1: J. -/
def Exit.jumps2 (J : Nat → Act → World → Prop) (Q : Exit → Act → World → Prop) : Exit → Act → World → Prop
  | .goto l, a, w => (l = 0 ∨ l = 1) ∧ J l a w
  | e, a, w => Q e a w
theorem Exit.jumps2_mono {J J' : Nat → Act → World → Prop} {Q : Exit → Act → World → Prop} (h : ∀ l a w, J l a w → J' l a w) : ∀ e a w, Exit.jumps2 J Q e a w → Exit.jumps2 J' Q e a w := fun e a w he => by
  cases e with
  | goto l => exact ⟨he.1, h _ _ _ he.2⟩
  | _ => exact he
section
variable {P : Program} {a : Act} {w : World} {Q : Exit → Act → World → Prop}
/-- A scope into which the run goes ahead of two labels, the second behind the first; J n holds at every jump and at the first label, and every pass lowers n. -/
theorem wp_scope_two {A B X Y : Code} (J : Nat → Nat → Act → World → Prop) (hA : findLabel A 0 = none) (hA1 : findLabel A 1 = none) (hB : findLabel B 0 = none) (hB1 : findLabel B 1 = none) (hX : findLabel X 1 = some (.seq .skip Y))
    (h0 : A.wp P (Exit.then (B.wp P (Exit.then (fun a w => ∃ n, J 0 n a w) (Exit.noGoto Q))) (Exit.noGoto Q)) a w)
    (hC : ∀ n a w, J 1 n a w → Y.wp P (Exit.jumps2 (fun l a' w' => ∃ n', n' < n ∧ J l n' a' w') Q) a w)
    (hV : (∀ n a w, J 1 n a w → Y.wp P (Exit.jumps2 (fun l a' w' => ∃ n', n' < n ∧ J l n' a' w') Q) a w) → ∀ n a w, J 0 n a w → X.wp P (Exit.jumps2 (fun l a' w' => ∃ n', n' < n ∧ J l n' a' w') Q) a w) :
    (Code.scope (.seq A (.seq B (.seq (.label 0) X)))).wp P Q a w := by
  obtain ⟨c, hc⟩ : ∃ c, Code.seq A (.seq B (.seq (.label 0) X)) = c := ⟨_, rfl⟩
  have f0 : findLabel c 0 = some (.seq .skip X) := by rw [← hc]; simp [findLabel, hA, hB]
  have f1 : findLabel c 1 = some (.seq .skip Y) := by rw [← hc]; simp [findLabel, hA1, hB1, hX]
  have pass : ∀ l, (l = 0 ∨ l = 1) → ∃ rest, findLabel c l = some rest ∧ ∀ n a w, J l n a w → rest.wp P (Exit.jumps2 (fun l' a' w' => ∃ n', n' < n ∧ J l' n' a' w') Q) a w := by
    rintro l (rfl | rfl)
    · exact ⟨_, f0, fun n a w h => wp_seq (wp_skip (hV hC n a w h))⟩
    · exact ⟨_, f1, fun n a w h => wp_seq (wp_skip (hC n a w h))⟩
  have first : c.wp P (Exit.jumps2 (fun l a w => ∃ n, J l n a w) Q) a w := by
    rw [← hc]
    have hn : ∀ e a w, Exit.noGoto Q e a w → Exit.jumps2 (fun l a w => ∃ n, J l n a w) Q e a w := fun e a w he => by
      cases e with
      | goto l => exact he.elim
      | _ => exact he
    refine wp_seq (wp_mono h0 fun e a w he => ?_)
    cases e with
    | normal =>
      refine wp_seq (wp_mono he fun e a w he => ?_)
      cases e with
      | normal =>
        obtain ⟨n, hj⟩ := he
        exact wp_seq (wp_label (wp_mono (hV hC n a w hj) (Exit.jumps2_mono fun l a w ⟨n', _, h⟩ => ⟨n', h⟩)))
      | exit id => exact hn (.exit id) a w he
      | goto l => exact hn (.goto l) a w he
      | ret => exact hn .ret a w he
      | panic ch => exact hn (.panic ch) a w he
      | outgrown => exact hn .outgrown a w he
    | exit id => exact hn (.exit id) a w he
    | goto l => exact hn (.goto l) a w he
    | ret => exact hn .ret a w he
    | panic ch => exact hn (.panic ch) a w he
    | outgrown => exact hn .outgrown a w he
  clear hC hV h0 hA hA1 hB hB1 hX
  clear f0 f1
  intro b k cs
  have hg : ∀ l rest, findLabel c l = some rest → gotoIn l (.inScope c :: k) = some (.code rest :: .inScope c :: k) := fun l rest h => by simp [gotoIn, h]
  have key : ∀ n l rest a w, (∀ n a w, J l n a w → rest.wp P (Exit.jumps2 (fun l' a' w' => ∃ n', n' < n ∧ J l' n' a' w') Q) a w) → J l n a w → ∃ e a' w', Q e a' w' ∧ Arrives P (lone (b.at a (.code rest :: .inScope c :: k)) cs w) b k cs e a' w' := by
    intro n
    induction n using Nat.strongRecOn with
    | _ n ih =>
      intro l rest a w hr hJ
      obtain ⟨e, a₁, w₁, hq, harr⟩ := hr n a w hJ b (.inScope c :: k) cs
      cases e with
      | normal => exact ⟨.normal, a₁, w₁, hq, Steps.trans harr (.one step_inScope)⟩
      | exit id => exact ⟨.exit id, a₁, w₁, hq, fun k' hk => harr k' (by simp [exitTo, hk])⟩
      | goto l' =>
        obtain ⟨hl, n', hlt, hJ'⟩ := hq
        obtain ⟨rest', hf', hr'⟩ := pass l' hl
        obtain ⟨e₂, a₂, w₂, hq₂, harr₂⟩ := ih n' hlt l' rest' a₁ w₁ hr' hJ'
        exact ⟨e₂, a₂, w₂, hq₂, .of_steps (harr _ (hg l' rest' hf')) harr₂⟩
      | ret => exact ⟨_, a₁, w₁, hq, harr⟩
      | panic ch => exact ⟨_, a₁, w₁, hq, harr⟩
      | outgrown => exact ⟨_, a₁, w₁, hq, harr⟩
  rw [hc]
  obtain ⟨e, a₁, w₁, hq, harr⟩ := first b (.inScope c :: k) cs
  cases e with
  | normal => exact ⟨.normal, a₁, w₁, hq, .head step_scope (Steps.trans harr (.one step_inScope))⟩
  | exit id => exact ⟨.exit id, a₁, w₁, hq, fun k' hk => .head step_scope (harr k' (by simp [exitTo, hk]))⟩
  | goto l' =>
    obtain ⟨hl, n', hJ'⟩ := hq
    obtain ⟨rest', hf', hr'⟩ := pass l' hl
    obtain ⟨e₂, a₂, w₂, hq₂, harr₂⟩ := key n' l' rest' a₁ w₁ hr' hJ'
    exact ⟨e₂, a₂, w₂, hq₂, .of_steps (.head step_scope (harr _ (hg l' rest' hf'))) harr₂⟩
  | ret => exact ⟨_, a₁, w₁, hq, .of_steps (.one step_scope) harr⟩
  | panic ch => exact ⟨_, a₁, w₁, hq, .of_steps (.one step_scope) harr⟩
  | outgrown => exact ⟨_, a₁, w₁, hq, .of_steps (.one step_scope) harr⟩
end

/-- A row of decisions; or such a row or values. -/
def isDec (N k : Nat) (o : Obj) : Prop := N ≤ k ∧ ∃ cs fr, o = .cells cs 84 fr
def isOwn (N k : Nat) (o : Obj) : Prop := isDec N k o ∨ (N ≤ k ∧ ∃ cs fr, o = .cells cs 121 fr)
/-- Nothing that lay has turned but the box S and what E says. -/
structure Ms (E : Nat → Obj → Prop) (S : Nat) (A B : World) : Prop where
  os : B.os = A.os
  tape : B.tape = A.tape
  output : B.output = A.output
  size : A.heap.size ≤ B.heap.size
  block : ∀ k o, A.heap[k]? = some o → k ≠ S → ¬ E k o → B.heap[k]? = some o
/-- Nothing that holds cells has turned but the blocks of K, the box S, rows of decisions and values. -/
structure Rl (K : Nat → Prop) (N S : Nat) (A B : World) : Prop where
  os : B.os = A.os
  tape : B.tape = A.tape
  output : B.output = A.output
  size : A.heap.size ≤ B.heap.size
  block : ∀ k o, A.heap[k]? = some o → o.isCells = true → ¬ K k → k ≠ S → ¬ isOwn N k o → B.heap[k]? = some o
section
variable {K : Nat → Prop} {E E' : Nat → Obj → Prop} {N S : Nat} {A B C : World}
theorem lt_heap {w : World} {k : Nat} {o : Obj} (h : w.heap[k]? = some o) : k < w.heap.size := (Array.getElem?_eq_some_iff.1 h).1
theorem Ms.refl (E : Nat → Obj → Prop) (S : Nat) (A : World) : Ms E S A A := ⟨rfl, rfl, rfl, Nat.le_refl _, fun _ _ h _ _ => h⟩
theorem Ms.trans (h : Ms E S A B) (k : Ms E S B C) : Ms E S A C :=
  ⟨k.os.trans h.os, k.tape.trans h.tape, k.output.trans h.output, Nat.le_trans h.size k.size, fun i o hi h1 h2 => k.block i o (h.block i o hi h1 h2) h1 h2⟩
theorem Ms.mono (h : Ms E S A B) (hE : ∀ k o, E k o → E' k o) : Ms E' S A B := ⟨h.os, h.tape, h.output, h.size, fun k o hk h1 h2 => h.block k o hk h1 fun e => h2 (hE k o e)⟩
theorem Ms.own (h : Ms (isDec N) S A B) : Ms (isOwn N) S A B := h.mono fun _ _ h => .inl h
theorem ms_below (h : Below A.heap.size A B) : Ms E S A B := ⟨h.os, h.tape, h.output, h.size, fun k _ hk _ _ => (h.block k (lt_heap hk)).trans hk⟩
theorem Ms.setS (h : Ms E S A B) (o : Nat) (u : Value) : Ms E S A (B.setCell ⟨S, o, none⟩ u) :=
  ⟨h.os, h.tape, h.output, by simpa [World.setCell] using h.size, fun k x hk h1 h2 => (Below.heap_setCell B ⟨S, o, none⟩ u k h1).trans (h.block k x hk h1 h2)⟩
/-- A block of E's alone turns. -/
theorem ms_one {g : Nat} {ob : Obj} (hg : A.heap[g]? = some ob) (hd : E g ob) (h1 : B.os = A.os) (h2 : B.tape = A.tape) (h3 : B.output = A.output) (h4 : A.heap.size ≤ B.heap.size) (h5 : ∀ k, k < A.heap.size → k ≠ g → B.heap[k]? = A.heap[k]?) : Ms E S A B :=
  ⟨h1, h2, h3, h4, fun k x hk _ hx => by
    have hne : k ≠ g := fun e => by
      subst e
      rw [hg] at hk
      cases hk
      exact hx hd
    exact (h5 k (lt_heap hk) hne).trans hk⟩
theorem ms_setG {g : Nat} {ob : Obj} (hg : A.heap[g]? = some ob) (hd : E g ob) (o : Nat) (u : Value) : Ms E S A (A.setCell ⟨g, o, none⟩ u) :=
  ms_one hg hd rfl rfl rfl (by simp [World.setCell]) fun k _ hne => Below.heap_setCell A ⟨g, o, none⟩ u k hne
theorem Ms.grown {R : Option Nat} (h : Ms E S A B) (hg : B.grownBy C R) (hR : ∀ g, R = some g → ∃ ob, B.heap[g]? = some ob ∧ E g ob) : Ms E S A C :=
  ⟨hg.os.trans h.os, hg.tape.trans h.tape, hg.output.trans h.output, Nat.le_trans h.size hg.size, fun k x hk h1 h2 => by
    have h3 := h.block k x hk h1 h2
    refine (hg.block k (lt_heap h3) fun e => ?_).trans h3
    obtain ⟨ob, h4, h5⟩ := hR k e.symm
    rw [h3] at h4
    cases h4
    exact h2 h5⟩
theorem Ms.below (h : Ms E S A B) (hb : Below B.heap.size B C) : Ms E S A C := h.trans (ms_below hb)
theorem Rl.refl (K : Nat → Prop) (N S : Nat) (A : World) : Rl K N S A A := ⟨rfl, rfl, rfl, Nat.le_refl _, fun _ _ h _ _ _ _ => h⟩
theorem Rl.trans (h : Rl K N S A B) (k : Rl K N S B C) : Rl K N S A C :=
  ⟨k.os.trans h.os, k.tape.trans h.tape, k.output.trans h.output, Nat.le_trans h.size k.size, fun i o hi h0 h1 h2 h3 => k.block i o (h.block i o hi h0 h1 h2 h3) h0 h1 h2 h3⟩
theorem Ms.rl (h : Ms (isOwn N) S A B) : Rl K N S A B := ⟨h.os, h.tape, h.output, h.size, fun k o hk _ _ h2 h3 => h.block k o hk h2 h3⟩
end
/-- Nothing that holds cells has turned but the blocks of K. -/
structure Kx (K : Nat → Prop) (A B : World) : Prop where
  os : B.os = A.os
  tape : B.tape = A.tape
  output : B.output = A.output
  size : A.heap.size ≤ B.heap.size
  block : ∀ k o, A.heap[k]? = some o → o.isCells = true → ¬ K k → B.heap[k]? = some o
section
variable {K : Nat → Prop} {S B N : Nat} {w w' : World} {dv : Value} {D : List Int}
theorem Kx.rl (h : Kx K w w') : Rl K N S w w' := ⟨h.os, h.tape, h.output, h.size, fun k o hk hc hn _ _ => h.block k o hk hc hn⟩
theorem BoxS.kx {S : Nat} (h : BoxS w S B dv) (hk : Kx K w w') (hS : ¬ K S) : BoxS w' S B dv := hk.block S _ h rfl hS
theorem DecR.kx (h : DecR w N dv D) (hk : Kx K w w') (hN : ∀ k, K k → k < N) : DecR w' N dv D := by
  rcases h.cases_ with ⟨e, e2⟩ | ⟨g, cap, cur, e, h1, h2, h3, h4, h5, h6⟩
  · rw [e, e2]; exact DecR.nil _ _
  · rw [e]
    exact DecR.mk_ h1 (hk.block g _ h2 rfl fun hh => by have := hN g hh; omega) h3 h4 h5 h6
theorem DecR.blk (h : DecR w N dv D) (hb : Below w.heap.size w w') : ∀ g, dv.ownBlock = some g → ∃ ob, w'.heap[g]? = some ob ∧ isDec N g ob := fun g eg => by
  rcases h.cases_ with ⟨e, _⟩ | ⟨g', cap, cur, e, h1, h2, _⟩
  · rw [e] at eg; cases eg
  · rw [e] at eg
    cases eg
    exact ⟨_, (hb.block _ (lt_heap h2)).trans h2, h1, _, _, rfl⟩
theorem BoxS.grown {S : Nat} {u0 : Value} (hS : BoxS w S B u0) (h : DecR w N dv D) (hg : w.grownBy w' dv.ownBlock) : BoxS w' S B u0 := by
  refine hS.at_ (hg.block S hS.lt ?_)
  rcases h.cases_ with ⟨e, _⟩ | ⟨g', cap, cur, e, h1, h2, _⟩
  · rw [e]; intro h; cases h
  · rw [e]
    intro h
    have h3 : w.heap[S]? = _ := hS
    cases h
    rw [h2] at h3
    injection h3 with h3
    injection h3 with _ h4 _
    exact absurd h4 (by decide)
theorem DecR.setS {S : Nat} (h : DecR w N dv D) {u0 : Value} (hS : BoxS w S B u0) (o : Nat) (u : Value) : DecR (w.setCell ⟨S, o, none⟩ u) N dv D := by
  rcases h.cases_ with ⟨e, e2⟩ | ⟨g, cap, cur, e, h1, h2, h3, h4, h5, h6⟩
  · rw [e, e2]; exact DecR.nil _ _
  · rw [e]
    refine DecR.mk_ h1 ((Below.heap_setCell w ⟨S, o, none⟩ u g fun eg => ?_).trans h2) h3 h4 h5 h6
    have h7 : w.heap[S]? = _ := hS
    have eg' : g = S := eg
    rw [← eg', h2] at h7
    injection h7 with h7
    injection h7 with _ h8 _
    exact absurd h8 (by decide)
theorem DecR.at_ {S g k cap : Nat} (h : DecR w N (.slice (some ⟨g, 0, none⟩) k cap) D) {u0 : Value} (hS : BoxS w S B u0) : S ≠ g ∧ ∃ ob, w.heap[g]? = some ob ∧ isDec N g ob := by
  rcases h.cases_ with ⟨e, _⟩ | ⟨g', cap', cur, e, h1, h2, _⟩
  · cases e
  · injection e with e1 _ _
    injection e1 with e4
    injection e4 with e5
    subst e5
    refine ⟨fun e => ?_, _, h2, h1, _, _, rfl⟩
    have h3 : w.heap[S]? = _ := hS
    rw [e, h2] at h3
    injection h3 with h3
    injection h3 with _ h4 _
    exact absurd h4 (by decide)
theorem Kx.cell (h : Kx K w w') {b o : Nat} {v : Value} (hK : ¬ K b) (hc : w.cell? ⟨b, o, none⟩ = some v) : w'.cell? ⟨b, o, none⟩ = some v := by
  have hlt := World.block_lt_of_cell? w ⟨b, o, none⟩ hc
  have he : w.heap[b]? = some w.heap[b] := Array.getElem?_eq_getElem hlt
  refine (World.cell?_of_block (w := w) ((h.block b _ he ?_ hK).trans he.symm)).trans hc
  unfold World.cell? at hc
  simp only [he] at hc
  cases hb : w.heap[b] with
  | cells cs t fr => rfl
  | _ => simp [hb] at hc
end

set_option maxRecDepth 100000 in
set_option maxHeartbeats 1600000 in
/-- The decision that a variable is false. -/
theorem decide_any (S B N : Nat) (dv : Value) (D : List Int) (z : Int) (w : World) (hz0 : 1 ≤ z) (hz1 : z ≤ 12) (hD : D.length ≤ 1000) (hN : N ≤ w.heap.size) (hS : BoxS w S B dv) (hR : DecR w N dv D) :
    Calls Try.prog 81 #[.pointer (some ⟨S, 0, none⟩), .int .i64 z] w fun e w' => e = .returned (.tuple #[]) ∧ ∃ dv', BoxS w' S B dv' ∧ DecR w' N dv' (D ++ [-z]) ∧ Ms (isDec N) S w w' := by
  have hSl := hS.lt
  have HS := Lib.hid hS
  have HR := Lib.hid hR
  have c1 := hS.c1
  have c2 := hS.c2
  have f1 := hS.fr 1
  have HAl := Lib.hid (bl_alloc (Below.refl w.heap.size w) (.cells #[.int .i64 (-z)] 84))
  clear hS hR
  go_enter Try.func81, Try.ntmps81
  go_wp2_with (at_builtin; refine wpList_plain (by rfl) fun K' hK' => ?_; refine wp_dec1 _ _ (by rfl) (HR.out.below HAl.out) (by simp; omega) (by rfl) (by rfl) (heap_alloc_new _ _) hD ?_; intro g2 cap2 w2 hd2 hg2; have HD2 := Lib.hid hd2; have HM2 := Lib.hid (Ms.grown (E := isDec N) (S := S) ((Ms.refl _ S w).below HAl.out) hg2 (HR.out.blk HAl.out)); have HB2 := Lib.hid ((HS.out.below HAl.out).grown (HR.out.below HAl.out) hg2); clear hd2 hg2; have d1 := HB2.out.c1; have g1 := HB2.out.fr 1; refine hK' _ _ ?_; clear hK' K' c1 f1 c2)
  exact ⟨rfl, .tuple #[], by simp [results, Try.results81], rfl, _, HB2.out.set1, HD2.out.setS HB2.out _ _, HM2.out.setS _ _⟩

/-- Where a search stands: its box, its decisions, its values' box X; what it has given is pre. -/
structure ItS (K : Nat → Prop) (S B N Bx : Nat) (W0 : World) (J : List Nat → World → Prop) (W : World) (X : Nat) (D : List Int) (pre : List Nat) (dv : Value) : Prop where
  bx : W.heap[Bx]? = some (.cells #[.pointer (some ⟨S, 0, none⟩)] 90 (0, 0))
  box : BoxS W S B dv
  row : DecR W N dv D
  rl : Rl K N S W0 W
  okd : okD D
  j : J pre W
  hX : N ≤ X
  vb : ∃ cs, W.heap[X]? = some (.cells cs 121 (0, 0)) ∧ 12 ≤ cs.size
  hN : N ≤ W.heap.size
section
variable {K : Nat → Prop} {S B N Bx X : Nat} {W0 W W' : World} {J : List Nat → World → Prop} {D D' : List Int} {pre : List Nat} {dv dv' : Value}
theorem ItS.xb (h : ItS K S B N Bx W0 J W X D pre dv) : W.cell? ⟨Bx, 0, none⟩ = some (.pointer (some ⟨S, 0, none⟩)) := (cell_of_row W Bx _ _ _ _ h.bx).trans rfl
theorem ItS.move (h : ItS K S B N Bx W0 J W X D pre dv) (hJ : ∀ pre A B, J pre A → Ms (isOwn N) S A B → J pre B) (hm : Ms (isDec N) S W W') (hb : BoxS W' S B dv') (hr : DecR W' N dv' D') (hd : okD D') : ItS K S B N Bx W0 J W' X D' pre dv' := by
  have hne : Bx ≠ S := fun e => by
    have h1 := h.bx
    have h2 : W.heap[S]? = _ := h.box
    rw [e, h2] at h1
    injection h1 with h1
    injection h1 with _ h3 _
    exact absurd h3 (by decide)
  obtain ⟨cs, c1, c2⟩ := h.vb
  have hne2 : X ≠ S := fun e => by
    have h2 : W.heap[S]? = _ := h.box
    rw [e, h2] at c1
    injection c1 with h1
    injection h1 with _ h3 _
    exact absurd h3 (by decide)
  refine ⟨hm.block Bx _ h.bx hne ?_, hb, hr, h.rl.trans hm.own.rl, hd, hJ _ _ _ h.j hm.own, h.hX, ⟨cs, hm.block X _ c1 hne2 ?_, c2⟩, Nat.le_trans h.hN hm.size⟩
  · rintro ⟨_, c, f, e⟩
    injection e with _ e _
    exact absurd e (by decide)
  · rintro ⟨_, c, f, e⟩
    injection e with _ e _
    exact absurd e (by decide)
theorem ItS.below (h : ItS K S B N Bx W0 J W X D pre dv) (hJ : ∀ pre A B, J pre A → Ms (isOwn N) S A B → J pre B) (hb : Below W.heap.size W W') : ItS K S B N Bx W0 J W' X D pre dv :=
  h.move hJ (ms_below hb) (h.box.below hb) (h.row.below hb) h.okd
/-- The values are laid anew. -/
theorem other_cells {b : Nat} : ∀ (vs : List Value) (o : Nat) (w : World) (k : Nat), k ≠ b → (w.setCells b o vs).heap[k]? = w.heap[k]? := by
  intro vs
  induction vs with
  | nil => intro o w k _; rfl
  | cons v vs ih => intro o w k hk; exact (ih (o + 1) _ k hk).trans (Below.heap_setCell w ⟨b, o, none⟩ v k hk)
theorem same_cells {b : Nat} {T : TypeId} {fr : Nat × Nat} : ∀ (vs : List Value) (o : Nat) (w : World) (cs : Array Value), w.heap[b]? = some (.cells cs T fr) → ∃ cs', (w.setCells b o vs).heap[b]? = some (.cells cs' T fr) ∧ cs'.size = cs.size := by
  intro vs
  induction vs with
  | nil => intro o w cs h; exact ⟨cs, h, rfl⟩
  | cons v vs ih =>
    intro o w cs h
    obtain ⟨cs', h1, h2⟩ := ih (o + 1) (w.setCell ⟨b, o, none⟩ v) (cs.setIfInBounds o v) (by simp [World.setCell, Array.getElem?_modify, h])
    exact ⟨cs', h1, by simpa using h2⟩
theorem ItS.vals (h : ItS K S B N Bx W0 J W X D pre dv) (hJ : ∀ pre A B, J pre A → Ms (isOwn N) S A B → J pre B) (vs : List Value) : ItS K S B N Bx W0 J (W.setCells X 0 vs) X D pre dv := by
  obtain ⟨cs, c1, c2⟩ := h.vb
  obtain ⟨cs', d1, d2⟩ := same_cells vs 0 W cs c1
  have hb := below_cells (n := 0) (Nat.zero_le X) vs 0 W (Below.refl 0 W)
  have hm : Ms (isOwn N) S W (W.setCells X 0 vs) := ms_one c1 (.inr ⟨h.hX, _, _, rfl⟩) hb.os hb.tape hb.output hb.size fun k _ hk => other_cells vs 0 W k hk
  have hty : ∀ {k : Nat} {cs : Array Value} {T : TypeId} {fr : Nat × Nat}, W.heap[k]? = some (.cells cs T fr) → T ≠ 121 → (W.setCells X 0 vs).heap[k]? = some (.cells cs T fr) := fun {k cs T fr} hk hT => by
    refine (other_cells vs 0 W k fun e => ?_).trans hk
    rw [e, c1] at hk
    injection hk with hk
    injection hk with _ h3 _
    exact hT h3.symm
  refine ⟨hty h.bx (by decide), hty h.box (by decide), ?_, h.rl.trans hm.rl, h.okd, hJ _ _ _ h.j hm, h.hX, ⟨cs', d1, by omega⟩, Nat.le_trans h.hN hb.size⟩
  rcases h.row.cases_ with ⟨e, e2⟩ | ⟨g, cap, cur, e, h1, h2, h3, h4, h5, h6⟩
  · rw [e, e2]; exact DecR.nil _ _
  · rw [e]
    exact DecR.mk_ h1 (hty h2 (by decide)) h3 h4 h5 h6
/-- A round of the caller's. -/
theorem ItS.body (h : ItS K S B N Bx W0 J W X D pre dv) (hk : Kx K W W') (hK : ∀ k, K k → k < N) (hS : N ≤ S) (hBx : N ≤ Bx) {pre' : List Nat} (hj : J pre' W') : ItS K S B N Bx W0 J W' X D pre' dv := by
  obtain ⟨cs, c1, c2⟩ := h.vb
  exact ⟨hk.block Bx _ h.bx rfl fun e => (by have := hK _ e; omega), h.box.kx hk fun e => (by have := hK _ e; omega), h.row.kx hk hK, h.rl.trans hk.rl, h.okd, hj, h.hX, ⟨cs, hk.block X _ c1 rfl fun e => (by have := hK _ e; have := h.hX; omega), c2⟩, Nat.le_trans h.hN hk.size⟩
end
end Go.Proofs.Ytaenbajghblgiaa
