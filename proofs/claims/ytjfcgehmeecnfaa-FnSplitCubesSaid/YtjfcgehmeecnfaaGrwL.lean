/- Lists of ints that a call builds one by one, with what they say; their marks (no claim of its own). Conditions: as each theorem states. -/
import Derived.Test.YtjfcgehmeecnfaaMkLj
import Derived.Deep.AppendLies
import Derived.Maps.AppendAt
namespace Go.Proofs.Ytjfcgehmeecnfaa
open Go.ChangeShapes Go.WideShapes Go.ChangeAt Go.RowKit

/-- In which blocks such lists lie, their heads' too. -/
def SLh (A : Option Addr) (n : Nat) (r : Nat → Lst) (f : Nat → Nat) (b : Nat) : Prop := (n ≠ 0 ∧ ∃ a, A = some a ∧ a.block = b) ∨ SL n r f b
/-- Lists that a call has made, in blocks from lo on and below hi. -/
def FL2 (w : World) (lo hi : Nat) (A : Option Addr) (n : Nat) (r : Nat → Lst) : Prop := ∃ f, OwnLi w A n r f ∧ ∀ b, SLh A n r f b → lo ≤ b ∧ b < hi
/-- Lists that a call has made, in blocks from lo on. -/
def FrL (w : World) (lo : Nat) (A : Option Addr) (n : Nat) (r : Nat → Lst) : Prop := ∃ f, OwnLi w A n r f ∧ ∀ b, SLh A n r f b → lo ≤ b
section
variable {w w' w1 : World} {A : Option Addr} {n cap lo hi lo' hi' : Nat} {r : Nat → Lst} {f : Nat → Nat}
theorem lblock_lt {w : World} {G : Nat} {o : Obj} (h : w.heap[G]? = some o) : G < w.heap.size := by
  rcases Nat.lt_or_ge G w.heap.size with hlt | hge
  · exact hlt
  · rw [Array.getElem?_eq_none hge] at h; cases h
theorem OwnLi.lt (h : OwnLi w A n r f) {b : Nat} (hb : SLh A n r f b) : b < w.heap.size := by
  rcases hb with ⟨e, a, ha, rfl⟩ | ⟨i, h0, h1, rfl⟩
  · rcases h.row with hr | ⟨G, cs, rfl, h1, _⟩
    · exact absurd hr e
    · cases ha
      exact lblock_lt h1
  · rcases h.els i h0 with e | e
    · exact absurd e h1
    · exact e.lt
theorem FrL.two (h : FrL w lo A n r) : FL2 w lo w.heap.size A n r := by
  obtain ⟨f, h1, h2⟩ := h
  exact ⟨f, h1, fun b hb => ⟨h2 b hb, h1.lt hb⟩⟩
theorem FL2.one (h : FL2 w lo hi A n r) : FrL w lo A n r := by
  obtain ⟨f, h1, h2⟩ := h
  exact ⟨f, h1, fun b hb => (h2 b hb).1⟩
theorem FrL.rdAt (h : FrL w lo A n r) : RdL w w.heap.size A n r := by
  obtain ⟨f, h1, _⟩ := h
  exact h1.rd
theorem FL2.rdAt (h : FL2 w lo hi A n r) : RdL w w.heap.size A n r := h.one.rdAt
theorem FrL.below (h : FrL w lo A n r) (hb : Below w.heap.size w w') : FrL w' lo A n r := by
  obtain ⟨f, h1, h2⟩ := h
  exact ⟨f, h1.below hb, h2⟩
theorem FL2.below (h : FL2 w lo hi A n r) (hb : Below w.heap.size w w') : FL2 w' lo hi A n r := by
  obtain ⟨f, h1, h2⟩ := h
  exact ⟨f, h1.below hb, h2⟩
theorem FrL.more (h : FrL w lo A n r) (hl : lo' ≤ lo) : FrL w lo' A n r := by
  obtain ⟨f, h1, h2⟩ := h
  exact ⟨f, h1, fun b hb => by have := h2 b hb; omega⟩
theorem FL2.onlyR (h : FL2 w lo hi A n r) (ho : OnlyR lo' hi' w w') (hd : hi ≤ lo' ∨ hi' ≤ lo) : FL2 w' lo hi A n r := by
  obtain ⟨f, h1, h2⟩ := h
  refine ⟨f, h1.keep (fun e a ha => ?_) (fun b hb => ?_), h2⟩
  · have hs : SLh A n r f a.block := .inl ⟨e, a, ha, rfl⟩
    exact ho.block _ (h1.lt hs) (by have := h2 _ hs; omega)
  · exact ho.block b (h1.lt (.inr hb)) (by have := h2 b (.inr hb); omega)
theorem frl_nil (w : World) (lo : Nat) (A : Option Addr) (r : Nat → Lst) : FrL w lo A 0 r := ⟨fun _ => 0, ⟨.inl rfl, fun i hi => absurd hi (by omega), fun i j hi => absurd hi (by omega)⟩, fun b hb => by
  rcases hb with ⟨h, _⟩ | ⟨i, hi, _⟩
  · exact absurd rfl h
  · omega⟩
theorem SLh.mk_ {k : Int} {j b : Nat} (h : SLh A n (mkW k r j) f b) : SLh A n r f b := by
  rcases h with h | h
  · exact .inl h
  · exact .inr (h.mk_ (Nat.le_refl _))
end
set_option maxHeartbeats 800000 in
theorem markIntSS_fl (lo hi : Nat) (A : Option Addr) (n cap : Nat) (r : Nat → Lst) (k : Int) (w : World) (hn : n + totL r n ≤ 1048576) (hk0 : 0 ≤ k) (hk1 : k ≤ 8388608) (h : FL2 w lo hi A n r) :
    Calls Try.prog 20 #[.slice A n cap, .int .i64 k] w fun e w' => e = .returned (.int .i64 (k + totL r n)) ∧ FL2 w' lo hi A n (mkW k r n) ∧ OnlyR lo hi w w' := by
  obtain ⟨f, h1, h2⟩ := h
  exact (markIntSS_li A n cap r f k w hn hk0 hk1 h1).mono fun e w' ⟨he, ha, hb⟩ => ⟨he, ⟨f, ha, fun b hs => h2 b hs.mk_⟩, hb.range fun b hs => h2 b (.inr hs)⟩
set_option maxHeartbeats 800000 in
theorem heldIntSS_fl (lo hi : Nat) (A : Option Addr) (n cap : Nat) (r : Nat → Lst) (k : Int) (w : World) (hn : n + totL r n ≤ 1048576) (hk0 : 0 ≤ k) (hk1 : k ≤ 8388608) (h : FL2 w lo hi A n (mkW k r n)) :
    Calls Try.prog 21 #[.slice A n cap, .int .i64 k] w fun e w' => e = .returned (.int .i64 (k + totL r n)) ∧ Below w.heap.size w w' := by
  obtain ⟨f, h1, _⟩ := h
  exact (heldIntSS_li A n cap r f k w hn hk0 hk1 h1).mono fun e w' ⟨he, hw⟩ => ⟨he, by subst hw; exact Below.refl _ _⟩

/-- Lists that a call builds one by one: the first k of them, in blocks from B on and below hi. -/
structure GrwL (w : World) (B hi : Nat) (ov : Value) (k : Nat) (xs : List Value) (r : Nat → Lst) (f : Nat → Nat) : Prop where
  own : w.ownsRow B 22 1 ov k xs
  els : ∀ i, i < k → ∃ Ai ci, xs[i]? = some (.slice Ai (r i).n ci) ∧ ((r i).n = 0 ∨ (Ai = some ⟨f i, 0, none⟩ ∧ B ≤ f i ∧ f i < hi ∧ OwnV w (f i) 3 (r i).n (r i).n (r i).x))
  inj : ∀ i j, i < k → j < k → (r i).n ≠ 0 → (r j).n ≠ 0 → i ≠ j → f i ≠ f j
section
variable {w W w' : World} {B hi hi' k : Nat} {ov : Value} {xs : List Value} {r : Nat → Lst} {f : Nat → Nat}
theorem GrwL.at_ (h : GrwL w B hi ov k xs r f) (hb : ∀ j, j < w.heap.size → w'.heap[j]? = w.heap[j]?) : GrwL w' B hi ov k xs r f := by
  refine ⟨⟨h.own.1, ?_⟩, fun i hi => ?_, h.inj⟩
  · rcases h.own.2 with hh | ⟨g, cap, cur, e1, hg, hh, hr⟩
    · exact .inl hh
    · exact .inr ⟨g, cap, cur, e1, hg, (hb g (lblock_lt hh)).trans hh, hr⟩
  · obtain ⟨Ai, ci, h1, h3⟩ := h.els i hi
    refine ⟨Ai, ci, h1, ?_⟩
    rcases h3 with e | ⟨a, b, c, d⟩
    · exact .inl e
    · exact .inr ⟨a, b, c, d.at_ (hb _ d.lt)⟩
theorem GrwL.below (h : GrwL w B hi ov k xs r f) (hb : Below w.heap.size w w') : GrwL w' B hi ov k xs r f := h.at_ fun j hj => hb.block j hj
theorem GrwL.up (h : GrwL w B hi ov k xs r f) (hh : hi ≤ hi') : GrwL w B hi' ov k xs r f :=
  ⟨h.own, fun i hi0 => by
    obtain ⟨Ai, ci, h1, h3⟩ := h.els i hi0
    exact ⟨Ai, ci, h1, h3.imp id fun ⟨a, b, c, d⟩ => ⟨a, b, by omega, d⟩⟩, h.inj⟩
theorem GrwL.nil_or (h : GrwL w B hi ov k xs r f) : (ov = .slice none 0 0 ∧ k = 0) ∨ ∃ g cap cur, ov = .slice (some ⟨g, 0, none⟩) k cap ∧ B ≤ g ∧ w.heap[g]? = some (.cells cur 22 (0, 0)) := by
  rcases h.own.2 with h1 | ⟨g, cap, cur, e, hg, hh, _⟩
  · exact .inl h1
  · exact .inr ⟨g, cap, cur, e, hg, hh⟩
theorem GrwL.lt (h : GrwL w B hi ov k xs r f) : ∀ j, ov.ownBlock = some j → B ≤ j ∧ j < w.heap.size := fun j e => h.own.lt j e
theorem grl_lit (W : World) (hi : Nat) (r : Nat → Lst) (f : Nat → Nat) : GrwL (W.alloc (.cells #[] 22)) W.heap.size hi (.slice (some ⟨W.heap.size, 0, none⟩) 0 0) 0 [] r f :=
  ⟨by simpa using World.ownsRow_lit W #[] 0 (Nat.le_refl _) (by unfold maxLen; omega) (by simp), fun i hi => by omega, fun i j hi => by omega⟩
/-- Such a row is a slice of lists that a call has made. -/
theorem GrwL.fin (h : GrwL w B hi ov k xs r f) : ∃ A cap, ov = .slice A k cap ∧ FrL w B A k r := by
  rcases h.own.2 with ⟨e, h0⟩ | ⟨g, cap, cur, e, hg, hh, hnc, _, hsz, htk⟩
  · subst h0
    exact ⟨none, 0, e, frl_nil _ _ _ _⟩
  · refine ⟨_, cap, e, f, ⟨.inr ⟨g, cur, rfl, hh, fun i hi => ?_⟩, fun i hi => ?_, h.inj⟩, fun b hb => ?_⟩
    · obtain ⟨Ai, ci, h1, h3⟩ := h.els i hi
      refine ⟨Ai, ci, ?_, h3.imp id fun x => x.1⟩
      rw [← htk, List.getElem?_take_of_lt (by omega)] at h1
      simpa using h1
    · obtain ⟨Ai, ci, _, h3⟩ := h.els i hi
      exact h3.imp id fun x => x.2.2.2
    · rcases hb with ⟨_, a, ha, rfl⟩ | ⟨i, hi, hz, rfl⟩
      · cases ha
        exact hg
      · obtain ⟨Ai, ci, _, h3⟩ := h.els i hi
        rcases h3 with e | ⟨_, b, _, _⟩
        · exact absurd e hz
        · exact b
set_option maxRecDepth 100000 in
set_option maxHeartbeats 800000 in
/-- The append of one list, which lies in a block of its own from hi on. -/
theorem wp_grl1 {o : Oper} {a : Act} {K : Act → World → Prop} {Q : Exit → Act → World → Prop} (s x : Operand)
    (ho : o.op = .call { callee := .builtin .append, args := #[s, x], argTypes := #[29, 29] })
    (h : GrwL W B hi ov k xs r f) (hB : B ≤ hi) (hhi : hi ≤ W.heap.size) (hs : a.eval s = ov) {H : Nat} (hx : a.eval x = .slice (some ⟨H, 0, none⟩) 1 1) {A : Option Addr} {cap : Nat} {T' : TypeId} (hnew : W.heap[H]? = some (.cells #[.slice A (r k).n cap] T' (0, 0))) (hel : FrI W hi 3 A (r k).n (r k).x) (hk : k ≤ 10000)
    (hK : ∀ g cap' w' zs f', GrwL w' B w'.heap.size (.slice (some ⟨g, 0, none⟩) (k + 1) cap') (k + 1) zs r f' → W.grownBy w' ov.ownBlock → K (a.put o.dst (.slice (some ⟨g, 0, none⟩) (k + 1) cap')) w') :
    o.wp Try.prog a W K Q := by
  obtain ⟨i0, hi0, hz0, hz1, hz2⟩ := info_parts Try.infoIS
  refine wp_append_lies _ s x 29 ho B 22 i0 _ 1 24 Try.underlying29 hi0 hz0 hz1 hz2 rfl (by omega) ov k _ hs h.own ⟨H, 0, none⟩ 1 1 [.slice A (r k).n cap] hx (by rfl)
    (World.news_of_block hnew) (by simp [Value.oneCell']) (by omega) (by unfold maxLen; omega) (by omega) (by omega) W.heap.size rfl ?_
  intro g cap' w' hown hg _ _
  have hkeep : ∀ {G n : Nat} {v : Nat → Int}, OwnV W G 3 n n v → OwnV w' G 3 n n v := fun {G n v} hu => by
    refine hu.at_ (hg.block G hu.lt ?_)
    rcases h.nil_or with ⟨e, _⟩ | ⟨g0, cap0, cur, e, _, hh⟩
    · rw [e]; intro h; cases h
    · rw [e]
      intro e2
      cases e2
      obtain ⟨cs, h3, _⟩ := hu
      rw [hh] at h3
      injection h3 with h3
      injection h3 with _ h4 _
      exact absurd h4 (by decide)
  obtain ⟨g1, hg1⟩ : ∃ g1, (r k).n = 0 ∨ (A = some ⟨g1, 0, none⟩ ∧ hi ≤ g1 ∧ OwnV W g1 3 (r k).n (r k).n (r k).x) := by
    rcases hel with e | ⟨G, e, h1, h2⟩
    · exact ⟨0, .inl e⟩
    · exact ⟨G, .inr ⟨e, h1, h2⟩⟩
  have hxl : xs.length = k := by have := h.own.1; omega
  refine hK g cap' w' _ (fun i => if i = k then g1 else f i) ⟨hown, fun i hi1 => ?_, fun i j hi1 hj1 hz1 hz2 hne => ?_⟩ hg
  · by_cases e : i = k
    · subst e
      refine ⟨A, cap, ?_, ?_⟩
      · rw [List.getElem?_append_right (by omega), hxl]; simp
      · rcases hg1 with e | ⟨a1, a2, a3⟩
        · exact .inl e
        · refine .inr ⟨by rw [if_pos rfl]; exact a1, by rw [if_pos rfl]; omega, by rw [if_pos rfl]; exact (hkeep a3).lt, by rw [if_pos rfl]; exact hkeep a3⟩
    · obtain ⟨Ai, ci, h1, h3⟩ := h.els i (by omega)
      refine ⟨Ai, ci, ?_, ?_⟩
      · rw [List.getElem?_append_left (by omega)]; exact h1
      · simp only [if_neg e]
        rcases h3 with e3 | ⟨a1, a2, a3, a4⟩
        · exact .inl e3
        · exact .inr ⟨a1, a2, (hkeep a4).lt, hkeep a4⟩
  · have hold : ∀ i, i < k → (r i).n ≠ 0 → f i < hi := fun i hi1 hz => by
      obtain ⟨_, _, _, h3⟩ := h.els i hi1
      rcases h3 with e | ⟨_, _, c, _⟩
      · exact absurd e hz
      · exact c
    have hnew1 : (r k).n ≠ 0 → hi ≤ g1 := fun hz => by
      rcases hg1 with e | ⟨_, a2, _⟩
      · exact absurd e hz
      · exact a2
    show (if i = k then g1 else f i) ≠ (if j = k then g1 else f j)
    by_cases e : i = k
    · have e2 : j ≠ k := fun e' => hne (by omega)
      rw [if_pos e, if_neg e2]
      have h1 := hold j (by omega) hz2
      have h2 := hnew1 (by rw [← e]; exact hz1)
      omega
    · by_cases e2 : j = k
      · rw [if_pos e2, if_neg e]
        have h1 := hold i (by omega) hz1
        have h2 := hnew1 (by rw [← e2]; exact hz2)
        omega
      · rw [if_neg e, if_neg e2]
        exact h.inj i j (by omega) (by omega) hz1 hz2 hne
end
end Go.Proofs.Ytjfcgehmeecnfaa
