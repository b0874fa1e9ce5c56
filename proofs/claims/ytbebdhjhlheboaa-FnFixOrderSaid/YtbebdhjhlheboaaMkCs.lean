/- Constraints that a call has made: grown, marked, asked (no claim of its own). Conditions: as each theorem states. -/
import Derived.Test.YtbebdhjhlheboaaOnlS
import Derived.Test.YtbebdhjhlheboaaMrkP
import Derived.Deep.AppendLies
namespace Go.Proofs.Ytbebdhjhlheboaa
open Go.ChangeShapes Go.WideShapes Go.ChangeAt Go.RowKit

/-- Constraints that a call has made: their heads lie in the block that A names, the terms of constraint i in block f i; those that are not empty differ. -/
structure OwnCs (w : World) (A : Option Addr) (n : Nat) (p : Nat → Con) (f : Nat → Nat) : Prop where
  row : n = 0 ∨ ∃ G cs, A = some ⟨G, 0, none⟩ ∧ w.heap[G]? = some (.cells cs 55 (0, 0)) ∧ ∀ i, i < n → ∃ Ai ci, cs[i * 2]? = some (.slice Ai (p i).n ci) ∧ cs[i * 2 + 1]? = some (.int .i64 (p i).bd) ∧ ((p i).n = 0 ∨ Ai = some ⟨f i, 0, none⟩)
  els : ∀ i, i < n → (p i).n = 0 ∨ OwnU w (f i) (p i).n (p i).n (p i).c (p i).l
  inj : ∀ i j, i < n → j < n → (p i).n ≠ 0 → (p j).n ≠ 0 → i ≠ j → f i ≠ f j
/-- In which blocks they lie. -/
def SC (A : Option Addr) (n : Nat) (p : Nat → Con) (f : Nat → Nat) (b : Nat) : Prop := (n ≠ 0 ∧ ∃ a, A = some a ∧ a.block = b) ∨ ∃ i, i < n ∧ (p i).n ≠ 0 ∧ f i = b
section
variable {w w' w1 : World} {A Ai : Option Addr} {n ci lo hi lo' hi' : Nat} {p p' : Nat → Con} {f : Nat → Nat} {S : Nat → Prop}
theorem block_lt {w : World} {G : Nat} {o : Obj} (h : w.heap[G]? = some o) : G < w.heap.size := by
  rcases Nat.lt_or_ge G w.heap.size with hlt | hge
  · exact hlt
  · rw [Array.getElem?_eq_none hge] at h; cases h
theorem OwnCs.lt (h : OwnCs w A n p f) {b : Nat} (hb : SC A n p f b) : b < w.heap.size := by
  rcases hb with ⟨e, a, ha, rfl⟩ | ⟨i, h0, h1, rfl⟩
  · rcases h.row with hr | ⟨G, cs, rfl, h1, _⟩
    · exact absurd hr e
    · cases ha
      exact block_lt h1
  · rcases h.els i h0 with e | e
    · exact absurd e h1
    · exact e.lt
theorem OwnCs.keep (h : OwnCs w A n p f) (hb : ∀ b, SC A n p f b → w'.heap[b]? = w.heap[b]?) : OwnCs w' A n p f := by
  obtain ⟨hr, he, hi⟩ := h
  refine ⟨?_, fun i h0 => ?_, hi⟩
  · by_cases e : n = 0
    · exact .inl e
    · rcases hr with hr | ⟨G, cs, rfl, h1, h2⟩
      · exact .inl hr
      · exact .inr ⟨G, cs, rfl, (hb G (.inl ⟨e, _, rfl, rfl⟩)).trans h1, h2⟩
  · rcases he i h0 with h1 | h1
    · exact .inl h1
    · by_cases e : (p i).n = 0
      · exact .inl e
      · exact .inr (h1.at_ (hb _ (.inr ⟨i, h0, e, rfl⟩)))
theorem OwnCs.onlyS (h : OwnCs w A n p f) (ho : OnlyS S w w') (hs : ∀ b, SC A n p f b → ¬ S b) : OwnCs w' A n p f :=
  h.keep fun b hb => ho.block b (h.lt hb) (hs b hb)
theorem OwnCs.below (h : OwnCs w A n p f) (hb : Below w.heap.size w w') : OwnCs w' A n p f :=
  h.keep fun b hs => hb.block b (h.lt hs)
theorem OwnCs.cell (h : OwnCs w A n p f) {i : Nat} (hi : i < n) : ∃ G Ai ci, A = some ⟨G, 0, none⟩ ∧ w.cell? ⟨G, i * 2, none⟩ = some (.slice Ai (p i).n ci) ∧ w.cell? ⟨G, i * 2 + 1, none⟩ = some (.int .i64 (p i).bd) ∧ w.frozen? ⟨G, i * 2 + 1, none⟩ = false ∧ ((p i).n = 0 ∨ Ai = some ⟨f i, 0, none⟩) ∧ Frs w 0 Ai (p i).n (p i).c (p i).l := by
  rcases h.row with e | ⟨G, cs, rfl, h1, h2⟩
  · omega
  · obtain ⟨Ai, ci, a, b, c⟩ := h2 i hi
    refine ⟨G, Ai, ci, rfl, (cell_of_row w G _ cs _ _ h1).trans a, (cell_of_row w G _ cs _ _ h1).trans b, by simp [World.frozen?, h1], c, ?_⟩
    rcases c with e | e
    · exact .inl e
    · rcases h.els i hi with k | k
      · exact .inl k
      · exact .inr ⟨_, e, Nat.zero_le _, k⟩
theorem OwnCs.rd (h : OwnCs w A n p f) : RdP w w.heap.size A n p := fun h0 => by
  rcases h.row with e | ⟨G, cs, rfl, h1, h2⟩
  · omega
  · refine ⟨G, 0, rfl, block_lt h1, fun i hi => ?_⟩
    obtain ⟨G', Ai, ci, e, hc, hd, _, _, hf⟩ := h.cell hi
    cases e
    rw [Nat.zero_add]
    exact ⟨Ai, ci, hc, hd, hf.rdAt⟩
/-- One of the constraints is laid anew: its terms, then its bound. -/
theorem OwnCs.put (h : OwnCs w A n p f) {j G : Nat} (hj : j < n) (hAG : A = some ⟨G, 0, none⟩) (hA : (p j).n = 0 ∨ Ai = some ⟨f j, 0, none⟩) (ho : Only w w1 Ai (p j).n) (hv : Frs w1 0 Ai (p j).n (p' j).c (p' j).l) (hn : (p' j).n = (p j).n) (he : ∀ i, i < n → i ≠ j → p' i = p i) :
    OwnCs (w1.setCell ⟨G, j * 2 + 1, none⟩ (.int .i64 (p' j).bd)) A n p' f ∧ OnlyS (SC A n p f) w (w1.setCell ⟨G, j * 2 + 1, none⟩ (.int .i64 (p' j).bd)) ∧ (∃ u, w1.cell? ⟨G, j * 2 + 1, none⟩ = some u) ∧ w1.frozen? ⟨G, j * 2 + 1, none⟩ = false := by
  have hne : ∀ b, b < w.heap.size → ((p j).n = 0 ∨ b ≠ f j) → w1.heap[b]? = w.heap[b]? := fun b hl hb => ho.block b hl (by
    rcases hb with e | e
    · exact .inl e
    · rcases hA with k | k
      · exact .inl k
      · exact .inr fun a ha hh => by rw [k] at ha; cases ha; exact e hh)
  have hnn : ∀ i, i < n → (p' i).n = (p i).n := fun i hi => by
    by_cases e : i = j
    · rw [e]; exact hn
    · rw [he i hi e]
  obtain ⟨G', cs, eG, h1, h2⟩ := h.row.resolve_left (by omega)
  rw [hAG] at eG
  cases eG
  have hty : ∀ i, i < n → (p i).n ≠ 0 → f i ≠ G := fun i hi hz e => by
    rcases h.els i hi with k | ⟨cs', h3, _⟩
    · exact hz k
    · rw [e, h1] at h3
      injection h3 with h3
      injection h3 with _ h4 _
      exact absurd h4 (by decide)
  have hG1 : w1.heap[G]? = some (.cells cs 55 (0, 0)) := (hne G (block_lt h1) (by
    by_cases z : (p j).n = 0
    · exact .inl z
    · exact .inr fun e => hty j hj z e.symm)).trans h1
  have hset : (w1.setCell ⟨G, j * 2 + 1, none⟩ (.int .i64 (p' j).bd)).heap[G]? = some (.cells (cs.setIfInBounds (j * 2 + 1) (.int .i64 (p' j).bd)) 55 (0, 0)) := by
    simp [World.setCell, Array.getElem?_modify, hG1]
  refine ⟨⟨.inr ⟨G, _, hAG, hset, fun i hi => ?_⟩, fun i hi => ?_, fun i k hi hk h1 h2 => h.inj i k hi hk (by rw [← hnn i hi]; exact h1) (by rw [← hnn k hk]; exact h2)⟩, ?_, ?_, by simp [World.frozen?, hG1]⟩
  · obtain ⟨Ai', ci, a, b, c⟩ := h2 i hi
    rw [hnn i hi, Array.getElem?_setIfInBounds, Array.getElem?_setIfInBounds]
    refine ⟨Ai', ci, by rw [if_neg (by omega)]; exact a, ?_, c⟩
    by_cases e : i = j
    · subst e
      have hsz : i * 2 + 1 < cs.size := by
        rcases Nat.lt_or_ge (i * 2 + 1) cs.size with hlt | hge
        · exact hlt
        · rw [Array.getElem?_eq_none hge] at b; cases b
      rw [if_pos rfl, if_pos hsz]
    · rw [if_neg (by omega), b, he i hi e]
  · by_cases z : (p i).n = 0
    · exact .inl (by rw [hnn i hi]; exact z)
    · have hsg : ∀ u, (w1.setCell ⟨G, j * 2 + 1, none⟩ u).heap[f i]? = w1.heap[f i]? := fun u => Below.heap_setCell w1 ⟨G, j * 2 + 1, none⟩ u (f i) (hty i hi z)
      by_cases e : i = j
      · subst e
        rw [hn]
        rcases hv with k | ⟨g, e1, _, k⟩
        · exact .inl k
        · rcases hA with y | y
          · exact .inl y
          · rw [y] at e1
            cases e1
            exact .inr (k.at_ (hsg _))
      · rw [he i hi e]
        rcases h.els i hi with k | k
        · exact .inl k
        · refine .inr ((k.at_ (hne _ k.lt ?_)).at_ (hsg _))
          by_cases z' : (p j).n = 0
          · exact .inl z'
          · exact .inr (h.inj i j hi hj z z' e)
  · refine ⟨ho.os, ho.tape, ho.output, by simpa [World.setCell] using ho.size, fun k hk hs => ?_⟩
    have hkG : k ≠ G := fun e => hs (.inl ⟨by omega, _, hAG, e.symm⟩)
    refine (Below.heap_setCell w1 ⟨G, j * 2 + 1, none⟩ _ k hkG).trans (hne k hk ?_)
    by_cases z : (p j).n = 0
    · exact .inl z
    · exact .inr fun e => hs (.inr ⟨j, hj, z, e.symm⟩)
  · obtain ⟨_, _, _, b, _⟩ := h2 j hj
    exact ⟨_, (cell_of_row w1 G _ cs _ _ hG1).trans b⟩
end

/-- The constraints that the marking lays: the first j of them. -/
def mkP (k : Int) (p : Nat → Con) (j i : Nat) : Con := if i < j then ⟨(p i).n, k + 2 * (tot p i : Int) + (i : Int) + 2 * ((p i).n : Int), mkC (k + 2 * (tot p i : Int) + (i : Int)), mkL (k + 2 * (tot p i : Int) + (i : Int))⟩ else p i
theorem mkP_n (k : Int) (p : Nat → Con) (j i : Nat) : (mkP k p j i).n = (p i).n := by unfold mkP; split <;> rfl
theorem mkP_zero (k : Int) (p : Nat → Con) : mkP k p 0 = p := funext fun i => if_neg (by omega)
theorem mkP_at (k : Int) (p : Nat → Con) (j : Nat) : mkP k p j j = p j := if_neg (by omega)
theorem mkP_lt (k : Int) (p : Nat → Con) {j n : Nat} (h : j < n) : mkP k p n j = ⟨(p j).n, k + 2 * (tot p j : Int) + (j : Int) + 2 * ((p j).n : Int), mkC (k + 2 * (tot p j : Int) + (j : Int)), mkL (k + 2 * (tot p j : Int) + (j : Int))⟩ := if_pos h
theorem mkP_next (k : Int) (p : Nat → Con) {j i : Nat} (h : i ≠ j) : mkP k p (j + 1) i = mkP k p j i := by
  unfold mkP
  by_cases e : i < j
  · rw [if_pos (by omega), if_pos e]
  · rw [if_neg (by omega), if_neg e]
theorem SC.mk_ {A : Option Addr} {k : Int} {p : Nat → Con} {f : Nat → Nat} {n j b : Nat} (h : SC A n (mkP k p j) f b) : SC A n p f b := by
  rcases h with h | ⟨i, h1, h2, h3⟩
  · exact .inl h
  · exact .inr ⟨i, h1, by rw [← mkP_n k p j i]; exact h2, h3⟩
theorem SC.of_mk {A : Option Addr} {k : Int} {p : Nat → Con} {f : Nat → Nat} {n j b : Nat} (h : SC A n p f b) : SC A n (mkP k p j) f b := by
  rcases h with h | ⟨i, h1, h2, h3⟩
  · exact .inl h
  · exact .inr ⟨i, h1, by rw [mkP_n k p j i]; exact h2, h3⟩
theorem add4 (k : Int) (p : Nat → Con) (j : Nat) : Value.int .i64 (k + 2 * (tot p j : Int) + (j : Int) + 2 * ((p j).n : Int) + 1) = .int .i64 (k + 2 * ((tot p (j + 1) : Nat) : Int) + ((j + 1 : Nat) : Int)) := by
  congr 1
  show _ = k + 2 * ((tot p j + (p j).n : Nat) : Int) + ((j + 1 : Nat) : Int)
  omega

set_option maxRecDepth 100000 in
set_option maxHeartbeats 1600000 in
theorem markConstraintS_cs (A : Option Addr) (n cap : Nat) (p : Nat → Con) (f : Nat → Nat) (k : Int) (w : World) (hn : n + 2 * tot p n ≤ 500000) (hk0 : 0 ≤ k) (hk1 : k ≤ 500000) (ho : OwnCs w A n p f) :
    Calls Try.prog 18 #[.slice A n cap, .int .i64 k] w fun e w' => e = .returned (.int .i64 (k + 2 * (tot p n : Int) + (n : Int))) ∧ OwnCs w' A n (mkP k p n) f ∧ OnlyS (SC A n p f) w w' := by
  have hz := Lib.hid ho
  clear ho
  go_enter Try.func18, Try.ntmps18
  go_wp2
  go_loopw [1, 5] (fun t i wr => ∃ j : Nat, j ≤ n ∧ i = .int .i64 j ∧ t = .int .i64 (k + 2 * (tot p j : Int) + (j : Int)) ∧ OwnCs wr A n (mkP k p j) f ∧ OnlyS (SC A n p f) w wr) (fun _ i _ => n - (intOf i).toNat)
  case atStart => exact ⟨0, Nat.zero_le _, rfl, by simp [tot], by rw [mkP_zero]; exact hz.out, OnlyS.refl _ _⟩
  case round =>
    obtain ⟨j, hj, rfl, rfl, hown, hon⟩ := hrel
    have Hon := Lib.hid hon
    have HO := Lib.hid hown
    by_cases hlt : j < n
    · have ht := tot_at p hlt
      obtain ⟨G, Ai, ci, hAG, hx1, hx2, hx3, ha, hf⟩ := hown.cell hlt
      rw [mkP_at] at hx1 hx2 ha hf
      have HA := Lib.hid ha
      have HF := Lib.hid hf
      have hlt' : (j : Int) < (n : Int) := by omega
      have hj0 : (0 : Int) ≤ (j : Int) := by omega
      subst hAG
      have Hx2 := Lib.hid hx2
      have Hx3 := Lib.hid hx3
      clear hown hon ha hf hx2 hx3
      go_wp2_with fail
      refine (markTermS_any _ _ _ 0 (p j).c (p j).l _ _ (by omega) (by omega) (by omega) HF.out).mono ?_
      rintro e w1 ⟨rfl, h1, h2⟩
      have H1 := Lib.hid (HO.out.put (p' := mkP k p (j + 1)) hlt rfl (by rw [mkP_at]; exact HA.out) (by rw [mkP_at]; exact h2) (by rw [mkP_at, mkP_lt k p (Nat.lt_succ_self j)]; exact h1) (by rw [mkP_n, mkP_n]) (fun i hi0 hne => mkP_next k p hne))
      have hpl := mkP_lt k p (Nat.lt_succ_self j)
      rw [hpl] at H1
      obtain ⟨y2, hy2⟩ := H1.out.2.2.1
      have hf2 := H1.out.2.2.2
      have H2 := Lib.hid (Hon.out.trans (H1.out.2.1.mono fun b hb => hb.mk_))
      have HN := Lib.hid (add4 k p j)
      clear h1 h2 hx1 HF HA HO Hon hpl
      go_wp2
      go_roundw
      case rel => exact ⟨j + 1, by omega, by go_num, HN.out, H1.out.1, H2.out⟩
      case measure => simp [intOf]; omega
    · have e : j = n := by omega
      subst e
      go_wp2
      go_ret
      exact ⟨rfl, HO.out, Hon.out⟩

set_option maxRecDepth 100000 in
set_option maxHeartbeats 1600000 in
theorem heldConstraintS_cs (A : Option Addr) (n cap : Nat) (p : Nat → Con) (f : Nat → Nat) (k : Int) (w : World) (hn : n + 2 * tot p n ≤ 500000) (hk0 : 0 ≤ k) (hk1 : k ≤ 500000) (ho : OwnCs w A n (mkP k p n) f) :
    Calls Try.prog 20 #[.slice A n cap, .int .i64 k] w fun e w' => e = .returned (.int .i64 (k + 2 * (tot p n : Int) + (n : Int))) ∧ Below w.heap.size w w' := by
  have hz := Lib.hid ho
  clear ho
  go_enter Try.func20, Try.ntmps20
  go_wp2
  go_loopw [1, 5] (fun t i wr => ∃ j : Nat, j ≤ n ∧ i = .int .i64 j ∧ t = .int .i64 (k + 2 * (tot p j : Int) + (j : Int)) ∧ Below w.heap.size w wr) (fun _ i _ => n - (intOf i).toNat)
  case atStart => exact ⟨0, Nat.zero_le _, rfl, by simp [tot], Below.refl _ _⟩
  case round =>
    obtain ⟨j, hj, rfl, rfl, hb⟩ := hrel
    by_cases hlt : j < n
    · have ht := tot_at p hlt
      obtain ⟨G, Ai, ci, hAG, hx1, hx2, _, _, hf⟩ := (hz.out.below hb).cell hlt
      rw [mkP_lt k p hlt] at hx1 hx2 hf
      subst hAG
      have HF := Lib.hid hf
      have hlt' : (j : Int) < (n : Int) := by omega
      have hj0 : (0 : Int) ≤ (j : Int) := by omega
      clear hf
      have hpos : ¬ (k + 2 * (tot p j : Int) + (j : Int) + 2 * ((p j).n : Int) < 0) := by omega
      have HN := Lib.hid (add4 k p j)
      go_wp2_with fail
      refine (heldTermS_any _ _ _ 0 _ _ (by omega) (by omega) (by omega) HF.out).mono ?_
      rintro e w1 ⟨rfl, rfl⟩
      clear HF
      go_wp2
      go_roundw
      case rel => exact ⟨j + 1, by omega, by go_num, HN.out, by repeat (first | exact hb | refine bl_alloc ?_ _ | refine bl_drewN ?_ _ | refine Below.drew ?_)⟩
      case measure => simp [intOf]; omega
    · have e : j = n := by omega
      subst e
      go_wp2
      go_ret
      exact ⟨rfl, hb⟩

/-- Constraints that a call has made, in blocks from lo on and below hi. -/
def FC2 (w : World) (lo hi : Nat) (A : Option Addr) (n : Nat) (p : Nat → Con) : Prop := ∃ f, OwnCs w A n p f ∧ ∀ b, SC A n p f b → lo ≤ b ∧ b < hi
/-- Constraints that a call has made, in blocks from lo on. -/
def FrC (w : World) (lo : Nat) (A : Option Addr) (n : Nat) (p : Nat → Con) : Prop := ∃ f, OwnCs w A n p f ∧ ∀ b, SC A n p f b → lo ≤ b
section
variable {w w' w1 : World} {A : Option Addr} {n cap lo hi lo' hi' : Nat} {p : Nat → Con}
theorem FrC.two (h : FrC w lo A n p) : FC2 w lo w.heap.size A n p := by
  obtain ⟨f, h1, h2⟩ := h
  exact ⟨f, h1, fun b hb => ⟨h2 b hb, h1.lt hb⟩⟩
theorem FC2.one (h : FC2 w lo hi A n p) : FrC w lo A n p := by
  obtain ⟨f, h1, h2⟩ := h
  exact ⟨f, h1, fun b hb => (h2 b hb).1⟩
theorem FrC.rdAt (h : FrC w lo A n p) : RdP w w.heap.size A n p := by
  obtain ⟨f, h1, _⟩ := h
  exact h1.rd
theorem FC2.rdAt (h : FC2 w lo hi A n p) : RdP w w.heap.size A n p := h.one.rdAt
theorem FrC.below (h : FrC w lo A n p) (hb : Below w.heap.size w w') : FrC w' lo A n p := by
  obtain ⟨f, h1, h2⟩ := h
  exact ⟨f, h1.below hb, h2⟩
theorem FC2.below (h : FC2 w lo hi A n p) (hb : Below w.heap.size w w') : FC2 w' lo hi A n p := by
  obtain ⟨f, h1, h2⟩ := h
  exact ⟨f, h1.below hb, h2⟩
theorem FrC.more (h : FrC w lo A n p) (hl : lo' ≤ lo) : FrC w lo' A n p := by
  obtain ⟨f, h1, h2⟩ := h
  exact ⟨f, h1, fun b hb => by have := h2 b hb; omega⟩
theorem FC2.onlyR (h : FC2 w lo hi A n p) (ho : OnlyR lo' hi' w w') (hd : hi ≤ lo' ∨ hi' ≤ lo) : FC2 w' lo hi A n p := by
  obtain ⟨f, h1, h2⟩ := h
  exact ⟨f, h1.keep fun b hb => ho.block b (h1.lt hb) (by have := h2 b hb; omega), h2⟩
/-- A marking of a slice in a range turns that range alone. -/
theorem onlyR_ints {T : TypeId} {v : Nat → Int} (h : FI2 w lo hi T A n v) (ho : Only w w' A n) : OnlyR lo hi w w' :=
  ⟨ho.os, ho.tape, ho.output, ho.size, fun k hk hr => ho.block k hk (by
    rcases h with e | ⟨G, e, h1, h2, _⟩
    · exact .inl e
    · exact .inr fun a ha hh => by
        rw [e] at ha
        cases ha
        have : k = G := hh
        omega)⟩
theorem frc_nil (w : World) (lo : Nat) (A : Option Addr) (p : Nat → Con) : FrC w lo A 0 p := ⟨fun _ => 0, ⟨.inl rfl, fun i hi => absurd hi (by omega), fun i j hi => absurd hi (by omega)⟩, fun b hb => by
  rcases hb with ⟨h, _⟩ | ⟨i, hi, _⟩
  · exact absurd rfl h
  · omega⟩
end
set_option maxHeartbeats 800000 in
theorem markConstraintS_fc (lo hi : Nat) (A : Option Addr) (n cap : Nat) (p : Nat → Con) (k : Int) (w : World) (hn : n + 2 * tot p n ≤ 500000) (hk0 : 0 ≤ k) (hk1 : k ≤ 500000) (h : FC2 w lo hi A n p) :
    Calls Try.prog 18 #[.slice A n cap, .int .i64 k] w fun e w' => e = .returned (.int .i64 (k + 2 * (tot p n : Int) + (n : Int))) ∧ FC2 w' lo hi A n (mkP k p n) ∧ OnlyR lo hi w w' := by
  obtain ⟨f, h1, h2⟩ := h
  exact (markConstraintS_cs A n cap p f k w hn hk0 hk1 h1).mono fun e w' ⟨he, ha, hb⟩ => ⟨he, ⟨f, ha, fun b hs => h2 b hs.mk_⟩, hb.range fun b hs => h2 b hs⟩
set_option maxHeartbeats 800000 in
theorem heldConstraintS_fc (lo hi : Nat) (A : Option Addr) (n cap : Nat) (p : Nat → Con) (k : Int) (w : World) (hn : n + 2 * tot p n ≤ 500000) (hk0 : 0 ≤ k) (hk1 : k ≤ 500000) (h : FC2 w lo hi A n (mkP k p n)) :
    Calls Try.prog 20 #[.slice A n cap, .int .i64 k] w fun e w' => e = .returned (.int .i64 (k + 2 * (tot p n : Int) + (n : Int))) ∧ Below w.heap.size w w' := by
  obtain ⟨f, h1, _⟩ := h
  exact heldConstraintS_cs A n cap p f k w hn hk0 hk1 h1

/-- Constraints that a call builds one by one: the first k of them, their terms in blocks from B on and below hi. -/
structure GrwC (w : World) (B hi : Nat) (ov : Value) (k : Nat) (xs : List Value) (p : Nat → Con) (f : Nat → Nat) : Prop where
  own : w.ownsRow B 55 2 ov k xs
  len : xs.length = k * 2
  els : ∀ i, i < k → ∃ Ai ci, xs[i * 2]? = some (.slice Ai (p i).n ci) ∧ xs[i * 2 + 1]? = some (.int .i64 (p i).bd) ∧ ((p i).n = 0 ∨ (Ai = some ⟨f i, 0, none⟩ ∧ B ≤ f i ∧ f i < hi ∧ OwnU w (f i) (p i).n (p i).n (p i).c (p i).l))
  inj : ∀ i j, i < k → j < k → (p i).n ≠ 0 → (p j).n ≠ 0 → i ≠ j → f i ≠ f j
section
variable {w W w' : World} {B hi hi' k : Nat} {ov : Value} {xs : List Value} {p : Nat → Con} {f : Nat → Nat}
theorem GrwC.at_ (h : GrwC w B hi ov k xs p f) (hb : ∀ j, j < w.heap.size → w'.heap[j]? = w.heap[j]?) : GrwC w' B hi ov k xs p f := by
  refine ⟨⟨h.own.1, ?_⟩, h.len, fun i hi => ?_, h.inj⟩
  · rcases h.own.2 with hh | ⟨g, cap, cur, e1, hg, hh, hr⟩
    · exact .inl hh
    · exact .inr ⟨g, cap, cur, e1, hg, (hb g (block_lt hh)).trans hh, hr⟩
  · obtain ⟨Ai, ci, h1, h2, h3⟩ := h.els i hi
    refine ⟨Ai, ci, h1, h2, ?_⟩
    rcases h3 with e | ⟨a, b, c, d⟩
    · exact .inl e
    · exact .inr ⟨a, b, c, d.at_ (hb _ d.lt)⟩
theorem GrwC.below (h : GrwC w B hi ov k xs p f) (hb : Below w.heap.size w w') : GrwC w' B hi ov k xs p f := h.at_ fun j hj => hb.block j hj
theorem GrwC.far (h : GrwC w B hi ov k xs p f) (hb : Below w.heap.size w W) {H : Nat} (hH : w.heap.size ≤ H) (o : Nat) (u : Value) : GrwC (W.setCell ⟨H, o, none⟩ u) B hi ov k xs p f :=
  h.at_ fun j hj => (Below.heap_setCell W ⟨H, o, none⟩ u j (by show j ≠ H; omega)).trans (hb.block j hj)
theorem GrwC.nil_or (h : GrwC w B hi ov k xs p f) : (ov = .slice none 0 0 ∧ k = 0) ∨ ∃ g cap cur, ov = .slice (some ⟨g, 0, none⟩) k cap ∧ w.heap[g]? = some (.cells cur 55 (0, 0)) := by
  rcases h.own.2 with h1 | ⟨g, cap, cur, e, _, hh, _⟩
  · exact .inl h1
  · exact .inr ⟨g, cap, cur, e, hh⟩
theorem GrwC.lt (h : GrwC w B hi ov k xs p f) : ∀ j, ov.ownBlock = some j → B ≤ j ∧ j < w.heap.size := fun j e => h.own.lt j e
theorem grw_lit (W : World) (hi : Nat) (p : Nat → Con) (f : Nat → Nat) : GrwC (W.alloc (.cells #[] 55)) W.heap.size hi (.slice (some ⟨W.heap.size, 0, none⟩) 0 0) 0 [] p f :=
  ⟨by simpa using World.ownsRow_lit W #[] 0 (Nat.le_refl _) (by unfold maxLen; omega) (by simp), by simp, fun i hi => by omega, fun i j hi => by omega⟩
theorem grw_none (W : World) (B hi : Nat) (p : Nat → Con) (f : Nat → Nat) : GrwC W B hi (.slice none 0 0) 0 [] p f :=
  ⟨⟨by simp, .inl ⟨rfl, rfl⟩⟩, by simp, fun i hi => by omega, fun i j hi => by omega⟩
/-- Such a row is a slice of constraints that a call has made. -/
theorem GrwC.fin (h : GrwC w B hi ov k xs p f) : ∃ A cap, ov = .slice A k cap ∧ FrC w B A k p := by
  rcases h.own.2 with ⟨e, h0⟩ | ⟨g, cap, cur, e, hg, hh, hnc, _, hsz, htk⟩
  · subst h0
    exact ⟨none, 0, e, frc_nil _ _ _ _⟩
  · refine ⟨_, cap, e, f, ⟨.inr ⟨g, cur, rfl, hh, fun i hi => ?_⟩, fun i hi => ?_, h.inj⟩, fun b hb => ?_⟩
    · obtain ⟨Ai, ci, h1, h2, h3⟩ := h.els i hi
      refine ⟨Ai, ci, ?_, ?_, h3.imp id fun x => x.1⟩
      · rw [← htk, List.getElem?_take_of_lt (by omega)] at h1
        simpa using h1
      · rw [← htk, List.getElem?_take_of_lt (by omega)] at h2
        simpa using h2
    · obtain ⟨Ai, ci, _, _, h3⟩ := h.els i hi
      exact h3.imp id fun x => x.2.2.2
    · rcases hb with ⟨_, a, ha, rfl⟩ | ⟨i, hi, hz, rfl⟩
      · cases ha
        exact hg
      · obtain ⟨Ai, ci, _, _, h3⟩ := h.els i hi
        rcases h3 with e | ⟨_, b, _, _⟩
        · exact absurd e hz
        · exact b
set_option maxRecDepth 100000 in
set_option maxHeartbeats 800000 in
/-- The append of one constraint, whose terms lie in a block of their own from hi on. -/
theorem wp_grw1 {o : Oper} {a : Act} {K : Act → World → Prop} {Q : Exit → Act → World → Prop} (s x : Operand)
    (ho : o.op = .call { callee := .builtin .append, args := #[s, x], argTypes := #[25, 25] })
    (h : GrwC W B hi ov k xs p f) (hB : B ≤ hi) (hhi : hi ≤ W.heap.size) (hs : a.eval s = ov) {H : Nat} (hx : a.eval x = .slice (some ⟨H, 0, none⟩) 1 1) {A : Option Addr} {cap : Nat} {T' : TypeId} (hnew : W.heap[H]? = some (.cells #[.slice A (p k).n cap, .int .i64 (p k).bd] T' (0, 0))) (hel : Frs W hi A (p k).n (p k).c (p k).l) (hk : k ≤ 10000)
    (hK : ∀ g cap' w' zs f', GrwC w' B w'.heap.size (.slice (some ⟨g, 0, none⟩) (k + 1) cap') (k + 1) zs p f' → W.grownBy w' ov.ownBlock → K (a.put o.dst (.slice (some ⟨g, 0, none⟩) (k + 1) cap')) w') :
    o.wp Try.prog a W K Q := by
  obtain ⟨i0, hi0, hz0, hz1, hz2⟩ := info_parts Try.infoCon
  refine wp_append_lies _ s x 25 ho B 55 i0 _ 2 32 Try.underlying25 hi0 hz0 hz1 hz2 rfl (by omega) ov k _ hs h.own ⟨H, 0, none⟩ 1 1 [.slice A (p k).n cap, .int .i64 (p k).bd] hx (by rfl)
    (World.news_of_block hnew) (by simp [Value.oneCell']) (by omega) (by unfold maxLen; omega) (by omega) (by omega) W.heap.size rfl ?_
  intro g cap' w' hown hg _ _
  have hkeep : ∀ {G n : Nat} {c l : Nat → Int}, OwnU W G n n c l → OwnU w' G n n c l := fun {G n c l} hu => by
    refine hu.at_ (hg.block G hu.lt ?_)
    rcases h.nil_or with ⟨e, _⟩ | ⟨g0, cap0, cur, e, hh⟩
    · rw [e]; intro h; cases h
    · rw [e]
      intro e2
      cases e2
      obtain ⟨cs, h3, _⟩ := hu
      rw [hh] at h3
      injection h3 with h3
      injection h3 with _ h4 _
      exact absurd h4 (by decide)
  obtain ⟨g1, hg1⟩ : ∃ g1, (p k).n = 0 ∨ (A = some ⟨g1, 0, none⟩ ∧ hi ≤ g1 ∧ OwnU W g1 (p k).n (p k).n (p k).c (p k).l) := by
    rcases hel with e | ⟨G, e, h1, h2⟩
    · exact ⟨0, .inl e⟩
    · exact ⟨G, .inr ⟨e, h1, h2⟩⟩
  refine hK g cap' w' _ (fun i => if i = k then g1 else f i) ⟨hown, by rw [List.length_append, h.len]; simp; omega, fun i hi1 => ?_, fun i j hi1 hj1 hz1 hz2 hne => ?_⟩ hg
  · by_cases e : i = k
    · subst e
      refine ⟨A, cap, ?_, ?_, ?_⟩
      · rw [List.getElem?_append_right (by rw [h.len]; omega), h.len]; simp
      · rw [List.getElem?_append_right (by rw [h.len]; omega), h.len]; simp
      · rcases hg1 with e | ⟨a1, a2, a3⟩
        · exact .inl e
        · refine .inr ⟨by rw [if_pos rfl]; exact a1, by rw [if_pos rfl]; omega, by rw [if_pos rfl]; exact (hkeep a3).lt, by rw [if_pos rfl]; exact hkeep a3⟩
    · obtain ⟨Ai, ci, h1, h2, h3⟩ := h.els i (by omega)
      refine ⟨Ai, ci, ?_, ?_, ?_⟩
      · rw [List.getElem?_append_left (by rw [h.len]; omega)]; exact h1
      · rw [List.getElem?_append_left (by rw [h.len]; omega)]; exact h2
      · simp only [if_neg e]
        rcases h3 with e3 | ⟨a1, a2, a3, a4⟩
        · exact .inl e3
        · exact .inr ⟨a1, a2, (hkeep a4).lt, hkeep a4⟩
  · have hold : ∀ i, i < k → (p i).n ≠ 0 → f i < hi := fun i hi1 hz => by
      obtain ⟨_, _, _, _, h3⟩ := h.els i hi1
      rcases h3 with e | ⟨_, _, c, _⟩
      · exact absurd e hz
      · exact c
    have hnew1 : (p k).n ≠ 0 → hi ≤ g1 := fun hz => by
      rcases hg1 with e | ⟨_, a2, _⟩
      · exact absurd e hz
      · exact a2
    show (if i = k then g1 else f i) ≠ (if j = k then g1 else f j)
    by_cases e : i = k
    · have e2 : j ≠ k := fun e' => hne (by omega)
      rw [if_pos e, if_neg e2]
      have h1 := hold j (by omega) hz2
      have h2 := hnew1 (by rw [← e]; exact hz1)
      omega
    · by_cases e2 : j = k
      · rw [if_pos e2, if_neg e]
        have h1 := hold i (by omega) hz1
        have h2 := hnew1 (by rw [← e2]; exact hz2)
        omega
      · rw [if_neg e, if_neg e2]
        exact h.inj i j (by omega) (by omega) hz1 hz2 hne
end
end Go.Proofs.Ytbebdhjhlheboaa
