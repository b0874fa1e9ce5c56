/- Propagation is sound: the values that satisfy a problem (no claim of its own). Conditions: as each theorem states. · All values of the variables, one after another (no claim of its own). Conditions: as each theorem states. · Contracts of the program's infer, over whatever rule whose two methods have contracts (no claim of its own). Conditions: as each theorem states. · Contracts of both LiteralAxiom functions (no claim of its own). Conditions: as each theorem states. · The rules' answers with their slices' room (no claim of its own). Conditions: as each theorem states. · The append of one term to the first field of a struct that a loop builds (no claim of its own). Conditions: as each theorem states. · A contract of slices.Clone at terms, and a row of terms whose coefficients are written one by one (no claim of its own). Conditions: as each theorem states. · What weakening leaves of a constraint's terms (no claim of its own). Conditions: as each theorem states. · Contracts of the program's SaturateConstraint (no claim of its own). Conditions: as each theorem states. · The append of one term inside a region that draws its order, what lies below it kept (no claim of its own). Conditions: as each theorem states. · The model's WeakenConstraint, its answer with its room (no claim of its own). Conditions: as each theorem states. · The draw of RupConstraint's arguments (no claim of its own). Conditions: as each theorem states. · Reverse unit propagation is sound; members follow (no claim of its own). Conditions: as each theorem states. -/
import Derived.Test.YtooknldfkcdneaaUniM
import Derived.Test.YtooknldfkcdneaaComB
import Derived.Shelf.Abstract
import Derived.Test.YtooknldfkcdneaaDrwF
import Derived.Test.YtooknldfkcdneaaOutA
import Derived.Lib.SliceRun
import Derived.StillTailTactics
import Derived.Deep.RegionHeldLaw
import Derived.Outline
import Derived.Test.YtooknldfkcdneaaDrwI
import Derived.Test.YtooknldfkcdneaaRupZ
namespace Go.Proofs.Ytooknldfkcdneaa
open Go.ChangeShapes Go.WideShapes Go.ChangeAt Go.RowKit

/-- Values as a partial assignment. -/
def tv (u : Nat → Bool) (i : Nat) : Int := if u i then 1 else -1
theorem tv_rng (u : Nat → Bool) : rng (tv u) := fun i _ => by unfold tv; split <;> omega
theorem stV_tv (u : Nat → Bool) (z : Int) : stV (tv u) z = if trueP u z then 1 else -1 := by
  unfold stV trueP tv
  split
  · rfl
  · cases u (-z - 1).toNat <;> rfl
theorem nf_tv (u : Nat → Bool) (z : Int) : nfP (tv u) z = trueP u z := by
  unfold nfP
  rw [stV_tv]
  cases trueP u z <;> rfl
theorem eval_fix {q : Con} (hq : okC q) (hn : q.n ≤ 1048576) {u : Nat → Bool} (h : evalV q.n q.c q.l q.bd 12 u = true) : fixC q (tv u) := by
  have hv : validB q.n q.c q.l q.bd = true := hq
  rw [evalV_yes hv, decide_eq_true_eq] at h
  have h1 : evW q.c q.l u q.n = sB q.c q.l (trueP u) q.n := sumW_sB hn (coef_of hv)
  rw [h1] at h
  have h2 : sB q.c q.l (nfP (tv u)) q.n = sB q.c q.l (trueP u) q.n := sB_congr (nf_tv u) q.n
  refine ⟨?_, ?_⟩
  · unfold slkC slk
    rw [h2]
    omega
  · rw [List.eq_nil_iff_forall_not_mem]
    intro z hz
    obtain ⟨j, _, _, h0, _⟩ := imL_mem.1 hz
    rw [stV_tv] at h0
    split at h0 <;> omega
theorem sat_fix {k : Nat} {p : Nat → Con} (hn : ∀ i, i < k → (p i).n ≤ 1048576) {u : Nat → Bool} (h : satB k p 12 u = true) : ∀ i, i < k → fixC (p i) (tv u) := by
  unfold satB at h
  simp only [Bool.and_eq_true] at h
  obtain ⟨h1, _, h2⟩ := h
  have hok := (prob_ok h1).2
  have key : ∀ m, allE p u m = true → ∀ i, i < m → evalV (p i).n (p i).c (p i).l (p i).bd 12 u = true := by
    intro m
    induction m with
    | zero => intro _ i hi; omega
    | succ m ih =>
      intro ha i hi
      unfold allE at ha
      rw [Bool.and_eq_true] at ha
      by_cases e : i = m
      · subst e; exact ha.2
      · exact ih ha.1 i (by omega)
  exact fun i hi => eval_fix (hok i hi) (hn i hi) (key k h2 i hi)
theorem ag_ext {v : Nat → Int} (hv : rng v) {u : Nat → Bool} : agT v u 12 = true ↔ extI v (tv u) := by
  have key : ∀ m, m ≤ 12 → (agT v u m = true ↔ ∀ i, i < m → v i ≠ 0 → tv u i = v i) := by
    intro m
    induction m with
    | zero => intro _; exact ⟨fun _ i hi => by omega, fun _ => rfl⟩
    | succ m ih =>
      intro hm
      have hi := ih (by omega)
      obtain ⟨a, b⟩ := hv m (by omega)
      have h1 : agP (v m) (u m) = true ↔ (v m ≠ 0 → tv u m = v m) := by
        rcases (show v m = -1 ∨ v m = 0 ∨ v m = 1 by omega) with e | e | e <;> rw [e] <;> unfold agP tv <;> cases u m <;> simp
      unfold agT
      rw [Bool.and_eq_true, hi, h1]
      constructor
      · rintro ⟨x, y⟩ i hi
        by_cases e : i = m
        · subst e; exact y
        · exact x i (by omega)
      · intro x
        exact ⟨fun i hi => x i (by omega), x m (by omega)⟩
  exact key 12 (Nat.le_refl _)
/-- Values that satisfy the problem and agree with the beginning agree with the end, and no constraint is violated. -/
theorem prop_sound {k : Nat} {p : Nat → Con} (hn : ∀ i, i < k → (p i).n ≤ 1048576) (hok : ∀ i, i < k → okC (p i)) {v w : Nat → Int} {r : Int} (h : Runs p k 0 v w r) (hv : rng v) (hw : rng w) {u : Nat → Bool} (h1 : agT v u 12 = true) (h2 : satB k p 12 u = true) : r = -1 ∧ agT w u 12 = true := by
  obtain ⟨a, b⟩ := h.under hok (tv_rng u) (sat_fix hn h2) ((ag_ext hv).1 h1)
  exact ⟨b, (ag_ext hw).2 a⟩
theorem ext_ag {n nv : Nat} {v : Nat → Int} {u : Nat → Bool} (h : extB n v nv u = true) : agT v u 12 = true := by
  unfold extB at h
  simp only [Bool.and_eq_true] at h
  exact h.2.2
end Go.Proofs.Ytooknldfkcdneaa

namespace Go.Proofs.Ytooknldfkcdneaa
open Go.ChangeShapes Go.WideShapes Go.ChangeAt Go.RowKit

set_option maxRecDepth 100000 in
set_option maxHeartbeats 1600000 in
theorem cpValues_any (n : Nat) (w : World) (hn : n ≤ 4096) :
    Calls Try.prog 28 #[.int .i64 (n : Nat)] w fun e w' => ∃ A cap u, e = .returned (.slice A 12 cap) ∧ RdB w' w'.heap.size A 12 u ∧ Below w.heap.size w w' := by
  go_enter Try.func28, Try.ntmps28
  go_wp2
  go_loopw [0, 3, 4] (fun a t i wr => ∃ k z : Nat, k ≤ 12 ∧ z ≤ 4096 ∧ a = .int .i64 z ∧ i = .int .i64 k ∧ BS wr w.heap.size t k ∧ Below w.heap.size w wr) (fun _ _ i _ => 12 - (intOf i).toNat)
  case atStart => exact ⟨0, n, Nat.zero_le _, hn, rfl, rfl, bs_lit w, bl_alloc (Below.refl _ _) _⟩
  case round =>
    obtain ⟨k, z, hk, hz, rfl, rfl, hts, hb⟩ := hrel
    have TSk := Lib.hid hts
    have HB := Lib.hid hb
    have hsz : w.heap.size ≤ wr.heap.size := hb.size
    clear hts hb
    by_cases hlt : k < 12
    · obtain ⟨t, ht⟩ : ∃ t : Nat, (z : Int).tmod 2 = (t : Int) := by
        obtain ⟨a, b⟩ := tmod_bd (z : Int) 2 (by omega) (by omega)
        exact ⟨((z : Int).tmod 2).toNat, by omega⟩
      have hd : (z : Int).tdiv 2 = ((z / 2 : Nat) : Int) := by rw [Int.tdiv_eq_ediv_of_nonneg (by omega)]; omega
      go_wp2_with (at_builtin; refine wpList_plain (by rfl) fun K' hK' => ?_; refine wp_bs1 _ _ (by rfl) (TSk.out.bel (bl_alloc (Below.refl _ _) _)) (by simp; omega) (by rfl) (by rfl) (heap_alloc_new _ _) (by omega) ?_; intro gg cap1 w3 hts3 hgr3; have G3 := Lib.hid hgr3; have T3 := Lib.hid hts3; clear hts3 hgr3; refine hK' _ _ ?_; clear hK' K')
      go_roundw
      case rel => exact ⟨k + 1, z / 2, by omega, by omega, by first | rfl | go_num | simp, by go_num, T3.out, (HB.out.trans ((bl_alloc (Below.refl wr.heap.size wr) _).mono hsz)).grown G3.out (by simp; omega) (fun j e => (TSk.out.bel (bl_alloc (Below.refl wr.heap.size wr) (.cells #[] 4))).lt j e)⟩
      case measure => simp [intOf]; omega
    · have e : k = 12 := by omega
      subst e
      obtain ⟨A', cap', v, rfl, hcap, hF⟩ := TSk.out.fb
      have HF := Lib.hid hF.rd
      clear hF
      go_wp2
      go_ret
      exact ⟨_, _, v, rfl, HF.out, HB.out⟩
end Go.Proofs.Ytooknldfkcdneaa

namespace Go.Proofs.Ytooknldfkcdneaa
open Go.ChangeShapes Go.WideShapes Go.ChangeAt Go.RowKit

/-- What a rule's conclusion comes to. -/
def infB (R : Bool) (n : Nat) (c l : Nat → Int) (bd : Int) : Bool := R && validB n c l bd
def infN (R : Bool) (n : Nat) (c l : Nat → Int) (bd : Int) : Nat := if infB R n c l bd then n else 0
def infD (R : Bool) (n : Nat) (c l : Nat → Int) (bd : Int) : Int := if infB R n c l bd then bd else 0
theorem infN_le (R : Bool) (n : Nat) (c l : Nat → Int) (bd : Int) : infN R n c l bd ≤ n := by unfold infN; split <;> omega

/-- What a rule's apply leaves. -/
def ARes (w : World) (n : Nat) (c l : Nat → Int) (bd : Int) (e : Ending) (w' : World) : Prop :=
  ∃ A cap, e = .returned (.agg #[.slice A n cap, .int .i64 bd]) ∧ Frs w' w.heap.size A n c l ∧ Below w.heap.size w w'

theorem Frs.far' {w : World} {B : Nat} {A : Option Addr} {n : Nat} {c l : Nat → Int} (h : Frs w B A n c l) {p : Addr} (_hs : p.spot = none) (hp : p.block < B) (u : Value) : Frs (w.setCell p u) B A n c l := by
  rcases h with h | ⟨G, e, hG, h⟩
  · exact .inl h
  · exact .inr ⟨G, e, hG, h.at_ (Below.heap_setCell w p u G (by omega))⟩

end Go.Proofs.Ytooknldfkcdneaa

namespace Go.Proofs.Ytooknldfkcdneaa
open Go.ChangeShapes Go.WideShapes Go.ChangeAt Go.RowKit Go.Shelf

def one1 (_ : Nat) : Int := 1
theorem own_one {w : World} {G : Nat} {n : Int} (h : w.heap[G]? = some (.cells #[.int .i64 1, .int .i64 n] 58 (0, 0))) : OwnU w G 1 1 one1 (fun _ => n) :=
  ⟨_, h, by simp, fun i hi => by
    obtain rfl : i = 0 := by omega
    exact ⟨rfl, rfl⟩⟩
theorem alloc_two (w : World) (o o' : Obj) : ((w.alloc o).alloc o').heap[w.heap.size + 1]? = some o' := by
  have h := heap_alloc_new (w.alloc o) o'
  rwa [show (w.alloc o).heap.size = w.heap.size + 1 from by simp] at h
def litN (n : Int) : Nat := if litB n then 1 else 0

end Go.Proofs.Ytooknldfkcdneaa

namespace Go.Proofs.Ytooknldfkcdneaa
open Go.ChangeShapes Go.WideShapes Go.ChangeAt Go.RowKit

/-- The answer of a rule, its slice no longer than its room. -/
def CReC (w : World) (n : Nat) (c l : Nat → Int) (bd : Int) (ok : Bool) (e : Ending) (w' : World) : Prop :=
  ∃ A cap, e = .returned (.tuple #[.agg #[.slice A n cap, .int .i64 bd], .bool ok]) ∧ Frs w' w.heap.size A n c l ∧ Below w.heap.size w w' ∧ n ≤ cap

/-- What a rule's apply leaves. -/
def AReC (w : World) (n : Nat) (c l : Nat → Int) (bd : Int) (e : Ending) (w' : World) : Prop :=
  ∃ A cap, e = .returned (.agg #[.slice A n cap, .int .i64 bd]) ∧ Frs w' w.heap.size A n c l ∧ Below w.heap.size w w' ∧ n ≤ cap

end Go.Proofs.Ytooknldfkcdneaa

namespace Go.Proofs.Ytooknldfkcdneaa
open Go.ChangeShapes Go.WideShapes Go.ChangeAt Go.RowKit

theorem row_below {w w' : World} {B : Nat} {e : TypeId} {s : Nat} {v : Value} {n : Nat} {xs : List Value} (h : w.ownsRow B e s v n xs) (hb : Below w.heap.size w w') : w'.ownsRow B e s v n xs := by
  refine ⟨h.1, ?_⟩
  rcases h.2 with hh | ⟨g, cap, cur, e1, hg, hh, hr⟩
  · exact .inl hh
  · refine .inr ⟨g, cap, cur, e1, hg, (hb.block g ?_).trans hh, hr⟩
    rcases Nat.lt_or_ge g w.heap.size with hlt | hge
    · exact hlt
    · rw [Array.getElem?_eq_none hge] at hh; cases hh

section
variable {w : World} {O : Nat} {ks : List (Nat × Nat × Value)} {c l : Nat → Int} {k : Nat} {ov : Value} {wr w1 wq : World}
theorem OutAt.below (h : OutAt w O ks c l k ov wr) (hb : Below wr.heap.size wr wq) : OutAt w O ks c l k ov wq :=
  ⟨h.o0.below hb, row_below h.own hb, fun x hx => ⟨(h.keep x hx).1, (h.keep x hx).2.below hb⟩, bl_trans h.bel hb, h.hO⟩
theorem OutAt.at_ (h : OutAt w O ks c l k ov wr) {j o : Nat} {v : Value} (hx : (j, o, v) ∈ ks) : Cel wr j o v := (h.keep _ hx).2

set_option maxRecDepth 100000 in
set_option maxHeartbeats 800000 in
theorem wp_app1 {o : Oper} {a : Act} {K : Act → World → Prop} {Q : Exit → Act → World → Prop} (s x : Operand)
    (ho : o.op = .call { callee := .builtin .append, args := #[s, x], argTypes := #[40, 40] })
    (h : OutAt w O ks c l k ov wq) (hs : a.eval s = ov) {H : Nat} (hH : wq.heap.size = H) (hx : a.eval x = .slice (some ⟨H, 0, none⟩) 1 1) {X Y : Int} (hX : c k = X) (hY : l k = Y) (hk : k ≤ 1048576)
    (hK : ∀ g cap w', w'.cell? ⟨O, 0, none⟩ = some ov → w'.frozen? ⟨O, 0, none⟩ = false → Out w O ks c l (k + 1) (w'.setCell ⟨O, 0, none⟩ (.slice (some ⟨g, 0, none⟩) (k + 1) cap)) → K (a.put o.dst (.slice (some ⟨g, 0, none⟩) (k + 1) cap)) w') :
    o.wp Try.prog a (wq.alloc (.cells #[.int .i64 X, .int .i64 Y] 58)) K Q := by
  subst hH
  obtain ⟨i0, hi, hz0, hz1, hz2⟩ := info_parts Try.infoTerm
  have hq := bl_alloc (Below.refl wq.heap.size wq) (.cells #[.int .i64 X, .int .i64 Y] 58)
  refine wp_append_lies _ s x 40 ho (O + 1) 58 i0 _ 2 16 Try.underlying40 hi hz0 hz1 hz2 rfl (by omega) ov k _ hs (h.own.alloc _) ⟨wq.heap.size, 0, none⟩ 1 1 [.int .i64 X, .int .i64 Y] hx (by rfl)
    (World.news_of_block (heap_alloc_new wq _)) (by simp [Value.oneCell']) (by omega) (by unfold maxLen; omega) (by omega) ?_ (wq.heap.size + 1) (by simp) ?_
  · have := h.o0.1
    have := World.block_lt_of_cell? wq _ this
    simp at this ⊢
    omega
  · intro g cap w' hown hg _ _
    exact hK g cap w' (h.t0 hq hg) (h.u0 hq hg) (h.step hq hX hY hown hg)
set_option maxRecDepth 100000 in
set_option maxHeartbeats 800000 in
theorem step_app1 {ops : Array Oper} {o : Oper} {a : Act} {K : Act → World → Prop} {Q : Exit → Act → World → Prop} {E : Prop} (hgd : o.guard = none) (s x : Operand)
    (ho : o.op = .call { callee := .builtin .append, args := #[s, x], argTypes := #[40, 40] })
    (h : OutAt w O ks c l k ov wq) (hs : a.eval s = ov) {H : Nat} (hH : wq.heap.size = H) (hx : a.eval x = .slice (some ⟨H, 0, none⟩) 1 1) {X Y : Int} (hX : c k = X) (hY : l k = Y) (hk : k ≤ 1048576)
    (hK : ∀ g cap w', w'.cell? ⟨O, 0, none⟩ = some ov → w'.frozen? ⟨O, 0, none⟩ = false → Out w O ks c l (k + 1) (w'.setCell ⟨O, 0, none⟩ (.slice (some ⟨g, 0, none⟩) (k + 1) cap)) → K (a.put o.dst (.slice (some ⟨g, 0, none⟩) (k + 1) cap)) w') :
    if Region.wanted o (yielded ops a.tmps) = true then Oper.wp Try.prog o a (wq.alloc (.cells #[.int .i64 X, .int .i64 Y] 58)).drew K Q else E := by
  subst hH
  obtain ⟨i0, hi, hz0, hz1, hz2⟩ := info_parts Try.infoTerm
  have hq := (bl_alloc (Below.refl wq.heap.size wq) (.cells #[.int .i64 X, .int .i64 Y] 58)).drew
  refine step_append_lies _ hgd s x 40 ho (O + 1) 58 i0 _ 2 16 Try.underlying40 hi hz0 hz1 hz2 rfl (by omega) ov k _ hs ((h.own.alloc _).drew) ⟨wq.heap.size, 0, none⟩ 1 1 [.int .i64 X, .int .i64 Y] hx (by rfl)
    (World.news_of_block (heap_alloc_new wq _)) (by simp [Value.oneCell']) (by omega) (by unfold maxLen; omega) (by omega) ?_ (wq.heap.size + 1) (by simp) ?_
  · have := h.o0.1
    have := World.block_lt_of_cell? wq _ this
    simp at this ⊢
    omega
  · intro g cap w' hown hg _ _
    exact hK g cap w' (h.t0 hq hg) (h.u0 hq hg) (h.step hq hX hY hown hg)
end
end Go.Proofs.Ytooknldfkcdneaa

namespace Go.Proofs.Ytooknldfkcdneaa
open Go.ChangeShapes Go.WideShapes Go.ChangeAt Go.RowKit

theorem Try.sizeTerm : ∀ w, (Go.sizeOf 58).run Try.prog w = .ok 2 w := fun _ => by kernel_rfl

theorem flat_one (c l : Nat → Int) (n : Nat) : ∀ u ∈ flat c l n, u.oneCell' = true := by
  induction n with
  | zero => intro u hu; cases hu
  | succ n ih =>
    intro u hu
    unfold flat at hu
    rcases List.mem_append.1 hu with h | h
    · exact ih u h
    · simp at h
      rcases h with rfl | rfl <;> rfl
theorem flat_cell {w : World} {b off n : Nat} {c l : Nat → Int} (hc : ∀ i, i < n → w.cell? ⟨b, off + i * 2, none⟩ = some (.int .i64 (c i)) ∧ w.cell? ⟨b, off + i * 2 + 1, none⟩ = some (.int .i64 (l i))) :
    ∀ j u, (flat c l n)[j]? = some u → w.cell? ⟨b, off + j, none⟩ = some u := by
  intro j u hj
  have hlt : j < n * 2 := by
    rw [← flat_length c l n]
    rcases Nat.lt_or_ge j (flat c l n).length with h | h
    · exact h
    · rw [List.getElem?_eq_none h] at hj; cases hj
  obtain ⟨i, hi, e⟩ : ∃ i, i < n ∧ (j = i * 2 ∨ j = i * 2 + 1) := ⟨j / 2, by omega, by omega⟩
  obtain ⟨h1, h2⟩ := flat_at c l hi
  obtain ⟨g1, g2⟩ := hc i hi
  rcases e with rfl | rfl
  · rw [h1] at hj; cases hj; exact g1
  · rw [h2] at hj; cases hj; exact g2

/-- The first k numbers new, the others old. -/
def mix (f c : Nat → Int) (k i : Nat) : Int := if i < k then f i else c i
theorem mix_zero (f c : Nat → Int) : mix f c 0 = c := by funext i; simp [mix]
theorem mix_at (f c : Nat → Int) (k : Nat) : mix f c k k = c k := by simp [mix]
theorem OwnU.to {w : World} {G n : Nat} {c l c' : Nat → Int} (h : OwnU w G n n c l) (he : ∀ i, i < n → c i = c' i) : OwnU w G n n c' l := by
  obtain ⟨cs, hh, h1, h2⟩ := h
  exact ⟨cs, hh, h1, fun i hi => by rw [← he i hi]; exact h2 i hi⟩
theorem OwnU.coef {w : World} {G n k : Nat} {f c l : Nat → Int} {x : Int} (h : OwnU w G n n (mix f c k) l) (hk : k < n) (hx : f k = x) :
    OwnU (w.setCell ⟨G, k * 2, none⟩ (.int .i64 x)) G n n (mix f c (k + 1)) l := by
  subst hx
  obtain ⟨cs, hh, h1, h2⟩ := h
  refine ⟨cs.setIfInBounds (k * 2) (.int .i64 (f k)), ?_, by simpa using h1, fun i hi => ?_⟩
  · simp [World.setCell, Array.getElem?_modify, hh]
  · obtain ⟨a, b⟩ := h2 i hi
    simp only [Array.getElem?_setIfInBounds]
    by_cases e : i = k
    · subst e
      refine ⟨?_, by rw [if_neg (by omega)]; exact b⟩
      rw [if_pos rfl, if_pos (by omega)]
      simp [mix]
    · refine ⟨?_, by rw [if_neg (by omega)]; exact b⟩
      rw [if_neg (by omega), a]
      unfold mix
      by_cases h : i < k
      · rw [if_pos h, if_pos (by omega)]
      · rw [if_neg h, if_neg (by omega)]
theorem frs_mixed {w : World} {B n : Nat} {A : Option Addr} {f c l : Nat → Int} (h : Frs w B A n (mix f c n) l) : Frs w B A n f l := by
  rcases h with h | ⟨G, e, hG, h⟩
  · exact .inl h
  · exact .inr ⟨G, e, hG, h.to fun i hi => by simp [mix, hi]⟩
theorem vtB_coef {n : Nat} {c c' l : Nat → Int} (h : vtB c l n = true) (hc : ∀ i, i < n → 1 ≤ c' i ∧ c' i ≤ 1000) : vtB c' l n = true := by
  induction n with
  | zero => rfl
  | succ n ih =>
    unfold vtB at h ⊢
    rw [Bool.and_eq_true] at h ⊢
    refine ⟨ih h.1 (fun i hi => hc i (by omega)), ?_⟩
    have h1 := h.2
    have h2 := hc n (by omega)
    cases n <;> simp [okAt] at h1 ⊢ <;> simp [h1, h2]
theorem valid_coef {n : Nat} {c l : Nat → Int} {bd : Int} (h : validB n c l bd = true) {i : Nat} (hi : i < n) : 1 ≤ c i ∧ c i ≤ 1000 := by
  unfold validB at h
  rw [Bool.and_eq_true] at h
  exact okAt_coef (vtB_at h.1 hi)
theorem valid_bd {n : Nat} {c l : Nat → Int} {bd : Int} (h : validB n c l bd = true) : 0 ≤ bd ∧ bd ≤ 20000 := by
  unfold validB at h
  rw [Bool.and_eq_true] at h
  simpa using h.2
theorem valid_mk {n : Nat} {c l c' : Nat → Int} {bd bd' : Int} (h : validB n c l bd = true) (hc : ∀ i, i < n → 1 ≤ c' i ∧ c' i ≤ 1000) (h0 : 0 ≤ bd') (h1 : bd' ≤ 20000) : validB n c' l bd' = true := by
  unfold validB at h ⊢
  rw [Bool.and_eq_true] at h ⊢
  exact ⟨vtB_coef h.1 hc, by simp; omega⟩
end Go.Proofs.Ytooknldfkcdneaa

namespace Go.Proofs.Ytooknldfkcdneaa
open Go.ChangeShapes Go.WideShapes Go.ChangeAt Go.RowKit

/-- The rows as functions of the place. -/
def rC (R : List (Int × Int)) (i : Nat) : Int := (R.getD i (0, 0)).1
def rL (R : List (Int × Int)) (i : Nat) : Int := (R.getD i (0, 0)).2
def capB (b : Int) : Int := if b < 0 then 0 else b

/-- The terms among the first k whose variable is not v; the bound behind them. -/
def kept (c l : Nat → Int) (v : Int) : Nat → List (Int × Int)
  | 0 => []
  | k + 1 => if ab (l k) = v then kept c l v k else kept c l v k ++ [(c k, l k)]
def wkB (c l : Nat → Int) (bd v : Int) : Nat → Int
  | 0 => bd
  | k + 1 => if ab (l k) = v then wkB c l bd v k - c k else wkB c l bd v k
section
variable {c l : Nat → Int} {v bd : Int}
theorem kept_no {k : Nat} (h : ab (l k) = v) : kept c l v (k + 1) = kept c l v k := if_pos h
theorem kept_yes {k : Nat} (h : ab (l k) ≠ v) : kept c l v (k + 1) = kept c l v k ++ [(c k, l k)] := if_neg h
theorem wkB_yes {k : Nat} (h : ab (l k) = v) : wkB c l bd v (k + 1) = wkB c l bd v k - c k := if_pos h
theorem wkB_no {k : Nat} (h : ab (l k) ≠ v) : wkB c l bd v (k + 1) = wkB c l bd v k := if_neg h
theorem kept_le (k : Nat) : (kept c l v k).length ≤ k := by
  induction k with
  | zero => exact Nat.le_refl _
  | succ k ih =>
    unfold kept
    split
    · omega
    · simp; omega
theorem kept_prefix {k n : Nat} (h : k ≤ n) : kept c l v k <+: kept c l v n := by
  induction n with
  | zero =>
    obtain rfl : k = 0 := by omega
    exact List.prefix_refl _
  | succ n ih =>
    by_cases e : k = n + 1
    · subst e; exact List.prefix_refl _
    · refine (ih (by omega)).trans ?_
      show kept c l v n <+: (if ab (l n) = v then kept c l v n else kept c l v n ++ [(c n, l n)])
      split
      · exact List.prefix_refl _
      · exact ⟨[(c n, l n)], rfl⟩
theorem kept_at {k n : Nat} (hk : k < n) (h : ab (l k) ≠ v) : rC (kept c l v n) (kept c l v k).length = c k ∧ rL (kept c l v n) (kept c l v k).length = l k := by
  obtain ⟨t, ht⟩ := kept_prefix (c := c) (l := l) (v := v) (show k + 1 ≤ n from hk)
  rw [kept_yes h] at ht
  unfold rC rL
  rw [← ht]
  simp [List.getD]
theorem kept_from {n : Nat} : ∀ x ∈ kept c l v n, ∃ j, j < n ∧ x = (c j, l j) := by
  induction n with
  | zero => intro x hx; cases hx
  | succ n ih =>
    intro x hx
    unfold kept at hx
    split at hx
    · obtain ⟨j, hj, e⟩ := ih x hx
      exact ⟨j, by omega, e⟩
    · rcases List.mem_append.1 hx with h | h
      · obtain ⟨j, hj, e⟩ := ih x h
        exact ⟨j, by omega, e⟩
      · exact ⟨n, by omega, by simpa using h⟩
theorem wkB_le {n : Nat} (hv : ∀ i, i < n → 1 ≤ c i ∧ c i ≤ 1000) : wkB c l bd v n ≤ bd ∧ bd - 1000 * (n : Int) ≤ wkB c l bd v n := by
  induction n with
  | zero => simp [wkB]
  | succ n ih =>
    have h1 := ih (fun i hi => hv i (by omega))
    have h2 := hv n (by omega)
    unfold wkB
    split <;> omega
theorem capB_step {b x : Int} (hx : 0 ≤ x) : (if capB b - x < 0 then 0 else capB b - x) = capB (b - x) := by
  unfold capB
  by_cases h1 : b < 0
  · rw [if_pos h1, if_pos (show b - x < 0 by omega)]
    split <;> omega
  · rw [if_neg h1]
end

/-- A list of rows that is valid, row by row. -/
theorem rC_append {R : List (Int × Int)} {x : Int × Int} {i : Nat} (hi : i < R.length) : rC (R ++ [x]) i = rC R i ∧ rL (R ++ [x]) i = rL R i := by
  simp [rC, rL, List.getD, List.getElem?_append_left hi]
theorem rC_last (R : List (Int × Int)) (x : Int × Int) : rC (R ++ [x]) R.length = x.1 ∧ rL (R ++ [x]) R.length = x.2 := by
  simp [rC, rL, List.getD]
theorem vtB_congr {c l c' l' : Nat → Int} {n : Nat} (h : ∀ i, i < n → c i = c' i ∧ l i = l' i) : vtB c l n = vtB c' l' n := by
  induction n with
  | zero => rfl
  | succ n ih =>
    unfold vtB
    rw [ih (fun i hi => h i (by omega))]
    congr 1
    have h1 := h n (by omega)
    cases n with
    | zero => simp [okAt, h1]
    | succ m =>
      have h2 := h m (by omega)
      simp [okAt, h1, h2]
theorem vtB_mono {c l : Nat → Int} {n : Nat} (h : vtB c l n = true) : ∀ j i, i < j → j < n → ab (l i) < ab (l j) := by
  intro j
  induction j with
  | zero => intro i hi; omega
  | succ j ih =>
    intro i hi hj
    have h1 := vtB_at h hj
    have h2 : ab (l j) < ab (l (j + 1)) := by simp [okAt] at h1; exact h1.2
    by_cases e : i = j
    · subst e; exact h2
    · have := ih i (by omega) (by omega)
      omega
theorem kept_valid {c l : Nat → Int} {v : Int} {n : Nat} (h : vtB c l n = true) : ∀ k, k ≤ n → vtB (rC (kept c l v k)) (rL (kept c l v k)) (kept c l v k).length = true := by
  intro k
  induction k with
  | zero => intro _; rfl
  | succ k ih =>
    intro hk
    have h0 := ih (by omega)
    by_cases e : ab (l k) = v
    · rw [kept_no e]; exact h0
    · rw [kept_yes e, List.length_append]
      show vtB _ _ ((kept c l v k).length + 1) = true
      unfold vtB
      rw [Bool.and_eq_true]
      refine ⟨(vtB_congr (fun i hi => rC_append hi)).trans h0, ?_⟩
      obtain ⟨e1, e2⟩ := rC_last (kept c l v k) (c k, l k)
      have hok := vtB_at h (show k < n by omega)
      have hco := okAt_coef hok
      have hli := okAt_lit hok
      cases hm : (kept c l v k).length with
      | zero =>
        rw [hm] at e1 e2
        simp only [okAt, e1, e2, hli, Bool.true_and]
        simp
        omega
      | succ m =>
        rw [hm] at e1 e2
        obtain ⟨a1, a2⟩ := rC_append (R := kept c l v k) (x := (c k, l k)) (i := m) (by omega)
        obtain ⟨j, hj, ej⟩ := kept_from ((kept c l v k).getD m (0, 0)) (by
          rw [List.getD_eq_getElem?_getD, List.getElem?_eq_getElem (by omega)]
          exact List.getElem_mem _)
        have e3 : rL (kept c l v k) m = l j := by unfold rL; rw [ej]
        have := vtB_mono h k j hj (by omega)
        simp only [okAt, e1, e2, a2, e3, hli, Bool.true_and, Bool.and_eq_true, decide_eq_true_eq]
        omega

/-- Whether the arguments of a weakening are as the rule describes them. -/
def weaR (n : Nat) (c l : Nat → Int) (bd v : Int) : Bool := validB n c l bd && (decide (1 ≤ v) && decide (v ≤ 12))
theorem weaR_iff {n : Nat} {c l : Nat → Int} {bd v : Int} : weaR n c l bd v = true ↔ validB n c l bd = true ∧ 1 ≤ v ∧ v ≤ 12 := by simp [weaR]
theorem kept_ok {n : Nat} {c l : Nat → Int} {bd : Int} (v : Int) (h : validB n c l bd = true) : validB (kept c l v n).length (rC (kept c l v n)) (rL (kept c l v n)) (capB (wkB c l bd v n)) = true := by
  have h1 := valid_bd h
  have h2 := wkB_le (c := c) (l := l) (v := v) (bd := bd) (n := n) (fun i hi => valid_coef h hi)
  unfold validB at h ⊢
  rw [Bool.and_eq_true] at h ⊢
  refine ⟨kept_valid h.1 n (Nat.le_refl _), ?_⟩
  have : 0 ≤ capB (wkB c l bd v n) ∧ capB (wkB c l bd v n) ≤ 20000 := by unfold capB; split <;> omega
  simp
  exact this
theorem wkB_cap_step {n k : Nat} {c l : Nat → Int} {bd v : Int} (hk : k < n) (h : validB n c l bd = true) (e : ab (l k) = v) :
    (if capB (wkB c l bd v k) - c k < 0 then 0 else capB (wkB c l bd v k) - c k) = capB (wkB c l bd v (k + 1)) := by
  rw [wkB_yes e]
  exact capB_step (by have := valid_coef h hk; omega)
end Go.Proofs.Ytooknldfkcdneaa

namespace Go.Proofs.Ytooknldfkcdneaa
open Go.ChangeShapes Go.WideShapes Go.ChangeAt Go.RowKit Go.Shelf

def minC (c : Nat → Int) (bd : Int) (i : Nat) : Int := if bd < c i then bd else c i
def satN (n : Nat) (bd : Int) : Nat := if bd = 0 then 0 else n

theorem satValid {n : Nat} {c l : Nat → Int} {bd : Int} (h : validB n c l bd = true) : validB (satN n bd) (minC c bd) l bd = true := by
  obtain ⟨h0, h1⟩ := valid_bd h
  unfold satN
  split
  · unfold validB vtB
    simp
    omega
  · refine valid_mk h (fun i hi => ?_) h0 h1
    have := valid_coef h hi
    unfold minC
    split <;> omega
theorem satNum (n : Nat) (c l : Nat → Int) (bd : Int) : infB (validB n c l bd) (satN n bd) (minC c bd) l bd = validB n c l bd := by
  unfold infB
  cases h : validB n c l bd with
  | false => rfl
  | true => rw [satValid h]; rfl

end Go.Proofs.Ytooknldfkcdneaa

namespace Go.Proofs.Ytooknldfkcdneaa
open Go.ChangeShapes Go.WideShapes Go.ChangeAt Go.RowKit
section
variable {w : World} {O : Nat} {ks : List (Nat × Nat × Value)} {c l : Nat → Int} {k : Nat} {ov : Value} {wr w1 wq : World}
set_option maxRecDepth 100000 in
set_option maxHeartbeats 800000 in
theorem step_app2 {ops : Array Oper} {o : Oper} {a : Act} {K : Act → World → Prop} {Q : Exit → Act → World → Prop} {E : Prop} (hgd : o.guard = none) (s x : Operand)
    (ho : o.op = .call { callee := .builtin .append, args := #[s, x], argTypes := #[40, 40] })
    (h : OutAt w O ks c l k ov wq) (hs : a.eval s = ov) {H : Nat} (hH : wq.heap.size = H) (hx : a.eval x = .slice (some ⟨H, 0, none⟩) 1 1) {X Y : Int} (hX : c k = X) (hY : l k = Y) (hk : k ≤ 1048576)
    (hK : ∀ g cap w', w'.cell? ⟨O, 0, none⟩ = some ov → w'.frozen? ⟨O, 0, none⟩ = false → Out w O ks c l (k + 1) (w'.setCell ⟨O, 0, none⟩ (.slice (some ⟨g, 0, none⟩) (k + 1) cap)) → (∀ j p v, j ≤ O → wq.cell? ⟨j, p, none⟩ = some v → w'.cell? ⟨j, p, none⟩ = some v) → K (a.put o.dst (.slice (some ⟨g, 0, none⟩) (k + 1) cap)) w') :
    if Region.wanted o (yielded ops a.tmps) = true then Oper.wp Try.prog o a (wq.alloc (.cells #[.int .i64 X, .int .i64 Y] 58)).drew K Q else E := by
  subst hH
  obtain ⟨i0, hi, hz0, hz1, hz2⟩ := info_parts Try.infoTerm
  have hq := (bl_alloc (Below.refl wq.heap.size wq) (.cells #[.int .i64 X, .int .i64 Y] 58)).drew
  refine step_append_lies _ hgd s x 40 ho (O + 1) 58 i0 _ 2 16 Try.underlying40 hi hz0 hz1 hz2 rfl (by omega) ov k _ hs ((h.own.alloc _).drew) ⟨wq.heap.size, 0, none⟩ 1 1 [.int .i64 X, .int .i64 Y] hx (by rfl)
    (World.news_of_block (heap_alloc_new wq _)) (by simp [Value.oneCell']) (by omega) (by unfold maxLen; omega) (by omega) ?_ (wq.heap.size + 1) (by simp) ?_
  · have := h.o0.1
    have := World.block_lt_of_cell? wq _ this
    simp at this ⊢
    omega
  · intro g cap w' hown hg _ _
    exact hK g cap w' (h.t0 hq hg) (h.u0 hq hg) (h.step hq hX hY hown hg) (fun j p v hj hc => hg.cell (a := ⟨j, p, none⟩) (kc hq hc) (h.far hj))
theorem alloc_eq {W : World} {o : Obj} {H : Nat} (h : W.heap.size = H) : (W.alloc o).heap[H]? = some o := by subst h; exact heap_alloc_new W o

set_option maxRecDepth 100000 in
set_option maxHeartbeats 800000 in
theorem wp_appG {o : Oper} {a : Act} {K : Act → World → Prop} {Q : Exit → Act → World → Prop} {W : World} (s x : Operand)
    (ho : o.op = .call { callee := .builtin .append, args := #[s, x], argTypes := #[40, 40] })
    (h : OutAt w O ks c l k ov wq) (hq : Below wq.heap.size wq W) (hs : a.eval s = ov) {H : Nat} (hx : a.eval x = .slice (some ⟨H, 0, none⟩) 1 1) {X Y : Int} (hnew : W.heap[H]? = some (.cells #[.int .i64 X, .int .i64 Y] 58 (0, 0)))
    (hX : c k = X) (hY : l k = Y) (hk : k ≤ 1048576)
    (hK : ∀ g cap w', w'.cell? ⟨O, 0, none⟩ = some ov → w'.frozen? ⟨O, 0, none⟩ = false → Out w O ks c l (k + 1) (w'.setCell ⟨O, 0, none⟩ (.slice (some ⟨g, 0, none⟩) (k + 1) cap)) → K (a.put o.dst (.slice (some ⟨g, 0, none⟩) (k + 1) cap)) w') :
    o.wp Try.prog a W K Q := by
  obtain ⟨i0, hi, hz0, hz1, hz2⟩ := info_parts Try.infoTerm
  refine wp_append_lies _ s x 40 ho (O + 1) 58 i0 _ 2 16 Try.underlying40 hi hz0 hz1 hz2 rfl (by omega) ov k _ hs (row_below h.own hq) ⟨H, 0, none⟩ 1 1 [.int .i64 X, .int .i64 Y] hx (by rfl)
    (World.news_of_block hnew) (by simp [Value.oneCell']) (by omega) (by unfold maxLen; omega) (by omega) ?_ W.heap.size rfl ?_
  · have h1 : O < wq.heap.size := World.block_lt_of_cell? wq ⟨O, 0, none⟩ h.o0.1
    have h2 := hq.size
    omega
  · intro g cap w' hown hg _ _
    exact hK g cap w' (h.t0 hq hg) (h.u0 hq hg) (h.step hq hX hY hown hg)

set_option maxRecDepth 100000 in
set_option maxHeartbeats 800000 in
theorem step_appG {ops : Array Oper} {o : Oper} {a : Act} {K : Act → World → Prop} {Q : Exit → Act → World → Prop} {E : Prop} {W : World} (hgd : o.guard = none) (s x : Operand)
    (ho : o.op = .call { callee := .builtin .append, args := #[s, x], argTypes := #[40, 40] })
    (h : OutAt w O ks c l k ov wq) (hq : Below wq.heap.size wq W) (hs : a.eval s = ov) {H : Nat} (hx : a.eval x = .slice (some ⟨H, 0, none⟩) 1 1) {X Y : Int} (hnew : W.heap[H]? = some (.cells #[.int .i64 X, .int .i64 Y] 58 (0, 0)))
    (hX : c k = X) (hY : l k = Y) (hk : k ≤ 1048576)
    (hK : ∀ g cap w', w'.cell? ⟨O, 0, none⟩ = some ov → w'.frozen? ⟨O, 0, none⟩ = false → Out w O ks c l (k + 1) (w'.setCell ⟨O, 0, none⟩ (.slice (some ⟨g, 0, none⟩) (k + 1) cap)) → K (a.put o.dst (.slice (some ⟨g, 0, none⟩) (k + 1) cap)) w') :
    if Region.wanted o (yielded ops a.tmps) = true then Oper.wp Try.prog o a W K Q else E := by
  have hw : Region.wanted o (yielded ops a.tmps) = true := by simp [Region.wanted, hgd]
  rw [if_pos hw]
  exact wp_appG s x ho h hq hs hx hnew hX hY hk hK

/-- The second field of the struct written. -/
theorem OutAt.setB {ks0 : List (Nat × Nat × Value)} {u v : Value} (h0 : ∀ x ∈ ks0, x.1 < O) (h : OutAt w O ((O, 1, u) :: ks0) c l k ov wr) : OutAt w O ((O, 1, v) :: ks0) c l k ov (wr.setCell ⟨O, 1, none⟩ v) := by
  have hO := h.hO
  refine ⟨h.o0.set (by omega), ownsRow_setCell_below h.own (by show O < O + 1; omega) _, fun x hx => ?_, h.bel.setCell (by show w.heap.size ≤ O; omega) _, hO⟩
  rcases List.mem_cons.1 hx with rfl | hx
  · exact ⟨.inr ⟨rfl, by simp⟩, (h.keep (O, 1, u) (List.mem_cons_self ..)).2.put⟩
  · obtain ⟨h1, h2⟩ := h.keep x (List.mem_cons_of_mem _ hx)
    have := h0 x hx
    exact ⟨h1, h2.set (by omega)⟩
end
end Go.Proofs.Ytooknldfkcdneaa

namespace Go.Proofs.Ytooknldfkcdneaa
open Go.ChangeShapes Go.WideShapes Go.ChangeAt Go.RowKit

/-- The answer of a rule, its slice with room as a slice has. -/
def CReK (w : World) (n : Nat) (c l : Nat → Int) (bd : Int) (ok : Bool) (e : Ending) (w' : World) : Prop :=
  ∃ A cap, e = .returned (.tuple #[.agg #[.slice A n cap, .int .i64 bd], .bool ok]) ∧ Frs w' w.heap.size A n c l ∧ Below w.heap.size w w' ∧ CapOk A n cap
theorem row_cap {w : World} {B n s cap : Nat} {T : TypeId} {A : Option Addr} {xs : List Value} (h : w.ownsRow B T s (.slice A n cap) n xs) (_hs : 0 < s) : CapOk A n cap := by
  rcases h.2 with ⟨hov, hk⟩ | ⟨g, cap', cur, hov, hg, hh, hnc, _, hsz, htk⟩
  · cases hov
    exact ⟨fun _ => rfl, Nat.le_refl _⟩
  · cases hov
    exact ⟨fun h => (by cases h), hnc⟩

set_option maxRecDepth 100000 in
set_option maxHeartbeats 1600000 in
theorem specWeakenK_inv (A : Option Addr) (n cap : Nat) (bd kk : Int) (c l f f' : Nat → Int) (w : World) (hn : n ≤ 1048576) (hr : Rd w w.heap.size A n c l) (hR : weaR n c l bd kk = false) :
    Calls Try.prog 59 #[.agg #[.slice A n cap, .int .i64 bd], .int .i64 kk] w (CReK w 0 f f' 0 false) := by
  cases hv : validB n c l bd with
  | false =>
    have Hv := Lib.hid hv
    clear hv hR
    go_enter Try.func59, Try.ntmps59
    go_wp2_with fail
    refine (specValid_any _ _ _ _ c l _ hn (hr.later (bl_alloc (bl_alloc (Below.refl _ _) _) _))).mono ?_
    rintro e w1 ⟨rfl, hb⟩
    have HB1 := Lib.hid (bl_trans (bl_alloc (bl_alloc (Below.refl w.heap.size w) _) _) hb)
    have r0 : w1.cell? ⟨w.heap.size + 1, 0, none⟩ = some (.slice none 0 0) := kc hb (by go_simp)
    have r1 : w1.cell? ⟨w.heap.size + 1, 1, none⟩ = some (.int .i64 0) := kc hb (by go_simp)
    have f0 : w1.frozen? ⟨w.heap.size + 1, 0, none⟩ = false := kf hb (by simp) (by go_simp)
    have f1 : w1.frozen? ⟨w.heap.size + 1, 1, none⟩ = false := kf hb (by simp) (by go_simp)
    clear hb
    rw [Hv.out]
    go_wp2
    refine bodyPost_ret (v := .tuple #[.agg #[.slice none 0 0, .int .i64 0], .bool false]) (by simp [results, Try.results59, go_sem, r0, r1]) rfl ?_
    exact ⟨none, 0, rfl, .inl rfl, (HB1.out.setCell (by simp) _).setCell (by simp) _, ⟨fun _ => rfl, Nat.le_refl 0⟩⟩
  | true =>
    have hk : kk < 1 ∨ 12 < kk := by
      unfold weaR at hR
      rw [hv] at hR
      simp at hR
      omega
    have Hv := Lib.hid hv
    clear hv hR
    rcases hk with hk | hk
    all_goals
      go_enter Try.func59, Try.ntmps59
      go_wp2_with fail
      refine (specValid_any _ _ _ _ c l _ hn (hr.later (bl_alloc (bl_alloc (Below.refl _ _) _) _))).mono ?_
      rintro e w1 ⟨rfl, hb⟩
      have HB1 := Lib.hid (bl_trans (bl_alloc (bl_alloc (Below.refl w.heap.size w) _) _) hb)
      have r0 : w1.cell? ⟨w.heap.size + 1, 0, none⟩ = some (.slice none 0 0) := kc hb (by go_simp)
      have r1 : w1.cell? ⟨w.heap.size + 1, 1, none⟩ = some (.int .i64 0) := kc hb (by go_simp)
      have f0 : w1.frozen? ⟨w.heap.size + 1, 0, none⟩ = false := kf hb (by simp) (by go_simp)
      have f1 : w1.frozen? ⟨w.heap.size + 1, 1, none⟩ = false := kf hb (by simp) (by go_simp)
      clear hb
      rw [Hv.out]
      go_wp2
      refine bodyPost_ret (v := .tuple #[.agg #[.slice none 0 0, .int .i64 0], .bool false]) (by simp [results, Try.results59, go_sem, r0, r1]) rfl ?_
      exact ⟨none, 0, rfl, .inl rfl, (HB1.out.setCell (by simp) _).setCell (by simp) _, ⟨fun _ => rfl, Nat.le_refl 0⟩⟩


set_option maxRecDepth 100000 in
set_option maxHeartbeats 3200000 in
theorem specWeakenK_val (A : Option Addr) (n cap : Nat) (bd kk : Int) (c l : Nat → Int) (w : World) (hn : n ≤ 1048576) (hr : Rd w w.heap.size A n c l) (hv : validB n c l bd = true) (hk1 : 1 ≤ kk) (hk2 : kk ≤ 12) :
    Calls Try.prog 59 #[.agg #[.slice A n cap, .int .i64 bd], .int .i64 kk] w (CReK w (kept c l kk n).length (rC (kept c l kk n)) (rL (kept c l kk n)) (capB (wkB c l bd kk n)) true) := by
  have Hv := Lib.hid hv
  have hbd := valid_bd hv
  clear hv
  go_enter Try.func59, Try.ntmps59
  go_wp2_with fail
  refine (specValid_any _ _ _ _ c l _ hn (hr.later (bl_alloc (bl_alloc (Below.refl _ _) _) _))).mono ?_
  rintro e w1 ⟨rfl, hb⟩
  have HB1 := Lib.hid (bl_trans (bl_alloc (bl_alloc (Below.refl w.heap.size w) _) _) hb)
  have c00 : Cel w1 w.heap.size 0 (.slice A n cap) := ⟨kc hb (by go_simp), kf hb (by first | (simp; done) | (simp; omega)) (by go_simp)⟩
  have a1 : w1.cell? ⟨w.heap.size, 1, none⟩ = some (.int .i64 bd) := kc hb (by go_simp)
  have c10 : Cel w1 (w.heap.size + 1) 0 (.slice none 0 0) := ⟨kc hb (by go_simp), kf hb (by first | (simp; done) | (simp; omega)) (by go_simp)⟩
  have c11 : Cel w1 (w.heap.size + 1) 1 (.int .i64 0) := ⟨kc hb (by go_simp), kf hb (by first | (simp; done) | (simp; omega)) (by go_simp)⟩
  have C00 := Lib.hid c00
  have C10 := Lib.hid c10
  have C11 := Lib.hid c11
  have a0 := c00.1
  have q1 : w.heap.size + 1 < w1.heap.size := World.block_lt_of_cell? w1 _ c10.1
  have q0 : w.heap.size < w1.heap.size := by omega
  clear hb c00 c10 c11
  rw [Hv.out]
  go_wp2
  go_loopw [7] (fun i wr => ∃ k : Nat, k ≤ n ∧ i = .int .i64 k ∧ Out w w1.heap.size ((w1.heap.size, 1, .int .i64 (wkB c l bd kk k)) :: [(w.heap.size, 0, .slice A n cap), (w.heap.size + 1, 0, .slice none 0 0), (w.heap.size + 1, 1, .int .i64 0)]) (rC (kept c l kk n)) (rL (kept c l kk n)) (kept c l kk k).length wr) (fun i _ => n - (intOf i).toNat)
  case atStart =>
    have hal := bl_alloc (Below.refl w1.heap.size w1) (.cells #[.slice none 0 0, .int .i64 bd] 42)
    refine ⟨0, Nat.zero_le _, rfl, .slice none 0 0, ⟨by go_simp, by go_simp⟩, World.ownsRow_nil _ _ _ _, fun x hx => ?_, bl_trans HB1.out hal, by omega⟩
    simp only [List.mem_cons, List.not_mem_nil, or_false] at hx
    rcases hx with rfl | rfl | rfl | rfl
    · exact ⟨.inr ⟨rfl, by simp⟩, by unfold wkB; constructor <;> go_simp⟩
    · exact ⟨.inl (by show w.heap.size < _; omega), C00.out.below hal⟩
    · exact ⟨.inl (by show w.heap.size + 1 < _; omega), C10.out.below hal⟩
    · exact ⟨.inl (by show w.heap.size + 1 < _; omega), C11.out.below hal⟩
  case round =>
    obtain ⟨k, hk, rfl, ov, old⟩ := hrel
    have b00 := (old.at_ (j := w.heap.size) (o := 0) (v := .slice A n cap) (by simp)).1
    obtain ⟨r0, f0⟩ := old.at_ (j := w.heap.size + 1) (o := 0) (v := .slice none 0 0) (by simp)
    obtain ⟨r1, f1⟩ := old.at_ (j := w.heap.size + 1) (o := 1) (v := .int .i64 0) (by simp)
    obtain ⟨o1, g1⟩ := old.at_ (j := w1.heap.size) (o := 1) (v := .int .i64 (wkB c l bd kk k)) (by simp)
    obtain ⟨o0, g0⟩ := old.o0
    have Old := Lib.hid old
    have hbw := old.bel
    have hz : w1.heap.size < wr.heap.size := World.block_lt_of_cell? wr _ o0
    have hrg := wkB_le (c := c) (l := l) (v := kk) (bd := bd) (n := k) (fun i hi => valid_coef Hv.out (by omega))
    clear old a0 a1
    by_cases hlt : k < n
    · have hco := valid_coef Hv.out hlt
      have hL := litAt Hv.out hlt
      obtain ⟨_, hl1, hl2⟩ := litB_iff.1 hL
      obtain ⟨b, off, rfl, hbl, hc⟩ := (hr.below hbw) (by omega)
      obtain ⟨hc1, hc2⟩ := hc k hlt
      have hzb : b < wr.heap.size := Nat.lt_of_lt_of_le hbl hbw.size
      have hkI : (k : Int) < (n : Int) := by omega
      have hkJ : (0 : Int) ≤ (k : Int) := by omega
      have hq1 : w.heap.size + 1 < wr.heap.size := by omega
      have hq0 : w.heap.size < wr.heap.size := by omega
      clear hc hr hbw hL
      by_cases he : ab (l k) = kk
      · have hkp := Lib.hid (kept_no (c := c) (l := l) (v := kk) he)
        have hwk := Lib.hid (wkB_yes (c := c) (l := l) (v := kk) (bd := bd) he)
        have hw64 : IntKind.i64.wrap (wkB c l bd kk k - c k) = wkB c l bd kk k - c k := IntWalk.i64_in _ (by omega)
        have low3 : ∀ x ∈ [(w.heap.size, 0, Value.slice (some ⟨b, off, none⟩) n cap), (w.heap.size + 1, 0, .slice none 0 0), (w.heap.size + 1, 1, .int .i64 0)], x.1 < w1.heap.size := by
          intro x hx
          simp only [List.mem_cons, List.not_mem_nil, or_false] at hx
          rcases hx with rfl | rfl | rfl
          all_goals (dsimp only; omega)
        have heq : (ab (l k) == kk) = true := by simp [he]
        clear hrg
        go_upto_region 8 with (go_at_call 75; refine (l1Abs_any _ _ (by omega) (by omega)).mono ?_; rintro e w' ⟨rfl, hw⟩; replace hw := hw.symm; subst hw)
        go_still_tail 10, (by kernel_rfl)
        change wpList _ _ _ _ _ wr.drew
        go_wp2
        go_roundw
        case rel =>
          refine ⟨k + 1, by omega, by go_num, ?_⟩
          rw [hwk.out, hkp.out]
          exact ⟨_, (Old.out.setB low3).below ((Below.refl _ _).drew)⟩
        case measure => simp [intOf]; omega
      · have hkp := Lib.hid (kept_yes (c := c) (l := l) (v := kk) he)
        have hwk := Lib.hid (wkB_no (c := c) (l := l) (v := kk) (bd := bd) he)
        obtain ⟨hX, hY⟩ := kept_at (c := c) (l := l) (v := kk) hlt he
        have HX := Lib.hid hX
        have HY := Lib.hid hY
        have hkl : (kept c l kk k).length ≤ 1048576 := by have := kept_le (c := c) (l := l) (v := kk) k; omega
        have heq : (ab (l k) == kk) = false := by simp [he]
        clear hX hY hrg
        go_upto_region 9 with (go_at_call 75; refine (l1Abs_any _ _ (by omega) (by omega)).mono ?_; rintro e w' ⟨rfl, hw⟩; replace hw := hw.symm; subst hw)
        go_region_law (refine step_appG (by rfl) _ _ (by rfl) Old.out (by repeat (first | exact Below.refl _ _ | refine bl_alloc ?_ _ | refine Below.drew ?_)) (by rfl) (by rfl) (alloc_eq (by first | assumption | rfl | simp)) HX.out HY.out hkl ?_; intro gg cap1 w3 t0 u0 hout)
        all_goals
          go_wp2
          go_roundw
          case rel => exact ⟨k + 1, by omega, by go_num, by rw [hkp.out, hwk.out, List.length_append]; exact hout⟩
          case measure => simp [intOf]; omega
    · have e : k = n := by omega
      subst e
      obtain ⟨A', cap', rfl, hF⟩ := Old.out.frs
      have hcap := row_cap Old.out.own (by omega)
      have hF1 := hF.more (B' := w.heap.size + 1 + 1) (by omega)
      have HF := Lib.hid hF1
      have HF0 := Lib.hid hF
      have HB := Lib.hid hbw
      clear hF hF1 hbw hr hrg
      by_cases hneg : wkB c l bd kk k < 0
      · have hcp := Lib.hid (show capB (wkB c l bd kk k) = 0 from if_pos hneg)
        go_wp2
        refine bodyPost_ret (v := .tuple #[.agg #[.slice A' (kept c l kk k).length cap', .int .i64 0], .bool true]) (by simp [results, Try.results59, go_sem, r0, r1]) rfl ?_
        rw [hcp.out]
        exact ⟨A', cap', rfl, (((HF0.out.far' (by simp) (by simp) _).far' (by simp) (by simp; omega) _).far' (by simp) (by simp; omega) _).more (by omega), ((HB.out.setCell (by simp; omega) _).setCell (by simp) _).setCell (by simp) _, hcap⟩
      · have hcp := Lib.hid (show capB (wkB c l bd kk k) = wkB c l bd kk k from if_neg hneg)
        go_wp2
        refine bodyPost_ret (v := .tuple #[.agg #[.slice A' (kept c l kk k).length cap', .int .i64 (wkB c l bd kk k)], .bool true]) (by simp [results, Try.results59, go_sem, r0, r1]) rfl ?_
        rw [hcp.out]
        exact ⟨A', cap', rfl, ((HF.out.far' (by simp) (by simp) _).far' (by simp) (by simp) _).more (by omega), (HB.out.setCell (by simp) _).setCell (by simp) _, hcap⟩

theorem specWeakenK_any (A : Option Addr) (n cap : Nat) (bd kk : Int) (c l : Nat → Int) (w : World) (hn : n ≤ 1048576) (hr : Rd w w.heap.size A n c l) :
    Calls Try.prog 59 #[.agg #[.slice A n cap, .int .i64 bd], .int .i64 kk] w (CReK w (infN (weaR n c l bd kk) (kept c l kk n).length (rC (kept c l kk n)) (rL (kept c l kk n)) (capB (wkB c l bd kk n))) (rC (kept c l kk n)) (rL (kept c l kk n)) (infD (weaR n c l bd kk) (kept c l kk n).length (rC (kept c l kk n)) (rL (kept c l kk n)) (capB (wkB c l bd kk n))) (infB (weaR n c l bd kk) (kept c l kk n).length (rC (kept c l kk n)) (rL (kept c l kk n)) (capB (wkB c l bd kk n)))) := by
  cases hR : weaR n c l bd kk with
  | false => exact specWeakenK_inv A n cap bd kk c l _ _ w hn hr hR
  | true =>
    obtain ⟨hv, h1, h2⟩ := weaR_iff.1 hR
    have hok := kept_ok kk hv
    have hB : infB true (kept c l kk n).length (rC (kept c l kk n)) (rL (kept c l kk n)) (capB (wkB c l bd kk n)) = true := by unfold infB; rw [hok]; rfl
    have hN : infN true (kept c l kk n).length (rC (kept c l kk n)) (rL (kept c l kk n)) (capB (wkB c l bd kk n)) = (kept c l kk n).length := by unfold infN; rw [hB]; rfl
    have hD : infD true (kept c l kk n).length (rC (kept c l kk n)) (rL (kept c l kk n)) (capB (wkB c l bd kk n)) = capB (wkB c l bd kk n) := by unfold infD; rw [hB]; rfl
    rw [hB, hN, hD]
    exact specWeakenK_val A n cap bd kk c l w hn hr hv h1 h2
/-- What a rule of the model leaves, whatever it says. -/
def WkRes (w : World) (n : Nat) (e : Ending) (w' : World) : Prop := ∃ A' n' cap' bd' ok, e = .returned (.tuple #[.agg #[.slice A' n' cap', .int .i64 bd'], .bool ok]) ∧ n' ≤ n ∧ CapOk A' n' cap' ∧ FE w' w.heap.size A' n' ∧ Below w.heap.size w w'
theorem specWeakenF (A : Option Addr) (n cap : Nat) (bd kk : Int) (c l : Nat → Int) (w : World) (hn : n ≤ 1048576) (hr : Rd w w.heap.size A n c l) :
    Calls Try.prog 59 #[.agg #[.slice A n cap, .int .i64 bd], .int .i64 kk] w (WkRes w n) :=
  (specWeakenK_any A n cap bd kk c l w hn hr).mono fun _ _ ⟨A', cap', he, hf, hb, hc⟩ => ⟨A', _, cap', _, _, he, Nat.le_trans (infN_le _ _ _ _ _) (kept_le n), hc, ⟨_, _, hf⟩, hb⟩
end Go.Proofs.Ytooknldfkcdneaa

namespace Go.Proofs.Ytooknldfkcdneaa
open Go.ChangeShapes Go.WideShapes Go.ChangeAt Go.RowKit

/-- What the draw of a problem and a constraint leaves. -/
def DRu (w : World) (e : Ending) (w' : World) : Prop := ∃ Al k capl xs lo el Ac kc capc bd c l, e = .returned (.tuple #[.slice Al k capl, .agg #[.slice Ac kc capc, .int .i64 bd]]) ∧ k ≤ 8 ∧ kc ≤ 100 ∧ PX w' lo el 15 (.slice Al k capl) k xs ∧ Rd w' w'.heap.size Ac kc c l ∧ Below w.heap.size w w'
theorem PX.setlow {w : World} {lo el N k : Nat} {ov : Value} {xs : List Value} (h : PX w lo el N ov k xs) {p : Addr} (hp : p.block < lo) (hp' : p.block < el) (u : Value) : PX (w.setCell p u) lo el N ov k xs :=
  h.gr (R := p.block) (grown_set w p.block p.off u |> fun g => (show Gr p.block w (w.setCell p u) from by
    have := g
    exact ⟨by simp [World.setCell], by simp [World.setCell], by simp [World.setCell], by simp [World.setCell], fun j hj hne => Below.heap_setCell w p u j (fun e => hne (by rw [e]))⟩)) hp hp'

theorem cel_off {w : World} {j o : Nat} {v : Value} (h : Cel w j o v) {p : Addr} (hp : j ≠ p.block) (u : Value) : Cel (w.setCell p u) j o v :=
  ⟨(World.cell?_setCell_other w p ⟨j, o, none⟩ u (fun e => hp (by rw [e]))).trans h.1, by rw [World.frozen?_setCell]; exact h.2⟩

set_option linter.unusedSimpArgs false in
set_option linter.unusedVariables false in
set_option maxRecDepth 100000 in
set_option maxHeartbeats 6400000 in
theorem drawRup_any (A : Option Addr) (n cap : Nat) (y : Nat → Int) (w : World) (hm : n ≤ maxLen) (hcap : n ≤ cap) (hr : RdY w w.heap.size A n y) :
    Calls Try.prog 31 #[.slice A n cap] w (DRu w) := by
  have HR := Lib.hid hr
  clear hr
  go_enter Try.func31, Try.ntmps31
  go_upto_region 1 with fail
  have HB0 := Lib.hid (bl_alloc (Below.refl w.heap.size w) (.cells #[.slice none 0 0, .int .i64 0] 42))
  have r0 : Cel (w.alloc (.cells #[.slice none 0 0, .int .i64 0] 42)) w.heap.size 0 (.slice none 0 0) := ⟨by go_simp, by go_simp⟩
  have r1 : Cel (w.alloc (.cells #[.slice none 0 0, .int .i64 0] 42)) w.heap.size 1 (.int .i64 0) := ⟨by go_simp, by go_simp⟩
  have hz0 : w.heap.size < (w.alloc (.cells #[.slice none 0 0, .int .i64 0] 42)).heap.size := by simp
  generalize (w.alloc (.cells #[.slice none 0 0, .int .i64 0] 42)) = W0 at *
  have R0 := Lib.hid r0
  have R1 := Lib.hid r1
  clear r0 r1
  go_wp2_with fail
  refine (open_any _ _ _ y _ hm hcap (HR.out.later HB0.out)).mono ?_
  rintro e w1 ⟨rfl, hb, hrd, hz1⟩
  have HB1 := Lib.hid (bl_trans HB0.out hb)
  have RD1 := Lib.hid hrd
  have S0 := Lib.hid (R0.out.below hb)
  have S1 := Lib.hid (R1.out.below hb)
  clear hb hrd R0 R1
  obtain ⟨Q, hQ⟩ : ∃ Q, W0.heap.size = Q := ⟨_, rfl⟩
  obtain ⟨T3, hT3⟩ : ∃ T3, w.heap.size = T3 := ⟨_, rfl⟩
  rw [hQ] at RD1 hz0 hz1 ⊢
  rw [hT3] at S0 S1 hz0 ⊢
  have HT3 := Lib.hid hT3
  clear hQ hT3
  go_wp2_with fail
  refine (problem_any Q 0 _ (by omega) RD1.out).mono ?_
  rintro e w2 ⟨A2, k2, cap2, xs2, rfl, hk2, _, _, hp, hg, hr⟩
  have HP2 := Lib.hid hp
  have G2 := Lib.hid hg
  have RD2 := Lib.hid hr
  have T0 := Lib.hid (hg.cel S0.out (by omega))
  have T1 := Lib.hid (hg.cel S1.out (by omega))
  have hz2 : w1.heap.size ≤ w2.heap.size := hg.size
  clear hp hg hr RD1 S0 S1
  go_wp2_with fail
  refine (mutateP_any Q (0 + 1000) 12 _ _ _ _ xs2 _ (by omega) (by omega) hk2 RD2.out HP2.out).mono ?_
  rintro e w3 ⟨A3, k3, cap3, xs3, rfl, hk3, _, _, hp, hg, hr⟩
  have HP3 := Lib.hid hp
  have HA3 := Lib.hid (fun b (e : (Value.slice A3 k3 cap3).ownBlock = some b) => (hp.lt b e).2)
  have G3 := Lib.hid (G2.out.trans hg)
  have RD3 := Lib.hid hr
  have U0 := Lib.hid (hg.cel T0.out (by omega))
  have U1 := Lib.hid (hg.cel T1.out (by omega))
  have hz3 : w2.heap.size ≤ w3.heap.size := hg.size
  clear hp hg hr RD2 HP2 G2 T0 T1
  go_wp2_with fail
  refine (draw_any Q (0 + 1000 + 40) 4 _ (by omega) (by omega) RD3.out).mono ?_
  rintro e w4 ⟨A4, k4, cap4, bd4, rfl, hk4, hfe, hg, hr, hcp⟩
  have GG4 := Lib.hid hg
  have FE4 := Lib.hid hfe
  have HC4 := Lib.hid hcp
  have RD4 := Lib.hid hr
  have V0 := Lib.hid (hg.cel U0.out (by omega))
  have V1 := Lib.hid (hg.cel U1.out (by omega))
  have hz4 : w3.heap.size ≤ w4.heap.size := hg.size
  clear hfe hg hr hcp RD3 U0 U1
  go_upto_region 4 with fail
  have HAl := Lib.hid (bl_alloc (Below.refl w4.heap.size w4) (.cells #[.slice A4 k4 cap4, .int .i64 bd4] 42))
  have p0 : Cel (w4.alloc (.cells #[.slice A4 k4 cap4, .int .i64 bd4] 42)) w4.heap.size 0 (.slice A4 k4 cap4) := ⟨by go_simp, by go_simp⟩
  have p1 : Cel (w4.alloc (.cells #[.slice A4 k4 cap4, .int .i64 bd4] 42)) w4.heap.size 1 (.int .i64 bd4) := ⟨by go_simp, by go_simp⟩
  have hz5 : w4.heap.size < (w4.alloc (.cells #[.slice A4 k4 cap4, .int .i64 bd4] 42)).heap.size := by simp
  have FE5 := Lib.hid (FE4.out.bel HAl.out)
  have GG5 := Lib.hid (GG4.out.bel HAl.out)
  have RD5 := Lib.hid (RD4.out.bel HAl.out)
  have X0 := Lib.hid (V0.out.below HAl.out)
  have X1 := Lib.hid (V1.out.below HAl.out)
  clear FE4 GG4 RD4 V0 V1 HAl
  generalize (w4.alloc (.cells #[.slice A4 k4 cap4, .int .i64 bd4] 42)) = W5 at *
  have P0 := Lib.hid p0
  have P1 := Lib.hid p1
  clear p0 p1
  obtain ⟨T6, hT6⟩ : ∃ T6, w4.heap.size = T6 := ⟨_, rfl⟩
  rw [hT6] at P0 P1 hz5 hz4 ⊢
  clear hT6
  have hq1 : T3 ≠ Q := by omega
  have hq2 : T6 ≠ Q := by omega
  by_cases hk0 : k3 = 0
  · subst hk0
    skip
    have HCz := Lib.hid HC4.out
    have FEz := Lib.hid FE5.out
    have GGz := Lib.hid GG5.out
    have RDz := Lib.hid RD5.out
    have X0z := Lib.hid X0.out
    have X1z := Lib.hid X1.out
    have P0z := Lib.hid P0.out
    have P1z := Lib.hid P1.out
    clear FE5 GG5 RD5 X0 X1 P0 P1 HC4
    obtain ⟨cc, ll, hfr⟩ := FEz.out
    have Hrd := Lib.hid hfr.rdAt
    clear hfr
    obtain ⟨b0, f0⟩ := P0z.out
    obtain ⟨b1, f1⟩ := P1z.out
    go_wp2_with fail
    refine (mutate_any Q (0 + 1000 + 40 + 100) _ _ _ _ cc ll _ (by omega) (by omega) RDz.out Hrd.out HCz.out).mono ?_
    rintro e w9 ⟨A9, k9, cap9, bd9, rfl, hk9, hfe, hg, hr, _⟩
    have HP9 := Lib.hid (HP3.out.gr (GGz.out.trans hg) (by omega) (by omega))
    have G9 := Lib.hid (G3.out.trans (GGz.out.trans hg))
    have FE9 := Lib.hid hfe
    obtain ⟨d0, e0⟩ := hg.cel X0z.out hq1
    obtain ⟨d1, e1⟩ := hg.cel X1z.out hq1
    have hz9 : T3 < W5.heap.size := by omega
    clear hfe hg hr b0 b1 f0 f1 P0z P1z X0z X1z RDz Hrd HCz FEz GGz
    go_wp2
    refine bodyPost_ret (v := .tuple #[.slice A3 0 cap3, .agg #[.slice A9 k9 cap9, .int .i64 bd9]]) (by simp [results, Try.results31, go_sem, d0, d1]) rfl ?_
    obtain ⟨c', l', hfr'⟩ := (FE9.out.set_ (p := ⟨T3, 0, none⟩) hz9 (.slice A9 k9 cap9)).set_ (p := ⟨T3, 1, none⟩) hz9 (.int .i64 bd9)
    exact ⟨_, _, _, xs3, _, _, _, _, _, _, c', l', rfl, hk3, by omega, (HP9.out.setlow (p := ⟨T3, 0, none⟩) (by show T3 < _; omega) (by show T3 < _; omega) _).setlow (p := ⟨T3, 1, none⟩) (by show T3 < _; omega) (by show T3 < _; omega) _, hfr'.rdAt, ((gr_bel' HB1.out G9.out (by have := HT3.out; omega)).setCell (by have := HT3.out; show w.heap.size ≤ T3; omega) _).setCell (by have := HT3.out; show w.heap.size ≤ T3; omega) _⟩
  · have hkI : (0 : Int) < (k3 : Int) := by omega
    go_wp2_with fail
    refine (pick_any Q (0 + 1000 + 40 + 100) 3 _ (by omega) RD5.out).mono ?_
    rintro e w6 ⟨x, rfl, hx0, hx1, hg, hr⟩
    have FE6 := Lib.hid (FE5.out.gr hg (by omega))
    have GG6 := Lib.hid (GG5.out.trans hg)
    have RD6 := Lib.hid hr
    have Y0 := Lib.hid (hg.cel X0.out hq1)
    have Y1 := Lib.hid (hg.cel X1.out hq1)
    have O0 := Lib.hid (hg.cel P0.out hq2)
    have O1 := Lib.hid (hg.cel P1.out hq2)
    have hz6 : W5.heap.size ≤ w6.heap.size := hg.size
    clear hg hr FE5 GG5 RD5 X0 X1 P0 P1
    by_cases hx : x = 0
    · subst hx
      clear hx0 hx1
      have HP6 := Lib.hid (HP3.out.gr GG6.out (by omega) (by omega))
      obtain ⟨g, capg, cur, eg, hgh⟩ : ∃ g capg cur, (Value.slice A3 k3 cap3) = .slice (some ⟨g, 0, none⟩) k3 capg ∧ w6.heap[g]? = some (.cells cur 42 (0, 0)) := by
        rcases HP6.out.nil_or with ⟨_, h⟩ | h
        · exact absurd h hk0
        · exact h
      cases eg
      have hgl := (HP6.out.lt g rfl)
      obtain ⟨va, vb, hxa, hxb, An, nn, capn, bdn, rfl, rfl, hnn, hfn, hcn⟩ := HP6.out.els 0 (by omega)
      have c0 : w6.cell? ⟨g, 0, none⟩ = some (.slice An nn capn) := (HP6.out.own.cellAt 0 (by omega)).trans hxa
      have c1 : w6.cell? ⟨g, 1, none⟩ = some (.int .i64 bdn) := (HP6.out.own.cellAt 1 (by omega)).trans hxb
      have f0 := HP6.out.own.frozenAt 0
      have f1 := HP6.out.own.frozenAt 1
      have K0 := Lib.hid (show Cel w6 g 0 (.slice An nn capn) from ⟨c0, f0⟩)
      have K1 := Lib.hid (show Cel w6 g 1 (.int .i64 bdn) from ⟨c1, f1⟩)
      have hgQ : g ≠ Q := by omega
      have HFn := Lib.hid hfn
      clear hxa hxb f0 f1 hgh hfn
      go_wp2_with fail
      refine wp_region_held_drew (S := fun w' => w'.cell? ⟨g, 0, none⟩ = some (.slice An nn capn) ∧ w'.cell? ⟨g, 1, none⟩ = some (.int .i64 bdn)) (by kernel_rfl) ⟨by simpa using c0, by simpa using c1⟩ (fun hHeld => ?_)
      refine wpAnyH_take (i := 0) (v := .slice (some ⟨g, 0, none⟩) k3 cap3) rfl (by kernel_rfl) (by kernel_rfl) (by kernel_rfl) (fun _ _ _ h => h) (Or.inl ⟨by rfl, ?_⟩) (by assumption) ?_
      · intro w hSw; simp only [List.getElem_toArray, List.getElem_cons_zero, List.getElem_cons_succ]; go_simp
      try simp only [Act.put, List.getElem_toArray, List.getElem_cons_zero, List.getElem_cons_succ, List.setIfInBounds_toArray, List.set_cons_zero, List.set_cons_succ]
      refine wpAnyH_take (i := 1) (v := .pointer (some ⟨g, 0, none⟩)) rfl (by kernel_rfl) (by kernel_rfl) (by kernel_rfl) (fun _ _ _ h => h) (Or.inl ⟨by rfl, ?_⟩) (by assumption) ?_
      · intro w hSw; simp only [List.getElem_toArray, List.getElem_cons_zero, List.getElem_cons_succ]; go_simp
      try simp only [Act.put, List.getElem_toArray, List.getElem_cons_zero, List.getElem_cons_succ, List.setIfInBounds_toArray, List.set_cons_zero, List.set_cons_succ]
      refine wpAnyH_take (i := 2) (v := .agg #[.slice An nn capn, .int .i64 bdn]) rfl (by kernel_rfl) (by kernel_rfl) (by kernel_rfl) (fun _ _ _ h => h) (Or.inl ⟨by rfl, ?_⟩) (by assumption) ?_
      · intro w hSw; obtain ⟨s0, s1⟩ := hSw; simp only [List.getElem_toArray, List.getElem_cons_zero, List.getElem_cons_succ]; go_simp
      try simp only [Act.put, List.getElem_toArray, List.getElem_cons_zero, List.getElem_cons_succ, List.setIfInBounds_toArray, List.set_cons_zero, List.set_cons_succ]
      refine wpAnyH_take (i := 3) (v := .pointer (some ⟨Q, 0, none⟩)) rfl (by kernel_rfl) (by kernel_rfl) (by kernel_rfl) (fun _ _ _ h => h) (Or.inl ⟨by rfl, ?_⟩) (by assumption) ?_
      · intro w hSw; simp only [List.getElem_toArray, List.getElem_cons_zero, List.getElem_cons_succ]; go_simp
      try simp only [Act.put, List.getElem_toArray, List.getElem_cons_zero, List.getElem_cons_succ, List.setIfInBounds_toArray, List.set_cons_zero, List.set_cons_succ]
      clear hHeld
      refine wpAnyH_ready (rs := [4]) (by kernel_rfl) (by simp) ?_
      refine AllReadyH.cons rfl (fun K hK => ?_) AllReadyH.nil
      simp only [List.getElem_toArray, List.getElem_cons_zero, List.getElem_cons_succ]
      go_simp
      go_at_call 51
      refine (pick_any Q (0 + 1000 + 40 + 100 + 1) 4 _ (by omega) (RD6.out.bel (Below.refl w6.heap.size w6).drew)).mono ?_
      rintro e w7 ⟨x, rfl, hx0, hx1, hg0, hr⟩
      have hg : Gr Q w6 w7 := (Gr.of (Below.refl w6.heap.size w6).drew).trans hg0
      obtain ⟨c0, _⟩ := hg.cel K0.out hgQ
      obtain ⟨c1, _⟩ := hg.cel K1.out hgQ
      have FE7 := Lib.hid (FE6.out.gr hg (by omega))
      have GG7 := Lib.hid (GG6.out.trans hg)
      have RD7 := Lib.hid hr
      have Z0 := Lib.hid (hg.cel Y0.out hq1)
      have Z1 := Lib.hid (hg.cel Y1.out hq1)
      have N0 := Lib.hid (hg.cel O0.out hq2)
      have N1 := Lib.hid (hg.cel O1.out hq2)
      have K07 := Lib.hid (hg.cel K0.out hgQ)
      have K17 := Lib.hid (hg.cel K1.out hgQ)
      have HF7 := Lib.hid (HFn.out.gr hg (by omega))
      have hz7 : w6.heap.size ≤ w7.heap.size := hg.size
      refine hK.out _ _ ⟨c0, c1⟩ (fun hHeld => ?_)
      clear hK K
      try simp only [Act.put, List.getElem_toArray, List.getElem_cons_zero, List.getElem_cons_succ, List.setIfInBounds_toArray, List.set_cons_zero, List.set_cons_succ]
      clear hg hg0 hr FE6 HP6 GG6 RD6 Y0 Y1 O0 O1 K0 K1 HFn c0 c1
      have hwx : IntKind.i64.wrap (1 + x) = 1 + x := IntWalk.i64_in _ (by omega)
      refine wpAnyH_take (i := 5) (v := .int .i64 (1 + x)) rfl (by kernel_rfl) (by kernel_rfl) (by kernel_rfl) (fun _ _ _ h => h) (Or.inl ⟨by rfl, ?_⟩) (by assumption) ?_
      · intro w hSw; simp only [List.getElem_toArray, List.getElem_cons_zero, List.getElem_cons_succ]; go_simp
      try simp only [Act.put, List.getElem_toArray, List.getElem_cons_zero, List.getElem_cons_succ, List.setIfInBounds_toArray, List.set_cons_zero, List.set_cons_succ]
      clear hHeld
      refine wpAnyH_ready (rs := [6]) (by kernel_rfl) (by simp) ?_
      refine AllReadyH.cons rfl (fun K hK => ?_) AllReadyH.nil
      simp only [List.getElem_toArray, List.getElem_cons_zero, List.getElem_cons_succ]
      go_simp
      go_at_call 59
      obtain ⟨cn, ln, hfrn⟩ := HF7.out
      refine (specWeakenF An nn capn bdn (1 + x) cn ln w7 (by omega) hfrn.rdAt).mono ?_
      rintro e w8 ⟨A8, n8, cap8, bd8, ok8, rfl, hn8, hc8, hf8, hb⟩
      have FE8 := Lib.hid hf8
      have GG8 := Lib.hid (GG7.out.bel hb)
      have RD8 := Lib.hid (RD7.out.bel hb)
      have HC8 := Lib.hid hc8
      have Z08 := Lib.hid (Z0.out.below hb)
      have Z18 := Lib.hid (Z1.out.below hb)
      have N08 := Lib.hid (N0.out.below hb)
      have N18 := Lib.hid (N1.out.below hb)
      obtain ⟨c0, _⟩ := K07.out.below hb
      obtain ⟨c1, _⟩ := K17.out.below hb
      have hz8 : w7.heap.size ≤ w8.heap.size := hb.size
      refine hK.out _ _ ⟨c0, c1⟩ (fun hHeld => ?_)
      clear hK K
      try simp only [Act.put, List.getElem_toArray, List.getElem_cons_zero, List.getElem_cons_succ, List.setIfInBounds_toArray, List.set_cons_zero, List.set_cons_succ]
      clear hb hf8 hc8 hfrn HF7 FE7 GG7 RD7 Z0 Z1 N0 N1 K07 K17
      refine wpAnyH_take (i := 7) (v := .tuple #[.agg #[.slice A8 n8 cap8, .int .i64 bd8], .bool ok8]) rfl (by kernel_rfl) (by kernel_rfl) (by kernel_rfl) (fun _ _ _ h => h) (Or.inl ⟨by rfl, ?_⟩) (by assumption) ?_
      · intro w hSw; simp only [List.getElem_toArray, List.getElem_cons_zero, List.getElem_cons_succ]; go_simp
      try simp only [Act.put, List.getElem_toArray, List.getElem_cons_zero, List.getElem_cons_succ, List.setIfInBounds_toArray, List.set_cons_zero, List.set_cons_succ]
      refine wpAnyH_take (i := 8) (v := .agg #[.slice A8 n8 cap8, .int .i64 bd8]) rfl (by kernel_rfl) (by kernel_rfl) (by kernel_rfl) (fun _ _ _ h => h) (Or.inl ⟨by rfl, ?_⟩) (by assumption) ?_
      · intro w hSw; simp only [List.getElem_toArray, List.getElem_cons_zero, List.getElem_cons_succ]; go_simp
      try simp only [Act.put, List.getElem_toArray, List.getElem_cons_zero, List.getElem_cons_succ, List.setIfInBounds_toArray, List.set_cons_zero, List.set_cons_succ]
      refine wpAnyH_take (i := 9) (v := .bool ok8) rfl (by kernel_rfl) (by kernel_rfl) (by kernel_rfl) (fun _ _ _ h => h) (Or.inl ⟨by rfl, ?_⟩) (by assumption) ?_
      · intro w hSw; simp only [List.getElem_toArray, List.getElem_cons_zero, List.getElem_cons_succ]; go_simp
      try simp only [Act.put, List.getElem_toArray, List.getElem_cons_zero, List.getElem_cons_succ, List.setIfInBounds_toArray, List.set_cons_zero, List.set_cons_succ]
      clear hHeld
      obtain ⟨b0, f0⟩ := N08.out
      obtain ⟨b1, f1⟩ := N18.out
      have hg6 : g ≠ T6 := by have := HA3.out g rfl; omega
      refine wpAnyH_ready (rs := [10]) (by kernel_rfl) (by simp) ?_
      refine AllReadyH.cons rfl (fun K hK => ?_) AllReadyH.nil
      simp only [List.getElem_toArray, List.getElem_cons_zero, List.getElem_cons_succ]
      go_simp
      have c0' : ((w8.setCell ⟨T6, 0, none⟩ (.slice A8 n8 cap8)).setCell ⟨T6, 1, none⟩ (.int .i64 bd8)).cell? ⟨g, 0, none⟩ = some (.slice An nn capn) := (World.cell?_setCell_other _ _ _ _ (fun e => by injection e with e1 _ _; omega)).trans ((World.cell?_setCell_other _ _ _ _ (fun e => by injection e with e1 _ _; omega)).trans c0)
      have c1' : ((w8.setCell ⟨T6, 0, none⟩ (.slice A8 n8 cap8)).setCell ⟨T6, 1, none⟩ (.int .i64 bd8)).cell? ⟨g, 1, none⟩ = some (.int .i64 bdn) := (World.cell?_setCell_other _ _ _ _ (fun e => by injection e with e1 _ _; omega)).trans ((World.cell?_setCell_other _ _ _ _ (fun e => by injection e with e1 _ _; omega)).trans c1)
      refine hK.out _ _ ⟨c0', c1'⟩ (fun hHeld => ?_)
      clear hK K
      try simp only [Act.put, List.getElem_toArray, List.getElem_cons_zero, List.getElem_cons_succ, List.setIfInBounds_toArray, List.set_cons_zero, List.set_cons_succ]
      refine wpAnyH_done (by kernel_rfl) ?_ _
      clear hHeld c0' c1' c0 c1
      have hT6w : T6 < w7.heap.size := by omega
      have FEz := Lib.hid ((FE8.out.set_ (p := ⟨T6, 0, none⟩) hT6w (.slice A8 n8 cap8)).set_ (p := ⟨T6, 1, none⟩) hT6w (.int .i64 bd8))
      have GGz := Lib.hid ((GG8.out.set (p := ⟨T6, 0, none⟩) (.inr (by show w3.heap.size ≤ T6; omega)) (.slice A8 n8 cap8)).set (p := ⟨T6, 1, none⟩) (.inr (by show w3.heap.size ≤ T6; omega)) (.int .i64 bd8))
      have RDz := Lib.hid ((RD8.out.set (p := ⟨T6, 0, none⟩) (by show Q < T6; omega) (.slice A8 n8 cap8)).set (p := ⟨T6, 1, none⟩) (by show Q < T6; omega) (.int .i64 bd8))
      have HCz := Lib.hid HC8.out
      have X0z := Lib.hid (cel_off (cel_off Z08.out (p := ⟨T6, 0, none⟩) (by show T3 ≠ T6; omega) (.slice A8 n8 cap8)) (p := ⟨T6, 1, none⟩) (by show T3 ≠ T6; omega) (.int .i64 bd8))
      have X1z := Lib.hid (cel_off (cel_off Z18.out (p := ⟨T6, 0, none⟩) (by show T3 ≠ T6; omega) (.slice A8 n8 cap8)) (p := ⟨T6, 1, none⟩) (by show T3 ≠ T6; omega) (.int .i64 bd8))
      have P0z := Lib.hid (show Cel ((w8.setCell ⟨T6, 0, none⟩ (.slice A8 n8 cap8)).setCell ⟨T6, 1, none⟩ (.int .i64 bd8)) T6 0 (.slice A8 n8 cap8) from ⟨by go_simp, by go_simp⟩)
      have P1z := Lib.hid (show Cel ((w8.setCell ⟨T6, 0, none⟩ (.slice A8 n8 cap8)).setCell ⟨T6, 1, none⟩ (.int .i64 bd8)) T6 1 (.int .i64 bd8) from ⟨by go_simp, by go_simp⟩)
      have hz10 : w8.heap.size ≤ ((w8.setCell ⟨T6, 0, none⟩ (.slice A8 n8 cap8)).setCell ⟨T6, 1, none⟩ (.int .i64 bd8)).heap.size := by simp [World.setCell]
      clear FE8 GG8 RD8 HC8 Z08 Z18 N08 N18 b0 b1 f0 f1 HC4
      generalize ((w8.setCell ⟨T6, 0, none⟩ (.slice A8 n8 cap8)).setCell ⟨T6, 1, none⟩ (.int .i64 bd8)) = W10 at *
      obtain ⟨cc, ll, hfr⟩ := FEz.out
      have Hrd := Lib.hid hfr.rdAt
      clear hfr
      obtain ⟨b0, f0⟩ := P0z.out
      obtain ⟨b1, f1⟩ := P1z.out
      go_wp2_with fail
      refine (mutate_any Q (0 + 1000 + 40 + 100 + 1 + 1) _ _ _ _ cc ll _ (by omega) (by omega) RDz.out Hrd.out HCz.out).mono ?_
      rintro e w9 ⟨A9, k9, cap9, bd9, rfl, hk9, hfe, hg, hr, _⟩
      have HP9 := Lib.hid (HP3.out.gr (GGz.out.trans hg) (by omega) (by omega))
      have G9 := Lib.hid (G3.out.trans (GGz.out.trans hg))
      have FE9 := Lib.hid hfe
      obtain ⟨d0, e0⟩ := hg.cel X0z.out hq1
      obtain ⟨d1, e1⟩ := hg.cel X1z.out hq1
      have hz9 : T3 < W10.heap.size := by omega
      clear hfe hg hr b0 b1 f0 f1 P0z P1z X0z X1z RDz Hrd HCz FEz GGz
      go_wp2
      refine bodyPost_ret (v := .tuple #[.slice (some ⟨g, 0, none⟩) k3 cap3, .agg #[.slice A9 k9 cap9, .int .i64 bd9]]) (by simp [results, Try.results31, go_sem, d0, d1]) rfl ?_
      obtain ⟨c', l', hfr'⟩ := (FE9.out.set_ (p := ⟨T3, 0, none⟩) hz9 (.slice A9 k9 cap9)).set_ (p := ⟨T3, 1, none⟩) hz9 (.int .i64 bd9)
      exact ⟨_, _, _, xs3, _, _, _, _, _, _, c', l', rfl, hk3, by omega, (HP9.out.setlow (p := ⟨T3, 0, none⟩) (by show T3 < _; omega) (by show T3 < _; omega) _).setlow (p := ⟨T3, 1, none⟩) (by show T3 < _; omega) (by show T3 < _; omega) _, hfr'.rdAt, ((gr_bel' HB1.out G9.out (by have := HT3.out; omega)).setCell (by have := HT3.out; show w.heap.size ≤ T3; omega) _).setCell (by have := HT3.out; show w.heap.size ≤ T3; omega) _⟩
    · have hxb : (x == 0) = false := by rw [beq_eq_false_iff_ne]; exact hx
      clear hx0 hx1 hx
      have HCz := Lib.hid HC4.out
      have FEz := Lib.hid FE6.out
      have GGz := Lib.hid GG6.out
      have RDz := Lib.hid RD6.out
      have X0z := Lib.hid Y0.out
      have X1z := Lib.hid Y1.out
      have P0z := Lib.hid O0.out
      have P1z := Lib.hid O1.out
      clear FE6 GG6 RD6 Y0 Y1 O0 O1 HC4
      obtain ⟨cc, ll, hfr⟩ := FEz.out
      have Hrd := Lib.hid hfr.rdAt
      clear hfr
      obtain ⟨b0, f0⟩ := P0z.out
      obtain ⟨b1, f1⟩ := P1z.out
      go_wp2_with fail
      refine (mutate_any Q (0 + 1000 + 40 + 100 + 1) _ _ _ _ cc ll _ (by omega) (by omega) RDz.out Hrd.out HCz.out).mono ?_
      rintro e w9 ⟨A9, k9, cap9, bd9, rfl, hk9, hfe, hg, hr, _⟩
      have HP9 := Lib.hid (HP3.out.gr (GGz.out.trans hg) (by omega) (by omega))
      have G9 := Lib.hid (G3.out.trans (GGz.out.trans hg))
      have FE9 := Lib.hid hfe
      obtain ⟨d0, e0⟩ := hg.cel X0z.out hq1
      obtain ⟨d1, e1⟩ := hg.cel X1z.out hq1
      have hz9 : T3 < w6.heap.size := by omega
      clear hfe hg hr b0 b1 f0 f1 P0z P1z X0z X1z RDz Hrd HCz FEz GGz
      go_wp2
      refine bodyPost_ret (v := .tuple #[.slice A3 k3 cap3, .agg #[.slice A9 k9 cap9, .int .i64 bd9]]) (by simp [results, Try.results31, go_sem, d0, d1]) rfl ?_
      obtain ⟨c', l', hfr'⟩ := (FE9.out.set_ (p := ⟨T3, 0, none⟩) hz9 (.slice A9 k9 cap9)).set_ (p := ⟨T3, 1, none⟩) hz9 (.int .i64 bd9)
      exact ⟨_, _, _, xs3, _, _, _, _, _, _, c', l', rfl, hk3, by omega, (HP9.out.setlow (p := ⟨T3, 0, none⟩) (by show T3 < _; omega) (by show T3 < _; omega) _).setlow (p := ⟨T3, 1, none⟩) (by show T3 < _; omega) (by show T3 < _; omega) _, hfr'.rdAt, ((gr_bel' HB1.out G9.out (by have := HT3.out; omega)).setCell (by have := HT3.out; show w.heap.size ≤ T3; omega) _).setCell (by have := HT3.out; show w.heap.size ≤ T3; omega) _⟩
end Go.Proofs.Ytooknldfkcdneaa

namespace Go.Proofs.Ytooknldfkcdneaa
open Go.ChangeShapes Go.WideShapes Go.ChangeAt Go.RowKit

theorem rup_sound {k : Nat} {p : Nat → Con} (hn : ∀ i, i < k → (p i).n ≤ 1048576) (hok : ∀ i, i < k → okC (p i)) {n : Nat} {bd : Int} {c l : Nat → Int} (hv : validB n c l bd = true) (h : RupOf p k n bd c l true) {u : Nat → Bool} (hs : satB k p 12 u = true) : evalV n c l bd 12 u = true := by
  obtain ⟨V, r, hrun, hr⟩ := h
  have h12 := val12 hv
  cases he : evalV n c l bd 12 u with
  | true => rfl
  | false =>
    have hne := neg_eval (v := u) (by omega : n ≤ 13) hv
    rw [he] at hne
    have hq := negC_ok hv
    have hf : ∀ j, j < k + 1 → fixC (snocP p k (negC n c l bd) j) (tv u) := fun j hj => by
      by_cases e : j = k
      · subst e
        rw [snoc_last]
        exact eval_fix hq (by show n ≤ 1048576; omega) hne
      · rw [snoc_at (by omega)]
        exact sat_fix hn hs j (by omega)
    have ho : ∀ j, j < k + 1 → okC (snocP p k (negC n c l bd) j) := fun j hj => by
      by_cases e : j = k
      · subst e; rw [snoc_last]; exact hq
      · rw [snoc_at (by omega)]; exact hok j (by omega)
    obtain ⟨_, e⟩ := hrun.under ho (tv_rng u) hf (fun i _ hi => absurd rfl hi)
    subst e
    cases hr
theorem sB_same (c l l' : Nat → Int) (n : Nat) : sB c l (fun _ => true) n = sB c l' (fun _ => true) n := by
  induction n with
  | zero => rfl
  | succ n ih => rw [sB_yes (k := n) (l := l) rfl, sB_yes (k := n) (l := l') rfl, ih]
theorem sB_all {c l : Nat → Int} {P : Int → Bool} : ∀ n, (∀ k, k < n → 1 ≤ c k) → sB c l P n ≤ sB c l (fun _ => true) n ∧ (sB c l (fun _ => true) n ≤ sB c l P n → ∀ j, j < n → P (l j) = true) := by
  intro n
  induction n with
  | zero => intro _; exact ⟨Int.le_refl _, fun _ j hj => by omega⟩
  | succ n ih =>
    intro hc
    obtain ⟨h1, h2⟩ := ih fun k hk => hc k (by omega)
    have hcn := hc n (by omega)
    have e1 : sB c l (fun _ => true) (n + 1) = sB c l (fun _ => true) n + c n := sB_yes (k := n) (l := l) rfl
    cases hp : P (l n) with
    | true =>
      rw [sB_yes hp, e1]
      refine ⟨by omega, fun h j hj => ?_⟩
      by_cases e : j = n
      · subst e; exact hp
      · exact h2 (by omega) j (by omega)
    | false =>
      rw [sB_no hp, e1]
      exact ⟨by omega, fun h => by omega⟩
theorem sB_none {c l : Nat → Int} {P : Int → Bool} {n : Nat} (h : ∀ j, j < n → P (l j) = false) : sB c l P n = 0 := by
  induction n with
  | zero => rfl
  | succ n ih => rw [sB_no (h n (by omega)), ih fun j hj => h j (by omega)]
theorem rup_member {k : Nat} {p : Nat → Con} (hok : ∀ i, i < k → okC (p i)) {i : Nat} (hi : i < k) (hb : (p i).bd ≤ 1) {b : Bool} (h : RupOf p k (p i).n (p i).bd (p i).c (p i).l b) : b = true := by
  obtain ⟨V, r, hrun, rfl⟩ := h
  have hv : validB (p i).n (p i).c (p i).l (p i).bd = true := hok i hi
  have h12 := val12 hv
  have hq := negC_ok hv
  have ho : ∀ j, j < k + 1 → okC (snocP p k (negC (p i).n (p i).c (p i).l (p i).bd) j) := fun j hj => by
    by_cases e : j = k
    · subst e; rw [snoc_last]; exact hq
    · rw [snoc_at (by omega)]; exact hok j (by omega)
  obtain ⟨_, hend⟩ := hrun.ends ho
  rcases hend with ⟨_, hf⟩ | ⟨j, _, rfl, _⟩
  · exfalso
    have f1 := hf i (by omega)
    rw [snoc_at hi] at f1
    have f2 := hf k (by omega)
    rw [snoc_last] at f2
    obtain ⟨f2a, f2b⟩ := f2
    have hc := fun j hj => (coef_of hv j hj).1
    have hs0 := sB_le (P := fun _ => true) (l := (p i).l) (coef_of hv)
    have hnb := negB_val (by omega : (p i).n ≤ 13) hv
    have hnd : negBd (p i).n (p i).c (p i).l (p i).bd = sB (p i).c (p i).l (fun _ => true) (p i).n - (p i).bd + 1 := by
      unfold negBd
      rw [hnb, if_neg (by omega)]
    have hsl : slkC (negC (p i).n (p i).c (p i).l (p i).bd) V = sB (p i).c (negL (p i).l) (nfP V) (p i).n - (sB (p i).c (p i).l (fun _ => true) (p i).n - (p i).bd + 1) := by
      show sB (p i).c (negL (p i).l) (nfP V) (p i).n - negBd (p i).n (p i).c (p i).l (p i).bd = _
      rw [hnd]
    obtain ⟨g1, g2⟩ := sB_all (c := (p i).c) (l := negL (p i).l) (P := nfP V) (p i).n hc
    have hsame := sB_same (p i).c (negL (p i).l) (p i).l (p i).n
    have hb1 : (p i).bd = 1 := by omega
    have hall := g2 (by omega)
    have hz : slkC (negC (p i).n (p i).c (p i).l (p i).bd) V = 0 := by omega
    have hno : ∀ j, j < (p i).n → nfP V ((p i).l j) = false := fun j hj => by
      have h1 := hall j hj
      have hl := litAt hv hj
      have h2 : stV V (negL (p i).l j) = -stV V ((p i).l j) := stV_neg hl
      unfold nfP at h1 ⊢
      rw [decide_eq_true_eq] at h1
      rw [decide_eq_false_iff_not]
      intro h3
      have h0 : stV V (negL (p i).l j) = 0 := by omega
      have hm : negL (p i).l j ∈ impC (negC (p i).n (p i).c (p i).l (p i).bd) V := imL_mem.2 ⟨j, hj, rfl, h0, by rw [hz]; have := hc j hj; show (0 : Int) < (p i).c j; omega⟩
      rw [f2b] at hm
      cases hm
    have hs1 : slkC (p i) V = 0 - (p i).bd := by
      unfold slkC slk
      rw [sB_none hno]
    exact f1.1 (by omega)
  · simp
end Go.Proofs.Ytooknldfkcdneaa

