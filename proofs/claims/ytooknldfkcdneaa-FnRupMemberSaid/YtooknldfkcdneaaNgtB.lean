/- Contracts of the model's NegateConstraint (no claim of its own). Conditions: as each theorem states. -/
import Derived.Test.YtooknldfkcdneaaNgtA
import Derived.Deep.AppendLies
import Derived.Deep.RegionLaw
import Derived.Deep.DeepCutAuto
import Derived.Deep.CutBlock
namespace Go.Proofs.Ytooknldfkcdneaa
open Go.ChangeShapes Go.WideShapes Go.ChangeAt Go.RowKit

set_option maxRecDepth 100000 in
set_option maxHeartbeats 800000 in
theorem specNeg_inv (A : Option Addr) (n cap : Nat) (bd : Int) (c l : Nat → Int) (w : World) (hn : n ≤ 1048576) (hr : Rd w w.heap.size A n c l) (hv : validB n c l bd = false) :
    Calls Try.prog 76 #[.agg #[.slice A n cap, .int .i64 bd]] w (CRes w 0 c (negL l) 0 false) := by
  have Hv := Lib.hid hv
  clear hv
  go_enter Try.func76, Try.ntmps76
  go_wp2_with fail
  refine (specValid_any _ _ _ _ c l _ hn (hr.later (bl_alloc (bl_alloc (Below.refl _ _) _) _))).mono ?_
  rintro e w1 ⟨rfl, hb⟩
  have HB1 := Lib.hid (bl_trans (bl_alloc (bl_alloc (Below.refl w.heap.size w) _) _) hb)
  have r0 : w1.cell? ⟨w.heap.size + 1, 0, none⟩ = some (.slice none 0 0) := kc hb (by go_simp)
  have r1 : w1.cell? ⟨w.heap.size + 1, 1, none⟩ = some (.int .i64 0) := kc hb (by go_simp)
  have f0 : w1.frozen? ⟨w.heap.size + 1, 0, none⟩ = false := kf hb (by simp) (by go_simp)
  have f1 : w1.frozen? ⟨w.heap.size + 1, 1, none⟩ = false := kf hb (by simp) (by go_simp)
  clear hb
  rw [Hv.out]
  go_wp2
  refine bodyPost_ret (v := .tuple #[.agg #[.slice none 0 0, .int .i64 0], .bool false]) (by simp [results, Try.results76, go_sem, r0, r1]) rfl ?_
  exact ⟨none, 0, rfl, .inl rfl, (HB1.out.setCell (by simp) _).setCell (by simp) _⟩

/-- What the walk knows behind the first statement of the valid way. -/
def NegMid (A : Option Addr) (n cap : Nat) (bd : Int) (c l : Nat → Int) (w : World) (s4 : Value) (wx : World) : Prop :=
  ∃ O : Nat, s4 = .pointer (some ⟨O, 0, none⟩) ∧ w.heap.size + 1 < O ∧ wx.heap[O]? = some (.cells #[.slice none 0 0, .int .i64 (negB n c l bd)] 42 (0, 0)) ∧
    wx.cell? ⟨w.heap.size, 0, none⟩ = some (.slice A n cap) ∧ wx.cell? ⟨w.heap.size, 1, none⟩ = some (.int .i64 bd) ∧
    wx.cell? ⟨w.heap.size + 1, 0, none⟩ = some (.slice none 0 0) ∧ wx.cell? ⟨w.heap.size + 1, 1, none⟩ = some (.int .i64 0) ∧
    wx.frozen? ⟨w.heap.size + 1, 0, none⟩ = false ∧ wx.frozen? ⟨w.heap.size + 1, 1, none⟩ = false ∧ Below w.heap.size w wx

/-- The numbers and the places that the loop's relation speaks of. -/
structure NegP where
  A : Option Addr
  n : Nat
  cap : Nat
  bd : Int
  c : Nat → Int
  l : Nat → Int
  w : World
  O : Nat

/-- What the walk knows behind k rounds of the loop, the value of the field as a letter. -/
structure NegAt (p : NegP) (k : Nat) (ov : Value) (wr : World) : Prop where
  o0 : wr.cell? ⟨p.O, 0, none⟩ = some ov
  o1 : wr.cell? ⟨p.O, 1, none⟩ = some (.int .i64 (negB p.n p.c p.l p.bd))
  g0 : wr.frozen? ⟨p.O, 0, none⟩ = false
  g1 : wr.frozen? ⟨p.O, 1, none⟩ = false
  own : wr.ownsRow (p.O + 1) 58 2 ov k (flat p.c (negL p.l) k)
  a0 : wr.cell? ⟨p.w.heap.size, 0, none⟩ = some (.slice p.A p.n p.cap)
  a1 : wr.cell? ⟨p.w.heap.size, 1, none⟩ = some (.int .i64 p.bd)
  r0 : wr.cell? ⟨p.w.heap.size + 1, 0, none⟩ = some (.slice none 0 0)
  r1 : wr.cell? ⟨p.w.heap.size + 1, 1, none⟩ = some (.int .i64 0)
  f0 : wr.frozen? ⟨p.w.heap.size + 1, 0, none⟩ = false
  f1 : wr.frozen? ⟨p.w.heap.size + 1, 1, none⟩ = false
  bel : Below p.w.heap.size p.w wr
  hO : p.w.heap.size + 1 < p.O
def NegLoop (p : NegP) (k : Nat) (wr : World) : Prop := ∃ ov, NegAt p k ov wr

section
variable {p : NegP} {k : Nat} {ov : Value} {wr w1 : World} {x : Obj}
theorem neg_far (h : NegAt p k ov wr) {j : Nat} (hj : j ≤ p.O) : some j ≠ ov.ownBlock := fun e => by
  have := (h.own.lt j e.symm).1
  omega
theorem neg_cell (h : NegAt p k ov wr) (hg : (wr.alloc x).drew.grownBy w1 ov.ownBlock) {j o : Nat} {v : Value} (hj : j ≤ p.O) (hc : wr.cell? ⟨j, o, none⟩ = some v) : w1.cell? ⟨j, o, none⟩ = some v :=
  hg.cell (a := ⟨j, o, none⟩) (kc (bl_alloc (Below.refl _ _) x).drew hc) (neg_far h hj)
theorem neg_frozen (h : NegAt p k ov wr) (hg : (wr.alloc x).drew.grownBy w1 ov.ownBlock) {j o : Nat} {v : Value} (hj : j ≤ p.O) (hc : wr.cell? ⟨j, o, none⟩ = some v) (hf : wr.frozen? ⟨j, o, none⟩ = false) : w1.frozen? ⟨j, o, none⟩ = false := by
  have hlt : j < wr.heap.size := World.block_lt_of_cell? wr ⟨j, o, none⟩ hc
  have h1 := hg.frozen_far ⟨j, o, none⟩ (by simp; omega) (neg_far h hj)
  exact h1.trans (kf (bl_alloc (Below.refl _ _) x).drew hlt hf)
theorem neg_t0 (h : NegAt p k ov wr) (hg : (wr.alloc x).drew.grownBy w1 ov.ownBlock) : w1.cell? ⟨p.O, 0, none⟩ = some ov := neg_cell h hg (Nat.le_refl _) h.o0
theorem neg_u0 (h : NegAt p k ov wr) (hg : (wr.alloc x).drew.grownBy w1 ov.ownBlock) : w1.frozen? ⟨p.O, 0, none⟩ = false := neg_frozen h hg (Nat.le_refl _) h.o0 h.g0
theorem neg_step {gg cap1 : Nat} (h : NegAt p k ov wr) (hown : w1.ownsRow (p.O + 1) 58 2 (.slice (some ⟨gg, 0, none⟩) (k + 1) cap1) (k + 1) (flat p.c (negL p.l) k ++ [.int .i64 (p.c k), .int .i64 (-(p.l k))]))
    (hg : (wr.alloc x).drew.grownBy w1 ov.ownBlock) : NegLoop p (k + 1) (w1.setCell ⟨p.O, 0, none⟩ (.slice (some ⟨gg, 0, none⟩) (k + 1) cap1)) := by
  have hO := h.hO
  have t0 := neg_t0 h hg
  have ne : ∀ {j o : Nat}, (j < p.O ∨ o ≠ 0) → (⟨p.O, 0, none⟩ : Addr) ≠ ⟨j, o, none⟩ := fun hh e => by
    injection e with e1 e2 _
    omega
  refine ⟨_, World.cell?_setCell_same' _ _ _ (by rw [t0]; rfl), ?_, by rw [World.frozen?_setCell]; exact neg_u0 h hg, by rw [World.frozen?_setCell]; exact neg_frozen h hg (Nat.le_refl _) h.o1 h.g1, ownsRow_setCell_below hown (by show p.O < p.O + 1; omega) _, ?_, ?_, ?_, ?_,
    by rw [World.frozen?_setCell]; exact neg_frozen h hg (by omega) h.r0 h.f0, by rw [World.frozen?_setCell]; exact neg_frozen h hg (by omega) h.r1 h.f1, ?_, hO⟩
  · exact (World.cell?_setCell_other _ _ _ _ (ne (.inr (by omega)))).trans (neg_cell h hg (Nat.le_refl _) h.o1)
  · exact (World.cell?_setCell_other _ _ _ _ (ne (.inl (by omega)))).trans (neg_cell h hg (by omega) h.a0)
  · exact (World.cell?_setCell_other _ _ _ _ (ne (.inl (by omega)))).trans (neg_cell h hg (by omega) h.a1)
  · exact (World.cell?_setCell_other _ _ _ _ (ne (.inl (by omega)))).trans (neg_cell h hg (by omega) h.r0)
  · exact (World.cell?_setCell_other _ _ _ _ (ne (.inl (by omega)))).trans (neg_cell h hg (by omega) h.r1)
  · have h2 : Below p.w.heap.size p.w (wr.alloc x).drew := (bl_alloc h.bel x).drew
    refine ((h2.grown hg h2.size (fun j e => ?_))).setCell (by show p.w.heap.size ≤ p.O; omega) _
    have := (h.own.lt j e).1
    omega
end

set_option maxRecDepth 100000 in
set_option maxHeartbeats 1600000 in
theorem specNeg_val (A : Option Addr) (n cap : Nat) (bd : Int) (c l : Nat → Int) (w : World) (hn : n ≤ 1048576) (hr : Rd w w.heap.size A n c l) (hv : validB n c l bd = true) :
    Calls Try.prog 76 #[.agg #[.slice A n cap, .int .i64 bd]] w (CRes w n c (negL l) (negBd n c l bd) true) := by
  have Hv := Lib.hid hv
  clear hv
  obtain ⟨i0, hi, hz0, hz1, hz2⟩ := info_parts Try.infoTerm
  have Hi := Lib.hid hi
  have Hz0 := Lib.hid hz0
  have Hz1 := Lib.hid hz1
  have Hz2 := Lib.hid hz2
  clear hi hz0 hz1 hz2
  go_enter Try.func76, Try.ntmps76
  go_wp2_with fail
  refine (specValid_any _ _ _ _ c l _ hn (hr.later (bl_alloc (bl_alloc (Below.refl _ _) _) _))).mono ?_
  rintro e w1 ⟨rfl, hb⟩
  have HB1 := Lib.hid (bl_trans (bl_alloc (bl_alloc (Below.refl w.heap.size w) _) _) hb)
  have a0 : w1.cell? ⟨w.heap.size, 0, none⟩ = some (.slice A n cap) := kc hb (by go_simp)
  have a1 : w1.cell? ⟨w.heap.size, 1, none⟩ = some (.int .i64 bd) := kc hb (by go_simp)
  have r0 : w1.cell? ⟨w.heap.size + 1, 0, none⟩ = some (.slice none 0 0) := kc hb (by go_simp)
  have r1 : w1.cell? ⟨w.heap.size + 1, 1, none⟩ = some (.int .i64 0) := kc hb (by go_simp)
  have f0 : w1.frozen? ⟨w.heap.size + 1, 0, none⟩ = false := kf hb (by simp) (by go_simp)
  have f1 : w1.frozen? ⟨w.heap.size + 1, 1, none⟩ = false := kf hb (by simp) (by go_simp)
  have q1 : w.heap.size + 1 < w1.heap.size := World.block_lt_of_cell? w1 _ r0
  clear hb
  rw [Hv.out]
  go_upto_region 3 with fail
  go_cut [4] (fun s4 wx => NegMid A n cap bd c l w s4 wx)
  case first =>
    have hq1 : w1.heap.size ≠ w.heap.size := by omega
    have hq2 : w1.heap.size ≠ w.heap.size + 1 := by omega
    go_region_held3 (fun w' => w'.cell? ⟨w.heap.size, 0, none⟩ = some (.slice A n cap) ∧ w'.cell? ⟨w.heap.size, 1, none⟩ = some (.int .i64 bd)) (go_keep)
      (first
        | (go_at_call 86; refine (l1Total_any _ _ _ _ c l w1.drew hn (hr.later HB1.out.drew)).mono ?_; rintro e w2 ⟨rfl, hb⟩; have HB2 := Lib.hid (bl_trans HB1.out.drew hb); replace a0 := kc hb a0; replace a1 := kc hb a1; replace r0 := kc hb r0; replace r1 := kc hb r1; replace f0 := kf hb q1 f0; replace f1 := kf hb q1 f1; clear hb)
        | (go_at_call 86; refine (l1Total_any _ _ _ _ c l (w1.alloc (.cells #[.slice none 0 0, .int .i64 0] 42)).drew hn (hr.later (bl_alloc HB1.out _).drew)).mono ?_; rintro e w2 ⟨rfl, hb⟩; have HB2 := Lib.hid (bl_trans (bl_alloc HB1.out _).drew hb); have hO : w2.heap[w1.heap.size]? = some (.cells #[.slice none 0 0, .int .i64 0] 42 (0, 0)) := (hb.block w1.heap.size (by simp)).trans (heap_alloc_new w1 _); have o0 := cell_of_row w2 w1.heap.size 0 _ _ _ hO; have o1 := cell_of_row w2 w1.heap.size 1 _ _ _ hO; have g0 := frozen_row hO 0; have g1 := frozen_row hO 1; simp at o0 o1; have hb' := bl_trans (bl_alloc (Below.refl w1.heap.size w1) (.cells #[.slice none 0 0, .int .i64 0] 42)).drew hb; replace a0 := kc hb' a0; replace a1 := kc hb' a1; replace r0 := kc hb' r0; replace r1 := kc hb' r1; replace f0 := kf hb' q1 f0; replace f1 := kf hb' q1 f1; clear hb hb'))
    · go_wp2_with fail
      go_meet
      have hal := bl_alloc (Below.refl w2.heap.size w2) (.cells #[.slice none 0 0, .int .i64 (negB n c l bd)] 42)
      have q2 : w.heap.size + 1 < w2.heap.size := World.block_lt_of_cell? w2 _ r0
      exact ⟨w2.heap.size, rfl, q2, heap_alloc_new w2 _, kc hal a0, kc hal a1, kc hal r0, kc hal r1, kf hal q2 f0, kf hal q2 f1, bl_alloc HB2.out _⟩
    · go_wp2_with fail
      go_meet
      exact ⟨w1.heap.size, rfl, q1, by simp [World.setCell, Array.getElem?_modify, hO]; rfl, by go_simp, by go_simp, by go_simp, by go_simp, by go_simp, by go_simp, (HB2.out.setCell (by simp; omega) _).setCell (by simp; omega) _⟩
  case rest =>
    obtain ⟨O, rfl, hO, hOb, a0, a1, r0, r1, f0, f1, hb⟩ := hcut
    have o0 := cell_of_row wc O 0 _ _ _ hOb
    have o1 := cell_of_row wc O 1 _ _ _ hOb
    have g0 := frozen_row hOb 0
    have g1 := frozen_row hOb 1
    simp at o0 o1
    have hOl : O < wc.heap.size := World.block_lt_of_cell? wc ⟨O, 0, none⟩ o0
    clear hOb
    go_wp2
    go_loopw [5] (fun i wr => ∃ k : Nat, k ≤ n ∧ i = .int .i64 k ∧ NegLoop ⟨A, n, cap, bd, c, l, w, O⟩ k wr) (fun i _ => n - (intOf i).toNat)
    case atStart => exact ⟨0, Nat.zero_le _, rfl, _, o0, o1, g0, g1, World.ownsRow_nil _ _ _ _, a0, a1, r0, r1, f0, f1, hb, hO⟩
    case round =>
      obtain ⟨k, hk, rfl, ov, old⟩ := hrel
      have Old := Lib.hid old
      obtain ⟨o0, o1, g0, g1, hown, a0, a1, r0, r1, f0, f1, hb, _⟩ := old
      dsimp only at o0 o1 g0 g1 hown a0 a1 r0 r1 f0 f1 hb
      by_cases hlt : k < n
      · have hL := litAt Hv.out hlt
        obtain ⟨_, hl1, hl2⟩ := litB_iff.1 hL
        obtain ⟨b, off, rfl, hbl, hc⟩ := (hr.below hb) (by omega)
        obtain ⟨hc1, hc2⟩ := hc k hlt
        have hzb : b < wr.heap.size := Nat.lt_of_lt_of_le hbl hb.size
        have hlt' : (k : Int) < (n : Int) := by omega
        have hk0 : (0 : Int) ≤ (k : Int) := by omega
        have Hown := Lib.hid hown
        have hOl : O < wr.heap.size := World.block_lt_of_cell? wr ⟨O, 0, none⟩ o0
        clear hc hr hL hown hb
        have News := Lib.hid (World.news_of_block (w := (wr.alloc (.cells #[.int .i64 (c k), .int .i64 (-(l k))] 58)).drew) (B := wr.heap.size) (cs := #[.int .i64 (c k), .int .i64 (-(l k))]) (t := 58) (fr := (0, 0)) (heap_alloc_new wr _))
        clear a1 o1 r0 r1 f0 f1 g1
        go_upto_block 1 with fail
        go_cut [] (fun wx => NegLoop ⟨some ⟨b, off, none⟩, n, cap, bd, c, l, w, O⟩ (k + 1) wx)
        case first =>
          have hwn : IntKind.i64.wrap (-(l k)) = -(l k) := IntWalk.i64_in _ (by omega)
          go_wp2_with fail
          go_region_law (refine step_append_lies _ (by rfl) _ _ _ (by rfl) (O + 1) 58 i0 _ 2 16 Try.underlying40 Hi.out Hz0.out Hz1.out Hz2.out rfl (by omega) ov k _ (by rfl) ((Hown.out.alloc _).drew) ⟨wr.heap.size, 0, none⟩ 1 1 [.int .i64 (c k), .int .i64 (-(l k))] (by rfl) (by rfl) (News.out) (by simp [Value.oneCell']) (by omega) (by unfold maxLen; omega) (by omega) (by simp; omega) (wr.heap.size + 1) (by simp) ?_; intro gg cap1 w1 hown1 hgrow hat hlt1; have t0 := neg_t0 Old.out hgrow; have u0 := neg_u0 Old.out hgrow)
          all_goals go_wp2_with fail
          all_goals go_meet
          all_goals exact neg_step Old.out hown1 hgrow
        case rest =>
          clear News
          go_wp2
          go_roundw
          case rel => exact ⟨k + 1, by omega, by go_num, hcut⟩
          case measure => simp [intOf]; omega
      · have e : k = n := by omega
        subst e
        obtain ⟨A', cap', rfl, hF⟩ := frs_of_row hown
        have hOl : O < wr.heap.size := World.block_lt_of_cell? wr ⟨O, 0, none⟩ o0
        have HF := Lib.hid hF
        have HB := Lib.hid hb
        clear hF hown hb Old
        by_cases hneg : negB k c l bd < 0
        · have hB : negBd k c l bd = 0 := by unfold negBd; rw [if_pos hneg]
          have HBd := Lib.hid hB
          clear hB
          go_wp2
          refine bodyPost_ret (v := .tuple #[.agg #[.slice A' k cap', .int .i64 0], .bool true]) (by simp [results, Try.results76, go_sem, r0, r1]) rfl ?_
          exact ⟨_, _, by rw [HBd.out], ((((HF.out.more (B' := O + 1) (Nat.le_refl _)).far (by simp) (by simp) _).far (by simp) (by simp; omega) _).far (by simp) (by simp; omega) _).more (by omega), ((HB.out.setCell (by simp; omega) _).setCell (by simp) _).setCell (by simp) _⟩
        · have hB : negBd k c l bd = negB k c l bd := by unfold negBd; rw [if_neg hneg]
          have HBd := Lib.hid hB
          clear hB
          go_wp2
          refine bodyPost_ret (v := .tuple #[.agg #[.slice A' k cap', .int .i64 (negB k c l bd)], .bool true]) (by simp [results, Try.results76, go_sem, r0, r1]) rfl ?_
          exact ⟨_, _, by rw [HBd.out], (((HF.out.more (B' := O + 1) (Nat.le_refl _)).far (by simp) (by simp; omega) _).far (by simp) (by simp; omega) _).more (by omega), (HB.out.setCell (by simp) _).setCell (by simp) _⟩

/-- How many terms the negation has; its bound. -/
def negNum (n : Nat) (c l : Nat → Int) (bd : Int) : Nat := if validB n c l bd then n else 0
def negBnd (n : Nat) (c l : Nat → Int) (bd : Int) : Int := if validB n c l bd then negBd n c l bd else 0
theorem negNum_le (n : Nat) (c l : Nat → Int) (bd : Int) : negNum n c l bd ≤ n := by unfold negNum; split <;> omega
theorem specNeg_any (A : Option Addr) (n cap : Nat) (bd : Int) (c l : Nat → Int) (w : World) (hn : n ≤ 1048576) (hr : Rd w w.heap.size A n c l) :
    Calls Try.prog 76 #[.agg #[.slice A n cap, .int .i64 bd]] w (CRes w (negNum n c l bd) c (negL l) (negBnd n c l bd) (validB n c l bd)) := by
  unfold negNum negBnd
  cases hv : validB n c l bd with
  | false => exact specNeg_inv A n cap bd c l w hn hr hv
  | true => exact specNeg_val A n cap bd c l w hn hr hv
theorem implNeg_any (A : Option Addr) (n cap : Nat) (bd : Int) (c l : Nat → Int) (w : World) (hn : n ≤ 1048576) (hr : Rd w w.heap.size A n c l) :
    Calls Try.prog 78 #[.agg #[.slice A n cap, .int .i64 bd]] w (CRes w (negNum n c l bd) c (negL l) (negBnd n c l bd) (validB n c l bd)) := by
  unfold negNum negBnd
  cases hv : validB n c l bd with
  | false => exact implNeg_inv A n cap bd c l w hn hr hv
  | true => exact implNeg_val A n cap bd c l w hn hr hv
end Go.Proofs.Ytooknldfkcdneaa
