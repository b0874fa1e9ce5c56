/- Contracts of the model's last step of the normal form (no claim of its own). Conditions: as each theorem states. -/
import Derived.Test.YtaghnjkpanjioaaNorB
namespace Go.Proofs.Ytaghnjkpanjioaa
open Go.ChangeShapes Go.WideShapes Go.ChangeAt Go.RowKit

/-- The terms that the variables 1 to v leave; the bound behind them. -/
def rowAt (x : Int) (v : Nat) : List (Int × Int) := if 0 < x then [(x, (v : Int))] else if x < 0 then [(IntKind.i64.wrap (-x), -(v : Int))] else []
def rowsN (f : Nat → Int) : Nat → List (Int × Int)
  | 0 => []
  | v + 1 => rowsN f v ++ rowAt (f (v + 1)) (v + 1)
def bAt (b x : Int) : Int := if x < 0 then wrap64 (b - x) else b
def bndN (f : Nat → Int) (b0 : Int) : Nat → Int
  | 0 => b0
  | v + 1 => bAt (bndN f b0 v) (f (v + 1))
def rcells : List (Int × Int) → List Value
  | [] => []
  | r :: rs => .int .i64 r.1 :: .int .i64 r.2 :: rcells rs
theorem rcells_append (xs ys : List (Int × Int)) : rcells (xs ++ ys) = rcells xs ++ rcells ys := by
  induction xs with
  | nil => rfl
  | cons x xs ih => simp [rcells, ih]
theorem rowAt_pos {x : Int} {v : Nat} (h : 0 < x) : rowAt x v = [(x, (v : Int))] := if_pos h
theorem rowAt_neg {x : Int} {v : Nat} (h : x < 0) : rowAt x v = [(IntKind.i64.wrap (-x), -(v : Int))] := by unfold rowAt; rw [if_neg (by omega), if_pos h]
theorem rowAt_zero {x : Int} {v : Nat} (h : ¬ 0 < x) (h2 : ¬ x < 0) : rowAt x v = [] := by unfold rowAt; rw [if_neg h, if_neg h2]
theorem rowAt_length (x : Int) (v : Nat) : (rowAt x v).length ≤ 1 := by
  unfold rowAt
  split
  · simp
  · split <;> simp
theorem rowsN_length (f : Nat → Int) (v : Nat) : (rowsN f v).length ≤ v := by
  induction v with
  | zero => simp [rowsN]
  | succ v ih =>
    have := rowAt_length (f (v + 1)) (v + 1)
    simp [rowsN]
    omega

/-- The rows as functions of the place. -/
def rC (R : List (Int × Int)) (i : Nat) : Int := (R.getD i (0, 0)).1
def rL (R : List (Int × Int)) (i : Nat) : Int := (R.getD i (0, 0)).2
theorem flat_congr {c l c' l' : Nat → Int} {n : Nat} (h : ∀ i, i < n → c i = c' i ∧ l i = l' i) : flat c l n = flat c' l' n := by
  induction n with
  | zero => rfl
  | succ n ih =>
    unfold flat
    rw [ih (fun i hi => h i (by omega)), (h n (Nat.lt_succ_self n)).1, (h n (Nat.lt_succ_self n)).2]
theorem rcells_flat (R : List (Int × Int)) : rcells R = flat (rC R) (rL R) R.length := by
  have key : ∀ n, n ≤ R.length → rcells (R.take n) = flat (rC R) (rL R) n := by
    intro n
    induction n with
    | zero => intro _; rfl
    | succ n ih =>
      intro hn
      have hlt : n < R.length := by omega
      rw [List.take_succ_eq_append_getElem hlt, rcells_append, ih (by omega)]
      show _ = flat (rC R) (rL R) n ++ _
      simp [rcells, rC, rL, List.getD, List.getElem?_eq_getElem hlt]
  have := key R.length (Nat.le_refl _)
  rwa [List.take_length] at this
def capB (b : Int) : Int := if b < 0 then 0 else b
/-- Whether the rows and the bound are a valid constraint; what is answered. -/
def fitB (R : List (Int × Int)) (b : Int) : Bool := validB R.length (rC R) (rL R) (capB b)
def fitN (R : List (Int × Int)) (b : Int) : Nat := if fitB R b then R.length else 0
def fitD (R : List (Int × Int)) (b : Int) : Int := if fitB R b then capB b else 0

/-- The numbers and the places that the loop's relation speaks of. -/
structure NorP where
  G : Nat
  f : Nat → Int
  w : World

/-- What the walk knows while the rows R are in the field, the value of the field as a letter. -/
structure NorAt (p : NorP) (R : List (Int × Int)) (ov : Value) (wr : World) : Prop where
  o0 : wr.cell? ⟨p.w.heap.size + 1, 0, none⟩ = some ov
  o1 : wr.cell? ⟨p.w.heap.size + 1, 1, none⟩ = some (.int .i64 0)
  g0 : wr.frozen? ⟨p.w.heap.size + 1, 0, none⟩ = false
  g1 : wr.frozen? ⟨p.w.heap.size + 1, 1, none⟩ = false
  own : wr.ownsRow (p.w.heap.size + 2) 38 2 ov R.length (rcells R)
  r0 : wr.cell? ⟨p.w.heap.size, 0, none⟩ = some (.slice none 0 0)
  r1 : wr.cell? ⟨p.w.heap.size, 1, none⟩ = some (.int .i64 0)
  f0 : wr.frozen? ⟨p.w.heap.size, 0, none⟩ = false
  f1 : wr.frozen? ⟨p.w.heap.size, 1, none⟩ = false
  bel : Below p.w.heap.size p.w wr
def NorLoop (p : NorP) (R : List (Int × Int)) (wr : World) : Prop := ∃ ov, NorAt p R ov wr

section
variable {p : NorP} {R : List (Int × Int)} {ov : Value} {wr w0 w1 : World}
theorem nor_far (h : NorAt p R ov wr) {j : Nat} (hj : j ≤ p.w.heap.size + 1) : some j ≠ ov.ownBlock := fun e => by
  have := (h.own.lt j e.symm).1
  omega
theorem nor_cell (h : NorAt p R ov wr) (hb : Below wr.heap.size wr w0) (hg : w0.grownBy w1 ov.ownBlock) {j o : Nat} {v : Value} (hj : j ≤ p.w.heap.size + 1) (hc : wr.cell? ⟨j, o, none⟩ = some v) : w1.cell? ⟨j, o, none⟩ = some v :=
  hg.cell (a := ⟨j, o, none⟩) (kc hb hc) (nor_far h hj)
theorem nor_frozen (h : NorAt p R ov wr) (hb : Below wr.heap.size wr w0) (hg : w0.grownBy w1 ov.ownBlock) {j o : Nat} {v : Value} (hj : j ≤ p.w.heap.size + 1) (hc : wr.cell? ⟨j, o, none⟩ = some v) (hf : wr.frozen? ⟨j, o, none⟩ = false) : w1.frozen? ⟨j, o, none⟩ = false := by
  have hlt : j < wr.heap.size := World.block_lt_of_cell? wr ⟨j, o, none⟩ hc
  have h1 := hg.frozen_far ⟨j, o, none⟩ (by have := hb.size; show j < w0.heap.size; omega) (nor_far h hj)
  exact h1.trans (kf hb hlt hf)
theorem nor_t0 (h : NorAt p R ov wr) (hb : Below wr.heap.size wr w0) (hg : w0.grownBy w1 ov.ownBlock) : w1.cell? ⟨p.w.heap.size + 1, 0, none⟩ = some ov := nor_cell h hb hg (Nat.le_refl _) h.o0
theorem nor_u0 (h : NorAt p R ov wr) (hb : Below wr.heap.size wr w0) (hg : w0.grownBy w1 ov.ownBlock) : w1.frozen? ⟨p.w.heap.size + 1, 0, none⟩ = false := nor_frozen h hb hg (Nat.le_refl _) h.o0 h.g0
theorem nor_step {gg cap1 : Nat} {r : Int × Int} (h : NorAt p R ov wr) (hb : Below wr.heap.size wr w0)
    (hown : w1.ownsRow (p.w.heap.size + 2) 38 2 (.slice (some ⟨gg, 0, none⟩) (R.length + 1) cap1) (R.length + 1) (rcells R ++ [.int .i64 r.1, .int .i64 r.2]))
    (hg : w0.grownBy w1 ov.ownBlock) : NorLoop p (R ++ [r]) (w1.setCell ⟨p.w.heap.size + 1, 0, none⟩ (.slice (some ⟨gg, 0, none⟩) (R.length + 1) cap1)) := by
  have t0 := nor_t0 h hb hg
  have ne : ∀ {j o : Nat}, (j < p.w.heap.size + 1 ∨ o ≠ 0) → (⟨p.w.heap.size + 1, 0, none⟩ : Addr) ≠ ⟨j, o, none⟩ := fun hh e => by
    injection e with e1 e2 _
    omega
  have hown' : w1.ownsRow (p.w.heap.size + 2) 38 2 (.slice (some ⟨gg, 0, none⟩) (R.length + 1) cap1) (R ++ [r]).length (rcells (R ++ [r])) := by
    rw [rcells_append, List.length_append]
    exact hown
  refine ⟨_, World.cell?_setCell_same' _ _ _ (by rw [t0]; rfl), ?_, by rw [World.frozen?_setCell]; exact nor_u0 h hb hg, by rw [World.frozen?_setCell]; exact nor_frozen h hb hg (Nat.le_refl _) h.o1 h.g1, ownsRow_setCell_below hown' (by show p.w.heap.size + 1 < p.w.heap.size + 2; omega) _, ?_, ?_,
    by rw [World.frozen?_setCell]; exact nor_frozen h hb hg (by omega) h.r0 h.f0, by rw [World.frozen?_setCell]; exact nor_frozen h hb hg (by omega) h.r1 h.f1, ?_⟩
  · exact (World.cell?_setCell_other _ _ _ _ (ne (.inr (by omega)))).trans (nor_cell h hb hg (Nat.le_refl _) h.o1)
  · exact (World.cell?_setCell_other _ _ _ _ (ne (.inl (by omega)))).trans (nor_cell h hb hg (by omega) h.r0)
  · exact (World.cell?_setCell_other _ _ _ _ (ne (.inl (by omega)))).trans (nor_cell h hb hg (by omega) h.r1)
  · have h2 : Below p.w.heap.size p.w w0 := bl_trans h.bel hb
    refine ((h2.grown hg h2.size (fun j e => ?_))).setCell (by show p.w.heap.size ≤ p.w.heap.size + 1; omega) _
    have := (h.own.lt j e).1
    omega
end

set_option maxRecDepth 100000 in
set_option maxHeartbeats 1600000 in
theorem l1Normal_walk (G : Nat) (f : Nat → Int) (b0 : Int) (w : World) (hG : OwnK w G 13 f) :
    Calls Try.prog 107 #[.slice (some ⟨G, 0, none⟩) 13 13, .int .i64 b0] w (CRes w (fitN (rowsN f 12) (bndN f b0 12)) (rC (rowsN f 12)) (rL (rowsN f 12)) (fitD (rowsN f 12) (bndN f b0 12)) (fitB (rowsN f 12) (bndN f b0 12))) := by
  obtain ⟨i0, hi, hz0, hz1, hz2⟩ := info_parts Try.infoTerm
  have Hi := Lib.hid hi
  have Hz0 := Lib.hid hz0
  have Hz1 := Lib.hid hz1
  have Hz2 := Lib.hid hz2
  clear hi hz0 hz1 hz2
  have hGl := hG.lt
  go_enter Try.func107, Try.ntmps107
  go_wp2_with fail
  go_loopw [1, 7] (fun t i wr => ∃ k v : Nat, k ≤ 12 ∧ v = k + 1 ∧ i = .int .i64 v ∧ t = .int .i64 (bndN f b0 k) ∧ NorLoop ⟨G, f, w⟩ (rowsN f k) wr) (fun _ i _ => 13 - (intOf i).toNat)
  case atStart => exact ⟨0, 1, Nat.zero_le _, rfl, rfl, rfl, _, by go_simp, by go_simp, by go_simp, by go_simp, World.ownsRow_nil _ _ _ _, by go_simp, by go_simp, by go_simp, by go_simp, bl_alloc (bl_alloc (Below.refl _ _) _) _⟩
  case round =>
    obtain ⟨k, v, hk, hv, rfl, rfl, ov, old⟩ := hrel
    by_cases hlt : k < 12
    · have Old := Lib.hid old
      obtain ⟨o0, o1, g0, g1, hown, r0, r1, f0, f1, hb⟩ := old
      dsimp only at o0 o1 g0 g1 hown r0 r1 f0 f1 hb
      have hcl := (hG.below hb hGl).cell (j := v) (by omega)
      have hlt' : (v : Int) < 13 := by omega
      have hv12 : (v : Int) ≤ 12 := by omega
      have hv12' : v ≤ 12 := by omega
      have hk0 : (0 : Int) ≤ (v : Int) := by omega
      have Hown := Lib.hid hown
      have hOl : w.heap.size + 1 < wr.heap.size := World.block_lt_of_cell? wr ⟨w.heap.size + 1, 0, none⟩ o0
      have hGw : G < wr.heap.size := by omega
      clear hown hb
      clear o1 r0 r1 f0 f1 g1
      by_cases hp : 0 < f v
      · have hrow : rowsN f (k + 1) = rowsN f k ++ [(f v, (v : Int))] := by
          rw [hv] at hp ⊢
          show rowsN f k ++ rowAt _ _ = _
          rw [rowAt_pos hp]
        have hbn : bndN f b0 (k + 1) = bndN f b0 k := by
          rw [hv] at hp
          exact if_neg (by omega)
        have Hrow := Lib.hid hrow
        have Hbn := Lib.hid hbn
        have hRl := rowsN_length f k
        have News := Lib.hid (World.news_of_block (w := (wr.alloc (.cells #[.int .i64 (f v), .int .i64 (v : Int)] 38)).drew) (B := wr.heap.size) (cs := #[.int .i64 (f v), .int .i64 (v : Int)]) (t := 38) (fr := (0, 0)) (heap_alloc_new wr _))
        have Hv := Lib.hid hv
        clear hrow hbn hv
        go_upto_region 6 with fail
        go_cut [] (fun wx => NorLoop ⟨G, f, w⟩ (rowsN f (k + 1)) wx)
        case first =>
          go_region_law (refine step_append_lies _ (by rfl) _ _ _ (by rfl) (w.heap.size + 2) 38 i0 _ 2 16 Try.underlying29 Hi.out Hz0.out Hz1.out Hz2.out rfl (by omega) ov (rowsN f k).length _ (by rfl) ((Hown.out.alloc _).drew) ⟨wr.heap.size, 0, none⟩ 1 1 [.int .i64 (f v), .int .i64 (v : Int)] (by rfl) (by rfl) (News.out) (by simp [Value.oneCell']) (by omega) (by unfold maxLen; omega) (by omega) (by simp; omega) (wr.heap.size + 1) (by simp) ?_; intro gg cap1 w1 hown1 hgrow hat hlt1; have t0 := nor_t0 Old.out (bl_alloc (Below.refl _ _) _).drew hgrow; have u0 := nor_u0 Old.out (bl_alloc (Below.refl _ _) _).drew hgrow)
          all_goals go_wp2_with fail
          all_goals go_meet
          all_goals exact (by rw [Hrow.out]; exact nor_step Old.out (bl_alloc (Below.refl _ _) _).drew hown1 hgrow)
        case rest =>
          obtain ⟨ov2, old2⟩ := hcut
          have hcl2 := (hG.below old2.bel hGl).cell (j := v) (by omega)
          have hn : ¬ f v < 0 := by omega
          have Old2 := Lib.hid old2
          clear old2 hcl
          go_wp2
          go_roundw
          case rel => exact ⟨k + 1, v + 1, by omega, by rw [Hv.out], by go_num, by rw [Hbn.out], _, Old2.out⟩
          case measure => simp [intOf]; omega
      · by_cases hp2 : f v < 0
        · have hrow : rowsN f (k + 1) = rowsN f k ++ [(IntKind.i64.wrap (-(f v)), -(v : Int))] := by
            rw [hv] at hp2 ⊢
            show rowsN f k ++ rowAt _ _ = _
            rw [rowAt_neg hp2]
          have hbn : bndN f b0 (k + 1) = wrap64 (bndN f b0 k - f v) := by
            rw [hv] at hp2 ⊢
            exact if_pos hp2
          have Hrow := Lib.hid hrow
          have Hbn := Lib.hid hbn
          have hRl := rowsN_length f k
          have hwv : IntKind.i64.wrap (-(v : Int)) = -(v : Int) := IntWalk.i64_in _ (by omega)
          have News := Lib.hid (World.news_of_block (w := (wr.alloc (.cells #[.int .i64 (IntKind.i64.wrap (-(f v))), .int .i64 (-(v : Int))] 38)).drew) (B := wr.heap.size) (cs := #[.int .i64 (IntKind.i64.wrap (-(f v))), .int .i64 (-(v : Int))]) (t := 38) (fr := (0, 0)) (heap_alloc_new wr _))
          have Hv := Lib.hid hv
          clear hrow hbn hv
          go_upto_region 8 with fail
          go_cut [1] (fun s1 wx => s1 = .int .i64 (bndN f b0 k) ∧ NorLoop ⟨G, f, w⟩ (rowsN f (k + 1)) wx)
          case first =>
            go_region_law (refine step_append_lies _ (by rfl) _ _ _ (by rfl) (w.heap.size + 2) 38 i0 _ 2 16 Try.underlying29 Hi.out Hz0.out Hz1.out Hz2.out rfl (by omega) ov (rowsN f k).length _ (by rfl) ((Hown.out.alloc _).drew) ⟨wr.heap.size, 0, none⟩ 1 1 [.int .i64 (IntKind.i64.wrap (-(f v))), .int .i64 (-(v : Int))] (by rfl) (by rfl) (News.out) (by simp [Value.oneCell']) (by omega) (by unfold maxLen; omega) (by omega) (by simp; omega) (wr.heap.size + 1) (by simp) ?_; intro gg cap1 w1 hown1 hgrow hat hlt1; have t0 := nor_t0 Old.out (bl_alloc (Below.refl _ _) _).drew hgrow; have u0 := nor_u0 Old.out (bl_alloc (Below.refl _ _) _).drew hgrow)
            all_goals go_wp2_with fail
            all_goals go_meet
            all_goals exact ⟨rfl, by rw [Hrow.out]; exact nor_step Old.out (bl_alloc (Below.refl _ _) _).drew hown1 hgrow⟩
          case rest =>
            obtain ⟨rfl, ov2, old2⟩ := hcut
            have hcl2 := (hG.below old2.bel hGl).cell (j := v) (by omega)
            have Old2 := Lib.hid old2
            clear old2 hcl
            go_wp2
            go_roundw
            case rel => exact ⟨k + 1, v + 1, by omega, by rw [Hv.out], by go_num, by rw [Hbn.out], _, Old2.out⟩
            case measure => simp [intOf]; omega
        · have hrow : rowsN f (k + 1) = rowsN f k := by
            rw [hv] at hp hp2
            show rowsN f k ++ rowAt _ _ = _
            rw [rowAt_zero hp hp2, List.append_nil]
          have hbn : bndN f b0 (k + 1) = bndN f b0 k := by
            rw [hv] at hp2
            exact if_neg hp2
          have Hrow := Lib.hid hrow
          have Hbn := Lib.hid hbn
          have Hv := Lib.hid hv
          clear hrow hbn hv
          go_wp2
          go_roundw
          case rel => exact ⟨k + 1, v + 1, by omega, by rw [Hv.out], by go_num, by rw [Hbn.out], _, by rw [Hrow.out]; exact Old.out⟩
          case measure => simp [intOf]; omega
    · have e : k = 12 := by omega
      subst e
      subst hv
      obtain ⟨A', cap', rfl, hF⟩ := frs_of_row (by have h := old.own; rw [rcells_flat] at h; exact h)
      have hRl : (rowsN f 12).length ≤ 1048576 := by have := rowsN_length f 12; omega
      obtain ⟨o0, o1, g0, g1, hown, r0, r1, f0, f1, hb⟩ := old
      dsimp only at o0 o1 g0 g1 hown r0 r1 f0 f1 hb
      have hOl : w.heap.size + 1 < wr.heap.size := World.block_lt_of_cell? wr ⟨w.heap.size + 1, 0, none⟩ o0
      have HF := Lib.hid hF
      have HB := Lib.hid hb
      clear hF hown hb hG
      generalize rowsN f 12 = R at *
      generalize bndN f b0 12 = bN at *
      by_cases hneg : bN < 0
      · have hB : capB bN = 0 := if_pos hneg
        have HBd := Lib.hid hB
        clear hB
        go_wp2_with fail
        refine (specValid_any _ _ _ _ (rC R) (rL R) _ hRl (HF.out.far rfl (by simp) _).rdAt).mono ?_
        rintro e w1 ⟨rfl, hb⟩
        have HB1 := Lib.hid (bl_trans (HB.out.setCell (p := ⟨w.heap.size + 1, 1, none⟩) (by simp) (.int .i64 0)) hb)
        have HF1 := Lib.hid ((HF.out.far (p := ⟨w.heap.size + 1, 1, none⟩) rfl (by simp) (.int .i64 0)).below hb)
        have p0 : w1.cell? ⟨w.heap.size + 1, 0, none⟩ = some (.slice A' R.length cap') := kc hb (by go_simp)
        have p1 : w1.cell? ⟨w.heap.size + 1, 1, none⟩ = some (.int .i64 (0)) := kc hb (by go_simp)
        have q0 : w1.cell? ⟨w.heap.size, 0, none⟩ = some (.slice none 0 0) := kc hb (by go_simp)
        have q1 : w1.cell? ⟨w.heap.size, 1, none⟩ = some (.int .i64 0) := kc hb (by go_simp)
        have e0 : w1.frozen? ⟨w.heap.size, 0, none⟩ = false := kf hb (by simp; omega) (by go_simp)
        have e1 : w1.frozen? ⟨w.heap.size, 1, none⟩ = false := kf hb (by simp; omega) (by go_simp)
        have hz1 : w.heap.size + 1 < w1.heap.size := World.block_lt_of_cell? w1 ⟨w.heap.size + 1, 0, none⟩ p0
        clear hb o0 o1 g0 g1 r0 r1 f0 f1
        cases hok : validB R.length (rC R) (rL R) (0) with
        | false =>
          have hfit : fitB R bN = false := by unfold fitB; rw [HBd.out]; exact hok
          have HX := Lib.hid (show fitN R bN = 0 ∧ fitD R bN = 0 ∧ fitB R bN = false from ⟨by unfold fitN; rw [hfit]; rfl, by unfold fitD; rw [hfit]; rfl, hfit⟩)
          clear hok hfit
          go_wp2
          refine bodyPost_ret (v := .tuple #[.agg #[.slice none 0 0, .int .i64 0], .bool false]) (by simp [results, Try.results107, go_sem, q0, q1]) rfl ?_
          obtain ⟨x1, x2, x3⟩ := HX.out
          rw [x1, x2, x3]
          exact ⟨none, 0, rfl, .inl rfl, (HB1.out.setCell (by simp) _).setCell (by simp) _⟩
        | true =>
          have hfit : fitB R bN = true := by unfold fitB; rw [HBd.out]; exact hok
          have HX := Lib.hid (show fitN R bN = R.length ∧ fitD R bN = capB bN ∧ fitB R bN = true from ⟨by unfold fitN; rw [hfit]; rfl, by unfold fitD; rw [hfit]; rfl, hfit⟩)
          clear hok hfit
          go_wp2
          refine bodyPost_ret (v := .tuple #[.agg #[.slice A' R.length cap', .int .i64 (0)], .bool true]) (by simp [results, Try.results107, go_sem, q0, q1]) rfl ?_
          obtain ⟨x1, x2, x3⟩ := HX.out
          rw [x1, x2, x3, HBd.out]
          exact ⟨_, _, rfl, ((HF1.out.far (by simp) (by simp) _).far (by simp) (by simp) _).more (by omega), (HB1.out.setCell (by simp) _).setCell (by simp) _⟩
      · have hB : capB bN = bN := if_neg hneg
        have HBd := Lib.hid hB
        clear hB
        go_wp2_with fail
        refine (specValid_any _ _ _ _ (rC R) (rL R) _ hRl (HF.out.far rfl (by simp) _).rdAt).mono ?_
        rintro e w1 ⟨rfl, hb⟩
        have HB1 := Lib.hid (bl_trans (HB.out.setCell (p := ⟨w.heap.size + 1, 1, none⟩) (by simp) (.int .i64 bN)) hb)
        have HF1 := Lib.hid ((HF.out.far (p := ⟨w.heap.size + 1, 1, none⟩) rfl (by simp) (.int .i64 bN)).below hb)
        have p0 : w1.cell? ⟨w.heap.size + 1, 0, none⟩ = some (.slice A' R.length cap') := kc hb (by go_simp)
        have p1 : w1.cell? ⟨w.heap.size + 1, 1, none⟩ = some (.int .i64 (bN)) := kc hb (by go_simp)
        have q0 : w1.cell? ⟨w.heap.size, 0, none⟩ = some (.slice none 0 0) := kc hb (by go_simp)
        have q1 : w1.cell? ⟨w.heap.size, 1, none⟩ = some (.int .i64 0) := kc hb (by go_simp)
        have e0 : w1.frozen? ⟨w.heap.size, 0, none⟩ = false := kf hb (by simp; omega) (by go_simp)
        have e1 : w1.frozen? ⟨w.heap.size, 1, none⟩ = false := kf hb (by simp; omega) (by go_simp)
        have hz1 : w.heap.size + 1 < w1.heap.size := World.block_lt_of_cell? w1 ⟨w.heap.size + 1, 0, none⟩ p0
        clear hb o0 o1 g0 g1 r0 r1 f0 f1
        cases hok : validB R.length (rC R) (rL R) (bN) with
        | false =>
          have hfit : fitB R bN = false := by unfold fitB; rw [HBd.out]; exact hok
          have HX := Lib.hid (show fitN R bN = 0 ∧ fitD R bN = 0 ∧ fitB R bN = false from ⟨by unfold fitN; rw [hfit]; rfl, by unfold fitD; rw [hfit]; rfl, hfit⟩)
          clear hok hfit
          go_wp2
          refine bodyPost_ret (v := .tuple #[.agg #[.slice none 0 0, .int .i64 0], .bool false]) (by simp [results, Try.results107, go_sem, q0, q1]) rfl ?_
          obtain ⟨x1, x2, x3⟩ := HX.out
          rw [x1, x2, x3]
          exact ⟨none, 0, rfl, .inl rfl, (HB1.out.setCell (by simp) _).setCell (by simp) _⟩
        | true =>
          have hfit : fitB R bN = true := by unfold fitB; rw [HBd.out]; exact hok
          have HX := Lib.hid (show fitN R bN = R.length ∧ fitD R bN = capB bN ∧ fitB R bN = true from ⟨by unfold fitN; rw [hfit]; rfl, by unfold fitD; rw [hfit]; rfl, hfit⟩)
          clear hok hfit
          go_wp2
          refine bodyPost_ret (v := .tuple #[.agg #[.slice A' R.length cap', .int .i64 (bN)], .bool true]) (by simp [results, Try.results107, go_sem, q0, q1]) rfl ?_
          obtain ⟨x1, x2, x3⟩ := HX.out
          rw [x1, x2, x3, HBd.out]
          exact ⟨_, _, rfl, ((HF1.out.far (by simp) (by simp) _).far (by simp) (by simp) _).more (by omega), (HB1.out.setCell (by simp) _).setCell (by simp) _⟩
end Go.Proofs.Ytaghnjkpanjioaa
