/- The sum of two constraints, off the pairs and off the variables (no claim of its own). Conditions: as each theorem states. · The sum of two constraints, all variables (no claim of its own). Conditions: as each theorem states. · What a normal form says of values (no claim of its own). Conditions: as each theorem states. · What the law of addition needs of the sum (no claim of its own). Conditions: as each theorem states. · What the law of addition needs of the rule (no claim of its own). Conditions: as each theorem states. · The walk of the law FnAddConstraints (no claim of its own). Conditions: as each theorem states. -/
import Derived.Test.YtipblbcedkhmbaaAddC
import Derived.Test.YtipblbcedkhmbaaRulM
import Derived.Test.YtipblbcedkhmbaaDrwY
namespace Go.Proofs.Ytipblbcedkhmbaa
open Go.ChangeShapes Go.WideShapes Go.ChangeAt Go.RowKit

/-- The rows of k variables from u on; the bound behind them. -/
def rowsF (f : Nat → Int) : Nat → Nat → List (Int × Int)
  | _, 0 => []
  | u, k + 1 => rowAt (f u) u ++ rowsF f (u + 1) k
def bndF (f : Nat → Int) : Int → Nat → Nat → Int
  | b, _, 0 => b
  | b, u, k + 1 => bndF f (bAt b (f u)) (u + 1) k
theorem rowsF_snoc (f : Nat → Int) : ∀ (k u : Nat), rowsF f u (k + 1) = rowsF f u k ++ rowAt (f (u + k)) (u + k) := by
  intro k
  induction k with
  | zero => intro u; simp [rowsF]
  | succ k ih =>
    intro u
    show rowAt (f u) u ++ rowsF f (u + 1) (k + 1) = (rowAt (f u) u ++ rowsF f (u + 1) k) ++ _
    rw [ih (u + 1), List.append_assoc, show u + 1 + k = u + (k + 1) by omega]
theorem bndF_snoc (f : Nat → Int) : ∀ (k u : Nat) (b : Int), bndF f b u (k + 1) = bAt (bndF f b u k) (f (u + k)) := by
  intro k
  induction k with
  | zero => intro u b; rfl
  | succ k ih =>
    intro u b
    show bndF f (bAt b (f u)) (u + 1) (k + 1) = bAt (bndF f (bAt b (f u)) (u + 1) k) _
    rw [ih (u + 1), show u + 1 + k = u + (k + 1) by omega]
theorem rowsN_F (f : Nat → Int) (v : Nat) : rowsN f v = rowsF f 1 v := by
  induction v with
  | zero => rfl
  | succ v ih =>
    rw [rowsF_snoc, ← ih, show 1 + v = v + 1 by omega]
    rfl
theorem bndN_F (f : Nat → Int) (b : Int) (v : Nat) : bndN f b v = bndF f b 1 v := by
  induction v with
  | zero => rfl
  | succ v ih =>
    rw [bndF_snoc, ← ih, show 1 + v = v + 1 by omega]
    rfl
theorem rowsF_congr {f g : Nat → Int} : ∀ (k u : Nat), (∀ v, u ≤ v → f v = g v) → rowsF f u k = rowsF g u k := by
  intro k
  induction k with
  | zero => intro u _; rfl
  | succ k ih =>
    intro u h
    unfold rowsF
    rw [h u (Nat.le_refl _), ih (u + 1) fun v hv => h v (by omega)]
theorem bndF_congr {f g : Nat → Int} : ∀ (k u : Nat) (b : Int), (∀ v, u ≤ v → f v = g v) → bndF f b u k = bndF g b u k := by
  intro k
  induction k with
  | zero => intro u _ _; rfl
  | succ k ih =>
    intro u b h
    unfold bndF
    rw [h u (Nat.le_refl _), ih (u + 1) _ fun v hv => h v (by omega)]

/-- What a term adds to the coefficient of a variable; the coefficients of negative literals. -/
def sg (z : Int × Int) (v : Nat) : Int := if z.2 = (v : Int) then z.1 else if z.2 = -(v : Int) then -z.1 else 0
def S : List (Int × Int) → Nat → Int
  | [], _ => 0
  | z :: zs, v => sg z v + S zs v
def ng (z : Int × Int) : Int := if 0 < z.2 then 0 else z.1
def Ng : List (Int × Int) → Int
  | [] => 0
  | z :: zs => ng z + Ng zs
theorem S_append (xs ys : List (Int × Int)) (v : Nat) : S (xs ++ ys) v = S xs v + S ys v := by
  induction xs with
  | nil => show S ys v = 0 + S ys v; omega
  | cons x xs ih => show sg x v + S (xs ++ ys) v = sg x v + S xs v + S ys v; rw [ih]; omega
theorem Ng_append (xs ys : List (Int × Int)) : Ng (xs ++ ys) = Ng xs + Ng ys := by
  induction xs with
  | nil => show Ng ys = 0 + Ng ys; omega
  | cons x xs ih => show ng x + Ng (xs ++ ys) = ng x + Ng xs + Ng ys; rw [ih]; omega
theorem S_none {zs : List (Int × Int)} {v : Nat} (h : ∀ z ∈ zs, (v : Int) < ab z.2) : S zs v = 0 := by
  induction zs with
  | nil => rfl
  | cons z zs ih =>
    show sg z v + S zs v = 0
    rw [ih fun x hx => h x (List.mem_cons_of_mem _ hx)]
    have h1 := h z (List.mem_cons_self ..)
    unfold ab at h1
    unfold sg
    rw [if_neg (by split at h1 <;> omega), if_neg (by split at h1 <;> omega)]
    rfl
theorem Ng_nonneg {zs : List (Int × Int)} (h : srt zs) : 0 ≤ Ng zs := by
  induction zs with
  | nil => exact Int.le_refl _
  | cons z zs ih =>
    have h1 := ih h.2.2
    have h2 := h.1.2.1
    show 0 ≤ ng z + Ng zs
    unfold ng
    split <;> omega

theorem w64 {x : Int} (h : -9000000000 ≤ x ∧ x ≤ 9000000000) : wrap64 x = x := by rw [← IntWalk.i64_left]; exact IntWalk.i64_in _ (by omega)
theorem w64' {x : Int} (h : -9000000000 ≤ x ∧ x ≤ 9000000000) : IntKind.i64.wrap x = x := IntWalk.i64_in _ (by omega)

/-- One variable: the pair of its terms, off the sum of what they add. -/
theorem add_one {x y : Int × Int} {u : Nat} (hu : 1 ≤ u) (hx : x = (0, 0) ∨ (ab x.2 = (u : Int) ∧ 1 ≤ x.1 ∧ x.1 ≤ 1000)) (hy : y = (0, 0) ∨ (ab y.2 = (u : Int) ∧ 1 ≤ y.1 ∧ y.1 ≤ 1000)) (hne : ¬ (x = (0, 0) ∧ y = (0, 0))) :
    addP (x, y) = rowAt (sg x u + sg y u) u ∧ 0 ≤ (addT x y).2 ∧ (addT x y).2 ≤ 1000 ∧ (∀ b : Int, -9000000 ≤ b → b ≤ 9000000 → bAt (b - ng x - ng y) (sg x u + sg y u) = b - (addT x y).2) := by
  obtain ⟨xc, xl⟩ := x
  obtain ⟨yc, yl⟩ := y
  have key : ∀ (zc zl : Int), ((zc, zl) = ((0 : Int), (0 : Int)) ∨ (ab (zc, zl).2 = (u : Int) ∧ 1 ≤ (zc, zl).1 ∧ (zc, zl).1 ≤ 1000)) →
      (zc = 0 ∧ zl = 0) ∨ (1 ≤ zc ∧ zc ≤ 1000 ∧ (zl = (u : Int) ∨ zl = -(u : Int))) := by
    intro zc zl h
    rcases h with h | ⟨h1, h2, h3⟩
    · exact .inl (by simpa using h)
    · refine .inr ⟨h2, h3, ?_⟩
      dsimp only at h1
      unfold ab at h1
      split at h1 <;> omega
  have kx := key _ _ hx
  have ky := key _ _ hy
  have hn : ¬ ((xc = 0 ∧ xl = 0) ∧ (yc = 0 ∧ yl = 0)) := by
    rintro ⟨⟨rfl, rfl⟩, rfl, rfl⟩
    exact hne ⟨rfl, rfl⟩
  clear key hx hy hne
  have hsx : sg (xc, xl) u = if xl = (u : Int) then xc else if xl = -(u : Int) then -xc else 0 := rfl
  have hsy : sg (yc, yl) u = if yl = (u : Int) then yc else if yl = -(u : Int) then -yc else 0 := rfl
  have hgx : ng (xc, xl) = if 0 < xl then 0 else xc := rfl
  have hgy : ng (yc, yl) = if 0 < yl then 0 else yc := rfl
  have hT : addT (xc, xl) (yc, yl) = if xc < yc then (if yl = -xl then ((yc - xc, yl), xc) else ((yc + xc, yl), 0)) else (if xl = -yl then ((xc - yc, xl), yc) else ((xc + yc, xl), 0)) := rfl
  have fin : ∀ (co li ca s : Int), addT (xc, xl) (yc, yl) = ((co, li), ca) → sg (xc, xl) u + sg (yc, yl) u = s → (0 < co ∧ ((s = co ∧ li = (u : Int)) ∨ (s = -co ∧ li = -(u : Int))) ∨ (co = 0 ∧ s = 0)) → co ≤ 2000 → 0 ≤ ca → ca ≤ 1000 →
      (ca = ng (xc, xl) + ng (yc, yl) + (if s < 0 then s else 0)) →
      addP ((xc, xl), (yc, yl)) = rowAt (sg (xc, xl) u + sg (yc, yl) u) u ∧ 0 ≤ (addT (xc, xl) (yc, yl)).2 ∧ (addT (xc, xl) (yc, yl)).2 ≤ 1000 ∧ (∀ b : Int, -9000000 ≤ b → b ≤ 9000000 → bAt (b - ng (xc, xl) - ng (yc, yl)) (sg (xc, xl) u + sg (yc, yl) u) = b - (addT (xc, xl) (yc, yl)).2) := by
    intro co li ca s e1 e2 e3 e4 e5 e6 e7
    rw [e2, e1]
    refine ⟨?_, e5, e6, ?_⟩
    · unfold addP
      dsimp only
      rw [e1]
      dsimp only
      rcases e3 with ⟨h1, ⟨rfl, rfl⟩ | ⟨rfl, rfl⟩⟩ | ⟨rfl, rfl⟩
      · rw [if_pos h1, rowAt_pos h1]
      · rw [if_pos h1, rowAt_neg (by omega), Int.neg_neg, w64' (by omega)]
      · rw [if_neg (by omega), rowAt_zero (by omega) (by omega)]
    · intro b h1 h2
      unfold bAt
      dsimp only
      split
      · next h =>
        rw [if_pos h] at e7
        rw [w64 (by omega)]
        omega
      · next h =>
        rw [if_neg h] at e7
        omega
  rcases kx with ⟨rfl, rfl⟩ | ⟨x1, x2, rfl | rfl⟩
  · rcases ky with ⟨rfl, rfl⟩ | ⟨y1, y2, rfl | rfl⟩
    · exact absurd ⟨⟨rfl, rfl⟩, rfl, rfl⟩ hn
    · refine fin yc u 0 yc (by rw [hT, if_pos (by omega), if_neg (by omega)]; simp) (by rw [hsx, hsy, if_neg (by omega), if_neg (by omega), if_pos rfl]; omega) (.inl ⟨by omega, .inl ⟨rfl, rfl⟩⟩) (by omega) (by omega) (by omega) (by rw [hgx, hgy, if_neg (by omega), if_pos (by omega), if_neg (by omega)]; omega)
    · refine fin yc (-(u : Int)) 0 (-yc) (by rw [hT, if_pos (by omega), if_neg (by omega)]; simp) (by rw [hsx, hsy, if_neg (by omega), if_neg (by omega), if_neg (by omega), if_pos rfl]; omega) (.inl ⟨by omega, .inr ⟨rfl, rfl⟩⟩) (by omega) (by omega) (by omega) (by rw [hgx, hgy, if_neg (by omega), if_neg (by omega), if_pos (by omega)]; omega)
  · rcases ky with ⟨rfl, rfl⟩ | ⟨y1, y2, rfl | rfl⟩
    · refine fin xc u 0 xc (by rw [hT, if_neg (by omega), if_neg (by omega)]; simp) (by rw [hsx, hsy, if_pos rfl, if_neg (by omega), if_neg (by omega)]; omega) (.inl ⟨by omega, .inl ⟨rfl, rfl⟩⟩) (by omega) (by omega) (by omega) (by rw [hgx, hgy, if_pos (by omega), if_neg (by omega), if_neg (by omega)]; omega)
    · refine fin (xc + yc) u 0 (xc + yc) (by rw [hT]; split <;> rw [if_neg (by omega)] <;> simp <;> omega) (by rw [hsx, hsy, if_pos rfl, if_pos rfl]) (.inl ⟨by omega, .inl ⟨rfl, rfl⟩⟩) (by omega) (by omega) (by omega) (by rw [hgx, hgy, if_pos (by omega), if_pos (by omega), if_neg (by omega)]; omega)
    · by_cases h : xc < yc
      · refine fin (yc - xc) (-(u : Int)) xc (xc - yc) (by rw [hT, if_pos h, if_pos (by omega)]) (by rw [hsx, hsy, if_pos rfl, if_neg (by omega), if_pos rfl]; omega) (.inl ⟨by omega, .inr ⟨by omega, rfl⟩⟩) (by omega) (by omega) (by omega) (by rw [hgx, hgy, if_pos (by omega), if_neg (by omega), if_pos (by omega)]; omega)
      · refine fin (xc - yc) u yc (xc - yc) (by rw [hT, if_neg h, if_pos (by omega)]) (by rw [hsx, hsy, if_pos rfl, if_neg (by omega), if_pos rfl]; omega) (by omega) (by omega) (by omega) (by omega) (by rw [hgx, hgy, if_pos (by omega), if_neg (by omega), if_neg (by omega)]; omega)
  · rcases ky with ⟨rfl, rfl⟩ | ⟨y1, y2, rfl | rfl⟩
    · refine fin xc (-(u : Int)) 0 (-xc) (by rw [hT, if_neg (by omega), if_neg (by omega)]; simp) (by rw [hsx, hsy, if_neg (by omega), if_pos rfl, if_neg (by omega), if_neg (by omega)]; omega) (.inl ⟨by omega, .inr ⟨rfl, rfl⟩⟩) (by omega) (by omega) (by omega) (by rw [hgx, hgy, if_neg (by omega), if_neg (by omega), if_pos (by omega)]; omega)
    · by_cases h : xc < yc
      · refine fin (yc - xc) u xc (yc - xc) (by rw [hT, if_pos h, if_pos (by omega)]) (by rw [hsx, hsy, if_neg (by omega), if_pos rfl, if_pos rfl]; omega) (.inl ⟨by omega, .inl ⟨by omega, rfl⟩⟩) (by omega) (by omega) (by omega) (by rw [hgx, hgy, if_neg (by omega), if_pos (by omega), if_neg (by omega)]; omega)
      · refine fin (xc - yc) (-(u : Int)) yc (yc - xc) (by rw [hT, if_neg h, if_pos (by omega)]) (by rw [hsx, hsy, if_neg (by omega), if_pos rfl, if_pos rfl]; omega) (by omega) (by omega) (by omega) (by omega) (by rw [hgx, hgy, if_neg (by omega), if_pos (by omega)]; split <;> omega)
    · refine fin (xc + yc) (-(u : Int)) 0 (-(xc + yc)) (by rw [hT]; split <;> rw [if_neg (by omega)] <;> simp <;> omega) (by rw [hsx, hsy, if_neg (by omega), if_pos rfl, if_neg (by omega), if_pos rfl]; omega) (.inl ⟨by omega, .inr ⟨rfl, rfl⟩⟩) (by omega) (by omega) (by omega) (by rw [hgx, hgy, if_neg (by omega), if_neg (by omega), if_pos (by omega)]; omega)
end Go.Proofs.Ytipblbcedkhmbaa

namespace Go.Proofs.Ytipblbcedkhmbaa
open Go.ChangeShapes Go.WideShapes Go.ChangeAt Go.RowKit

theorem sg_zero (v : Nat) : sg ((0 : Int), (0 : Int)) v = 0 := by
  unfold sg
  dsimp only
  split
  · rfl
  · split <;> rfl
theorem ng_zero : ng ((0 : Int), (0 : Int)) = 0 := rfl
theorem sg_off {z : Int × Int} {u v : Nat} (h : z = (0, 0) ∨ (ab z.2 = (u : Int) ∧ 1 ≤ z.1 ∧ z.1 ≤ 1000)) (hv : u < v) : sg z v = 0 := by
  rcases h with rfl | ⟨h, _⟩
  · exact sg_zero v
  · unfold ab at h
    unfold sg
    rw [if_neg (by split at h <;> omega), if_neg (by split at h <;> omega)]
/-- What is shown of two lists and the variables u to u + k - 1. -/
def Sums (k u : Nat) (xs ys : List (Int × Int)) : Prop := ∀ b : Int, -8000000 + 1000 * (12 - (k : Int)) * -1 ≤ b + 24000 → b ≤ 8000000 - 1000 * (k : Int) → -8000000 + 1000 * (k : Int) ≤ b →
  addR (prs xs ys) = rowsF (fun v => S xs v + S ys v) u k ∧ bndF (fun v => S xs v + S ys v) (b - Ng xs - Ng ys) u k = canW b (prs xs ys)

theorem step_sum {k u : Nat} {x y : Int × Int} {xs ys xs' ys' : List (Int × Int)} (hu : 1 ≤ u) (ih : Sums k (u + 1) xs' ys') (hp : prs xs ys = (x, y) :: prs xs' ys')
    (hF : ∀ v, S xs v + S ys v = sg x v + sg y v + (S xs' v + S ys' v)) (h0 : S xs' u + S ys' u = 0) (hN : Ng xs + Ng ys = ng x + ng y + (Ng xs' + Ng ys'))
    (hx : x = (0, 0) ∨ (ab x.2 = (u : Int) ∧ 1 ≤ x.1 ∧ x.1 ≤ 1000)) (hy : y = (0, 0) ∨ (ab y.2 = (u : Int) ∧ 1 ≤ y.1 ∧ y.1 ≤ 1000)) (hne : ¬ (x = (0, 0) ∧ y = (0, 0)))
    (hb0 : 0 ≤ Ng xs' + Ng ys') (hb1 : Ng xs' + Ng ys' ≤ 100000) : Sums (k + 1) u xs ys := by
  intro b _ h2 h3
  obtain ⟨e1, e2, e3, e4⟩ := add_one hu hx hy hne
  have hk : ((k + 1 : Nat) : Int) = (k : Int) + 1 := by omega
  rw [hk] at h2 h3
  obtain ⟨i1, i2⟩ := ih (b - (addT x y).2) (by omega) (by omega) (by omega)
  have hFu : S xs u + S ys u = sg x u + sg y u := by have := hF u; omega
  have hcong : ∀ v, u + 1 ≤ v → S xs v + S ys v = S xs' v + S ys' v := fun v hv => by
    have h5 := hF v
    have h6 := sg_off hx (v := v) (by omega)
    have h7 := sg_off hy (v := v) (by omega)
    omega
  have hw : wrap64 (b - (addT x y).2) = b - (addT x y).2 := w64 (by omega)
  refine ⟨?_, ?_⟩
  · rw [hp]
    show addP (x, y) ++ addR (prs xs' ys') = rowAt (S xs u + S ys u) u ++ rowsF _ (u + 1) k
    rw [e1, hFu, i1, rowsF_congr (f := fun v => S xs v + S ys v) (g := fun v => S xs' v + S ys' v) k (u + 1) hcong]
  · rw [hp]
    show bndF _ (bAt (b - Ng xs - Ng ys) (S xs u + S ys u)) (u + 1) k = canW (wrap64 (b - (addT x y).2)) (prs xs' ys')
    have e5 := e4 (b - Ng xs' - Ng ys') (by omega) (by omega)
    rw [hFu, show b - Ng xs - Ng ys = b - Ng xs' - Ng ys' - ng x - ng y by omega, e5, hw, ← i2, bndF_congr (f := fun v => S xs v + S ys v) (g := fun v => S xs' v + S ys' v) k (u + 1) _ hcong,
      show b - Ng xs' - Ng ys' - (addT x y).2 = b - (addT x y).2 - Ng xs' - Ng ys' by omega]

theorem skip_sum {k u : Nat} {xs ys : List (Int × Int)} (ih : Sums k (u + 1) xs ys) (h0 : S xs u + S ys u = 0) : Sums (k + 1) u xs ys := by
  intro b _ h2 h3
  have hk : ((k + 1 : Nat) : Int) = (k : Int) + 1 := by omega
  rw [hk] at h2 h3
  obtain ⟨i1, i2⟩ := ih b (by omega) (by omega) (by omega)
  refine ⟨?_, ?_⟩
  · show _ = rowAt (S xs u + S ys u) u ++ rowsF _ (u + 1) k
    rw [h0, rowAt_zero (by omega) (by omega)]
    exact i1
  · show bndF _ (bAt (b - Ng xs - Ng ys) (S xs u + S ys u)) (u + 1) k = _
    rw [h0, show bAt (b - Ng xs - Ng ys) 0 = b - Ng xs - Ng ys from if_neg (by omega)]
    exact i2

/-- All variables of a list lie from u on and below t. -/
def From (u t : Nat) (xs : List (Int × Int)) : Prop := ∀ z ∈ xs, (u : Int) ≤ ab z.2 ∧ ab z.2 < (t : Int)
theorem From.up {u t : Nat} {x : Int × Int} {xs : List (Int × Int)} (h : From u t (x :: xs)) (hs : srt (x :: xs)) (hx : ab x.2 = (u : Int)) : From (u + 1) t xs := fun z hz => by
  have h1 := h z (List.mem_cons_of_mem _ hz)
  have h2 := hs.2.1 z hz
  omega
theorem From.up' {u t : Nat} {x : Int × Int} {xs : List (Int × Int)} (h : From u t (x :: xs)) (hs : srt (x :: xs)) (hx : ab x.2 ≠ (u : Int)) : From (u + 1) t (x :: xs) := fun z hz => by
  have h1 := h z hz
  have h3 := h x (List.mem_cons_self ..)
  rcases List.mem_cons.1 hz with rfl | hz
  · omega
  · have h2 := hs.2.1 z hz
    omega
theorem From.nil (u t : Nat) : From u t [] := fun z hz => by cases hz
theorem From.none {u t : Nat} {xs : List (Int × Int)} (h : From (u + 1) t xs) : S xs u = 0 := S_none fun z hz => by have := h z hz; omega

theorem all_sum : ∀ (k u : Nat) (xs ys : List (Int × Int)), 1 ≤ u → srt xs → srt ys → From u (u + k) xs → From u (u + k) ys → Ng xs + Ng ys ≤ 100000 → Sums k u xs ys := by
  intro k
  induction k with
  | zero =>
    intro u xs ys _ _ _ h h' _ b _ _ _
    have h1 : xs = [] := by
      cases xs with
      | nil => rfl
      | cons x xs => have := h x (List.mem_cons_self ..); omega
    have h2 : ys = [] := by
      cases ys with
      | nil => rfl
      | cons y ys => have := h' y (List.mem_cons_self ..); omega
    subst h1 h2
    refine ⟨rfl, ?_⟩
    show b - 0 - 0 = b
    omega
  | succ k ih =>
    intro u xs ys hu hs hs' h h' hN
    rw [show u + (k + 1) = u + 1 + k by omega] at h h'
    have n1 := Ng_nonneg hs
    have n2 := Ng_nonneg hs'
    have hasx : (∃ x xs', xs = x :: xs' ∧ ab x.2 = (u : Int)) ∨ From (u + 1) (u + 1 + k) xs := by
      cases xs with
      | nil => exact .inr (From.nil _ _)
      | cons x xs =>
        by_cases e : ab x.2 = (u : Int)
        · exact .inl ⟨x, xs, rfl, e⟩
        · exact .inr (h.up' hs e)
    have hasy : (∃ y ys', ys = y :: ys' ∧ ab y.2 = (u : Int)) ∨ From (u + 1) (u + 1 + k) ys := by
      cases ys with
      | nil => exact .inr (From.nil _ _)
      | cons y ys =>
        by_cases e : ab y.2 = (u : Int)
        · exact .inl ⟨y, ys, rfl, e⟩
        · exact .inr (h'.up' hs' e)
    rcases hasx with ⟨x, xs', rfl, ex⟩ | fx
    · have hx : x = (0, 0) ∨ (ab x.2 = (u : Int) ∧ 1 ≤ x.1 ∧ x.1 ≤ 1000) := .inr ⟨ex, hs.1.2⟩
      have hx0 : ¬ x = (0, 0) := fun e => by have := hs.1.2.1; rw [e] at this; dsimp only at this; omega
      have fx := h.up hs ex
      have z1 := Ng_nonneg hs.2.2
      have hNx : Ng (x :: xs') = ng x + Ng xs' := rfl
      have hngx : 0 ≤ ng x := by have := hs.1.2.1; unfold ng; split <;> omega
      rcases hasy with ⟨y, ys', rfl, ey⟩ | fy
      · have hy : y = (0, 0) ∨ (ab y.2 = (u : Int) ∧ 1 ≤ y.1 ∧ y.1 ≤ 1000) := .inr ⟨ey, hs'.1.2⟩
        have fy := h'.up hs' ey
        have z2 := Ng_nonneg hs'.2.2
        have hNy : Ng (y :: ys') = ng y + Ng ys' := rfl
        have hngy : 0 ≤ ng y := by have := hs'.1.2.1; unfold ng; split <;> omega
        refine step_sum hu (ih (u + 1) xs' ys' (by omega) hs.2.2 hs'.2.2 fx fy (by omega)) (prs_eq (ex.trans ey.symm)) (fun v => ?_) (by rw [fx.none, fy.none]; rfl) (by omega) hx hy (fun e => hx0 e.1) (by omega) (by omega)
        show sg x v + S xs' v + (sg y v + S ys' v) = _
        omega
      · refine step_sum hu (ih (u + 1) xs' ys (by omega) hs.2.2 hs' fx fy (by omega)) (y := (0, 0)) ?_ (fun v => ?_) (by rw [fx.none, fy.none]; rfl) (by rw [ng_zero]; omega) hx (.inl rfl) (fun e => hx0 e.1) (by omega) (by omega)
        · cases ys with
          | nil => exact prs_left
          | cons y ys =>
            have := fy y (List.mem_cons_self ..)
            exact prs_lt (by omega)
        · rw [sg_zero]
          show sg x v + S xs' v + S ys v = _
          omega
    · rcases hasy with ⟨y, ys', rfl, ey⟩ | fy
      · have hy : y = (0, 0) ∨ (ab y.2 = (u : Int) ∧ 1 ≤ y.1 ∧ y.1 ≤ 1000) := .inr ⟨ey, hs'.1.2⟩
        have hy0 : ¬ y = (0, 0) := fun e => by have := hs'.1.2.1; rw [e] at this; dsimp only at this; omega
        have fy := h'.up hs' ey
        have z2 := Ng_nonneg hs'.2.2
        have hNy : Ng (y :: ys') = ng y + Ng ys' := rfl
        have hngy : 0 ≤ ng y := by have := hs'.1.2.1; unfold ng; split <;> omega
        refine step_sum hu (ih (u + 1) xs ys' (by omega) hs hs'.2.2 fx fy (by omega)) (x := (0, 0)) ?_ (fun v => ?_) (by rw [fx.none, fy.none]; rfl) (by rw [ng_zero]; omega) (.inl rfl) hy (fun e => hy0 e.2) (by omega) (by omega)
        · cases xs with
          | nil => exact prs_right
          | cons x xs =>
            have := fx x (List.mem_cons_self ..)
            exact prs_gt (by omega)
        · rw [sg_zero]
          show S xs v + (sg y v + S ys' v) = _
          omega
      · exact skip_sum (ih (u + 1) xs ys (by omega) hs hs' fx fy hN) (by rw [fx.none, fy.none]; rfl)

theorem lst_snoc (c l : Nat → Int) : ∀ (m i : Nat), lst c l i (m + 1) = lst c l i m ++ [(c (i + m), l (i + m))] := by
  intro m
  induction m with
  | zero => intro i; rfl
  | succ m ih =>
    intro i
    show (c i, l i) :: lst c l (i + 1) (m + 1) = (c i, l i) :: (lst c l (i + 1) m ++ _)
    rw [ih (i + 1), show i + 1 + m = i + (m + 1) by omega]
theorem lst_congr {c l c' l' : Nat → Int} {n : Nat} (h : ∀ i, i < n → c i = c' i ∧ l i = l' i) : lst c l 0 n = lst c' l' 0 n := by
  induction n with
  | zero => rfl
  | succ n ih =>
    rw [lst_snoc, lst_snoc, ih fun i hi => h i (by omega), Nat.zero_add, (h n (by omega)).1, (h n (by omega)).2]
theorem lst_cat (c l c' l' : Nat → Int) (n m : Nat) : lst (cat2 n c c') (cat2 n l l') 0 (n + m) = lst c l 0 n ++ lst c' l' 0 m := by
  induction m with
  | zero =>
    rw [Nat.add_zero]
    show _ = lst c l 0 n ++ []
    rw [List.append_nil]
    exact lst_congr fun i hi => by simp [cat2, hi]
  | succ m ih =>
    have h1 : cat2 n c c' (n + m) = c' m := by unfold cat2; rw [if_neg (by omega)]; congr 1; omega
    have h2 : cat2 n l l' (n + m) = l' m := by unfold cat2; rw [if_neg (by omega)]; congr 1; omega
    rw [show n + (m + 1) = (n + m) + 1 by omega, lst_snoc, lst_snoc, ih, List.append_assoc, Nat.zero_add, Nat.zero_add, h1, h2]

theorem S_bnd {c l : Nat → Int} {n : Nat} (h : allN c l n = true) (v : Nat) : ∀ k, k ≤ n → -1000 * (k : Int) ≤ S (lst c l 0 k) v ∧ S (lst c l 0 k) v ≤ 1000 * (k : Int) := by
  intro k
  induction k with
  | zero => intro _; exact ⟨Int.le_refl _, Int.le_refl _⟩
  | succ k ih =>
    intro hk
    have h1 := ih (by omega)
    obtain ⟨_, h2, h3⟩ := okN_iff.1 (allN_at h (show k < n by omega))
    rw [lst_snoc, S_append, Nat.zero_add]
    have h4 : S [(c k, l k)] v = sg (c k, l k) v + 0 := rfl
    have h5 : sg (c k, l k) v = if l k = (v : Int) then c k else if l k = -(v : Int) then -c k else 0 := rfl
    rw [h4, h5]
    split
    · omega
    · split <;> omega
theorem net_S {c l : Nat → Int} {n : Nat} (h : allN c l n = true) (hn : n ≤ 1000) (v : Nat) : ∀ k, k ≤ n → net c l k v = S (lst c l 0 k) v := by
  intro k
  induction k with
  | zero => intro _; rfl
  | succ k ih =>
    intro hk
    have h1 := ih (by omega)
    have hb := S_bnd h v k (by omega)
    obtain ⟨_, h2, h3⟩ := okN_iff.1 (allN_at h (show k < n by omega))
    rw [lst_snoc, S_append, Nat.zero_add]
    have h4 : S [(c k, l k)] v = sg (c k, l k) v + 0 := rfl
    have h5 : sg (c k, l k) v = if l k = (v : Int) then c k else if l k = -(v : Int) then -c k else 0 := rfl
    rw [h4, h5]
    unfold net
    rw [h1]
    split
    · rw [w64 (by omega)]; omega
    · split
      · rw [w64 (by omega)]; omega
      · omega
theorem Ng_bnd {c l : Nat → Int} {n : Nat} (h : allN c l n = true) : ∀ k, k ≤ n → -1000 * (k : Int) ≤ Ng (lst c l 0 k) ∧ Ng (lst c l 0 k) ≤ 1000 * (k : Int) := by
  intro k
  induction k with
  | zero => intro _; exact ⟨Int.le_refl _, Int.le_refl _⟩
  | succ k ih =>
    intro hk
    have h1 := ih (by omega)
    obtain ⟨_, h2, h3⟩ := okN_iff.1 (allN_at h (show k < n by omega))
    rw [lst_snoc, Ng_append, Nat.zero_add]
    have h4 : Ng [(c k, l k)] = ng (c k, l k) + 0 := rfl
    have h5 : ng (c k, l k) = if 0 < l k then 0 else c k := rfl
    rw [h4, h5]
    split <;> omega
theorem nbd_Ng {c l : Nat → Int} {n : Nat} {b : Int} (h : allN c l n = true) (hn : n ≤ 1000) (hb : -1000000 ≤ b ∧ b ≤ 1000000) : ∀ k, k ≤ n → nbd c l b k = b - Ng (lst c l 0 k) := by
  intro k
  induction k with
  | zero => intro _; show b = b - 0; omega
  | succ k ih =>
    intro hk
    have h1 := ih (by omega)
    have hB := Ng_bnd h k (by omega)
    obtain ⟨_, h2, h3⟩ := okN_iff.1 (allN_at h (show k < n by omega))
    rw [lst_snoc, Ng_append, Nat.zero_add]
    have h4 : Ng [(c k, l k)] = ng (c k, l k) + 0 := rfl
    have h5 : ng (c k, l k) = if 0 < l k then 0 else c k := rfl
    rw [h4, h5]
    unfold nbd
    rw [h1]
    split
    · omega
    · rw [w64 (by omega)]; omega

theorem From_lst {n : Nat} {c l : Nat → Int} {bd : Int} (h : validB n c l bd = true) : From 1 13 (lst c l 0 n) := fun z hz => by
  obtain ⟨j, _, hj, rfl⟩ := lst_mem z hz
  have := ab_lit (litAt h (show j < n by omega))
  dsimp only
  omega

/-- Both sides' rows and bounds. -/
theorem sum_same {N N' : Nat} {c l c' l' : Nat → Int} {bd bd' : Int} (hv : validB N c l bd = true) (hv' : validB N' c' l' bd' = true) :
    addR (prs (lst c l 0 N) (lst c' l' 0 N')) = rowsN (net (cat2 N c c') (cat2 N l l') (N + N')) 12 ∧
    canW (wrap64 (bd + bd')) (prs (lst c l 0 N) (lst c' l' 0 N')) = bndN (net (cat2 N c c') (cat2 N l l') (N + N')) (nbd (cat2 N c c') (cat2 N l l') (wrap64 (bd + bd')) (N + N')) 12 := by
  have hN := valid_12 hv
  have hN' := valid_12 hv'
  have hall := allN_cat (valid_all hv) (valid_all hv')
  have b1 := valid_bd hv
  have b2 := valid_bd hv'
  have hw : wrap64 (bd + bd') = bd + bd' := w64 (by omega)
  have g1 := Ng_bnd (valid_all hv) N (Nat.le_refl _)
  have g2 := Ng_bnd (valid_all hv') N' (Nat.le_refl _)
  have hnet : net (cat2 N c c') (cat2 N l l') (N + N') = fun v => S (lst c l 0 N) v + S (lst c' l' 0 N') v := by
    funext v
    rw [net_S hall (by omega) v (N + N') (Nat.le_refl _), lst_cat, S_append]
  have hnbd : nbd (cat2 N c c') (cat2 N l l') (bd + bd') (N + N') = bd + bd' - Ng (lst c l 0 N) - Ng (lst c' l' 0 N') := by
    rw [nbd_Ng hall (by omega) (by omega) (N + N') (Nat.le_refl _), lst_cat, Ng_append]
    omega
  obtain ⟨h1, h2⟩ := all_sum 12 1 _ _ (by omega) (srt_valid hv) (srt_valid hv') (From_lst hv) (From_lst hv') (by omega) (bd + bd') (by omega) (by omega) (by omega)
  rw [hw, hnet, hnbd, rowsN_F, bndN_F]
  exact ⟨h1, h2.symm⟩

/-- The program's side, in the model's words. -/
theorem inf_fit (R : List (Int × Int)) (b : Int) : infN true R.length (rC R) (rL R) (capB b) = fitN R b ∧ infD true R.length (rC R) (rL R) (capB b) = fitD R b ∧ infB true R.length (rC R) (rL R) (capB b) = fitB R b := by
  have h : infB true R.length (rC R) (rL R) (capB b) = fitB R b := by unfold infB fitB; rw [Bool.true_and]
  refine ⟨?_, ?_, h⟩
  · unfold infN fitN; rw [h]
  · unfold infD fitD; rw [h]
end Go.Proofs.Ytipblbcedkhmbaa

namespace Go.Proofs.Ytipblbcedkhmbaa
open Go.ChangeShapes Go.WideShapes Go.ChangeAt Go.RowKit

/-- The sum of the coefficients whose literals hold. -/
def tS (P : Int → Bool) : List (Int × Int) → Int
  | [] => 0
  | z :: zs => (if P z.2 then z.1 else 0) + tS P zs
theorem tS_append (P : Int → Bool) (xs ys : List (Int × Int)) : tS P (xs ++ ys) = tS P xs + tS P ys := by
  induction xs with
  | nil => show tS P ys = 0 + _; omega
  | cons x xs ih => show _ + tS P (xs ++ ys) = _ + _ + _; rw [ih]; omega
theorem sB_tS (c l : Nat → Int) (P : Int → Bool) (n : Nat) : sB c l P n = tS P (lst c l 0 n) := by
  induction n with
  | zero => rfl
  | succ n ih =>
    rw [lst_snoc, tS_append, ← ih, Nat.zero_add]
    show _ = _ + ((if P (l n) then c n else 0) + 0)
    cases hp : P (l n) with
    | true => rw [sB_yes hp, if_pos rfl]; omega
    | false => rw [sB_no hp, if_neg (by decide)]; omega
theorem lst_rows_at : ∀ (R pre : List (Int × Int)), lst (rC (pre ++ R)) (rL (pre ++ R)) pre.length R.length = R := by
  intro R
  induction R with
  | nil => intro pre; rfl
  | cons x R ih =>
    intro pre
    have h := ih (pre ++ [x])
    rw [List.append_assoc, List.length_append] at h
    show (rC (pre ++ x :: R) pre.length, rL (pre ++ x :: R) pre.length) :: lst _ _ (pre.length + 1) R.length = _
    have e : (pre ++ x :: R).getD pre.length (0, 0) = x := by simp
    unfold rC rL
    rw [e]
    exact congrArg _ h
theorem lst_rows (R : List (Int × Int)) : lst (rC R) (rL R) 0 R.length = R := lst_rows_at R []
theorem sB_rows (P : Int → Bool) (R : List (Int × Int)) : sB (rC R) (rL R) P R.length = tS P R := by rw [sB_tS, lst_rows]

/-- The sum of a function over the variables that are true. -/
def TT (v : Nat → Bool) (f : Nat → Int) : Nat → Int
  | 0 => 0
  | k + 1 => TT v f k + (if v k then f (k + 1) else 0)
theorem TT_add (v : Nat → Bool) (f g : Nat → Int) (k : Nat) : TT v (fun u => f u + g u) k = TT v f k + TT v g k := by
  induction k with
  | zero => rfl
  | succ k ih =>
    show TT v (fun u => f u + g u) k + (if v k then f (k + 1) + g (k + 1) else 0) = (TT v f k + (if v k then f (k + 1) else 0)) + (TT v g k + (if v k then g (k + 1) else 0))
    rw [ih]
    split <;> omega
theorem TT_zero (v : Nat → Bool) (k : Nat) : TT v (fun _ => 0) k = 0 := by
  induction k with
  | zero => rfl
  | succ k ih => show TT v (fun _ => 0) k + (if v k then 0 else 0) = 0; rw [ih]; split <;> rfl
theorem TT_one (v : Nat → Bool) (z : Int × Int) (i : Nat) (x : Int) (h : ∀ u : Nat, sg z (u + 1) = if u = i then x else 0) (k : Nat) : TT v (sg z) k = if i < k then (if v i then x else 0) else 0 := by
  induction k with
  | zero => rfl
  | succ k ih =>
    show TT v (sg z) k + (if v k then sg z (k + 1) else 0) = _
    have h1 : (if v k then (if k = i then x else 0) else 0) = if k = i then (if v i then x else 0) else 0 := by
      by_cases e : k = i
      · subst e
        simp
      · simp [e]
    rw [ih, h k, h1]
    by_cases e : k = i
    · rw [if_pos e, if_neg (show ¬ i < k by omega), if_pos (show i < k + 1 by omega)]
      exact Int.zero_add _
    · by_cases hi : i < k
      · rw [if_neg e, if_pos hi, if_pos (show i < k + 1 by omega)]
        exact Int.add_zero _
      · rw [if_neg e, if_neg hi, if_neg (show ¬ i < k + 1 by omega)]
        exact Int.add_zero _
theorem term_TT (v : Nat → Bool) (z : Int × Int) (h : litB z.2 = true) : (if trueP v z.2 then z.1 else 0) = ng z + TT v (sg z) 12 := by
  obtain ⟨c, l⟩ := z
  obtain ⟨h0, h1, h2⟩ := litB_iff.1 h
  dsimp only at h0 h1 h2 ⊢
  by_cases hp : 0 < l
  · obtain ⟨i, hi, rfl⟩ : ∃ i : Nat, i < 12 ∧ l = (i : Int) + 1 := ⟨(l - 1).toNat, by omega, by omega⟩
    rw [TT_one v _ i c (fun u => by
      unfold sg
      dsimp only
      by_cases e : u = i
      · subst e
        rw [if_pos (by omega), if_pos rfl]
      · rw [if_neg (by omega), if_neg (by omega), if_neg e]), if_pos hi]
    unfold ng trueP
    dsimp only
    rw [if_pos hp, if_pos hp, show ((i : Int) + 1 - 1).toNat = i by omega]
    omega
  · obtain ⟨i, hi, rfl⟩ : ∃ i : Nat, i < 12 ∧ l = -((i : Int) + 1) := ⟨(-l - 1).toNat, by omega, by omega⟩
    rw [TT_one v _ i (-c) (fun u => by
      unfold sg
      dsimp only
      by_cases e : u = i
      · subst e
        rw [if_neg (by omega), if_pos (by omega), if_pos rfl]
      · rw [if_neg (by omega), if_neg (by omega), if_neg e]), if_pos hi]
    unfold ng trueP
    dsimp only
    rw [if_neg hp, if_neg hp, show (- -((i : Int) + 1) - 1).toNat = i by omega]
    cases v i <;> simp <;> omega
theorem tS_S (v : Nat → Bool) (zs : List (Int × Int)) (h : ∀ z ∈ zs, litB z.2 = true) : tS (trueP v) zs = Ng zs + TT v (S zs) 12 := by
  induction zs with
  | nil => show 0 = 0 + TT v (fun _ => 0) 12; rw [TT_zero]; rfl
  | cons z zs ih =>
    have h1 := ih fun y hy => h y (List.mem_cons_of_mem _ hy)
    have h2 := term_TT v z (h z (List.mem_cons_self ..))
    show (if trueP v z.2 then z.1 else 0) + tS (trueP v) zs = ng z + Ng zs + TT v (fun u => sg z u + S zs u) 12
    rw [h1, h2, TT_add]
    omega

/-- The rows and the bound of a function over the variables, under values. -/
theorem rows_val (v : Nat → Bool) (f : Nat → Int) (hf : ∀ u, -100000 ≤ f u ∧ f u ≤ 100000) (b : Int) (hb : -1000000 ≤ b ∧ b ≤ 1000000) : ∀ k, k ≤ 12 → tS (trueP v) (rowsN f k) - bndN f b k = TT v f k - b ∧ b ≤ bndN f b k ∧ bndN f b k ≤ b + 100000 * (k : Int) := by
  intro k
  induction k with
  | zero => intro _; show (0 : Int) - b = 0 - b ∧ b ≤ b ∧ b ≤ b + _; omega
  | succ k ih =>
    intro hk
    obtain ⟨h1, h2, h3⟩ := ih (by omega)
    have hfk := hf (k + 1)
    have e1 : rowsN f (k + 1) = rowsN f k ++ rowAt (f (k + 1)) (k + 1) := rfl
    have e2 : bndN f b (k + 1) = bAt (bndN f b k) (f (k + 1)) := rfl
    have e3 : TT v f (k + 1) = TT v f k + (if v k then f (k + 1) else 0) := rfl
    rw [e1, e2, e3, tS_append]
    have hp : trueP v ((k + 1 : Nat) : Int) = v k := by
      unfold trueP
      rw [if_pos (by omega), show (((k + 1 : Nat) : Int) - 1).toNat = k by omega]
    have hn : trueP v (-((k + 1 : Nat) : Int)) = !v k := by
      unfold trueP
      rw [if_neg (by omega), show (- -((k + 1 : Nat) : Int) - 1).toNat = k by omega]
    by_cases c1 : 0 < f (k + 1)
    · rw [rowAt_pos c1]
      have e4 : bAt (bndN f b k) (f (k + 1)) = bndN f b k := if_neg (by omega)
      have e5 : tS (trueP v) [(f (k + 1), ((k + 1 : Nat) : Int))] = (if v k then f (k + 1) else 0) + 0 := by
        show (if trueP v ((k + 1 : Nat) : Int) then f (k + 1) else 0) + 0 = _
        rw [hp]
      rw [e4, e5]
      omega
    · by_cases c2 : f (k + 1) < 0
      · rw [rowAt_neg c2]
        have e4 : bAt (bndN f b k) (f (k + 1)) = bndN f b k - f (k + 1) := by
          unfold bAt
          rw [if_pos c2, w64 (by omega)]
        have e5 : tS (trueP v) [(IntKind.i64.wrap (-(f (k + 1))), -((k + 1 : Nat) : Int))] = (if v k then 0 else -(f (k + 1))) + 0 := by
          show (if trueP v (-((k + 1 : Nat) : Int)) then IntKind.i64.wrap (-(f (k + 1))) else 0) + 0 = _
          rw [hn, w64' (by omega)]
          cases v k <;> rfl
        rw [e4, e5]
        cases v k <;> simp <;> omega
      · rw [rowAt_zero c1 c2]
        have e4 : bAt (bndN f b k) (f (k + 1)) = bndN f b k := if_neg (by omega)
        have e5 : f (k + 1) = 0 := by omega
        have e6 : (if v k then f (k + 1) else 0) = 0 := by rw [e5]; split <;> rfl
        have e7 : tS (trueP v) ([] : List (Int × Int)) = 0 := rfl
        rw [e4, e6, e7]
        omega
theorem tS_nonneg {P : Int → Bool} {c l : Nat → Int} {bd : Int} {n : Nat} (h : validB n c l bd = true) : 0 ≤ tS P (lst c l 0 n) := by
  rw [← sB_tS]
  exact (sB_le (coef_of h)).1
theorem fit_eval {R : List (Int × Int)} {b : Int} (hl : R.length ≤ 1048576) (h : fitB R b = true) (v : Nat → Bool) : evalV (fitN R b) (rC R) (rL R) (fitD R b) 12 v = decide (b ≤ tS (trueP v) R) := by
  have hv : validB R.length (rC R) (rL R) (capB b) = true := h
  have e1 : fitN R b = R.length := by unfold fitN; rw [if_pos h]
  have e2 : fitD R b = capB b := by unfold fitD; rw [if_pos h]
  have h0 := tS_nonneg (P := trueP v) hv
  rw [lst_rows] at h0
  rw [e1, e2, evalV_sB hl hv, sB_rows, decide_eq_decide]
  unfold capB
  split <;> omega
end Go.Proofs.Ytipblbcedkhmbaa

namespace Go.Proofs.Ytipblbcedkhmbaa
open Go.ChangeShapes Go.WideShapes Go.ChangeAt Go.RowKit

/-- The sum's numbers, valid or not. -/
def sumR (N : Nat) (c l : Nat → Int) (N' : Nat) (c' l' : Nat → Int) : List (Int × Int) := addR (prs (lst c l 0 N) (lst c' l' 0 N'))
def sumC (N : Nat) (c l : Nat → Int) (bd : Int) (N' : Nat) (c' l' : Nat → Int) (bd' : Int) : Int := canW (wrap64 (bd + bd')) (prs (lst c l 0 N) (lst c' l' 0 N'))
def sumN (N : Nat) (c l : Nat → Int) (bd : Int) (N' : Nat) (c' l' : Nat → Int) (bd' : Int) : Nat := infN (adRB N c l bd N' c' l' bd') (sumR N c l N' c' l').length (rC (sumR N c l N' c' l')) (rL (sumR N c l N' c' l')) (capB (sumC N c l bd N' c' l' bd'))
def sumD (N : Nat) (c l : Nat → Int) (bd : Int) (N' : Nat) (c' l' : Nat → Int) (bd' : Int) : Int := infD (adRB N c l bd N' c' l' bd') (sumR N c l N' c' l').length (rC (sumR N c l N' c' l')) (rL (sumR N c l N' c' l')) (capB (sumC N c l bd N' c' l' bd'))
def sumB (N : Nat) (c l : Nat → Int) (bd : Int) (N' : Nat) (c' l' : Nat → Int) (bd' : Int) : Bool := infB (adRB N c l bd N' c' l' bd') (sumR N c l N' c' l').length (rC (sumR N c l N' c' l')) (rL (sumR N c l N' c' l')) (capB (sumC N c l bd N' c' l' bd'))

theorem specAdd_gen (A A' : Option Addr) (n n' cap cap' : Nat) (HC : Hid (A = none → cap = 0)) (HC' : Hid (A' = none → cap' = 0)) (bd bd' : Int) (c l c' l' : Nat → Int) (hn : n ≤ 1048576) (hn' : n' ≤ 1048576) (w : World) (hr : Rd w w.heap.size A n c l) (hr' : Rd w w.heap.size A' n' c' l') :
    Calls Try.prog 50 #[.agg #[.slice A n cap, .int .i64 bd], .agg #[.slice A' n' cap', .int .i64 bd']] w
      (CRes w (sumN n c l bd n' c' l' bd') (rC (sumR n c l n' c' l')) (rL (sumR n c l n' c' l')) (sumD n c l bd n' c' l' bd') (sumB n c l bd n' c' l' bd')) := by
  unfold sumN sumD sumB
  cases h : adRB n c l bd n' c' l' bd' with
  | true =>
    have hv : validB n c l bd = true ∧ validB n' c' l' bd' = true := by simpa [adRB] using h
    obtain ⟨e1, e2⟩ := sum_same hv.1 hv.2
    obtain ⟨f1, f2, f3⟩ := inf_fit (sumR n c l n' c' l') (sumC n c l bd n' c' l' bd')
    have k := specAdd_val A A' n n' cap cap' HC HC' bd bd' c l c' l' (valid_12 hv.1) (valid_12 hv.2) w hr hr' hv.1 hv.2 (wrap64 (bd + bd')) (Lib.hid (IntWalk.i64_left _))
    rw [f1, f2, f3]
    rw [← e1, ← e2] at k
    exact k
  | false =>
    have k := specAdd_not A A' n n' cap cap' bd bd' c l c' l' hn hn' w hr hr' h
    have g : infB false (sumR n c l n' c' l').length (rC (sumR n c l n' c' l')) (rL (sumR n c l n' c' l')) (capB (sumC n c l bd n' c' l' bd')) = false := rfl
    have g1 : infN false (sumR n c l n' c' l').length (rC (sumR n c l n' c' l')) (rL (sumR n c l n' c' l')) (capB (sumC n c l bd n' c' l' bd')) = 0 := by unfold infN; rw [g]; rfl
    have g2 : infD false (sumR n c l n' c' l').length (rC (sumR n c l n' c' l')) (rL (sumR n c l n' c' l')) (capB (sumC n c l bd n' c' l' bd')) = 0 := by unfold infD; rw [g]; rfl
    rw [g, g1, g2]
    exact k.mono fun e w' ⟨A, cap, he, _, hb⟩ => ⟨A, cap, he, .inl rfl, hb⟩
theorem implAdd_gen (A A' : Option Addr) (n n' cap cap' : Nat) (hcap : n ≤ cap) (hcap' : n' ≤ cap') (bd bd' : Int) (c l c' l' : Nat → Int) (hn : n ≤ 1048576) (hn' : n' ≤ 1048576) (w : World) (hr : Rd w w.heap.size A n c l) (hr' : Rd w w.heap.size A' n' c' l') :
    Calls Try.prog 36 #[.agg #[.slice A n cap, .int .i64 bd], .agg #[.slice A' n' cap', .int .i64 bd']] w
      (CRes w (sumN n c l bd n' c' l' bd') (rC (sumR n c l n' c' l')) (rL (sumR n c l n' c' l')) (sumD n c l bd n' c' l' bd') (sumB n c l bd n' c' l' bd')) :=
  implAdd_any A A' n n' cap cap' hcap hcap' bd bd' c l c' l' hn hn' w hr hr'
theorem sumR_len {n n' : Nat} (c l c' l' : Nat → Int) : (sumR n c l n' c' l').length ≤ n + n' := by
  have h1 := addR_len (prs (lst c l 0 n) (lst c' l' 0 n'))
  have h2 := mrg_len ((lst c l 0 n).length + (lst c' l' 0 n').length) (lst c l 0 n) (lst c' l' 0 n')
  unfold sumR prs at *
  rw [lst_len, lst_len] at h1 h2 ⊢
  omega
theorem sumN_le {n n' : Nat} (c l c' l' : Nat → Int) (bd bd' : Int) : sumN n c l bd n' c' l' bd' ≤ n + n' :=
  Nat.le_trans (infN_le _ _ _ _ _) (sumR_len c l c' l')

/-- The sum's rows and bound, off the terms. -/
theorem sum_val {N N' : Nat} {c l c' l' : Nat → Int} {bd bd' : Int} (hv : validB N c l bd = true) (hv' : validB N' c' l' bd' = true) :
    sumR N c l N' c' l' = rowsN (fun v => S (lst c l 0 N) v + S (lst c' l' 0 N') v) 12 ∧
    sumC N c l bd N' c' l' bd' = bndN (fun v => S (lst c l 0 N) v + S (lst c' l' 0 N') v) (bd + bd' - Ng (lst c l 0 N) - Ng (lst c' l' 0 N')) 12 := by
  have hN := valid_12 hv
  have hN' := valid_12 hv'
  have hall := allN_cat (valid_all hv) (valid_all hv')
  have b1 := valid_bd hv
  have b2 := valid_bd hv'
  have hw : wrap64 (bd + bd') = bd + bd' := w64 (by omega)
  have hnet : net (cat2 N c c') (cat2 N l l') (N + N') = fun v => S (lst c l 0 N) v + S (lst c' l' 0 N') v := by
    funext v
    rw [net_S hall (by omega) v (N + N') (Nat.le_refl _), lst_cat, S_append]
  have hnbd : nbd (cat2 N c c') (cat2 N l l') (bd + bd') (N + N') = bd + bd' - Ng (lst c l 0 N) - Ng (lst c' l' 0 N') := by
    rw [nbd_Ng hall (by omega) (by omega) (N + N') (Nat.le_refl _), lst_cat, Ng_append]
    omega
  obtain ⟨h1, h2⟩ := sum_same hv hv'
  rw [hw, hnet, hnbd] at h2
  rw [hnet] at h1
  unfold sumC
  rw [hw]
  exact ⟨h1, h2⟩
theorem sum_iff {N N' : Nat} {c l c' l' : Nat → Int} {bd bd' : Int} (h : sumB N c l bd N' c' l' bd' = true) : validB N c l bd = true ∧ validB N' c' l' bd' = true ∧ fitB (sumR N c l N' c' l') (sumC N c l bd N' c' l' bd') = true ∧ sumN N c l bd N' c' l' bd' = fitN (sumR N c l N' c' l') (sumC N c l bd N' c' l' bd') ∧ sumD N c l bd N' c' l' bd' = fitD (sumR N c l N' c' l') (sumC N c l bd N' c' l' bd') := by
  obtain ⟨h1, h2⟩ := infB_iff.1 h
  have hv : validB N c l bd = true ∧ validB N' c' l' bd' = true := by simpa [adRB] using h1
  obtain ⟨f1, f2, f3⟩ := inf_fit (sumR N c l N' c' l') (sumC N c l bd N' c' l' bd')
  unfold sumN sumD
  rw [h1]
  exact ⟨hv.1, hv.2, h2, f1, f2⟩
theorem sum_comm {N N' : Nat} {c l c' l' : Nat → Int} {bd bd' : Int} (h : sumB N c l bd N' c' l' bd' = true) : sumR N' c' l' N c l = sumR N c l N' c' l' ∧ sumN N' c' l' bd' N c l bd = sumN N c l bd N' c' l' bd' ∧ sumD N' c' l' bd' N c l bd = sumD N c l bd N' c' l' bd' ∧ sumB N' c' l' bd' N c l bd = true := by
  obtain ⟨hv, hv', _⟩ := sum_iff h
  obtain ⟨h1, h2⟩ := sum_val hv hv'
  obtain ⟨h3, h4⟩ := sum_val hv' hv
  have e : (fun v => S (lst c' l' 0 N') v + S (lst c l 0 N) v) = fun v => S (lst c l 0 N) v + S (lst c' l' 0 N') v := by funext v; omega
  have e1 : sumR N' c' l' N c l = sumR N c l N' c' l' := by rw [h1, h3, e]
  have e2 : sumC N' c' l' bd' N c l bd = sumC N c l bd N' c' l' bd' := by
    rw [h2, h4, e]
    congr 1
    omega
  have e3 : adRB N' c' l' bd' N c l bd = adRB N c l bd N' c' l' bd' := by unfold adRB; rw [hv, hv']
  have hB := h
  unfold sumN sumD
  unfold sumB at hB ⊢
  rw [e1, e2, e3]
  exact ⟨rfl, rfl, rfl, hB⟩
theorem valid_lits {n : Nat} {c l : Nat → Int} {bd : Int} (h : validB n c l bd = true) : ∀ z ∈ lst c l 0 n, litB z.2 = true := fun z hz => by
  obtain ⟨j, _, hj, rfl⟩ := lst_mem z hz
  exact litAt h (by omega)
/-- Addition is sound. -/
theorem sum_sound {N N' : Nat} {c l c' l' : Nat → Int} {bd bd' : Int} (h : sumB N c l bd N' c' l' bd' = true) (nv : Nat) (v : Nat → Bool) (h1 : evalV N c l bd nv v = true) (h2 : evalV N' c' l' bd' nv v = true) : evalV (sumN N c l bd N' c' l' bd') (rC (sumR N c l N' c' l')) (rL (sumR N c l N' c' l')) (sumD N c l bd N' c' l' bd') nv v = true := by
  obtain ⟨hv, hv', hf, e1, e2⟩ := sum_iff h
  by_cases e : nv = 12
  · subst e
    have hN := valid_12 hv
    have hN' := valid_12 hv'
    have b1 := valid_bd hv
    have b2 := valid_bd hv'
    rw [evalV_sB (by omega) hv, decide_eq_true_eq, sB_tS, tS_S v _ (valid_lits hv)] at h1
    rw [evalV_sB (by omega) hv', decide_eq_true_eq, sB_tS, tS_S v _ (valid_lits hv')] at h2
    rw [e1, e2, fit_eval (by have := sumR_len (n := N) (n' := N') c l c' l'; omega) hf, decide_eq_true_eq]
    obtain ⟨g1, g2⟩ := sum_val hv hv'
    have k1 := Ng_bnd (valid_all hv) N (Nat.le_refl _)
    have k2 := Ng_bnd (valid_all hv') N' (Nat.le_refl _)
    obtain ⟨r1, _, _⟩ := rows_val v (fun u => S (lst c l 0 N) u + S (lst c' l' 0 N') u) (fun u => by
      have s1 := S_bnd (valid_all hv) u N (Nat.le_refl _)
      have s2 := S_bnd (valid_all hv') u N' (Nat.le_refl _)
      constructor <;> omega) (bd + bd' - Ng (lst c l 0 N) - Ng (lst c' l' 0 N')) (by omega) 12 (Nat.le_refl _)
    rw [← g1, ← g2, TT_add] at r1
    omega
  · rw [evalV_len e] at h1
    cases h1
theorem sum_valid {N N' : Nat} {c l c' l' : Nat → Int} {bd bd' : Int} (h : sumB N c l bd N' c' l' bd' = true) : validB (sumN N c l bd N' c' l' bd') (rC (sumR N c l N' c' l')) (rL (sumR N c l N' c' l')) (sumD N c l bd N' c' l' bd') = true := by
  obtain ⟨_, h2⟩ := infB_iff.1 h
  obtain ⟨e1, e2⟩ := inf_of h
  unfold sumN sumD
  rw [e1, e2]
  exact h2
end Go.Proofs.Ytipblbcedkhmbaa

namespace Go.Proofs.Ytipblbcedkhmbaa
open Go.ChangeShapes Go.WideShapes Go.ChangeAt Go.RowKit

theorem addFacts (A A' : Option Addr) (n n' cap cap' : Nat) (bd bd' : Int) (c l c' l' : Nat → Int) (hn : n ≤ 13) (hn' : n' ≤ 13) (hc : CapOk A n cap) (hc' : CapOk A' n' cap') : ∃ (N : Nat) (C L : Nat → Int) (BD : Int) (OK : Bool), N ≤ 1048576 ∧
    (∀ W, Rd W W.heap.size A n c l → Rd W W.heap.size A' n' c' l' → Calls Try.prog 36 #[.agg #[.slice A n cap, .int .i64 bd], .agg #[.slice A' n' cap', .int .i64 bd']] W (CRes W N C L BD OK)) ∧
    (∀ W, Rd W W.heap.size A n c l → Rd W W.heap.size A' n' c' l' → Calls Try.prog 50 #[.agg #[.slice A n cap, .int .i64 bd], .agg #[.slice A' n' cap', .int .i64 bd']] W (CRes W N C L BD OK)) ∧
    (OK = true → validB N C L BD = true ∧
      (∀ W, Rd W W.heap.size A n c l → Rd W W.heap.size A' n' c' l' → Calls Try.prog 36 #[.agg #[.slice A' n' cap', .int .i64 bd'], .agg #[.slice A n cap, .int .i64 bd]] W (CRes W N C L BD true)) ∧
      ∀ nv v, evalV n c l bd nv v = true → evalV n' c' l' bd' nv v = true → evalV N C L BD nv v = true) := by
  refine ⟨sumN n c l bd n' c' l' bd', rC (sumR n c l n' c' l'), rL (sumR n c l n' c' l'), sumD n c l bd n' c' l' bd', sumB n c l bd n' c' l' bd', ?_, fun W h h' => implAdd_gen A A' n n' cap cap' hc.2 hc'.2 bd bd' c l c' l' (by omega) (by omega) W h h', fun W h h' => specAdd_gen A A' n n' cap cap' (Lib.hid hc.1) (Lib.hid hc'.1) bd bd' c l c' l' (by omega) (by omega) W h h', fun hok => ⟨sum_valid hok, fun W h h' => ?_, fun nv v h1 h2 => sum_sound hok nv v h1 h2⟩⟩
  · have := sumN_le (n := n) (n' := n') c l c' l' bd bd'
    omega
  · obtain ⟨e1, e2, e3, e4⟩ := sum_comm hok
    have k := implAdd_gen A' A n' n cap' cap hc'.2 hc.2 bd' bd c' l' c l (by omega) (by omega) W h' h
    rw [e1, e2, e3, e4] at k
    exact k
end Go.Proofs.Ytipblbcedkhmbaa

namespace Go.Proofs.Ytipblbcedkhmbaa
open Go.ChangeShapes Go.WideShapes Go.ChangeAt Go.RowKit Go.Shelf

set_option linter.unusedVariables false in
set_option maxRecDepth 100000 in
set_option maxHeartbeats 6400000 in
theorem lawFnAddConstraints_ok (A0 : Option Addr) (A1 : Option Addr) (n0 cap0 n1 cap1 : Nat) (y0 y1 : Nat → Int) (w : World) (h0 : n0 ≤ 1048576) (h1 : n1 ≤ 1048576) (hc0 : n0 ≤ cap0) (hr0 : RdY w w.heap.size A0 n0 y0) (hc1 : n1 ≤ cap1) (hr1 : RdY w w.heap.size A1 n1 y1) :
    Calls Try.prog 12 #[.slice A0 n0 cap0, .slice A1 n1 cap1] w fun e w' => e = .returned (.bool true) ∧ Below w.heap.size w w' := by
  have hm0 : n0 ≤ maxLen := by unfold maxLen; omega
  have hm1 : n1 ≤ maxLen := by unfold maxLen; omega
  have hi0 : ¬ (1048576 : Int) < (n0 : Int) := by omega
  have hi1 : ¬ (1048576 : Int) < (n1 : Int) := by omega
  go_enter Try.func12, Try.ntmps12
  go_wp2_with fail
  refine (drawAdd_any _ _ _ y0 _ hm0 hc0 hr0).mono ?_
  rintro e w1 ⟨Ac, k, capc, bd, c, l, Ab, kb, capb, bdb, cb, lb, rfl, hk, hkb, hrc, hrb, hcc, hcb, hb⟩
  have HB1 := Lib.hid hb
  have Hc_1 := Lib.hid hrc
  have Hb_1 := Lib.hid hrb
  have HCc := Lib.hid hcc
  have HCb := Lib.hid hcb
  have hkB : k ≤ 1048576 := by omega
  have hkbB : kb ≤ 1048576 := by omega
  clear hrc hrb hcc hcb
  clear hb
  go_wp2_with fail
  have HAl := Lib.hid (bl_alloc (bl_alloc (Below.refl w1.heap.size w1) (.cells #[.slice Ac k capc, .int .i64 bd] 27)) (.cells #[.slice Ab kb capb, .int .i64 bdb] 27))
  have a0 : ((w1.alloc (.cells #[.slice Ac k capc, .int .i64 bd] 27)).alloc (.cells #[.slice Ab kb capb, .int .i64 bdb] 27)).cell? ⟨w1.heap.size, 0, none⟩ = some (.slice Ac k capc) := by go_simp
  have a1 : ((w1.alloc (.cells #[.slice Ac k capc, .int .i64 bd] 27)).alloc (.cells #[.slice Ab kb capb, .int .i64 bdb] 27)).cell? ⟨w1.heap.size, 1, none⟩ = some (.int .i64 bd) := by go_simp
  have b0 : ((w1.alloc (.cells #[.slice Ac k capc, .int .i64 bd] 27)).alloc (.cells #[.slice Ab kb capb, .int .i64 bdb] 27)).cell? ⟨(w1.heap.size + 1), 0, none⟩ = some (.slice Ab kb capb) := by go_simp
  have b1 : ((w1.alloc (.cells #[.slice Ac k capc, .int .i64 bd] 27)).alloc (.cells #[.slice Ab kb capb, .int .i64 bdb] 27)).cell? ⟨(w1.heap.size + 1), 1, none⟩ = some (.int .i64 bdb) := by go_simp
  refine (drawEval_any _ _ _ y1 _ hm1 hc1 (hr1.later (bl_trans HB1.out HAl.out))).mono ?_
  rintro e w2 ⟨Ad, k2, capd, bd2, c2, l2, Av, kv, capv, v, rfl, hk2, hkv, hrd, hrv, hb1⟩
  have hb := bl_trans HAl.out hb1
  have HB2 := Lib.hid (bl_trans HB1.out hb)
  have Hc_2 := Lib.hid (Hc_1.out.later hb)
  have Hb_2 := Lib.hid (Hb_1.out.later hb)
  have Hv_2 := Lib.hid hrv
  replace a0 := kc hb1 a0
  replace a1 := kc hb1 a1
  replace b0 := kc hb1 b0
  replace b1 := kc hb1 b1
  have za : w1.heap.size < w2.heap.size := World.block_lt_of_cell? w2 ⟨w1.heap.size, 0, none⟩ a0
  have zb : (w1.heap.size + 1) < w2.heap.size := World.block_lt_of_cell? w2 ⟨(w1.heap.size + 1), 0, none⟩ b0
  clear hrd hrv
  clear hb hb1 HB1 Hc_1 Hb_1 HAl
  obtain ⟨N, C, L, BD, OK, hN, hI, hS, hK⟩ := addFacts Ac Ab k kb capc capb bd bdb c l cb lb hk hkb HCc.out HCb.out
  have HI := Lib.hid hI
  have HS := Lib.hid hS
  have HK := Lib.hid hK
  have HSame := Lib.hid (same_refl' N C L BD)
  clear hI hS hK
  clear HCc HCb
  go_wp2_with fail
  have HAl := Lib.hid (bl_alloc (Below.refl w2.heap.size w2) (.cells #[.slice Ad k2 capd, .int .i64 bd2] 27))
  have u0 : (w2.alloc (.cells #[.slice Ad k2 capd, .int .i64 bd2] 27)).cell? ⟨w2.heap.size, 0, none⟩ = some (.slice Ad k2 capd) := by go_simp
  have u1 : (w2.alloc (.cells #[.slice Ad k2 capd, .int .i64 bd2] 27)).cell? ⟨w2.heap.size, 1, none⟩ = some (.int .i64 bd2) := by go_simp
  replace a0 := kc HAl.out a0
  replace a1 := kc HAl.out a1
  replace b0 := kc HAl.out b0
  replace b1 := kc HAl.out b1
  refine (HI.out _ (Hc_2.out.later HAl.out) (Hb_2.out.later HAl.out)).mono ?_
  rintro e w3 ⟨Ax, capx, rfl, hfx, hb1⟩
  have hb := bl_trans HAl.out hb1
  have HB3 := Lib.hid (bl_trans HB2.out hb)
  have Hc_3 := Lib.hid (Hc_2.out.later hb)
  have Hb_3 := Lib.hid (Hb_2.out.later hb)
  have Hv_3 := Lib.hid (Hv_2.out.later hb)
  have Hx_3 := Lib.hid hfx.rdAt
  replace a0 := kc hb1 a0
  replace a1 := kc hb1 a1
  replace b0 := kc hb1 b0
  replace b1 := kc hb1 b1
  replace u0 := kc hb1 u0
  replace u1 := kc hb1 u1
  clear za zb
  have za : w1.heap.size < w3.heap.size := World.block_lt_of_cell? w3 ⟨w1.heap.size, 0, none⟩ a0
  have zb : (w1.heap.size + 1) < w3.heap.size := World.block_lt_of_cell? w3 ⟨(w1.heap.size + 1), 0, none⟩ b0
  have zu : w2.heap.size < w3.heap.size := World.block_lt_of_cell? w3 ⟨w2.heap.size, 0, none⟩ u0
  clear hfx
  clear hb hb1 HB2 Hc_2 Hb_2 Hv_2 HAl
  clear u0 u1 zu
  go_wp2_with fail
  have HAl := Lib.hid (bl_alloc (Below.refl w3.heap.size w3) (.cells #[.slice Ax N capx, .int .i64 BD] 27))
  have x0 : (w3.alloc (.cells #[.slice Ax N capx, .int .i64 BD] 27)).cell? ⟨w3.heap.size, 0, none⟩ = some (.slice Ax N capx) := by go_simp
  have x1 : (w3.alloc (.cells #[.slice Ax N capx, .int .i64 BD] 27)).cell? ⟨w3.heap.size, 1, none⟩ = some (.int .i64 BD) := by go_simp
  replace a0 := kc HAl.out a0
  replace a1 := kc HAl.out a1
  replace b0 := kc HAl.out b0
  replace b1 := kc HAl.out b1
  refine (HS.out _ (Hc_3.out.later HAl.out) (Hb_3.out.later HAl.out)).mono ?_
  rintro e w4 ⟨As, caps, rfl, hfs, hb1⟩
  have hb := bl_trans HAl.out hb1
  have HB4 := Lib.hid (bl_trans HB3.out hb)
  have Hc_4 := Lib.hid (Hc_3.out.later hb)
  have Hb_4 := Lib.hid (Hb_3.out.later hb)
  have Hv_4 := Lib.hid (Hv_3.out.later hb)
  have Hx_4 := Lib.hid (Hx_3.out.later hb)
  have Hs_4 := Lib.hid hfs.rdAt
  replace a0 := kc hb1 a0
  replace a1 := kc hb1 a1
  replace b0 := kc hb1 b0
  replace b1 := kc hb1 b1
  replace x0 := kc hb1 x0
  replace x1 := kc hb1 x1
  clear za zb
  have za : w1.heap.size < w4.heap.size := World.block_lt_of_cell? w4 ⟨w1.heap.size, 0, none⟩ a0
  have zb : (w1.heap.size + 1) < w4.heap.size := World.block_lt_of_cell? w4 ⟨(w1.heap.size + 1), 0, none⟩ b0
  have zx : w3.heap.size < w4.heap.size := World.block_lt_of_cell? w4 ⟨w3.heap.size, 0, none⟩ x0
  clear hfs HI HS
  clear hb hb1 HB3 Hc_3 Hb_3 Hv_3 Hx_3 HAl
  cases OK with
  | false =>
    clear HK
    clear Hb_4
    clear b0 b1 zb
    clear Hc_4 Hv_4
    clear a0 a1 za
    go_wp2_with fail
    have HAl := Lib.hid (bl_alloc (Below.refl w4.heap.size w4) (.cells #[.slice As N caps, .int .i64 BD] 27))
    have d0 : (w4.alloc (.cells #[.slice As N caps, .int .i64 BD] 27)).cell? ⟨w4.heap.size, 0, none⟩ = some (.slice As N caps) := by go_simp
    have d1 : (w4.alloc (.cells #[.slice As N caps, .int .i64 BD] 27)).cell? ⟨w4.heap.size, 1, none⟩ = some (.int .i64 BD) := by go_simp
    replace x0 := kc HAl.out x0
    replace x1 := kc HAl.out x1
    refine (implSame_any _ _ _ _ _ _ _ _ C L C L _ hN (Hx_4.out.later HAl.out) (Hs_4.out.later HAl.out)).mono ?_
    rintro e w5 ⟨rfl, hb1⟩
    have hb := bl_trans HAl.out hb1
    have HB5 := Lib.hid (bl_trans HB4.out hb)
    have Hx_5 := Lib.hid (Hx_4.out.later hb)
    have Hs_5 := Lib.hid (Hs_4.out.later hb)
    replace x0 := kc hb1 x0
    replace x1 := kc hb1 x1
    replace d0 := kc hb1 d0
    replace d1 := kc hb1 d1
    clear zx
    have zx : w3.heap.size < w5.heap.size := World.block_lt_of_cell? w5 ⟨w3.heap.size, 0, none⟩ x0
    have zd : w4.heap.size < w5.heap.size := World.block_lt_of_cell? w5 ⟨w4.heap.size, 0, none⟩ d0
    clear hb hb1 HB4 Hx_4 Hs_4 HAl
    rw [HSame.out]
    go_wp2_with fail
    refine (implSame_any _ _ _ _ _ _ _ _ C L C L _ hN Hx_5.out Hs_5.out).mono ?_
    rintro e w6 ⟨rfl, hb⟩
    have HB6 := Lib.hid (bl_trans HB5.out hb)
    replace x0 := kc hb x0
    replace x1 := kc hb x1
    replace d0 := kc hb d0
    replace d1 := kc hb d1
    clear zx zd
    have zx : w3.heap.size < w6.heap.size := World.block_lt_of_cell? w6 ⟨w3.heap.size, 0, none⟩ x0
    have zd : w4.heap.size < w6.heap.size := World.block_lt_of_cell? w6 ⟨w4.heap.size, 0, none⟩ d0
    clear hb HB5 Hx_5 Hs_5
    rw [HSame.out]
    go_wp2
    go_ret
    exact ⟨rfl, HB6.out⟩
  | true =>
    obtain ⟨hV, hI2, hE⟩ := HK.out rfl
    have HV := Lib.hid hV
    have HI2 := Lib.hid hI2
    have HE := Lib.hid (hE kv v)
    clear hV hI2 hE HK
    go_wp2_with fail
    have HAl := Lib.hid (bl_alloc (Below.refl w4.heap.size w4) (.cells #[.slice As N caps, .int .i64 BD] 27))
    have d0 : (w4.alloc (.cells #[.slice As N caps, .int .i64 BD] 27)).cell? ⟨w4.heap.size, 0, none⟩ = some (.slice As N caps) := by go_simp
    have d1 : (w4.alloc (.cells #[.slice As N caps, .int .i64 BD] 27)).cell? ⟨w4.heap.size, 1, none⟩ = some (.int .i64 BD) := by go_simp
    replace a0 := kc HAl.out a0
    replace a1 := kc HAl.out a1
    replace b0 := kc HAl.out b0
    replace b1 := kc HAl.out b1
    replace x0 := kc HAl.out x0
    replace x1 := kc HAl.out x1
    refine (implSame_any _ _ _ _ _ _ _ _ C L C L _ hN (Hx_4.out.later HAl.out) (Hs_4.out.later HAl.out)).mono ?_
    rintro e w5 ⟨rfl, hb1⟩
    have hb := bl_trans HAl.out hb1
    have HB5 := Lib.hid (bl_trans HB4.out hb)
    have Hc_5 := Lib.hid (Hc_4.out.later hb)
    have Hb_5 := Lib.hid (Hb_4.out.later hb)
    have Hv_5 := Lib.hid (Hv_4.out.later hb)
    have Hx_5 := Lib.hid (Hx_4.out.later hb)
    replace a0 := kc hb1 a0
    replace a1 := kc hb1 a1
    replace b0 := kc hb1 b0
    replace b1 := kc hb1 b1
    replace x0 := kc hb1 x0
    replace x1 := kc hb1 x1
    replace d0 := kc hb1 d0
    replace d1 := kc hb1 d1
    clear za zb zx
    have za : w1.heap.size < w5.heap.size := World.block_lt_of_cell? w5 ⟨w1.heap.size, 0, none⟩ a0
    have zb : (w1.heap.size + 1) < w5.heap.size := World.block_lt_of_cell? w5 ⟨(w1.heap.size + 1), 0, none⟩ b0
    have zx : w3.heap.size < w5.heap.size := World.block_lt_of_cell? w5 ⟨w3.heap.size, 0, none⟩ x0
    have zd : w4.heap.size < w5.heap.size := World.block_lt_of_cell? w5 ⟨w4.heap.size, 0, none⟩ d0
    clear hb hb1 HB4 Hs_4 Hc_4 Hb_4 Hv_4 Hx_4 HAl
    rw [HSame.out]
    clear d0 d1 zd
    go_wp2_with fail
    refine (HI2.out _ Hc_5.out Hb_5.out).mono ?_
    rintro e w6 ⟨Ay, capy, rfl, hfy, hb⟩
    have HB6 := Lib.hid (bl_trans HB5.out hb)
    have Hc_6 := Lib.hid (Hc_5.out.later hb)
    have Hb_6 := Lib.hid (Hb_5.out.later hb)
    have Hv_6 := Lib.hid (Hv_5.out.later hb)
    have Hx_6 := Lib.hid (Hx_5.out.later hb)
    have Hy_6 := Lib.hid hfy.rdAt
    replace a0 := kc hb a0
    replace a1 := kc hb a1
    replace b0 := kc hb b0
    replace b1 := kc hb b1
    replace x0 := kc hb x0
    replace x1 := kc hb x1
    clear za zb zx
    have za : w1.heap.size < w6.heap.size := World.block_lt_of_cell? w6 ⟨w1.heap.size, 0, none⟩ a0
    have zb : (w1.heap.size + 1) < w6.heap.size := World.block_lt_of_cell? w6 ⟨(w1.heap.size + 1), 0, none⟩ b0
    have zx : w3.heap.size < w6.heap.size := World.block_lt_of_cell? w6 ⟨w3.heap.size, 0, none⟩ x0
    clear hfy HI2
    clear hb HB5 Hc_5 Hb_5 Hv_5 Hx_5
    go_wp2_with fail
    have HAl := Lib.hid (bl_alloc (Below.refl w6.heap.size w6) (.cells #[.slice Ay N capy, .int .i64 BD] 27))
    have g0 : (w6.alloc (.cells #[.slice Ay N capy, .int .i64 BD] 27)).cell? ⟨w6.heap.size, 0, none⟩ = some (.slice Ay N capy) := by go_simp
    have g1 : (w6.alloc (.cells #[.slice Ay N capy, .int .i64 BD] 27)).cell? ⟨w6.heap.size, 1, none⟩ = some (.int .i64 BD) := by go_simp
    replace a0 := kc HAl.out a0
    replace a1 := kc HAl.out a1
    replace b0 := kc HAl.out b0
    replace b1 := kc HAl.out b1
    replace x0 := kc HAl.out x0
    replace x1 := kc HAl.out x1
    refine (implEval_any _ _ _ _ _ _ _ c l v _ hkB (Hc_6.out.later HAl.out) (Hv_6.out.later HAl.out)).mono ?_
    rintro e w7 ⟨rfl, hb1⟩
    have hb := bl_trans HAl.out hb1
    have HB7 := Lib.hid (bl_trans HB6.out hb)
    have Hc_7 := Lib.hid (Hc_6.out.later hb)
    have Hb_7 := Lib.hid (Hb_6.out.later hb)
    have Hv_7 := Lib.hid (Hv_6.out.later hb)
    have Hx_7 := Lib.hid (Hx_6.out.later hb)
    have Hy_7 := Lib.hid (Hy_6.out.later hb)
    replace a0 := kc hb1 a0
    replace a1 := kc hb1 a1
    replace b0 := kc hb1 b0
    replace b1 := kc hb1 b1
    replace x0 := kc hb1 x0
    replace x1 := kc hb1 x1
    replace g0 := kc hb1 g0
    replace g1 := kc hb1 g1
    clear za zb zx
    have za : w1.heap.size < w7.heap.size := World.block_lt_of_cell? w7 ⟨w1.heap.size, 0, none⟩ a0
    have zb : (w1.heap.size + 1) < w7.heap.size := World.block_lt_of_cell? w7 ⟨(w1.heap.size + 1), 0, none⟩ b0
    have zx : w3.heap.size < w7.heap.size := World.block_lt_of_cell? w7 ⟨w3.heap.size, 0, none⟩ x0
    have zg : w6.heap.size < w7.heap.size := World.block_lt_of_cell? w7 ⟨w6.heap.size, 0, none⟩ g0
    clear hb hb1 HB6 Hc_6 Hb_6 Hv_6 Hx_6 Hy_6 HAl
    cases hea : evalV k c l bd kv v with
    | false =>
      clear hea
      go_wp2_with fail
      refine (implSame_any _ _ _ _ _ _ _ _ C L C L _ hN Hx_7.out Hy_7.out).mono ?_
      rintro e w8 ⟨rfl, hb⟩
      have HB8 := Lib.hid (bl_trans HB7.out hb)
      have Hx_8 := Lib.hid (Hx_7.out.later hb)
      replace a0 := kc hb a0
      replace a1 := kc hb a1
      replace b0 := kc hb b0
      replace b1 := kc hb b1
      replace x0 := kc hb x0
      replace x1 := kc hb x1
      replace g0 := kc hb g0
      replace g1 := kc hb g1
      clear za zb zx zg
      have za : w1.heap.size < w8.heap.size := World.block_lt_of_cell? w8 ⟨w1.heap.size, 0, none⟩ a0
      have zb : (w1.heap.size + 1) < w8.heap.size := World.block_lt_of_cell? w8 ⟨(w1.heap.size + 1), 0, none⟩ b0
      have zx : w3.heap.size < w8.heap.size := World.block_lt_of_cell? w8 ⟨w3.heap.size, 0, none⟩ x0
      have zg : w6.heap.size < w8.heap.size := World.block_lt_of_cell? w8 ⟨w6.heap.size, 0, none⟩ g0
      clear hb HB7 Hc_7 Hb_7 Hv_7 Hy_7 Hx_7
      rw [HSame.out]
      go_wp2_with fail
      refine (implValid_any _ _ _ _ C L _ hN Hx_8.out).mono ?_
      rintro e w9 ⟨rfl, hb⟩
      have HB9 := Lib.hid (bl_trans HB8.out hb)
      have Hx_9 := Lib.hid (Hx_8.out.later hb)
      replace a0 := kc hb a0
      replace a1 := kc hb a1
      replace b0 := kc hb b0
      replace b1 := kc hb b1
      replace x0 := kc hb x0
      replace x1 := kc hb x1
      replace g0 := kc hb g0
      replace g1 := kc hb g1
      clear za zb zx zg
      have za : w1.heap.size < w9.heap.size := World.block_lt_of_cell? w9 ⟨w1.heap.size, 0, none⟩ a0
      have zb : (w1.heap.size + 1) < w9.heap.size := World.block_lt_of_cell? w9 ⟨(w1.heap.size + 1), 0, none⟩ b0
      have zx : w3.heap.size < w9.heap.size := World.block_lt_of_cell? w9 ⟨w3.heap.size, 0, none⟩ x0
      have zg : w6.heap.size < w9.heap.size := World.block_lt_of_cell? w9 ⟨w6.heap.size, 0, none⟩ g0
      clear hb HB8 Hx_8
      rw [HV.out]
      go_wp2
      go_ret
      exact ⟨rfl, HB9.out⟩
    | true =>
      have Hea := Lib.hid hea
      clear hea
      go_wp2_with fail
      refine (implEval_any _ _ _ _ _ _ _ cb lb v _ hkbB Hb_7.out Hv_7.out).mono ?_
      rintro e w8 ⟨rfl, hb⟩
      have HB8 := Lib.hid (bl_trans HB7.out hb)
      have Hc_8 := Lib.hid (Hc_7.out.later hb)
      have Hb_8 := Lib.hid (Hb_7.out.later hb)
      have Hv_8 := Lib.hid (Hv_7.out.later hb)
      have Hx_8 := Lib.hid (Hx_7.out.later hb)
      have Hy_8 := Lib.hid (Hy_7.out.later hb)
      replace a0 := kc hb a0
      replace a1 := kc hb a1
      replace b0 := kc hb b0
      replace b1 := kc hb b1
      replace x0 := kc hb x0
      replace x1 := kc hb x1
      replace g0 := kc hb g0
      replace g1 := kc hb g1
      clear za zb zx zg
      have za : w1.heap.size < w8.heap.size := World.block_lt_of_cell? w8 ⟨w1.heap.size, 0, none⟩ a0
      have zb : (w1.heap.size + 1) < w8.heap.size := World.block_lt_of_cell? w8 ⟨(w1.heap.size + 1), 0, none⟩ b0
      have zx : w3.heap.size < w8.heap.size := World.block_lt_of_cell? w8 ⟨w3.heap.size, 0, none⟩ x0
      have zg : w6.heap.size < w8.heap.size := World.block_lt_of_cell? w8 ⟨w6.heap.size, 0, none⟩ g0
      clear hb HB7 Hc_7 Hb_7 Hv_7 Hx_7 Hy_7
      cases heb : evalV kb cb lb bdb kv v with
      | false =>
        clear heb
        go_wp2_with fail
        refine (implSame_any _ _ _ _ _ _ _ _ C L C L _ hN Hx_8.out Hy_8.out).mono ?_
        rintro e w9 ⟨rfl, hb⟩
        have HB9 := Lib.hid (bl_trans HB8.out hb)
        have Hx_9 := Lib.hid (Hx_8.out.later hb)
        replace a0 := kc hb a0
        replace a1 := kc hb a1
        replace b0 := kc hb b0
        replace b1 := kc hb b1
        replace x0 := kc hb x0
        replace x1 := kc hb x1
        replace g0 := kc hb g0
        replace g1 := kc hb g1
        clear za zb zx zg
        have za : w1.heap.size < w9.heap.size := World.block_lt_of_cell? w9 ⟨w1.heap.size, 0, none⟩ a0
        have zb : (w1.heap.size + 1) < w9.heap.size := World.block_lt_of_cell? w9 ⟨(w1.heap.size + 1), 0, none⟩ b0
        have zx : w3.heap.size < w9.heap.size := World.block_lt_of_cell? w9 ⟨w3.heap.size, 0, none⟩ x0
        have zg : w6.heap.size < w9.heap.size := World.block_lt_of_cell? w9 ⟨w6.heap.size, 0, none⟩ g0
        clear hb HB8 Hc_8 Hb_8 Hv_8 Hy_8 Hx_8
        rw [HSame.out]
        go_wp2_with fail
        refine (implValid_any _ _ _ _ C L _ hN Hx_9.out).mono ?_
        rintro e w10 ⟨rfl, hb⟩
        have HB10 := Lib.hid (bl_trans HB9.out hb)
        have Hx_10 := Lib.hid (Hx_9.out.later hb)
        replace a0 := kc hb a0
        replace a1 := kc hb a1
        replace b0 := kc hb b0
        replace b1 := kc hb b1
        replace x0 := kc hb x0
        replace x1 := kc hb x1
        replace g0 := kc hb g0
        replace g1 := kc hb g1
        clear za zb zx zg
        have za : w1.heap.size < w10.heap.size := World.block_lt_of_cell? w10 ⟨w1.heap.size, 0, none⟩ a0
        have zb : (w1.heap.size + 1) < w10.heap.size := World.block_lt_of_cell? w10 ⟨(w1.heap.size + 1), 0, none⟩ b0
        have zx : w3.heap.size < w10.heap.size := World.block_lt_of_cell? w10 ⟨w3.heap.size, 0, none⟩ x0
        have zg : w6.heap.size < w10.heap.size := World.block_lt_of_cell? w10 ⟨w6.heap.size, 0, none⟩ g0
        clear hb HB9 Hx_9
        rw [HV.out]
        go_wp2
        go_ret
        exact ⟨rfl, HB10.out⟩
      | true =>
        have HX := Lib.hid (HE.out Hea.out heb)
        clear heb
        go_wp2_with fail
        refine (implEval_any _ _ _ _ _ _ _ C L v _ hN Hx_8.out Hv_8.out).mono ?_
        rintro e w9 ⟨rfl, hb⟩
        have HB9 := Lib.hid (bl_trans HB8.out hb)
        have Hc_9 := Lib.hid (Hc_8.out.later hb)
        have Hb_9 := Lib.hid (Hb_8.out.later hb)
        have Hv_9 := Lib.hid (Hv_8.out.later hb)
        have Hx_9 := Lib.hid (Hx_8.out.later hb)
        have Hy_9 := Lib.hid (Hy_8.out.later hb)
        replace a0 := kc hb a0
        replace a1 := kc hb a1
        replace b0 := kc hb b0
        replace b1 := kc hb b1
        replace x0 := kc hb x0
        replace x1 := kc hb x1
        replace g0 := kc hb g0
        replace g1 := kc hb g1
        clear za zb zx zg
        have za : w1.heap.size < w9.heap.size := World.block_lt_of_cell? w9 ⟨w1.heap.size, 0, none⟩ a0
        have zb : (w1.heap.size + 1) < w9.heap.size := World.block_lt_of_cell? w9 ⟨(w1.heap.size + 1), 0, none⟩ b0
        have zx : w3.heap.size < w9.heap.size := World.block_lt_of_cell? w9 ⟨w3.heap.size, 0, none⟩ x0
        have zg : w6.heap.size < w9.heap.size := World.block_lt_of_cell? w9 ⟨w6.heap.size, 0, none⟩ g0
        clear hb HB8 Hc_8 Hb_8 Hv_8 Hx_8 Hy_8
        rw [HX.out]
        go_wp2_with fail
        refine (implSame_any _ _ _ _ _ _ _ _ C L C L _ hN Hx_9.out Hy_9.out).mono ?_
        rintro e w10 ⟨rfl, hb⟩
        have HB10 := Lib.hid (bl_trans HB9.out hb)
        have Hx_10 := Lib.hid (Hx_9.out.later hb)
        replace a0 := kc hb a0
        replace a1 := kc hb a1
        replace b0 := kc hb b0
        replace b1 := kc hb b1
        replace x0 := kc hb x0
        replace x1 := kc hb x1
        replace g0 := kc hb g0
        replace g1 := kc hb g1
        clear za zb zx zg
        have za : w1.heap.size < w10.heap.size := World.block_lt_of_cell? w10 ⟨w1.heap.size, 0, none⟩ a0
        have zb : (w1.heap.size + 1) < w10.heap.size := World.block_lt_of_cell? w10 ⟨(w1.heap.size + 1), 0, none⟩ b0
        have zx : w3.heap.size < w10.heap.size := World.block_lt_of_cell? w10 ⟨w3.heap.size, 0, none⟩ x0
        have zg : w6.heap.size < w10.heap.size := World.block_lt_of_cell? w10 ⟨w6.heap.size, 0, none⟩ g0
        clear hb HB9 Hc_9 Hb_9 Hv_9 Hy_9 Hx_9
        rw [HSame.out]
        go_wp2_with fail
        refine (implValid_any _ _ _ _ C L _ hN Hx_10.out).mono ?_
        rintro e w11 ⟨rfl, hb⟩
        have HB11 := Lib.hid (bl_trans HB10.out hb)
        have Hx_11 := Lib.hid (Hx_10.out.later hb)
        replace a0 := kc hb a0
        replace a1 := kc hb a1
        replace b0 := kc hb b0
        replace b1 := kc hb b1
        replace x0 := kc hb x0
        replace x1 := kc hb x1
        replace g0 := kc hb g0
        replace g1 := kc hb g1
        clear za zb zx zg
        have za : w1.heap.size < w11.heap.size := World.block_lt_of_cell? w11 ⟨w1.heap.size, 0, none⟩ a0
        have zb : (w1.heap.size + 1) < w11.heap.size := World.block_lt_of_cell? w11 ⟨(w1.heap.size + 1), 0, none⟩ b0
        have zx : w3.heap.size < w11.heap.size := World.block_lt_of_cell? w11 ⟨w3.heap.size, 0, none⟩ x0
        have zg : w6.heap.size < w11.heap.size := World.block_lt_of_cell? w11 ⟨w6.heap.size, 0, none⟩ g0
        clear hb HB10 Hx_10
        rw [HV.out]
        go_wp2
        go_ret
        exact ⟨rfl, HB11.out⟩

set_option linter.unusedVariables false in
set_option maxRecDepth 100000 in
set_option maxHeartbeats 1600000 in
theorem lawFnAddConstraints_walk (A0 : Option Addr) (n0 cap0 : Nat) (y0 : Nat → Int) (A1 : Option Addr) (n1 cap1 : Nat) (y1 : Nat → Int) (w : World) (hm0 : n0 ≤ maxLen) (hc0 : n0 ≤ cap0) (hr0 : RdY w w.heap.size A0 n0 y0) (hm1 : n1 ≤ maxLen) (hc1 : n1 ≤ cap1) (hr1 : RdY w w.heap.size A1 n1 y1) :
    Calls Try.prog 12 #[.slice A0 n0 cap0, .slice A1 n1 cap1] w fun e w' => e = .returned (.bool true) ∧ Below w.heap.size w w' := by
  by_cases h0 : n0 ≤ 1048576
  · by_cases h1 : n1 ≤ 1048576
    · exact lawFnAddConstraints_ok A0 A1 n0 cap0 n1 cap1 y0 y1 w h0 h1 hc0 hr0 hc1 hr1
    · unfold maxLen at hm1
      have hi0 : ¬ (1048576 : Int) < (n0 : Int) := by omega
      have hi1 : (1048576 : Int) < (n1 : Int) := by omega
      go_enter Try.func12, Try.ntmps12
      go_wp2
      go_ret
      exact ⟨rfl, Below.refl _ _⟩
  · unfold maxLen at hm0
    have hi0 : (1048576 : Int) < (n0 : Int) := by omega
    go_enter Try.func12, Try.ntmps12
    go_wp2
    go_ret
    exact ⟨rfl, Below.refl _ _⟩
end Go.Proofs.Ytipblbcedkhmbaa

