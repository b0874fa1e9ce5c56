/- The sum of two constraints, off the pairs and off the variables (no claim of its own). Conditions: as each theorem states. -/
import Derived.Test.YtfcmhnbofoohmaaAddC
namespace Go.Proofs.Ytfcmhnbofoohmaa
open Go.ChangeShapes Go.WideShapes Go.ChangeAt Go.RowKit

/-- The rows of k variables from u on; the bound behind them. -/
def rowsF (f : Nat → Int) : Nat → Nat → List (Int × Int)
  | _, 0 => []
  | u, k + 1 => rowAt (f u) u ++ rowsF f (u + 1) k
def bndF (f : Nat → Int) : Int → Nat → Nat → Int
  | b, _, 0 => b
  | b, u, k + 1 => bndF f (bAt b (f u)) (u + 1) k
theorem rowsF_snoc (f : Nat → Int) : ∀ (k u : Nat), rowsF f u (k + 1) = rowsF f u k ++ rowAt (f (u + k)) (u + k) := by
  intro k
  induction k with
  | zero => intro u; simp [rowsF]
  | succ k ih =>
    intro u
    show rowAt (f u) u ++ rowsF f (u + 1) (k + 1) = (rowAt (f u) u ++ rowsF f (u + 1) k) ++ _
    rw [ih (u + 1), List.append_assoc, show u + 1 + k = u + (k + 1) by omega]
theorem bndF_snoc (f : Nat → Int) : ∀ (k u : Nat) (b : Int), bndF f b u (k + 1) = bAt (bndF f b u k) (f (u + k)) := by
  intro k
  induction k with
  | zero => intro u b; rfl
  | succ k ih =>
    intro u b
    show bndF f (bAt b (f u)) (u + 1) (k + 1) = bAt (bndF f (bAt b (f u)) (u + 1) k) _
    rw [ih (u + 1), show u + 1 + k = u + (k + 1) by omega]
theorem rowsN_F (f : Nat → Int) (v : Nat) : rowsN f v = rowsF f 1 v := by
  induction v with
  | zero => rfl
  | succ v ih =>
    rw [rowsF_snoc, ← ih, show 1 + v = v + 1 by omega]
    rfl
theorem bndN_F (f : Nat → Int) (b : Int) (v : Nat) : bndN f b v = bndF f b 1 v := by
  induction v with
  | zero => rfl
  | succ v ih =>
    rw [bndF_snoc, ← ih, show 1 + v = v + 1 by omega]
    rfl
theorem rowsF_congr {f g : Nat → Int} : ∀ (k u : Nat), (∀ v, u ≤ v → f v = g v) → rowsF f u k = rowsF g u k := by
  intro k
  induction k with
  | zero => intro u _; rfl
  | succ k ih =>
    intro u h
    unfold rowsF
    rw [h u (Nat.le_refl _), ih (u + 1) fun v hv => h v (by omega)]
theorem bndF_congr {f g : Nat → Int} : ∀ (k u : Nat) (b : Int), (∀ v, u ≤ v → f v = g v) → bndF f b u k = bndF g b u k := by
  intro k
  induction k with
  | zero => intro u _ _; rfl
  | succ k ih =>
    intro u b h
    unfold bndF
    rw [h u (Nat.le_refl _), ih (u + 1) _ fun v hv => h v (by omega)]

/-- What a term adds to the coefficient of a variable; the coefficients of negative literals. -/
def sg (z : Int × Int) (v : Nat) : Int := if z.2 = (v : Int) then z.1 else if z.2 = -(v : Int) then -z.1 else 0
def S : List (Int × Int) → Nat → Int
  | [], _ => 0
  | z :: zs, v => sg z v + S zs v
def ng (z : Int × Int) : Int := if 0 < z.2 then 0 else z.1
def Ng : List (Int × Int) → Int
  | [] => 0
  | z :: zs => ng z + Ng zs
theorem S_append (xs ys : List (Int × Int)) (v : Nat) : S (xs ++ ys) v = S xs v + S ys v := by
  induction xs with
  | nil => show S ys v = 0 + S ys v; omega
  | cons x xs ih => show sg x v + S (xs ++ ys) v = sg x v + S xs v + S ys v; rw [ih]; omega
theorem Ng_append (xs ys : List (Int × Int)) : Ng (xs ++ ys) = Ng xs + Ng ys := by
  induction xs with
  | nil => show Ng ys = 0 + Ng ys; omega
  | cons x xs ih => show ng x + Ng (xs ++ ys) = ng x + Ng xs + Ng ys; rw [ih]; omega
theorem S_none {zs : List (Int × Int)} {v : Nat} (h : ∀ z ∈ zs, (v : Int) < ab z.2) : S zs v = 0 := by
  induction zs with
  | nil => rfl
  | cons z zs ih =>
    show sg z v + S zs v = 0
    rw [ih fun x hx => h x (List.mem_cons_of_mem _ hx)]
    have h1 := h z (List.mem_cons_self ..)
    unfold ab at h1
    unfold sg
    rw [if_neg (by split at h1 <;> omega), if_neg (by split at h1 <;> omega)]
    rfl
theorem Ng_nonneg {zs : List (Int × Int)} (h : srt zs) : 0 ≤ Ng zs := by
  induction zs with
  | nil => exact Int.le_refl _
  | cons z zs ih =>
    have h1 := ih h.2.2
    have h2 := h.1.2.1
    show 0 ≤ ng z + Ng zs
    unfold ng
    split <;> omega

theorem w64 {x : Int} (h : -9000000000 ≤ x ∧ x ≤ 9000000000) : wrap64 x = x := by rw [← IntWalk.i64_left]; exact IntWalk.i64_in _ (by omega)
theorem w64' {x : Int} (h : -9000000000 ≤ x ∧ x ≤ 9000000000) : IntKind.i64.wrap x = x := IntWalk.i64_in _ (by omega)

/-- One variable: the pair of its terms, off the sum of what they add. -/
theorem add_one {x y : Int × Int} {u : Nat} (hu : 1 ≤ u) (hx : x = (0, 0) ∨ (ab x.2 = (u : Int) ∧ 1 ≤ x.1 ∧ x.1 ≤ 1000)) (hy : y = (0, 0) ∨ (ab y.2 = (u : Int) ∧ 1 ≤ y.1 ∧ y.1 ≤ 1000)) (hne : ¬ (x = (0, 0) ∧ y = (0, 0))) :
    addP (x, y) = rowAt (sg x u + sg y u) u ∧ 0 ≤ (addT x y).2 ∧ (addT x y).2 ≤ 1000 ∧ (∀ b : Int, -9000000 ≤ b → b ≤ 9000000 → bAt (b - ng x - ng y) (sg x u + sg y u) = b - (addT x y).2) := by
  obtain ⟨xc, xl⟩ := x
  obtain ⟨yc, yl⟩ := y
  have key : ∀ (zc zl : Int), ((zc, zl) = ((0 : Int), (0 : Int)) ∨ (ab (zc, zl).2 = (u : Int) ∧ 1 ≤ (zc, zl).1 ∧ (zc, zl).1 ≤ 1000)) →
      (zc = 0 ∧ zl = 0) ∨ (1 ≤ zc ∧ zc ≤ 1000 ∧ (zl = (u : Int) ∨ zl = -(u : Int))) := by
    intro zc zl h
    rcases h with h | ⟨h1, h2, h3⟩
    · exact .inl (by simpa using h)
    · refine .inr ⟨h2, h3, ?_⟩
      dsimp only at h1
      unfold ab at h1
      split at h1 <;> omega
  have kx := key _ _ hx
  have ky := key _ _ hy
  have hn : ¬ ((xc = 0 ∧ xl = 0) ∧ (yc = 0 ∧ yl = 0)) := by
    rintro ⟨⟨rfl, rfl⟩, rfl, rfl⟩
    exact hne ⟨rfl, rfl⟩
  clear key hx hy hne
  have hsx : sg (xc, xl) u = if xl = (u : Int) then xc else if xl = -(u : Int) then -xc else 0 := rfl
  have hsy : sg (yc, yl) u = if yl = (u : Int) then yc else if yl = -(u : Int) then -yc else 0 := rfl
  have hgx : ng (xc, xl) = if 0 < xl then 0 else xc := rfl
  have hgy : ng (yc, yl) = if 0 < yl then 0 else yc := rfl
  have hT : addT (xc, xl) (yc, yl) = if xc < yc then (if yl = -xl then ((yc - xc, yl), xc) else ((yc + xc, yl), 0)) else (if xl = -yl then ((xc - yc, xl), yc) else ((xc + yc, xl), 0)) := rfl
  have fin : ∀ (co li ca s : Int), addT (xc, xl) (yc, yl) = ((co, li), ca) → sg (xc, xl) u + sg (yc, yl) u = s → (0 < co ∧ ((s = co ∧ li = (u : Int)) ∨ (s = -co ∧ li = -(u : Int))) ∨ (co = 0 ∧ s = 0)) → co ≤ 2000 → 0 ≤ ca → ca ≤ 1000 →
      (ca = ng (xc, xl) + ng (yc, yl) + (if s < 0 then s else 0)) →
      addP ((xc, xl), (yc, yl)) = rowAt (sg (xc, xl) u + sg (yc, yl) u) u ∧ 0 ≤ (addT (xc, xl) (yc, yl)).2 ∧ (addT (xc, xl) (yc, yl)).2 ≤ 1000 ∧ (∀ b : Int, -9000000 ≤ b → b ≤ 9000000 → bAt (b - ng (xc, xl) - ng (yc, yl)) (sg (xc, xl) u + sg (yc, yl) u) = b - (addT (xc, xl) (yc, yl)).2) := by
    intro co li ca s e1 e2 e3 e4 e5 e6 e7
    rw [e2, e1]
    refine ⟨?_, e5, e6, ?_⟩
    · unfold addP
      dsimp only
      rw [e1]
      dsimp only
      rcases e3 with ⟨h1, ⟨rfl, rfl⟩ | ⟨rfl, rfl⟩⟩ | ⟨rfl, rfl⟩
      · rw [if_pos h1, rowAt_pos h1]
      · rw [if_pos h1, rowAt_neg (by omega), Int.neg_neg, w64' (by omega)]
      · rw [if_neg (by omega), rowAt_zero (by omega) (by omega)]
    · intro b h1 h2
      unfold bAt
      dsimp only
      split
      · next h =>
        rw [if_pos h] at e7
        rw [w64 (by omega)]
        omega
      · next h =>
        rw [if_neg h] at e7
        omega
  rcases kx with ⟨rfl, rfl⟩ | ⟨x1, x2, rfl | rfl⟩
  · rcases ky with ⟨rfl, rfl⟩ | ⟨y1, y2, rfl | rfl⟩
    · exact absurd ⟨⟨rfl, rfl⟩, rfl, rfl⟩ hn
    · refine fin yc u 0 yc (by rw [hT, if_pos (by omega), if_neg (by omega)]; simp) (by rw [hsx, hsy, if_neg (by omega), if_neg (by omega), if_pos rfl]; omega) (.inl ⟨by omega, .inl ⟨rfl, rfl⟩⟩) (by omega) (by omega) (by omega) (by rw [hgx, hgy, if_neg (by omega), if_pos (by omega), if_neg (by omega)]; omega)
    · refine fin yc (-(u : Int)) 0 (-yc) (by rw [hT, if_pos (by omega), if_neg (by omega)]; simp) (by rw [hsx, hsy, if_neg (by omega), if_neg (by omega), if_neg (by omega), if_pos rfl]; omega) (.inl ⟨by omega, .inr ⟨rfl, rfl⟩⟩) (by omega) (by omega) (by omega) (by rw [hgx, hgy, if_neg (by omega), if_neg (by omega), if_pos (by omega)]; omega)
  · rcases ky with ⟨rfl, rfl⟩ | ⟨y1, y2, rfl | rfl⟩
    · refine fin xc u 0 xc (by rw [hT, if_neg (by omega), if_neg (by omega)]; simp) (by rw [hsx, hsy, if_pos rfl, if_neg (by omega), if_neg (by omega)]; omega) (.inl ⟨by omega, .inl ⟨rfl, rfl⟩⟩) (by omega) (by omega) (by omega) (by rw [hgx, hgy, if_pos (by omega), if_neg (by omega), if_neg (by omega)]; omega)
    · refine fin (xc + yc) u 0 (xc + yc) (by rw [hT]; split <;> rw [if_neg (by omega)] <;> simp <;> omega) (by rw [hsx, hsy, if_pos rfl, if_pos rfl]) (.inl ⟨by omega, .inl ⟨rfl, rfl⟩⟩) (by omega) (by omega) (by omega) (by rw [hgx, hgy, if_pos (by omega), if_pos (by omega), if_neg (by omega)]; omega)
    · by_cases h : xc < yc
      · refine fin (yc - xc) (-(u : Int)) xc (xc - yc) (by rw [hT, if_pos h, if_pos (by omega)]) (by rw [hsx, hsy, if_pos rfl, if_neg (by omega), if_pos rfl]; omega) (.inl ⟨by omega, .inr ⟨by omega, rfl⟩⟩) (by omega) (by omega) (by omega) (by rw [hgx, hgy, if_pos (by omega), if_neg (by omega), if_pos (by omega)]; omega)
      · refine fin (xc - yc) u yc (xc - yc) (by rw [hT, if_neg h, if_pos (by omega)]) (by rw [hsx, hsy, if_pos rfl, if_neg (by omega), if_pos rfl]; omega) (by omega) (by omega) (by omega) (by omega) (by rw [hgx, hgy, if_pos (by omega), if_neg (by omega), if_neg (by omega)]; omega)
  · rcases ky with ⟨rfl, rfl⟩ | ⟨y1, y2, rfl | rfl⟩
    · refine fin xc (-(u : Int)) 0 (-xc) (by rw [hT, if_neg (by omega), if_neg (by omega)]; simp) (by rw [hsx, hsy, if_neg (by omega), if_pos rfl, if_neg (by omega), if_neg (by omega)]; omega) (.inl ⟨by omega, .inr ⟨rfl, rfl⟩⟩) (by omega) (by omega) (by omega) (by rw [hgx, hgy, if_neg (by omega), if_neg (by omega), if_pos (by omega)]; omega)
    · by_cases h : xc < yc
      · refine fin (yc - xc) u xc (yc - xc) (by rw [hT, if_pos h, if_pos (by omega)]) (by rw [hsx, hsy, if_neg (by omega), if_pos rfl, if_pos rfl]; omega) (.inl ⟨by omega, .inl ⟨by omega, rfl⟩⟩) (by omega) (by omega) (by omega) (by rw [hgx, hgy, if_neg (by omega), if_pos (by omega), if_neg (by omega)]; omega)
      · refine fin (xc - yc) (-(u : Int)) yc (yc - xc) (by rw [hT, if_neg h, if_pos (by omega)]) (by rw [hsx, hsy, if_neg (by omega), if_pos rfl, if_pos rfl]; omega) (by omega) (by omega) (by omega) (by omega) (by rw [hgx, hgy, if_neg (by omega), if_pos (by omega)]; split <;> omega)
    · refine fin (xc + yc) (-(u : Int)) 0 (-(xc + yc)) (by rw [hT]; split <;> rw [if_neg (by omega)] <;> simp <;> omega) (by rw [hsx, hsy, if_neg (by omega), if_pos rfl, if_neg (by omega), if_pos rfl]; omega) (.inl ⟨by omega, .inr ⟨rfl, rfl⟩⟩) (by omega) (by omega) (by omega) (by rw [hgx, hgy, if_neg (by omega), if_neg (by omega), if_pos (by omega)]; omega)
end Go.Proofs.Ytfcmhnbofoohmaa
