/- The sum of two constraints, all variables (no claim of its own). Conditions: as each theorem states. -/
import Derived.Test.YtfcmhnbofoohmaaAddM
namespace Go.Proofs.Ytfcmhnbofoohmaa
open Go.ChangeShapes Go.WideShapes Go.ChangeAt Go.RowKit

theorem sg_zero (v : Nat) : sg ((0 : Int), (0 : Int)) v = 0 := by
  unfold sg
  dsimp only
  split
  · rfl
  · split <;> rfl
theorem ng_zero : ng ((0 : Int), (0 : Int)) = 0 := rfl
theorem sg_off {z : Int × Int} {u v : Nat} (h : z = (0, 0) ∨ (ab z.2 = (u : Int) ∧ 1 ≤ z.1 ∧ z.1 ≤ 1000)) (hv : u < v) : sg z v = 0 := by
  rcases h with rfl | ⟨h, _⟩
  · exact sg_zero v
  · unfold ab at h
    unfold sg
    rw [if_neg (by split at h <;> omega), if_neg (by split at h <;> omega)]
/-- What is shown of two lists and the variables u to u + k - 1. -/
def Sums (k u : Nat) (xs ys : List (Int × Int)) : Prop := ∀ b : Int, -8000000 + 1000 * (12 - (k : Int)) * -1 ≤ b + 24000 → b ≤ 8000000 - 1000 * (k : Int) → -8000000 + 1000 * (k : Int) ≤ b →
  addR (prs xs ys) = rowsF (fun v => S xs v + S ys v) u k ∧ bndF (fun v => S xs v + S ys v) (b - Ng xs - Ng ys) u k = canW b (prs xs ys)

theorem step_sum {k u : Nat} {x y : Int × Int} {xs ys xs' ys' : List (Int × Int)} (hu : 1 ≤ u) (ih : Sums k (u + 1) xs' ys') (hp : prs xs ys = (x, y) :: prs xs' ys')
    (hF : ∀ v, S xs v + S ys v = sg x v + sg y v + (S xs' v + S ys' v)) (h0 : S xs' u + S ys' u = 0) (hN : Ng xs + Ng ys = ng x + ng y + (Ng xs' + Ng ys'))
    (hx : x = (0, 0) ∨ (ab x.2 = (u : Int) ∧ 1 ≤ x.1 ∧ x.1 ≤ 1000)) (hy : y = (0, 0) ∨ (ab y.2 = (u : Int) ∧ 1 ≤ y.1 ∧ y.1 ≤ 1000)) (hne : ¬ (x = (0, 0) ∧ y = (0, 0)))
    (hb0 : 0 ≤ Ng xs' + Ng ys') (hb1 : Ng xs' + Ng ys' ≤ 100000) : Sums (k + 1) u xs ys := by
  intro b _ h2 h3
  obtain ⟨e1, e2, e3, e4⟩ := add_one hu hx hy hne
  have hk : ((k + 1 : Nat) : Int) = (k : Int) + 1 := by omega
  rw [hk] at h2 h3
  obtain ⟨i1, i2⟩ := ih (b - (addT x y).2) (by omega) (by omega) (by omega)
  have hFu : S xs u + S ys u = sg x u + sg y u := by have := hF u; omega
  have hcong : ∀ v, u + 1 ≤ v → S xs v + S ys v = S xs' v + S ys' v := fun v hv => by
    have h5 := hF v
    have h6 := sg_off hx (v := v) (by omega)
    have h7 := sg_off hy (v := v) (by omega)
    omega
  have hw : wrap64 (b - (addT x y).2) = b - (addT x y).2 := w64 (by omega)
  refine ⟨?_, ?_⟩
  · rw [hp]
    show addP (x, y) ++ addR (prs xs' ys') = rowAt (S xs u + S ys u) u ++ rowsF _ (u + 1) k
    rw [e1, hFu, i1, rowsF_congr (f := fun v => S xs v + S ys v) (g := fun v => S xs' v + S ys' v) k (u + 1) hcong]
  · rw [hp]
    show bndF _ (bAt (b - Ng xs - Ng ys) (S xs u + S ys u)) (u + 1) k = canW (wrap64 (b - (addT x y).2)) (prs xs' ys')
    have e5 := e4 (b - Ng xs' - Ng ys') (by omega) (by omega)
    rw [hFu, show b - Ng xs - Ng ys = b - Ng xs' - Ng ys' - ng x - ng y by omega, e5, hw, ← i2, bndF_congr (f := fun v => S xs v + S ys v) (g := fun v => S xs' v + S ys' v) k (u + 1) _ hcong,
      show b - Ng xs' - Ng ys' - (addT x y).2 = b - (addT x y).2 - Ng xs' - Ng ys' by omega]

theorem skip_sum {k u : Nat} {xs ys : List (Int × Int)} (ih : Sums k (u + 1) xs ys) (h0 : S xs u + S ys u = 0) : Sums (k + 1) u xs ys := by
  intro b _ h2 h3
  have hk : ((k + 1 : Nat) : Int) = (k : Int) + 1 := by omega
  rw [hk] at h2 h3
  obtain ⟨i1, i2⟩ := ih b (by omega) (by omega) (by omega)
  refine ⟨?_, ?_⟩
  · show _ = rowAt (S xs u + S ys u) u ++ rowsF _ (u + 1) k
    rw [h0, rowAt_zero (by omega) (by omega)]
    exact i1
  · show bndF _ (bAt (b - Ng xs - Ng ys) (S xs u + S ys u)) (u + 1) k = _
    rw [h0, show bAt (b - Ng xs - Ng ys) 0 = b - Ng xs - Ng ys from if_neg (by omega)]
    exact i2

/-- All variables of a list lie from u on and below t. -/
def From (u t : Nat) (xs : List (Int × Int)) : Prop := ∀ z ∈ xs, (u : Int) ≤ ab z.2 ∧ ab z.2 < (t : Int)
theorem From.up {u t : Nat} {x : Int × Int} {xs : List (Int × Int)} (h : From u t (x :: xs)) (hs : srt (x :: xs)) (hx : ab x.2 = (u : Int)) : From (u + 1) t xs := fun z hz => by
  have h1 := h z (List.mem_cons_of_mem _ hz)
  have h2 := hs.2.1 z hz
  omega
theorem From.up' {u t : Nat} {x : Int × Int} {xs : List (Int × Int)} (h : From u t (x :: xs)) (hs : srt (x :: xs)) (hx : ab x.2 ≠ (u : Int)) : From (u + 1) t (x :: xs) := fun z hz => by
  have h1 := h z hz
  have h3 := h x (List.mem_cons_self ..)
  rcases List.mem_cons.1 hz with rfl | hz
  · omega
  · have h2 := hs.2.1 z hz
    omega
theorem From.nil (u t : Nat) : From u t [] := fun z hz => by cases hz
theorem From.none {u t : Nat} {xs : List (Int × Int)} (h : From (u + 1) t xs) : S xs u = 0 := S_none fun z hz => by have := h z hz; omega

theorem all_sum : ∀ (k u : Nat) (xs ys : List (Int × Int)), 1 ≤ u → srt xs → srt ys → From u (u + k) xs → From u (u + k) ys → Ng xs + Ng ys ≤ 100000 → Sums k u xs ys := by
  intro k
  induction k with
  | zero =>
    intro u xs ys _ _ _ h h' _ b _ _ _
    have h1 : xs = [] := by
      cases xs with
      | nil => rfl
      | cons x xs => have := h x (List.mem_cons_self ..); omega
    have h2 : ys = [] := by
      cases ys with
      | nil => rfl
      | cons y ys => have := h' y (List.mem_cons_self ..); omega
    subst h1 h2
    refine ⟨rfl, ?_⟩
    show b - 0 - 0 = b
    omega
  | succ k ih =>
    intro u xs ys hu hs hs' h h' hN
    rw [show u + (k + 1) = u + 1 + k by omega] at h h'
    have n1 := Ng_nonneg hs
    have n2 := Ng_nonneg hs'
    have hasx : (∃ x xs', xs = x :: xs' ∧ ab x.2 = (u : Int)) ∨ From (u + 1) (u + 1 + k) xs := by
      cases xs with
      | nil => exact .inr (From.nil _ _)
      | cons x xs =>
        by_cases e : ab x.2 = (u : Int)
        · exact .inl ⟨x, xs, rfl, e⟩
        · exact .inr (h.up' hs e)
    have hasy : (∃ y ys', ys = y :: ys' ∧ ab y.2 = (u : Int)) ∨ From (u + 1) (u + 1 + k) ys := by
      cases ys with
      | nil => exact .inr (From.nil _ _)
      | cons y ys =>
        by_cases e : ab y.2 = (u : Int)
        · exact .inl ⟨y, ys, rfl, e⟩
        · exact .inr (h'.up' hs' e)
    rcases hasx with ⟨x, xs', rfl, ex⟩ | fx
    · have hx : x = (0, 0) ∨ (ab x.2 = (u : Int) ∧ 1 ≤ x.1 ∧ x.1 ≤ 1000) := .inr ⟨ex, hs.1.2⟩
      have hx0 : ¬ x = (0, 0) := fun e => by have := hs.1.2.1; rw [e] at this; dsimp only at this; omega
      have fx := h.up hs ex
      have z1 := Ng_nonneg hs.2.2
      have hNx : Ng (x :: xs') = ng x + Ng xs' := rfl
      have hngx : 0 ≤ ng x := by have := hs.1.2.1; unfold ng; split <;> omega
      rcases hasy with ⟨y, ys', rfl, ey⟩ | fy
      · have hy : y = (0, 0) ∨ (ab y.2 = (u : Int) ∧ 1 ≤ y.1 ∧ y.1 ≤ 1000) := .inr ⟨ey, hs'.1.2⟩
        have fy := h'.up hs' ey
        have z2 := Ng_nonneg hs'.2.2
        have hNy : Ng (y :: ys') = ng y + Ng ys' := rfl
        have hngy : 0 ≤ ng y := by have := hs'.1.2.1; unfold ng; split <;> omega
        refine step_sum hu (ih (u + 1) xs' ys' (by omega) hs.2.2 hs'.2.2 fx fy (by omega)) (prs_eq (ex.trans ey.symm)) (fun v => ?_) (by rw [fx.none, fy.none]; rfl) (by omega) hx hy (fun e => hx0 e.1) (by omega) (by omega)
        show sg x v + S xs' v + (sg y v + S ys' v) = _
        omega
      · refine step_sum hu (ih (u + 1) xs' ys (by omega) hs.2.2 hs' fx fy (by omega)) (y := (0, 0)) ?_ (fun v => ?_) (by rw [fx.none, fy.none]; rfl) (by rw [ng_zero]; omega) hx (.inl rfl) (fun e => hx0 e.1) (by omega) (by omega)
        · cases ys with
          | nil => exact prs_left
          | cons y ys =>
            have := fy y (List.mem_cons_self ..)
            exact prs_lt (by omega)
        · rw [sg_zero]
          show sg x v + S xs' v + S ys v = _
          omega
    · rcases hasy with ⟨y, ys', rfl, ey⟩ | fy
      · have hy : y = (0, 0) ∨ (ab y.2 = (u : Int) ∧ 1 ≤ y.1 ∧ y.1 ≤ 1000) := .inr ⟨ey, hs'.1.2⟩
        have hy0 : ¬ y = (0, 0) := fun e => by have := hs'.1.2.1; rw [e] at this; dsimp only at this; omega
        have fy := h'.up hs' ey
        have z2 := Ng_nonneg hs'.2.2
        have hNy : Ng (y :: ys') = ng y + Ng ys' := rfl
        have hngy : 0 ≤ ng y := by have := hs'.1.2.1; unfold ng; split <;> omega
        refine step_sum hu (ih (u + 1) xs ys' (by omega) hs hs'.2.2 fx fy (by omega)) (x := (0, 0)) ?_ (fun v => ?_) (by rw [fx.none, fy.none]; rfl) (by rw [ng_zero]; omega) (.inl rfl) hy (fun e => hy0 e.2) (by omega) (by omega)
        · cases xs with
          | nil => exact prs_right
          | cons x xs =>
            have := fx x (List.mem_cons_self ..)
            exact prs_gt (by omega)
        · rw [sg_zero]
          show S xs v + (sg y v + S ys' v) = _
          omega
      · exact skip_sum (ih (u + 1) xs ys (by omega) hs hs' fx fy hN) (by rw [fx.none, fy.none]; rfl)

theorem lst_snoc (c l : Nat → Int) : ∀ (m i : Nat), lst c l i (m + 1) = lst c l i m ++ [(c (i + m), l (i + m))] := by
  intro m
  induction m with
  | zero => intro i; rfl
  | succ m ih =>
    intro i
    show (c i, l i) :: lst c l (i + 1) (m + 1) = (c i, l i) :: (lst c l (i + 1) m ++ _)
    rw [ih (i + 1), show i + 1 + m = i + (m + 1) by omega]
theorem lst_congr {c l c' l' : Nat → Int} {n : Nat} (h : ∀ i, i < n → c i = c' i ∧ l i = l' i) : lst c l 0 n = lst c' l' 0 n := by
  induction n with
  | zero => rfl
  | succ n ih =>
    rw [lst_snoc, lst_snoc, ih fun i hi => h i (by omega), Nat.zero_add, (h n (by omega)).1, (h n (by omega)).2]
theorem lst_cat (c l c' l' : Nat → Int) (n m : Nat) : lst (cat2 n c c') (cat2 n l l') 0 (n + m) = lst c l 0 n ++ lst c' l' 0 m := by
  induction m with
  | zero =>
    rw [Nat.add_zero]
    show _ = lst c l 0 n ++ []
    rw [List.append_nil]
    exact lst_congr fun i hi => by simp [cat2, hi]
  | succ m ih =>
    have h1 : cat2 n c c' (n + m) = c' m := by unfold cat2; rw [if_neg (by omega)]; congr 1; omega
    have h2 : cat2 n l l' (n + m) = l' m := by unfold cat2; rw [if_neg (by omega)]; congr 1; omega
    rw [show n + (m + 1) = (n + m) + 1 by omega, lst_snoc, lst_snoc, ih, List.append_assoc, Nat.zero_add, Nat.zero_add, h1, h2]

theorem S_bnd {c l : Nat → Int} {n : Nat} (h : allN c l n = true) (v : Nat) : ∀ k, k ≤ n → -1000 * (k : Int) ≤ S (lst c l 0 k) v ∧ S (lst c l 0 k) v ≤ 1000 * (k : Int) := by
  intro k
  induction k with
  | zero => intro _; exact ⟨Int.le_refl _, Int.le_refl _⟩
  | succ k ih =>
    intro hk
    have h1 := ih (by omega)
    obtain ⟨_, h2, h3⟩ := okN_iff.1 (allN_at h (show k < n by omega))
    rw [lst_snoc, S_append, Nat.zero_add]
    have h4 : S [(c k, l k)] v = sg (c k, l k) v + 0 := rfl
    have h5 : sg (c k, l k) v = if l k = (v : Int) then c k else if l k = -(v : Int) then -c k else 0 := rfl
    rw [h4, h5]
    split
    · omega
    · split <;> omega
theorem net_S {c l : Nat → Int} {n : Nat} (h : allN c l n = true) (hn : n ≤ 1000) (v : Nat) : ∀ k, k ≤ n → net c l k v = S (lst c l 0 k) v := by
  intro k
  induction k with
  | zero => intro _; rfl
  | succ k ih =>
    intro hk
    have h1 := ih (by omega)
    have hb := S_bnd h v k (by omega)
    obtain ⟨_, h2, h3⟩ := okN_iff.1 (allN_at h (show k < n by omega))
    rw [lst_snoc, S_append, Nat.zero_add]
    have h4 : S [(c k, l k)] v = sg (c k, l k) v + 0 := rfl
    have h5 : sg (c k, l k) v = if l k = (v : Int) then c k else if l k = -(v : Int) then -c k else 0 := rfl
    rw [h4, h5]
    unfold net
    rw [h1]
    split
    · rw [w64 (by omega)]; omega
    · split
      · rw [w64 (by omega)]; omega
      · omega
theorem Ng_bnd {c l : Nat → Int} {n : Nat} (h : allN c l n = true) : ∀ k, k ≤ n → -1000 * (k : Int) ≤ Ng (lst c l 0 k) ∧ Ng (lst c l 0 k) ≤ 1000 * (k : Int) := by
  intro k
  induction k with
  | zero => intro _; exact ⟨Int.le_refl _, Int.le_refl _⟩
  | succ k ih =>
    intro hk
    have h1 := ih (by omega)
    obtain ⟨_, h2, h3⟩ := okN_iff.1 (allN_at h (show k < n by omega))
    rw [lst_snoc, Ng_append, Nat.zero_add]
    have h4 : Ng [(c k, l k)] = ng (c k, l k) + 0 := rfl
    have h5 : ng (c k, l k) = if 0 < l k then 0 else c k := rfl
    rw [h4, h5]
    split <;> omega
theorem nbd_Ng {c l : Nat → Int} {n : Nat} {b : Int} (h : allN c l n = true) (hn : n ≤ 1000) (hb : -1000000 ≤ b ∧ b ≤ 1000000) : ∀ k, k ≤ n → nbd c l b k = b - Ng (lst c l 0 k) := by
  intro k
  induction k with
  | zero => intro _; show b = b - 0; omega
  | succ k ih =>
    intro hk
    have h1 := ih (by omega)
    have hB := Ng_bnd h k (by omega)
    obtain ⟨_, h2, h3⟩ := okN_iff.1 (allN_at h (show k < n by omega))
    rw [lst_snoc, Ng_append, Nat.zero_add]
    have h4 : Ng [(c k, l k)] = ng (c k, l k) + 0 := rfl
    have h5 : ng (c k, l k) = if 0 < l k then 0 else c k := rfl
    rw [h4, h5]
    unfold nbd
    rw [h1]
    split
    · omega
    · rw [w64 (by omega)]; omega

theorem From_lst {n : Nat} {c l : Nat → Int} {bd : Int} (h : validB n c l bd = true) : From 1 13 (lst c l 0 n) := fun z hz => by
  obtain ⟨j, _, hj, rfl⟩ := lst_mem z hz
  have := ab_lit (litAt h (show j < n by omega))
  dsimp only
  omega

/-- Both sides' rows and bounds. -/
theorem sum_same {N N' : Nat} {c l c' l' : Nat → Int} {bd bd' : Int} (hv : validB N c l bd = true) (hv' : validB N' c' l' bd' = true) :
    addR (prs (lst c l 0 N) (lst c' l' 0 N')) = rowsN (net (cat2 N c c') (cat2 N l l') (N + N')) 12 ∧
    canW (wrap64 (bd + bd')) (prs (lst c l 0 N) (lst c' l' 0 N')) = bndN (net (cat2 N c c') (cat2 N l l') (N + N')) (nbd (cat2 N c c') (cat2 N l l') (wrap64 (bd + bd')) (N + N')) 12 := by
  have hN := valid_12 hv
  have hN' := valid_12 hv'
  have hall := allN_cat (valid_all hv) (valid_all hv')
  have b1 := valid_bd hv
  have b2 := valid_bd hv'
  have hw : wrap64 (bd + bd') = bd + bd' := w64 (by omega)
  have g1 := Ng_bnd (valid_all hv) N (Nat.le_refl _)
  have g2 := Ng_bnd (valid_all hv') N' (Nat.le_refl _)
  have hnet : net (cat2 N c c') (cat2 N l l') (N + N') = fun v => S (lst c l 0 N) v + S (lst c' l' 0 N') v := by
    funext v
    rw [net_S hall (by omega) v (N + N') (Nat.le_refl _), lst_cat, S_append]
  have hnbd : nbd (cat2 N c c') (cat2 N l l') (bd + bd') (N + N') = bd + bd' - Ng (lst c l 0 N) - Ng (lst c' l' 0 N') := by
    rw [nbd_Ng hall (by omega) (by omega) (N + N') (Nat.le_refl _), lst_cat, Ng_append]
    omega
  obtain ⟨h1, h2⟩ := all_sum 12 1 _ _ (by omega) (srt_valid hv) (srt_valid hv') (From_lst hv) (From_lst hv') (by omega) (bd + bd') (by omega) (by omega) (by omega)
  rw [hw, hnet, hnbd, rowsN_F, bndN_F]
  exact ⟨h1, h2.symm⟩

/-- The program's side, in the model's words. -/
theorem inf_fit (R : List (Int × Int)) (b : Int) : infN true R.length (rC R) (rL R) (capB b) = fitN R b ∧ infD true R.length (rC R) (rL R) (capB b) = fitD R b ∧ infB true R.length (rC R) (rL R) (capB b) = fitB R b := by
  have h : infB true R.length (rC R) (rL R) (capB b) = fitB R b := by unfold infB fitB; rw [Bool.true_and]
  refine ⟨?_, ?_, h⟩
  · unfold infN fitN; rw [h]
  · unfold infD fitD; rw [h]
end Go.Proofs.Ytfcmhnbofoohmaa
