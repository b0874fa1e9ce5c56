/- A list that came in, appended to a row of the call's own (no claim of its own). Conditions: as each theorem states. -/
import Derived.Test.YtipblbcedkhmbaaCloA
import Derived.Test.YtipblbcedkhmbaaNorC
import Derived.Maps.AppendAt
import Derived.Laws.AppendOwnNone
namespace Go.Proofs.Ytipblbcedkhmbaa
open Go.ChangeShapes Go.WideShapes Go.ChangeAt Go.RowKit

/-- The numbers of two lists, one behind the other. -/
def cat2 (N : Nat) (f g : Nat → Int) (i : Nat) : Int := if i < N then f i else g (i - N)

theorem flat_cat (c l c' l' : Nat → Int) (n : Nat) (m : Nat) : flat (cat2 n c c') (cat2 n l l') (n + m) = flat c l n ++ flat c' l' m := by
  induction m with
  | zero =>
    rw [Nat.add_zero]
    show _ = flat c l n ++ []
    rw [List.append_nil]
    exact flat_congr fun i hi => by simp [cat2, hi]
  | succ m ih =>
    show flat _ _ (n + m) ++ [.int .i64 (cat2 n c c' (n + m)), .int .i64 (cat2 n l l' (n + m))] = flat c l n ++ (flat c' l' m ++ [.int .i64 (c' m), .int .i64 (l' m)])
    rw [ih, List.append_assoc]
    have h1 : cat2 n c c' (n + m) = c' m := by unfold cat2; rw [if_neg (by omega)]; congr 1; omega
    have h2 : cat2 n l l' (n + m) = l' m := by unfold cat2; rw [if_neg (by omega)]; congr 1; omega
    rw [h1, h2]

theorem own_ge {w : World} {B : Nat} {e : TypeId} {s : Nat} {v : Value} {n : Nat} {xs : List Value} (h : w.ownsRow B e s v n xs) : ∀ k, v.ownBlock = some k → B ≤ k := by
  intro k hk
  rcases h.2 with ⟨rfl, _⟩ | ⟨g, cap, cur, rfl, hbg, _⟩
  · simp [Value.ownBlock] at hk
  · simp [Value.ownBlock] at hk; omega

theorem cell_lst {W : World} {b off m : Nat} {c l : Nat → Int} (hc : ∀ i, i < m → W.cell? ⟨b, off + i * 2, none⟩ = some (.int .i64 (c i)) ∧ W.cell? ⟨b, off + i * 2 + 1, none⟩ = some (.int .i64 (l i))) :
    ∀ j u, (flat c l m)[j]? = some u → W.cell? ((⟨b, off, none⟩ : Addr).add j) = some u := by
  intro j u hj
  rw [Addr.add_lit]
  exact flat_cell hc j u hj

/-- A list that came in, appended to a row of the call's own. -/
theorem run_appR (W : World) {B0 : Nat} {v : Value} {n m cap : Nat} {A : Option Addr} {c l c' l' : Nat → Int} (hown : W.ownsRow B0 35 2 v n (flat c l n)) (hr : Rd W W.heap.size A m c' l') (hcap : A = none → cap = 0) (hB : B0 ≤ W.heap.size) (hn : n + m ≤ 2097152) :
    ∃ v' w', (Builtin.append_ #[23, 23] 23 #[v, .slice A m cap]).run Try.prog W = .ok v' w' ∧ w'.ownsRow B0 35 2 v' (n + m) (flat (cat2 n c c') (cat2 n l l') (n + m)) ∧ Below B0 W w' := by
  obtain ⟨i0, hi, hz0, hz1, hz2⟩ := info_parts Try.infoTerm
  rw [flat_cat]
  have none_ : m = 0 → cap = 0 → A = none → ∃ v' w', (Builtin.append_ #[23, 23] 23 #[v, .slice A m cap]).run Try.prog W = .ok v' w' ∧ w'.ownsRow B0 35 2 v' (n + m) (flat c l n ++ flat c' l' m) ∧ Below B0 W w' := by
    rintro rfl rfl rfl
    exact ⟨v, W, run_append_owned_none (P := Try.prog) (w := W) B0 23 23 35 i0 2 Try.underlying23 hi v n _ hown, by simpa [flat] using hown, Below.refl _ _⟩
  have some_ : ∀ a : Addr, A = some a → (∀ j u, (flat c' l' m)[j]? = some u → W.cell? (a.add j) = some u) → ∃ v' w', (Builtin.append_ #[23, 23] 23 #[v, .slice A m cap]).run Try.prog W = .ok v' w' ∧ w'.ownsRow B0 35 2 v' (n + m) (flat c l n ++ flat c' l' m) ∧ Below B0 W w' := by
    rintro a rfl hc
    obtain ⟨v', w', h1, h2, h3, _, _⟩ := run_append_own_at (P := Try.prog) W B0 23 23 35 i0 _ 2 16 Try.underlying23 hi hz0 hz1 hz2 rfl (by omega) v n _ hown a m cap (flat c' l' m) (flat_length c' l' m) hc (flat_one c' l' m) (by unfold maxLen; omega) (by omega) hB
    exact ⟨v', w', h1, h2, (Below.refl B0 W).grown h3 hB (own_ge hown)⟩
  rcases Nat.eq_zero_or_pos m with hm | hm
  · cases A with
    | none => exact none_ hm (hcap rfl) rfl
    | some a => exact some_ a rfl (by subst hm; intro j u hj; simp [flat] at hj)
  · obtain ⟨b, off, e, _, hc⟩ := hr hm
    exact some_ _ e (cell_lst hc)

theorem step_appR {ops : Array Oper} {o : Oper} {a : Act} {K : Act → World → Prop} {Q : Exit → Act → World → Prop} {E : Prop} {W : World} (hgd : o.guard = none) (s x : Operand)
    (ho : o.op = .call { callee := .builtin .append, args := #[s, x], argTypes := #[23, 23] }) (hty : o.type = 23)
    {B0 : Nat} {v : Value} {n m cap : Nat} {A : Option Addr} {c l c' l' : Nat → Int} (hs : a.eval s = v) (hx : a.eval x = .slice A m cap)
    (hown : W.ownsRow B0 35 2 v n (flat c l n)) (hr : Rd W W.heap.size A m c' l') (hcap : A = none → cap = 0) (hB : B0 ≤ W.heap.size) (hn : n + m ≤ 2097152)
    (h : ∀ v' w', w'.ownsRow B0 35 2 v' (n + m) (flat (cat2 n c c') (cat2 n l l') (n + m)) → Below B0 W w' → K (a.put o.dst v') w') :
    if Region.wanted o (yielded ops a.tmps) = true then Oper.wp Try.prog o a W K Q else E := by
  have hw : Region.wanted o (yielded ops a.tmps) = true := by simp [Region.wanted, hgd]
  rw [if_pos hw]
  obtain ⟨v', w', hrun, h2, h3⟩ := run_appR W hown hr hcap hB hn
  unfold Oper.wp execOp
  simp only [ho, hty, resolve, invoke, builtin, Sem.run_bind, Sem.run_pure, Result.andThen_ok, List.map_toArray, List.map_cons, List.map_nil, hs, hx, hrun]
  exact h v' w' h2 h3

end Go.Proofs.Ytipblbcedkhmbaa
