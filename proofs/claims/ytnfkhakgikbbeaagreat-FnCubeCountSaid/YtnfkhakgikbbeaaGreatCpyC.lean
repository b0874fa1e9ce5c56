/- The copy of a constraint, with what it says (no claim of its own). Conditions: as each theorem states. -/
import Derived.Test.YtnfkhakgikbbeaaGreatCloA
import Derived.Test.YtnfkhakgikbbeaaGreatClnX
import Derived.Test.YtnfkhakgikbbeaaGreatIntR
import Derived.Laws.AppendOwnNone
namespace Go.Proofs.YtnfkhakgikbbeaaGreat
open Go.ChangeShapes Go.WideShapes Go.ChangeAt Go.RowKit

/-- A list of terms that came in, appended to an empty row of the call's own. -/
theorem run_appF (W : World) {B0 : Nat} {v : Value} {m cap : Nat} {A : Option Addr} {c l : Nat → Int} (hown : W.ownsRow B0 83 2 v 0 []) (hr : Rd W W.heap.size A m c l) (hcap : A = none → cap = 0) (hB : B0 ≤ W.heap.size) (hn : m ≤ 2097152) :
    ∃ A' cap' w', (Builtin.append_ #[58, 58] 58 #[v, .slice A m cap]).run Tryz.prog W = .ok (.slice A' m cap') w' ∧ Frs w' B0 A' m c l ∧ Below B0 W w' := by
  obtain ⟨i0, hi, hz0, hz1, hz2⟩ := info_parts Tryz.infoTerm
  have hlt : ∀ j, v.ownBlock = some j → B0 ≤ j := fun j e => (hown.lt j e).1
  have some_ : ∀ a : Addr, A = some a → (∀ j u, (flat c l m)[j]? = some u → W.cell? (a.add j) = some u) → ∃ A' cap' w', (Builtin.append_ #[58, 58] 58 #[v, .slice A m cap]).run Tryz.prog W = .ok (.slice A' m cap') w' ∧ Frs w' B0 A' m c l ∧ Below B0 W w' := by
    rintro a rfl hc
    obtain ⟨v', w', k1, k2, k3, _, _⟩ := run_append_own_at (P := Tryz.prog) W B0 58 58 83 i0 _ 2 16 Tryz.underlying58 hi hz0 hz1 hz2 rfl (by omega) v 0 _ hown a m cap (flat c l m) (flat_length c l m) hc (flat_one c l m) (by unfold maxLen; omega) (by omega) hB
    have k4 := (Below.refl B0 W).grown k3 hB hlt
    rw [Nat.zero_add, List.nil_append] at k2
    obtain ⟨A', cap', rfl, hF⟩ := frs_of_row k2
    exact ⟨A', cap', w', k1, hF, k4⟩
  rcases Nat.eq_zero_or_pos m with hm | hm
  · cases A with
    | none =>
      obtain rfl := hcap rfl
      subst hm
      obtain ⟨A', cap', rfl, hF⟩ := frs_of_row (c := c) (l := l) hown
      exact ⟨A', cap', W, run_append_owned_none (P := Tryz.prog) (w := W) B0 58 58 83 i0 2 Tryz.underlying58 hi _ 0 _ hown, hF, Below.refl _ _⟩
    | some a => exact some_ a rfl (by subst hm; intro j u hj; simp [flat] at hj)
  · obtain ⟨b, off, e, _, hc⟩ := hr hm
    exact some_ _ e fun j u hj => by rw [Go.WideShapes.add_plain]; exact flat_cell hc j u hj
theorem step_appF {ops : Array Oper} {o : Oper} {a : Act} {K : Act → World → Prop} {Q : Exit → Act → World → Prop} {E : Prop} {W : World} (hgd : o.guard = none) (s x : Operand)
    (ho : o.op = .call { callee := .builtin .append, args := #[s, x], argTypes := #[58, 58] }) (hty : o.type = 58)
    {B0 : Nat} {v : Value} {m cap : Nat} {A : Option Addr} {c l : Nat → Int} (hs : a.eval s = v) (hx : a.eval x = .slice A m cap)
    (hown : W.ownsRow B0 83 2 v 0 []) (hr : Rd W W.heap.size A m c l) (hcap : A = none → cap = 0) (hB : B0 ≤ W.heap.size) (hn : m ≤ 2097152)
    (h : ∀ A' cap' w', Frs w' B0 A' m c l → Below B0 W w' → K (a.put o.dst (.slice A' m cap')) w') :
    if Region.wanted o (yielded ops a.tmps) = true then Oper.wp Tryz.prog o a W K Q else E := by
  have hw : Region.wanted o (yielded ops a.tmps) = true := by simp [Region.wanted, hgd]
  rw [if_pos hw]
  obtain ⟨A', cap', w', hrun, h2, h3⟩ := run_appF W hown hr hcap hB hn
  unfold Oper.wp execOp
  simp only [ho, hty, resolve, invoke, builtin, Sem.run_bind, Sem.run_pure, Result.andThen_ok, List.map_toArray, List.map_cons, List.map_nil, hs, hx, hrun]
  exact h A' cap' w' h2 h3
theorem row_drew {W : World} {B n s : Nat} {e : TypeId} {v : Value} {xs : List Value} (h : W.ownsRow B e s v n xs) : W.drew.ownsRow B e s v n xs := row_below' h (Below.refl _ _).drew

set_option maxRecDepth 100000 in
set_option maxHeartbeats 6400000 in
theorem copyC_any (A : Option Addr) (n cap : Nat) (bd : Int) (c l : Nat → Int) (w : World) (hn : n ≤ 1048576) (hr : Rd w w.heap.size A n c l) (hcap : A = none → cap = 0) :
    Calls Tryz.prog 70 #[.agg #[.slice A n cap, .int .i64 bd]] w fun e w' => ∃ A' cap', e = .returned (.agg #[.slice A' n cap', .int .i64 bd]) ∧ Frs w' w.heap.size A' n c l ∧ Below w.heap.size w w' := by
  have HCp := Lib.hid hcap
  clear hcap
  go_enter Tryz.func70, Tryz.ntmps70
  go_upto_region 1 with fail
  have HB0 := Lib.hid (bl_alloc (bl_alloc (Below.refl w.heap.size w) (.cells #[.slice A n cap, .int .i64 bd] 60)) (.cells #[.slice none 0 0, .int .i64 0] 60))
  have a0 : ((w.alloc (.cells #[.slice A n cap, .int .i64 bd] 60)).alloc (.cells #[.slice none 0 0, .int .i64 0] 60)).cell? ⟨w.heap.size, 0, none⟩ = some (.slice A n cap) := by go_simp
  have a1 : ((w.alloc (.cells #[.slice A n cap, .int .i64 bd] 60)).alloc (.cells #[.slice none 0 0, .int .i64 0] 60)).cell? ⟨w.heap.size, 1, none⟩ = some (.int .i64 bd) := by go_simp
  have r0 : Cel ((w.alloc (.cells #[.slice A n cap, .int .i64 bd] 60)).alloc (.cells #[.slice none 0 0, .int .i64 0] 60)) (w.heap.size + 1) 0 (.slice none 0 0) := ⟨by go_simp, by go_simp⟩
  have r1 : Cel ((w.alloc (.cells #[.slice A n cap, .int .i64 bd] 60)).alloc (.cells #[.slice none 0 0, .int .i64 0] 60)) (w.heap.size + 1) 1 (.int .i64 0) := ⟨by go_simp, by go_simp⟩
  have hz : w.heap.size + 1 < ((w.alloc (.cells #[.slice A n cap, .int .i64 bd] 60)).alloc (.cells #[.slice none 0 0, .int .i64 0] 60)).heap.size := by simp
  generalize ((w.alloc (.cells #[.slice A n cap, .int .i64 bd] 60)).alloc (.cells #[.slice none 0 0, .int .i64 0] 60)) = W0 at *
  have Hr := Lib.hid (hr.later HB0.out)
  have R0 := Lib.hid r0
  have R1 := Lib.hid r1
  have Hz := Lib.hid hz
  have hz1 : w.heap.size < W0.heap.size := by omega
  clear r0 r1 hr
  go_region_held3 (fun w' => w'.cell? ⟨w.heap.size, 0, none⟩ = some (.slice A n cap) ∧ w'.cell? ⟨w.heap.size, 1, none⟩ = some (.int .i64 bd)) (go_keep)
    (first
      | (refine step_appF (by rfl) _ _ (by rfl) (by rfl) (by rfl) (by rfl) (B0 := W0.heap.size) (by first | exact rowX_new W0.drew 83 2 | exact row_drew (rowX_new W0 83 2)) (Rd.later Hr.out (by first | exact ((Below.refl W0.heap.size W0).alloc (Nat.le_refl _) _).drew | exact (Below.refl W0.heap.size W0).drew.alloc (Nat.le_refl _) _)) HCp.out (by simp) (by omega) ?_; intro A3 cap3 w3 hF3 hb3; have HB3 := Lib.hid (Below.trans (B := W0.heap.size) (a := W0) (by first | exact ((Below.refl W0.heap.size W0).alloc (Nat.le_refl _) _).drew | exact (Below.refl W0.heap.size W0).drew.alloc (Nat.le_refl _) _) hb3); clear hb3; have F3 := Lib.hid hF3; clear hF3; replace a0 := kc HB3.out a0; replace a1 := kc HB3.out a1; obtain ⟨b0, f0⟩ := R0.out.below HB3.out; obtain ⟨b1, f1⟩ := R1.out.below HB3.out))
  go_wp2
  refine bodyPost_ret (v := .agg #[.slice A3 n cap3, .int .i64 bd]) (by simp [results, Tryz.results70, go_sem, b0, b1]) rfl ?_
  refine ⟨A3, cap3, rfl, ?_, ?_⟩
  · exact ((F3.out.far rfl (by show w.heap.size + 1 < _; exact Hz.out) _).far rfl (by show w.heap.size + 1 < _; exact Hz.out) _).more (by omega)
  · exact ((bl_trans HB0.out HB3.out).setCell (by show w.heap.size ≤ w.heap.size + 1; omega) _).setCell (by show w.heap.size ≤ w.heap.size + 1; omega) _
end Go.Proofs.YtnfkhakgikbbeaaGreat
