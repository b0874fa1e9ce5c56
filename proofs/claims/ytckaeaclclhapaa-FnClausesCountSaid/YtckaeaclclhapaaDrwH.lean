/- The copy of a constraint (no claim of its own). Conditions: as each theorem states. -/
import Derived.Test.YtckaeaclclhapaaDrwG
import Derived.Maps.AppendAt
import Derived.Laws.AppendOwnNone
namespace Go.Proofs.Ytckaeaclclhapaa
open Go.ChangeShapes Go.WideShapes Go.ChangeAt Go.RowKit

/-- The cells of the first k terms, as a list. -/
theorem flat_ints (c l : Nat → Int) (k : Nat) : ∀ u ∈ flat c l k, ∃ z, u = .int .i64 z := by
  induction k with
  | zero => intro u hu; cases hu
  | succ k ih =>
    intro u hu
    unfold flat at hu
    rcases List.mem_append.1 hu with hu | hu
    · exact ih u hu
    · simp only [List.mem_cons, List.not_mem_nil, or_false] at hu
      rcases hu with rfl | rfl
      · exact ⟨_, rfl⟩
      · exact ⟨_, rfl⟩
theorem flat_cells {w : World} {b off n : Nat} {c l : Nat → Int} (hc : ∀ i, i < n → w.cell? ⟨b, off + i * 2, none⟩ = some (.int .i64 (c i)) ∧ w.cell? ⟨b, off + i * 2 + 1, none⟩ = some (.int .i64 (l i))) (j : Nat) (u : Value) (h : (flat c l n)[j]? = some u) : w.cell? ((⟨b, off, none⟩ : Addr).add j) = some u := by
  have hj : j < n * 2 := by
    have := (List.getElem?_eq_some_iff.1 h).1
    rw [flat_length] at this
    exact this
  rw [Go.WideShapes.add_plain]
  obtain ⟨i, hi | hi⟩ : ∃ i, j = i * 2 ∨ j = i * 2 + 1 := ⟨j / 2, by omega⟩
  · subst hi
    have := (flat_at c l (show i < n by omega)).1
    rw [this] at h
    cases h
    exact (hc i (by omega)).1
  · subst hi
    have := (flat_at c l (show i < n by omega)).2
    rw [this] at h
    cases h
    have h2 := (hc i (by omega)).2
    rw [Nat.add_assoc] at h2
    exact h2

/-- A list of terms that came in, appended to a row of the call's own. -/
theorem run_appT (W : World) {B0 : Nat} {v : Value} {n m cap : Nat} {A : Option Addr} {c l : Nat → Int} (hown : TS W B0 56 2 v n) (hr : Rd W W.heap.size A m c l) (hcap : A = none → cap = 0) (hB : B0 ≤ W.heap.size) (hn : n + m ≤ 2097152) :
    ∃ v' w', (Builtin.append_ #[23, 23] 23 #[v, .slice A m cap]).run Try.prog W = .ok v' w' ∧ TS w' B0 56 2 v' (n + m) ∧ Below B0 W w' := by
  obtain ⟨i0, hi, hz0, hz1, hz2⟩ := info_parts Try.infoTerm
  have hlt := hown.lt
  obtain ⟨xs, h0, h1, h2⟩ := hown
  have some_ : ∀ a : Addr, A = some a → (∀ j u, (flat c l m)[j]? = some u → W.cell? (a.add j) = some u) → ∃ v' w', (Builtin.append_ #[23, 23] 23 #[v, .slice A m cap]).run Try.prog W = .ok v' w' ∧ TS w' B0 56 2 v' (n + m) ∧ Below B0 W w' := by
    rintro a rfl hc
    obtain ⟨v', w', k1, k2, k3, _, _⟩ := run_append_own_at (P := Try.prog) W B0 23 23 56 i0 _ 2 16 Try.underlying23 hi hz0 hz1 hz2 rfl (by omega) v n _ h0 a m cap (flat c l m) (flat_length c l m) hc (fun u hu => by obtain ⟨z, rfl⟩ := flat_ints c l m u hu; rfl) (by unfold maxLen; omega) (by omega) hB
    refine ⟨v', w', k1, ⟨_, k2, by rw [List.length_append, h1, flat_length]; omega, fun u hu => ?_⟩, (Below.refl B0 W).grown k3 hB hlt⟩
    rcases List.mem_append.1 hu with hu | hu
    · exact h2 u hu
    · exact flat_ints c l m u hu
  rcases Nat.eq_zero_or_pos m with hm | hm
  · cases A with
    | none =>
      obtain rfl := hcap rfl
      subst hm
      exact ⟨v, W, run_append_owned_none (P := Try.prog) (w := W) B0 23 23 56 i0 2 Try.underlying23 hi v n _ h0, ⟨xs, h0, h1, h2⟩, Below.refl _ _⟩
    | some a => exact some_ a rfl (by subst hm; intro j u hj; simp [flat] at hj)
  · obtain ⟨b, off, e, _, hc⟩ := hr hm
    exact some_ _ e (flat_cells hc)
theorem step_appT {ops : Array Oper} {o : Oper} {a : Act} {K : Act → World → Prop} {Q : Exit → Act → World → Prop} {E : Prop} {W : World} (hgd : o.guard = none) (s x : Operand)
    (ho : o.op = .call { callee := .builtin .append, args := #[s, x], argTypes := #[23, 23] }) (hty : o.type = 23)
    {B0 : Nat} {v : Value} {n m cap : Nat} {A : Option Addr} {c l : Nat → Int} (hs : a.eval s = v) (hx : a.eval x = .slice A m cap)
    (hown : TS W B0 56 2 v n) (hr : Rd W W.heap.size A m c l) (hcap : A = none → cap = 0) (hB : B0 ≤ W.heap.size) (hn : n + m ≤ 2097152)
    (h : ∀ v' w', TS w' B0 56 2 v' (n + m) → Below B0 W w' → K (a.put o.dst v') w') :
    if Region.wanted o (yielded ops a.tmps) = true then Oper.wp Try.prog o a W K Q else E := by
  have hw : Region.wanted o (yielded ops a.tmps) = true := by simp [Region.wanted, hgd]
  rw [if_pos hw]
  obtain ⟨v', w', hrun, h2, h3⟩ := run_appT W hown hr hcap hB hn
  unfold Oper.wp execOp
  simp only [ho, hty, resolve, invoke, builtin, Sem.run_bind, Sem.run_pure, Result.andThen_ok, List.map_toArray, List.map_cons, List.map_nil, hs, hx, hrun]
  exact h v' w' h2 h3

/-- What the copy of a constraint leaves. -/
def CpR (w : World) (k : Nat) (bd : Int) (e : Ending) (w' : World) : Prop := ∃ A cap, e = .returned (.agg #[.slice A k cap, .int .i64 bd]) ∧ TS w' w.heap.size 56 2 (.slice A k cap) k ∧ Below w.heap.size w w'

theorem TS.more {w : World} {lo lo' k s : Nat} {T : TypeId} {ov : Value} (h : TS w lo T s ov k) (hl : lo' ≤ lo) : TS w lo' T s ov k := by
  obtain ⟨xs, h0, h1, h2⟩ := h
  refine ⟨xs, ⟨h0.1, ?_⟩, h1, h2⟩
  rcases h0.2 with hh | ⟨g, cap, cur, e1, hg, hr⟩
  · exact .inl hh
  · exact .inr ⟨g, cap, cur, e1, by omega, hr⟩
theorem ts_drew {W : World} {lo k s : Nat} {T : TypeId} {ov : Value} (h : TS W lo T s ov k) : TS W.drew lo T s ov k := h.bel (Below.refl _ _).drew

set_option maxRecDepth 100000 in
set_option maxHeartbeats 6400000 in
theorem copy_any (A : Option Addr) (n cap : Nat) (bd : Int) (c l : Nat → Int) (w : World) (hn : n ≤ 1048576) (hr : Rd w w.heap.size A n c l) (hcap : A = none → cap = 0) :
    Calls Try.prog 22 #[.agg #[.slice A n cap, .int .i64 bd]] w (CpR w n bd) := by
  have HCp := Lib.hid hcap
  clear hcap
  go_enter Try.func22, Try.ntmps22
  go_upto_region 1 with fail
  have HB0 := Lib.hid (bl_alloc (bl_alloc (Below.refl w.heap.size w) (.cells #[.slice A n cap, .int .i64 bd] 25)) (.cells #[.slice none 0 0, .int .i64 0] 25))
  have a0 : ((w.alloc (.cells #[.slice A n cap, .int .i64 bd] 25)).alloc (.cells #[.slice none 0 0, .int .i64 0] 25)).cell? ⟨w.heap.size, 0, none⟩ = some (.slice A n cap) := by go_simp
  have a1 : ((w.alloc (.cells #[.slice A n cap, .int .i64 bd] 25)).alloc (.cells #[.slice none 0 0, .int .i64 0] 25)).cell? ⟨w.heap.size, 1, none⟩ = some (.int .i64 bd) := by go_simp
  have r0 : Cel ((w.alloc (.cells #[.slice A n cap, .int .i64 bd] 25)).alloc (.cells #[.slice none 0 0, .int .i64 0] 25)) (w.heap.size + 1) 0 (.slice none 0 0) := ⟨by go_simp, by go_simp⟩
  have r1 : Cel ((w.alloc (.cells #[.slice A n cap, .int .i64 bd] 25)).alloc (.cells #[.slice none 0 0, .int .i64 0] 25)) (w.heap.size + 1) 1 (.int .i64 0) := ⟨by go_simp, by go_simp⟩
  have hz : w.heap.size + 1 < ((w.alloc (.cells #[.slice A n cap, .int .i64 bd] 25)).alloc (.cells #[.slice none 0 0, .int .i64 0] 25)).heap.size := by simp
  generalize ((w.alloc (.cells #[.slice A n cap, .int .i64 bd] 25)).alloc (.cells #[.slice none 0 0, .int .i64 0] 25)) = W0 at *
  have Hr := Lib.hid (hr.later HB0.out)
  have R0 := Lib.hid r0
  have R1 := Lib.hid r1
  have Hz := Lib.hid hz
  have hz1 : w.heap.size < W0.heap.size := by omega
  clear r0 r1 hr
  go_region_held3 (fun w' => w'.cell? ⟨w.heap.size, 0, none⟩ = some (.slice A n cap) ∧ w'.cell? ⟨w.heap.size, 1, none⟩ = some (.int .i64 bd)) (go_keep)
    (first
      | (refine step_appT (by rfl) _ _ (by rfl) (by rfl) (by rfl) (by rfl) (B0 := W0.heap.size) (n := 0) (by first | exact ts_lit W0.drew 56 2 | exact ts_drew (ts_lit W0 56 2)) (Rd.later Hr.out (by first | exact ((Below.refl W0.heap.size W0).alloc (Nat.le_refl _) _).drew | exact (Below.refl W0.heap.size W0).drew.alloc (Nat.le_refl _) _)) HCp.out (by simp) (by omega) ?_; intro v3 w3 hts3 hb3; rw [Nat.zero_add] at hts3; obtain ⟨A3, cap3, c3, l3, e3, _, _⟩ := hts3.terms; subst e3; have HB3 := Lib.hid (Below.trans (B := W0.heap.size) (a := W0) (by first | exact ((Below.refl W0.heap.size W0).alloc (Nat.le_refl _) _).drew | exact (Below.refl W0.heap.size W0).drew.alloc (Nat.le_refl _) _) hb3); clear hb3; have TS3 := Lib.hid hts3; clear hts3; replace a0 := kc HB3.out a0; replace a1 := kc HB3.out a1; obtain ⟨b0, f0⟩ := R0.out.below HB3.out; obtain ⟨b1, f1⟩ := R1.out.below HB3.out))
  go_wp2
  refine bodyPost_ret (v := .agg #[.slice A3 n cap3, .int .i64 bd]) (by simp [results, Try.results22, go_sem, b0, b1]) rfl ?_
  refine ⟨A3, cap3, rfl, ?_, ?_⟩
  · exact ((TS3.out.set_ (by show w.heap.size + 1 < _; exact Hz.out) _).set_ (by show w.heap.size + 1 < _; exact Hz.out) _).more (by omega)
  · exact ((bl_trans HB0.out HB3.out).setCell (by show w.heap.size ≤ w.heap.size + 1; omega) _).setCell (by show w.heap.size ≤ w.heap.size + 1; omega) _
end Go.Proofs.Ytckaeaclclhapaa
