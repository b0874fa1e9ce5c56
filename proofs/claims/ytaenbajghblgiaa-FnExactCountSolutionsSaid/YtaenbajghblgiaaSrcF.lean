/- What an iterator over solutions is made of, and a propagator under it (no claim of its own). Conditions: as each theorem states. -/
import Derived.Test.YtaenbajghblgiaaSrcE
import Derived.Test.YtaenbajghblgiaaSrcD
namespace Go.Proofs.Ytaenbajghblgiaa
open Go.ChangeShapes Go.WideShapes Go.ChangeAt Go.RowKit Go.Shelf

theorem cell_block {w : World} {b o : Nat} {v : Value} (h : w.cell? ⟨b, o, none⟩ = some v) : ∃ cs T fr, w.heap[b]? = some (.cells cs T fr) ∧ o < cs.size := by
  have hlt := World.block_lt_of_cell? w ⟨b, o, none⟩ h
  have he : w.heap[b]? = some w.heap[b] := Array.getElem?_eq_getElem hlt
  unfold World.cell? at h
  simp only [he] at h
  cases hb : w.heap[b] with
  | cells cs t fr =>
    rw [hb] at he
    refine ⟨cs, t, fr, he, ?_⟩
    simp [hb] at h
    exact (Array.getElem?_eq_some_iff.1 h).1
  | _ => simp [hb] at h
section
variable {K : Nat → Prop} {N S B m s C : Nat} {lv : Value} {p : Nat → Con} {sl : Nat → Int} {us : Nat → List (Nat × Int)} {uv : Nat → Value} {w w' : World}
theorem row_at {base : Nat} {e : TypeId} {size n : Nat} {v : Value} {xs : List Value} (h : w.ownsRow base e size v n xs) (hk : ∀ g cs, v.ownBlock = some g → w.heap[g]? = some (.cells cs e (0, 0)) → w'.heap[g]? = some (.cells cs e (0, 0))) : w'.ownsRow base e size v n xs := by
  refine ⟨h.1, ?_⟩
  rcases h.2 with h0 | ⟨g, cap, cur, e1, h1, h2, h3⟩
  · exact .inl h0
  · exact .inr ⟨g, cap, cur, e1, h1, hk g cur (by rw [e1]; rfl) h2, h3⟩
/-- A propagator all of whose blocks are at N or past it stays while a search goes on, if the one block C of the round's own has a single cell. -/
theorem Pg.rl (h : Pg w (fun k => k < N) B lv m s p sl us uv) {cs : Array Value} {T : TypeId} {fr : Nat × Nat} (hC : w.heap[C]? = some (.cells cs T fr)) (h1 : cs.size ≤ 1) (hCN : C < N) (hS : N ≤ S) {u : Value} (hbS : BoxS w S B u) (hr : Rl (fun k => k = C) N S w w') :
    Pg w' (fun k => k < N ∧ k ≠ C) B lv m s p sl us uv := by
  have hNB : N ≤ B := Nat.le_of_not_lt h.f1
  have hNw := h.f0
  have hty : ∀ k x (t : TypeId) f, w.heap[k]? = some (.cells x t f) → N ≤ k → t ≠ 84 → t ≠ 121 → t ≠ 95 → w'.heap[k]? = some (.cells x t f) := fun k x t f hk hNk h2 h3 h4 => by
    refine hr.block k _ hk rfl (fun e => ?_) (fun e => ?_) ?_
    · have e' : k = C := e
      omega
    · subst e
      have h5 : w.heap[k]? = _ := hbS
      rw [hk] at h5
      injection h5 with h5
      injection h5 with _ h6 _
      exact h4 h6
    · rintro (⟨_, _, _, e⟩ | ⟨_, _, _, e⟩) <;> injection e with _ e _
      · exact h2 e
      · exact h3 e
  have hlo : ∀ k, k < N → k ≠ C → ∀ x t f, w.heap[k]? = some (.cells x t f) → w'.heap[k]? = some (.cells x t f) := fun k hk hkC x t f hx => by
    refine hr.block k _ hx rfl hkC (by omega) ?_
    rintro (⟨h, _⟩ | ⟨h, _⟩) <;> omega
  refine ⟨?_, ?_, ?_, h.d1, h.d2, h.d3, fun k hk => Nat.lt_of_lt_of_le (hNw k hk.1) hr.size, fun hh => h.f1 hh.1, fun b hb hh => h.f2 b hb hh.1, fun j hj b hb hh => h.f3 j hj b hb hh.1⟩
  · obtain ⟨cs, c1, c2⟩ := h.cel
    exact ⟨cs, hty B _ _ _ c1 hNB (by decide) (by decide) (by decide), c2⟩
  · obtain ⟨xs, hx, hc⟩ := h.lst
    refine ⟨xs, row_at hx fun g cs hg hh => hty g _ _ _ hh (Nat.le_of_not_lt (h.f2 g hg)) (by decide) (by decide) (by decide), fun i hi => ?_⟩
    obtain ⟨Ai, ci, e1, e2, e3⟩ := hc i hi
    refine ⟨Ai, ci, e1, e2, fun hn => ?_⟩
    obtain ⟨b, off, eb, hb, hcel⟩ := e3 hn
    have hbC : b ≠ C := fun e => by
      subst e
      obtain ⟨cs', T', fr', g1, g2⟩ := cell_block (hcel 0 hn).2
      rw [hC] at g1
      cases g1
      omega
    obtain ⟨cs', T', fr', g1, _⟩ := cell_block (hcel 0 hn).1
    have hbk : w'.heap[b]? = w.heap[b]? := (hlo b hb hbC _ _ _ g1).trans g1.symm
    exact ⟨b, off, eb, ⟨hb, hbC⟩, fun i hi => ⟨(World.cell?_of_block hbk).trans (hcel i hi).1, (World.cell?_of_block hbk).trans (hcel i hi).2⟩⟩
  · intro j hj
    exact row_at (h.use j hj) fun g cs hg hh => hty g _ _ _ hh (Nat.le_of_not_lt (h.f3 j hj g hg)) (by decide) (by decide) (by decide)
end

set_option maxRecDepth 100000 in
set_option maxHeartbeats 800000 in
theorem trueLits_nil (w : World) : Calls Try.prog 55 #[.slice none 0 0] w fun e w' => e = .returned (.slice none 0 0) ∧ Below w.heap.size w w' := by
  go_enter Try.func55, Try.ntmps55
  go_wp2
  go_loopw [3, 9] (fun l i wr => l = .slice none 0 0 ∧ i = .int .i64 0 ∧ wr = w) (fun _ _ _ => 0)
  case atStart => exact ⟨rfl, rfl, rfl⟩
  case round =>
    obtain ⟨rfl, rfl, rfl⟩ := hrel
    go_wp2
    all_goals try go_ret
    all_goals trace_state
    all_goals exact ⟨rfl, Below.refl _ _⟩

set_option maxRecDepth 100000 in
set_option maxHeartbeats 800000 in
/-- The iterator over all solutions of constraints. -/
theorem solFrom_any (A : Option Addr) (m cap : Nat) (p : Nat → Con) (w : World) (hm : m ≤ 1400) (hr : RdP w w.heap.size A m p) (hok : ∀ i, i < m → okC (p i) ∧ (p i).n ≤ 1048576) :
    Calls Try.prog 33 #[.slice A m cap, .slice none 0 0] w fun e w' => ∃ B S Bx lv uv, e = .returned (.func (.func 77) #[] #[.pointer (some ⟨Bx, 0, none⟩)]) ∧ Pg w' (fun k => k < w.heap.size) B lv m m p (fun i => slkC (p i) z0) (usP p m) uv ∧ Below w.heap.size w w' ∧ w.heap.size ≤ S ∧ w.heap.size ≤ Bx ∧ BoxS w' S B (.slice none 0 0) ∧ w'.heap[Bx]? = some (.cells #[.pointer (some ⟨S, 0, none⟩)] 90 (0, 0)) := by
  have HR := Lib.hid hr
  have HO := Lib.hid hok
  clear hr hok
  go_enter Try.func33, Try.ntmps33
  go_wp2_with fail
  refine (newPg_any A m cap p _ hm HR.out HO.out).mono ?_
  rintro e w1 ⟨B, lv, uv, rfl, hpg, hb⟩
  have HP := Lib.hid hpg
  have HB := Lib.hid hb
  clear hpg hb
  go_wp2_with fail
  refine (trueLits_nil _).mono ?_
  rintro e w2 ⟨rfl, hb⟩
  have HP2 := Lib.hid (HP.out.below hb)
  have HB2 := Lib.hid (bl_trans HB.out hb)
  clear hb HP HB
  go_wp2
  go_ret
  have hz := HB2.out.size
  refine ⟨B, w2.heap.size, w2.heap.size + 1, lv, uv, rfl, (HP2.out.below (bl_alloc (Below.refl _ _) _)).below (bl_alloc (Below.refl _ _) _), bl_trans HB2.out (bl_alloc (bl_alloc (Below.refl _ _) _) _), hz, by omega, ?_, ?_⟩
  · exact (Below.heap_alloc _ _ _ (by simp)).trans (heap_alloc_new _ _)
  · have h9 := heap_alloc_new (w2.alloc (.cells #[.pointer (some ⟨B, 0, none⟩), .slice none 0 0, .bool true, .pointer none] 95)) (.cells #[.pointer (some ⟨w2.heap.size, 0, none⟩)] 90)
    rw [World.size_alloc] at h9
    exact h9
end Go.Proofs.Ytaenbajghblgiaa
