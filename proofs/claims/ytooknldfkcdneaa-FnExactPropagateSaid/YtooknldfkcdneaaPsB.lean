/- How a propagation is built (no claim of its own). Conditions: as each theorem states. -/
import Derived.Test.YtooknldfkcdneaaPsR
import Derived.Test.YtooknldfkcdneaaPgN
import Derived.Laws.Tables
namespace Go.Proofs.Ytooknldfkcdneaa
open Go.Conc Go.ChangeShapes Go.WideShapes Go.ChangeAt Go.RowKit Go.Shelf

theorem foldl_put : ∀ (vs : List Value) (k0 off : Nat) (cs : Array Value), ((vs.zipIdx k0).foldl (fun (cs : Array Value) (x : Value × Nat) => cs.setIfInBounds (off + x.2) x.1) cs).size = cs.size ∧ ∀ k, ((vs.zipIdx k0).foldl (fun (cs : Array Value) (x : Value × Nat) => cs.setIfInBounds (off + x.2) x.1) cs)[k]? = if off + k0 ≤ k ∧ k < off + k0 + vs.length ∧ k < cs.size then vs[k - (off + k0)]? else cs[k]?
  | [], k0, off, cs => ⟨rfl, fun k => by rw [if_neg (by simp only [List.length_nil]; omega)]; rfl⟩
  | v :: vs, k0, off, cs => by
    obtain ⟨h1, h2⟩ := foldl_put vs (k0 + 1) off (cs.setIfInBounds (off + k0) v)
    rw [List.zipIdx_cons, List.foldl_cons]
    refine ⟨by rw [h1, Array.size_setIfInBounds], fun k => ?_⟩
    rw [h2, Array.size_setIfInBounds, Array.getElem?_setIfInBounds]
    by_cases c : off + (k0 + 1) ≤ k ∧ k < off + (k0 + 1) + vs.length ∧ k < cs.size
    · rw [if_pos c, if_pos (by simp only [List.length_cons]; omega), show k - (off + k0) = (k - (off + (k0 + 1))) + 1 by omega]
      rfl
    · rw [if_neg c]
      by_cases e : off + k0 = k
      · subst e
        rw [if_pos rfl]
        by_cases hk : off + k0 < cs.size
        · rw [if_pos hk, if_pos ⟨Nat.le_refl _, by simp only [List.length_cons]; omega, hk⟩, Nat.sub_self]
          rfl
        · rw [if_neg hk, if_neg (by omega), Array.getElem?_eq_none (by omega)]
      · rw [if_neg e, if_neg (by simp only [List.length_cons]; omega)]
/-- The cells of vs put into cs from off on. -/
def putAt (off : Nat) (vs cs : Array Value) : Array Value := vs.zipIdx.foldl (fun cs (c, j) => cs.setIfInBounds (off + j) c) cs
theorem putAt_eq (off : Nat) (vs cs : Array Value) : putAt off vs cs = (vs.toList.zipIdx 0).foldl (fun (cs : Array Value) (x : Value × Nat) => cs.setIfInBounds (off + x.2) x.1) cs := by
  unfold putAt
  rw [← Array.foldl_toList, Array.toList_zipIdx]
theorem putAt_size (off : Nat) (vs cs : Array Value) : (putAt off vs cs).size = cs.size := by
  rw [putAt_eq]
  exact (foldl_put vs.toList 0 off cs).1
theorem putAt_at (off : Nat) (vs cs : Array Value) (k : Nat) : (putAt off vs cs)[k]? = if off ≤ k ∧ k < off + vs.size ∧ k < cs.size then vs[k - off]? else cs[k]? := by
  rw [putAt_eq, (foldl_put vs.toList 0 off cs).2 k]
  simp

theorem fill_cons {place : Nat → Option (Nat × Nat)} {cells : Array Value} {i off size : Nat} {v : Value} {rest : List (Nat × Value)} (hp : place i = some (off, size)) (h1 : v.cells.size = size) (h2 : off + size ≤ cells.size) : Instr.fill place cells ((i, v) :: rest) = Instr.fill place (putAt off v.cells cells) rest := by
  rw [Instr.fill]
  simp only [hp]
  rw [if_neg (by simp [h1]; omega)]
  rfl
theorem built_struct {P : Program} {t : TypeId} {zc : Array Value} {places : List (Nat × Nat)} {parts : List (Nat × Value)} (h1 : ((P.info? t).bind (·.zero)).map Value.cells = some zc)
    (h2 : (match P.underlying t with | some (.struct fields) => fields.toList.mapM (fun f => (P.info? f.type).map fun i => (f.offset, i.size)) | _ => none) = some places) : P.built t parts = Instr.fill (places.toArray[·]?) zc parts := by
  unfold Program.built
  cases hi : P.info? t with
  | none => simp [hi] at h1
  | some it =>
    cases hz : it.zero with
    | none => simp [hi, hz] at h1
    | some z =>
      have hzc : z.cells = zc := by simpa [hi, hz] using h1
      cases hu : P.underlying t with
      | none => simp [hu] at h2
      | some d =>
        cases d <;> try (simp [hu] at h2; done)
        case struct fields =>
          simp only [hu] at h2
          simp only [hz, h2, hzc]

def isZ : Value → Bool
  | .int .i64 z => z == 0
  | _ => false
theorem isZ_iff {v : Value} (h : isZ v = true) : v = .int .i64 0 := by
  unfold isZ at h
  split at h
  · rw [beq_iff_eq] at h; rw [h]
  · cases h
def zeroPs (z : Array Value) : Bool := z.size == 1413 && (List.range 12).all fun j => isZ (z.getD (1 + j) undef)
theorem ps_zero : zeroPs Try.zeroCells106 = true := by kernel_rfl
theorem ps_one : Try.zeroCells106.toList.all (·.oneCell') = true := by kernel_rfl
theorem ps_info : ((Try.prog.info? 106).bind (·.zero)).map Value.cells = some Try.zeroCells106 := by kernel_rfl
theorem ps_places : (match Try.prog.underlying 106 with | some (.struct fields) => fields.toList.mapM (fun f => (Try.prog.info? f.type).map fun i => (f.offset, i.size)) | _ => none) = some [(0, 1), (1, 12), (13, 1400)] := by kernel_rfl
theorem ps_size : (Try.prog.info? 106).map (·.size) = some 1413 := by kernel_rfl
theorem ps_cells : Try.zeroCells106.size = 1413 ∧ (∀ i, i < 12 → Try.zeroCells106[1 + i]? = some (.int .i64 0)) ∧ ∀ (k : Nat) (u : Value), Try.zeroCells106[k]? = some u → u.oneCell' = true := by
  have h := ps_zero
  have ho := ps_one
  generalize Try.zeroCells106 = Z at *
  unfold zeroPs at h
  simp only [Bool.and_eq_true, beq_iff_eq, List.all_eq_true, List.mem_range] at h
  rw [List.all_eq_true] at ho
  obtain ⟨h1, h2⟩ := h
  refine ⟨h1, fun i hi => ?_, fun k u hk => ho _ ?_⟩
  · have := isZ_iff (h2 i hi)
    rw [Array.getD_eq_getD_getElem?, Array.getElem?_eq_getElem (by omega)] at this
    rw [Array.getElem?_eq_getElem (by omega)]
    exact congrArg some this
  · obtain ⟨hlt, e⟩ := Array.getElem?_eq_some_iff.1 hk
    rw [← e]
    simp
theorem ps_built (B : Nat) (SL : Array Value) (hs : SL.size = 1400) (h1 : ∀ (k : Nat) (u : Value), SL[k]? = some u → u.oneCell' = true) : ∃ cells : Array Value, (∀ W, (Instr.build 106 #[(0, .pointer (some ⟨B, 0, none⟩)), (2, .agg SL)]).run Try.prog W = .ok (.agg cells) W) ∧ cells.size = 1413 ∧ cells[0]? = some (.pointer (some ⟨B, 0, none⟩)) ∧ (∀ i, i < 12 → cells[1 + i]? = some (.int .i64 0)) ∧ (∀ i, i < 1400 → cells[13 + i]? = SL[i]?) ∧ cells.all (·.oneCell') = true := by
  obtain ⟨z1, z2, z3⟩ := ps_cells
  have hb := built_struct (parts := [(0, .pointer (some ⟨B, 0, none⟩)), (2, .agg SL)]) ps_info ps_places
  generalize Try.zeroCells106 = Z at *
  refine ⟨putAt 13 SL (putAt 0 #[.pointer (some ⟨B, 0, none⟩)] Z), fun W => run_build W _ _ _ (hb.trans ?_), ?_, ?_, fun i hi => ?_, fun i hi => ?_, ?_⟩
  · have hq : (putAt 0 #[.pointer (some ⟨B, 0, none⟩)] Z).size = 1413 := by rw [putAt_size]; exact z1
    rw [fill_cons (off := 0) (size := 1) rfl rfl (by omega)]
    exact (fill_cons (i := 2) (off := 13) (size := 1400) (v := .agg SL) (rest := []) rfl hs (by show 13 + 1400 ≤ (putAt 0 #[.pointer (some ⟨B, 0, none⟩)] Z).size; omega)).trans rfl
  · rw [putAt_size, putAt_size]; exact z1
  · rw [putAt_at, if_neg (by omega), putAt_at, if_pos ⟨Nat.le_refl _, by simp, by omega⟩]; rfl
  · rw [putAt_at, if_neg (by omega), putAt_at, if_neg (by simp only [List.size_toArray, List.length_cons, List.length_nil]; omega)]; exact z2 i hi
  · rw [putAt_at, putAt_size, if_pos ⟨by omega, by omega, by omega⟩, show 13 + i - 13 = i by omega]
  · rw [Array.all_eq_true_iff_forall_mem]
    intro u hu
    obtain ⟨k, hk⟩ := Array.mem_iff_getElem?.1 hu
    rw [putAt_at] at hk
    split at hk
    · exact h1 _ _ hk
    · rw [putAt_at] at hk
      split at hk
      · rename_i c
        have : k - 0 = 0 := by have := c.2.1; simp at this; omega
        rw [this] at hk
        cases hk
        rfl
      · exact z3 _ _ hk
theorem wp_build_run {P : Program} {o : Oper} {a : Act} {w : World} {K : Act → World → Prop} {Q : Exit → Act → World → Prop} (t : TypeId) (parts : Array (Nat × Operand)) (ho : o.op = .build t parts) (cells : Array Value)
    (hr : (Instr.build t (parts.map fun (i, x) => (i, a.eval x))).run P w = .ok (.agg cells) w) (h : K (a.put o.dst (.agg cells)) w) : o.wp P a w K Q := by
  unfold Oper.wp execOp
  simp only [ho, Sem.run_bind, Sem.run_pure, Result.andThen_ok, hr]
  exact h
theorem wp_value {P : Program} {o : Oper} {a : Act} {w w' : World} {v : Value} {K : Act → World → Prop} {Q : Exit → Act → World → Prop} (hr : (execOp a.eval o).run P w = .ok (.value v) w') (h : K (a.put o.dst v) w') : o.wp P a w K Q := by
  unfold Oper.wp
  simp only [hr]
  exact h
theorem shape_setCells (S : Nat) (T : TypeId) : ∀ (vs : List Value) (o : Nat) (w : World) (cs : Array Value), w.heap[S]? = some (.cells cs T (0, 0)) → ∃ cs', (w.setCells S o vs).heap[S]? = some (.cells cs' T (0, 0)) ∧ cs'.size = cs.size
  | [], _, _, cs, h => ⟨cs, h, rfl⟩
  | v :: r, o, w, cs, h => by
    obtain ⟨cs', h1, h2⟩ := shape_setCells S T r (o + 1) _ _ (heap_put (i := o) v h)
    exact ⟨cs', h1, by rw [h2]; simp⟩
theorem grown_setCells (S : Nat) : ∀ (vs : List Value) (o : Nat) (w : World), w.grownBy (w.setCells S o vs) (some S)
  | [], _, _ => ⟨rfl, rfl, rfl, Nat.le_refl _, fun _ _ _ => rfl⟩
  | v :: r, o, w => grown_trans (grown_set w S o v) (grown_setCells S r (o + 1) _)
/-- The state that propagate begins with. -/
theorem ps_new {w : World} {B : Nat} {cells : Array Value} {SL : Array Value} {m : Nat} {sl : Nat → Int} (hs : cells.size = 1413) (h0 : cells[0]? = some (.pointer (some ⟨B, 0, none⟩))) (h1 : ∀ i, i < 12 → cells[1 + i]? = some (.int .i64 0)) (h2 : ∀ i, i < 1400 → cells[13 + i]? = SL[i]?) (hm : m ≤ 1400) (hsl : ∀ i, i < m → SL[i]? = some (.int .i64 (sl i))) :
    (w.alloc (.cells Try.zeroCells106 106)).there w.heap.size 0 cells.size ∧ (Try.prog.info? 106).map (·.size) = some cells.size ∧ PsAt ((w.alloc (.cells Try.zeroCells106 106)).setCells w.heap.size 0 cells.toList) w.heap.size B (fun _ => 0) m sl ∧ Below w.heap.size w ((w.alloc (.cells Try.zeroCells106 106)).setCells w.heap.size 0 cells.toList) := by
  obtain ⟨z1, _, _⟩ := ps_cells
  generalize Try.zeroCells106 = Z at *
  have hh : (w.alloc (.cells Z 106)).heap[w.heap.size]? = some (.cells Z 106 (0, 0)) := heap_alloc_new w _
  have hb := bl_alloc (Below.refl w.heap.size w) (.cells Z 106)
  generalize w.alloc (.cells Z 106) = W1 at *
  have ht : W1.there w.heap.size 0 1413 := fun j hj => by
    refine ⟨?_, by simp [World.frozen?, hh]⟩
    rw [(cell_of_row _ w.heap.size (0 + j) Z _ _ hh), Array.getElem?_eq_getElem (by omega)]
    rfl
  refine ⟨by rw [hs]; exact ht, by rw [hs]; exact ps_size, ?_, ?_⟩
  · obtain ⟨cs', e1, e2⟩ := shape_setCells w.heap.size _ cells.toList 0 _ _ hh
    have hr := World.rangeAt_setCells_same W1 w.heap.size 0 cells.toList (by rw [Array.length_toList, hs]; exact ht)
    have key : ∀ k u, cells[k]? = some u → cs'[k]? = some u := fun k u hu => by
      have := hr k u (by simpa using hu)
      rw [Nat.zero_add] at this
      exact (cell_of_row _ w.heap.size k cs' _ _ e1).symm.trans this
    exact ⟨cs', e1, by rw [e2]; exact z1, key _ _ h0, fun i hi => key _ _ (h1 i hi), fun i hi => key _ _ ((h2 i (by omega)).trans (hsl i hi))⟩
  · have hg := grown_setCells w.heap.size cells.toList 0 W1
    exact ⟨hg.os.trans hb.os, hg.tape.trans hb.tape, hg.output.trans hb.output, Nat.le_trans hb.size hg.size, fun k hk => by rw [hg.block k (Nat.lt_of_lt_of_le hk hb.size) (fun e => by injection e with e; omega)]; exact hb.block k hk⟩
end Go.Proofs.Ytooknldfkcdneaa
