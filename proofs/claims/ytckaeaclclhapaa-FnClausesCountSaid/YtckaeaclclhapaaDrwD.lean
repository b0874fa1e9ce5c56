/- Contracts of the draws of numbers and values (no claim of its own). Conditions: as each theorem states. -/
import Derived.Test.YtckaeaclclhapaaDrwC
import Derived.Test.YtckaeaclclhapaaBoolA
import Derived.Laws.OwnMore
namespace Go.Proofs.Ytckaeaclclhapaa
open Go.ChangeShapes Go.WideShapes Go.ChangeAt Go.RowKit

/-- What the draw of a listed number leaves. -/
def NRes (w : World) (R K : Nat) (cs : Array Value) (e : Ending) (w' : World) : Prop := ∃ z : Int, e = .returned (.int .i64 z) ∧ Value.int .i64 z ∈ cs.toList ∧ Gr R w w' ∧ Rdr w' R (K + 1)
theorem lit_all (L : List Int) : ∀ u ∈ L.map vI, ∃ z, u = .int .i64 z := fun u hu => by
  obtain ⟨z, _, rfl⟩ := List.mem_map.1 hu
  exact ⟨z, rfl⟩

set_option maxRecDepth 100000 in
set_option maxHeartbeats 800000 in
theorem num_any (R K b n : Nat) (cs : Array Value) (T : TypeId) (w : World) (hK : K ≤ 1000000) (h : Rdr w R K) (hb : b ≠ R) (hh : w.heap[b]? = some (.cells cs T (0, 0))) (hn : cs.size = n) (h0 : 0 < n) (hm : n ≤ 1000) (hall : ∀ u ∈ cs.toList, ∃ z, u = .int .i64 z) :
    Calls Try.prog 12 #[.pointer (some ⟨R, 0, none⟩), .slice (some ⟨b, 0, none⟩) n n] w (NRes w R K cs) := by
  have hblt : b < w.heap.size := by
    rcases Nat.lt_or_ge b w.heap.size with hlt | hge
    · exact hlt
    · rw [Array.getElem?_eq_none hge] at hh; cases hh
  have Hp := Lib.hid (pick_any R K (n : Int) w hK h)
  have HH := Lib.hid hh
  have HA := Lib.hid hall
  clear hh hall h
  go_enter Try.func12, Try.ntmps12
  go_wp2_with fail
  refine Hp.out.mono ?_
  rintro e w1 ⟨x, rfl, hx0, hx1, hg, hr⟩
  obtain ⟨i, rfl⟩ := Int.eq_ofNat_of_zero_le hx0
  have hi : i < n := by omega
  have hci : cs[i]? = some (cs[i]'(by omega)) := Array.getElem?_eq_getElem (by omega)
  obtain ⟨z, hz⟩ := HA.out (cs[i]'(by omega)) (by simp)
  rw [hz] at hci
  have hh1 : w1.heap[b]? = some (.cells cs T (0, 0)) := (hg.block b hblt (by intro e; cases e; exact hb rfl)).trans HH.out
  have hc1 : w1.cell? ⟨b, i, none⟩ = some (.int .i64 z) := (cell_of_row w1 b _ cs _ _ hh1).trans hci
  have Hmem := Lib.hid (show Value.int .i64 z ∈ cs.toList from by rw [← hz]; simp)
  have HG := Lib.hid hg
  have HR := Lib.hid hr
  clear hci hz hh1 hg hr hx0 hx1
  go_wp2
  go_ret
  exact ⟨z, rfl, Hmem.out, HG.out, HR.out⟩

section
variable {w wr wq W : World} {R lo k : Nat} {ov : Value} {T : TypeId}
set_option maxRecDepth 100000 in
set_option maxHeartbeats 800000 in
/-- The append of one int to a slice that the draw has made. -/
theorem wp_ts1 {o : Oper} {a : Act} {K : Act → World → Prop} {Q : Exit → Act → World → Prop} (s x : Operand) (t : TypeId)
    (ho : o.op = .call { callee := .builtin .append, args := #[s, x], argTypes := #[t, t] }) (ht : Try.prog.underlying t = some (.slice T))
    (hinf : (Try.prog.info? T).map (fun i => (i.zero, i.size, i.bytes)) = some (some (.int .i64 0), 1, 8))
    (h : TS W lo T 1 ov k) (hlo : lo ≤ W.heap.size) (hs : a.eval s = ov) {H : Nat} (hx : a.eval x = .slice (some ⟨H, 0, none⟩) 1 1) {X : Int} {T' : TypeId} (hnew : W.heap[H]? = some (.cells #[.int .i64 X] T' (0, 0))) (hk : k ≤ 1048576)
    (hK : ∀ g cap w', TS w' lo T 1 (.slice (some ⟨g, 0, none⟩) (k + 1) cap) (k + 1) → W.grownBy w' ov.ownBlock → K (a.put o.dst (.slice (some ⟨g, 0, none⟩) (k + 1) cap)) w') :
    o.wp Try.prog a W K Q := by
  obtain ⟨i0, hi, hz0, hz1, hz2⟩ := info_parts hinf
  obtain ⟨xs, h0, h1, h2⟩ := h
  refine wp_append_lies _ s x t ho lo T i0 _ 1 8 ht hi hz0 hz1 hz2 rfl (by omega) ov k _ hs h0 ⟨H, 0, none⟩ 1 1 [.int .i64 X] hx (by rfl)
    (World.news_of_block hnew) (by simp [Value.oneCell']) (by omega) (by unfold maxLen; omega) (by omega) hlo W.heap.size rfl ?_
  intro g cap w' hown hg _ _
  refine hK g cap w' ⟨_, hown, by simp; omega, fun u hu => ?_⟩ hg
  rcases List.mem_append.1 hu with hu | hu
  · exact h2 u hu
  · exact ⟨X, by simpa using hu⟩
/-- An empty slice that has just been made. -/
theorem ts_lit (W : World) (T : TypeId) (s : Nat) : TS (W.alloc (.cells #[] T)) W.heap.size T s (.slice (some ⟨W.heap.size, 0, none⟩) 0 0) 0 :=
  ⟨[], by simpa using World.ownsRow_lit W #[] 0 (Nat.le_refl _) (by unfold maxLen; omega) (by simp), by simp, fun u hu => by cases hu⟩
end
end Go.Proofs.Ytckaeaclclhapaa
