/- The memory of a search, and what its decisions come to (no claim of its own). Conditions: as each theorem states. -/
import Derived.Test.YtaenbajghblgiaaSrcA
import Derived.Deep.AppendLies
namespace Go.Proofs.Ytaenbajghblgiaa
open Go.ChangeShapes Go.WideShapes Go.ChangeAt Go.RowKit

/-- The box of a search that keeps no record: its propagator, its decisions; false is tried first. -/
def BoxS (w : World) (S B : Nat) (dv : Value) : Prop := w.heap[S]? = some (.cells #[.pointer (some ⟨B, 0, none⟩), dv, .bool true, .pointer none] 95 (0, 0))
section
variable {w w' : World} {S B : Nat} {dv u : Value}
theorem BoxS.at_ (h : BoxS w S B dv) (hg : w'.heap[S]? = w.heap[S]?) : BoxS w' S B dv := hg.trans h
theorem BoxS.lt (h : BoxS w S B dv) : S < w.heap.size := by
  rcases Nat.lt_or_ge S w.heap.size with hlt | hge
  · exact hlt
  · unfold BoxS at h; rw [Array.getElem?_eq_none hge] at h; cases h
theorem BoxS.below (h : BoxS w S B dv) (hb : Below w.heap.size w w') : BoxS w' S B dv := h.at_ (hb.block S h.lt)
theorem BoxS.c0 (h : BoxS w S B dv) : w.cell? ⟨S, 0, none⟩ = some (.pointer (some ⟨B, 0, none⟩)) := (cell_of_row w S _ _ _ _ h).trans rfl
theorem BoxS.c1 (h : BoxS w S B dv) : w.cell? ⟨S, 1, none⟩ = some dv := (cell_of_row w S _ _ _ _ h).trans rfl
theorem BoxS.c2 (h : BoxS w S B dv) : w.cell? ⟨S, 2, none⟩ = some (.bool true) := (cell_of_row w S _ _ _ _ h).trans rfl
theorem BoxS.c3 (h : BoxS w S B dv) : w.cell? ⟨S, 3, none⟩ = some (.pointer none) := (cell_of_row w S _ _ _ _ h).trans rfl
theorem BoxS.fr (h : BoxS w S B dv) (j : Nat) : w.frozen? ⟨S, j, none⟩ = false := by
  have h' : w.heap[S]? = some (.cells #[.pointer (some ⟨B, 0, none⟩), dv, .bool true, .pointer none] 95 (0, 0)) := h
  simp [World.frozen?, h']
theorem BoxS.set1 (h : BoxS w S B dv) : BoxS (w.setCell ⟨S, 1, none⟩ u) S B u := by
  have h' : w.heap[S]? = some (.cells #[.pointer (some ⟨B, 0, none⟩), dv, .bool true, .pointer none] 95 (0, 0)) := h
  simp [BoxS, World.setCell, Array.getElem?_modify, h']
theorem BoxS.far (h : BoxS w S B dv) {p : Addr} (hp : S ≠ p.block) (u : Value) : BoxS (w.setCell p u) S B dv := h.at_ (Below.heap_setCell w p u S hp)
end

/-- The row of the decisions, in a block from N on. -/
def DecR (w : World) (N : Nat) (dv : Value) (D : List Int) : Prop := w.ownsRow N 84 1 dv D.length (D.map vI)
section
variable {w w' : World} {N : Nat} {dv : Value} {D : List Int} {z : Int}
theorem DecR.below (h : DecR w N dv D) (hb : Below w.heap.size w w') : DecR w' N dv D := row_below' h hb
theorem DecR.nil (w : World) (N : Nat) : DecR w N (.slice none 0 0) [] := World.ownsRow_nil _ _ _ _
theorem DecR.cases_ (h : DecR w N dv D) : (dv = .slice none 0 0 ∧ D = []) ∨ ∃ g cap cur, dv = .slice (some ⟨g, 0, none⟩) D.length cap ∧ N ≤ g ∧ w.heap[g]? = some (.cells cur 84 (0, 0)) ∧ D.length ≤ cap ∧ cap ≤ maxLen ∧ cur.size = cap ∧ cur.toList.take D.length = D.map vI := by
  rcases h.2 with ⟨e, h0⟩ | ⟨g, cap, cur, e, h1, h2, h3, h4, h5, h6⟩
  · exact .inl ⟨e, List.eq_nil_of_length_eq_zero h0⟩
  · exact .inr ⟨g, cap, cur, e, h1, h2, h3, h4, by rw [Nat.mul_one] at h5; exact h5, by rw [Nat.mul_one] at h6; exact h6⟩
theorem DecR.mk_ {g cap : Nat} {cur : Array Value} (h1 : N ≤ g) (h2 : w.heap[g]? = some (.cells cur 84 (0, 0))) (h3 : D.length ≤ cap) (h4 : cap ≤ maxLen) (h5 : cur.size = cap) (h6 : cur.toList.take D.length = D.map vI) : DecR w N (.slice (some ⟨g, 0, none⟩) D.length cap) D :=
  ⟨by simp, .inr ⟨g, cap, cur, rfl, h1, h2, h3, h4, by rw [Nat.mul_one]; exact h5, by rw [Nat.mul_one]; exact h6⟩⟩
theorem DecR.cell (h : DecR w N dv D) {i : Nat} (hi : i < D.length) : ∃ g cap, dv = .slice (some ⟨g, 0, none⟩) D.length cap ∧ w.cell? ⟨g, i, none⟩ = some (.int .i64 (D.getD i 0)) ∧ w.frozen? ⟨g, i, none⟩ = false ∧ D.length ≤ cap ∧ cap ≤ maxLen := by
  rcases h.cases_ with ⟨_, e⟩ | ⟨g, cap, cur, e, h1, h2, h3, h4, h5, h6⟩
  · rw [e] at hi; cases hi
  · refine ⟨g, cap, e, ?_, by simp [World.frozen?, h2], h3, h4⟩
    refine (cell_of_row w g _ _ _ _ h2).trans ?_
    have hx : (D.map vI)[i]? = some (vI (D.getD i 0)) := by
      rw [List.getElem?_map, List.getElem?_eq_getElem hi]
      simp [List.getD, List.getElem?_eq_getElem hi]
    rw [← h6, List.getElem?_take_of_lt hi] at hx
    simpa [vI] using hx
/-- The last decision turned. -/
theorem DecR.flip {g cap : Nat} (h : DecR w N (.slice (some ⟨g, 0, none⟩) (D.length + 1) cap) (D ++ [z])) : DecR (w.setCell ⟨g, D.length, none⟩ (.int .i64 (-z))) N (.slice (some ⟨g, 0, none⟩) (D.length + 1) cap) (D ++ [-z]) := by
  have hl : ∀ y : Int, (D ++ [y]).length = D.length + 1 := fun y => by simp
  rcases h.cases_ with ⟨e, _⟩ | ⟨g', cap', cur, e, h1, h2, h3, h4, h5, h6⟩
  · cases e
  · rw [hl] at h3 h6 e
    injection e with e1 _ e3
    injection e1 with e4
    injection e4 with e5
    subst e5
    subst e3
    have hset : (w.setCell ⟨g, D.length, none⟩ (.int .i64 (-z))).heap[g]? = some (.cells (cur.setIfInBounds D.length (.int .i64 (-z))) 84 (0, 0)) := by
      simp [World.setCell, Array.getElem?_modify, h2]
    have := DecR.mk_ (w := w.setCell ⟨g, D.length, none⟩ (.int .i64 (-z))) (N := N) (D := D ++ [-z]) (cap := cap) h1 hset (by rw [hl]; exact h3) h4 (by simpa using h5) (by
      rw [hl]
      have e1 : (cur.setIfInBounds D.length (.int .i64 (-z))).toList = cur.toList.set D.length (.int .i64 (-z)) := by simp
      rw [e1, List.take_set, h6, List.map_append, List.map_append, List.set_append_right _ _ (by simp)]
      simp [vI])
    rw [hl] at this
    exact this
/-- The last decision taken back. -/
theorem DecR.cut {g cap : Nat} (h : DecR w N (.slice (some ⟨g, 0, none⟩) (D.length + 1) cap) (D ++ [z])) : DecR w N (.slice (some ⟨g, 0, none⟩) D.length cap) D := by
  rcases h.cases_ with ⟨e, _⟩ | ⟨g', cap', cur, e, h1, h2, h3, h4, h5, h6⟩
  · cases e
  · have hl : (D ++ [z]).length = D.length + 1 := by simp
    rw [hl] at h3 h6 e
    injection e with e1 _ e3
    injection e1 with e4
    injection e4 with e5
    subst e5
    subst e3
    refine DecR.mk_ h1 h2 (by omega) h4 h5 ?_
    have h7 := congrArg (List.take D.length) h6
    rw [List.take_take, Nat.min_eq_left (by omega), List.map_append, List.take_left' (by simp)] at h7
    exact h7
end
set_option maxRecDepth 100000 in
set_option maxHeartbeats 800000 in
/-- One more decision. -/
theorem wp_dec1 {o : Oper} {a : Act} {K : Act → World → Prop} {Q : Exit → Act → World → Prop} {W : World} {N : Nat} {dv : Value} {D : List Int} {z : Int} (s x : Operand)
    (ho : o.op = .call { callee := .builtin .append, args := #[s, x], argTypes := #[85, 85] })
    (h : DecR W N dv D) (hN : N ≤ W.heap.size) (hs : a.eval s = dv) {H : Nat} (hx : a.eval x = .slice (some ⟨H, 0, none⟩) 1 1) {T' : TypeId} (hnew : W.heap[H]? = some (.cells #[.int .i64 z] T' (0, 0))) (hk : D.length ≤ 1000)
    (hK : ∀ g cap' w', DecR w' N (.slice (some ⟨g, 0, none⟩) (D.length + 1) cap') (D ++ [z]) → W.grownBy w' dv.ownBlock → K (a.put o.dst (.slice (some ⟨g, 0, none⟩) (D.length + 1) cap')) w') :
    o.wp Try.prog a W K Q := by
  obtain ⟨i0, hi, hz0, hz1, hz2⟩ := info_parts Try.infoLit
  refine wp_append_lies _ s x 85 ho N 84 i0 _ 1 8 Try.underlying85 hi hz0 hz1 hz2 rfl (by omega) dv D.length _ hs h ⟨H, 0, none⟩ 1 1 [.int .i64 z] hx (by rfl)
    (World.news_of_block hnew) (by simp [Value.oneCell']) (by omega) (by unfold maxLen; omega) (by omega) hN W.heap.size rfl ?_
  intro g cap' w' hown hg _ _
  refine hK _ _ w' ?_ hg
  unfold DecR
  rw [List.length_append, List.map_append]
  exact hown

theorem below_cells {n b : Nat} (hn : n ≤ b) {w0 : World} : ∀ (vs : List Value) (o : Nat) (w : World), Below n w0 w → Below n w0 (w.setCells b o vs) := by
  intro vs
  induction vs with
  | nil => intro o w h; exact h
  | cons v vs ih => intro o w h; exact ih (o + 1) _ (h.setCell (p := ⟨b, o, none⟩) hn v)
/-- The twelve cells of a result are there still. -/
theorem there12 {w w2 : World} {R : Nat} {cs : Array Value} {T : TypeId} (h : w.heap[R]? = some (.cells cs T (0, 0))) (hs : 12 ≤ cs.size) (hb : Below w.heap.size w w2) : w2.there R 0 12 := fun j hj => by
  have hlt : R < w.heap.size := (Array.getElem?_eq_some_iff.1 h).1
  have h1 := (hb.block R hlt).trans h
  rw [Nat.zero_add]
  exact ⟨by rw [cell_of_row w2 R j _ _ _ h1, Array.getElem?_eq_getElem (by omega)]; rfl, by simp [World.frozen?, h1]⟩
/-- What the decisions' row reads. -/
theorem DecR.rd {w : World} {N : Nat} {dv : Value} {D : List Int} (h : DecR w N dv D) : ∃ A cap, dv = .slice A D.length cap ∧ RdI w w.heap.size A D.length (fun i => D.getD i 0) := by
  rcases h.cases_ with ⟨e, e2⟩ | ⟨g, cap, cur, e, h1, h2, _⟩
  · exact ⟨none, 0, by rw [e, e2]; rfl, fun hn => by rw [e2] at hn; cases hn⟩
  · refine ⟨_, cap, e, fun _ => ⟨g, 0, rfl, ?_, fun i hi => ?_⟩⟩
    · rcases Nat.lt_or_ge g w.heap.size with hlt | hge
      · exact hlt
      · rw [Array.getElem?_eq_none hge] at h2; cases h2
    · obtain ⟨g', cap', e', hc, _⟩ := h.cell hi
      rw [e] at e'
      cases e'
      rw [Nat.zero_add]
      exact hc
theorem OwnV.turnI {w : World} {G n : Nat} {T : TypeId} {v v' : Nat → Int} {j : Nat} {z : Int} (h : OwnV w G T n n v) (hj : j < n) (hv : ∀ i, i < n → v' i = if i = j then z else v i) : OwnV (w.setCell ⟨G, j, none⟩ (.int .i64 z)) G T n n v' := by
  obtain ⟨cs, hh, h1, h2⟩ := h
  refine ⟨cs.setIfInBounds j (.int .i64 z), by simp [World.setCell, Array.getElem?_modify, hh], by simp [h1], fun i hi => ?_⟩
  rw [Array.getElem?_setIfInBounds, hv i hi]
  by_cases e : j = i
  · subst e
    rw [if_pos rfl, if_pos (by omega), if_pos rfl]
  · rw [if_neg e, if_neg (by omega)]
    exact h2 i hi
theorem take_one {D : List Int} {k : Nat} (hk : k < D.length) : D.take (k + 1) = D.take k ++ [D.getD k 0] := by
  rw [List.take_succ_eq_append_getElem hk]
  simp [List.getD, List.getElem?_eq_getElem hk]
theorem getD_mem {D : List Int} {k : Nat} (hk : k < D.length) : D.getD k 0 ∈ D := by
  simp [List.getD, List.getElem?_eq_getElem hk]

set_option maxRecDepth 100000 in
set_option maxHeartbeats 3200000 in
theorem propDec_any (S B N : Nat) (dv : Value) (D : List Int) (lo : Nat → Prop) (m : Nat) (lv : Value) (p : Nat → Con) (uv : Nat → Value) (w : World) (hm : m ≤ 1400) (hok : ∀ i, i < m → okC (p i) ∧ (p i).n ≤ 1048576) (hD : okD D)
    (hS : BoxS w S B dv) (hR : DecR w N dv D) (hPg : Pg w lo B lv m m p (fun i => slkC (p i) z0) (usP p m) uv) :
    Calls Try.prog 79 #[.pointer (some ⟨S, 0, none⟩)] w fun e w' => ∃ V r, e = .returned (.tuple #[arrV V, .int .i64 r]) ∧ Runs p m 0 (asgL z0 D) V r ∧ rng V ∧ Below w.heap.size w w' := by
  have hlen := okD_len hD
  have HOk := Lib.hid hok
  have HD := Lib.hid hD
  have HPg := Lib.hid hPg
  obtain ⟨A, cap, hdv, hrd⟩ := hR.rd
  subst hdv
  have HRd := Lib.hid hrd
  have HSw := hS.lt
  have HS := Lib.hid hS
  clear hok hD hPg hrd hR hS
  go_enter Try.func79, Try.ntmps79
  go_upto_region 2 with fail
  have hs := start12 w z0 121
  have hfst : ((w.alloc (.cells (cells12 z0) 121)).alloc (.cells (cells12 z0) 121)).heap[w.heap.size]? = some (.cells (cells12 z0) 121 (0, 0)) := (Below.heap_alloc _ _ _ (by simp)).trans (heap_alloc_new w _)
  simp only [cells12, z0] at hs hfst
  generalize (World.alloc (World.alloc w _) _) = W1 at hs hfst ⊢
  obtain ⟨hb1, hr3, h4, hsz⟩ := hs
  have HB1 := Lib.hid hb1
  have HOw := Lib.hid (show OwnV W1 (w.heap.size + 1) 121 12 12 (asgL z0 (D.take 0)) from ⟨_, h4, Nat.le_refl _, fun i hi => cells12_at z0 hi⟩)
  have HR3 := Lib.hid hfst
  have HSz := Lib.hid hsz
  have hW1 : w.heap.size + 1 < W1.heap.size := by omega
  have hd1 := HS.out.below hb1
  have x1 := hd1.c1
  clear h4 hr3 hb1 hsz hd1 hfst
  go_wp2
  clear x1
  go_loopw [12] (fun i wr => ∃ k : Nat, k ≤ D.length ∧ i = .int .i64 k ∧ OwnV wr (w.heap.size + 1) 121 12 12 (asgL z0 (D.take k)) ∧ Below (w.heap.size + 1) W1 wr) (fun i _ => D.length - (intOf i).toNat)
  case atStart => exact ⟨0, Nat.zero_le _, rfl, HOw.out, Below.refl _ _⟩
  case round =>
    obtain ⟨k, hk, rfl, hown, hb⟩ := hrel
    have HO := Lib.hid hown
    have HB := Lib.hid hb
    clear hown hb HOw
    by_cases hlt : k < D.length
    · obtain ⟨b, off, rfl, hbl, hc⟩ := HRd.out (by omega)
      have hck := (HB.out.cell (p := ⟨b, off + k, none⟩) (by show b < w.heap.size + 1; omega)).trans (kc HB1.out (hc k hlt))
      obtain ⟨z, hz⟩ : ∃ z, D.getD k 0 = z := ⟨_, rfl⟩
      have HZ := Lib.hid (show litB z = true from hz ▸ HD.out.1 _ (getD_mem hlt))
      have HT := Lib.hid (show D.take (k + 1) = D.take k ++ [z] from hz ▸ take_one hlt)
      simp only [hz] at hck
      clear hc hz
      go_wp2_with fail
      refine (ptMake_any (w.heap.size + 1) 0 z wr HZ.out (fun i hi => by rw [Nat.zero_add]; exact HO.out.cell hi) (fun i hi => by rw [Nat.zero_add]; exact HO.out.frozen i)).mono ?_
      rintro e w2 ⟨rfl, hw2⟩
      have hvx := (vix_lt HZ.out).1
      have HO2 := Lib.hid (show OwnV w2 (w.heap.size + 1) 121 12 12 (asgL z0 (D.take (k + 1))) from by
        rw [hw2, HT.out, asgL_snoc, asg_vix HZ.out, Nat.zero_add]
        exact (HO.out.turnI (z := sgn1 z) hvx (fun _ _ => rfl)).at_ rfl)
      have HB2 := Lib.hid (show Below (w.heap.size + 1) W1 w2 from by
        rw [hw2]
        exact (HB.out.setCell (p := ⟨w.heap.size + 1, _, none⟩) (Nat.le_refl _) _).drew)
      clear hw2 hck
      go_wp2
      go_roundw
      case rel => exact ⟨k + 1, by omega, by go_num, HO2.out, HB2.out⟩
      case measure => simp [intOf]; omega
    · have e : k = D.length := by omega
      subst e
      rw [List.take_length] at HO
      have hrv := asgL_rng rng_z0 D
      have htl := asgL_tail D z0 HD.out.1 (fun _ _ => rfl)
      obtain ⟨v, hv⟩ : ∃ v, asgL z0 D = v := ⟨_, rfl⟩
      have HV := Lib.hid hv
      rw [hv] at HO hrv htl
      have HRv := Lib.hid hrv
      have HTl := Lib.hid htl
      have hbw : Below w.heap.size w wr := HB1.out.trans (HB.out.mono (by omega))
      have HBw := Lib.hid hbw
      have c0 := (HS.out.below hbw).c0
      have HPr := Lib.hid (HPg.out.below hbw)
      have s0 : wr.rangeAt (w.heap.size + 1) 0 (cl12 v) := range12 (v := v) fun i hi => by
        obtain ⟨cs, hh, _, h2⟩ := HO.out
        rw [Nat.zero_add]
        exact (cell_of_row wr _ _ cs _ _ hh).trans (h2 i hi)
      have hu := Try.underlying121
      have hsz12 : (Try.prog.info? 121).map (·.size) = some (cl12 v).length := by kernel_rfl
      have HRr := Lib.hid ((HB.out.block w.heap.size (by omega)).trans HR3.out)
      have hzw : w.heap.size + 1 < wr.heap.size := Nat.lt_of_lt_of_le hW1 HB.out.size
      clear hrv htl hv hbw HB HRd HR3 HSz
      go_wp2_with fail
      go_region_held3 (fun w' => w'.cell? ⟨S, 0, none⟩ = some (.pointer (some ⟨B, 0, none⟩)) ∧ w'.rangeAt (w.heap.size + 1) 0 (cl12 v)) (first | go_keep | exact ⟨(World.cell?_setCells_out _ _ _ _ _ (fun e _ => by have e' : S = w.heap.size := e; omega)).trans c0, World.rangeAt_setCells_apart s0 _ _ _ (.inl (by omega))⟩)
        (first | (go_at_call 88; refine (pgProp_any B lo m lv p uv v _ hm HOk.out HRv.out HTl.out (HPr.out.below ((Below.refl wr.heap.size wr).drew))).mono ?_; rintro e w2 ⟨V, r, rfl, hruns, hrngV, hb⟩; have HB2 := Lib.hid (bl_trans ((Below.refl wr.heap.size wr).drew) hb); have HRuns := Lib.hid hruns; have HRng := Lib.hid hrngV; replace c0 := kc hb c0; replace s0 := range_kc hb s0; have hone : ∀ u : Value, u ∈ ([.int .i64 (V 0), .int .i64 (V 1), .int .i64 (V 2), .int .i64 (V 3), .int .i64 (V 4), .int .i64 (V 5), .int .i64 (V 6), .int .i64 (V 7), .int .i64 (V 8), .int .i64 (V 9), .int .i64 (V 10), .int .i64 (V 11)] : List Value) → u.oneCell' = true := (by intro u hu; simp only [List.mem_cons, List.not_mem_nil, or_false] at hu; rcases hu with rfl | rfl | rfl | rfl | rfl | rfl | rfl | rfl | rfl | rfl | rfl | rfl <;> rfl); have hth : w2.there w.heap.size 0 ([.int .i64 (V 0), .int .i64 (V 1), .int .i64 (V 2), .int .i64 (V 3), .int .i64 (V 4), .int .i64 (V 5), .int .i64 (V 6), .int .i64 (V 7), .int .i64 (V 8), .int .i64 (V 9), .int .i64 (V 10), .int .i64 (V 11)] : List Value).length := (there12 HRr.out (Nat.le_refl _) HB2.out); clear hb hruns hrngV))
      have HTh := Lib.hid hth
      clear hone c0 s0 hth
      go_wp2
      have hr := World.rangeAt_setCells_same w2 w.heap.size 0 [.int .i64 (V 0), .int .i64 (V 1), .int .i64 (V 2), .int .i64 (V 3), .int .i64 (V 4), .int .i64 (V 5), .int .i64 (V 6), .int .i64 (V 7), .int .i64 (V 8), .int .i64 (V 9), .int .i64 (V 10), .int .i64 (V 11)] HTh.out
      have r0 : (w2.setCells w.heap.size 0 [.int .i64 (V 0), .int .i64 (V 1), .int .i64 (V 2), .int .i64 (V 3), .int .i64 (V 4), .int .i64 (V 5), .int .i64 (V 6), .int .i64 (V 7), .int .i64 (V 8), .int .i64 (V 9), .int .i64 (V 10), .int .i64 (V 11)]).cell? ⟨w.heap.size, 0, none⟩ = some (.int .i64 (V 0)) := hr 0 _ rfl
      have r1 : (w2.setCells w.heap.size 0 [.int .i64 (V 0), .int .i64 (V 1), .int .i64 (V 2), .int .i64 (V 3), .int .i64 (V 4), .int .i64 (V 5), .int .i64 (V 6), .int .i64 (V 7), .int .i64 (V 8), .int .i64 (V 9), .int .i64 (V 10), .int .i64 (V 11)]).cell? ⟨w.heap.size, 1, none⟩ = some (.int .i64 (V 1)) := hr 1 _ rfl
      have r2 : (w2.setCells w.heap.size 0 [.int .i64 (V 0), .int .i64 (V 1), .int .i64 (V 2), .int .i64 (V 3), .int .i64 (V 4), .int .i64 (V 5), .int .i64 (V 6), .int .i64 (V 7), .int .i64 (V 8), .int .i64 (V 9), .int .i64 (V 10), .int .i64 (V 11)]).cell? ⟨w.heap.size, 2, none⟩ = some (.int .i64 (V 2)) := hr 2 _ rfl
      have r3 : (w2.setCells w.heap.size 0 [.int .i64 (V 0), .int .i64 (V 1), .int .i64 (V 2), .int .i64 (V 3), .int .i64 (V 4), .int .i64 (V 5), .int .i64 (V 6), .int .i64 (V 7), .int .i64 (V 8), .int .i64 (V 9), .int .i64 (V 10), .int .i64 (V 11)]).cell? ⟨w.heap.size, 3, none⟩ = some (.int .i64 (V 3)) := hr 3 _ rfl
      have r4 : (w2.setCells w.heap.size 0 [.int .i64 (V 0), .int .i64 (V 1), .int .i64 (V 2), .int .i64 (V 3), .int .i64 (V 4), .int .i64 (V 5), .int .i64 (V 6), .int .i64 (V 7), .int .i64 (V 8), .int .i64 (V 9), .int .i64 (V 10), .int .i64 (V 11)]).cell? ⟨w.heap.size, 4, none⟩ = some (.int .i64 (V 4)) := hr 4 _ rfl
      have r5 : (w2.setCells w.heap.size 0 [.int .i64 (V 0), .int .i64 (V 1), .int .i64 (V 2), .int .i64 (V 3), .int .i64 (V 4), .int .i64 (V 5), .int .i64 (V 6), .int .i64 (V 7), .int .i64 (V 8), .int .i64 (V 9), .int .i64 (V 10), .int .i64 (V 11)]).cell? ⟨w.heap.size, 5, none⟩ = some (.int .i64 (V 5)) := hr 5 _ rfl
      have r6 : (w2.setCells w.heap.size 0 [.int .i64 (V 0), .int .i64 (V 1), .int .i64 (V 2), .int .i64 (V 3), .int .i64 (V 4), .int .i64 (V 5), .int .i64 (V 6), .int .i64 (V 7), .int .i64 (V 8), .int .i64 (V 9), .int .i64 (V 10), .int .i64 (V 11)]).cell? ⟨w.heap.size, 6, none⟩ = some (.int .i64 (V 6)) := hr 6 _ rfl
      have r7 : (w2.setCells w.heap.size 0 [.int .i64 (V 0), .int .i64 (V 1), .int .i64 (V 2), .int .i64 (V 3), .int .i64 (V 4), .int .i64 (V 5), .int .i64 (V 6), .int .i64 (V 7), .int .i64 (V 8), .int .i64 (V 9), .int .i64 (V 10), .int .i64 (V 11)]).cell? ⟨w.heap.size, 7, none⟩ = some (.int .i64 (V 7)) := hr 7 _ rfl
      have r8 : (w2.setCells w.heap.size 0 [.int .i64 (V 0), .int .i64 (V 1), .int .i64 (V 2), .int .i64 (V 3), .int .i64 (V 4), .int .i64 (V 5), .int .i64 (V 6), .int .i64 (V 7), .int .i64 (V 8), .int .i64 (V 9), .int .i64 (V 10), .int .i64 (V 11)]).cell? ⟨w.heap.size, 8, none⟩ = some (.int .i64 (V 8)) := hr 8 _ rfl
      have r9 : (w2.setCells w.heap.size 0 [.int .i64 (V 0), .int .i64 (V 1), .int .i64 (V 2), .int .i64 (V 3), .int .i64 (V 4), .int .i64 (V 5), .int .i64 (V 6), .int .i64 (V 7), .int .i64 (V 8), .int .i64 (V 9), .int .i64 (V 10), .int .i64 (V 11)]).cell? ⟨w.heap.size, 9, none⟩ = some (.int .i64 (V 9)) := hr 9 _ rfl
      have r10 : (w2.setCells w.heap.size 0 [.int .i64 (V 0), .int .i64 (V 1), .int .i64 (V 2), .int .i64 (V 3), .int .i64 (V 4), .int .i64 (V 5), .int .i64 (V 6), .int .i64 (V 7), .int .i64 (V 8), .int .i64 (V 9), .int .i64 (V 10), .int .i64 (V 11)]).cell? ⟨w.heap.size, 10, none⟩ = some (.int .i64 (V 10)) := hr 10 _ rfl
      have r11 : (w2.setCells w.heap.size 0 [.int .i64 (V 0), .int .i64 (V 1), .int .i64 (V 2), .int .i64 (V 3), .int .i64 (V 4), .int .i64 (V 5), .int .i64 (V 6), .int .i64 (V 7), .int .i64 (V 8), .int .i64 (V 9), .int .i64 (V 10), .int .i64 (V 11)]).cell? ⟨w.heap.size, 11, none⟩ = some (.int .i64 (V 11)) := hr 11 _ rfl
      have hbf : Below w.heap.size w (w2.setCells w.heap.size 0 [.int .i64 (V 0), .int .i64 (V 1), .int .i64 (V 2), .int .i64 (V 3), .int .i64 (V 4), .int .i64 (V 5), .int .i64 (V 6), .int .i64 (V 7), .int .i64 (V 8), .int .i64 (V 9), .int .i64 (V 10), .int .i64 (V 11)]) := by
        exact below_cells (Nat.le_refl _) _ _ _ (HBw.out.trans (HB2.out.mono HBw.out.size))
      clear hr
      generalize w2.setCells w.heap.size 0 [.int .i64 (V 0), .int .i64 (V 1), .int .i64 (V 2), .int .i64 (V 3), .int .i64 (V 4), .int .i64 (V 5), .int .i64 (V 6), .int .i64 (V 7), .int .i64 (V 8), .int .i64 (V 9), .int .i64 (V 10), .int .i64 (V 11)] = W6 at *
      refine bodyPost_ret (v := .tuple #[.agg #[.int .i64 (V 0), .int .i64 (V 1), .int .i64 (V 2), .int .i64 (V 3), .int .i64 (V 4), .int .i64 (V 5), .int .i64 (V 6), .int .i64 (V 7), .int .i64 (V 8), .int .i64 (V 9), .int .i64 (V 10), .int .i64 (V 11)], .int .i64 r]) (by simp [results, Try.results79, go_sem, r0, r1, r2, r3, r4, r5, r6, r7, r8, r9, r10, r11]) rfl ?_
      exact ⟨V, r, rfl, HV.out ▸ HRuns.out, HRng.out, hbf⟩
end Go.Proofs.Ytaenbajghblgiaa
