/- The program's Propagate (no claim of its own). Conditions: as each theorem states. -/
import Derived.Test.YtooknldfkcdneaaPsW
import Derived.Test.YtooknldfkcdneaaPrgU
namespace Go.Proofs.Ytooknldfkcdneaa
open Go.Conc Go.ChangeShapes Go.WideShapes Go.ChangeAt Go.RowKit Go.Shelf

theorem there_new (W : World) (cs : Array Value) (T : TypeId) (hs : cs.size = 12) : (W.alloc (.cells cs T)).there W.heap.size 0 12 := by
  have hh := heap_alloc_new W (.cells cs T)
  generalize W.alloc (.cells cs T) = W1 at *
  intro j hj
  refine ⟨?_, by simp [World.frozen?, hh]⟩
  rw [(cell_of_row _ W.heap.size (0 + j) cs _ _ hh), Array.getElem?_eq_getElem (by omega)]
  rfl
theorem there_kc {W W' : World} {g : Nat} (hb : Below W.heap.size W W') (h : W.there g 0 12) : W'.there g 0 12 := fun j hj => by
  obtain ⟨h1, h2⟩ := h j hj
  obtain ⟨u, hu⟩ := Option.isSome_iff_exists.1 h1
  have hlt : g < W.heap.size := by
    rcases Nat.lt_or_ge g W.heap.size with h | h
    · exact h
    · simp [World.cell?, Array.getElem?_eq_none h] at hu
  have e := hb.block g hlt
  exact ⟨by rw [kc hb hu]; rfl, by rw [World.frozen?_of_block (a := ⟨g, 0 + j, none⟩) e]; exact h2⟩
theorem bl_setCells {a w : World} (h : Below a.heap.size a w) {g : Nat} (hg : a.heap.size ≤ g) (vs : List Value) (o : Nat) : Below a.heap.size a (w.setCells g o vs) := by
  have t := grown_setCells g vs o w
  exact ⟨t.os.trans h.os, t.tape.trans h.tape, t.output.trans h.output, Nat.le_trans h.size t.size, fun k hk => (t.block k (Nat.lt_of_lt_of_le hk h.size) (fun e => by injection e with e; omega)).trans (h.block k hk)⟩
/-- What the variable of the answer holds behind the store. -/
theorem own_set12 {w : World} {g : Nat} {T : TypeId} (V : Nat → Int) (h : w.heap[g]? = some (.cells #[.int .i64 0, .int .i64 0, .int .i64 0, .int .i64 0, .int .i64 0, .int .i64 0, .int .i64 0, .int .i64 0, .int .i64 0, .int .i64 0, .int .i64 0, .int .i64 0] T (0, 0))) : OwnV (w.setCells g 0 (cl12 V)) g T 12 12 V ∧ w.there g 0 12 := by
  have ht : w.there g 0 (cl12 V).length := fun j hj => by
    have hj : j < 12 := hj
    refine ⟨?_, by simp [World.frozen?, h]⟩
    rw [(cell_of_row _ g (0 + j) _ _ _ h), Array.getElem?_eq_getElem (by simp; omega)]
    rfl
  obtain ⟨cs', e1, e2⟩ := shape_setCells g T (cl12 V) 0 w _ h
  have hr := World.rangeAt_setCells_same w g 0 (cl12 V) ht
  refine ⟨⟨cs', e1, by rw [e2]; exact Nat.le_refl _, fun i hi => ?_⟩, ht⟩
  have := hr i (.int .i64 (V i)) (by have := cells12_at V hi; rw [show cells12 V = (cl12 V).toArray from rfl, List.getElem?_toArray] at this; exact this)
  rw [Nat.zero_add] at this
  exact (cell_of_row _ g i cs' _ _ e1).symm.trans this
theorem cl12_one (V : Nat → Int) : (cl12 V).toArray.all (·.oneCell') = true := by simp [cl12, Value.oneCell']
set_option linter.unusedSimpArgs false in
set_option maxRecDepth 100000 in
set_option maxHeartbeats 3200000 in
theorem implProp_any (A Ap : Option Addr) (m cap np capp : Nat) (p : Nat → Con) (v : Nat → Int) (w : World) (hm : m ≤ 1048576) (hnp : np ≤ 1048576) (hn : ∀ i, i < m → (p i).n ≤ 1048576) (hr : RdP w w.heap.size A m p) (hrv : RdI w w.heap.size Ap np v) (hv0 : np = 12 → ∀ i, 12 ≤ i → v i = 0) :
    Calls Try.prog 15 #[.slice A m cap, .slice Ap np capp] w (PRes w (probB m p && pvB np v) p m v) := by
  have HR := Lib.hid hr
  have HV := Lib.hid hrv
  clear hr hrv
  go_enter Try.func15, Try.ntmps15
  go_wp2_with fail
  refine (implProblem_any _ _ _ p _ hm hn HR.out).mono ?_
  rintro e w1 ⟨rfl, hb⟩
  have HB1 := Lib.hid hb
  clear hb
  cases hpb : probB m p with
  | false =>
    have HZ := Lib.hid (show (probB m p && pvB np v) = false by rw [hpb]; rfl)
    clear hpb
    go_wp2
    refine bodyPost_ret (v := .tuple #[.slice none 0 0, .int .i64 (-1), .bool false]) (by simp [results, Try.results15, go_sem]) rfl ?_
    rw [HZ.out]
    exact ⟨0, v, -1, none, 0, 3, rfl, .inl rfl, HB1.out, fun h => (by cases h), fun _ => ⟨rfl, rfl⟩⟩
  | true =>
    have Hpb := Lib.hid hpb
    go_wp2_with fail
    refine (implPartial_any _ _ _ v _ hnp (HV.out.later HB1.out)).mono ?_
    rintro e w2 ⟨rfl, e2⟩
    replace e2 := e2.symm
    subst e2
    cases hpv : pvB np v with
    | false =>
      have HZ := Lib.hid (show (probB m p && pvB np v) = false by rw [hpb, hpv]; rfl)
      clear hpb hpv
      go_wp2
      refine bodyPost_ret (v := .tuple #[.slice none 0 0, .int .i64 (-1), .bool false]) (by simp [results, Try.results15, go_sem]) rfl ?_
      rw [HZ.out]
      exact ⟨0, v, -1, none, 0, 3, rfl, .inl rfl, HB1.out, fun h => (by cases h), fun _ => ⟨rfl, rfl⟩⟩
    | true =>
      obtain ⟨e12, hrg⟩ := pvB_iff.1 hpv
      subst e12
      have HK := Lib.hid (show (probB m p && pvB 12 v) = true by rw [hpb, hpv]; rfl)
      obtain ⟨h400, hoks⟩ := prob_ok Hpb.out
      have HO := Lib.hid (show ∀ i, i < m → okC (p i) ∧ (p i).n ≤ 1048576 from fun i hi => ⟨hoks i hi, hn i hi⟩)
      have HG := Lib.hid (show rng v from hrg)
      have HV0 := Lib.hid (hv0 rfl)
      have HRp := Lib.hid (HR.out.later HB1.out)
      obtain ⟨b, off, rfl, hbl, hc⟩ := (HV.out.later HB1.out) (by omega)
      have s0 : w1.rangeAt b off (cl12 v) := range12 hc
      have hu12 := Try.underlying64
      have hsz12 : (Try.prog.info? 64).map (·.size) = some (cl12 v).length := by kernel_rfl
      have hat : ∀ W, (Instr.arrayAt 64 (.slice (some ⟨b, off, none⟩) 12 capp)).run Try.prog W = .ok (.pointer (some ⟨b, off, none⟩)) W := fun W => run_arrayAt W 64 _ 12 _ 12 capp Try.underlying64 (Nat.le_refl _)
      have hm14 : m ≤ 1400 := by omega
      clear hc hpv hrg hoks hpb Hpb HR HV hn hv0 h400
      go_wp2_with fail
      refine wp_region_held_drew (S := fun w' => w'.rangeAt b off (cl12 v)) (by kernel_rfl) ((World.rangeAt_drew _ _ _ _).2 s0) (fun hHeld => ?_)
      refine wpAnyH_take (i := 0) (v := .slice A m cap) rfl (by kernel_rfl) (by kernel_rfl) (by kernel_rfl) (fun _ _ _ h => h) (Or.inl ⟨by rfl, ?_⟩) (by assumption) ?_
      · intro w hSw; simp only [List.getElem_toArray, List.getElem_cons_zero, List.getElem_cons_succ]; go_simp
      simp only [Act.put, List.getElem_toArray, List.getElem_cons_zero, List.getElem_cons_succ, List.setIfInBounds_toArray, List.set_cons_zero, List.set_cons_succ]
      refine wpAnyH_take (i := 2) (v := .slice (some ⟨b, off, none⟩) 12 capp) rfl (by kernel_rfl) (by kernel_rfl) (by kernel_rfl) (fun _ _ _ h => h) (Or.inl ⟨by rfl, ?_⟩) (by assumption) ?_
      · intro w hSw; simp only [List.getElem_toArray, List.getElem_cons_zero, List.getElem_cons_succ]; go_simp
      simp only [Act.put, List.getElem_toArray, List.getElem_cons_zero, List.getElem_cons_succ, List.setIfInBounds_toArray, List.set_cons_zero, List.set_cons_succ]
      refine wpAnyH_take (i := 3) (v := .pointer (some ⟨b, off, none⟩)) rfl (by kernel_rfl) (by kernel_rfl) (by kernel_rfl) (fun _ _ _ h => h) (Or.inl ⟨by rfl, ?_⟩) (by assumption) ?_
      · intro w hSw; simp only [List.getElem_toArray, List.getElem_cons_zero, List.getElem_cons_succ]; go_simp
      simp only [Act.put, List.getElem_toArray, List.getElem_cons_zero, List.getElem_cons_succ, List.setIfInBounds_toArray, List.set_cons_zero, List.set_cons_succ]
      refine wpAnyH_take (i := 4) (v := .agg (cl12 v).toArray) rfl (by kernel_rfl) (by kernel_rfl) (by kernel_rfl) (fun _ _ _ h => h) (yieldsIf_load_mid (by rfl) 64 _ rfl b off rfl (cl12 v) _ (fun w h => h) hu12 rfl hsz12) (by assumption) ?_
      simp only [Act.put, List.getElem_toArray, List.getElem_cons_zero, List.getElem_cons_succ, List.setIfInBounds_toArray, List.set_cons_zero, List.set_cons_succ]
      clear hHeld hat
      refine wpAnyH_ready (rs := [1, 9]) (by kernel_rfl) (by simp) ?_
      refine AllReadyH.cons rfl (fun K hK => ?_) ?_
      · simp only [List.getElem_toArray, List.getElem_cons_zero, List.getElem_cons_succ]
        go_simp
        go_at_call 38
        refine (newPg_any A m cap p _ hm14 (HRp.out.later ((Below.refl w1.heap.size w1).drew)) HO.out).mono ?_
        rintro e w3 ⟨B, lv, uv, rfl, hPg, hb⟩
        have HPg := Lib.hid hPg
        have HB3 := Lib.hid (bl_trans (show Below w1.heap.size w1 _ from (Below.refl w1.heap.size w1).drew) hb)
        have s3 := range_kc HB3.out s0
        clear hPg hb
        refine hK.out _ _ s3 (fun hHeld => ?_)
        clear hK K
        try simp only [Act.put, List.getElem_toArray, List.getElem_cons_zero, List.getElem_cons_succ, List.setIfInBounds_toArray, List.set_cons_zero, List.set_cons_succ]
        refine wpAnyH_ready (rs := [5, 9]) (by kernel_rfl) (by simp) ?_
        refine AllReadyH.cons rfl (fun K hK => ?_) ?_
        · simp only [List.getElem_toArray, List.getElem_cons_zero, List.getElem_cons_succ]
          go_simp
          go_at_call 39
          refine (pgProp_any B _ m lv p uv v _ hm14 HO.out HG.out HV0.out (HPg.out.below (Below.refl _ _))).mono ?_
          rintro e w4 ⟨V, r, rfl, hr, hrv, hb⟩
          have HRr := Lib.hid hr
          have HRv := Lib.hid hrv
          have HB4 := Lib.hid (bl_trans (show Below w1.heap.size w1 _ from HB3.out) hb)
          have s4 := range_kc HB4.out s0
          clear hr hrv hb
          refine hK.out _ _ s4 (fun hHeld => ?_)
          clear hK K
          try simp only [Act.put, List.getElem_toArray, List.getElem_cons_zero, List.getElem_cons_succ, List.setIfInBounds_toArray, List.set_cons_zero, List.set_cons_succ]
          refine wpAnyH_take (i := 6) (v := .tuple #[arrV V, .int .i64 r]) rfl (by kernel_rfl) (by kernel_rfl) (by kernel_rfl) (fun _ _ _ h => h) (Or.inl ⟨by rfl, ?_⟩) (by assumption) ?_
          · intro w hSw; simp only [List.getElem_toArray, List.getElem_cons_zero, List.getElem_cons_succ]; go_simp
          simp only [Act.put, List.getElem_toArray, List.getElem_cons_zero, List.getElem_cons_succ, List.setIfInBounds_toArray, List.set_cons_zero, List.set_cons_succ]
          refine wpAnyH_take (i := 7) (v := .agg (cl12 V).toArray) rfl (by kernel_rfl) (by kernel_rfl) (by kernel_rfl) (fun _ _ _ h => h) (Or.inl ⟨by rfl, ?_⟩) (by assumption) ?_
          · intro w hSw; simp only [List.getElem_toArray, List.getElem_cons_zero, List.getElem_cons_succ]; go_simp; rfl
          simp only [Act.put, List.getElem_toArray, List.getElem_cons_zero, List.getElem_cons_succ, List.setIfInBounds_toArray, List.set_cons_zero, List.set_cons_succ]
          refine wpAnyH_take (i := 8) (v := .int .i64 r) rfl (by kernel_rfl) (by kernel_rfl) (by kernel_rfl) (fun _ _ _ h => h) (Or.inl ⟨by rfl, ?_⟩) (by assumption) ?_
          · intro w hSw; simp only [List.getElem_toArray, List.getElem_cons_zero, List.getElem_cons_succ]; go_simp
          simp only [Act.put, List.getElem_toArray, List.getElem_cons_zero, List.getElem_cons_succ, List.setIfInBounds_toArray, List.set_cons_zero, List.set_cons_succ]
          refine wpAnyH_ready (rs := [9]) (by kernel_rfl) (by simp) ?_
          refine AllReadyH.cons rfl (fun K hK => ?_) ?_
          · simp only [List.getElem_toArray, List.getElem_cons_zero, List.getElem_cons_succ]
            go_simp
            have hg : (World.alloc (w4) (.cells #[.int .i64 0, .int .i64 0, .int .i64 0, .int .i64 0, .int .i64 0, .int .i64 0, .int .i64 0, .int .i64 0, .int .i64 0, .int .i64 0, .int .i64 0, .int .i64 0] 64)).heap[w4.heap.size]? = some (.cells #[.int .i64 0, .int .i64 0, .int .i64 0, .int .i64 0, .int .i64 0, .int .i64 0, .int .i64 0, .int .i64 0, .int .i64 0, .int .i64 0, .int .i64 0, .int .i64 0] 64 (0, 0)) := heap_alloc_new (w4) _
            refine hK.out _ _ (World.rangeAt_alloc (s4) _) (fun hHeld => ?_)
            clear hK K
            try simp only [Act.put, List.getElem_toArray, List.getElem_cons_zero, List.getElem_cons_succ, List.setIfInBounds_toArray, List.set_cons_zero, List.set_cons_succ]
            obtain ⟨hown, hth⟩ := own_set12 V hg
            have hne : b ≠ w4.heap.size := by have := HB3.out.size; have := HB4.out.size; omega
            refine wpAnyH_ready (rs := [10]) (by kernel_rfl) (by simp) ?_
            refine AllReadyH.cons rfl (fun K hK => ?_) AllReadyH.nil
            simp only [List.getElem_toArray, List.getElem_cons_zero, List.getElem_cons_succ]
            rw [if_pos (by rfl)]
            refine wp_store_mid 64 _ _ rfl w4.heap.size 0 (cl12 V).toArray rfl rfl hth hsz12 (cl12_one V) ?_
            refine hK.out _ _ (World.rangeAt_setCells_apart hHeld w4.heap.size 0 (cl12 V) (.inl hne)) (fun hHeld => ?_)
            clear hK K
            try simp only [Act.put, List.getElem_toArray, List.getElem_cons_zero, List.getElem_cons_succ, List.setIfInBounds_toArray, List.set_cons_zero, List.set_cons_succ]
            refine wpAnyH_take (i := 11) (v := .int .i64 r) rfl (by kernel_rfl) (by kernel_rfl) (by kernel_rfl) (fun _ _ _ h => h) (Or.inl ⟨by rfl, ?_⟩) (by assumption) ?_
            · intro w hSw; simp only [List.getElem_toArray, List.getElem_cons_zero, List.getElem_cons_succ]; go_simp
            simp only [Act.put, List.getElem_toArray, List.getElem_cons_zero, List.getElem_cons_succ, List.setIfInBounds_toArray, List.set_cons_zero, List.set_cons_succ]
            refine wpAnyH_done (by kernel_rfl) ?_ _
            have HBE := Lib.hid (show Below w.heap.size w (World.setCells (World.alloc (w4) (.cells #[.int .i64 0, .int .i64 0, .int .i64 0, .int .i64 0, .int .i64 0, .int .i64 0, .int .i64 0, .int .i64 0, .int .i64 0, .int .i64 0, .int .i64 0, .int .i64 0] 64)) w4.heap.size 0 (cl12 V)) from bl_trans HB1.out (bl_setCells (bl_alloc HB4.out _) (show w1.heap.size ≤ w4.heap.size by have := HB3.out.size; have := HB4.out.size; omega) (cl12 V) 0))
            obtain ⟨WE, hWE⟩ : ∃ WE, World.setCells (World.alloc (w4) (.cells #[.int .i64 0, .int .i64 0, .int .i64 0, .int .i64 0, .int .i64 0, .int .i64 0, .int .i64 0, .int .i64 0, .int .i64 0, .int .i64 0, .int .i64 0, .int .i64 0] 64)) w4.heap.size 0 (cl12 V) = WE := ⟨_, rfl⟩
            rw [hWE] at hown HBE
            rw [hWE]
            have hle : w.heap.size ≤ w4.heap.size := by have := HB1.out.size; have := HB3.out.size; have := HB4.out.size; omega
            clear hWE hHeld hth HB4 HB3
            go_wp2
            refine bodyPost_ret (v := .tuple #[.slice (some ⟨w4.heap.size, 0, none⟩) 12 12, .int .i64 r, .bool true]) (by simp [results, Try.results15, go_sem]) rfl ?_
            rw [HK.out]
            exact ⟨12, V, r, _, _, _, rfl, .inr ⟨_, rfl, hle, hown⟩, HBE.out, fun _ => ⟨rfl, HRv.out, HRr.out⟩, fun h => (by cases h)⟩
          exact AllReadyH.nil
        refine AllReadyH.cons rfl (fun K hK => ?_) ?_
        · simp only [List.getElem_toArray, List.getElem_cons_zero, List.getElem_cons_succ]
          go_simp
          have hg : (World.alloc (w3) (.cells #[.int .i64 0, .int .i64 0, .int .i64 0, .int .i64 0, .int .i64 0, .int .i64 0, .int .i64 0, .int .i64 0, .int .i64 0, .int .i64 0, .int .i64 0, .int .i64 0] 64)).heap[w3.heap.size]? = some (.cells #[.int .i64 0, .int .i64 0, .int .i64 0, .int .i64 0, .int .i64 0, .int .i64 0, .int .i64 0, .int .i64 0, .int .i64 0, .int .i64 0, .int .i64 0, .int .i64 0] 64 (0, 0)) := heap_alloc_new (w3) _
          refine hK.out _ _ (World.rangeAt_alloc (s3) _) (fun hHeld => ?_)
          clear hK K
          try simp only [Act.put, List.getElem_toArray, List.getElem_cons_zero, List.getElem_cons_succ, List.setIfInBounds_toArray, List.set_cons_zero, List.set_cons_succ]
          refine wpAnyH_ready (rs := [5]) (by kernel_rfl) (by simp) ?_
          refine AllReadyH.cons rfl (fun K hK => ?_) ?_
          · simp only [List.getElem_toArray, List.getElem_cons_zero, List.getElem_cons_succ]
            go_simp
            go_at_call 39
            refine (pgProp_any B _ m lv p uv v _ hm14 HO.out HG.out HV0.out (HPg.out.below (bl_alloc (Below.refl w3.heap.size w3) _))).mono ?_
            rintro e w4 ⟨V, r, rfl, hr, hrv, hb⟩
            have HRr := Lib.hid hr
            have HRv := Lib.hid hrv
            have HB4 := Lib.hid (bl_trans (show Below w1.heap.size w1 _ from bl_alloc (HB3.out) _) hb)
            have s4 := range_kc HB4.out s0
            have hg4 := (hb.block _ (by simp)).trans hg
            clear hr hrv hb
            refine hK.out _ _ s4 (fun hHeld => ?_)
            clear hK K
            try simp only [Act.put, List.getElem_toArray, List.getElem_cons_zero, List.getElem_cons_succ, List.setIfInBounds_toArray, List.set_cons_zero, List.set_cons_succ]
            refine wpAnyH_take (i := 6) (v := .tuple #[arrV V, .int .i64 r]) rfl (by kernel_rfl) (by kernel_rfl) (by kernel_rfl) (fun _ _ _ h => h) (Or.inl ⟨by rfl, ?_⟩) (by assumption) ?_
            · intro w hSw; simp only [List.getElem_toArray, List.getElem_cons_zero, List.getElem_cons_succ]; go_simp
            simp only [Act.put, List.getElem_toArray, List.getElem_cons_zero, List.getElem_cons_succ, List.setIfInBounds_toArray, List.set_cons_zero, List.set_cons_succ]
            refine wpAnyH_take (i := 7) (v := .agg (cl12 V).toArray) rfl (by kernel_rfl) (by kernel_rfl) (by kernel_rfl) (fun _ _ _ h => h) (Or.inl ⟨by rfl, ?_⟩) (by assumption) ?_
            · intro w hSw; simp only [List.getElem_toArray, List.getElem_cons_zero, List.getElem_cons_succ]; go_simp; rfl
            simp only [Act.put, List.getElem_toArray, List.getElem_cons_zero, List.getElem_cons_succ, List.setIfInBounds_toArray, List.set_cons_zero, List.set_cons_succ]
            refine wpAnyH_take (i := 8) (v := .int .i64 r) rfl (by kernel_rfl) (by kernel_rfl) (by kernel_rfl) (fun _ _ _ h => h) (Or.inl ⟨by rfl, ?_⟩) (by assumption) ?_
            · intro w hSw; simp only [List.getElem_toArray, List.getElem_cons_zero, List.getElem_cons_succ]; go_simp
            simp only [Act.put, List.getElem_toArray, List.getElem_cons_zero, List.getElem_cons_succ, List.setIfInBounds_toArray, List.set_cons_zero, List.set_cons_succ]
            obtain ⟨hown, hth⟩ := own_set12 V hg4
            have hne : b ≠ w3.heap.size := by have := HB3.out.size; have := HB4.out.size; omega
            refine wpAnyH_ready (rs := [10]) (by kernel_rfl) (by simp) ?_
            refine AllReadyH.cons rfl (fun K hK => ?_) AllReadyH.nil
            simp only [List.getElem_toArray, List.getElem_cons_zero, List.getElem_cons_succ]
            rw [if_pos (by rfl)]
            refine wp_store_mid 64 _ _ rfl w3.heap.size 0 (cl12 V).toArray rfl rfl hth hsz12 (cl12_one V) ?_
            refine hK.out _ _ (World.rangeAt_setCells_apart hHeld w3.heap.size 0 (cl12 V) (.inl hne)) (fun hHeld => ?_)
            clear hK K
            try simp only [Act.put, List.getElem_toArray, List.getElem_cons_zero, List.getElem_cons_succ, List.setIfInBounds_toArray, List.set_cons_zero, List.set_cons_succ]
            refine wpAnyH_take (i := 11) (v := .int .i64 r) rfl (by kernel_rfl) (by kernel_rfl) (by kernel_rfl) (fun _ _ _ h => h) (Or.inl ⟨by rfl, ?_⟩) (by assumption) ?_
            · intro w hSw; simp only [List.getElem_toArray, List.getElem_cons_zero, List.getElem_cons_succ]; go_simp
            simp only [Act.put, List.getElem_toArray, List.getElem_cons_zero, List.getElem_cons_succ, List.setIfInBounds_toArray, List.set_cons_zero, List.set_cons_succ]
            refine wpAnyH_done (by kernel_rfl) ?_ _
            have HBE := Lib.hid (show Below w.heap.size w (World.setCells w4 w3.heap.size 0 (cl12 V)) from bl_trans HB1.out (bl_setCells (HB4.out) (show w1.heap.size ≤ w3.heap.size by have := HB3.out.size; have := HB4.out.size; omega) (cl12 V) 0))
            obtain ⟨WE, hWE⟩ : ∃ WE, World.setCells w4 w3.heap.size 0 (cl12 V) = WE := ⟨_, rfl⟩
            rw [hWE] at hown HBE
            rw [hWE]
            have hle : w.heap.size ≤ w3.heap.size := by have := HB1.out.size; have := HB3.out.size; have := HB4.out.size; omega
            clear hWE hHeld hth HB4 HB3
            go_wp2
            refine bodyPost_ret (v := .tuple #[.slice (some ⟨w3.heap.size, 0, none⟩) 12 12, .int .i64 r, .bool true]) (by simp [results, Try.results15, go_sem]) rfl ?_
            rw [HK.out]
            exact ⟨12, V, r, _, _, _, rfl, .inr ⟨_, rfl, hle, hown⟩, HBE.out, fun _ => ⟨rfl, HRv.out, HRr.out⟩, fun h => (by cases h)⟩
          exact AllReadyH.nil
        exact AllReadyH.nil
      refine AllReadyH.cons rfl (fun K hK => ?_) ?_
      · simp only [List.getElem_toArray, List.getElem_cons_zero, List.getElem_cons_succ]
        go_simp
        have hg : (World.alloc (w1.drew) (.cells #[.int .i64 0, .int .i64 0, .int .i64 0, .int .i64 0, .int .i64 0, .int .i64 0, .int .i64 0, .int .i64 0, .int .i64 0, .int .i64 0, .int .i64 0, .int .i64 0] 64)).heap[w1.heap.size]? = some (.cells #[.int .i64 0, .int .i64 0, .int .i64 0, .int .i64 0, .int .i64 0, .int .i64 0, .int .i64 0, .int .i64 0, .int .i64 0, .int .i64 0, .int .i64 0, .int .i64 0] 64 (0, 0)) := heap_alloc_new (w1.drew) _
        refine hK.out _ _ (World.rangeAt_alloc ((World.rangeAt_drew _ _ _ _).2 s0) _) (fun hHeld => ?_)
        clear hK K
        try simp only [Act.put, List.getElem_toArray, List.getElem_cons_zero, List.getElem_cons_succ, List.setIfInBounds_toArray, List.set_cons_zero, List.set_cons_succ]
        refine wpAnyH_ready (rs := [1]) (by kernel_rfl) (by simp) ?_
        refine AllReadyH.cons rfl (fun K hK => ?_) ?_
        · simp only [List.getElem_toArray, List.getElem_cons_zero, List.getElem_cons_succ]
          go_simp
          go_at_call 38
          refine (newPg_any A m cap p _ hm14 (HRp.out.later (bl_alloc ((Below.refl w1.heap.size w1).drew) _)) HO.out).mono ?_
          rintro e w3 ⟨B, lv, uv, rfl, hPg, hb⟩
          have HPg := Lib.hid hPg
          have HB3 := Lib.hid (bl_trans (show Below w1.heap.size w1 _ from bl_alloc ((Below.refl w1.heap.size w1).drew) _) hb)
          have s3 := range_kc HB3.out s0
          have hg3 := (hb.block _ (by simp)).trans hg
          have hlt3 : w1.heap.size < w3.heap.size := Nat.lt_of_lt_of_le (by simp) hb.size
          clear hPg hb
          refine hK.out _ _ s3 (fun hHeld => ?_)
          clear hK K
          try simp only [Act.put, List.getElem_toArray, List.getElem_cons_zero, List.getElem_cons_succ, List.setIfInBounds_toArray, List.set_cons_zero, List.set_cons_succ]
          refine wpAnyH_ready (rs := [5]) (by kernel_rfl) (by simp) ?_
          refine AllReadyH.cons rfl (fun K hK => ?_) ?_
          · simp only [List.getElem_toArray, List.getElem_cons_zero, List.getElem_cons_succ]
            go_simp
            go_at_call 39
            refine (pgProp_any B _ m lv p uv v _ hm14 HO.out HG.out HV0.out (HPg.out.below (Below.refl _ _))).mono ?_
            rintro e w4 ⟨V, r, rfl, hr, hrv, hb⟩
            have HRr := Lib.hid hr
            have HRv := Lib.hid hrv
            have HB4 := Lib.hid (bl_trans (show Below w1.heap.size w1 _ from HB3.out) hb)
            have s4 := range_kc HB4.out s0
            have hg4 := (hb.block _ (by exact hlt3)).trans hg3
            clear hr hrv hb
            refine hK.out _ _ s4 (fun hHeld => ?_)
            clear hK K
            try simp only [Act.put, List.getElem_toArray, List.getElem_cons_zero, List.getElem_cons_succ, List.setIfInBounds_toArray, List.set_cons_zero, List.set_cons_succ]
            refine wpAnyH_take (i := 6) (v := .tuple #[arrV V, .int .i64 r]) rfl (by kernel_rfl) (by kernel_rfl) (by kernel_rfl) (fun _ _ _ h => h) (Or.inl ⟨by rfl, ?_⟩) (by assumption) ?_
            · intro w hSw; simp only [List.getElem_toArray, List.getElem_cons_zero, List.getElem_cons_succ]; go_simp
            simp only [Act.put, List.getElem_toArray, List.getElem_cons_zero, List.getElem_cons_succ, List.setIfInBounds_toArray, List.set_cons_zero, List.set_cons_succ]
            refine wpAnyH_take (i := 7) (v := .agg (cl12 V).toArray) rfl (by kernel_rfl) (by kernel_rfl) (by kernel_rfl) (fun _ _ _ h => h) (Or.inl ⟨by rfl, ?_⟩) (by assumption) ?_
            · intro w hSw; simp only [List.getElem_toArray, List.getElem_cons_zero, List.getElem_cons_succ]; go_simp; rfl
            simp only [Act.put, List.getElem_toArray, List.getElem_cons_zero, List.getElem_cons_succ, List.setIfInBounds_toArray, List.set_cons_zero, List.set_cons_succ]
            refine wpAnyH_take (i := 8) (v := .int .i64 r) rfl (by kernel_rfl) (by kernel_rfl) (by kernel_rfl) (fun _ _ _ h => h) (Or.inl ⟨by rfl, ?_⟩) (by assumption) ?_
            · intro w hSw; simp only [List.getElem_toArray, List.getElem_cons_zero, List.getElem_cons_succ]; go_simp
            simp only [Act.put, List.getElem_toArray, List.getElem_cons_zero, List.getElem_cons_succ, List.setIfInBounds_toArray, List.set_cons_zero, List.set_cons_succ]
            obtain ⟨hown, hth⟩ := own_set12 V hg4
            have hne : b ≠ w1.heap.size := by have := HB3.out.size; have := HB4.out.size; omega
            refine wpAnyH_ready (rs := [10]) (by kernel_rfl) (by simp) ?_
            refine AllReadyH.cons rfl (fun K hK => ?_) AllReadyH.nil
            simp only [List.getElem_toArray, List.getElem_cons_zero, List.getElem_cons_succ]
            rw [if_pos (by rfl)]
            refine wp_store_mid 64 _ _ rfl w1.heap.size 0 (cl12 V).toArray rfl rfl hth hsz12 (cl12_one V) ?_
            refine hK.out _ _ (World.rangeAt_setCells_apart hHeld w1.heap.size 0 (cl12 V) (.inl hne)) (fun hHeld => ?_)
            clear hK K
            try simp only [Act.put, List.getElem_toArray, List.getElem_cons_zero, List.getElem_cons_succ, List.setIfInBounds_toArray, List.set_cons_zero, List.set_cons_succ]
            refine wpAnyH_take (i := 11) (v := .int .i64 r) rfl (by kernel_rfl) (by kernel_rfl) (by kernel_rfl) (fun _ _ _ h => h) (Or.inl ⟨by rfl, ?_⟩) (by assumption) ?_
            · intro w hSw; simp only [List.getElem_toArray, List.getElem_cons_zero, List.getElem_cons_succ]; go_simp
            simp only [Act.put, List.getElem_toArray, List.getElem_cons_zero, List.getElem_cons_succ, List.setIfInBounds_toArray, List.set_cons_zero, List.set_cons_succ]
            refine wpAnyH_done (by kernel_rfl) ?_ _
            have HBE := Lib.hid (show Below w.heap.size w (World.setCells w4 w1.heap.size 0 (cl12 V)) from bl_trans HB1.out (bl_setCells (HB4.out) (show w1.heap.size ≤ w1.heap.size by have := HB3.out.size; have := HB4.out.size; omega) (cl12 V) 0))
            obtain ⟨WE, hWE⟩ : ∃ WE, World.setCells w4 w1.heap.size 0 (cl12 V) = WE := ⟨_, rfl⟩
            rw [hWE] at hown HBE
            rw [hWE]
            have hle : w.heap.size ≤ w1.heap.size := by have := HB1.out.size; have := HB3.out.size; have := HB4.out.size; omega
            clear hWE hHeld hth HB4 HB3
            go_wp2
            refine bodyPost_ret (v := .tuple #[.slice (some ⟨w1.heap.size, 0, none⟩) 12 12, .int .i64 r, .bool true]) (by simp [results, Try.results15, go_sem]) rfl ?_
            rw [HK.out]
            exact ⟨12, V, r, _, _, _, rfl, .inr ⟨_, rfl, hle, hown⟩, HBE.out, fun _ => ⟨rfl, HRv.out, HRr.out⟩, fun h => (by cases h)⟩
          exact AllReadyH.nil
        exact AllReadyH.nil
      exact AllReadyH.nil
end Go.Proofs.Ytooknldfkcdneaa
