/- Permutations of a model's cells: the program's side (no claim of its own). Conditions: as each theorem states. -/
import Derived.Test.YtafiikfaeomhpaaPrmB
namespace Go.Proofs.Ytafiikfaeomhpaa
open Go.ChangeShapes Go.WideShapes Go.ChangeAt Go.RowKit Go.Shelf

theorem fit5n (c : Nat → Int) (n : Nat) : 0 + ((vlst c (Nat.min n 5)).map vI).length ≤ [Value.int .i64 (idn 0), .int .i64 (idn 1), .int .i64 (idn 2), .int .i64 (idn 3), .int .i64 (idn 4)].length := by
  rw [len_vlst]
  have : Nat.min n 5 ≤ 5 := Nat.min_le_right _ _
  simpa using this
theorem spl5 {w : World} {G : Nat} {T : TypeId} {c : Nat → Int} {n : Nat} (h : w.heap[G]? = some (.cells (splice [Value.int .i64 (idn 0), .int .i64 (idn 1), .int .i64 (idn 2), .int .i64 (idn 3), .int .i64 (idn 4)] 0 ((vlst c (Nat.min n 5)).map vI)).toArray T (0, 0))) : OwnV w G T 5 5 (exP n c) := by
  have hm5 : Nat.min n 5 ≤ 5 := Nat.min_le_right _ _
  refine ⟨_, h, ?_, fun i hi => ?_⟩
  · rw [List.size_toArray, length_splice _ _ _ (fit5n c n)]
    exact Nat.le_refl 5
  · rw [List.getElem?_toArray]
    unfold splice
    rw [len_vlst, List.take_zero, List.nil_append, Nat.zero_add]
    by_cases h1 : i < Nat.min n 5
    · have h2 : i < n := Nat.lt_of_lt_of_le h1 (Nat.min_le_left _ _)
      rw [List.getElem?_append_left (by rw [len_vlst]; exact h1), List.getElem?_map, vlst_get c h1, exP_at h2]
      rfl
    · have h2 : ¬ i < n := fun h3 => h1 (Nat.lt_min.2 ⟨h3, hi⟩)
      rw [List.getElem?_append_right (by rw [len_vlst]; omega), len_vlst, List.getElem?_drop, show Nat.min n 5 + (i - Nat.min n 5) = i by omega, exP_out h2]
      have : i = 0 ∨ i = 1 ∨ i = 2 ∨ i = 3 ∨ i = 4 := by omega
      rcases this with rfl | rfl | rfl | rfl | rfl <;> rfl
theorem heap5 {w : World} {H : Nat} {T : TypeId} {v : Nat → Int} (h : w.heap[H]? = some (.cells #[.int .i64 0, .int .i64 0, .int .i64 0, .int .i64 0, .int .i64 0] T (0, 0))) : (((((w.setCell ⟨H, 0, none⟩ (.int .i64 (v 0))).setCell ⟨H, 1, none⟩ (.int .i64 (v 1))).setCell ⟨H, 2, none⟩ (.int .i64 (v 2))).setCell ⟨H, 3, none⟩ (.int .i64 (v 3))).setCell ⟨H, 4, none⟩ (.int .i64 (v 4))).heap[H]? = some (.cells [Value.int .i64 (v 0), .int .i64 (v 1), .int .i64 (v 2), .int .i64 (v 3), .int .i64 (v 4)].toArray T (0, 0)) := by
  simp [World.setCell, Array.getElem?_modify, h]
theorem rd_src {w : World} {A : Option Addr} {n m : Nat} {c : Nat → Int} (h : RdI w w.heap.size A n c) (hm : m ≤ n) : 0 < ((vlst c m).map vI).length → ∃ ad, A = some ad ∧ ∀ j v, ((vlst c m).map vI)[j]? = some v → w.cell? (ad.add j) = some v := by
  intro h0
  rw [len_vlst] at h0
  obtain ⟨b, off, rfl, -, hc⟩ := h (by omega)
  exact ⟨_, rfl, src_vlst fun i hi => hc i (by omega)⟩

set_option linter.unusedVariables false in
set_option linter.unusedSimpArgs false in
set_option maxRecDepth 100000 in
set_option maxHeartbeats 1600000 in
theorem perm_any (s p : Lst) (n : Nat) (q : Nat → Rul) (As Ar Ap : Option Addr) (cs cr cp : Nat) (w : World) (p1 : s.n ≤ 1048576) (p2 : p.n ≤ 1048576) (p3 : n ≤ 1048576) (p4 : ∀ i, i < n → (q i).fit 1048576) (hs : RdI w w.heap.size As s.n s.x) (hr : RdRs w w.heap.size Ar n q) (hp : RdI w w.heap.size Ap p.n p.x) :
    Calls Try.prog 42 #[.agg #[.slice As s.n cs, .slice Ar n cr], .slice Ap p.n cp] w fun e w' => ∃ u, e = .returned (.tuple #[arr5 u, .bool (pmB s n q p)]) ∧ (pmB s n q p = true → u = exP p.n p.x) ∧ Below w.heap.size w w' := by
  have a0 : (w.alloc (.cells #[.slice As s.n cs, .slice Ar n cr] 30)).cell? ⟨w.heap.size, 0, none⟩ = some (.slice As s.n cs) := by go_simp
  have a1 : (w.alloc (.cells #[.slice As s.n cs, .slice Ar n cr] 30)).cell? ⟨w.heap.size, 1, none⟩ = some (.slice Ar n cr) := by go_simp
  obtain ⟨WA, hWA⟩ : ∃ W, w.alloc (.cells #[.slice As s.n cs, .slice Ar n cr] 30) = W := ⟨_, rfl⟩
  rw [hWA] at a0 a1
  obtain ⟨WB, hWB⟩ : ∃ W, WA.alloc (.cells #[.int .i64 0, .int .i64 0, .int .i64 0, .int .i64 0, .int .i64 0] 64) = W := ⟨_, rfl⟩
  have sA : WA.heap.size = w.heap.size + 1 := by rw [← hWA]; simp
  have sB : WB.heap.size = w.heap.size + 2 := by rw [← hWB]; simp [sA]
  have bA : Below w.heap.size w WA := by rw [← hWA]; exact bl_alloc (Below.refl _ _) _
  have bB : Below WA.heap.size WA WB := by rw [← hWB]; exact bl_alloc (Below.refl _ _) _
  replace a0 := kc bB a0
  replace a1 := kc bB a1
  have o2 : OwnV WB (w.heap.size + 1) 64 5 0 idn := by rw [← hWB, ← sA]; exact own5_new idn
  have HB := Lib.hid (bl_trans bA bB)
  have HS := Lib.hid hs
  have HR := Lib.hid hr
  have HP := Lib.hid hp
  have P4 := Lib.hid p4
  have O2 := Lib.hid o2
  have SB := Lib.hid sB
  clear bA bB o2 hs hr hp p4
  have hid := fun W => identity_any W
  unfold arr5 at hid
  have HI := Lib.hid hid
  clear hid
  go_enter Try.func42, Try.ntmps42
  go_wp2_with fail
  clear hWA hWB sA sB
  refine (HI.out _).mono ?_
  rintro e w2 ⟨rfl, hb⟩
  have HB2 := Lib.hid (bl_trans HB.out hb)
  replace a0 := kc hb a0
  replace a1 := kc hb a1
  have oz := O2.out.below hb
  have hz2 : w.heap.size + 2 ≤ w2.heap.size := by have := SB.out; have := hb.size; omega
  clear hb O2 HB SB
  obtain ⟨W3, hW3⟩ : ∃ W, w2.alloc (.cells #[.int .i64 0, .int .i64 0, .int .i64 0, .int .i64 0, .int .i64 0] 64) = W := ⟨_, rfl⟩
  have hb := bl_alloc (Below.refl w2.heap.size w2) (.cells #[.int .i64 0, .int .i64 0, .int .i64 0, .int .i64 0, .int .i64 0] 64)
  have o3 := own5_new (w := w2) (T := 64) idn
  rw [hW3] at hb o3
  have hh : W3.heap[w2.heap.size]? = some (.cells #[.int .i64 0, .int .i64 0, .int .i64 0, .int .i64 0, .int .i64 0] 64 (0, 0)) := by rw [← hW3]; exact heap_alloc_new _ _
  replace oz := oz.below hb
  replace a0 := kc hb a0
  replace a1 := kc hb a1
  have HB3 := Lib.hid (bl_trans HB2.out hb)
  obtain ⟨G, hG⟩ : ∃ G, w2.heap.size = G := ⟨_, rfl⟩
  rw [hG] at o3 hz2 hh
  have hle : w.heap.size ≤ G := by omega
  obtain ⟨yz0, z0⟩ := o3.cell (j := 0) (by omega)
  obtain ⟨yz1, z1⟩ := o3.cell (j := 1) (by omega)
  obtain ⟨yz2, z2⟩ := o3.cell (j := 2) (by omega)
  obtain ⟨yz3, z3⟩ := o3.cell (j := 3) (by omega)
  obtain ⟨yz4, z4⟩ := o3.cell (j := 4) (by omega)
  have fz0 := o3.frozen 0
  have fz1 := o3.frozen 1
  have fz2 := o3.frozen 2
  have fz3 := o3.frozen 3
  have fz4 := o3.frozen 4
  have hbb := bel5 HB3.out hle idn
  have o4 := oz.far5 (H := G) (by omega) idn
  have HBB := Lib.hid hbb
  have HO4 := Lib.hid o4
  have hh4 := heap5 (v := idn) hh
  have hb5 := bel5 (Below.refl G W3) (Nat.le_refl _) idn
  replace a0 := (hb5.cell (p := ⟨w.heap.size, 0, none⟩) (show w.heap.size < G by omega)).trans a0
  replace a1 := (hb5.cell (p := ⟨w.heap.size, 1, none⟩) (show w.heap.size < G by omega)).trans a1
  have HH4 := Lib.hid hh4
  have A0 := Lib.hid a0
  have A1 := Lib.hid a1
  clear hb hbb o3 o4 oz HB2 hh hh4 a0 a1 hb5
  go_upto_region 2 with fail
  clear hW3 z0 z1 z2 z3 z4 fz0 fz1 fz2 fz3 fz4
  generalize (((((W3.setCell ⟨G, 0, none⟩ (.int .i64 (idn 0))).setCell ⟨G, 1, none⟩ (.int .i64 (idn 1))).setCell ⟨G, 2, none⟩ (.int .i64 (idn 2))).setCell ⟨G, 3, none⟩ (.int .i64 (idn 3))).setCell ⟨G, 4, none⟩ (.int .i64 (idn 4))) = W4 at *
  have HP4 := Lib.hid (rd_src (HP.out.later HBB.out) (Nat.min_le_left p.n 5))
  go_wp2_with (with_reducible show wpList _ _ _ _ _ _; with_reducible refine wpList_copy_splice rfl (.tmp 8) (.tmp 9) 22 22 rfl 3 Try.underlying22 (by kernel_rfl) (some ⟨G, 0, none⟩) Ap 5 5 p.n cp rfl rfl G 0 [Value.int .i64 (idn 0), .int .i64 (idn 1), .int .i64 (idn 2), .int .i64 (idn 3), .int .i64 (idn 4)] 64 HH4.out ((vlst p.x (Nat.min p.n 5)).map vI) (len_vlst p.x (Nat.min p.n 5)) (fun h0 => ⟨rfl, HP4.out h0⟩) (fit5n p.x p.n) (one_vlst p.x _) G W4 (Below.refl G W4) (Nat.le_refl _) ?_; intro W5 hg5 hb5; have a0 := (hb5.cell (p := ⟨w.heap.size, 0, none⟩) (show w.heap.size < G by omega)).trans A0.out; have a1 := (hb5.cell (p := ⟨w.heap.size, 1, none⟩) (show w.heap.size < G by omega)).trans A1.out; have HG5 := Lib.hid (spl5 hg5.out); have oz := HO4.out.at_ (hb5.block (w.heap.size + 1) (show w.heap.size + 1 < G by omega)); have HB5 := Lib.hid (Below.trans HBB.out (hb5.mono hle)); have HZ5 := Lib.hid oz; clear hg5 hb5 HH4 HP4 oz HO4 HBB A0 A1)
  have hGl : G < W5.heap.size := HG5.out.lt
  refine (implValidM_any s n q _ _ _ _ _ p1 p3 P4.out (HS.out.later HB5.out) (HR.out.later HB5.out)).mono ?_
  rintro e w6 ⟨rfl, hb⟩
  have HB6 := Lib.hid (bl_trans HB5.out hb)
  replace a0 := kc hb a0
  replace a1 := kc hb a1
  have HG6 := Lib.hid (HG5.out.below hb)
  have HZ6 := Lib.hid (HZ5.out.below hb)
  clear hb HB5 HG5 HZ5 HB3
  have HNO := Lib.hid (fun (hx : pmB s n q p = false) => trivial)
  cases hm : modB s n q with
  | false =>
    have Hp := Lib.hid (show pmB s n q p = false from by unfold pmB; rw [hm]; rfl)
    clear hm a0 a1
    have oz := HZ6.out
    obtain ⟨yz0, z0⟩ := oz.cell (j := 0) (by omega)
    obtain ⟨yz1, z1⟩ := oz.cell (j := 1) (by omega)
    obtain ⟨yz2, z2⟩ := oz.cell (j := 2) (by omega)
    obtain ⟨yz3, z3⟩ := oz.cell (j := 3) (by omega)
    obtain ⟨yz4, z4⟩ := oz.cell (j := 4) (by omega)
    have fz0 := oz.frozen 0
    have fz1 := oz.frozen 1
    have fz2 := oz.frozen 2
    have fz3 := oz.frozen 3
    have fz4 := oz.frozen 4
    clear oz
    go_wp2
    refine bodyPost_ret (v := .tuple #[arr5 (fun _ => 0), .bool false]) (by simp [results, Try.results42, go_sem, z0, z1, z2, z3, z4, arr5]) rfl ?_
    exact ⟨_, by rw [Hp.out], fun h => (by rw [Hp.out] at h; cases h), bel5 (H := w.heap.size + 1) HB6.out (Nat.le_succ _) (fun _ => 0)⟩
  | true =>
    have hm2 := hm
    unfold modB at hm2
    simp only [Bool.and_eq_true, decide_eq_true_eq] at hm2
    have hs1 : 1 ≤ s.n := hm2.1.1
    have hs5 : s.n ≤ 5 := hm2.1.2
    have Hm := Lib.hid hm
    clear hm hm2
    by_cases d1 : p.n ≠ s.n
    · have d2 := int_ne d1
      have Hp := Lib.hid (show pmB s n q p = false from by unfold pmB; simp [d1])
      clear d1 hs1 hs5
      have oz := HZ6.out
      obtain ⟨yz0, z0⟩ := oz.cell (j := 0) (by omega)
      obtain ⟨yz1, z1⟩ := oz.cell (j := 1) (by omega)
      obtain ⟨yz2, z2⟩ := oz.cell (j := 2) (by omega)
      obtain ⟨yz3, z3⟩ := oz.cell (j := 3) (by omega)
      obtain ⟨yz4, z4⟩ := oz.cell (j := 4) (by omega)
      have fz0 := oz.frozen 0
      have fz1 := oz.frozen 1
      have fz2 := oz.frozen 2
      have fz3 := oz.frozen 3
      have fz4 := oz.frozen 4
      clear oz
      go_wp2
      refine bodyPost_ret (v := .tuple #[arr5 (fun _ => 0), .bool false]) (by simp [results, Try.results42, go_sem, z0, z1, z2, z3, z4, arr5]) rfl ?_
      exact ⟨_, by rw [Hp.out], fun h => (by rw [Hp.out] at h; cases h), bel5 (H := w.heap.size + 1) HB6.out (Nat.le_succ _) (fun _ => 0)⟩
    have d2 : p.n = s.n := by omega
    have Hd := Lib.hid (show pmB s n q p = (varB s.n p && kpB s.n s.x p.x) from by unfold pmB; rw [Hm.out]; simp [d2])
    clear d1
    obtain ⟨pn, px⟩ := p
    obtain ⟨sn, sx⟩ := s
    simp only at d2
    subst d2
    simp only at p1 p2 HS HP Hd a0 HB6 HG6 HZ6 hs1 hs5 ⊢
    have hx1 := exP_ok (c := px) hs1 hs5
    have hx2 := fun hv => keeps_eq (s := sx) (p := px) hs1 hs5 hv
    have hx3 := fun (hv : varB pn ⟨pn, px⟩ = true) => (srt_id.1 (srA_id.1 (hx1.trans hv))).1
    obtain ⟨u, hu⟩ : ∃ u, exP pn px = u := ⟨_, rfl⟩
    rw [hu] at hx1 hx2 hx3 HG6
    have HU := Lib.hid hu
    have HX1 := Lib.hid hx1
    have HX2 := Lib.hid hx2
    have HX3 := Lib.hid hx3
    have S1 := Lib.hid hs1
    have S5 := Lib.hid hs5
    have HSo := Lib.hid (fun W => psorted_any u W)
    have HSo2 := HSo.out
    have HKp := fun W => keeps_any ⟨pn, sx⟩ n As Ar cs cr u W
    unfold arr5 at HSo2
    have HSo3 := Lib.hid HSo2
    have hE := eqRunP (srA u) idn
    have HE := Lib.hid hE
    clear hu hx1 hx2 hx3 hs1 hs5 HSo HSo2 HKp hE
    have c0 := HG6.out.valP (j := 0) (by omega)
    have c1 := HG6.out.valP (j := 1) (by omega)
    have c2 := HG6.out.valP (j := 2) (by omega)
    have c3 := HG6.out.valP (j := 3) (by omega)
    have c4 := HG6.out.valP (j := 4) (by omega)
    go_wp2_with fail
    refine (HSo3.out _).mono ?_
    rintro e w7 ⟨rfl, hb⟩
    have HB7 := Lib.hid (bl_trans HB6.out hb)
    replace a0 := kc hb a0
    replace a1 := kc hb a1
    have HG7 := Lib.hid (HG6.out.below hb)
    have HZ7 := Lib.hid (HZ6.out.below hb)
    clear hb HB6 HG6 HZ6 c0 c1 c2 c3 c4
    obtain ⟨y, hy⟩ : ∃ y, srA u = y := ⟨_, rfl⟩
    rw [hy] at HE HX1
    rw [hy]
    clear hy
    go_wp2_with fail
    refine (HI.out _).mono ?_
    rintro e w8 ⟨rfl, hb⟩
    have HB8 := Lib.hid (bl_trans HB7.out hb)
    replace a0 := kc hb a0
    replace a1 := kc hb a1
    have HG8 := Lib.hid (HG7.out.below hb)
    have HZ8 := Lib.hid (HZ7.out.below hb)
    clear hb HB7 HG7 HZ7
    have hE := HE.out
    cases hv : varB pn ⟨pn, px⟩ with
    | false =>
      rw [HX1.out.trans hv] at hE
      have Hp := Lib.hid (show pmB ⟨pn, sx⟩ n q ⟨pn, px⟩ = false from by rw [Hd.out, hv]; rfl)
      clear hv a0 a1
      have oz := HZ8.out
      obtain ⟨yz0, z0⟩ := oz.cell (j := 0) (by omega)
      obtain ⟨yz1, z1⟩ := oz.cell (j := 1) (by omega)
      obtain ⟨yz2, z2⟩ := oz.cell (j := 2) (by omega)
      obtain ⟨yz3, z3⟩ := oz.cell (j := 3) (by omega)
      obtain ⟨yz4, z4⟩ := oz.cell (j := 4) (by omega)
      have fz0 := oz.frozen 0
      have fz1 := oz.frozen 1
      have fz2 := oz.frozen 2
      have fz3 := oz.frozen 3
      have fz4 := oz.frozen 4
      clear oz
      go_wp2
      refine bodyPost_ret (v := .tuple #[arr5 (fun _ => 0), .bool false]) (by simp [results, Try.results42, go_sem, z0, z1, z2, z3, z4, arr5]) rfl ?_
      exact ⟨_, by rw [Hp.out], fun h => (by rw [Hp.out] at h; cases h), bel5 (H := w.heap.size + 1) HB8.out (Nat.le_succ _) (fun _ => 0)⟩
    | true =>
      rw [HX1.out.trans hv] at hE
      have hk := HX2.out hv
      have HP5 := Lib.hid (HX3.out hv)
      have Hd2 := Lib.hid (show pmB ⟨pn, sx⟩ n q ⟨pn, px⟩ = kpB pn sx px from by rw [Hd.out, hv]; rfl)
      have Hk := Lib.hid hk
      clear hv hk
      have c0 := HG8.out.valP (j := 0) (by omega)
      have c1 := HG8.out.valP (j := 1) (by omega)
      have c2 := HG8.out.valP (j := 2) (by omega)
      have c3 := HG8.out.valP (j := 3) (by omega)
      have c4 := HG8.out.valP (j := 4) (by omega)
      go_wp2_with fail
      refine (keeps_any ⟨pn, sx⟩ n As Ar cs cr u w8 S1.out S5.out HP5.out (HS.out.later HB8.out)).mono ?_
      rintro e w9 ⟨rfl, hb⟩
      have HB9 := Lib.hid (bl_trans HB8.out hb)
      have HG9 := Lib.hid (HG8.out.below hb)
      have HZ9 := Lib.hid (HZ8.out.below hb)
      simp only
      rw [Hk.out]
      clear hb HB8 HG8 HZ8 c0 c1 c2 c3 c4 hE a0 a1
      have oz := HZ9.out
      obtain ⟨yz0, z0⟩ := oz.cell (j := 0) (by omega)
      obtain ⟨yz1, z1⟩ := oz.cell (j := 1) (by omega)
      obtain ⟨yz2, z2⟩ := oz.cell (j := 2) (by omega)
      obtain ⟨yz3, z3⟩ := oz.cell (j := 3) (by omega)
      obtain ⟨yz4, z4⟩ := oz.cell (j := 4) (by omega)
      have fz0 := oz.frozen 0
      have fz1 := oz.frozen 1
      have fz2 := oz.frozen 2
      have fz3 := oz.frozen 3
      have fz4 := oz.frozen 4
      clear oz
      cases hq : kpB pn sx px with
      | false =>
        have Hp := Lib.hid (Hd2.out.trans hq)
        clear hq
        go_wp2
        refine bodyPost_ret (v := .tuple #[arr5 (fun _ => 0), .bool false]) (by simp [results, Try.results42, go_sem, z0, z1, z2, z3, z4, arr5]) rfl ?_
        exact ⟨_, by rw [Hp.out], fun h => (by rw [Hp.out] at h; cases h), bel5 (H := w.heap.size + 1) HB9.out (Nat.le_succ _) (fun _ => 0)⟩
      | true =>
        have Hp := Lib.hid (Hd2.out.trans hq)
        clear hq
        have c0 := HG9.out.valP (j := 0) (by omega)
        have c1 := HG9.out.valP (j := 1) (by omega)
        have c2 := HG9.out.valP (j := 2) (by omega)
        have c3 := HG9.out.valP (j := 3) (by omega)
        have c4 := HG9.out.valP (j := 4) (by omega)
        go_wp2
        refine bodyPost_ret (v := .tuple #[arr5 u, .bool true]) (by simp [results, Try.results42, go_sem, z0, z1, z2, z3, z4, arr5]) rfl ?_
        exact ⟨_, by rw [Hp.out], fun _ => HU.out.symm, bel5 (H := w.heap.size + 1) HB9.out (Nat.le_succ _) u⟩
end Go.Proofs.Ytafiikfaeomhpaa
