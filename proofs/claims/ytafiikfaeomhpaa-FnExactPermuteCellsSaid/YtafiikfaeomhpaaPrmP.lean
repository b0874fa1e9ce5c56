/- PermuteCells: both sides (no claim of its own). Conditions: as each theorem states. -/
import Derived.Test.YtafiikfaeomhpaaPrmZ
import Derived.Test.YtafiikfaeomhpaaLwtA
import Derived.Test.YtafiikfaeomhpaaRgA
import Derived.Laws.OwnMore
import Derived.Maps.AppendAt
import Derived.Lib.SliceRun
namespace Go.Proofs.Ytafiikfaeomhpaa
open Go.ChangeShapes Go.WideShapes Go.ChangeAt Go.RowKit Go.Shelf

theorem runP_cp (W : World) {B0 : Nat} {v : Value} {n cap b off : Nat} {vv : Nat → Int} (hn : 1 ≤ n) (hm : n ≤ 1048576) (hown : W.ownsRow B0 3 1 v 0 []) (hlt : ∀ j, v.ownBlock = some j → B0 ≤ j) (hc : ∀ i, i < n → W.cell? ⟨b, off + i, none⟩ = some (.int .i64 (vv i))) (hB : B0 ≤ W.heap.size) :
    ∃ g cap' w', (Builtin.append_ #[22, 22] 22 #[v, .slice (some ⟨b, off, none⟩) n cap]).run Try.prog W = .ok (.slice (some ⟨g, 0, none⟩) n cap') w' ∧ B0 ≤ g ∧ OwnV w' g 3 n n vv ∧ Below B0 W w' := by
  obtain ⟨i0, hi, hz0, hz1, hz2⟩ := info_parts Try.infoInt
  obtain ⟨v', w', k1, k2, k3, _, _⟩ := run_append_own_at (P := Try.prog) W B0 22 22 3 i0 _ 1 8 Try.underlying22 hi hz0 hz1 hz2 rfl (by omega) v 0 _ hown ⟨b, off, none⟩ n cap ((vlst vv n).map vI) (by rw [len_vlst]; omega) (src_vlst hc) (one_vlst vv n) (by unfold maxLen; omega) (by omega) hB
  rcases k2.2 with ⟨_, h⟩ | ⟨g, cap', cur, e1, hg, hh, hnc, _, hsz, htk⟩
  · omega
  · simp only [Nat.zero_add] at e1
    refine ⟨g, cap', w', by rw [k1, e1], hg, ⟨cur, hh, by omega, fun i hi => ?_⟩, (Below.refl B0 W).grown k3 hB hlt⟩
    have h3 : ([] ++ (vlst vv n).map vI)[i]? = some (.int .i64 (vv i)) := by
      rw [List.nil_append, List.getElem?_map, vlst_get vv hi]
      rfl
    rw [← htk, List.getElem?_take_of_lt (by omega)] at h3
    simpa using h3
theorem wpP_cp {o : Oper} {a : Act} {K : Act → World → Prop} {Q : Exit → Act → World → Prop} {W : World} (s x : Operand)
    (ho : o.op = .call { callee := .builtin .append, args := #[s, x], argTypes := #[22, 22] }) (hty : o.type = 22)
    {B0 : Nat} {v : Value} {n cap b off : Nat} {vv : Nat → Int} (hn : 1 ≤ n) (hm : n ≤ 1048576) (hs : a.eval s = v) (hx : a.eval x = .slice (some ⟨b, off, none⟩) n cap)
    (hown : W.ownsRow B0 3 1 v 0 []) (hlt : ∀ j, v.ownBlock = some j → B0 ≤ j) (hc : ∀ i, i < n → W.cell? ⟨b, off + i, none⟩ = some (.int .i64 (vv i))) (hB : B0 ≤ W.heap.size)
    (h : ∀ g cap' w', B0 ≤ g → OwnV w' g 3 n n vv → Below B0 W w' → K (a.put o.dst (.slice (some ⟨g, 0, none⟩) n cap')) w') :
    o.wp Try.prog a W K Q := by
  obtain ⟨g, cap', w', hrun, h1, h2, h3⟩ := runP_cp W hn hm hown hlt hc hB (cap := cap)
  unfold Oper.wp execOp
  simp only [ho, hty, resolve, invoke, builtin, Sem.run_bind, Sem.run_pure, Result.andThen_ok, List.map_toArray, List.map_cons, List.map_nil, hs, hx, hrun]
  exact h g cap' w' h1 h2 h3
theorem rowP_new (W : World) : (W.alloc (.cells #[] 3)).ownsRow W.heap.size 3 1 (.slice (some ⟨W.heap.size, 0, none⟩) 0 0) 0 [] := by
  simpa using World.ownsRow_lit W #[] 0 (e := 3) (size := 1) (Nat.le_refl _) (by unfold maxLen; omega) (by simp)

set_option maxRecDepth 100000 in
set_option maxHeartbeats 800000 in
theorem cloneP_any (A : Option Addr) (n cap : Nat) (c : Nat → Int) (w : World) (h1 : 1 ≤ n) (hn : n ≤ 1048576) (hr : RdI w w.heap.size A n c) :
    Calls Try.prog 48 #[.slice A n cap] w fun e w' => ∃ g cap', e = .returned (.slice (some ⟨g, 0, none⟩) n cap') ∧ w.heap.size ≤ g ∧ OwnV w' g 3 n n c ∧ Below w.heap.size w w' := by
  have qT : ∀ (w : World) (a : Option Addr) (n c n' c' : Nat), (binOp .eql 22 (.slice a n c) (.slice none n' c')).run Try.prog w = .ok (.bool a.isNone) w := fun w a n c n' c' => Lib.run_eql_slice_nil w _ _ a n c n' c' Try.underlying22
  obtain ⟨b, off, rfl, hbl, hc⟩ := hr (by omega)
  have HcA := Lib.hid (fun j (hj : j < n) => kc (bl_alloc (Below.refl w.heap.size w) (.cells #[] 3)) (hc j hj))
  have HR0 := Lib.hid (rowP_new w)
  clear hc hr
  go_enter Try.func48, Try.ntmps48
  go_wp2_with (at_builtin; refine wpList_plain (by rfl) fun K' hK' => ?_; refine wpP_cp _ _ (by rfl) (by rfl) (B0 := w.heap.size) h1 hn (by rfl) (by rfl) HR0.out (by intro j hj; cases hj; exact Nat.le_refl _) HcA.out (by simp) ?_; intro g cap1 w7 hg1 hov hb7; have Hbx := Lib.hid ((bl_alloc (Below.refl w.heap.size w) (.cells #[] 3)).trans hb7); have Hov := Lib.hid hov; have Hg := Lib.hid hg1; clear hov hb7 hg1; refine hK' _ _ ?_; clear hK' K')
  go_ret
  exact ⟨g, cap1, rfl, Hg.out, Hov.out, Hbx.out⟩

theorem ownP_zeros {w : World} {n : Nat} : OwnI (w.alloc (.cells (madeCells #[Value.int .i64 0] n) 3)) w.heap.size n n (fun _ => 0) := by
  have h : (madeCells #[Value.int .i64 0] n).toList = List.replicate n (.int .i64 0) := toList_madeCells_one (.int .i64 0) n
  refine ⟨_, heap_alloc_new _ _, by simp [size_madeCells], fun i hi => ?_⟩
  rw [← Array.getElem?_toList, h, List.getElem?_replicate, if_pos hi]
theorem tfP {b : Bool} {P : Prop} (h : b = true) (h' : b = false) : P := by rw [h] at h'; cases h'
theorem OwnV.congrP {w : World} {G n k : Nat} {T : TypeId} {v v' : Nat → Int} (h : OwnV w G T n k v) (e : ∀ i, i < k → v i = v' i) : OwnV w G T n k v' := by
  obtain ⟨cs, h1, h2, h3⟩ := h
  exact ⟨cs, h1, h2, fun i hi => by rw [← e i hi]; exact h3 i hi⟩
/-- What the region that moves the values leaves, by what has run. -/
structure FPc (w5 : World) (u z v : Nat → Int) (cV : Value) (L : Nat → Bool) (w' : World) (u10 u25 u26 u27 u28 : Value) : Prop where
  bl : Below w5.heap.size w5 w'
  b0 : L 0 = true → u25 = arr5 u
  b1 : L 1 = true → u26 = cV
  b2 : L 2 = true → u27 = arr5 v
  b3 : L 3 = true → u28 = arr5 z
  b4 : L 4 = true → ∃ G, u10 = .pointer (some ⟨G, 0, none⟩) ∧ w5.heap.size ≤ G ∧ (L 5 = false → OwnV w' G 69 5 0 z) ∧ (L 5 = true → OwnV w' G 69 5 5 z)
/-- What PermuteCells answers. -/
def pcB (s : Lst) (n : Nat) (q : Nat → Rul) (p c : Lst) : Bool := pmB s n q p && celsB s c
def pcN (s : Lst) (n : Nat) (q : Nat → Rul) (p c : Lst) : Nat := if pcB s n q p c then c.n else 0
theorem pcN_le {s : Lst} {n m : Nat} {q : Nat → Rul} {p c : Lst} (h : c.n ≤ m) : pcN s n q p c ≤ m := by unfold pcN; split <;> omega
/-- What a permutation of a valid model's cells is. -/
structure PmOk (s : Lst) (n : Nat) (q : Nat → Rul) (p : Lst) : Prop where
  mod : modB s n q = true
  one : 1 ≤ s.n
  five : s.n ≤ 5
  len : p.n = s.n
  perm : varB s.n ⟨s.n, p.x⟩ = true
  pm : PmF s.n p.x
  keep : kpB s.n s.x p.x = true
theorem pm_ok {s : Lst} {n : Nat} {q : Nat → Rul} {p : Lst} (h : pmB s n q p = true) : PmOk s n q p := by
  unfold pmB at h
  simp only [Bool.and_eq_true, beq_iff_eq] at h
  obtain ⟨h1, h2, h3, h4⟩ := h
  have h5 := h1
  unfold modB at h5
  simp only [Bool.and_eq_true, decide_eq_true_eq] at h5
  have h6 : varB s.n ⟨s.n, p.x⟩ = true := by
    obtain ⟨pn, px⟩ := p
    simp only at h2 h3 ⊢
    rw [h2] at h3
    exact h3
  exact ⟨h1, h5.1.1, h5.1.2, h2, h6, varB_pm h5.1.1 h5.1.2 h6, h4⟩

set_option linter.unusedVariables false in
set_option linter.unusedSimpArgs false in
set_option maxRecDepth 100000 in
set_option maxHeartbeats 1600000 in
theorem l10Cells_any (k : Nat) (p c : Nat → Int) (Ap Ac : Option Addr) (cp cc : Nat) (w : World) (h1 : 1 ≤ k) (h5 : k ≤ 5) (hpm : ∀ i, i < k → 0 ≤ p i ∧ p i < k) (hp : RdI w w.heap.size Ap k p) (hc : RdI w w.heap.size Ac k c) :
    Calls Try.prog 45 #[.slice Ap k cp, .slice Ac k cc] w fun e w' => ∃ G, e = .returned (.slice (some ⟨G, 0, none⟩) k k) ∧ w.heap.size ≤ G ∧ OwnV w' G 3 k k (mvF p c k) ∧ Below w.heap.size w w' := by
  obtain ⟨i0, hi, hz0, hz1, hz2⟩ := info_parts Try.infoInt
  have hmk := fun W => run_make (P := Try.prog) W 22 3 i0 _ Try.underlying22 hi hz0 .i64 .i64 (k : Int) k (by omega) (by omega) (by rw [hz2]; omega) (by omega)
  rw [hz1] at hmk
  have HPm := Lib.hid hpm
  have HP := Lib.hid hp
  have HC := Lib.hid hc
  clear hi hz0 hz1 hz2 hpm hp hc
  go_enter Try.func45, Try.ntmps45
  go_wp2_with fail
  go_loopw [6] (fun i wr => ∃ j : Nat, j ≤ k ∧ i = .int .i64 j ∧ OwnV wr w.heap.size 3 k k (mvF p c j) ∧ Below w.heap.size w wr) (fun i _ => k - (intOf i).toNat)
  case atStart => exact ⟨0, Nat.zero_le _, rfl, ownP_zeros.toV, bl_alloc (Below.refl _ _) _⟩
  case round =>
    obtain ⟨j, hj, rfl, hown, hb⟩ := hrel
    by_cases hlt : j < k
    · obtain ⟨b, off, rfl, hbl, hcp⟩ := (HP.out.later hb) (by omega)
      obtain ⟨b2, off2, rfl, hbl2, hcc⟩ := (HC.out.later hb) (by omega)
      obtain ⟨i, hi⟩ : ∃ i : Nat, p j = (i : Int) := ⟨(p j).toNat, by have := HPm.out j hlt; omega⟩
      have hik : i < k := by have := HPm.out j hlt; omega
      have c1 := hcp j hlt
      have c2 := hcc j hlt
      rw [hi] at c1
      obtain ⟨y1, hy1⟩ := hown.cell hik
      have hf1 := hown.frozen i
      have hltI : (j : Int) < (k : Int) := by omega
      have hj0 : (0 : Int) ≤ (j : Int) := by omega
      have hikI : (i : Int) < (k : Int) := by omega
      have hi0 : (0 : Int) ≤ (i : Int) := by omega
      have Hput := Lib.hid (OwnV.setP (v' := mvF p c (j + 1)) (hown.at_ (w' := wr.drew) rfl) hik (z := c j) (by show (if (i : Int) = p j then c j else mvF p c j i) = c j; rw [if_pos hi.symm]) (fun a ha => by show (if (a : Int) = p j then c j else mvF p c j a) = mvF p c j a; rw [if_neg (by rw [hi]; omega)]))
      have HBk := Lib.hid hb
      have hlo : w.heap.size < wr.heap.size := hown.lt
      clear hown hb hi hcp hcc hmk
      go_upto_region 5 with fail
      go_still_tail 10, (by kernel_rfl)
      change wpList _ _ _ _ _ wr.drew
      go_wp2
      go_roundw
      case rel => exact ⟨j + 1, by omega, by go_num, Hput.out, HBk.out.drew.setCell (Nat.le_refl _) _⟩
      case measure => simp [intOf]; omega
    · obtain rfl : j = k := by omega
      go_wp2
      go_ret
      exact ⟨_, rfl, Nat.le_refl _, hown, hb⟩
set_option linter.unusedVariables false in
set_option linter.unusedSimpArgs false in
set_option maxRecDepth 100000 in
set_option maxHeartbeats 1600000 in
theorem specPC_any (s p c : Lst) (n : Nat) (q : Nat → Rul) (As Ar Ap Ac : Option Addr) (cs cr cp cc : Nat) (w : World) (p1 : s.n ≤ 1048576) (p2 : p.n ≤ 1048576) (p5 : c.n ≤ 1048576) (p3 : n ≤ 1048576) (p4 : ∀ i, i < n → (q i).fit 1048576) (hs : RdI w w.heap.size As s.n s.x) (hr : RdRs w w.heap.size Ar n q) (hp : RdI w w.heap.size Ap p.n p.x) (hc : RdI w w.heap.size Ac c.n c.x) :
    Calls Try.prog 16 #[.agg #[.slice As s.n cs, .slice Ar n cr], .slice Ap p.n cp, .slice Ac c.n cc] w (SResI w (pcN s n q p c) (mvF p.x c.x c.n) (pcB s n q p c)) := by
  have a0 : (w.alloc (.cells #[.slice As s.n cs, .slice Ar n cr] 30)).cell? ⟨w.heap.size, 0, none⟩ = some (.slice As s.n cs) := by go_simp
  have a1 : (w.alloc (.cells #[.slice As s.n cs, .slice Ar n cr] 30)).cell? ⟨w.heap.size, 1, none⟩ = some (.slice Ar n cr) := by go_simp
  have HB := Lib.hid (bl_alloc (Below.refl w.heap.size w) (.cells #[.slice As s.n cs, .slice Ar n cr] 30))
  have HS := Lib.hid hs
  have HR := Lib.hid hr
  have HP := Lib.hid hp
  have HC := Lib.hid hc
  have P4 := Lib.hid p4
  clear hs hr hp hc p4
  go_enter Try.func16, Try.ntmps16
  go_wp2_with fail
  generalize (w.alloc (.cells #[.slice As s.n cs, .slice Ar n cr] 30)) = w1 at *
  refine (specPV_any s p n q As Ar Ap cs cr cp w1 p1 p2 p3 P4.out (HS.out.later HB.out) (HR.out.later HB.out) (HP.out.later HB.out)).mono ?_
  rintro e w2 ⟨rfl, hb⟩
  have HB2 := Lib.hid (bl_trans HB.out hb)
  replace a0 := kc hb a0
  replace a1 := kc hb a1
  clear hb HB
  cases hm : pmB s n q p with
  | false =>
    have h1 : pcB s n q p c = false := by unfold pcB; rw [hm]; rfl
    have h2 : pcN s n q p c = 0 := by unfold pcN; rw [h1]; rfl
    have H1 := Lib.hid h1
    have H2 := Lib.hid h2
    clear hm h1 h2
    go_wp2
    go_ret2
    exact ⟨_, 0, by rw [H1.out, H2.out]; rfl, .inl H2.out, bl_alloc HB2.out _⟩
  | true =>
    have HO := Lib.hid (pm_ok hm)
    have Hm := Lib.hid hm
    clear hm
    go_wp2_with fail
    refine (l6Cells_any s c _ _ _ _ _ _ _ _ p1 p5 (HS.out.later HB2.out) (HC.out.later HB2.out)).mono ?_
    rintro e w3 ⟨rfl, hb⟩
    have HB3 := Lib.hid (bl_trans HB2.out hb)
    clear hb a0 a1 HB2
    cases hcc : celsB s c with
    | false =>
      have h1 : pcB s n q p c = false := by unfold pcB; rw [hcc]; simp
      have h2 : pcN s n q p c = 0 := by unfold pcN; rw [h1]; rfl
      have H1 := Lib.hid h1
      have H2 := Lib.hid h2
      clear hcc h1 h2
      go_wp2
      go_ret2
      exact ⟨_, 0, by rw [H1.out, H2.out]; rfl, .inl H2.out, bl_alloc HB3.out _⟩
    | true =>
      have h1 : pcB s n q p c = true := by unfold pcB; rw [Hm.out, hcc]; rfl
      have h2 : pcN s n q p c = c.n := by unfold pcN; rw [h1]; rfl
      have h3 : c.n = s.n := by
        unfold celsB at hcc
        rw [Bool.and_eq_true, beq_iff_eq] at hcc
        exact hcc.1
      obtain ⟨cn, cx⟩ := c
      obtain ⟨pn, px⟩ := p
      have h4 := HO.out.len
      obtain ⟨sn, sx⟩ := s
      simp only at h3 h4
      subst h3
      subst h4
      simp only at h1 h2 HC HP HO p1 p2 p5 ⊢
      have H1 := Lib.hid h1
      have H2 := Lib.hid h2
      clear hcc h1 h2
      go_wp2_with fail
      refine (l10Cells_any pn px cx Ap Ac cp cc w3 HO.out.one HO.out.five HO.out.pm.lt (HP.out.later HB3.out) (HC.out.later HB3.out)).mono ?_
      rintro e w4 ⟨G, rfl, hG, ho, hb⟩
      have HB4 := Lib.hid (bl_trans HB3.out hb)
      have HW := Lib.hid ho
      have HG := Lib.hid (show w.heap.size ≤ G from Nat.le_trans HB3.out.size hG)
      clear hb ho hG
      go_wp2
      go_ret2
      exact ⟨some ⟨G, 0, none⟩, pn, by rw [H1.out, H2.out]; rfl, .inr ⟨G, rfl, HG.out, by rw [H2.out]; exact HW.out⟩, HB4.out⟩

set_option linter.unusedVariables false in
set_option linter.unusedSimpArgs false in
set_option maxRecDepth 100000 in
set_option maxHeartbeats 1600000 in
theorem implPC_any (s p c : Lst) (n : Nat) (q : Nat → Rul) (As Ar Ap Ac : Option Addr) (cs cr cp cc : Nat) (w : World) (p1 : s.n ≤ 1048576) (p2 : p.n ≤ 1048576) (p5 : c.n ≤ 1048576) (p3 : n ≤ 1048576) (p4 : ∀ i, i < n → (q i).fit 1048576) (hs : RdI w w.heap.size As s.n s.x) (hr : RdRs w w.heap.size Ar n q) (hp : RdI w w.heap.size Ap p.n p.x) (hc : RdI w w.heap.size Ac c.n c.x) :
    Calls Try.prog 17 #[.agg #[.slice As s.n cs, .slice Ar n cr], .slice Ap p.n cp, .slice Ac c.n cc] w (SResI w (pcN s n q p c) (mvF p.x c.x c.n) (pcB s n q p c)) := by
  have a0 : (w.alloc (.cells #[.slice As s.n cs, .slice Ar n cr] 30)).cell? ⟨w.heap.size, 0, none⟩ = some (.slice As s.n cs) := by go_simp
  have a1 : (w.alloc (.cells #[.slice As s.n cs, .slice Ar n cr] 30)).cell? ⟨w.heap.size, 1, none⟩ = some (.slice Ar n cr) := by go_simp
  have HB := Lib.hid (bl_alloc (Below.refl w.heap.size w) (.cells #[.slice As s.n cs, .slice Ar n cr] 30))
  have HS := Lib.hid hs
  have HR := Lib.hid hr
  have HP := Lib.hid hp
  have HC := Lib.hid hc
  have P4 := Lib.hid p4
  clear hs hr hp hc p4
  go_enter Try.func17, Try.ntmps17
  go_wp2_with fail
  generalize (w.alloc (.cells #[.slice As s.n cs, .slice Ar n cr] 30)) = w1 at *
  refine (perm_any s p n q As Ar Ap cs cr cp w1 p1 p2 p3 P4.out (HS.out.later HB.out) (HR.out.later HB.out) (HP.out.later HB.out)).mono ?_
  rintro e w2 ⟨u, rfl, hu, hb⟩
  have HB2 := Lib.hid (bl_trans HB.out hb)
  have HU := Lib.hid hu
  replace a0 := kc hb a0
  replace a1 := kc hb a1
  clear hb HB hu
  obtain ⟨W3, hW3⟩ : ∃ W, w2.alloc (.cells #[.int .i64 0, .int .i64 0, .int .i64 0, .int .i64 0, .int .i64 0] 64) = W := ⟨_, rfl⟩
  have hb := bl_alloc (Below.refl w2.heap.size w2) (.cells #[.int .i64 0, .int .i64 0, .int .i64 0, .int .i64 0, .int .i64 0] 64)
  have o3 := own5_new (w := w2) (T := 64) idn
  have hlt2 : w.heap.size < w2.heap.size := World.block_lt_of_cell? w2 _ a0
  rw [hW3] at hb o3
  have HB3 := Lib.hid (bl_trans HB2.out hb)
  replace a0 := kc hb a0
  replace a1 := kc hb a1
  obtain ⟨G, hG⟩ : ∃ G, w2.heap.size = G := ⟨_, rfl⟩
  rw [hG] at o3 hlt2
  obtain ⟨yz0, z0⟩ := o3.cell (j := 0) (by omega)
  obtain ⟨yz1, z1⟩ := o3.cell (j := 1) (by omega)
  obtain ⟨yz2, z2⟩ := o3.cell (j := 2) (by omega)
  obtain ⟨yz3, z3⟩ := o3.cell (j := 3) (by omega)
  obtain ⟨yz4, z4⟩ := o3.cell (j := 4) (by omega)
  have fz0 := o3.frozen 0
  have fz1 := o3.frozen 1
  have fz2 := o3.frozen 2
  have fz3 := o3.frozen 3
  have fz4 := o3.frozen 4
  have h4 := o3.put5 (v := u)
  have HB4 := Lib.hid (bel5 (H := G) HB3.out (Nat.le_of_lt hlt2) u)
  have hb5 := bel5 (Below.refl G W3) (Nat.le_refl _) u
  replace a0 := (hb5.cell (p := ⟨w.heap.size, 0, none⟩) (show w.heap.size < G by omega)).trans a0
  replace a1 := (hb5.cell (p := ⟨w.heap.size, 1, none⟩) (show w.heap.size < G by omega)).trans a1
  have HO4 := Lib.hid h4
  have A0 := Lib.hid a0
  have A1 := Lib.hid a1
  clear o3 hb hb5 h4 HB2 HB3 a0 a1
  unfold arr5
  go_upto_region 2 with fail
  clear hW3 z0 z1 z2 z3 z4 fz0 fz1 fz2 fz3 fz4
  generalize (((((W3.setCell ⟨G, 0, none⟩ (.int .i64 (u 0))).setCell ⟨G, 1, none⟩ (.int .i64 (u 1))).setCell ⟨G, 2, none⟩ (.int .i64 (u 2))).setCell ⟨G, 3, none⟩ (.int .i64 (u 3))).setCell ⟨G, 4, none⟩ (.int .i64 (u 4))) = W4 at *
  have a0 := A0.out
  have a1 := A1.out
  clear A0 A1
  cases hm : pmB s n q p with
  | false =>
    have h1 : pcB s n q p c = false := by unfold pcB; rw [hm]; rfl
    have h2 : pcN s n q p c = 0 := by unfold pcN; rw [h1]; rfl
    have H1 := Lib.hid h1
    have H2 := Lib.hid h2
    clear hm h1 h2
    go_wp2
    go_ret2
    exact ⟨_, 0, by rw [H1.out, H2.out]; rfl, .inl H2.out, HB4.out⟩
  | true =>
    have HO := Lib.hid (pm_ok hm)
    have HUe := Lib.hid (HU.out hm)
    have Hm := Lib.hid hm
    clear hm HU
    go_wp2_with fail
    refine (implCells_any s c n q _ _ _ _ _ _ _ p1 p5 p3 P4.out (HS.out.later HB4.out) (HR.out.later HB4.out) (HC.out.later HB4.out)).mono ?_
    rintro e w5 ⟨rfl, hb⟩
    have HB5 := Lib.hid (bl_trans HB4.out hb)
    have HO5 := Lib.hid (HO4.out.below hb)
    have hcv : cvB s n q c = celsB s c := by unfold cvB; rw [HO.out.mod]; rfl
    rw [hcv]
    clear hb a0 a1 HB4 HO4 hcv
    cases hcc : celsB s c with
    | false =>
      have h1 : pcB s n q p c = false := by unfold pcB; rw [hcc]; simp
      have h2 : pcN s n q p c = 0 := by unfold pcN; rw [h1]; rfl
      have H1 := Lib.hid h1
      have H2 := Lib.hid h2
      clear hcc h1 h2
      go_wp2
      go_ret2
      exact ⟨_, 0, by rw [H1.out, H2.out]; rfl, .inl H2.out, HB5.out⟩
    | true =>
      have h1 : pcB s n q p c = true := by unfold pcB; rw [Hm.out, hcc]; rfl
      have h2 : pcN s n q p c = c.n := by unfold pcN; rw [h1]; rfl
      have h3 : c.n = s.n := by
        unfold celsB at hcc
        rw [Bool.and_eq_true, beq_iff_eq] at hcc
        exact hcc.1
      obtain ⟨cn, cx⟩ := c
      obtain ⟨pn, px⟩ := p
      have h4 := HO.out.len
      obtain ⟨sn, sx⟩ := s
      simp only at h3 h4
      subst h3
      subst h4
      simp only at h1 h2 HC HP HO HUe p1 p2 p5 ⊢
      have H1 := Lib.hid h1
      have H2 := Lib.hid h2
      have HS1 := Lib.hid HO.out.one
      have HS5 := Lib.hid HO.out.five
      have hP5 : ∀ i, i < 5 → 0 ≤ u i ∧ u i ≤ 4 := by
        rw [HUe.out]
        exact (srt_id.1 (srA_id.1 ((exP_ok HS1.out HS5.out).trans HO.out.perm))).1
      have HP5 := Lib.hid hP5
      clear hcc h1 h2 hP5 HP HR HS Hm
      have HA := Lib.hid H1.out
      go_upto_region 4 with fail
      obtain ⟨X0, hX0⟩ : ∃ X0, w.heap.size = X0 := ⟨_, rfl⟩
      have HX0 := Lib.hid hX0
      have hw0 : X0 < G := by omega
      obtain ⟨v, hv⟩ : ∃ v, cvV pn cx = v := ⟨_, rfl⟩
      obtain ⟨z, hz⟩ : ∃ z, mvF u v 5 = z := ⟨_, rfl⟩
      have HV := Lib.hid hv
      have HZ := Lib.hid hz
      have HC5 := Lib.hid (HC.out.later HB5.out)
      rw [hX0]
      clear hX0 hv hz
      refine region_steps (J := fun _ L a' w' => ∃ u10 u25 u26 u27 u28 : Value, a' = ⟨#[.agg #[.slice As pn cs, .slice Ar n cr], .slice Ap pn cp, .slice Ac pn cc, .pointer (some ⟨X0, 0, none⟩), undef, undef, .slice none 0 0, .bool false, .pointer (some ⟨G, 0, none⟩), .bool true, u10, .tuple #[.agg #[.int .i64 (u 0), .int .i64 (u 1), .int .i64 (u 2), .int .i64 (u 3), .int .i64 (u 4)], .bool true], .agg #[.slice As pn cs, .slice Ar n cr], .slice Ap pn cp, .tuple #[.agg #[.int .i64 (u 0), .int .i64 (u 1), .int .i64 (u 2), .int .i64 (u 3), .int .i64 (u 4)], .bool true], .agg #[.int .i64 (u 0), .int .i64 (u 1), .int .i64 (u 2), .int .i64 (u 3), .int .i64 (u 4)], .bool true, .bool true, .bool false, .bool false, .agg #[.slice As pn cs, .slice Ar n cr], .slice Ac pn cc, .bool true, .bool false, .bool false, u25, u26, u27, u28, undef, undef, undef, undef], []⟩ ∧ FPc w5 u z v (.slice Ac pn cc) L w' u10 u25 u26 u27 u28) [[], [], [1], [0, 2], [], [3, 4]] (by kernel_rfl) (by kernel_rfl) ?_ ⟨?_, ?_, ?_, ?_, ?_, ?_, trivial⟩ ?_
      · intro L hL
        exact ⟨_, _, _, _, _, rfl, ⟨(Below.refl w5.heap.size w5).drew, fun h => tfP h (hL 0 (by decide)), fun h => tfP h (hL 1 (by decide)), fun h => tfP h (hL 2 (by decide)), fun h => tfP h (hL 3 (by decide)), fun h => tfP h (hL 4 (by decide))⟩⟩
      · intro L hL hd hc a w6 hI K' hK'
        obtain ⟨u10, u25, u26, u27, u28, rfl, hF⟩ := hI
        have ho := HO5.out.below hF.bl
        have c0 := ho.valP (j := 0) (by omega)
        have c1 := ho.valP (j := 1) (by omega)
        have c2 := ho.valP (j := 2) (by omega)
        have c3 := ho.valP (j := 3) (by omega)
        have c4 := ho.valP (j := 4) (by omega)
        go_simp
        refine hK' _ _ ⟨_, _, _, _, _, rfl, ⟨hF.bl, fun _ => rfl, hF.b1, hF.b2, hF.b3, hF.b4⟩⟩
      · intro L hL hd hc a w6 hI K' hK'
        obtain ⟨u10, u25, u26, u27, u28, rfl, hF⟩ := hI
        go_simp
        refine hK' _ _ ⟨_, _, _, _, _, rfl, ⟨hF.bl, hF.b0, fun _ => rfl, hF.b2, hF.b3, hF.b4⟩⟩
      · intro L hL hd hc a w6 hI K' hK'
        obtain ⟨u10, u25, u26, u27, u28, rfl, hF⟩ := hI
        obtain rfl := hF.b1 (hd 1 (by simp))
        go_simp; go_at_call 47
        refine (cvo_any pn cc Ac cx w6 HS5.out HS1.out (HC.out.later (bl_trans HB5.out hF.bl))).mono ?_
        rintro e w7 ⟨rfl, hb⟩
        rw [HV.out]
        go_simp
        refine hK' _ _ ⟨_, _, _, _, _, rfl, ⟨bl_trans hF.bl hb, hF.b0, hF.b1, fun _ => rfl, hF.b3, fun h => by obtain ⟨G', e, h1, h2, h3⟩ := hF.b4 h; exact ⟨G', e, h1, fun k => (h2 k).below hb, fun k => (h3 k).below hb⟩⟩⟩
      · intro L hL hd hc a w6 hI K' hK'
        obtain ⟨u10, u25, u26, u27, u28, rfl, hF⟩ := hI
        obtain rfl := hF.b0 (hd 0 (by simp))
        obtain rfl := hF.b2 (hd 2 (by simp))
        go_simp; go_at_call 46
        refine (move_any u v w6 HP5.out).mono ?_
        rintro e w7 ⟨rfl, hb⟩
        rw [HZ.out]
        go_simp
        refine hK' _ _ ⟨_, _, _, _, _, rfl, ⟨bl_trans hF.bl hb, hF.b0, hF.b1, hF.b2, fun _ => rfl, fun h => by obtain ⟨G', e, h1, h2, h3⟩ := hF.b4 h; exact ⟨G', e, h1, fun k => (h2 k).below hb, fun k => (h3 k).below hb⟩⟩⟩
      · intro L hL hd hc a w6 hI K' hK'
        obtain ⟨u10, u25, u26, u27, u28, rfl, hF⟩ := hI
        have hal := bl_alloc (Below.refl w6.heap.size w6) (.cells #[.int .i64 0, .int .i64 0, .int .i64 0, .int .i64 0, .int .i64 0] 69)
        have hsz := hF.bl.size
        go_simp
        refine hK' _ _ ⟨_, _, _, _, _, rfl, ⟨bl_trans hF.bl hal, hF.b0, hF.b1, hF.b2, hF.b3, fun _ => ⟨_, rfl, hsz, fun _ => own5_new z, fun h => tfP (hc 5 4 (by simp) h) hL⟩⟩⟩
      · intro L hL hd hc a w6 hI K' hK'
        obtain ⟨u10, u25, u26, u27, u28, rfl, hF⟩ := hI
        obtain rfl := hF.b3 (hd 3 (by simp))
        obtain ⟨G', rfl, h1, h2, -⟩ := hF.b4 (hd 4 (by simp))
        have o3 := h2 hL
        obtain ⟨yz0, z0⟩ := o3.cell (j := 0) (by omega)
        obtain ⟨yz1, z1⟩ := o3.cell (j := 1) (by omega)
        obtain ⟨yz2, z2⟩ := o3.cell (j := 2) (by omega)
        obtain ⟨yz3, z3⟩ := o3.cell (j := 3) (by omega)
        obtain ⟨yz4, z4⟩ := o3.cell (j := 4) (by omega)
        have fz0 := o3.frozen 0
        have fz1 := o3.frozen 1
        have fz2 := o3.frozen 2
        have fz3 := o3.frozen 3
        have fz4 := o3.frozen 4
        unfold arr5
        go_simp
        refine hK' _ _ ⟨_, _, _, _, _, rfl, ⟨bel5 hF.bl h1 z, hF.b0, hF.b1, hF.b2, hF.b3, fun _ => ⟨_, rfl, h1, fun h => tfP (show true = true from rfl) h, fun _ => o3.put5⟩⟩⟩
      · intro L hL a' w6 hI
        obtain ⟨u10, u25, u26, u27, u28, rfl, hF⟩ := hI
        obtain ⟨G', rfl, h1, -, h3⟩ := hF.b4 (hL 4)
        obtain rfl := hF.b3 (hL 3)
        obtain rfl := hF.b2 (hL 2)
        obtain rfl := hF.b1 (hL 1)
        obtain rfl := hF.b0 (hL 0)
        have ho := h3 (hL 5)
        have HB6 := Lib.hid (bl_trans HB5.out hF.bl)
        have HO6 := Lib.hid ho
        clear ho h3 h1 hF hL HB5 HO5 HC5
        have hn5 : (pn : Int) ≤ 5 := by have : pn ≤ 5 := HS5.out; omega
        have hn0 : (0 : Int) ≤ (pn : Int) := by omega
        have hr : RdI w6 w6.heap.size (some ⟨G', 0, none⟩) pn z := fun _ => ⟨G', 0, rfl, HO6.out.lt, fun i hi => by rw [Nat.zero_add]; exact HO6.out.valP (by have : pn ≤ 5 := HS5.out; omega)⟩
        have HRz := Lib.hid hr
        clear hr
        go_wp2_with fail
        refine (cloneP_any (some ⟨G', 0, none⟩) pn 5 z w6 HS1.out (by have : pn ≤ 5 := HS5.out; omega) HRz.out).mono ?_
        rintro e w7 ⟨g, cap', rfl, hg, ho, hb⟩
        have HB7 := Lib.hid (bl_trans HB6.out hb)
        have HO7 := Lib.hid ho
        have HG7 := Lib.hid (show w.heap.size ≤ g from Nat.le_trans HB6.out.size hg)
        clear hb ho hg
        go_wp2
        go_ret2
        refine ⟨some ⟨g, 0, none⟩, cap', by rw [H1.out, H2.out]; rfl, .inr ⟨g, rfl, HG7.out, ?_⟩, HB7.out⟩
        rw [H2.out]
        refine HO7.out.congrP fun i hi => ?_
        rw [← HZ.out, ← HV.out, HUe.out]
        exact mvF_five HS5.out hi

end Go.Proofs.Ytafiikfaeomhpaa
