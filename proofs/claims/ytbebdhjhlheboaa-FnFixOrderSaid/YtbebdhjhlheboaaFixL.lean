/- Contracts of the reference's and the program's FixLiteral (no claim of its own). Conditions: as each theorem states. -/
import Derived.Test.YtbebdhjhlheboaaFixQ
import Derived.Test.YtbebdhjhlheboaaPrgS
namespace Go.Proofs.Ytbebdhjhlheboaa
open Go.ChangeShapes Go.WideShapes Go.ChangeAt Go.RowKit Go.Shelf

/-- The partial assignment without values. -/
def zv0 (_ : Nat) : Int := 0
theorem asg_pv {z : Int} (_hz : litB z = true) : pvB 12 (asg zv0 z) = true := pvB_iff.2 ⟨rfl, fun i _ => by
  unfold asg zv0
  repeat' split
  all_goals omega⟩
theorem ownV_zero (w : World) (T : TypeId) (m : Nat) : OwnV (w.alloc (.cells (madeCells #[.int .i64 0] m) T)) w.heap.size T m m zv0 :=
  ⟨_, heap_alloc_new _ _, by simp [size_madeCells], fun i hi => by
    rw [← Array.getElem?_toList, toList_madeCells_one, List.getElem?_replicate, if_pos hi]
    rfl⟩
/-- What FixLiteral answers. -/
def fxlOk (n : Nat) (p : Nat → Con) (z : Int) : Bool := litB z && probB n p
def fxlN (n : Nat) (p : Nat → Con) (z : Int) : Nat := if fxlOk n p z = true then n else 0
def fxlK (p : Nat → Con) (z : Int) : Nat → Con := fixK p (asg zv0 z)
section
variable {n : Nat} {p : Nat → Con} {z : Int}
theorem fxl_eq (hz : litB z = true) : fixOk n p 12 (asg zv0 z) = fxlOk n p z ∧ fixN n p 12 (asg zv0 z) = fxlN n p z := by
  have h : fixOk n p 12 (asg zv0 z) = fxlOk n p z := by
    unfold fixOk fxlOk
    rw [asg_pv hz, hz, Bool.and_true, Bool.true_and]
  refine ⟨h, ?_⟩
  unfold fixN fxlN
  rw [h]
theorem fxl_no (hz : litB z = false) : fxlOk n p z = false ∧ fxlN n p z = 0 := by
  have h : fxlOk n p z = false := by unfold fxlOk; rw [hz]; rfl
  exact ⟨h, if_neg (by rw [h]; exact Bool.false_ne_true)⟩
theorem fxl_ok (h : fxlOk n p z = true) : litB z = true ∧ probB n p = true := by
  unfold fxlOk at h
  rwa [Bool.and_eq_true] at h
theorem fxlN_le (n : Nat) (p : Nat → Con) (z : Int) : fxlN n p z ≤ 400 := by
  unfold fxlN
  split
  · rename_i h
    exact prob_400 (fxl_ok h).2
  · omega
theorem fxl_12 {i : Nat} (hi : i < fxlN n p z) : (fxlK p z i).n ≤ 12 := by
  cases hz : litB z with
  | false => rw [(fxl_no hz).2] at hi; omega
  | true => rw [← (fxl_eq hz).2] at hi; exact fix_12 hi
theorem fxl_all (n : Nat) (p : Nat → Con) (z : Int) (i : Nat) (hi : i < fxlN n p z) : (fxlK p z i).n ≤ 1048576 := Nat.le_trans (fxl_12 hi) (by omega)
theorem fxl_tot (n : Nat) (p : Nat → Con) (z : Int) : fxlN n p z + 2 * tot (fxlK p z) (fxlN n p z) ≤ 500000 := by
  have h1 := fxlN_le n p z
  have h2 := tot_12 (q := fxlK p z) (k := fxlN n p z) fun i hi => fxl_12 hi
  omega
end

set_option linter.unusedVariables false in
set_option maxRecDepth 100000 in
set_option maxHeartbeats 3200000 in
theorem specFxl_any (A : Option Addr) (n cap : Nat) (p : Nat → Con) (z : Int) (w : World) (hn : n ≤ 1048576) (hn' : ∀ i, i < n → (p i).n ≤ 1048576) (hr : RdP w w.heap.size A n p) :
    Calls Try.prog 21 #[.slice A n cap, .int .i64 z] w (FixRes w (fxlN n p z) (fxlOk n p z) (fxlK p z)) := by
  cases hz : litB z with
  | false =>
    have Hfin := Lib.hid (fxl_no (n := n) (p := p) hz)
    have Hz := Lib.hid hz
    clear hz
    go_enter Try.func21, Try.ntmps21
    go_wp2_with fail
    refine (l1Lit_any _ _).mono ?_
    rintro e w1 ⟨rfl, rfl⟩
    rw [Hz.out]
    go_wp2
    go_ret2
    exact fixRes_no Hfin.out (bl_alloc (Below.refl _ _) _)
  | true =>
    have Hfin := Lib.hid (fxl_eq (n := n) (p := p) hz)
    have Hz := Lib.hid hz
    have HN := Lib.hid hn'
    have HR := Lib.hid hr
    obtain ⟨i0, hi, hz0, hz1, hz2⟩ := info_parts Try.infoInt
    have hmk := fun W => run_make (P := Try.prog) W 23 3 i0 _ Try.underlying23 hi hz0 .i64 .i64 12 12 (by omega) (by omega) (by rw [hz2]; omega) (by omega)
    rw [hz1] at hmk
    clear hz hn' hr hi hz0 hz1 hz2
    go_enter Try.func21, Try.ntmps21
    go_wp2_with fail
    refine (l1Lit_any _ _).mono ?_
    rintro e w1 ⟨rfl, rfl⟩
    rw [Hz.out]
    go_wp2_with fail
    refine (l3Assign_any _ 12 zv0 z _ Hz.out (ownV_zero _ _ _)).mono ?_
    rintro e w2 ⟨rfl, hown, hgr⟩
    have hbl : Below w1.heap.size w1 w2 := ((Below.refl _ _).alloc (Nat.le_refl _) _).trans (grown_below hgr (by simp))
    have HB := Lib.hid hbl
    have HO := Lib.hid hown
    clear hown hgr hbl hmk
    go_wp2_with fail
    refine (specFix_any A (some ⟨w1.heap.size, 0, none⟩) n cap 12 12 p (asg zv0 z) w2 hn HN.out (by omega) (HR.out.later HB.out) (HO.out.rdAt)).mono ?_
    rintro e w3 ⟨A3, cap3, rfl, hF, hb⟩
    rw [Hfin.out.1, Hfin.out.2] at *
    have HF := Lib.hid (hF.more HB.out.size)
    have HB3 := Lib.hid (bl_trans HB.out hb)
    clear hF hb
    go_wp2
    go_ret2
    exact ⟨A3, cap3, rfl, HF.out, HB3.out⟩

theorem ownV_at {w : World} {G : Nat} {T : TypeId} {n k : Nat} {v : Nat → Int} (h : OwnV w G T n k v) {i : Nat} (hi : i < k) : w.cell? ⟨G, i, none⟩ = some (.int .i64 (v i)) := by
  obtain ⟨cs, hh, _, hv⟩ := h
  exact (cell_of_row w G i cs _ _ hh).trans (hv i hi)
theorem fx_shape (S : Nat) (T : TypeId) : ∀ (vs : List Value) (o : Nat) (w : World) (cs : Array Value), w.heap[S]? = some (.cells cs T (0, 0)) → ∃ cs', (w.setCells S o vs).heap[S]? = some (.cells cs' T (0, 0)) ∧ cs'.size = cs.size
  | [], _, _, cs, h => ⟨cs, h, rfl⟩
  | v :: r, o, w, cs, h => by
    obtain ⟨cs', h1, h2⟩ := fx_shape S T r (o + 1) (w.setCell ⟨S, o, none⟩ v) (cs.setIfInBounds o v) (by simp [World.setCell, Array.getElem?_modify, h])
    exact ⟨cs', h1, by rw [h2]; simp⟩
theorem fx_grown (S : Nat) : ∀ (vs : List Value) (o : Nat) (w : World), w.grownBy (w.setCells S o vs) (some S)
  | [], _, _ => ⟨rfl, rfl, rfl, Nat.le_refl _, fun _ _ _ => rfl⟩
  | v :: r, o, w => grown_trans (grown_set w S o v) (fx_grown S r (o + 1) _)
theorem fx_setCells {a w : World} (h : Below a.heap.size a w) {g : Nat} (hg : a.heap.size ≤ g) (vs : List Value) (o : Nat) : Below a.heap.size a (w.setCells g o vs) := by
  have t := fx_grown g vs o w
  exact ⟨t.os.trans h.os, t.tape.trans h.tape, t.output.trans h.output, Nat.le_trans h.size t.size, fun k hk => (t.block k (Nat.lt_of_lt_of_le hk h.size) (fun e => by injection e with e; omega)).trans (h.block k hk)⟩
theorem fx_set12 {w : World} {g : Nat} {T : TypeId} (V : Nat → Int) (h : w.heap[g]? = some (.cells #[.int .i64 0, .int .i64 0, .int .i64 0, .int .i64 0, .int .i64 0, .int .i64 0, .int .i64 0, .int .i64 0, .int .i64 0, .int .i64 0, .int .i64 0, .int .i64 0] T (0, 0))) : OwnV (w.setCells g 0 (cl12 V)) g T 12 12 V ∧ w.there g 0 (cl12 V).length := by
  have ht : w.there g 0 (cl12 V).length := fun j hj => by
    have hj : j < 12 := hj
    refine ⟨?_, by simp [World.frozen?, h]⟩
    rw [(cell_of_row _ g (0 + j) _ _ _ h), Array.getElem?_eq_getElem (by simp; omega)]
    rfl
  obtain ⟨cs', e1, e2⟩ := fx_shape g T (cl12 V) 0 w _ h
  have hr := World.rangeAt_setCells_same w g 0 (cl12 V) ht
  refine ⟨⟨cs', e1, by rw [e2]; exact Nat.le_refl _, fun i hi => ?_⟩, ht⟩
  have := hr i (.int .i64 (V i)) (by have := cells12_at V hi; rw [show cells12 V = (cl12 V).toArray from rfl, List.getElem?_toArray] at this; exact this)
  rw [Nat.zero_add] at this
  exact (cell_of_row _ g i cs' _ _ e1).symm.trans this
theorem fx_one (V : Nat → Int) : (cl12 V).toArray.all (·.oneCell') = true := by simp [cl12, Value.oneCell']
theorem alloc_two9 (w : World) (o o' : Obj) : ((w.alloc o).alloc o').heap[w.heap.size + 1]? = some o' := by
  have h := heap_alloc_new (w.alloc o) o'
  have e : (w.alloc o).heap.size = w.heap.size + 1 := by simp
  rw [e] at h
  exact h
set_option maxRecDepth 100000 in
set_option maxHeartbeats 800000 in
theorem makeTrueP_any (B : Nat) (v : Nat → Int) (z : Int) (w : World) (hz : litB z = true) (h : OwnV w B 72 12 12 v) :
    Calls Try.prog 94 #[.pointer (some ⟨B, 0, none⟩), .int .i64 z] w fun e w' => e = .returned (.tuple #[]) ∧ OwnV w' B 72 12 12 (asg v z) ∧ w.grownBy w' (some B) := by
  obtain ⟨h0, h1, h2⟩ := litB_iff.1 hz
  rcases (show 0 < z ∨ z < 0 by omega) with hp | hp
  · obtain ⟨i, hi, rfl⟩ : ∃ i : Nat, i < 12 ∧ z = (i : Int) + 1 := ⟨(z - 1).toNat, by omega, by omega⟩
    have hi0 : (0 : Int) ≤ (i : Int) := by omega
    have hi1 : (i : Int) < 12 := by omega
    have hwi : IntKind.i64.wrap (i : Int) = (i : Int) := IntWalk.i64_in _ (by omega)
    have hab : ab ((i : Int) + 1) = (i : Int) + 1 := by unfold ab; rw [if_neg (by omega)]
    have hva := fun W => litVariable_same ((i : Int) + 1) W h1 h2
    rw [hab] at hva
    have Hva := Lib.hid hva
    have hng : decide ((i : Int) + 1 < 0) = false := decide_eq_false (by omega)
    have Hng := Lib.hid hng
    have HO := Lib.hid h
    clear h hz h0 h1 h2 hab hva hng
    go_enter Try.func94, Try.ntmps94
    go_wp2_with fail
    refine (litNegated_any _ _).mono ?_
    rintro e w' ⟨rfl, hw⟩
    subst hw
    rw [Hng.out]
    go_wp2_with fail
    refine wp_region_still_tail 6 (by kernel_rfl) (by kernel_rfl) ?_
    change wpStill _ _ w'.drew (fun a' => wpList _ _ _ _ a' w'.drew) _ _
    have hX : OwnV w'.drew B 72 12 12 v := HO.out.at_ rfl
    have gX : w'.grownBy w'.drew (some B) := below_grown (Below.refl _ _).drew
    generalize w'.drew = X at hX gX ⊢
    obtain ⟨u, hu⟩ := hX.cell hi
    have hf := hX.frozen i
    have H := Lib.hid (show OwnV (X.setCell ⟨B, i, none⟩ (.int .i64 1)) B 72 12 12 (asg v ((i : Int) + 1)) by rw [asg_pos]; exact hX.setI hi 1)
    have G := Lib.hid (grown_trans gX (grown_set X B i (.int .i64 1)))
    clear hX gX
    have hvar := Hva.out
    simp only [List.take_succ_cons, List.take_zero, List.drop_succ_cons, List.drop_zero]
    repeat (first | still_step | still_call (hvar _))
    refine wpStill_nil ?_
    go_wp2
    exact ⟨rfl, .tuple #[], by simp [results, Try.results94], rfl, H.out, G.out⟩
  · obtain ⟨i, hi, rfl⟩ : ∃ i : Nat, i < 12 ∧ z = -((i : Int) + 1) := ⟨(-z - 1).toNat, by omega, by omega⟩
    have hi0 : (0 : Int) ≤ (i : Int) := by omega
    have hi1 : (i : Int) < 12 := by omega
    have hwi : IntKind.i64.wrap (i : Int) = (i : Int) := IntWalk.i64_in _ (by omega)
    have hab : ab (-((i : Int) + 1)) = (i : Int) + 1 := by unfold ab; rw [if_pos (by omega)]; omega
    have hva := fun W => litVariable_same (-((i : Int) + 1)) W h1 h2
    rw [hab] at hva
    have Hva := Lib.hid hva
    have hng : decide (-((i : Int) + 1) < 0) = true := decide_eq_true (by omega)
    have Hng := Lib.hid hng
    have HO := Lib.hid h
    clear h hz h0 h1 h2 hab hva hng
    go_enter Try.func94, Try.ntmps94
    go_wp2_with fail
    refine (litNegated_any _ _).mono ?_
    rintro e w' ⟨rfl, hw⟩
    subst hw
    rw [Hng.out]
    go_wp2_with fail
    refine wp_region_still_tail 6 (by kernel_rfl) (by kernel_rfl) ?_
    change wpStill _ _ w'.drew (fun a' => wpList _ _ _ _ a' w'.drew) _ _
    have hX : OwnV w'.drew B 72 12 12 v := HO.out.at_ rfl
    have gX : w'.grownBy w'.drew (some B) := below_grown (Below.refl _ _).drew
    generalize w'.drew = X at hX gX ⊢
    obtain ⟨u, hu⟩ := hX.cell hi
    have hf := hX.frozen i
    have H := Lib.hid (show OwnV (X.setCell ⟨B, i, none⟩ (.int .i64 (-1))) B 72 12 12 (asg v (-((i : Int) + 1))) by rw [asg_neg]; exact hX.setI hi (-1))
    have G := Lib.hid (grown_trans gX (grown_set X B i (.int .i64 (-1))))
    clear hX gX
    have hvar := Hva.out
    simp only [List.take_succ_cons, List.take_zero, List.drop_succ_cons, List.drop_zero]
    repeat (first | still_step | still_call (hvar _))
    refine wpStill_nil ?_
    go_wp2
    exact ⟨rfl, .tuple #[], by simp [results, Try.results94], rfl, H.out, G.out⟩

set_option maxRecDepth 100000 in
set_option maxHeartbeats 1600000 in
theorem onlyTrue_any (z : Int) (w : World) (hz : litB z = true) :
    Calls Try.prog 54 #[.int .i64 z] w fun e w' => e = .returned (arrV (asg zv0 z)) ∧ Below w.heap.size w w' := by
  have Hz := Lib.hid hz
  clear hz
  have hown : OwnV ((w.alloc (.cells (cells12 zv0) 72)).alloc (.cells (cells12 zv0) 72)) (w.heap.size + 1) 72 12 12 zv0 :=
    ⟨_, alloc_two9 _ _ _, Nat.le_refl _, fun i hi => cells12_at zv0 hi⟩
  have hres : ((w.alloc (.cells (cells12 zv0) 72)).alloc (.cells (cells12 zv0) 72)).heap[w.heap.size]? = some (.cells (cells12 zv0) 72 (0, 0)) :=
    ((bl_alloc (Below.refl _ _) _).block w.heap.size (by simp)).trans (heap_alloc_new w _)
  have hbl := bl_alloc (bl_alloc (Below.refl w.heap.size w) (.cells (cells12 zv0) 72)) (.cells (cells12 zv0) 72)
  unfold cells12 zv0 at hown hres hbl
  have HO := Lib.hid hown
  have HR := Lib.hid hres
  have HB := Lib.hid hbl
  clear hown hres hbl
  go_enter Try.func54, Try.ntmps54
  go_wp2_with fail
  refine (makeTrueP_any (w.heap.size + 1) zv0 z _ Hz.out HO.out).mono ?_
  rintro e w1 ⟨rfl, hown, hgr⟩
  have hrow := (hgr.block w.heap.size (by simp; omega) (by simp)).trans HR.out
  have hB1 := HB.out.grown hgr (by simp; omega) (fun j e => by cases e; simp)
  have HO1 := Lib.hid hown
  have HB1 := Lib.hid hB1
  have s1 : w1.rangeAt (w.heap.size + 1) 0 (cl12 (asg zv0 z)) := range12 fun i hi => by rw [Nat.zero_add]; exact ownV_at hown hi
  obtain ⟨hset, hth⟩ := fx_set12 (asg zv0 z) hrow
  have HS := Lib.hid hset
  have HT := Lib.hid hth
  have S1 := Lib.hid s1
  have hu := Try.underlying72
  have hsz12 : (Try.prog.info? 72).map (·.size) = some (cl12 (asg zv0 z)).length := by kernel_rfl
  have HU := Lib.hid hu
  have HSZ := Lib.hid hsz12
  have HB2 := Lib.hid (fx_setCells HB1.out (Nat.le_refl w.heap.size) (cl12 (asg zv0 z)) 0)
  clear hown hgr hB1 HO hrow hset hth s1 hu hsz12 HB1
  go_upto_region 3 with fail
  refine wp_region_list ?_
  refine wpList_load_mid (by rfl) 72 _ (by rfl) (w.heap.size + 1) 0 (by rfl) (cl12 (asg zv0 z)) _ S1.out HU.out (by rfl) HSZ.out ?_
  refine wpList_store_mid (by rfl) 72 _ _ (by rfl) w.heap.size 0 (cl12 (asg zv0 z)).toArray (by rfl) (by rfl) HT.out HSZ.out (fx_one _) ?_
  change wpList _ _ _ _ _ (w1.setCells w.heap.size 0 (cl12 (asg zv0 z)))
  have c0 := ownV_at HS.out (i := 0) (by omega)
  have c1 := ownV_at HS.out (i := 1) (by omega)
  have c2 := ownV_at HS.out (i := 2) (by omega)
  have c3 := ownV_at HS.out (i := 3) (by omega)
  have c4 := ownV_at HS.out (i := 4) (by omega)
  have c5 := ownV_at HS.out (i := 5) (by omega)
  have c6 := ownV_at HS.out (i := 6) (by omega)
  have c7 := ownV_at HS.out (i := 7) (by omega)
  have c8 := ownV_at HS.out (i := 8) (by omega)
  have c9 := ownV_at HS.out (i := 9) (by omega)
  have c10 := ownV_at HS.out (i := 10) (by omega)
  have c11 := ownV_at HS.out (i := 11) (by omega)
  generalize w1.setCells w.heap.size 0 (cl12 (asg zv0 z)) = WE at *
  clear HS HT S1 HU HSZ HR
  go_wp2
  refine bodyPost_ret (v := arrV (asg zv0 z)) (by simp [results, Try.results54, go_sem, arrV, cells12, c0, c1, c2, c3, c4, c5, c6, c7, c8, c9, c10, c11]) rfl ?_
  exact ⟨rfl, HB2.out⟩

set_option linter.unusedVariables false in
set_option maxRecDepth 100000 in
set_option maxHeartbeats 3200000 in
theorem implFxl_any (A : Option Addr) (n cap : Nat) (p : Nat → Con) (z : Int) (w : World) (hn : n ≤ 1048576) (hn' : ∀ i, i < n → (p i).n ≤ 1048576) (hr : RdP w w.heap.size A n p) :
    Calls Try.prog 22 #[.slice A n cap, .int .i64 z] w (FixRes w (fxlN n p z) (fxlOk n p z) (fxlK p z)) := by
  cases hz : litB z with
  | false =>
    have Hfin := Lib.hid (fxl_no (n := n) (p := p) hz)
    have Hz := Lib.hid hz
    clear hz
    go_enter Try.func22, Try.ntmps22
    go_wp2_with fail
    refine (litValid_any _ _).mono ?_
    rintro e w1 ⟨rfl, hw⟩
    replace hw := hw.symm
    subst hw
    rw [Hz.out]
    go_wp2
    go_ret2
    exact fixRes_no Hfin.out (Below.refl _ _)
  | true =>
    have Hfin := Lib.hid (fxl_eq (n := n) (p := p) hz)
    have Hz := Lib.hid hz
    have HN := Lib.hid hn'
    have HR := Lib.hid hr
    clear hz hn' hr
    go_enter Try.func22, Try.ntmps22
    go_wp2_with fail
    refine (litValid_any _ _).mono ?_
    rintro e w1 ⟨rfl, hw⟩
    replace hw := hw.symm
    subst hw
    rw [Hz.out]
    go_wp2_with fail
    refine (onlyTrue_any z _ Hz.out).mono ?_
    rintro e w2 ⟨rfl, hb⟩
    have hal := bl_alloc (Below.refl w2.heap.size w2) (.cells (cells12 (asg zv0 z)) 72)
    have HB := Lib.hid (bl_trans hb hal)
    have hrd : RdI (w2.alloc (.cells (cells12 (asg zv0 z)) 72)) (w2.alloc (.cells (cells12 (asg zv0 z)) 72)).heap.size (some ⟨w2.heap.size, 0, none⟩) 12 (asg zv0 z) := fun _ => ⟨w2.heap.size, 0, rfl, by simp, fun i hi => by
      rw [Nat.zero_add]
      exact (cell_of_row _ w2.heap.size i _ _ _ (heap_alloc_new w2 _)).trans (cells12_at _ hi)⟩
    have HC := Lib.hid (implFix_any A (some ⟨w2.heap.size, 0, none⟩) n cap 12 12 p (asg zv0 z) _ hn HN.out (by omega) (HR.out.later HB.out) hrd)
    unfold cells12 at HC
    unfold arrV cells12
    clear hb hal hrd
    go_wp2_with fail
    refine HC.out.mono ?_
    rintro e w3 ⟨A3, cap3, rfl, hF, hb⟩
    rw [Hfin.out.1, Hfin.out.2] at *
    have HF := Lib.hid (hF.more HB.out.size)
    have HB3 := Lib.hid (bl_trans HB.out hb)
    clear hF hb HC
    go_wp2
    go_ret2
    exact ⟨A3, cap3, rfl, HF.out, HB3.out⟩
end Go.Proofs.Ytbebdhjhlheboaa
