/- The walk of the law FnFullDomains (no claim of its own). Conditions: as each theorem states. -/
import Derived.Test.YthjcbaccoogloaaDmJ
import Derived.Test.YthjcbaccoogloaaFdZ
import Derived.Test.YthjcbaccoogloaaCprA
namespace Go.Proofs.Ythjcbaccoogloaa
open Go.ChangeShapes Go.WideShapes Go.ChangeAt Go.RowKit

theorem rd_zero (w : World) (n B : Nat) (hB : w.heap.size < B) : RdI (w.alloc (.cells (madeCells #[.int .i64 0] n) 3)) B (some ⟨w.heap.size, 0, none⟩) n (fun _ => 0) := fun hn => ⟨w.heap.size, 0, rfl, hB, fun i hi => by
  rw [Nat.zero_add]
  have h := heap_alloc_new w (.cells (madeCells #[.int .i64 0] n) 3)
  unfold World.cell?
  simp only [h]
  show (madeCells #[Value.int .i64 0] n)[i]? = _
  rw [← Array.getElem?_toList, toList_madeCells_one, List.getElem?_replicate, if_pos hi]⟩
theorem OwnVb.set9 {w : World} {G n j : Nat} {T : TypeId} {v v' : Nat → Bool} (h : OwnVb w G T n n v) (b : Bool) (e : v' j = b) (he : ∀ i, i ≠ j → v' i = v i) : OwnVb (w.setCell ⟨G, j, none⟩ (.bool b)) G T n n v' := by
  obtain ⟨cs, hh, h1, h2⟩ := h
  refine ⟨cs.setIfInBounds j (.bool b), ?_, by simp [h1], fun i hi => ?_⟩
  · simp [World.setCell, Array.getElem?_modify, hh]
  · simp only [Array.getElem?_setIfInBounds]
    by_cases e1 : i = j
    · subst e1
      rw [if_pos rfl, if_pos (by omega), e]
    · rw [if_neg (by omega), he i e1]
      exact h2 i hi
/-- The domains with k values of row v struck. -/
def strk (s : Lst) (v k : Nat) (i : Nat) : LsB := if i = v then ⟨(s.x v + 1).toNat, fun j => decide (k ≤ j)⟩ else fulL s i
theorem strk_n {s : Lst} {v k i : Nat} : (strk s v k i).n = (fulL s i).n := by unfold strk fulL; split <;> simp_all
theorem strk_zero {s : Lst} {v i : Nat} : strk s v 0 i = fulL s i := by unfold strk fulL; split <;> simp_all
theorem strk_step {w : World} {s : Lst} {lo hi G m v k len : Nat} {f : Nat → Nat} (h : OwnLs w lo hi G m (strk s v k) f) (hv : v < m) (hk : k < len) (hl : (s.x v + 1).toNat = len) : OwnLs (w.setCell ⟨f v, k, none⟩ (.bool false)) lo hi G m (strk s v (k + 1)) f := by
  have hn : (strk s v k v).n = len := by unfold strk; rw [if_pos rfl]; exact hl
  refine h.put hv ⟨rfl, rfl, rfl, by simp [World.setCell], fun b hb ho => Below.heap_setCell w ⟨f v, k, none⟩ _ b (fun e => ?_)⟩ (by rw [strk_n, strk_n]) ?_ (fun i hi hne => by unfold strk; rw [if_neg hne, if_neg hne])
  · rcases ho with h0 | h0
    · omega
    · exact h0 _ rfl e
  · refine (h.els v hv).2.2.2.set9 false ?_ fun i hi => ?_
    · unfold strk; rw [if_pos rfl]; exact decide_eq_false (by omega)
    · unfold strk; rw [if_pos rfl, if_pos rfl]
      show decide (k + 1 ≤ i) = decide (k ≤ i)
      by_cases hki : k ≤ i
      · rw [decide_eq_true hki]; exact decide_eq_true (by omega)
      · rw [decide_eq_false hki]; exact decide_eq_false (by omega)
theorem dv_any {s : Lst} {n : Nat} {q : Nat → Rul} {d : Nat → LsB} (h : modB s n q = true) (hd : ∀ i, (d i).n = (s.x i + 1).toNat) : dvB s n q s.n d = true := by
  obtain ⟨_, _, h3, _⟩ := mod_parts h
  unfold dvB fitB
  simp only [Bool.and_eq_true, beq_iff_eq]
  refine ⟨h, trivial, prE_iff.2 fun i hi => ?_⟩
  have := size_at h3 hi
  rw [beq_iff_eq, hd i]
  omega
theorem fd_all {s : Lst} {n : Nat} {q : Nat → Rul} (h : modB s n q = true) {v k : Nat} (hv : v < s.n) :
    ciB s n q s.n (fulL s) ⟨s.n, fun _ => 0⟩ = true ∧ deB s n q s.n (fulL s) = false ∧ ciB s n q s.n (fulL s) s = true ∧ ((s.x v + 1).toNat = k → deB s n q s.n (strk s v k) = true ∧ ciB s n q s.n (strk s v k) ⟨s.n, fun _ => 0⟩ = false) := by
  obtain ⟨h1, h2, h3, _⟩ := mod_parts h
  have hsz := fun i hi => size_at h3 (k := i) hi
  have d1 := dv_any (d := fulL s) h (fun i => rfl)
  have c1 : celsB s ⟨s.n, fun _ => 0⟩ = true := by
    unfold celsB
    rw [Bool.and_eq_true, beq_iff_eq]
    exact ⟨rfl, prE_iff.2 fun i hi => by have := hsz i hi; simp [betB]; omega⟩
  have c2 : celsB s s = true := by
    unfold celsB
    rw [Bool.and_eq_true, beq_iff_eq]
    exact ⟨rfl, prE_iff.2 fun i hi => by have := hsz i hi; simp [betB]; omega⟩
  have i1 : ∀ u, inQ u (fulL s) s.n = true := fun u => prE_iff.2 fun i hi => rfl
  have ano : ∀ {e : Nat → Bool} {n : Nat}, (∀ i, i < n → e i = false) → anyQ e n = false := fun {e n} he => by
    induction n with
    | zero => rfl
    | succ n ih => show (anyQ e n || e n) = false; rw [ih (fun i hi => he i (by omega)), he n (by omega)]; rfl
  refine ⟨?_, ?_, ?_, fun hk => ⟨?_, ?_⟩⟩
  · unfold ciB; rw [d1, c1, i1]; rfl
  · unfold deB
    rw [d1]
    show emQ s.n (fulL s) = false
    refine ano fun i hi => ?_
    have hs := hsz i hi
    show (!anyQ (fun _ => true) (s.x i + 1).toNat) = false
    rw [anyQ_of (k := 0) (by omega) rfl]; rfl
  · unfold ciB; rw [d1, c2, i1]; rfl
  · have d2 := dv_any (d := strk s v k) h (fun i => strk_n)
    unfold deB
    rw [d2]
    show emQ s.n (strk s v k) = true
    refine anyQ_of (k := v) hv ?_
    have : anyQ (strk s v k v).x (strk s v k v).n = false := ano fun i hi => by
      unfold strk at hi ⊢
      rw [if_pos rfl] at hi ⊢
      exact decide_eq_false (by simp only at hi; omega)
    rw [this]; rfl
  · have d2 := dv_any (d := strk s v k) h (fun i => strk_n)
    unfold ciB
    rw [d2, c1]
    have : inQ (fun _ => 0) (strk s v k) s.n = false := prE_no hv (by
      unfold strk
      rw [if_pos rfl]
      have hs := hsz v hv
      exact decide_eq_false (by show ¬ k ≤ (0 : Int).toNat; simp; omega))
    rw [this]; rfl

set_option linter.unusedSimpArgs false in
set_option linter.unusedVariables false in
set_option maxRecDepth 100000 in
set_option maxHeartbeats 6400000 in
theorem lawFnFullDomains_ok (A0 : Option Addr) (n0 cap0 : Nat) (y0 : Nat → Int) (A1 : Option Addr) (n1 cap1 : Nat) (y1 : Nat → Int) (w : World) (h0 : n0 ≤ 1048576) (hc0 : n0 ≤ cap0) (hr0 : RdY w w.heap.size A0 n0 y0) (h1 : n1 ≤ 1048576) (hc1 : n1 ≤ cap1) (hr1 : RdY w w.heap.size A1 n1 y1) :
    Calls Try.prog 8 #[.slice A0 n0 cap0, .slice A1 n1 cap1] w fun e w' => e = .returned (.bool true) ∧ Below w.heap.size w w' := by
  have hm0 : n0 ≤ maxLen := by unfold maxLen; omega
  have hi0 : ¬ (1048576 : Int) < (n0 : Int) := by omega
  have hm1 : n1 ≤ maxLen := by unfold maxLen; omega
  have hi1 : ¬ (1048576 : Int) < (n1 : Int) := by omega
  go_enter Try.func8, Try.ntmps8
  go_wp2_with fail
  refine (drawFull_any _ _ _ y0 _ hm0 hc0 hr0).mono ?_
  rintro e w1 ⟨As, cs, Ar, cr, sn, n, rfl, hmt⟩
  obtain ⟨s, q, rfl, hm⟩ := hmt.rd
  have p1 : s.n ≤ 1048576 := by have := hm.hs; omega
  have p3 : n ≤ 1048576 := by have := hm.hn; omega
  have p4 := Lib.hid (fun i hi => Rul.fit_more (hm.fit i hi) (show 22 ≤ 1048576 by omega))
  have HB := Lib.hid hm.bl
  have HM := Lib.hid hm
  clear hmt hm
  go_wp2_with fail
  have hal := bl_alloc (Below.refl w1.heap.size w1) (.cells #[.slice As s.n cs, .slice Ar n cr] 26)
  have x0 : (w1.alloc (.cells #[.slice As s.n cs, .slice Ar n cr] 26)).cell? ⟨w1.heap.size, 0, none⟩ = some (.slice As s.n cs) := by go_simp
  have x1 : (w1.alloc (.cells #[.slice As s.n cs, .slice Ar n cr] 26)).cell? ⟨w1.heap.size, 1, none⟩ = some (.slice Ar n cr) := by go_simp
  have HB' := Lib.hid (bl_trans HB.out hal)
  have HM' := Lib.hid (HM.out.later hal)
  clear hal HB HM
  have HB := HB'
  clear HB'
  have HM := HM'
  clear HM'
  generalize (w1.alloc (.cells #[.slice As s.n cs, .slice Ar n cr] 26)) = w2 at *
  obtain ⟨X, hX⟩ : ∃ X, w1.heap.size = X := ⟨_, rfl⟩
  rw [hX] at x0 x1 ⊢
  clear hX
  have HB2W := HB
  have HM2 := HM
  have X02 := Lib.hid x0
  have X12 := Lib.hid x1
  refine (implFD_any s n q As Ar cs cr _ p1 p3 p4.out HM.out.rs HM.out.rr).mono ?_
  rintro e w3 ⟨Ad, cd, rfl, hown, hb⟩
  have HOW := Lib.hid hown
  have hb3 := hb
  have HB' := Lib.hid (bl_trans HB.out hb)
  have HM' := Lib.hid (HM.out.later hb)
  replace x0 := kc hb x0
  replace x1 := kc hb x1
  clear hb HB HM
  have HB := HB'
  clear HB'
  have HM := HM'
  clear HM'
  have HB23 := Lib.hid hb3
  clear hb3 hown
  have hfd := fdN_le (s := s) (n := n) (q := q)
  have HRD := Lib.hid (show RdLB w3 w3.heap.size Ad (fdN s n q) (fulL s) from by rcases HOW.out with ⟨h0, rfl⟩ | ⟨G, f, rfl, ho⟩; exact (fun hn => absurd hn (by omega)); exact ho.rd)
  have HFL := Lib.hid (show ∀ i, i < fdN s n q → (fulL s i).n ≤ 1048576 from fun i hi => by unfold fdN at hi; split at hi; rename_i hmo; have := size_at (mod_parts hmo).2.2.1 hi; (show (s.x i + 1).toNat ≤ 1048576; omega); omega)
  obtain ⟨F, hF⟩ : ∃ F, fdN s n q = F := ⟨_, rfl⟩
  have HF := Lib.hid hF
  rw [hF] at hfd HRD HFL HOW ⊢
  clear hF
  have hw3 := HB23.out.size
  go_wp2_with fail
  refine (specFD_any s n q As Ar cs cr _ p1 p3 p4.out HM.out.rs HM.out.rr).mono ?_
  rintro e w4 ⟨Az, cz, rfl, hrz, hb⟩
  rw [HF.out] at hrz ⊢
  have HRZ := Lib.hid hrz
  clear hrz
  have HRD' := Lib.hid (HRD.out.later hb)
  have HK1 := Lib.hid hb
  have HB' := Lib.hid (bl_trans HB.out hb)
  have HM' := Lib.hid (HM.out.later hb)
  replace x0 := kc hb x0
  replace x1 := kc hb x1
  clear hb HB HM
  have HB := HB'
  clear HB'
  have HM := HM'
  clear HM'
  go_wp2_with fail
  refine (cpRows_refl Ad Az F cd cz (fulL s) _ (by omega) HFL.out HRD'.out HRZ.out).mono ?_
  rintro e w5 ⟨rfl, hb⟩
  have HRDn := Lib.hid (HRD'.out.later hb)
  have HK2 := Lib.hid (bl_trans HK1.out hb)
  clear HRD' HRZ HK1
  have HB' := Lib.hid (bl_trans HB.out hb)
  have HM' := Lib.hid (HM.out.later hb)
  replace x0 := kc hb x0
  replace x1 := kc hb x1
  clear hb HB HM
  have HB := HB'
  clear HB'
  have HM := HM'
  clear HM'
  go_wp2_with fail
  refine (implValidM_any s n q As Ar cs cr _ p1 p3 p4.out HM.out.rs HM.out.rr).mono ?_
  rintro e w6 ⟨rfl, hb⟩
  have HK3 := Lib.hid (bl_trans HK2.out hb)
  have HRD6 := Lib.hid (HRDn.out.later hb)
  clear HK2 HRDn HRD
  have HB' := Lib.hid (bl_trans HB.out hb)
  have HM' := Lib.hid (HM.out.later hb)
  replace x0 := kc hb x0
  replace x1 := kc hb x1
  clear hb HB HM
  have HB := HB'
  clear HB'
  have HM := HM'
  clear HM'
  have HRD := HRD6
  clear HRD6
  cases hmo : modB s n q with
  | false =>
    clear hmo HOW HK3
    go_wp2_with fail
    refine (specFD_any s n q As Ar cs cr _ p1 p3 p4.out HM.out.rs HM.out.rr).mono ?_
    rintro e w7 ⟨Az, cz, rfl, hrz, hb⟩
    rw [HF.out] at hrz ⊢
    have HRZ := Lib.hid hrz
    clear hrz
    have HRD' := Lib.hid (HRD.out.later hb)
    have HB' := Lib.hid (bl_trans HB.out hb)
    have HM' := Lib.hid (HM.out.later hb)
    replace x0 := kc hb x0
    replace x1 := kc hb x1
    clear hb HB HM
    have HB := HB'
    clear HB'
    have HM := HM'
    clear HM'
    go_wp2_with fail
    refine (cpRows_refl Ad Az F cd cz (fulL s) _ (by omega) HFL.out HRD'.out HRZ.out).mono ?_
    rintro e w8 ⟨rfl, hb⟩
    clear HRD' HRZ
    have HB' := Lib.hid (bl_trans HB.out hb)
    have HM' := Lib.hid (HM.out.later hb)
    replace x0 := kc hb x0
    replace x1 := kc hb x1
    clear hb HB HM
    have HB := HB'
    clear HB'
    have HM := HM'
    clear HM'
    go_wp2
    go_ret
    exact ⟨rfl, HB.out⟩
  | true =>
    obtain ⟨h1, h5, hsz, -⟩ := mod_parts hmo
    have hFs : F = s.n := by rw [← HF.out]; unfold fdN; rw [if_pos hmo]
    subst hFs
    obtain ⟨v, hv⟩ : ∃ v, n1 % s.n = v := ⟨_, rfl⟩
    have hvl : v < s.n := by rw [← hv]; exact Nat.mod_lt _ (by omega)
    have hmod : ((n1 : Int)).tmod (s.n : Int) = (v : Int) := by rw [← hv]; exact IntWalk.up_tmod rfl rfl
    have HSZ := Lib.hid (size_at hsz hvl)
    have HALL := Lib.hid (fun k => fd_all (s := s) (n := n) (q := q) (v := v) (k := k) hmo hvl)
    rcases HOW.out with ⟨h0, -⟩ | ⟨G, f, rfl, ho⟩
    · omega
    have HO6 := Lib.hid (ho.below HK3.out)
    clear ho HOW hmo hsz HF HFL hv
    obtain ⟨i0, hi9, hz0, hz1, hz2⟩ := info_parts Try.infoInt
    have hmk := fun W => run_make (P := Try.prog) W 23 3 i0 _ Try.underlying23 hi9 hz0 .i64 .i64 (s.n : Int) s.n (by omega) (by omega) (by rw [hz2]; omega) (by omega)
    rw [hz1] at hmk
    clear hi9 hz0 hz1 hz2
    have hal := bl_alloc (Below.refl w6.heap.size w6) (.cells (madeCells #[.int .i64 0] s.n) 3)
    have HZ := Lib.hid (rd_zero w6 s.n (w6.alloc (.cells (madeCells #[.int .i64 0] s.n) 3)).heap.size (by simp))
    have HBW := Lib.hid (bl_trans (bl_trans HB23.out HK3.out) hal)
    have HO7 := Lib.hid (HO6.out.below hal)
    have x0z := kc hal x0
    have x1z := kc hal x1
    have HM7 := Lib.hid (HM.out.later hal)
    have HB7 := Lib.hid (bl_trans HB.out hal)
    have HD7 := Lib.hid (HRD.out.later hal)
    have hw6 := HK3.out.size
    clear hal HM HB HRD HO6
    have hsI : (s.n : Int) ≤ 5 := by omega
    have hs1 : (1 : Int) ≤ (s.n : Int) := by omega
    have hsne : ¬ (s.n : Int) = 0 := by omega
    go_wp2_with fail
    generalize (w6.alloc (.cells (madeCells #[.int .i64 0] s.n) 3)) = w7 at *
    obtain ⟨p, hp⟩ : ∃ p, w6.heap.size = p := ⟨_, rfl⟩
    rw [hp] at HZ hw6 ⊢
    have hpw3 : w3.heap.size ≤ p := hw6
    clear hmk hp
    have HM := HM7
    clear HM7
    have HB := HB7
    clear HB7
    clear x0 x1
    have HD := HD7
    have HO := HO7
    have x0 := x0z
    have x1 := x1z
    clear HD7 HO7 x0z x1z
    obtain ⟨b1, b2, b3, b4⟩ := HALL.out (s.x v + 1).toNat
    have B1 := Lib.hid b1
    have B2 := Lib.hid b2
    have B3 := Lib.hid b3
    have B4 := Lib.hid (b4 rfl)
    clear b1 b2 b3 b4 HALL
    have HL4 := Lib.hid (fun (d : Nat → LsB) (hd : deB s n q s.n d = true ∨ ciB s n q s.n d s = true) => show ∀ i, i < s.n → (d i).n ≤ 1048576 from fun i hi => by have hdv : dvB s n q s.n d = true := (by rcases hd with h | h; (unfold deB at h; rw [Bool.and_eq_true] at h; exact h.1); (unfold ciB at h; rw [Bool.and_eq_true] at h; exact h.1)); have := (dv_parts hdv).2 i hi; omega)
    refine (implCI_any s n q s.n (fulL s) ⟨s.n, fun _ => 0⟩ As Ar (some ⟨G, 0, none⟩) (some ⟨p, 0, none⟩) cs cr cd s.n _ p1 p3 p4.out p1 (HL4.out _ (.inr B3.out)) p1 HM.out.rs HM.out.rr HD.out HZ.out).mono ?_
    rintro e w8 ⟨rfl, hb⟩
    rw [B1.out]
    have HO' := Lib.hid (HO.out.below hb)
    have HBW' := Lib.hid (bl_trans HBW.out hb)
    clear HBW
    have HBW := HBW'
    clear HBW'
    have HB' := Lib.hid (bl_trans HB.out hb)
    have HM' := Lib.hid (HM.out.later hb)
    have HD' := Lib.hid (HD.out.later hb)
    have HZ' := Lib.hid (HZ.out.later hb)
    replace x0 := kc hb x0
    replace x1 := kc hb x1
    clear hb HB HM HD HZ
    have HB := HB'
    clear HB'
    have HM := HM'
    clear HM'
    have HD := HD'
    clear HD'
    have HZ := HZ'
    clear HZ'
    clear HO
    have HO := HO'
    clear HO'
    go_wp2_with fail
    refine (implDE_any s n q s.n (fulL s) As Ar (some ⟨G, 0, none⟩) cs cr cd _ p1 p3 p4.out p1 (HL4.out _ (.inr B3.out)) HM.out.rs HM.out.rr HD.out).mono ?_
    rintro e w9 ⟨rfl, hb⟩
    rw [B2.out]
    have HO' := Lib.hid (HO.out.below hb)
    have HBW' := Lib.hid (bl_trans HBW.out hb)
    clear HBW
    have HBW := HBW'
    clear HBW'
    have HB' := Lib.hid (bl_trans HB.out hb)
    have HM' := Lib.hid (HM.out.later hb)
    have HD' := Lib.hid (HD.out.later hb)
    have HZ' := Lib.hid (HZ.out.later hb)
    replace x0 := kc hb x0
    replace x1 := kc hb x1
    clear hb HB HM HD HZ
    have HB := HB'
    clear HB'
    have HM := HM'
    clear HM'
    have HD := HD'
    clear HD'
    have HZ := HZ'
    clear HZ'
    clear HO
    have HO := HO'
    clear HO'
    go_wp2_with fail
    refine (implCI_any s n q s.n (fulL s) s As Ar (some ⟨G, 0, none⟩) As cs cr cd cs _ p1 p3 p4.out p1 (HL4.out _ (.inr B3.out)) p1 HM.out.rs HM.out.rr HD.out HM.out.rs).mono ?_
    rintro e wa ⟨rfl, hb⟩
    rw [B3.out]
    have HO' := Lib.hid (HO.out.below hb)
    have HBW' := Lib.hid (bl_trans HBW.out hb)
    clear HBW
    have HBW := HBW'
    clear HBW'
    have HB' := Lib.hid (bl_trans HB.out hb)
    have HM' := Lib.hid (HM.out.later hb)
    have HD' := Lib.hid (HD.out.later hb)
    have HZ' := Lib.hid (HZ.out.later hb)
    replace x0 := kc hb x0
    replace x1 := kc hb x1
    clear hb HB HM HD HZ
    have HB := HB'
    clear HB'
    have HM := HM'
    clear HM'
    have HD := HD'
    clear HD'
    have HZ := HZ'
    clear HZ'
    clear HO
    have HO := HO'
    clear HO'
    obtain ⟨len, hlen⟩ : ∃ len, (s.x v + 1).toNat = len := ⟨_, rfl⟩
    have hlb : len ≤ 4 := by have := HSZ.out; omega
    have HLEN := Lib.hid hlen
    rw [hlen] at B4
    clear hlen
    clear HM HB HD
    have HO0 := Lib.hid (show OwnLs wa w2.heap.size w3.heap.size G s.n (strk s v 0) f from by have h := HO.out; rw [show strk s v 0 = fulL s from funext fun i => strk_zero]; exact h)
    have hfp := Lib.hid (HO.out.els v hvl)
    go_wp2_with fail
    go_loopw [9] (fun c wr => ∃ k : Nat, k ≤ len ∧ c = .int .i64 k ∧ OwnLs wr w2.heap.size w3.heap.size G s.n (strk s v k) f ∧ RdI wr wr.heap.size (some ⟨p, 0, none⟩) s.n (fun _ => 0) ∧ Below w2.heap.size w2 wr) (fun c _ => len - (intOf c).toNat)
    case atStart => exact ⟨0, Nat.zero_le _, rfl, HO0.out, HZ.out, HBW.out⟩
    case round =>
      obtain ⟨k, hk, rfl, ho, hz, hb⟩ := hrel
      have HOk := Lib.hid ho
      have HZk := Lib.hid hz
      have HBk := Lib.hid hb
      obtain ⟨ci, hci⟩ := ho.cell hvl
      have hn : (strk s v k v).n = len := by unfold strk; rw [if_pos rfl]; exact HLEN.out
      rw [hn] at hci
      have hel := (ho.els v hvl).2.2.2
      rw [hn] at hel
      have HEL := Lib.hid hel
      clear hn hel ho hz hb HO0 HZ HBW x0 x1
      have hvI : (v : Int) < (s.n : Int) := by omega
      have hv0 : (0 : Int) ≤ (v : Int) := by omega
      by_cases hlt : k < len
      · have hltI : (k : Int) < (len : Int) := by omega
        have hk0 : (0 : Int) ≤ (k : Int) := by omega
        obtain ⟨u0, hu0⟩ := HEL.out.cell hlt
        have hf0 := HEL.out.frozen k
        have HON := Lib.hid (strk_step HOk.out hvl hlt HLEN.out)
        have HZN := Lib.hid (show RdI (wr.setCell ⟨f v, k, none⟩ (.bool false)) (wr.setCell ⟨f v, k, none⟩ (.bool false)).heap.size (some ⟨p, 0, none⟩) s.n (fun _ => 0) from fun hn => by obtain ⟨b, off, e, hbl, hc⟩ := HZk.out hn; refine ⟨b, off, e, by simpa [World.setCell] using hbl, fun i hi => ?_⟩; cases e; exact (World.cell?_setCell_other _ _ _ _ (fun e => by injection e with e1; have := hfp.out.2.1; omega)).trans (hc i hi))
        have HBN := Lib.hid (HBk.out.setCell (p := ⟨f v, k, none⟩) (show w2.heap.size ≤ f v from hfp.out.1) (.bool false))
        clear HOk HZk HBk HEL
        go_wp2
        go_roundw
        case rel => exact ⟨k + 1, by omega, by go_num, HON.out, HZN.out, HBN.out⟩
        case measure => simp [intOf]; omega
      · obtain rfl : k = len := by omega
        have HM := Lib.hid (HM2.out.later HBk.out)
        have HB := Lib.hid (bl_trans HB2W.out HBk.out)
        have x0 := kc HBk.out X02.out
        have x1 := kc HBk.out X12.out
        have HD := Lib.hid HOk.out.rd
        have HZ := HZk
        have HO := HOk
        have HBW := HBk
        clear HZk HOk HBk HEL HM2 X02 X12
        go_wp2_with fail
        refine (implDE_any s n q s.n (strk s v k) As Ar (some ⟨G, 0, none⟩) cs cr cd _ p1 p3 p4.out p1 (HL4.out _ (.inl B4.out.1)) HM.out.rs HM.out.rr HD.out).mono ?_
        rintro e wb ⟨rfl, hb⟩
        rw [B4.out.1]
        have HO' := Lib.hid (HO.out.below hb)
        have HBW' := Lib.hid (bl_trans HBW.out hb)
        clear HBW
        have HBW := HBW'
        clear HBW'
        have HB' := Lib.hid (bl_trans HB.out hb)
        have HM' := Lib.hid (HM.out.later hb)
        have HD' := Lib.hid (HD.out.later hb)
        have HZ' := Lib.hid (HZ.out.later hb)
        replace x0 := kc hb x0
        replace x1 := kc hb x1
        clear hb HB HM HD HZ
        have HB := HB'
        clear HB'
        have HM := HM'
        clear HM'
        have HD := HD'
        clear HD'
        have HZ := HZ'
        clear HZ'
        clear HO
        have HO := HO'
        clear HO'
        go_wp2_with fail
        refine (implCI_any s n q s.n (strk s v k) ⟨s.n, fun _ => 0⟩ As Ar (some ⟨G, 0, none⟩) (some ⟨p, 0, none⟩) cs cr cd s.n _ p1 p3 p4.out p1 (HL4.out _ (.inl B4.out.1)) p1 HM.out.rs HM.out.rr HD.out HZ.out).mono ?_
        rintro e wc ⟨rfl, hb⟩
        rw [B4.out.2]
        have HO' := Lib.hid (HO.out.below hb)
        have HBW' := Lib.hid (bl_trans HBW.out hb)
        clear HBW
        have HBW := HBW'
        clear HBW'
        have HB' := Lib.hid (bl_trans HB.out hb)
        have HM' := Lib.hid (HM.out.later hb)
        have HD' := Lib.hid (HD.out.later hb)
        have HZ' := Lib.hid (HZ.out.later hb)
        replace x0 := kc hb x0
        replace x1 := kc hb x1
        clear hb HB HM HD HZ
        have HB := HB'
        clear HB'
        have HM := HM'
        clear HM'
        have HD := HD'
        clear HD'
        have HZ := HZ'
        clear HZ'
        clear HO
        have HO := HO'
        clear HO'
        go_wp2
        go_ret
        exact ⟨rfl, HB.out⟩

set_option linter.unusedSimpArgs false in
set_option linter.unusedVariables false in
set_option maxRecDepth 100000 in
set_option maxHeartbeats 6400000 in
theorem lawFnFullDomains_walk (A0 : Option Addr) (n0 cap0 : Nat) (y0 : Nat → Int) (A1 : Option Addr) (n1 cap1 : Nat) (y1 : Nat → Int) (w : World) (hm0 : n0 ≤ maxLen) (hc0 : n0 ≤ cap0) (hr0 : RdY w w.heap.size A0 n0 y0) (hm1 : n1 ≤ maxLen) (hc1 : n1 ≤ cap1) (hr1 : RdY w w.heap.size A1 n1 y1) :
    Calls Try.prog 8 #[.slice A0 n0 cap0, .slice A1 n1 cap1] w fun e w' => e = .returned (.bool true) ∧ Below w.heap.size w w' := by
  by_cases h0 : n0 ≤ 1048576
  · by_cases h1 : n1 ≤ 1048576
    · exact lawFnFullDomains_ok A0 n0 cap0 y0 A1 n1 cap1 y1 w h0 hc0 hr0 h1 hc1 hr1
    · unfold maxLen at hm1
      have hi0 : ¬ (1048576 : Int) < (n0 : Int) := by omega
      have hi1 : (1048576 : Int) < (n1 : Int) := by omega
      go_enter Try.func8, Try.ntmps8
      go_wp2
      go_ret
      exact ⟨rfl, Below.refl _ _⟩
  · unfold maxLen at hm0
    have hi0 : (1048576 : Int) < (n0 : Int) := by omega
    go_enter Try.func8, Try.ntmps8
    go_wp2
    go_ret
    exact ⟨rfl, Below.refl _ _⟩
end Go.Proofs.Ythjcbaccoogloaa
