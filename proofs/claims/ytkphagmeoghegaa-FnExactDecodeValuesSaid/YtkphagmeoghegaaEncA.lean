/- EncodeCells: what it says; the reference's side (no claim of its own). Conditions: as each theorem states. -/
import Derived.Test.YtkphagmeoghegaaRhZ
import Derived.Test.YtkphagmeoghegaaLwtA
namespace Go.Proofs.Ytkphagmeoghegaa
open Go.ChangeShapes Go.WideShapes Go.ChangeAt Go.RowKit

theorem tS_mono {x : Nat → Int} {k n : Nat} (hk : k ≤ n) (h : prE (fun i => betB 0 3 (x i)) n = true) : tS x k ≤ tS x n := by
  induction n with
  | zero => obtain rfl : k = 0 := by omega
            exact Int.le_refl _
  | succ n ih =>
    by_cases e : k = n + 1
    · subst e; exact Int.le_refl _
    · have h1 := ih (by omega) (prE_le h (by omega))
      have h2 := prE_at h (show n < n + 1 by omega)
      simp [betB] at h2
      show _ ≤ tS x n + x n + 1
      omega
/-- The Booleans of the first k cells. -/
def eb (x c : Nat → Int) (k p : Nat) : Bool := anyQ (fun i => decide ((p : Int) = c i + tS x i)) k
theorem eb_zero (x c : Nat → Int) (p : Nat) : eb x c 0 p = false := rfl
theorem eb_hit {x c : Nat → Int} {k p : Nat} (h : c k + tS x k = (p : Int)) : eb x c (k + 1) p = true := by
  unfold eb
  rw [show anyQ (fun i => decide ((p : Int) = c i + tS x i)) (k + 1) = (anyQ (fun i => decide ((p : Int) = c i + tS x i)) k || decide ((p : Int) = c k + tS x k)) from rfl, h]
  simp
theorem eb_miss {x c : Nat → Int} {k p i : Nat} (h : c k + tS x k = (p : Int)) (hi : i ≠ p) : eb x c (k + 1) i = eb x c k i := by
  unfold eb
  rw [show anyQ (fun j => decide ((i : Int) = c j + tS x j)) (k + 1) = (anyQ (fun j => decide ((i : Int) = c j + tS x j)) k || decide ((i : Int) = c k + tS x k)) from rfl, h]
  simp [show ¬ (i : Int) = (p : Int) by omega]
/-- What EncodeCells answers. -/
def ecN (s : Lst) (n : Nat) (q : Nat → Rul) (c : Lst) : Nat := if cvB s n q c then 12 else 0
theorem ecN_le (s : Lst) (n : Nat) (q : Nat → Rul) (c : Lst) : ecN s n q c ≤ 1048576 := by unfold ecN; split <;> omega
theorem sresB_zero {w : World} {n : Nat} {v v' : Nat → Bool} {ok : Bool} {e : Ending} {w' : World} (hn : n = 0) (h : SResB w n v ok e w') : SResB w n v' ok e w' := by
  obtain ⟨A, cap, he, _, hb⟩ := h
  exact ⟨A, cap, he, .inl hn, hb⟩
theorem OwnVb.set_ {w : World} {G n j : Nat} {T : TypeId} {v v' : Nat → Bool} (h : OwnVb w G T n n v) (b : Bool) (e : v' j = b) (he : ∀ i, i ≠ j → v' i = v i) : OwnVb (w.setCell ⟨G, j, none⟩ (.bool b)) G T n n v' := by
  obtain ⟨cs, hh, h1, h2⟩ := h
  refine ⟨cs.setIfInBounds j (.bool b), ?_, by simp [h1], fun i hi => ?_⟩
  · simp [World.setCell, Array.getElem?_modify, hh]
  · simp only [Array.getElem?_setIfInBounds]
    by_cases e1 : i = j
    · subst e1
      rw [if_pos rfl, if_pos (by omega), e]
    · rw [if_neg (by omega), he i e1]
      exact h2 i hi
theorem ownVb_made {w : World} : OwnVb (w.alloc (.cells (madeCells #[Value.bool false] 12) 4)) w.heap.size 4 12 12 (fun _ => false) := by
  have h : (madeCells #[Value.bool false] 12).toList = List.replicate 12 (.bool false) := toList_madeCells_one (.bool false) 12
  refine ⟨_, heap_alloc_new _ _, ?_, fun i hi => ?_⟩
  · rw [← Array.length_toList, h]; simp
  · rw [← Array.getElem?_toList, h, List.getElem?_replicate, if_pos hi]
theorem cv_le {s : Lst} {n : Nat} {q : Nat → Rul} {c : Lst} (h : cvB s n q c = true) : ∀ i, i < s.n → c.x i ≤ s.x i := fun i hi => by
  unfold cvB celsB at h
  simp only [Bool.and_eq_true] at h
  have := prE_at h.2.2 hi
  simp [betB] at this
  exact this.2

set_option linter.unusedSimpArgs false in
set_option maxRecDepth 100000 in
set_option maxHeartbeats 3200000 in
theorem specEnc_any (s c : Lst) (n : Nat) (q : Nat → Rul) (As Ar Ac : Option Addr) (cs cr cc : Nat) (w : World) (p1 : s.n ≤ 1048576) (p2 : c.n ≤ 1048576) (p3 : n ≤ 1048576) (p4 : ∀ i, i < n → (q i).fit 1048576) (hs : RdI w w.heap.size As s.n s.x) (hr : RdRs w w.heap.size Ar n q) (hc : RdI w w.heap.size Ac c.n c.x) :
    Calls Try.prog 29 #[.agg #[.slice As s.n cs, .slice Ar n cr], .slice Ac c.n cc] w (SResB w (ecN s n q c) (eb s.x c.x s.n) (cvB s n q c)) := by
  have HS := Lib.hid hs
  have HR := Lib.hid hr
  have HC := Lib.hid hc
  have P4 := Lib.hid p4
  clear hs hr hc p4
  obtain ⟨i0, hi, hz0, hz1, hz2⟩ := info_parts Try.infoBool
  have hmk := fun W => run_make (P := Try.prog) W 43 4 i0 _ Try.underlying43 hi hz0 .i64 .i64 12 12 (by omega) (by omega) (by rw [hz2]; omega) (by omega)
  rw [hz1] at hmk
  clear hi hz0 hz1 hz2
  have HA := Lib.hid (bl_alloc (Below.refl w.heap.size w))
  go_enter Try.func29, Try.ntmps29
  go_wp2_with fail
  have a0 : (w.alloc (.cells #[.slice As s.n cs, .slice Ar n cr] 30)).cell? ⟨w.heap.size, 0, none⟩ = some (.slice As s.n cs) := by go_simp
  have a1 : (w.alloc (.cells #[.slice As s.n cs, .slice Ar n cr] 30)).cell? ⟨w.heap.size, 1, none⟩ = some (.slice Ar n cr) := by go_simp
  have HB := Lib.hid (HA.out (.cells #[.slice As s.n cs, .slice Ar n cr] 30))
  clear HA
  generalize (w.alloc (.cells #[.slice As s.n cs, .slice Ar n cr] 30)) = w1 at *
  refine (specCells_any s c n q _ _ _ _ _ _ _ p1 p2 p3 P4.out (HS.out.later HB.out) (HR.out.later HB.out) (HC.out.later HB.out)).mono ?_
  rintro e w2 ⟨rfl, hb⟩
  have HB2 := Lib.hid (bl_trans HB.out hb)
  replace a0 := kc hb a0
  replace a1 := kc hb a1
  clear hb HB
  cases hm : cvB s n q c with
  | false =>
    have Hn := Lib.hid (show ecN s n q c = 0 from by unfold ecN; rw [hm]; rfl)
    have Hm := Lib.hid hm
    clear hm
    go_wp2
    refine bodyPost_ret (v := .tuple #[.slice (some ⟨w2.heap.size, 0, none⟩) 0 0, .bool false]) (by simp [results, Try.results29, go_sem]) rfl ?_
    exact ⟨_, _, by rw [Hn.out, Hm.out], .inl Hn.out, bl_trans HB2.out (bl_alloc (Below.refl _ _) _)⟩
  | true =>
    have Hn := Lib.hid (show ecN s n q c = 12 from by unfold ecN; rw [hm]; rfl)
    have Hle := Lib.hid (cv_le hm)
    have Ok := Lib.hid (cv_ok hm)
    have hlen := Ok.out.len
    have Hm := Lib.hid hm
    clear hm
    have hx := HC.out.later HB2.out
    rw [hlen] at hx
    have HX := Lib.hid hx
    clear hx
    have HS2 := Lib.hid (HS.out.later HB2.out)
    obtain ⟨H, hHe⟩ : ∃ H, w.heap.size = H := ⟨_, rfl⟩
    have hHl : H < w2.heap.size := by rw [← hHe]; exact World.block_lt_of_cell? w2 _ a0
    have HH := Lib.hid hHe
    rw [hHe] at a0 a1 ⊢
    clear hHe
    go_wp2
    have Made := Lib.hid (ownVb_made (w := w2))
    go_loopw [7] (fun i wr => ∃ k : Nat, k ≤ s.n ∧ i = .int .i64 k ∧ OwnVb wr w2.heap.size 4 12 12 (eb s.x c.x k) ∧ Below w2.heap.size w2 wr) (fun i _ => s.n - (intOf i).toNat)
    case atStart => exact ⟨0, Nat.zero_le _, rfl, Made.out, bl_alloc (Below.refl _ _) _⟩
    case round =>
      obtain ⟨k, hk, rfl, hown, hb⟩ := hrel
      replace a0 := kc hb a0
      replace a1 := kc hb a1
      by_cases hlt : k < s.n
      · obtain ⟨b, off, rfl, hbl, hc⟩ := (HX.out.below hb) (by omega)
        have c1 := hc k hlt
        clear hc
        have hsz := size_at Ok.out.sizes hlt
        have hcel := Ok.out.cel k hlt
        have hcv : c.x k ≤ s.x k := Hle.out k hlt
        have hT0 := (tS_bd (prE_le Ok.out.sizes (show k ≤ s.n by omega))).1
        have hT1 := tS_mono (show k + 1 ≤ s.n by omega) Ok.out.sizes
        have hT2 : tS s.x (k + 1) = tS s.x k + s.x k + 1 := rfl
        have hT3 := Ok.out.sum
        obtain ⟨p, hp⟩ : ∃ p : Nat, c.x k + tS s.x k = (p : Int) := ⟨(c.x k + tS s.x k).toNat, by omega⟩
        have hp12 : p < 12 := by omega
        have Hset := Lib.hid (fun W (h : OwnVb W w2.heap.size 4 12 12 (eb s.x c.x k)) => h.set_ (v' := eb s.x c.x (k + 1)) (j := p) true (eb_hit hp) (fun i hi => eb_miss hp hi))
        have Hown := Lib.hid hown
        have HBk := Lib.hid hb
        have hlt' : (k : Int) < (s.n : Int) := by omega
        have hk0 : (0 : Int) ≤ (k : Int) := by omega
        have hp0 : (0 : Int) ≤ (p : Int) := by omega
        have hp1 : (p : Int) < 12 := by omega
        have hw : IntKind.i64.wrap (1 + c.x k + tS s.x k - 1) = (p : Int) := by rw [show 1 + c.x k + tS s.x k - 1 = (p : Int) by omega]; exact IntWalk.i64_in _ (by omega)
        have hv3 : 0 ≤ c.x k ∧ c.x k ≤ 3 := hcel
        obtain ⟨y, hy⟩ : ∃ y, 1 + c.x k + tS s.x k = y := ⟨_, rfl⟩
        rw [hy] at hw
        have Hy := Lib.hid hy
        have hy1 : 1 ≤ y := by omega
        have hyp : y = (p : Int) + 1 := by omega
        subst hyp
        clear hown hb hsz hT0 hT1 hT2 hT3 hcv hy hp hw hcel
        have hw : IntKind.i64.wrap ((p : Int) + 1 - 1) = (p : Int) := by rw [Int.add_sub_cancel]; exact IntWalk.i64_in _ (by omega)
        have hw2 : IntKind.i64.wrap (p : Int) = (p : Int) := IntWalk.i64_in _ (by omega)
        have hbG : b ≠ w2.heap.size := by omega
        go_upto_region 7 with fail
        refine wp_region_held_drew (S := fun w' => w'.cell? ⟨H, 0, none⟩ = some (.slice As s.n cs) ∧ w'.cell? ⟨H, 1, none⟩ = some (.slice Ar n cr) ∧ w'.cell? ⟨b, off + k, none⟩ = some (.int .i64 (c.x k))) (by kernel_rfl) ⟨by simpa using a0, by simpa using a1, by simpa using c1⟩ (fun hHeld => ?_)
        refine wpAnyH_take (i := 0) (v := .slice (some ⟨w2.heap.size, 0, none⟩) 12 12) rfl (by kernel_rfl) (by kernel_rfl) (by kernel_rfl) (fun _ _ _ h => h) (Or.inl ⟨by rfl, ?_⟩) (by assumption) ?_
        · intro w hSw; simp only [List.getElem_toArray, List.getElem_cons_zero, List.getElem_cons_succ]; (first | (go_simp; done) | rfl | kernel_rfl)
        try simp only [Act.put, List.getElem_toArray, List.getElem_cons_zero, List.getElem_cons_succ, List.setIfInBounds_toArray, List.set_cons_zero, List.set_cons_succ]
        refine wpAnyH_take (i := 1) (v := .agg #[.slice As s.n cs, .slice Ar n cr]) rfl (by kernel_rfl) (by kernel_rfl) (by kernel_rfl) (fun _ _ _ h => h) (Or.inl ⟨by rfl, ?_⟩) (by assumption) ?_
        · intro w hSw; obtain ⟨s0, s1, s2⟩ := hSw; simp only [List.getElem_toArray, List.getElem_cons_zero, List.getElem_cons_succ]; (first | (go_simp; done) | rfl | kernel_rfl)
        try simp only [Act.put, List.getElem_toArray, List.getElem_cons_zero, List.getElem_cons_succ, List.setIfInBounds_toArray, List.set_cons_zero, List.set_cons_succ]
        refine wpAnyH_take (i := 2) (v := .int .i64 k) rfl (by kernel_rfl) (by kernel_rfl) (by kernel_rfl) (fun _ _ _ h => h) (Or.inl ⟨by rfl, ?_⟩) (by assumption) ?_
        · intro w hSw; simp only [List.getElem_toArray, List.getElem_cons_zero, List.getElem_cons_succ]; (first | (go_simp; done) | rfl | kernel_rfl)
        try simp only [Act.put, List.getElem_toArray, List.getElem_cons_zero, List.getElem_cons_succ, List.setIfInBounds_toArray, List.set_cons_zero, List.set_cons_succ]
        refine wpAnyH_take (i := 3) (v := .slice (some ⟨b, off, none⟩) s.n cc) rfl (by kernel_rfl) (by kernel_rfl) (by kernel_rfl) (fun _ _ _ h => h) (Or.inl ⟨by rfl, ?_⟩) (by assumption) ?_
        · intro w hSw; simp only [List.getElem_toArray, List.getElem_cons_zero, List.getElem_cons_succ]; (first | (go_simp; done) | rfl | kernel_rfl)
        try simp only [Act.put, List.getElem_toArray, List.getElem_cons_zero, List.getElem_cons_succ, List.setIfInBounds_toArray, List.set_cons_zero, List.set_cons_succ]
        refine wpAnyH_take (i := 4) (v := .int .i64 k) rfl (by kernel_rfl) (by kernel_rfl) (by kernel_rfl) (fun _ _ _ h => h) (Or.inl ⟨by rfl, ?_⟩) (by assumption) ?_
        · intro w hSw; simp only [List.getElem_toArray, List.getElem_cons_zero, List.getElem_cons_succ]; (first | (go_simp; done) | rfl | kernel_rfl)
        try simp only [Act.put, List.getElem_toArray, List.getElem_cons_zero, List.getElem_cons_succ, List.setIfInBounds_toArray, List.set_cons_zero, List.set_cons_succ]
        refine wpAnyH_take (i := 5) (v := .pointer (some ⟨b, off + k, none⟩)) rfl (by kernel_rfl) (by kernel_rfl) (by kernel_rfl) (fun _ _ _ h => h) (Or.inl ⟨by rfl, ?_⟩) (by assumption) ?_
        · intro w hSw; simp only [List.getElem_toArray, List.getElem_cons_zero, List.getElem_cons_succ]; (first | (go_simp; done) | rfl | kernel_rfl)
        try simp only [Act.put, List.getElem_toArray, List.getElem_cons_zero, List.getElem_cons_succ, List.setIfInBounds_toArray, List.set_cons_zero, List.set_cons_succ]
        refine wpAnyH_take (i := 6) (v := .int .i64 (c.x k)) rfl (by kernel_rfl) (by kernel_rfl) (by kernel_rfl) (fun _ _ _ h => h) (Or.inl ⟨by rfl, ?_⟩) (by assumption) ?_
        · intro w hSw; obtain ⟨s0, s1, s2⟩ := hSw; simp only [List.getElem_toArray, List.getElem_cons_zero, List.getElem_cons_succ]; (first | (go_simp; done) | rfl | kernel_rfl)
        try simp only [Act.put, List.getElem_toArray, List.getElem_cons_zero, List.getElem_cons_succ, List.setIfInBounds_toArray, List.set_cons_zero, List.set_cons_succ]
        clear hHeld
        refine wpAnyH_ready (rs := [7]) (by kernel_rfl) (by simp) ?_
        refine AllReadyH.cons rfl (fun K hK => ?_) AllReadyH.nil
        simp only [List.getElem_toArray, List.getElem_cons_zero, List.getElem_cons_succ]
        go_simp
        go_at_call 61
        refine (l7Var_any s n _ _ _ _ k (c.x k) _ Ok.out.five (by omega) hv3 Ok.out.sizes (HS2.out.later (HBk.out.drew))).mono ?_
        rintro e w5 ⟨rfl, hb⟩
        rw [Hy.out]
        have hbd := bl_trans (Below.refl wr.heap.size wr).drew hb
        have HB5 := Lib.hid (HBk.out.trans (hbd.mono HBk.out.size))
        have Hown5 := Lib.hid (Hown.out.below hbd)
        replace a0 := kc hbd a0
        replace a1 := kc hbd a1
        replace c1 := kc hbd c1
        clear hb hbd Hown
        refine hK.out _ _ ⟨a0, a1, c1⟩ (fun hHeld => ?_)
        clear hK K
        try simp only [Act.put, List.getElem_toArray, List.getElem_cons_zero, List.getElem_cons_succ, List.setIfInBounds_toArray, List.set_cons_zero, List.set_cons_succ]
        refine wpAnyH_take (i := 8) (v := .int .i64 p) rfl (by kernel_rfl) (by kernel_rfl) (by kernel_rfl) (fun _ _ _ h => h) (Or.inl ⟨by rfl, ?_⟩) (by assumption) ?_
        · intro w hSw; simp only [List.getElem_toArray, List.getElem_cons_zero, List.getElem_cons_succ]; (first | (go_simp; done) | rfl | kernel_rfl)
        try simp only [Act.put, List.getElem_toArray, List.getElem_cons_zero, List.getElem_cons_succ, List.setIfInBounds_toArray, List.set_cons_zero, List.set_cons_succ]
        refine wpAnyH_take (i := 9) (v := .pointer (some ⟨w2.heap.size, p, none⟩)) rfl (by kernel_rfl) (by kernel_rfl) (by kernel_rfl) (fun _ _ _ h => h) (Or.inl ⟨by rfl, ?_⟩) (by assumption) ?_
        · intro w hSw; simp only [List.getElem_toArray, List.getElem_cons_zero, List.getElem_cons_succ]; (first | (go_simp; done) | rfl | kernel_rfl)
        try simp only [Act.put, List.getElem_toArray, List.getElem_cons_zero, List.getElem_cons_succ, List.setIfInBounds_toArray, List.set_cons_zero, List.set_cons_succ]
        obtain ⟨y9, hy9⟩ := Hown5.out.cell hp12
        have hf9 := Hown5.out.frozen p
        clear hHeld
        refine wpAnyH_ready (rs := [10]) (by kernel_rfl) (by simp) ?_
        refine AllReadyH.cons rfl (fun K hK => ?_) AllReadyH.nil
        simp only [List.getElem_toArray, List.getElem_cons_zero, List.getElem_cons_succ]
        go_simp
        refine hK.out _ _ ⟨?_, ?_, ?_⟩ (fun hHeld => ?_)
        · exact (World.cell?_setCell_other _ _ _ _ (fun e => by injection e with e1 e2 _; omega)).trans a0
        · exact (World.cell?_setCell_other _ _ _ _ (fun e => by injection e with e1 e2 _; omega)).trans a1
        · exact (World.cell?_setCell_other _ _ _ _ (fun e => by injection e with e1 e2 _; omega)).trans c1
        clear hK K
        try simp only [Act.put, List.getElem_toArray, List.getElem_cons_zero, List.getElem_cons_succ, List.setIfInBounds_toArray, List.set_cons_zero, List.set_cons_succ]
        refine wpAnyH_done (by kernel_rfl) ?_ _
        go_wp2
        go_roundw
        case rel => exact ⟨k + 1, by omega, by go_num, Hset.out _ Hown5.out, HB5.out.setCell (Nat.le_refl _) _⟩
        case measure => simp [intOf]; omega
      · have e : k = s.n := by omega
        subst e
        have Hown := Lib.hid hown
        have HBk := Lib.hid hb
        clear hown hb
        go_wp2
        refine bodyPost_ret (v := .tuple #[.slice (some ⟨w2.heap.size, 0, none⟩) 12 12, .bool true]) (by simp [results, Try.results29, go_sem]) rfl ?_
        exact ⟨_, _, by rw [Hn.out, Hm.out], .inr ⟨w2.heap.size, rfl, HB2.out.size, by rw [Hn.out]; exact Hown.out⟩, HB2.out.trans (HBk.out.mono HB2.out.size)⟩
end Go.Proofs.Ytkphagmeoghegaa
