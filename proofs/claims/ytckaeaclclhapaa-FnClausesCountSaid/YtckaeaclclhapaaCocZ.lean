/- Contracts of the model's and the program's ConstraintSame (no claim of its own). Conditions: as each theorem states. · The laws' comparison of two problems that say the same (no claim of its own). Conditions: as each theorem states. · A region that draws its order, by an invariant over what has run (no claim of its own). Conditions: as each theorem states. · A region that draws its order, operation by operation (no claim of its own). Conditions: as each theorem states. · A region that draws its order, operation by operation; edges that do not bind may point ahead (no claim of its own). Conditions: as each theorem states. · The draw of values (no claim of its own). Conditions: as each theorem states. · The draws of the arguments (no claim of its own). Conditions: as each theorem states. · The draws of the arguments, with values (no claim of its own). Conditions: as each theorem states. · The draw of ClausesOf's argument (no claim of its own). Conditions: as each theorem states. · The clauses of a constraint have as many solutions as the constraint (no claim of its own). Conditions: as each theorem states. -/
import Derived.Test.YtckaeaclclhapaaComA
import Derived.Test.YtckaeaclclhapaaValidB
import Derived.Laws.StructEq
import Derived.Test.YtckaeaclclhapaaProB
import Derived.Test.YtckaeaclclhapaaBaseC
import Derived.RegionTactic
import Derived.Test.YtckaeaclclhapaaDrwI
import Derived.Test.YtckaeaclclhapaaCofZ
import Derived.Test.YtckaeaclclhapaaSrcV
namespace Go.Proofs.Ytckaeaclclhapaa
open Go.ChangeShapes Go.WideShapes Go.ChangeAt Go.RowKit

theorem teq_no1 {c l c' l' : Int} (h : ¬ c = c') : (!teq c l c' l') = true := by simp [teq, h]
theorem teq_no2 {c l c' l' : Int} (h : ¬ l = l') : (!teq c l c' l') = true := by simp [teq, h]
theorem teq_yes {c l c' l' : Int} (h : c = c') (h' : l = l') : (!teq c l c' l') = false := by simp [teq, h, h']

/-- Two constraints are equal in every field. -/
def same (n n' : Nat) (c l c' l' : Nat → Int) (bd bd' : Int) : Bool := bd == bd' && (n == n' && tseq c l c' l' n)

set_option maxRecDepth 100000 in
set_option maxHeartbeats 800000 in
theorem slicesEqual_same (A A' : Option Addr) (n cap cap' : Nat) (c l c' l' : Nat → Int) (w : World) (hn : n ≤ 1048576) (hr : Rd w w.heap.size A n c l) (hr' : Rd w w.heap.size A' n c' l') :
    Calls Try.prog 37 #[.slice A n cap, .slice A' n cap'] w fun e w' => e = .returned (.bool (tseq c l c' l' n)) ∧ Below w.heap.size w w' := by
  go_enter Try.func37, Try.ntmps37
  go_wp2
  go_loopw [13, 5] (fun i _ wr => ∃ k : Nat, k ≤ n ∧ i = .int .i64 k ∧ tseq c l c' l' k = true ∧ Below w.heap.size w wr) (fun i _ _ => n - (intOf i).toNat)
  case atStart => exact ⟨0, Nat.zero_le _, rfl, rfl, Below.refl _ _⟩
  case round =>
    obtain ⟨k, hk, rfl, heq, hb⟩ := hrel
    have Heq := Lib.hid heq
    clear heq
    by_cases hlt : k < n
    · obtain ⟨b, off, rfl, hbl, hc⟩ := (hr.below hb) (by omega)
      obtain ⟨b', off', rfl, hbl', hc'⟩ := (hr'.below hb) (by omega)
      obtain ⟨hc1, hc2⟩ := hc k hlt
      obtain ⟨hc3, hc4⟩ := hc' k hlt
      clear hc hc' hr hr'
      have hlt' : (k : Int) < (n : Int) := by omega
      have hk0 : (0 : Int) ≤ (k : Int) := by omega
      by_cases h1 : c k = c' k
      · by_cases h2 : l k = l' k
        · have Ht := Lib.hid (teq_yes h1 h2)
          go_wp2_with fail
          go_quiet (fail)
          go_wp2
          go_roundw
          case rel => exact ⟨k + 1, by omega, by go_num, tseq_yes Heq.out Ht.out, bl_drewN hb _⟩
          case measure => simp [intOf]; omega
        · have Ht := Lib.hid (teq_no2 (c := c k) (c' := c' k) h2)
          go_wp2_with fail
          go_quiet (fail)
          go_wp2
          go_ret
          exact ⟨ret_bool (tseq_no hlt Ht.out).symm, bl_drewN hb _⟩
      · have Ht := Lib.hid (teq_no1 (l := l k) (l' := l' k) h1)
        go_wp2_with fail
        go_quiet (fail)
        go_wp2
        go_ret
        exact ⟨ret_bool (tseq_no hlt Ht.out).symm, bl_drewN hb _⟩
    · have e : k = n := by omega
      subst e
      go_wp2
      go_ret
      exact ⟨ret_bool Heq.out.symm, hb⟩

theorem same_no {n n' : Nat} {c l c' l' : Nat → Int} {bd bd' : Int} (h : bd ≠ bd' ∨ n ≠ n') : same n n' c l c' l' bd bd' = false := by
  rcases h with h | h <;> simp [same, h]

set_option maxRecDepth 100000 in
set_option maxHeartbeats 800000 in
theorem slicesEqual_len (A A' : Option Addr) (n n' cap cap' : Nat) (w : World) (hne : n ≠ n') :
    Calls Try.prog 37 #[.slice A n cap, .slice A' n' cap'] w fun e w' => e = .returned (.bool false) ∧ Below w.heap.size w w' := by
  have hd : ((n : Int) != (n' : Int)) = true := by rw [bne_iff_ne]; omega
  go_enter Try.func37, Try.ntmps37
  go_wp2
  go_ret
  exact ⟨rfl, Below.refl _ _⟩

theorem slicesEqual_any (A A' : Option Addr) (n n' cap cap' : Nat) (c l c' l' : Nat → Int) (w : World) (hn : n ≤ 1048576) (hr : Rd w w.heap.size A n c l) (hr' : Rd w w.heap.size A' n' c' l') :
    Calls Try.prog 37 #[.slice A n cap, .slice A' n' cap'] w fun e w' => e = .returned (.bool (n == n' && tseq c l c' l' n)) ∧ Below w.heap.size w w' := by
  by_cases h : n = n'
  · subst h
    exact (slicesEqual_same A A' n cap cap' c l c' l' w hn hr hr').mono fun e w' ⟨he, hb⟩ => ⟨by rw [he]; simp, hb⟩
  · exact (slicesEqual_len A A' n n' cap cap' w h).mono fun e w' ⟨he, hb⟩ => ⟨by rw [he]; simp [h], hb⟩

set_option maxRecDepth 100000 in
set_option maxHeartbeats 800000 in
theorem implSame_any (A A' : Option Addr) (n n' cap cap' : Nat) (bd bd' : Int) (c l c' l' : Nat → Int) (w : World) (hn : n ≤ 1048576) (hr : Rd w w.heap.size A n c l) (hr' : Rd w w.heap.size A' n' c' l') :
    Calls Try.prog 19 #[.agg #[.slice A n cap, .int .i64 bd], .agg #[.slice A' n' cap', .int .i64 bd']] w fun e w' => e = .returned (.bool (same n n' c l c' l' bd bd')) ∧ Below w.heap.size w w' := by
  by_cases hbd : bd = bd'
  · subst hbd
    go_enter Try.func19, Try.ntmps19
    go_wp2_with (go_at_call 37; refine (slicesEqual_any _ _ _ _ _ _ c l c' l' _ hn ((hr.below (by repeat (first | exact Below.refl _ _ | refine bl_alloc ?_ _))).more (by simp; omega)) ((hr'.below (by repeat (first | exact Below.refl _ _ | refine bl_alloc ?_ _))).more (by simp; omega))).mono ?_; rintro e w' ⟨rfl, hb⟩)
    go_ret
    exact ⟨ret_bool (by simp [same]), bl_trans (bl_alloc (bl_alloc (Below.refl _ _) _) _) hb⟩
  · have hne := same_no (n := n) (n' := n') (c := c) (l := l) (c' := c') (l' := l') (.inl hbd)
    have Hne := Lib.hid hne
    clear hne
    have hd : (bd == bd') = false := by simpa using hbd
    clear hbd
    go_enter Try.func19, Try.ntmps19
    go_wp2
    go_ret
    exact ⟨ret_bool Hne.out.symm, bl_alloc (bl_alloc (Below.refl _ _) _) _⟩
end Go.Proofs.Ytckaeaclclhapaa

namespace Go.Proofs.Ytckaeaclclhapaa
open Go.ChangeShapes Go.WideShapes Go.ChangeAt Go.RowKit

theorem same_refl9 (n : Nat) (c l : Nat → Int) (bd : Int) : same n n c l c l bd bd = true := by simp [same, tseq_refl]

set_option maxRecDepth 100000 in
set_option maxHeartbeats 1600000 in
theorem cpProblem_same (A A' : Option Addr) (n cap cap' : Nat) (p : Nat → Con) (w : World) (hn : n ≤ 1048576) (hn' : ∀ i, i < n → (p i).n ≤ 1048576) (hr : RdP w w.heap.size A n p) (hr' : RdP w w.heap.size A' n p) :
    Calls Try.prog 7 #[.slice A n cap, .slice A' n cap'] w fun e w' => e = .returned (.bool true) ∧ Below w.heap.size w w' := by
  have HR := Lib.hid hr
  have HR' := Lib.hid hr'
  have HN := Lib.hid hn'
  clear hr hr' hn'
  go_enter Try.func7, Try.ntmps7
  go_wp2
  go_loopw [5] (fun i wr => ∃ k : Nat, k ≤ n ∧ i = .int .i64 k ∧ Below w.heap.size w wr) (fun i _ => n - (intOf i).toNat)
  case atStart => exact ⟨0, Nat.zero_le _, rfl, Below.refl _ _⟩
  case round =>
    obtain ⟨k, hk, rfl, hb⟩ := hrel
    have HB := Lib.hid hb
    clear hb
    by_cases hlt : k < n
    · obtain ⟨b, off, rfl, hbl, hc⟩ := (HR.out.later HB.out) (by omega)
      obtain ⟨b', off', rfl, hbl', hc'⟩ := (HR'.out.later HB.out) (by omega)
      obtain ⟨Ai, ci, hx0, hx1, hx2⟩ := hc k hlt
      obtain ⟨Aj, cj, hy0, hy1, hy2⟩ := hc' k hlt
      have HX := Lib.hid (hx2.later ((Below.refl _ _).drew))
      have HY := Lib.hid (hy2.later ((Below.refl _ _).drew))
      have hq := HN.out k hlt
      have Hs := Lib.hid (same_refl9 (p k).n (p k).c (p k).l (p k).bd)
      have hltI : (k : Int) < (n : Int) := by omega
      have hk0 : (0 : Int) ≤ (k : Int) := by omega
      clear hc hc' hx2 hy2
      go_wp2_with fail
      go_still_tail 8, (by kernel_rfl)
      change wpList _ _ _ _ _ wr.drew
      go_wp2_with (go_at_call 19; refine (implSame_any _ _ _ _ _ _ _ _ _ _ _ _ _ hq HX.out HY.out).mono ?_; rintro e w' ⟨rfl, hb1⟩; rw [Hs.out])
      go_roundw
      case rel => exact ⟨k + 1, by omega, by go_num, bl_trans HB.out.drew hb1⟩
      case measure => simp [intOf]; omega
    · have e : k = n := by omega
      subst e
      go_wp2
      go_ret
      exact ⟨rfl, HB.out⟩
end Go.Proofs.Ytckaeaclclhapaa

namespace Go.Proofs.Ytckaeaclclhapaa
open Go.ChangeShapes Go.WideShapes Go.ChangeAt Go.RowKit

/-- How many operations have not run. -/
def leftO (listed : Array Bool) : Nat := listed.toList.countP (fun b => !b)
theorem leftO_zero {md : Region.Mode} {ops : Array Oper} {listed : Array Bool} (h : leftO listed = 0) : Region.ready md ops listed = [] := by
  unfold Region.ready
  rw [List.filter_eq_nil_iff]
  intro i _ hi
  simp only [Bool.and_eq_true, Bool.not_eq_true'] at hi
  have h1 := hi.1
  have hall : ∀ b ∈ listed.toList, ¬ (!b) = true := List.countP_eq_zero.1 h
  by_cases hlt : i < listed.size
  · have hg : listed.getD i true = listed[i] := by simp [Array.getD, hlt]
    rw [hg] at h1
    have := hall listed[i] (Array.getElem_mem_toList hlt)
    rw [h1] at this
    exact this rfl
  · have hg : listed.getD i true = true := by simp [Array.getD, hlt]
    rw [hg] at h1
    cases h1
theorem leftO_set {listed : Array Bool} {i : Nat} (h : listed.getD i true = false) : leftO (listed.setIfInBounds i true) + 1 = leftO listed := by
  have hlt : i < listed.size := by
    rcases Nat.lt_or_ge i listed.size with hlt | hge
    · exact hlt
    · have : listed.getD i true = true := by simp [Array.getD, show ¬ i < listed.size by omega]
      rw [this] at h; cases h
  have hg : listed.getD i true = listed[i] := by simp [Array.getD, hlt]
  rw [hg] at h
  unfold leftO
  rw [Array.toList_setIfInBounds, List.countP_set (by simpa using hlt)]
  have h2 : listed.toList[i]'(by simpa using hlt) = false := by simpa using h
  have h3 : 0 < listed.toList.countP (fun b => !b) := List.countP_pos_iff.2 ⟨_, List.getElem_mem (by simpa using hlt), by rw [h2]; rfl⟩
  rw [h2]
  simp only [Bool.not_false, if_true, Bool.not_true, Bool.false_eq_true, if_false]
  omega
/-- What has run, once i has run. -/
def updL (L : Nat → Bool) (i j : Nat) : Bool := if j = i then true else L j
theorem getD_set {listed : Array Bool} {i j : Nat} : (listed.setIfInBounds i true).getD j true = updL (fun j => listed.getD j true) i j := by
  unfold updL
  by_cases e : j = i
  · subst e
    rw [if_pos rfl]
    by_cases hlt : j < listed.size
    · simp [Array.getD, hlt]
    · simp [Array.getD, hlt]
  · rw [if_neg e]
    by_cases hlt : j < listed.size
    · simp [Array.getD, hlt, show ¬ i = j from fun h => e h.symm]
    · simp [Array.getD, hlt]
theorem all_listed {md : Region.Mode} {ops : Array Oper} {listed : Array Bool} (hs : listed.size = ops.size) (hac : ∀ (i : Nat) (o : Oper), ops[i]? = some o → ∀ e : Edge, e ∈ o.after → e.on < i) (hr : Region.ready md ops listed = []) : ∀ i, listed.getD i true = true := by
  intro i
  induction i using Nat.strongRecOn with
  | ind i ih =>
    by_cases hlt : i < ops.size
    · cases hb : listed.getD i true with
      | true => rfl
      | false =>
        exfalso
        have hm : i ∈ Region.ready md ops listed := by
          unfold Region.ready
          refine List.mem_filter.2 ⟨List.mem_range.2 hlt, ?_⟩
          have ho : ops[i]? = some ops[i] := Array.getElem?_eq_getElem hlt
          simp only [Bool.and_eq_true, Bool.not_eq_true', hb, true_and]
          rw [ho]
          simp only [Option.map_some, Option.getD_some]
          rw [Array.all_eq_true_iff_forall_mem]
          intro e he
          have h1 := ih e.on (hac i _ ho e he)
          have h2 : e.on < listed.size := by have := hac i _ ho e he; omega
          have h3 : listed.getD e.on false = true := by
            simp [Array.getD, h2] at h1 ⊢
            exact h1
          rw [h3]; simp
        rw [hr] at hm
        cases hm
    · simp [Array.getD, show ¬ i < listed.size by omega]

/-- A region that draws its order: an invariant over what has run. -/
theorem region_inv {P : Program} {id : Nat} {ops : Array Oper} {Q : Exit → Act → World → Prop} {a : Act} {w : World} (hmix : P.follows .mixedOrders = true) (I : (Nat → Bool) → Act → World → Prop)
    (hac : ∀ (i : Nat) (o : Oper), ops[i]? = some o → ∀ e : Edge, e ∈ o.after → e.on < i)
    (h0 : ∀ L : Nat → Bool, (∀ i, i < ops.size → L i = false) → I L a w.drew)
    (hend : ∀ (L : Nat → Bool) a w, (∀ i, L i = true) → I L a w → Q .normal a w)
    (hstep : ∀ (L : Nat → Bool) (i : Nat) (o : Oper), ops[i]? = some o → L i = false → (∀ e : Edge, e ∈ o.after → Region.binds .any e = true → L e.on = true) → ∀ a w, I L a w → ∀ K' : Act → World → Prop, (∀ a' w', I (updL L i) a' w' → K' a' w') → if Region.wanted o (yielded ops a.tmps) = true then Oper.wp P o a w K' Q else K' (a.put o.dst undef) w) :
    (Code.region id ops true).wp P Q a w := by
  refine wp_region_any hmix ?_
  have key : ∀ (fuel : Nat) (listed : Array Bool) (a : Act) (w : World), listed.size = ops.size → leftO listed ≤ fuel → I (fun j => listed.getD j true) a w → wpAny P .any ops Q fuel listed a w := by
    intro fuel
    induction fuel with
    | zero =>
      intro listed a w hs hl hI
      have hr := leftO_zero (md := .any) (ops := ops) (listed := listed) (by omega)
      exact ⟨hr, hend _ a w (all_listed hs hac hr) hI⟩
    | succ fuel ih =>
      intro listed a w hs hl hI
      refine ⟨fun hr => hend _ a w (all_listed hs hac hr) hI, fun i hi => ?_⟩
      unfold Region.ready at hi
      obtain ⟨hi1, hi2⟩ := List.mem_filter.1 hi
      have hlt := List.mem_range.1 hi1
      have ho : ops[i]? = some ops[i] := Array.getElem?_eq_getElem hlt
      simp only [Bool.and_eq_true, Bool.not_eq_true'] at hi2
      obtain ⟨hu, hd⟩ := hi2
      rw [ho] at hd
      simp only [Option.map_some, Option.getD_some] at hd
      rw [Array.all_eq_true_iff_forall_mem] at hd
      refine wpOp_step ho fun K' hK' => hstep (fun j => listed.getD j true) i _ ho hu (fun e he hb => ?_) a w hI K' fun a' w' hI' => hK' a' w' (ih _ a' w' (by simp [hs]) (by have := leftO_set hu; omega) ?_)
      · have h1 := hd e he
        rw [hb] at h1
        simp only [Bool.not_true, Bool.false_or] at h1
        have h2 : e.on < listed.size := by have := hac i _ ho e he; omega
        simp [Array.getD, h2] at h1 ⊢
        exact h1
      · have e : (fun j => (listed.setIfInBounds i true).getD j true) = updL (fun j => listed.getD j true) i := funext fun j => getD_set
        rw [e]; exact hI'
  refine key _ _ _ _ (by simp) ?_ ?_
  · unfold leftO
    refine Nat.le_trans List.countP_le_length ?_
    simp
  · exact h0 _ fun i hi => by simp [Array.getD, hi]
end Go.Proofs.Ytckaeaclclhapaa

namespace Go.Proofs.Ytckaeaclclhapaa
open Go.ChangeShapes Go.WideShapes Go.ChangeAt Go.RowKit

/-- The steps of a region's operations keep an invariant. -/
def StepsI (P : Program) (Q : Exit → Act → World → Prop) (I : (Nat → Bool) → Act → World → Prop) (l : List (List Nat)) : Nat → List Oper → Prop
  | _, [] => True
  | i, o :: os => (∀ L : Nat → Bool, L i = false → (∀ k, k ∈ l.getD i [] → L k = true) → (∀ j k, k ∈ l.getD j [] → L j = true → L k = true) → ∀ a w, I L a w → ∀ K' : Act → World → Prop, (∀ a' w', I (updL L i) a' w' → K' a' w') → Oper.wp P o a w K' Q) ∧ StepsI P Q I l (i + 1) os
theorem StepsI.at_ {P : Program} {Q : Exit → Act → World → Prop} {I : (Nat → Bool) → Act → World → Prop} {l : List (List Nat)} {os : List Oper} : ∀ {i0 : Nat}, StepsI P Q I l i0 os → ∀ {j : Nat} {o : Oper}, os[j]? = some o →
    ∀ L : Nat → Bool, L (i0 + j) = false → (∀ k, k ∈ l.getD (i0 + j) [] → L k = true) → (∀ j k, k ∈ l.getD j [] → L j = true → L k = true) → ∀ a w, I L a w → ∀ K' : Act → World → Prop, (∀ a' w', I (updL L (i0 + j)) a' w' → K' a' w') → Oper.wp P o a w K' Q := by
  induction os with
  | nil => intro i0 _ j o ho; simp at ho
  | cons o' os ih =>
    intro i0 h j o ho
    cases j with
    | zero =>
      simp only [List.getElem?_cons_zero, Option.some.injEq] at ho
      subst ho
      exact h.1
    | succ j =>
      simp only [List.getElem?_cons_succ] at ho
      have := ih h.2 ho
      rw [show i0 + 1 + j = i0 + (j + 1) by omega] at this
      exact this
/-- The edges that are told stand in the text. -/
def edgesOk (l : List (List Nat)) (ops : List Oper) : Bool := decide (l.length ≤ ops.length) && (List.range ops.length).all fun i => match ops[i]? with
  | some o => o.guard.isNone && (o.after.toList.all (fun e => decide (e.on < i)) && (l.getD i []).all fun k => o.after.toList.any fun e => e.on == k && Region.binds .any e)
  | none => true
theorem region_steps {P : Program} {id : Nat} {ops : List Oper} {Q : Exit → Act → World → Prop} {a : Act} {w : World} (J : Act → (Nat → Bool) → Act → World → Prop) (l : List (List Nat)) (hmix : P.follows .mixedOrders = true) (hok : edgesOk l ops = true)
    (h0 : ∀ L : Nat → Bool, (∀ i, i < ops.length → L i = false) → J a L a w.drew)
    (hs : StepsI P Q (J a) l 0 ops)
    (hend : ∀ L : Nat → Bool, (∀ i, L i = true) → ∀ a' w', J a L a' w' → Q .normal a' w') :
    (Code.region id ops.toArray true).wp P Q a w := by
  unfold edgesOk at hok
  rw [Bool.and_eq_true] at hok
  have hlen := of_decide_eq_true hok.1
  have hall : ∀ (i : Nat) (o : Oper), ops[i]? = some o → o.guard = none ∧ (∀ e : Edge, e ∈ o.after → e.on < i) ∧ ∀ k, k ∈ l.getD i [] → ∃ e : Edge, e ∈ o.after ∧ e.on = k ∧ Region.binds .any e = true := by
    intro i o ho
    have hi : i < ops.length := (List.getElem?_eq_some_iff.1 ho).1
    have := List.all_eq_true.1 hok.2 i (List.mem_range.2 hi)
    rw [ho] at this
    simp only [Bool.and_eq_true] at this
    obtain ⟨h1, h2, h3⟩ := this
    have h1' : o.guard = none := by
      cases hg : o.guard with
      | none => rfl
      | some x => rw [hg] at h1; cases h1
    refine ⟨h1', fun e he => ?_, fun k hk => ?_⟩
    · exact of_decide_eq_true (List.all_eq_true.1 h2 e (by simpa using he))
    · obtain ⟨e, he, h4⟩ := List.any_eq_true.1 (List.all_eq_true.1 h3 k hk)
      rw [Bool.and_eq_true, beq_iff_eq] at h4
      exact ⟨e, by simpa using he, h4.1, h4.2⟩
  refine region_inv hmix (fun L a' w' => J a L a' w' ∧ ∀ j k, k ∈ l.getD j [] → L j = true → L k = true) (fun i o ho => (hall i o (by simpa using ho)).2.1) (fun L hL => ⟨h0 L (fun i hi => hL i (by simpa using hi)), fun j k hk hj => ?_⟩) (fun L a' w' hL hI => hend L hL a' w' hI.1) ?_
  · by_cases hlt : j < ops.length
    · rw [hL j (by simpa using hlt)] at hj; cases hj
    · rw [List.getD_eq_getElem?_getD, List.getElem?_eq_none (by omega)] at hk
      simp at hk
  · intro L i o ho hLi hd a' w' hI K' hK'
    have ho' : ops[i]? = some o := by simpa using ho
    obtain ⟨hg, _, he⟩ := hall i o ho'
    rw [if_pos (by unfold Region.wanted; rw [hg])]
    have hdl : ∀ k, k ∈ l.getD i [] → L k = true := fun k hk => by
      obtain ⟨e, h1, h2, h3⟩ := he k hk
      rw [← h2]
      exact hd e h1 h3
    have := hs.at_ ho' L (by rw [Nat.zero_add]; exact hLi) (by rw [Nat.zero_add]; exact hdl) hI.2 a' w' hI.1 K'
    rw [Nat.zero_add] at this
    refine this fun a2 w2 h2 => hK' a2 w2 ⟨h2, fun j k hk hj => ?_⟩
    have hup : ∀ k, L k = true → updL L i k = true := fun k hk => by
      unfold updL
      split
      · rfl
      · exact hk
    by_cases e : j = i
    · subst e; exact hup k (hdl k hk)
    · refine hup k (hI.2 j k hk ?_)
      unfold updL at hj
      rwa [if_neg e] at hj
/-- A frame in which slots are laid anew. -/
def lay (a : Act) : List (Nat × Value) → Act
  | [] => a
  | x :: xs => lay (a.put (some x.1) x.2) xs
end Go.Proofs.Ytckaeaclclhapaa

namespace Go.Proofs.Ytckaeaclclhapaa
open Go.ChangeShapes Go.WideShapes Go.ChangeAt Go.RowKit

theorem all_listed2 {md : Region.Mode} {ops : Array Oper} {listed : Array Bool} (hs : listed.size = ops.size) (hac : ∀ (i : Nat) (o : Oper), ops[i]? = some o → ∀ e : Edge, e ∈ o.after → Region.binds md e = true → e.on < i) (hr : Region.ready md ops listed = []) : ∀ i, listed.getD i true = true := by
  intro i
  induction i using Nat.strongRecOn with
  | ind i ih =>
    by_cases hlt : i < ops.size
    · cases hb : listed.getD i true with
      | true => rfl
      | false =>
        exfalso
        have hm : i ∈ Region.ready md ops listed := by
          unfold Region.ready
          refine List.mem_filter.2 ⟨List.mem_range.2 hlt, ?_⟩
          have ho : ops[i]? = some ops[i] := Array.getElem?_eq_getElem hlt
          simp only [Bool.and_eq_true, Bool.not_eq_true', hb, true_and]
          rw [ho]
          simp only [Option.map_some, Option.getD_some]
          rw [Array.all_eq_true_iff_forall_mem]
          intro e he
          cases hbd : Region.binds md e with
          | false => simp
          | true =>
            have h1 := ih e.on (hac i _ ho e he hbd)
            have h2 : e.on < listed.size := by have := hac i _ ho e he hbd; omega
            have h3 : listed.getD e.on false = true := by
              simp [Array.getD, h2] at h1 ⊢
              exact h1
            rw [h3]; simp
        rw [hr] at hm
        cases hm
    · simp [Array.getD, show ¬ i < listed.size by omega]

/-- A region that draws its order: an invariant over what has run. -/
theorem region_inv2 {P : Program} {id : Nat} {ops : Array Oper} {Q : Exit → Act → World → Prop} {a : Act} {w : World} (hmix : P.follows .mixedOrders = true) (I : (Nat → Bool) → Act → World → Prop)
    (hac : ∀ (i : Nat) (o : Oper), ops[i]? = some o → ∀ e : Edge, e ∈ o.after → Region.binds .any e = true → e.on < i)
    (h0 : ∀ L : Nat → Bool, (∀ i, i < ops.size → L i = false) → I L a w.drew)
    (hend : ∀ (L : Nat → Bool) a w, (∀ i, L i = true) → I L a w → Q .normal a w)
    (hstep : ∀ (L : Nat → Bool) (i : Nat) (o : Oper), ops[i]? = some o → L i = false → (∀ e : Edge, e ∈ o.after → Region.binds .any e = true → L e.on = true) → ∀ a w, I L a w → ∀ K' : Act → World → Prop, (∀ a' w', I (updL L i) a' w' → K' a' w') → if Region.wanted o (yielded ops a.tmps) = true then Oper.wp P o a w K' Q else K' (a.put o.dst undef) w) :
    (Code.region id ops true).wp P Q a w := by
  refine wp_region_any hmix ?_
  have key : ∀ (fuel : Nat) (listed : Array Bool) (a : Act) (w : World), listed.size = ops.size → leftO listed ≤ fuel → I (fun j => listed.getD j true) a w → wpAny P .any ops Q fuel listed a w := by
    intro fuel
    induction fuel with
    | zero =>
      intro listed a w hs hl hI
      have hr := leftO_zero (md := .any) (ops := ops) (listed := listed) (by omega)
      exact ⟨hr, hend _ a w (all_listed2 hs hac hr) hI⟩
    | succ fuel ih =>
      intro listed a w hs hl hI
      refine ⟨fun hr => hend _ a w (all_listed2 hs hac hr) hI, fun i hi => ?_⟩
      unfold Region.ready at hi
      obtain ⟨hi1, hi2⟩ := List.mem_filter.1 hi
      have hlt := List.mem_range.1 hi1
      have ho : ops[i]? = some ops[i] := Array.getElem?_eq_getElem hlt
      simp only [Bool.and_eq_true, Bool.not_eq_true'] at hi2
      obtain ⟨hu, hd⟩ := hi2
      rw [ho] at hd
      simp only [Option.map_some, Option.getD_some] at hd
      rw [Array.all_eq_true_iff_forall_mem] at hd
      refine wpOp_step ho fun K' hK' => hstep (fun j => listed.getD j true) i _ ho hu (fun e he hb => ?_) a w hI K' fun a' w' hI' => hK' a' w' (ih _ a' w' (by simp [hs]) (by have := leftO_set hu; omega) ?_)
      · have h1 := hd e he
        rw [hb] at h1
        simp only [Bool.not_true, Bool.false_or] at h1
        have h2 : e.on < listed.size := by have := hac i _ ho e he hb; omega
        simp [Array.getD, h2] at h1 ⊢
        exact h1
      · have e : (fun j => (listed.setIfInBounds i true).getD j true) = updL (fun j => listed.getD j true) i := funext fun j => getD_set
        rw [e]; exact hI'
  refine key _ _ _ _ (by simp) ?_ ?_
  · unfold leftO
    refine Nat.le_trans List.countP_le_length ?_
    simp
  · exact h0 _ fun i hi => by simp [Array.getD, hi]
/-- The edges that are told stand in the text. -/
def edgesOk2 (l : List (List Nat)) (ops : List Oper) : Bool := decide (l.length ≤ ops.length) && (List.range ops.length).all fun i => match ops[i]? with
  | some o => o.guard.isNone && (o.after.toList.all (fun e => !Region.binds .any e || decide (e.on < i)) && (l.getD i []).all fun k => o.after.toList.any fun e => e.on == k && Region.binds .any e)
  | none => true
theorem region_steps2 {P : Program} {id : Nat} {ops : List Oper} {Q : Exit → Act → World → Prop} {a : Act} {w : World} (J : Act → (Nat → Bool) → Act → World → Prop) (l : List (List Nat)) (hmix : P.follows .mixedOrders = true) (hok : edgesOk2 l ops = true)
    (h0 : ∀ L : Nat → Bool, (∀ i, i < ops.length → L i = false) → J a L a w.drew)
    (hs : StepsI P Q (J a) l 0 ops)
    (hend : ∀ L : Nat → Bool, (∀ i, L i = true) → ∀ a' w', J a L a' w' → Q .normal a' w') :
    (Code.region id ops.toArray true).wp P Q a w := by
  unfold edgesOk2 at hok
  rw [Bool.and_eq_true] at hok
  have hlen := of_decide_eq_true hok.1
  have hall : ∀ (i : Nat) (o : Oper), ops[i]? = some o → o.guard = none ∧ (∀ e : Edge, e ∈ o.after → Region.binds .any e = true → e.on < i) ∧ ∀ k, k ∈ l.getD i [] → ∃ e : Edge, e ∈ o.after ∧ e.on = k ∧ Region.binds .any e = true := by
    intro i o ho
    have hi : i < ops.length := (List.getElem?_eq_some_iff.1 ho).1
    have := List.all_eq_true.1 hok.2 i (List.mem_range.2 hi)
    rw [ho] at this
    simp only [Bool.and_eq_true] at this
    obtain ⟨h1, h2, h3⟩ := this
    have h1' : o.guard = none := by
      cases hg : o.guard with
      | none => rfl
      | some x => rw [hg] at h1; cases h1
    refine ⟨h1', fun e he hb => ?_, fun k hk => ?_⟩
    · have := List.all_eq_true.1 h2 e (by simpa using he)
      rw [hb] at this
      simpa using this
    · obtain ⟨e, he, h4⟩ := List.any_eq_true.1 (List.all_eq_true.1 h3 k hk)
      rw [Bool.and_eq_true, beq_iff_eq] at h4
      exact ⟨e, by simpa using he, h4.1, h4.2⟩
  refine region_inv2 hmix (fun L a' w' => J a L a' w' ∧ ∀ j k, k ∈ l.getD j [] → L j = true → L k = true) (fun i o ho => (hall i o (by simpa using ho)).2.1) (fun L hL => ⟨h0 L (fun i hi => hL i (by simpa using hi)), fun j k hk hj => ?_⟩) (fun L a' w' hL hI => hend L hL a' w' hI.1) ?_
  · by_cases hlt : j < ops.length
    · rw [hL j (by simpa using hlt)] at hj; cases hj
    · rw [List.getD_eq_getElem?_getD, List.getElem?_eq_none (by omega)] at hk
      simp at hk
  · intro L i o ho hLi hd a' w' hI K' hK'
    have ho' : ops[i]? = some o := by simpa using ho
    obtain ⟨hg, _, he⟩ := hall i o ho'
    rw [if_pos (by unfold Region.wanted; rw [hg])]
    have hdl : ∀ k, k ∈ l.getD i [] → L k = true := fun k hk => by
      obtain ⟨e, h1, h2, h3⟩ := he k hk
      rw [← h2]
      exact hd e h1 h3
    have := hs.at_ ho' L (by rw [Nat.zero_add]; exact hLi) (by rw [Nat.zero_add]; exact hdl) hI.2 a' w' hI.1 K'
    rw [Nat.zero_add] at this
    refine this fun a2 w2 h2 => hK' a2 w2 ⟨h2, fun j k hk hj => ?_⟩
    have hup : ∀ k, L k = true → updL L i k = true := fun k hk => by
      unfold updL
      split
      · rfl
      · exact hk
    by_cases e : j = i
    · subst e; exact hup k (hdl k hk)
    · refine hup k (hI.2 j k hk ?_)
      unfold updL at hj
      rwa [if_neg e] at hj
end Go.Proofs.Ytckaeaclclhapaa

namespace Go.Proofs.Ytckaeaclclhapaa
open Go.ChangeShapes Go.WideShapes Go.ChangeAt Go.RowKit

/-- A slice of k Booleans that the draw has made in a block from lo on. -/
def BS (w : World) (lo : Nat) (ov : Value) (k : Nat) : Prop := ∃ xs : List Value, w.ownsRow lo 4 1 ov k xs ∧ xs.length = k ∧ ∀ u ∈ xs, ∃ b, u = .bool b
/-- Such a slice, as it reads. -/
def FB (w : World) (lo : Nat) (A : Option Addr) (k : Nat) (v : Nat → Bool) : Prop := k = 0 ∨ ∃ G, A = some ⟨G, 0, none⟩ ∧ lo ≤ G ∧ G < w.heap.size ∧ ∃ cs : Array Value, w.heap[G]? = some (.cells cs 4 (0, 0)) ∧ ∀ i, i < k → cs[i]? = some (.bool (v i))
section
variable {w w1 W : World} {R lo k k' : Nat} {ov : Value} {A : Option Addr} {v : Nat → Bool}
theorem BS.bel (h : BS w lo ov k) (hb : Below w.heap.size w w1) : BS w1 lo ov k := by
  obtain ⟨xs, h0, h1, h2⟩ := h
  exact ⟨xs, row_below' h0 hb, h1, h2⟩
theorem BS.gr (h : BS w lo ov k) (hg : Gr R w w1) (hR : R < lo) : BS w1 lo ov k := by
  obtain ⟨xs, h0, h1, h2⟩ := h
  refine ⟨xs, h0.kept hg ?_, h1, h2⟩
  cases e : ov.ownBlock with
  | none => exact .inl rfl
  | some j =>
    right
    intro e'
    cases e'
    have := (h0.lt _ e).1
    omega
theorem BS.lt (h : BS w lo ov k) : ∀ j, ov.ownBlock = some j → lo ≤ j := fun j e => by
  obtain ⟨xs, h0, h1, h2⟩ := h
  exact (h0.lt j e).1
theorem bs_lit (W : World) : BS (W.alloc (.cells #[] 4)) W.heap.size (.slice (some ⟨W.heap.size, 0, none⟩) 0 0) 0 :=
  ⟨[], by simpa using World.ownsRow_lit W #[] 0 (Nat.le_refl _) (by unfold maxLen; omega) (by simp), by simp, fun u hu => by cases hu⟩
theorem BS.fb (h : BS w lo ov k) : ∃ A cap v, ov = .slice A k cap ∧ k ≤ cap ∧ FB w lo A k v := by
  obtain ⟨xs, h0, h1, h2⟩ := h
  rcases h0.2 with ⟨hov, hk⟩ | ⟨g, cap, cur, hov, hg, hh, hnc, _, hsz, htk⟩
  · subst hk
    exact ⟨none, 0, fun _ => false, hov, Nat.le_refl _, .inl rfl⟩
  · have hlt : g < w.heap.size := by
      rcases Nat.lt_or_ge g w.heap.size with hlt | hge
      · exact hlt
      · rw [Array.getElem?_eq_none hge] at hh; cases hh
    refine ⟨_, cap, fun i => match xs.getD i undef with | .bool b => b | _ => false, hov, hnc, .inr ⟨g, rfl, hg, hlt, cur, hh, fun i hi => ?_⟩⟩
    have hx : xs[i]? = some (xs[i]'(by omega)) := List.getElem?_eq_getElem (by omega)
    obtain ⟨b, hb⟩ := h2 (xs[i]'(by omega)) (List.getElem_mem _)
    have hd : xs.getD i undef = .bool b := by rw [List.getD_eq_getElem?_getD, hx, hb]; rfl
    show cur[i]? = some (.bool (match xs.getD i undef with | .bool b => b | _ => false))
    rw [hd]
    rw [hb, ← htk, List.getElem?_take_of_lt (by omega)] at hx
    have h3 : cur[i]? = some (.bool b) := by simpa using hx
    exact h3
theorem FB.short (h : FB w lo A k v) (hk : k' ≤ k) : FB w lo A k' v := by
  rcases h with h | ⟨G, e, h1, h2, cs, hh, hc⟩
  · exact .inl (by omega)
  · exact .inr ⟨G, e, h1, h2, cs, hh, fun i hi => hc i (by omega)⟩
theorem FB.rd (h : FB w lo A k v) : RdB w w.heap.size A k v := fun hk => by
  rcases h with h | ⟨G, e, h1, h2, cs, hh, hc⟩
  · omega
  · refine ⟨G, 0, e, h2, fun i hi => ?_⟩
    rw [Nat.zero_add]
    exact (cell_of_row w G _ cs _ _ hh).trans (hc i hi)
theorem FB.set_ (h : FB w lo A k v) {p : Addr} (hp : p.block < lo) (u : Value) : FB (w.setCell p u) lo A k v := by
  rcases h with h | ⟨G, e, h1, h2, cs, hh, hc⟩
  · exact .inl h
  · exact .inr ⟨G, e, h1, by simpa [World.setCell] using h2, cs, (Below.heap_setCell w p u G (by omega)).trans hh, hc⟩

set_option maxRecDepth 100000 in
set_option maxHeartbeats 800000 in
theorem wp_bs1 {o : Oper} {a : Act} {K : Act → World → Prop} {Q : Exit → Act → World → Prop} (s x : Operand)
    (ho : o.op = .call { callee := .builtin .append, args := #[s, x], argTypes := #[74, 74] })
    (h : BS W lo ov k) (hlo : lo ≤ W.heap.size) (hs : a.eval s = ov) {H : Nat} (hx : a.eval x = .slice (some ⟨H, 0, none⟩) 1 1) {X : Bool} {T' : TypeId} (hnew : W.heap[H]? = some (.cells #[.bool X] T' (0, 0))) (hk : k ≤ 1048576)
    (hK : ∀ g cap w', BS w' lo (.slice (some ⟨g, 0, none⟩) (k + 1) cap) (k + 1) → W.grownBy w' ov.ownBlock → K (a.put o.dst (.slice (some ⟨g, 0, none⟩) (k + 1) cap)) w') :
    o.wp Try.prog a W K Q := by
  obtain ⟨i0, hi, hz0, hz1, hz2⟩ := info_parts Try.infoBool
  obtain ⟨xs, h0, h1, h2⟩ := h
  refine wp_append_lies _ s x 74 ho lo 4 i0 _ 1 1 Try.underlying74 hi hz0 hz1 hz2 rfl (by omega) ov k _ hs h0 ⟨H, 0, none⟩ 1 1 [.bool X] hx (by rfl)
    (World.news_of_block hnew) (by simp [Value.oneCell']) (by omega) (by unfold maxLen; omega) (by omega) hlo W.heap.size rfl ?_
  intro g cap w' hown hg _ _
  refine hK g cap w' ⟨_, hown, by simp; omega, fun u hu => ?_⟩ hg
  rcases List.mem_append.1 hu with hu | hu
  · exact h2 u hu
  · exact ⟨X, by simpa using hu⟩
end

/-- What the draw of values leaves. -/
def VDr (w : World) (R K : Nat) (e : Ending) (w' : World) : Prop := ∃ A k cap v, e = .returned (.slice A k cap) ∧ k ≤ 12 ∧ FB w' w.heap.size A k v ∧ Gr R w w' ∧ Rdr w' R K

end Go.Proofs.Ytckaeaclclhapaa

namespace Go.Proofs.Ytckaeaclclhapaa
open Go.ChangeShapes Go.WideShapes Go.ChangeAt Go.RowKit

theorem fri_set {w : World} {lo n : Nat} {T : TypeId} {A : Option Addr} {v : Nat → Int} (h : FrI w lo T A n v) {p : Addr} (hp : p.block < lo) (u : Value) : FrI (w.setCell p u) lo T A n v := by
  rcases h with h | ⟨G, e, hG, h⟩
  · exact .inl h
  · exact .inr ⟨G, e, hG, h.at_ (Below.heap_setCell w p u G (by omega))⟩
theorem gr_bel {w w1 w5 : World} {R : Nat} (hb : Below w.heap.size w w1) (hg : Gr R w1 w5) (hR : w.heap.size ≤ R) : Below w.heap.size w w5 :=
  ⟨hg.os.trans hb.os, hg.tape.trans hb.tape, hg.output.trans hb.output, Nat.le_trans hb.size hg.size, fun k hk => (hg.block k (Nat.lt_of_lt_of_le hk hb.size) (by intro e; cases e; omega)).trans (hb.block k hk)⟩
/-- What the draw of a constraint and a partial assignment leaves. -/
def DSl (w : World) (e : Ending) (w' : World) : Prop := ∃ Ac k capc bd c l Av kv capv v, e = .returned (.tuple #[.agg #[.slice Ac k capc, .int .i64 bd], .slice Av kv capv]) ∧ k ≤ 13 ∧ kv ≤ 12 ∧ Rd w' w'.heap.size Ac k c l ∧ RdI w' w'.heap.size Av kv v ∧ Below w.heap.size w w'
/-- What the draw of a constraint and values leaves. -/
def DEv (w : World) (e : Ending) (w' : World) : Prop := ∃ Ac k capc bd c l Av kv capv v, e = .returned (.tuple #[.agg #[.slice Ac k capc, .int .i64 bd], .slice Av kv capv]) ∧ k ≤ 13 ∧ kv ≤ 12 ∧ Rd w' w'.heap.size Ac k c l ∧ RdB w' w'.heap.size Av kv v ∧ Below w.heap.size w w'

end Go.Proofs.Ytckaeaclclhapaa

namespace Go.Proofs.Ytckaeaclclhapaa
open Go.ChangeShapes Go.WideShapes Go.ChangeAt Go.RowKit

end Go.Proofs.Ytckaeaclclhapaa

namespace Go.Proofs.Ytckaeaclclhapaa
open Go.ChangeShapes Go.WideShapes Go.ChangeAt Go.RowKit

/-- What the draw of a constraint leaves. -/
def DCw (w : World) (e : Ending) (w' : World) : Prop := ∃ Ac k capc bd c l, e = .returned (.agg #[.slice Ac k capc, .int .i64 bd]) ∧ k ≤ 13 ∧ Frs w' w.heap.size Ac k c l ∧ Below w.heap.size w w'

set_option maxRecDepth 100000 in
set_option maxHeartbeats 3200000 in
theorem drawCof_any (A : Option Addr) (n cap : Nat) (y : Nat → Int) (w : World) (hm : n ≤ maxLen) (hcap : n ≤ cap) (hr : RdY w w.heap.size A n y) :
    Calls Try.prog 4 #[.slice A n cap] w (DCw w) := by
  have HR := Lib.hid hr
  clear hr
  go_enter Try.func4, Try.ntmps4
  have HB0 := Lib.hid (bl_alloc (Below.refl w.heap.size w) (.cells #[.slice none 0 0, .int .i64 0] 25))
  have r0 : Cel (w.alloc (.cells #[.slice none 0 0, .int .i64 0] 25)) w.heap.size 0 (.slice none 0 0) := ⟨by go_simp, by go_simp⟩
  have r1 : Cel (w.alloc (.cells #[.slice none 0 0, .int .i64 0] 25)) w.heap.size 1 (.int .i64 0) := ⟨by go_simp, by go_simp⟩
  have hz0 : w.heap.size < (w.alloc (.cells #[.slice none 0 0, .int .i64 0] 25)).heap.size := by simp
  go_upto_region 1 with fail
  generalize (w.alloc (.cells #[.slice none 0 0, .int .i64 0] 25)) = W0 at *
  have R0 := Lib.hid r0
  have R1 := Lib.hid r1
  clear r0 r1
  go_wp2_with fail
  refine (open_any _ _ _ y _ hm hcap (HR.out.later HB0.out)).mono ?_
  rintro e w1 ⟨rfl, hb, hrd, hz1⟩
  have HB1 := Lib.hid (bl_trans HB0.out hb)
  have RD1 := Lib.hid hrd
  have S0 := Lib.hid (R0.out.below hb)
  have S1 := Lib.hid (R1.out.below hb)
  clear hb hrd R0 R1
  go_wp2_with fail
  have HAl := Lib.hid (bl_alloc (Below.refl w1.heap.size w1) (.cells #[.int .i64 4, .int .i64 5, .int .i64 6, .int .i64 8, .int .i64 12] 3))
  refine (num_any W0.heap.size 0 w1.heap.size 5 _ _ _ (by omega) (RD1.out.bel HAl.out) (by omega) (heap_alloc_new w1 _) (by rfl) (by omega) (by omega) (lit_all [4, 5, 6, 8, 12])).mono ?_
  rintro e w2 ⟨z, rfl, hz, hg, hrd⟩
  obtain ⟨m, hm12, rfl⟩ : ∃ m : Nat, m ≤ 12 ∧ z = (m : Int) := by
    simp at hz
    rcases hz with h | h | h | h | h
    · exact ⟨4, by omega, h⟩
    · exact ⟨5, by omega, h⟩
    · exact ⟨6, by omega, h⟩
    · exact ⟨8, by omega, h⟩
    · exact ⟨12, by omega, h⟩
  have G2 := Lib.hid hg
  have RD2 := Lib.hid hrd
  have T0 := Lib.hid (hg.cel (S0.out.below HAl.out) (by omega))
  have T1 := Lib.hid (hg.cel (S1.out.below HAl.out) (by omega))
  clear hz hg hrd S0 S1 RD1
  go_wp2_with fail
  refine (draw_any W0.heap.size (0 + 1) m _ (by omega) hm12 RD2.out).mono ?_
  rintro e w3 ⟨Ac, k, capc, bd, rfl, hk, hfe, hg, hr, hcp⟩
  obtain ⟨c, l, hfr⟩ := hfe
  have Hrd := Lib.hid hfr.rdAt
  have G3 := Lib.hid (G2.out.trans hg)
  have RD3 := Lib.hid hr
  have U0 := Lib.hid (hg.cel T0.out (by omega))
  have U1 := Lib.hid (hg.cel T1.out (by omega))
  have HCp := Lib.hid hcp
  clear hfr hg hr hcp T0 T1 RD2 G2
  go_wp2_with fail
  refine (mutate_any W0.heap.size (0 + 1 + 100) _ _ _ _ c l _ (by omega) (by omega) RD3.out Hrd.out HCp.out).mono ?_
  rintro e w4 ⟨Ad, k2, capd, bd2, rfl, hk2, hfe, hg, hr, _⟩
  have FE3 := Lib.hid hfe
  have G4 := Lib.hid (G3.out.trans hg)
  have V0 := Lib.hid (hg.cel U0.out (by omega))
  have V1 := Lib.hid (hg.cel U1.out (by omega))
  have hz3 : W0.heap.size < w4.heap.size := by have := hr.lt; omega
  have hz23 : w3.heap.size ≤ w4.heap.size := hg.size
  have hz12 := G3.out.size
  have hzA := HAl.out.size
  clear hfe hg hr U0 U1 G3 RD3 Hrd HCp
  obtain ⟨b0, f0⟩ := V0.out
  obtain ⟨b1, f1⟩ := V1.out
  go_wp2
  refine bodyPost_ret (v := .agg #[.slice Ad k2 capd, .int .i64 bd2]) (by simp [results, Try.results4, go_sem, b0, b1]) rfl ?_
  obtain ⟨c', l', hfr'⟩ := (FE3.out.set_ (p := ⟨w.heap.size, 0, none⟩) (by show w.heap.size < _; omega) (.slice Ad k2 capd)).set_ (p := ⟨w.heap.size, 1, none⟩) (by show w.heap.size < _; omega) (.int .i64 bd2)
  exact ⟨_, _, _, _, c', l', rfl, by omega, hfr'.more (by omega), ((gr_bel (bl_trans HB1.out HAl.out) G4.out (by omega)).setCell (Nat.le_refl _) _).setCell (Nat.le_refl _) _⟩
end Go.Proofs.Ytckaeaclclhapaa

namespace Go.Proofs.Ytckaeaclclhapaa
open Go.ChangeShapes Go.WideShapes Go.ChangeAt Go.RowKit

theorem cof_count {n : Nat} {c l : Nat → Int} {bd : Int} (h : cfOk n c l bd = true) : cntS (cfCnt n c l bd) (cfK n c l bd) = cntS 1 (fun _ => ⟨n, bd, c, l⟩) := by
  obtain ⟨hval, h400⟩ := cf_ok h
  have h1 : probB 1 (fun _ => (⟨n, bd, c, l⟩ : Con)) = true := by
    unfold probB
    rw [show allV (fun _ => (⟨n, bd, c, l⟩ : Con)) 1 = true from (by
      show (true && validB n c l bd) = true
      rw [Bool.true_and]
      exact hval)]
    rfl
  unfold cntS
  rw [if_pos (cf_prob9 h), if_pos h1, (cf_yes hval h400).2]
  unfold sols
  rw [solL_none, solL_none]
  congr 2
  funext k
  unfold qS
  rw [cf_eval hval]
  show _ = (true && evalV n c l bd 12 (valN k))
  rw [Bool.true_and]
theorem cntS_leC (m : Nat) (p : Nat → Con) : cntS m p ≤ 4096 := by
  unfold cntS
  split
  · exact sols_len m p
  · omega
end Go.Proofs.Ytckaeaclclhapaa

