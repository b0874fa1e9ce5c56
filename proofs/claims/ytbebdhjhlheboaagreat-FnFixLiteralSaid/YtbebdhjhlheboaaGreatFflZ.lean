/- Contracts of the model's and the program's ConstraintSame (no claim of its own). Conditions: as each theorem states. · The laws' comparison of two problems that say the same (no claim of its own). Conditions: as each theorem states. · A region that draws its order, by an invariant over what has run (no claim of its own). Conditions: as each theorem states. · A region that draws its order, operation by operation (no claim of its own). Conditions: as each theorem states. · A region that draws its order, operation by operation; edges that do not bind may point ahead (no claim of its own). Conditions: as each theorem states. · Contracts of the reference's and the program's FixLiteral (no claim of its own). Conditions: as each theorem states. · The solutions of a problem with a literal fixed are twice those with the literal as a further constraint (no claim of its own). Conditions: as each theorem states. · The draw of FixLiteral's arguments, its list kept (no claim of its own). Conditions: as each theorem states. -/
import Derived.Test.YtbebdhjhlheboaaGreatComA
import Derived.Test.YtbebdhjhlheboaaGreatValidB
import Derived.Laws.StructEq
import Derived.Test.YtbebdhjhlheboaaGreatProB
import Derived.Test.YtbebdhjhlheboaaGreatBaseC
import Derived.RegionTactic
import Derived.Test.YtbebdhjhlheboaaGreatFxpZ
import Derived.Test.YtbebdhjhlheboaaGreatPgZ
import Derived.Test.YtbebdhjhlheboaaGreatHrdZ
namespace Go.Proofs.YtbebdhjhlheboaaGreat
open Go.ChangeShapes Go.WideShapes Go.ChangeAt Go.RowKit

theorem teq_no1 {c l c' l' : Int} (h : ¬ c = c') : (!teq c l c' l') = true := by simp [teq, h]
theorem teq_no2 {c l c' l' : Int} (h : ¬ l = l') : (!teq c l c' l') = true := by simp [teq, h]
theorem teq_yes {c l c' l' : Int} (h : c = c') (h' : l = l') : (!teq c l c' l') = false := by simp [teq, h, h']

/-- Two constraints are equal in every field. -/
def same (n n' : Nat) (c l c' l' : Nat → Int) (bd bd' : Int) : Bool := bd == bd' && (n == n' && tseq c l c' l' n)

set_option maxRecDepth 100000 in
set_option maxHeartbeats 800000 in
theorem slicesEqual_same (A A' : Option Addr) (n cap cap' : Nat) (c l c' l' : Nat → Int) (w : World) (hn : n ≤ 1048576) (hr : Rd w w.heap.size A n c l) (hr' : Rd w w.heap.size A' n c' l') :
    Calls Tryz.prog 44 #[.slice A n cap, .slice A' n cap'] w fun e w' => e = .returned (.bool (tseq c l c' l' n)) ∧ Below w.heap.size w w' := by
  go_enter Tryz.func44, Tryz.ntmps44
  go_wp2
  go_loopw [13, 5] (fun i _ wr => ∃ k : Nat, k ≤ n ∧ i = .int .i64 k ∧ tseq c l c' l' k = true ∧ Below w.heap.size w wr) (fun i _ _ => n - (intOf i).toNat)
  case atStart => exact ⟨0, Nat.zero_le _, rfl, rfl, Below.refl _ _⟩
  case round =>
    obtain ⟨k, hk, rfl, heq, hb⟩ := hrel
    have Heq := Lib.hid heq
    clear heq
    by_cases hlt : k < n
    · obtain ⟨b, off, rfl, hbl, hc⟩ := (hr.below hb) (by omega)
      obtain ⟨b', off', rfl, hbl', hc'⟩ := (hr'.below hb) (by omega)
      obtain ⟨hc1, hc2⟩ := hc k hlt
      obtain ⟨hc3, hc4⟩ := hc' k hlt
      clear hc hc' hr hr'
      have hlt' : (k : Int) < (n : Int) := by omega
      have hk0 : (0 : Int) ≤ (k : Int) := by omega
      by_cases h1 : c k = c' k
      · by_cases h2 : l k = l' k
        · have Ht := Lib.hid (teq_yes h1 h2)
          go_wp2_with fail
          go_quiet (fail)
          go_wp2
          go_roundw
          case rel => exact ⟨k + 1, by omega, by go_num, tseq_yes Heq.out Ht.out, bl_drewN hb _⟩
          case measure => simp [intOf]; omega
        · have Ht := Lib.hid (teq_no2 (c := c k) (c' := c' k) h2)
          go_wp2_with fail
          go_quiet (fail)
          go_wp2
          go_ret
          exact ⟨ret_bool (tseq_no hlt Ht.out).symm, bl_drewN hb _⟩
      · have Ht := Lib.hid (teq_no1 (l := l k) (l' := l' k) h1)
        go_wp2_with fail
        go_quiet (fail)
        go_wp2
        go_ret
        exact ⟨ret_bool (tseq_no hlt Ht.out).symm, bl_drewN hb _⟩
    · have e : k = n := by omega
      subst e
      go_wp2
      go_ret
      exact ⟨ret_bool Heq.out.symm, hb⟩

theorem same_no {n n' : Nat} {c l c' l' : Nat → Int} {bd bd' : Int} (h : bd ≠ bd' ∨ n ≠ n') : same n n' c l c' l' bd bd' = false := by
  rcases h with h | h <;> simp [same, h]

set_option maxRecDepth 100000 in
set_option maxHeartbeats 800000 in
theorem slicesEqual_len (A A' : Option Addr) (n n' cap cap' : Nat) (w : World) (hne : n ≠ n') :
    Calls Tryz.prog 44 #[.slice A n cap, .slice A' n' cap'] w fun e w' => e = .returned (.bool false) ∧ Below w.heap.size w w' := by
  have hd : ((n : Int) != (n' : Int)) = true := by rw [bne_iff_ne]; omega
  go_enter Tryz.func44, Tryz.ntmps44
  go_wp2
  go_ret
  exact ⟨rfl, Below.refl _ _⟩

theorem slicesEqual_any (A A' : Option Addr) (n n' cap cap' : Nat) (c l c' l' : Nat → Int) (w : World) (hn : n ≤ 1048576) (hr : Rd w w.heap.size A n c l) (hr' : Rd w w.heap.size A' n' c' l') :
    Calls Tryz.prog 44 #[.slice A n cap, .slice A' n' cap'] w fun e w' => e = .returned (.bool (n == n' && tseq c l c' l' n)) ∧ Below w.heap.size w w' := by
  by_cases h : n = n'
  · subst h
    exact (slicesEqual_same A A' n cap cap' c l c' l' w hn hr hr').mono fun e w' ⟨he, hb⟩ => ⟨by rw [he]; simp, hb⟩
  · exact (slicesEqual_len A A' n n' cap cap' w h).mono fun e w' ⟨he, hb⟩ => ⟨by rw [he]; simp [h], hb⟩

set_option maxRecDepth 100000 in
set_option maxHeartbeats 800000 in
theorem implSame_any (A A' : Option Addr) (n n' cap cap' : Nat) (bd bd' : Int) (c l c' l' : Nat → Int) (w : World) (hn : n ≤ 1048576) (hr : Rd w w.heap.size A n c l) (hr' : Rd w w.heap.size A' n' c' l') :
    Calls Tryz.prog 24 #[.agg #[.slice A n cap, .int .i64 bd], .agg #[.slice A' n' cap', .int .i64 bd']] w fun e w' => e = .returned (.bool (same n n' c l c' l' bd bd')) ∧ Below w.heap.size w w' := by
  by_cases hbd : bd = bd'
  · subst hbd
    go_enter Tryz.func24, Tryz.ntmps24
    go_wp2_with (go_at_call 44; refine (slicesEqual_any _ _ _ _ _ _ c l c' l' _ hn ((hr.below (by repeat (first | exact Below.refl _ _ | refine bl_alloc ?_ _))).more (by simp; omega)) ((hr'.below (by repeat (first | exact Below.refl _ _ | refine bl_alloc ?_ _))).more (by simp; omega))).mono ?_; rintro e w' ⟨rfl, hb⟩)
    go_ret
    exact ⟨ret_bool (by simp [same]), bl_trans (bl_alloc (bl_alloc (Below.refl _ _) _) _) hb⟩
  · have hne := same_no (n := n) (n' := n') (c := c) (l := l) (c' := c') (l' := l') (.inl hbd)
    have Hne := Lib.hid hne
    clear hne
    have hd : (bd == bd') = false := by simpa using hbd
    clear hbd
    go_enter Tryz.func24, Tryz.ntmps24
    go_wp2
    go_ret
    exact ⟨ret_bool Hne.out.symm, bl_alloc (bl_alloc (Below.refl _ _) _) _⟩
end Go.Proofs.YtbebdhjhlheboaaGreat

namespace Go.Proofs.YtbebdhjhlheboaaGreat
open Go.ChangeShapes Go.WideShapes Go.ChangeAt Go.RowKit

theorem same_refl9 (n : Nat) (c l : Nat → Int) (bd : Int) : same n n c l c l bd bd = true := by simp [same, tseq_refl]

set_option maxRecDepth 100000 in
set_option maxHeartbeats 1600000 in
theorem cpProblem_same (A A' : Option Addr) (n cap cap' : Nat) (p : Nat → Con) (w : World) (hn : n ≤ 1048576) (hn' : ∀ i, i < n → (p i).n ≤ 1048576) (hr : RdP w w.heap.size A n p) (hr' : RdP w w.heap.size A' n p) :
    Calls Tryz.prog 8 #[.slice A n cap, .slice A' n cap'] w fun e w' => e = .returned (.bool true) ∧ Below w.heap.size w w' := by
  have HR := Lib.hid hr
  have HR' := Lib.hid hr'
  have HN := Lib.hid hn'
  clear hr hr' hn'
  go_enter Tryz.func8, Tryz.ntmps8
  go_wp2
  go_loopw [5] (fun i wr => ∃ k : Nat, k ≤ n ∧ i = .int .i64 k ∧ Below w.heap.size w wr) (fun i _ => n - (intOf i).toNat)
  case atStart => exact ⟨0, Nat.zero_le _, rfl, Below.refl _ _⟩
  case round =>
    obtain ⟨k, hk, rfl, hb⟩ := hrel
    have HB := Lib.hid hb
    clear hb
    by_cases hlt : k < n
    · obtain ⟨b, off, rfl, hbl, hc⟩ := (HR.out.later HB.out) (by omega)
      obtain ⟨b', off', rfl, hbl', hc'⟩ := (HR'.out.later HB.out) (by omega)
      obtain ⟨Ai, ci, hx0, hx1, hx2⟩ := hc k hlt
      obtain ⟨Aj, cj, hy0, hy1, hy2⟩ := hc' k hlt
      have HX := Lib.hid (hx2.later ((Below.refl _ _).drew))
      have HY := Lib.hid (hy2.later ((Below.refl _ _).drew))
      have hq := HN.out k hlt
      have Hs := Lib.hid (same_refl9 (p k).n (p k).c (p k).l (p k).bd)
      have hltI : (k : Int) < (n : Int) := by omega
      have hk0 : (0 : Int) ≤ (k : Int) := by omega
      clear hc hc' hx2 hy2
      go_wp2_with fail
      go_still_tail 8, (by kernel_rfl)
      change wpList _ _ _ _ _ wr.drew
      go_wp2_with (go_at_call 24; refine (implSame_any _ _ _ _ _ _ _ _ _ _ _ _ _ hq HX.out HY.out).mono ?_; rintro e w' ⟨rfl, hb1⟩; rw [Hs.out])
      go_roundw
      case rel => exact ⟨k + 1, by omega, by go_num, bl_trans HB.out.drew hb1⟩
      case measure => simp [intOf]; omega
    · have e : k = n := by omega
      subst e
      go_wp2
      go_ret
      exact ⟨rfl, HB.out⟩
end Go.Proofs.YtbebdhjhlheboaaGreat

namespace Go.Proofs.YtbebdhjhlheboaaGreat
open Go.ChangeShapes Go.WideShapes Go.ChangeAt Go.RowKit

/-- How many operations have not run. -/
def leftO (listed : Array Bool) : Nat := listed.toList.countP (fun b => !b)
theorem leftO_zero {md : Region.Mode} {ops : Array Oper} {listed : Array Bool} (h : leftO listed = 0) : Region.ready md ops listed = [] := by
  unfold Region.ready
  rw [List.filter_eq_nil_iff]
  intro i _ hi
  simp only [Bool.and_eq_true, Bool.not_eq_true'] at hi
  have h1 := hi.1
  have hall : ∀ b ∈ listed.toList, ¬ (!b) = true := List.countP_eq_zero.1 h
  by_cases hlt : i < listed.size
  · have hg : listed.getD i true = listed[i] := by simp [Array.getD, hlt]
    rw [hg] at h1
    have := hall listed[i] (Array.getElem_mem_toList hlt)
    rw [h1] at this
    exact this rfl
  · have hg : listed.getD i true = true := by simp [Array.getD, hlt]
    rw [hg] at h1
    cases h1
theorem leftO_set {listed : Array Bool} {i : Nat} (h : listed.getD i true = false) : leftO (listed.setIfInBounds i true) + 1 = leftO listed := by
  have hlt : i < listed.size := by
    rcases Nat.lt_or_ge i listed.size with hlt | hge
    · exact hlt
    · have : listed.getD i true = true := by simp [Array.getD, show ¬ i < listed.size by omega]
      rw [this] at h; cases h
  have hg : listed.getD i true = listed[i] := by simp [Array.getD, hlt]
  rw [hg] at h
  unfold leftO
  rw [Array.toList_setIfInBounds, List.countP_set (by simpa using hlt)]
  have h2 : listed.toList[i]'(by simpa using hlt) = false := by simpa using h
  have h3 : 0 < listed.toList.countP (fun b => !b) := List.countP_pos_iff.2 ⟨_, List.getElem_mem (by simpa using hlt), by rw [h2]; rfl⟩
  rw [h2]
  simp only [Bool.not_false, if_true, Bool.not_true, Bool.false_eq_true, if_false]
  omega
/-- What has run, once i has run. -/
def updL (L : Nat → Bool) (i j : Nat) : Bool := if j = i then true else L j
theorem getD_set {listed : Array Bool} {i j : Nat} : (listed.setIfInBounds i true).getD j true = updL (fun j => listed.getD j true) i j := by
  unfold updL
  by_cases e : j = i
  · subst e
    rw [if_pos rfl]
    by_cases hlt : j < listed.size
    · simp [Array.getD, hlt]
    · simp [Array.getD, hlt]
  · rw [if_neg e]
    by_cases hlt : j < listed.size
    · simp [Array.getD, hlt, show ¬ i = j from fun h => e h.symm]
    · simp [Array.getD, hlt]
theorem all_listed {md : Region.Mode} {ops : Array Oper} {listed : Array Bool} (hs : listed.size = ops.size) (hac : ∀ (i : Nat) (o : Oper), ops[i]? = some o → ∀ e : Edge, e ∈ o.after → e.on < i) (hr : Region.ready md ops listed = []) : ∀ i, listed.getD i true = true := by
  intro i
  induction i using Nat.strongRecOn with
  | ind i ih =>
    by_cases hlt : i < ops.size
    · cases hb : listed.getD i true with
      | true => rfl
      | false =>
        exfalso
        have hm : i ∈ Region.ready md ops listed := by
          unfold Region.ready
          refine List.mem_filter.2 ⟨List.mem_range.2 hlt, ?_⟩
          have ho : ops[i]? = some ops[i] := Array.getElem?_eq_getElem hlt
          simp only [Bool.and_eq_true, Bool.not_eq_true', hb, true_and]
          rw [ho]
          simp only [Option.map_some, Option.getD_some]
          rw [Array.all_eq_true_iff_forall_mem]
          intro e he
          have h1 := ih e.on (hac i _ ho e he)
          have h2 : e.on < listed.size := by have := hac i _ ho e he; omega
          have h3 : listed.getD e.on false = true := by
            simp [Array.getD, h2] at h1 ⊢
            exact h1
          rw [h3]; simp
        rw [hr] at hm
        cases hm
    · simp [Array.getD, show ¬ i < listed.size by omega]

/-- A region that draws its order: an invariant over what has run. -/
theorem region_inv {P : Program} {id : Nat} {ops : Array Oper} {Q : Exit → Act → World → Prop} {a : Act} {w : World} (hmix : P.follows .mixedOrders = true) (I : (Nat → Bool) → Act → World → Prop)
    (hac : ∀ (i : Nat) (o : Oper), ops[i]? = some o → ∀ e : Edge, e ∈ o.after → e.on < i)
    (h0 : ∀ L : Nat → Bool, (∀ i, i < ops.size → L i = false) → I L a w.drew)
    (hend : ∀ (L : Nat → Bool) a w, (∀ i, L i = true) → I L a w → Q .normal a w)
    (hstep : ∀ (L : Nat → Bool) (i : Nat) (o : Oper), ops[i]? = some o → L i = false → (∀ e : Edge, e ∈ o.after → Region.binds .any e = true → L e.on = true) → ∀ a w, I L a w → ∀ K' : Act → World → Prop, (∀ a' w', I (updL L i) a' w' → K' a' w') → if Region.wanted o (yielded ops a.tmps) = true then Oper.wp P o a w K' Q else K' (a.put o.dst undef) w) :
    (Code.region id ops true).wp P Q a w := by
  refine wp_region_any hmix ?_
  have key : ∀ (fuel : Nat) (listed : Array Bool) (a : Act) (w : World), listed.size = ops.size → leftO listed ≤ fuel → I (fun j => listed.getD j true) a w → wpAny P .any ops Q fuel listed a w := by
    intro fuel
    induction fuel with
    | zero =>
      intro listed a w hs hl hI
      have hr := leftO_zero (md := .any) (ops := ops) (listed := listed) (by omega)
      exact ⟨hr, hend _ a w (all_listed hs hac hr) hI⟩
    | succ fuel ih =>
      intro listed a w hs hl hI
      refine ⟨fun hr => hend _ a w (all_listed hs hac hr) hI, fun i hi => ?_⟩
      unfold Region.ready at hi
      obtain ⟨hi1, hi2⟩ := List.mem_filter.1 hi
      have hlt := List.mem_range.1 hi1
      have ho : ops[i]? = some ops[i] := Array.getElem?_eq_getElem hlt
      simp only [Bool.and_eq_true, Bool.not_eq_true'] at hi2
      obtain ⟨hu, hd⟩ := hi2
      rw [ho] at hd
      simp only [Option.map_some, Option.getD_some] at hd
      rw [Array.all_eq_true_iff_forall_mem] at hd
      refine wpOp_step ho fun K' hK' => hstep (fun j => listed.getD j true) i _ ho hu (fun e he hb => ?_) a w hI K' fun a' w' hI' => hK' a' w' (ih _ a' w' (by simp [hs]) (by have := leftO_set hu; omega) ?_)
      · have h1 := hd e he
        rw [hb] at h1
        simp only [Bool.not_true, Bool.false_or] at h1
        have h2 : e.on < listed.size := by have := hac i _ ho e he; omega
        simp [Array.getD, h2] at h1 ⊢
        exact h1
      · have e : (fun j => (listed.setIfInBounds i true).getD j true) = updL (fun j => listed.getD j true) i := funext fun j => getD_set
        rw [e]; exact hI'
  refine key _ _ _ _ (by simp) ?_ ?_
  · unfold leftO
    refine Nat.le_trans List.countP_le_length ?_
    simp
  · exact h0 _ fun i hi => by simp [Array.getD, hi]
end Go.Proofs.YtbebdhjhlheboaaGreat

namespace Go.Proofs.YtbebdhjhlheboaaGreat
open Go.ChangeShapes Go.WideShapes Go.ChangeAt Go.RowKit

/-- The steps of a region's operations keep an invariant. -/
def StepsI (P : Program) (Q : Exit → Act → World → Prop) (I : (Nat → Bool) → Act → World → Prop) (l : List (List Nat)) : Nat → List Oper → Prop
  | _, [] => True
  | i, o :: os => (∀ L : Nat → Bool, L i = false → (∀ k, k ∈ l.getD i [] → L k = true) → (∀ j k, k ∈ l.getD j [] → L j = true → L k = true) → ∀ a w, I L a w → ∀ K' : Act → World → Prop, (∀ a' w', I (updL L i) a' w' → K' a' w') → Oper.wp P o a w K' Q) ∧ StepsI P Q I l (i + 1) os
theorem StepsI.at_ {P : Program} {Q : Exit → Act → World → Prop} {I : (Nat → Bool) → Act → World → Prop} {l : List (List Nat)} {os : List Oper} : ∀ {i0 : Nat}, StepsI P Q I l i0 os → ∀ {j : Nat} {o : Oper}, os[j]? = some o →
    ∀ L : Nat → Bool, L (i0 + j) = false → (∀ k, k ∈ l.getD (i0 + j) [] → L k = true) → (∀ j k, k ∈ l.getD j [] → L j = true → L k = true) → ∀ a w, I L a w → ∀ K' : Act → World → Prop, (∀ a' w', I (updL L (i0 + j)) a' w' → K' a' w') → Oper.wp P o a w K' Q := by
  induction os with
  | nil => intro i0 _ j o ho; simp at ho
  | cons o' os ih =>
    intro i0 h j o ho
    cases j with
    | zero =>
      simp only [List.getElem?_cons_zero, Option.some.injEq] at ho
      subst ho
      exact h.1
    | succ j =>
      simp only [List.getElem?_cons_succ] at ho
      have := ih h.2 ho
      rw [show i0 + 1 + j = i0 + (j + 1) by omega] at this
      exact this
/-- The edges that are told stand in the text. -/
def edgesOk (l : List (List Nat)) (ops : List Oper) : Bool := decide (l.length ≤ ops.length) && (List.range ops.length).all fun i => match ops[i]? with
  | some o => o.guard.isNone && (o.after.toList.all (fun e => decide (e.on < i)) && (l.getD i []).all fun k => o.after.toList.any fun e => e.on == k && Region.binds .any e)
  | none => true
theorem region_steps {P : Program} {id : Nat} {ops : List Oper} {Q : Exit → Act → World → Prop} {a : Act} {w : World} (J : Act → (Nat → Bool) → Act → World → Prop) (l : List (List Nat)) (hmix : P.follows .mixedOrders = true) (hok : edgesOk l ops = true)
    (h0 : ∀ L : Nat → Bool, (∀ i, i < ops.length → L i = false) → J a L a w.drew)
    (hs : StepsI P Q (J a) l 0 ops)
    (hend : ∀ L : Nat → Bool, (∀ i, L i = true) → ∀ a' w', J a L a' w' → Q .normal a' w') :
    (Code.region id ops.toArray true).wp P Q a w := by
  unfold edgesOk at hok
  rw [Bool.and_eq_true] at hok
  have hlen := of_decide_eq_true hok.1
  have hall : ∀ (i : Nat) (o : Oper), ops[i]? = some o → o.guard = none ∧ (∀ e : Edge, e ∈ o.after → e.on < i) ∧ ∀ k, k ∈ l.getD i [] → ∃ e : Edge, e ∈ o.after ∧ e.on = k ∧ Region.binds .any e = true := by
    intro i o ho
    have hi : i < ops.length := (List.getElem?_eq_some_iff.1 ho).1
    have := List.all_eq_true.1 hok.2 i (List.mem_range.2 hi)
    rw [ho] at this
    simp only [Bool.and_eq_true] at this
    obtain ⟨h1, h2, h3⟩ := this
    have h1' : o.guard = none := by
      cases hg : o.guard with
      | none => rfl
      | some x => rw [hg] at h1; cases h1
    refine ⟨h1', fun e he => ?_, fun k hk => ?_⟩
    · exact of_decide_eq_true (List.all_eq_true.1 h2 e (by simpa using he))
    · obtain ⟨e, he, h4⟩ := List.any_eq_true.1 (List.all_eq_true.1 h3 k hk)
      rw [Bool.and_eq_true, beq_iff_eq] at h4
      exact ⟨e, by simpa using he, h4.1, h4.2⟩
  refine region_inv hmix (fun L a' w' => J a L a' w' ∧ ∀ j k, k ∈ l.getD j [] → L j = true → L k = true) (fun i o ho => (hall i o (by simpa using ho)).2.1) (fun L hL => ⟨h0 L (fun i hi => hL i (by simpa using hi)), fun j k hk hj => ?_⟩) (fun L a' w' hL hI => hend L hL a' w' hI.1) ?_
  · by_cases hlt : j < ops.length
    · rw [hL j (by simpa using hlt)] at hj; cases hj
    · rw [List.getD_eq_getElem?_getD, List.getElem?_eq_none (by omega)] at hk
      simp at hk
  · intro L i o ho hLi hd a' w' hI K' hK'
    have ho' : ops[i]? = some o := by simpa using ho
    obtain ⟨hg, _, he⟩ := hall i o ho'
    rw [if_pos (by unfold Region.wanted; rw [hg])]
    have hdl : ∀ k, k ∈ l.getD i [] → L k = true := fun k hk => by
      obtain ⟨e, h1, h2, h3⟩ := he k hk
      rw [← h2]
      exact hd e h1 h3
    have := hs.at_ ho' L (by rw [Nat.zero_add]; exact hLi) (by rw [Nat.zero_add]; exact hdl) hI.2 a' w' hI.1 K'
    rw [Nat.zero_add] at this
    refine this fun a2 w2 h2 => hK' a2 w2 ⟨h2, fun j k hk hj => ?_⟩
    have hup : ∀ k, L k = true → updL L i k = true := fun k hk => by
      unfold updL
      split
      · rfl
      · exact hk
    by_cases e : j = i
    · subst e; exact hup k (hdl k hk)
    · refine hup k (hI.2 j k hk ?_)
      unfold updL at hj
      rwa [if_neg e] at hj
/-- A frame in which slots are laid anew. -/
def lay (a : Act) : List (Nat × Value) → Act
  | [] => a
  | x :: xs => lay (a.put (some x.1) x.2) xs
end Go.Proofs.YtbebdhjhlheboaaGreat

namespace Go.Proofs.YtbebdhjhlheboaaGreat
open Go.ChangeShapes Go.WideShapes Go.ChangeAt Go.RowKit

theorem all_listed2 {md : Region.Mode} {ops : Array Oper} {listed : Array Bool} (hs : listed.size = ops.size) (hac : ∀ (i : Nat) (o : Oper), ops[i]? = some o → ∀ e : Edge, e ∈ o.after → Region.binds md e = true → e.on < i) (hr : Region.ready md ops listed = []) : ∀ i, listed.getD i true = true := by
  intro i
  induction i using Nat.strongRecOn with
  | ind i ih =>
    by_cases hlt : i < ops.size
    · cases hb : listed.getD i true with
      | true => rfl
      | false =>
        exfalso
        have hm : i ∈ Region.ready md ops listed := by
          unfold Region.ready
          refine List.mem_filter.2 ⟨List.mem_range.2 hlt, ?_⟩
          have ho : ops[i]? = some ops[i] := Array.getElem?_eq_getElem hlt
          simp only [Bool.and_eq_true, Bool.not_eq_true', hb, true_and]
          rw [ho]
          simp only [Option.map_some, Option.getD_some]
          rw [Array.all_eq_true_iff_forall_mem]
          intro e he
          cases hbd : Region.binds md e with
          | false => simp
          | true =>
            have h1 := ih e.on (hac i _ ho e he hbd)
            have h2 : e.on < listed.size := by have := hac i _ ho e he hbd; omega
            have h3 : listed.getD e.on false = true := by
              simp [Array.getD, h2] at h1 ⊢
              exact h1
            rw [h3]; simp
        rw [hr] at hm
        cases hm
    · simp [Array.getD, show ¬ i < listed.size by omega]

/-- A region that draws its order: an invariant over what has run. -/
theorem region_inv2 {P : Program} {id : Nat} {ops : Array Oper} {Q : Exit → Act → World → Prop} {a : Act} {w : World} (hmix : P.follows .mixedOrders = true) (I : (Nat → Bool) → Act → World → Prop)
    (hac : ∀ (i : Nat) (o : Oper), ops[i]? = some o → ∀ e : Edge, e ∈ o.after → Region.binds .any e = true → e.on < i)
    (h0 : ∀ L : Nat → Bool, (∀ i, i < ops.size → L i = false) → I L a w.drew)
    (hend : ∀ (L : Nat → Bool) a w, (∀ i, L i = true) → I L a w → Q .normal a w)
    (hstep : ∀ (L : Nat → Bool) (i : Nat) (o : Oper), ops[i]? = some o → L i = false → (∀ e : Edge, e ∈ o.after → Region.binds .any e = true → L e.on = true) → ∀ a w, I L a w → ∀ K' : Act → World → Prop, (∀ a' w', I (updL L i) a' w' → K' a' w') → if Region.wanted o (yielded ops a.tmps) = true then Oper.wp P o a w K' Q else K' (a.put o.dst undef) w) :
    (Code.region id ops true).wp P Q a w := by
  refine wp_region_any hmix ?_
  have key : ∀ (fuel : Nat) (listed : Array Bool) (a : Act) (w : World), listed.size = ops.size → leftO listed ≤ fuel → I (fun j => listed.getD j true) a w → wpAny P .any ops Q fuel listed a w := by
    intro fuel
    induction fuel with
    | zero =>
      intro listed a w hs hl hI
      have hr := leftO_zero (md := .any) (ops := ops) (listed := listed) (by omega)
      exact ⟨hr, hend _ a w (all_listed2 hs hac hr) hI⟩
    | succ fuel ih =>
      intro listed a w hs hl hI
      refine ⟨fun hr => hend _ a w (all_listed2 hs hac hr) hI, fun i hi => ?_⟩
      unfold Region.ready at hi
      obtain ⟨hi1, hi2⟩ := List.mem_filter.1 hi
      have hlt := List.mem_range.1 hi1
      have ho : ops[i]? = some ops[i] := Array.getElem?_eq_getElem hlt
      simp only [Bool.and_eq_true, Bool.not_eq_true'] at hi2
      obtain ⟨hu, hd⟩ := hi2
      rw [ho] at hd
      simp only [Option.map_some, Option.getD_some] at hd
      rw [Array.all_eq_true_iff_forall_mem] at hd
      refine wpOp_step ho fun K' hK' => hstep (fun j => listed.getD j true) i _ ho hu (fun e he hb => ?_) a w hI K' fun a' w' hI' => hK' a' w' (ih _ a' w' (by simp [hs]) (by have := leftO_set hu; omega) ?_)
      · have h1 := hd e he
        rw [hb] at h1
        simp only [Bool.not_true, Bool.false_or] at h1
        have h2 : e.on < listed.size := by have := hac i _ ho e he hb; omega
        simp [Array.getD, h2] at h1 ⊢
        exact h1
      · have e : (fun j => (listed.setIfInBounds i true).getD j true) = updL (fun j => listed.getD j true) i := funext fun j => getD_set
        rw [e]; exact hI'
  refine key _ _ _ _ (by simp) ?_ ?_
  · unfold leftO
    refine Nat.le_trans List.countP_le_length ?_
    simp
  · exact h0 _ fun i hi => by simp [Array.getD, hi]
/-- The edges that are told stand in the text. -/
def edgesOk2 (l : List (List Nat)) (ops : List Oper) : Bool := decide (l.length ≤ ops.length) && (List.range ops.length).all fun i => match ops[i]? with
  | some o => o.guard.isNone && (o.after.toList.all (fun e => !Region.binds .any e || decide (e.on < i)) && (l.getD i []).all fun k => o.after.toList.any fun e => e.on == k && Region.binds .any e)
  | none => true
theorem region_steps2 {P : Program} {id : Nat} {ops : List Oper} {Q : Exit → Act → World → Prop} {a : Act} {w : World} (J : Act → (Nat → Bool) → Act → World → Prop) (l : List (List Nat)) (hmix : P.follows .mixedOrders = true) (hok : edgesOk2 l ops = true)
    (h0 : ∀ L : Nat → Bool, (∀ i, i < ops.length → L i = false) → J a L a w.drew)
    (hs : StepsI P Q (J a) l 0 ops)
    (hend : ∀ L : Nat → Bool, (∀ i, L i = true) → ∀ a' w', J a L a' w' → Q .normal a' w') :
    (Code.region id ops.toArray true).wp P Q a w := by
  unfold edgesOk2 at hok
  rw [Bool.and_eq_true] at hok
  have hlen := of_decide_eq_true hok.1
  have hall : ∀ (i : Nat) (o : Oper), ops[i]? = some o → o.guard = none ∧ (∀ e : Edge, e ∈ o.after → Region.binds .any e = true → e.on < i) ∧ ∀ k, k ∈ l.getD i [] → ∃ e : Edge, e ∈ o.after ∧ e.on = k ∧ Region.binds .any e = true := by
    intro i o ho
    have hi : i < ops.length := (List.getElem?_eq_some_iff.1 ho).1
    have := List.all_eq_true.1 hok.2 i (List.mem_range.2 hi)
    rw [ho] at this
    simp only [Bool.and_eq_true] at this
    obtain ⟨h1, h2, h3⟩ := this
    have h1' : o.guard = none := by
      cases hg : o.guard with
      | none => rfl
      | some x => rw [hg] at h1; cases h1
    refine ⟨h1', fun e he hb => ?_, fun k hk => ?_⟩
    · have := List.all_eq_true.1 h2 e (by simpa using he)
      rw [hb] at this
      simpa using this
    · obtain ⟨e, he, h4⟩ := List.any_eq_true.1 (List.all_eq_true.1 h3 k hk)
      rw [Bool.and_eq_true, beq_iff_eq] at h4
      exact ⟨e, by simpa using he, h4.1, h4.2⟩
  refine region_inv2 hmix (fun L a' w' => J a L a' w' ∧ ∀ j k, k ∈ l.getD j [] → L j = true → L k = true) (fun i o ho => (hall i o (by simpa using ho)).2.1) (fun L hL => ⟨h0 L (fun i hi => hL i (by simpa using hi)), fun j k hk hj => ?_⟩) (fun L a' w' hL hI => hend L hL a' w' hI.1) ?_
  · by_cases hlt : j < ops.length
    · rw [hL j (by simpa using hlt)] at hj; cases hj
    · rw [List.getD_eq_getElem?_getD, List.getElem?_eq_none (by omega)] at hk
      simp at hk
  · intro L i o ho hLi hd a' w' hI K' hK'
    have ho' : ops[i]? = some o := by simpa using ho
    obtain ⟨hg, _, he⟩ := hall i o ho'
    rw [if_pos (by unfold Region.wanted; rw [hg])]
    have hdl : ∀ k, k ∈ l.getD i [] → L k = true := fun k hk => by
      obtain ⟨e, h1, h2, h3⟩ := he k hk
      rw [← h2]
      exact hd e h1 h3
    have := hs.at_ ho' L (by rw [Nat.zero_add]; exact hLi) (by rw [Nat.zero_add]; exact hdl) hI.2 a' w' hI.1 K'
    rw [Nat.zero_add] at this
    refine this fun a2 w2 h2 => hK' a2 w2 ⟨h2, fun j k hk hj => ?_⟩
    have hup : ∀ k, L k = true → updL L i k = true := fun k hk => by
      unfold updL
      split
      · rfl
      · exact hk
    by_cases e : j = i
    · subst e; exact hup k (hdl k hk)
    · refine hup k (hI.2 j k hk ?_)
      unfold updL at hj
      rwa [if_neg e] at hj
end Go.Proofs.YtbebdhjhlheboaaGreat

namespace Go.Proofs.YtbebdhjhlheboaaGreat
open Go.ChangeShapes Go.WideShapes Go.ChangeAt Go.RowKit Go.Shelf

/-- The partial assignment without values. -/
def zv0 (_ : Nat) : Int := 0
theorem asg_pv {z : Int} (_hz : litB z = true) : pvB 12 (asg zv0 z) = true := pvB_iff.2 ⟨rfl, fun i _ => by
  unfold asg zv0
  repeat' split
  all_goals omega⟩
theorem ownV_zero (w : World) (T : TypeId) (m : Nat) : OwnV (w.alloc (.cells (madeCells #[.int .i64 0] m) T)) w.heap.size T m m zv0 :=
  ⟨_, heap_alloc_new _ _, by simp [size_madeCells], fun i hi => by
    rw [← Array.getElem?_toList, toList_madeCells_one, List.getElem?_replicate, if_pos hi]
    rfl⟩
/-- What FixLiteral answers. -/
def fxlOk (n : Nat) (p : Nat → Con) (z : Int) : Bool := litB z && probB n p
def fxlN (n : Nat) (p : Nat → Con) (z : Int) : Nat := if fxlOk n p z = true then n else 0
def fxlK (p : Nat → Con) (z : Int) : Nat → Con := fixK p (asg zv0 z)
section
variable {n : Nat} {p : Nat → Con} {z : Int}
theorem fxl_eq (hz : litB z = true) : fixOk n p 12 (asg zv0 z) = fxlOk n p z ∧ fixN n p 12 (asg zv0 z) = fxlN n p z := by
  have h : fixOk n p 12 (asg zv0 z) = fxlOk n p z := by
    unfold fixOk fxlOk
    rw [asg_pv hz, hz, Bool.and_true, Bool.true_and]
  refine ⟨h, ?_⟩
  unfold fixN fxlN
  rw [h]
theorem fxl_no (hz : litB z = false) : fxlOk n p z = false ∧ fxlN n p z = 0 := by
  have h : fxlOk n p z = false := by unfold fxlOk; rw [hz]; rfl
  exact ⟨h, if_neg (by rw [h]; exact Bool.false_ne_true)⟩
theorem fxl_ok (h : fxlOk n p z = true) : litB z = true ∧ probB n p = true := by
  unfold fxlOk at h
  rwa [Bool.and_eq_true] at h
theorem fxlN_le (n : Nat) (p : Nat → Con) (z : Int) : fxlN n p z ≤ 400 := by
  unfold fxlN
  split
  · rename_i h
    exact prob_400 (fxl_ok h).2
  · omega
theorem fxl_12 {i : Nat} (hi : i < fxlN n p z) : (fxlK p z i).n ≤ 12 := by
  cases hz : litB z with
  | false => rw [(fxl_no hz).2] at hi; omega
  | true => rw [← (fxl_eq hz).2] at hi; exact fix_12 hi
theorem fxl_all (n : Nat) (p : Nat → Con) (z : Int) (i : Nat) (hi : i < fxlN n p z) : (fxlK p z i).n ≤ 1048576 := Nat.le_trans (fxl_12 hi) (by omega)
theorem fxl_tot (n : Nat) (p : Nat → Con) (z : Int) : fxlN n p z + 2 * tot (fxlK p z) (fxlN n p z) ≤ 500000 := by
  have h1 := fxlN_le n p z
  have h2 := tot_12 (q := fxlK p z) (k := fxlN n p z) fun i hi => fxl_12 hi
  omega
end

set_option linter.unusedVariables false in
set_option maxRecDepth 100000 in
set_option maxHeartbeats 3200000 in
theorem specFxl_any (A : Option Addr) (n cap : Nat) (p : Nat → Con) (z : Int) (w : World) (hn : n ≤ 1048576) (hn' : ∀ i, i < n → (p i).n ≤ 1048576) (hr : RdP w w.heap.size A n p) :
    Calls Tryz.prog 7 #[.slice A n cap, .int .i64 z] w (FixRes w (fxlN n p z) (fxlOk n p z) (fxlK p z)) := by
  cases hz : litB z with
  | false =>
    have Hfin := Lib.hid (fxl_no (n := n) (p := p) hz)
    have Hz := Lib.hid hz
    clear hz
    go_enter Tryz.func7, Tryz.ntmps7
    go_wp2_with fail
    refine (l1Lit_any _ _).mono ?_
    rintro e w1 ⟨rfl, rfl⟩
    rw [Hz.out]
    go_wp2
    go_ret2
    exact fixRes_no Hfin.out (bl_alloc (Below.refl _ _) _)
  | true =>
    have Hfin := Lib.hid (fxl_eq (n := n) (p := p) hz)
    have Hz := Lib.hid hz
    have HN := Lib.hid hn'
    have HR := Lib.hid hr
    obtain ⟨i0, hi, hz0, hz1, hz2⟩ := info_parts Tryz.infoInt
    have hmk := fun W => run_make (P := Tryz.prog) W 37 3 i0 _ Tryz.underlying37 hi hz0 .i64 .i64 12 12 (by omega) (by omega) (by rw [hz2]; omega) (by omega)
    rw [hz1] at hmk
    clear hz hn' hr hi hz0 hz1 hz2
    go_enter Tryz.func7, Tryz.ntmps7
    go_wp2_with fail
    refine (l1Lit_any _ _).mono ?_
    rintro e w1 ⟨rfl, rfl⟩
    rw [Hz.out]
    go_wp2_with fail
    refine (l3Assign_any _ 12 zv0 z _ Hz.out (ownV_zero _ _ _)).mono ?_
    rintro e w2 ⟨rfl, hown, hgr⟩
    have hbl : Below w1.heap.size w1 w2 := ((Below.refl _ _).alloc (Nat.le_refl _) _).trans (grown_below hgr (by simp))
    have HB := Lib.hid hbl
    have HO := Lib.hid hown
    clear hown hgr hbl hmk
    go_wp2_with fail
    refine (specFix_any A (some ⟨w1.heap.size, 0, none⟩) n cap 12 12 p (asg zv0 z) w2 hn HN.out (by omega) (HR.out.later HB.out) (HO.out.rdAt)).mono ?_
    rintro e w3 ⟨A3, cap3, rfl, hF, hb⟩
    rw [Hfin.out.1, Hfin.out.2] at *
    have HF := Lib.hid (hF.more HB.out.size)
    have HB3 := Lib.hid (bl_trans HB.out hb)
    clear hF hb
    go_wp2
    go_ret2
    exact ⟨A3, cap3, rfl, HF.out, HB3.out⟩

theorem ownV_at {w : World} {G : Nat} {T : TypeId} {n k : Nat} {v : Nat → Int} (h : OwnV w G T n k v) {i : Nat} (hi : i < k) : w.cell? ⟨G, i, none⟩ = some (.int .i64 (v i)) := by
  obtain ⟨cs, hh, _, hv⟩ := h
  exact (cell_of_row w G i cs _ _ hh).trans (hv i hi)
theorem fx_shape (S : Nat) (T : TypeId) : ∀ (vs : List Value) (o : Nat) (w : World) (cs : Array Value), w.heap[S]? = some (.cells cs T (0, 0)) → ∃ cs', (w.setCells S o vs).heap[S]? = some (.cells cs' T (0, 0)) ∧ cs'.size = cs.size
  | [], _, _, cs, h => ⟨cs, h, rfl⟩
  | v :: r, o, w, cs, h => by
    obtain ⟨cs', h1, h2⟩ := fx_shape S T r (o + 1) (w.setCell ⟨S, o, none⟩ v) (cs.setIfInBounds o v) (by simp [World.setCell, Array.getElem?_modify, h])
    exact ⟨cs', h1, by rw [h2]; simp⟩
theorem fx_grown (S : Nat) : ∀ (vs : List Value) (o : Nat) (w : World), w.grownBy (w.setCells S o vs) (some S)
  | [], _, _ => ⟨rfl, rfl, rfl, Nat.le_refl _, fun _ _ _ => rfl⟩
  | v :: r, o, w => grown_trans (grown_set w S o v) (fx_grown S r (o + 1) _)
theorem fx_setCells {a w : World} (h : Below a.heap.size a w) {g : Nat} (hg : a.heap.size ≤ g) (vs : List Value) (o : Nat) : Below a.heap.size a (w.setCells g o vs) := by
  have t := fx_grown g vs o w
  exact ⟨t.os.trans h.os, t.tape.trans h.tape, t.output.trans h.output, Nat.le_trans h.size t.size, fun k hk => (t.block k (Nat.lt_of_lt_of_le hk h.size) (fun e => by injection e with e; omega)).trans (h.block k hk)⟩
theorem fx_set12 {w : World} {g : Nat} {T : TypeId} (V : Nat → Int) (h : w.heap[g]? = some (.cells #[.int .i64 0, .int .i64 0, .int .i64 0, .int .i64 0, .int .i64 0, .int .i64 0, .int .i64 0, .int .i64 0, .int .i64 0, .int .i64 0, .int .i64 0, .int .i64 0] T (0, 0))) : OwnV (w.setCells g 0 (cl12 V)) g T 12 12 V ∧ w.there g 0 (cl12 V).length := by
  have ht : w.there g 0 (cl12 V).length := fun j hj => by
    have hj : j < 12 := hj
    refine ⟨?_, by simp [World.frozen?, h]⟩
    rw [(cell_of_row _ g (0 + j) _ _ _ h), Array.getElem?_eq_getElem (by simp; omega)]
    rfl
  obtain ⟨cs', e1, e2⟩ := fx_shape g T (cl12 V) 0 w _ h
  have hr := World.rangeAt_setCells_same w g 0 (cl12 V) ht
  refine ⟨⟨cs', e1, by rw [e2]; exact Nat.le_refl _, fun i hi => ?_⟩, ht⟩
  have := hr i (.int .i64 (V i)) (by have := cells12_at V hi; rw [show cells12 V = (cl12 V).toArray from rfl, List.getElem?_toArray] at this; exact this)
  rw [Nat.zero_add] at this
  exact (cell_of_row _ g i cs' _ _ e1).symm.trans this
theorem fx_one (V : Nat → Int) : (cl12 V).toArray.all (·.oneCell') = true := by simp [cl12, Value.oneCell']
theorem alloc_two9 (w : World) (o o' : Obj) : ((w.alloc o).alloc o').heap[w.heap.size + 1]? = some o' := by
  have h := heap_alloc_new (w.alloc o) o'
  have e : (w.alloc o).heap.size = w.heap.size + 1 := by simp
  rw [e] at h
  exact h
set_option maxRecDepth 100000 in
set_option maxHeartbeats 800000 in
theorem makeTrueP_any (B : Nat) (v : Nat → Int) (z : Int) (w : World) (hz : litB z = true) (h : OwnV w B 49 12 12 v) :
    Calls Tryz.prog 38 #[.pointer (some ⟨B, 0, none⟩), .int .i64 z] w fun e w' => e = .returned (.tuple #[]) ∧ OwnV w' B 49 12 12 (asg v z) ∧ w.grownBy w' (some B) := by
  obtain ⟨h0, h1, h2⟩ := litB_iff.1 hz
  rcases (show 0 < z ∨ z < 0 by omega) with hp | hp
  · obtain ⟨i, hi, rfl⟩ : ∃ i : Nat, i < 12 ∧ z = (i : Int) + 1 := ⟨(z - 1).toNat, by omega, by omega⟩
    have hi0 : (0 : Int) ≤ (i : Int) := by omega
    have hi1 : (i : Int) < 12 := by omega
    have hwi : IntKind.i64.wrap (i : Int) = (i : Int) := IntWalk.i64_in _ (by omega)
    have hab : ab ((i : Int) + 1) = (i : Int) + 1 := by unfold ab; rw [if_neg (by omega)]
    have hva := fun W => litVariable_same ((i : Int) + 1) W h1 h2
    rw [hab] at hva
    have Hva := Lib.hid hva
    have hng : decide ((i : Int) + 1 < 0) = false := decide_eq_false (by omega)
    have Hng := Lib.hid hng
    have HO := Lib.hid h
    clear h hz h0 h1 h2 hab hva hng
    go_enter Tryz.func38, Tryz.ntmps38
    go_wp2_with fail
    refine (litNegated_any _ _).mono ?_
    rintro e w' ⟨rfl, hw⟩
    subst hw
    rw [Hng.out]
    go_wp2_with fail
    refine wp_region_still_tail 6 (by kernel_rfl) (by kernel_rfl) ?_
    change wpStill _ _ w'.drew (fun a' => wpList _ _ _ _ a' w'.drew) _ _
    have hX : OwnV w'.drew B 49 12 12 v := HO.out.at_ rfl
    have gX : w'.grownBy w'.drew (some B) := below_grown (Below.refl _ _).drew
    generalize w'.drew = X at hX gX ⊢
    obtain ⟨u, hu⟩ := hX.cell hi
    have hf := hX.frozen i
    have H := Lib.hid (show OwnV (X.setCell ⟨B, i, none⟩ (.int .i64 1)) B 49 12 12 (asg v ((i : Int) + 1)) by rw [asg_pos]; exact hX.setI hi 1)
    have G := Lib.hid (grown_trans gX (grown_set X B i (.int .i64 1)))
    clear hX gX
    have hvar := Hva.out
    simp only [List.take_succ_cons, List.take_zero, List.drop_succ_cons, List.drop_zero]
    repeat (first | still_step | still_call (hvar _))
    refine wpStill_nil ?_
    go_wp2
    exact ⟨rfl, .tuple #[], by simp [results, Tryz.results38], rfl, H.out, G.out⟩
  · obtain ⟨i, hi, rfl⟩ : ∃ i : Nat, i < 12 ∧ z = -((i : Int) + 1) := ⟨(-z - 1).toNat, by omega, by omega⟩
    have hi0 : (0 : Int) ≤ (i : Int) := by omega
    have hi1 : (i : Int) < 12 := by omega
    have hwi : IntKind.i64.wrap (i : Int) = (i : Int) := IntWalk.i64_in _ (by omega)
    have hab : ab (-((i : Int) + 1)) = (i : Int) + 1 := by unfold ab; rw [if_pos (by omega)]; omega
    have hva := fun W => litVariable_same (-((i : Int) + 1)) W h1 h2
    rw [hab] at hva
    have Hva := Lib.hid hva
    have hng : decide (-((i : Int) + 1) < 0) = true := decide_eq_true (by omega)
    have Hng := Lib.hid hng
    have HO := Lib.hid h
    clear h hz h0 h1 h2 hab hva hng
    go_enter Tryz.func38, Tryz.ntmps38
    go_wp2_with fail
    refine (litNegated_any _ _).mono ?_
    rintro e w' ⟨rfl, hw⟩
    subst hw
    rw [Hng.out]
    go_wp2_with fail
    refine wp_region_still_tail 6 (by kernel_rfl) (by kernel_rfl) ?_
    change wpStill _ _ w'.drew (fun a' => wpList _ _ _ _ a' w'.drew) _ _
    have hX : OwnV w'.drew B 49 12 12 v := HO.out.at_ rfl
    have gX : w'.grownBy w'.drew (some B) := below_grown (Below.refl _ _).drew
    generalize w'.drew = X at hX gX ⊢
    obtain ⟨u, hu⟩ := hX.cell hi
    have hf := hX.frozen i
    have H := Lib.hid (show OwnV (X.setCell ⟨B, i, none⟩ (.int .i64 (-1))) B 49 12 12 (asg v (-((i : Int) + 1))) by rw [asg_neg]; exact hX.setI hi (-1))
    have G := Lib.hid (grown_trans gX (grown_set X B i (.int .i64 (-1))))
    clear hX gX
    have hvar := Hva.out
    simp only [List.take_succ_cons, List.take_zero, List.drop_succ_cons, List.drop_zero]
    repeat (first | still_step | still_call (hvar _))
    refine wpStill_nil ?_
    go_wp2
    exact ⟨rfl, .tuple #[], by simp [results, Tryz.results38], rfl, H.out, G.out⟩

set_option maxRecDepth 100000 in
set_option maxHeartbeats 1600000 in
theorem onlyTrue_any (z : Int) (w : World) (hz : litB z = true) :
    Calls Tryz.prog 19 #[.int .i64 z] w fun e w' => e = .returned (arrV (asg zv0 z)) ∧ Below w.heap.size w w' := by
  have Hz := Lib.hid hz
  clear hz
  have hown : OwnV ((w.alloc (.cells (cells12 zv0) 49)).alloc (.cells (cells12 zv0) 49)) (w.heap.size + 1) 49 12 12 zv0 :=
    ⟨_, alloc_two9 _ _ _, Nat.le_refl _, fun i hi => cells12_at zv0 hi⟩
  have hres : ((w.alloc (.cells (cells12 zv0) 49)).alloc (.cells (cells12 zv0) 49)).heap[w.heap.size]? = some (.cells (cells12 zv0) 49 (0, 0)) :=
    ((bl_alloc (Below.refl _ _) _).block w.heap.size (by simp)).trans (heap_alloc_new w _)
  have hbl := bl_alloc (bl_alloc (Below.refl w.heap.size w) (.cells (cells12 zv0) 49)) (.cells (cells12 zv0) 49)
  unfold cells12 zv0 at hown hres hbl
  have HO := Lib.hid hown
  have HR := Lib.hid hres
  have HB := Lib.hid hbl
  clear hown hres hbl
  go_enter Tryz.func19, Tryz.ntmps19
  go_wp2_with fail
  refine (makeTrueP_any (w.heap.size + 1) zv0 z _ Hz.out HO.out).mono ?_
  rintro e w1 ⟨rfl, hown, hgr⟩
  have hrow := (hgr.block w.heap.size (by simp; omega) (by simp)).trans HR.out
  have hB1 := HB.out.grown hgr (by simp; omega) (fun j e => by cases e; simp)
  have HO1 := Lib.hid hown
  have HB1 := Lib.hid hB1
  have s1 : w1.rangeAt (w.heap.size + 1) 0 (cl12 (asg zv0 z)) := range12 fun i hi => by rw [Nat.zero_add]; exact ownV_at hown hi
  obtain ⟨hset, hth⟩ := fx_set12 (asg zv0 z) hrow
  have HS := Lib.hid hset
  have HT := Lib.hid hth
  have S1 := Lib.hid s1
  have hu := Tryz.underlying49
  have hsz12 : (Tryz.prog.info? 49).map (·.size) = some (cl12 (asg zv0 z)).length := by kernel_rfl
  have HU := Lib.hid hu
  have HSZ := Lib.hid hsz12
  have HB2 := Lib.hid (fx_setCells HB1.out (Nat.le_refl w.heap.size) (cl12 (asg zv0 z)) 0)
  clear hown hgr hB1 HO hrow hset hth s1 hu hsz12 HB1
  go_upto_region 3 with fail
  refine wp_region_list ?_
  refine wpList_load_mid (by rfl) 49 _ (by rfl) (w.heap.size + 1) 0 (by rfl) (cl12 (asg zv0 z)) _ S1.out HU.out (by rfl) HSZ.out ?_
  refine wpList_store_mid (by rfl) 49 _ _ (by rfl) w.heap.size 0 (cl12 (asg zv0 z)).toArray (by rfl) (by rfl) HT.out HSZ.out (fx_one _) ?_
  change wpList _ _ _ _ _ (w1.setCells w.heap.size 0 (cl12 (asg zv0 z)))
  have c0 := ownV_at HS.out (i := 0) (by omega)
  have c1 := ownV_at HS.out (i := 1) (by omega)
  have c2 := ownV_at HS.out (i := 2) (by omega)
  have c3 := ownV_at HS.out (i := 3) (by omega)
  have c4 := ownV_at HS.out (i := 4) (by omega)
  have c5 := ownV_at HS.out (i := 5) (by omega)
  have c6 := ownV_at HS.out (i := 6) (by omega)
  have c7 := ownV_at HS.out (i := 7) (by omega)
  have c8 := ownV_at HS.out (i := 8) (by omega)
  have c9 := ownV_at HS.out (i := 9) (by omega)
  have c10 := ownV_at HS.out (i := 10) (by omega)
  have c11 := ownV_at HS.out (i := 11) (by omega)
  generalize w1.setCells w.heap.size 0 (cl12 (asg zv0 z)) = WE at *
  clear HS HT S1 HU HSZ HR
  go_wp2
  refine bodyPost_ret (v := arrV (asg zv0 z)) (by simp [results, Tryz.results19, go_sem, arrV, cells12, c0, c1, c2, c3, c4, c5, c6, c7, c8, c9, c10, c11]) rfl ?_
  exact ⟨rfl, HB2.out⟩

set_option linter.unusedVariables false in
set_option maxRecDepth 100000 in
set_option maxHeartbeats 3200000 in
theorem implFxl_any (A : Option Addr) (n cap : Nat) (p : Nat → Con) (z : Int) (w : World) (hn : n ≤ 1048576) (hn' : ∀ i, i < n → (p i).n ≤ 1048576) (hr : RdP w w.heap.size A n p) :
    Calls Tryz.prog 6 #[.slice A n cap, .int .i64 z] w (FixRes w (fxlN n p z) (fxlOk n p z) (fxlK p z)) := by
  cases hz : litB z with
  | false =>
    have Hfin := Lib.hid (fxl_no (n := n) (p := p) hz)
    have Hz := Lib.hid hz
    clear hz
    go_enter Tryz.func6, Tryz.ntmps6
    go_wp2_with fail
    refine (litValid_any _ _).mono ?_
    rintro e w1 ⟨rfl, hw⟩
    replace hw := hw.symm
    subst hw
    rw [Hz.out]
    go_wp2
    go_ret2
    exact fixRes_no Hfin.out (Below.refl _ _)
  | true =>
    have Hfin := Lib.hid (fxl_eq (n := n) (p := p) hz)
    have Hz := Lib.hid hz
    have HN := Lib.hid hn'
    have HR := Lib.hid hr
    clear hz hn' hr
    go_enter Tryz.func6, Tryz.ntmps6
    go_wp2_with fail
    refine (litValid_any _ _).mono ?_
    rintro e w1 ⟨rfl, hw⟩
    replace hw := hw.symm
    subst hw
    rw [Hz.out]
    go_wp2_with fail
    refine (onlyTrue_any z _ Hz.out).mono ?_
    rintro e w2 ⟨rfl, hb⟩
    have hal := bl_alloc (Below.refl w2.heap.size w2) (.cells (cells12 (asg zv0 z)) 49)
    have HB := Lib.hid (bl_trans hb hal)
    have hrd : RdI (w2.alloc (.cells (cells12 (asg zv0 z)) 49)) (w2.alloc (.cells (cells12 (asg zv0 z)) 49)).heap.size (some ⟨w2.heap.size, 0, none⟩) 12 (asg zv0 z) := fun _ => ⟨w2.heap.size, 0, rfl, by simp, fun i hi => by
      rw [Nat.zero_add]
      exact (cell_of_row _ w2.heap.size i _ _ _ (heap_alloc_new w2 _)).trans (cells12_at _ hi)⟩
    have HC := Lib.hid (implFix_any A (some ⟨w2.heap.size, 0, none⟩) n cap 12 12 p (asg zv0 z) _ hn HN.out (by omega) (HR.out.later HB.out) hrd)
    unfold cells12 at HC
    unfold arrV cells12
    clear hb hal hrd
    go_wp2_with fail
    refine HC.out.mono ?_
    rintro e w3 ⟨A3, cap3, rfl, hF, hb⟩
    rw [Hfin.out.1, Hfin.out.2] at *
    have HF := Lib.hid (hF.more HB.out.size)
    have HB3 := Lib.hid (bl_trans HB.out hb)
    clear hF hb HC
    go_wp2
    go_ret2
    exact ⟨A3, cap3, rfl, HF.out, HB3.out⟩
end Go.Proofs.YtbebdhjhlheboaaGreat

namespace Go.Proofs.YtbebdhjhlheboaaGreat
open Go.ChangeShapes Go.WideShapes Go.ChangeAt Go.RowKit

theorem trueP_cgF {u u' : Nat → Bool} (h : ∀ i, i < 12 → u i = u' i) {z : Int} (hz : litB z = true) : trueP u z = trueP u' z := by
  obtain ⟨_, h1, h2⟩ := litB_iff.1 hz
  unfold trueP
  split
  · exact h _ (by omega)
  · rw [h _ (by omega)]
theorem evalV_cgF {x : Con} (hv : validB x.n x.c x.l x.bd = true) {u u' : Nat → Bool} (h : ∀ i, i < 12 → u i = u' i) : evalV x.n x.c x.l x.bd 12 u = evalV x.n x.c x.l x.bd 12 u' := by
  have h12 := valid_le12 hv
  have e1 : evW x.c x.l u x.n = sB x.c x.l (trueP u) x.n := sumW_sB (by omega) (coef_of hv)
  have e2 : evW x.c x.l u' x.n = sB x.c x.l (trueP u') x.n := sumW_sB (by omega) (coef_of hv)
  rw [evalV_yes hv, evalV_yes hv, e1, e2, sB_congrL x.n fun k hk => trueP_cgF h (litAt hv hk)]
theorem allE_cgF {p : Nat → Con} {u u' : Nat → Bool} (h : ∀ i, i < 12 → u i = u' i) : ∀ n, allV p n = true → allE p u n = allE p u' n := by
  intro n
  induction n with
  | zero => intro _; rfl
  | succ n ih =>
    intro hv
    have h2 : validB (p n).n (p n).c (p n).l (p n).bd = true := allV_at hv (Nat.lt_succ_self n)
    have h1 : allV p n = true := by
      unfold allV at hv
      rw [Bool.and_eq_true] at hv
      exact hv.1
    unfold allE
    rw [ih h1, evalV_cgF h2 h]

/-- A list without repetitions is no longer than one that holds all of it. -/
theorem nodup_leF : ∀ (L M : List Nat), L.Nodup → (∀ x ∈ L, x ∈ M) → L.length ≤ M.length := by
  intro L
  induction L with
  | nil => intro M _ _; exact Nat.zero_le _
  | cons a L ih =>
    intro M hn hs
    have ha : a ∈ M := hs a (List.mem_cons_self ..)
    have hn' := List.nodup_cons.1 hn
    have h1 := ih (M.erase a) hn'.2 fun x hx => (List.mem_erase_of_ne (fun e => hn'.1 (by rw [← e]; exact hx))).2 (hs x (List.mem_cons_of_mem _ hx))
    have h2 := List.length_erase_of_mem ha
    have h3 := List.length_pos_of_mem ha
    show L.length + 1 ≤ M.length
    omega
theorem map_leF {L M : List Nat} {f : Nat → Nat} (hL : L.Nodup) (hf : ∀ x ∈ L, f x ∈ M ∧ f (f x) = x) : L.length ≤ M.length := by
  have h := nodup_leF (L.map f) M (by
    unfold List.Nodup at hL ⊢
    rw [List.pairwise_map]
    exact hL.imp_of_mem fun {a b} ha hb hab e => hab (by rw [← (hf a ha).2, ← (hf b hb).2, e])) (fun x hx => by
    obtain ⟨y, hy, rfl⟩ := List.mem_map.1 hx
    exact (hf y hy).1)
  rwa [List.length_map] at h
/-- The values with the variable of a literal turned over. -/
def vrF (z : Int) : Nat := (if 0 < z then z - 1 else -z - 1).toNat
def flF (z : Int) (u : Nat → Bool) (i : Nat) : Bool := if i = vrF z then !u i else u i
def fnF (z : Int) (k : Nat) : Nat := numU (flF z (valN k)) 12
theorem fnF_val (z : Int) (k : Nat) {i : Nat} (hi : i < 12) : valN (fnF z k) i = flF z (valN k) i := valN_num _ hi
theorem fnF_lt (z : Int) (k : Nat) : fnF z k < 4096 := numU_lt _ 12
theorem fnF_two (z : Int) {k : Nat} (hk : k < 4096) : fnF z (fnF z k) = k := valN_inj (fnF_lt _ _) hk fun i hi => by
  rw [fnF_val z _ hi]
  unfold flF
  split
  · rw [fnF_val z _ hi]
    unfold flF
    rw [if_pos ‹_›, Bool.not_not]
  · rw [fnF_val z _ hi]
    unfold flF
    rw [if_neg ‹_›]
theorem fl_true {z : Int} (hz : litB z = true) (u : Nat → Bool) : trueP (flF z u) z = !trueP u z := by
  obtain ⟨h0, h1, h2⟩ := litB_iff.1 hz
  unfold trueP flF vrF
  by_cases h : 0 < z
  · simp [h]
  · simp [h]
theorem fl_in {z : Int} (hz : litB z = true) (u : Nat → Bool) (i : Nat) : inV (flF z u) (asg zv0 z) i = inV u (asg zv0 z) i := by
  obtain ⟨h0, h1, h2⟩ := litB_iff.1 hz
  unfold inV asg zv0 flF vrF
  repeat' split
  all_goals first | rfl | omega
theorem in_same {z : Int} {u : Nat → Bool} (hz : litB z = true) (h : trueP u z = true) (i : Nat) : inV u (asg zv0 z) i = u i := by
  obtain ⟨h0, h1, h2⟩ := litB_iff.1 hz
  unfold trueP at h
  unfold inV asg zv0
  by_cases hp : 0 < z
  · rw [if_pos hp] at h
    simp only [hp, if_true]
    by_cases e : i = (z - 1).toNat
    · rw [e, if_pos rfl, if_neg (by omega), h]
      rfl
    · rw [if_neg e, if_pos rfl]
  · rw [if_neg hp] at h
    simp only [hp, if_false]
    by_cases e : i = (-z - 1).toNat
    · rw [e, if_pos rfl, if_neg (by omega)]
      cases hu : u (-z - 1).toNat with
      | false => rfl
      | true => rw [hu] at h; cases h
    · rw [if_neg e, if_pos rfl]
section
variable {n : Nat} {p : Nat → Con} {z : Int}
theorem asg_bd (z : Int) : ∀ i, i < 12 → -1 ≤ asg zv0 z i ∧ asg zv0 z i ≤ 1 := fun i _ => by
  unfold asg zv0
  repeat' split
  all_goals omega
theorem fxl_all9 (hv : allV p n = true) (u : Nat → Bool) : allE (fxlK p z) u n = allE p (inV u (asg zv0 z)) n := fix_allE u hv (asg_bd z)
theorem fxl_qt (hv : allV p n = true) (hz : litB z = true) (k : Nat) : (qS (fxlK p z) n k && trueP (valN k) z) = (qS p n k && trueP (valN k) z) := by
  cases ht : trueP (valN k) z with
  | false => rw [Bool.and_false, Bool.and_false]
  | true =>
    rw [Bool.and_true, Bool.and_true]
    unfold qS
    rw [fxl_all9 hv]
    exact allE_cgF (fun i _ => in_same hz ht i) n hv
theorem fxl_qf (hv : allV p n = true) (hz : litB z = true) (k : Nat) : qS (fxlK p z) n (fnF z k) = qS (fxlK p z) n k := by
  unfold qS
  rw [fxl_all9 hv, fxl_all9 hv]
  refine allE_cgF (fun i hi => ?_) n hv
  rw [← fl_in hz (valN k) i]
  unfold inV
  rw [fnF_val z k hi]
theorem fxl_tf (hz : litB z = true) (k : Nat) : trueP (valN (fnF z k)) z = !trueP (valN k) z := by
  rw [← fl_true hz]
  exact trueP_cgF (fun i hi => fnF_val z k hi) hz
theorem fxl_half (hv : allV p n = true) (hz : litB z = true) (t : Bool) : ((List.range 4096).filter fun k => qS (fxlK p z) n k && (trueP (valN k) z == t)).length ≤ ((List.range 4096).filter fun k => qS (fxlK p z) n k && (trueP (valN k) z == !t)).length := by
  refine map_leF (f := fnF z) (List.Pairwise.filter _ List.nodup_range) fun k hk => ?_
  obtain ⟨h1, h2⟩ := List.mem_filter.1 hk
  have hk' := List.mem_range.1 h1
  refine ⟨List.mem_filter.2 ⟨List.mem_range.2 (fnF_lt _ _), ?_⟩, fnF_two z hk'⟩
  rw [fxl_qf hv hz, fxl_tf hz]
  revert h2
  cases qS (fxlK p z) n k <;> cases trueP (valN k) z <;> cases t <;> simp
/-- Twice as many. -/
theorem fxl_count (h : fxlOk n p z = true) (h4 : n + 1 ≤ 400) : cntS n (fxlK p z) = 2 * cntS (n + 1) (catP n p fun _ => oneC z) := by
  obtain ⟨hz, hv⟩ := fxl_ok h
  have hx : probB n (fxlK p z) = true := fix_prob (m := 12) ((fxl_eq hz).1.trans h)
  have ha := prob_all hv
  rw [cnt_split hx h4 hz]
  have hz' := litB_ng hz
  unfold cntS
  rw [if_pos (one_prob hx h4 hz), if_pos (one_prob hx h4 hz'), if_pos (one_prob hv h4 hz)]
  unfold sols
  rw [solL_none, solL_none, solL_none, show qS (catP n (fxlK p z) fun _ => oneC z) (n + 1) = (fun k => qS (fxlK p z) n k && trueP (valN k) z) from funext fun k => one_qS n _ hz k,
    show qS (catP n (fxlK p z) fun _ => oneC (-z)) (n + 1) = (fun k => qS (fxlK p z) n k && !trueP (valN k) z) from funext fun k => by rw [one_qS n _ hz', trueP_neg hz],
    show qS (catP n p fun _ => oneC z) (n + 1) = (fun k => qS (fxlK p z) n k && trueP (valN k) z) from funext fun k => by rw [one_qS n _ hz, fxl_qt ha hz]]
  have h1 := fxl_half (n := n) (p := p) (z := z) ha hz true
  have h2 := fxl_half (n := n) (p := p) (z := z) ha hz false
  have e1 : (fun k => qS (fxlK p z) n k && (trueP (valN k) z == true)) = (fun k => qS (fxlK p z) n k && trueP (valN k) z) := funext fun k => by cases trueP (valN k) z <;> rfl
  have e2 : (fun k => qS (fxlK p z) n k && (trueP (valN k) z == false)) = (fun k => qS (fxlK p z) n k && !trueP (valN k) z) := funext fun k => by cases trueP (valN k) z <;> rfl
  simp only [Bool.not_true, Bool.not_false] at h1 h2
  rw [e1, e2] at h1 h2
  omega
end
end Go.Proofs.YtbebdhjhlheboaaGreat

namespace Go.Proofs.YtbebdhjhlheboaaGreat
open Go.ChangeShapes Go.WideShapes Go.ChangeAt Go.RowKit

set_option maxRecDepth 100000 in
set_option maxHeartbeats 3200000 in
theorem drawFxlX_any (A : Option Addr) (n cap : Nat) (y : Nat → Int) (w : World) (hm : n ≤ maxLen) (hcap : n ≤ cap) (hr : RdY w w.heap.size A n y) :
    Calls Tryz.prog 5 #[.slice A n cap] w fun e w' => ∃ Al k capl xs lo el z, e = .returned (.tuple #[.slice Al k capl, .int .i64 z]) ∧ k ≤ 16 ∧ -13 ≤ z ∧ z ≤ 13 ∧ PX w' lo el 15 (.slice Al k capl) k xs ∧ Below w.heap.size w w' := by
  go_enter Tryz.func5, Tryz.ntmps5
  go_wp2_with fail
  refine (open_any _ _ _ y _ hm hcap hr).mono ?_
  rintro e w1 ⟨rfl, hb, hrd, hz1⟩
  have HB1 := Lib.hid hb
  have RD1 := Lib.hid hrd
  have RD1lt := hrd.lt
  clear hb hrd hr
  go_wp2_with fail
  refine (hard_any w.heap.size 0 _ (by omega) RD1.out).mono ?_
  rintro e w2 ⟨A2, k2, cap2, xs2, rfl, hk2, _, _, hp, hg, hr⟩
  have HP2 := Lib.hid hp
  have G2 := Lib.hid hg
  have RD2 := Lib.hid hr
  have hz2 : w1.heap.size ≤ w2.heap.size := hg.size
  clear hp hg hr RD1
  go_wp2_with fail
  refine (mutateQ_any w.heap.size (0 + 4000) 12 _ _ _ _ xs2 _ (by omega) (by omega) hk2 RD2.out HP2.out).mono ?_
  rintro e w3 ⟨A3, k3, cap3, xs3, rfl, hk3, _, _, hp, hg, hr⟩
  have HP3 := Lib.hid hp
  have G3 := Lib.hid (G2.out.trans hg)
  have RD3 := Lib.hid hr
  have hz3 : w2.heap.size ≤ w3.heap.size := hg.size
  clear hp hg hr RD2 HP2 G2
  have h1z : w.heap.size < w1.heap.size := RD1lt
  go_wp2_with fail
  have HAl := Lib.hid (bl_alloc (Below.refl w3.heap.size w3) (.cells #[.int .i64 1, .int .i64 (-1), .int .i64 2, .int .i64 (-2), .int .i64 3, .int .i64 (-4), .int .i64 12, .int .i64 0, .int .i64 13] 3))
  refine (num_any w.heap.size (0 + 4000 + 40) w3.heap.size 9 _ _ _ (by omega) (RD3.out.bel HAl.out) (by omega) (heap_alloc_new w3 _) (by rfl) (by omega) (by omega) (lit_all [1, -1, 2, -2, 3, -4, 12, 0, 13])).mono ?_
  rintro e w4 ⟨z, rfl, hz, hg, hr⟩
  obtain ⟨hza, hzb⟩ : -13 ≤ z ∧ z ≤ 13 := by
    simp at hz
    omega
  have G4 := Lib.hid ((G3.out.bel HAl.out).trans hg)
  have HPX := Lib.hid ((HP3.out.bel HAl.out).gr hg (by omega) (by omega))
  clear hz hg hr RD3 HP3 G3
  go_wp2
  go_ret2
  exact ⟨A3, k3, cap3, xs3, _, _, z, rfl, hk3, hza, hzb, HPX.out, gr_bel' HB1.out G4.out (Nat.le_refl _)⟩
end Go.Proofs.YtbebdhjhlheboaaGreat

