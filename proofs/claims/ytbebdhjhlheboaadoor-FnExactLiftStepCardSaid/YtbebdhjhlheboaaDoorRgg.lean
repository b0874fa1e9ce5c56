/- Regions that draw their order, whose operations may have guards (no claim of its own). Conditions: as each theorem states. -/
import Derived.Test.YtbebdhjhlheboaaDoorRgt
namespace Go.Proofs.YtbebdhjhlheboaaDoor
open Go.ChangeShapes Go.WideShapes Go.ChangeAt Go.RowKit

/-- Steps of a region whose operations may have guards. -/
def StepsG (P : Program) (ops : Array Oper) (Q : Exit → Act → World → Prop) (I : (Nat → Bool) → Act → World → Prop) (l : List (List Nat)) : Nat → List Oper → Prop
  | _, [] => True
  | i, o :: os => (∀ L : Nat → Bool, L i = false → (∀ k, k ∈ l.getD i [] → L k = true) → (∀ j k, k ∈ l.getD j [] → L j = true → L k = true) → ∀ a w, I L a w → ∀ K' : Act → World → Prop, (∀ a' w', I (updL L i) a' w' → K' a' w') → if Region.wanted o (yielded ops a.tmps) = true then Oper.wp P o a w K' Q else K' (a.put o.dst undef) w) ∧ StepsG P ops Q I l (i + 1) os
theorem StepsG.at_ {P : Program} {ops : Array Oper} {Q : Exit → Act → World → Prop} {I : (Nat → Bool) → Act → World → Prop} {l : List (List Nat)} {os : List Oper} : ∀ {i0 : Nat}, StepsG P ops Q I l i0 os → ∀ {j : Nat} {o : Oper}, os[j]? = some o →
    ∀ L : Nat → Bool, L (i0 + j) = false → (∀ k, k ∈ l.getD (i0 + j) [] → L k = true) → (∀ j k, k ∈ l.getD j [] → L j = true → L k = true) → ∀ a w, I L a w → ∀ K' : Act → World → Prop, (∀ a' w', I (updL L (i0 + j)) a' w' → K' a' w') → if Region.wanted o (yielded ops a.tmps) = true then Oper.wp P o a w K' Q else K' (a.put o.dst undef) w := by
  induction os with
  | nil => intro i0 _ j o ho; simp at ho
  | cons o' os ih =>
    intro i0 h j o ho
    cases j with
    | zero =>
      simp only [List.getElem?_cons_zero, Option.some.injEq] at ho
      subst ho
      exact h.1
    | succ j =>
      simp only [List.getElem?_cons_succ] at ho
      have := ih h.2 ho
      rw [show i0 + 1 + j = i0 + (j + 1) by omega] at this
      exact this
/-- The edges that are told stand in the text. -/
def edgesOk3 (l : List (List Nat)) (ops : List Oper) : Bool := decide (l.length ≤ ops.length) && (List.range ops.length).all fun i => match ops[i]? with
  | some o => (o.after.toList.all (fun e => !Region.binds .any e || decide (e.on < i)) && (l.getD i []).all fun k => o.after.toList.any fun e => e.on == k && Region.binds .any e)
  | none => true
theorem region_steps3 {P : Program} {id : Nat} {ops : List Oper} {Q : Exit → Act → World → Prop} {a : Act} {w : World} (J : Act → (Nat → Bool) → Act → World → Prop) (l : List (List Nat)) (hmix : P.follows .mixedOrders = true) (hok : edgesOk3 l ops = true)
    (h0 : ∀ L : Nat → Bool, (∀ i, i < ops.length → L i = false) → J a L a w.drew)
    (hs : StepsG P ops.toArray Q (J a) l 0 ops)
    (hend : ∀ L : Nat → Bool, (∀ i, L i = true) → ∀ a' w', J a L a' w' → Q .normal a' w') :
    (Code.region id ops.toArray true).wp P Q a w := by
  unfold edgesOk3 at hok
  rw [Bool.and_eq_true] at hok
  have hlen := of_decide_eq_true hok.1
  have hall : ∀ (i : Nat) (o : Oper), ops[i]? = some o → (∀ e : Edge, e ∈ o.after → Region.binds .any e = true → e.on < i) ∧ ∀ k, k ∈ l.getD i [] → ∃ e : Edge, e ∈ o.after ∧ e.on = k ∧ Region.binds .any e = true := by
    intro i o ho
    have hi : i < ops.length := (List.getElem?_eq_some_iff.1 ho).1
    have := List.all_eq_true.1 hok.2 i (List.mem_range.2 hi)
    rw [ho] at this
    simp only [Bool.and_eq_true] at this
    obtain ⟨h2, h3⟩ := this
    refine ⟨fun e he hb => ?_, fun k hk => ?_⟩
    · have := List.all_eq_true.1 h2 e (by simpa using he)
      rw [hb] at this
      simpa using this
    · obtain ⟨e, he, h4⟩ := List.any_eq_true.1 (List.all_eq_true.1 h3 k hk)
      rw [Bool.and_eq_true, beq_iff_eq] at h4
      exact ⟨e, by simpa using he, h4.1, h4.2⟩
  refine region_inv2 hmix (fun L a' w' => J a L a' w' ∧ ∀ j k, k ∈ l.getD j [] → L j = true → L k = true) (fun i o ho => (hall i o (by simpa using ho)).1) (fun L hL => ⟨h0 L (fun i hi => hL i (by simpa using hi)), fun j k hk hj => ?_⟩) (fun L a' w' hL hI => hend L hL a' w' hI.1) ?_
  · by_cases hlt : j < ops.length
    · rw [hL j (by simpa using hlt)] at hj; cases hj
    · rw [List.getD_eq_getElem?_getD, List.getElem?_eq_none (by omega)] at hk
      simp at hk
  · intro L i o ho hLi hd a' w' hI K' hK'
    have ho' : ops[i]? = some o := by simpa using ho
    obtain ⟨_, he⟩ := hall i o ho'
    have hdl : ∀ k, k ∈ l.getD i [] → L k = true := fun k hk => by
      obtain ⟨e, h1, h2, h3⟩ := he k hk
      rw [← h2]
      exact hd e h1 h3
    have := hs.at_ ho' L (by rw [Nat.zero_add]; exact hLi) (by rw [Nat.zero_add]; exact hdl) hI.2 a' w' hI.1 K'
    rw [Nat.zero_add] at this
    refine this fun a2 w2 h2 => hK' a2 w2 ⟨h2, fun j k hk hj => ?_⟩
    have hup : ∀ k, L k = true → updL L i k = true := fun k hk => by
      unfold updL
      split
      · rfl
      · exact hk
    by_cases e : j = i
    · subst e; exact hup k (hdl k hk)
    · refine hup k (hI.2 j k hk ?_)
      unfold updL at hj
      rwa [if_neg e] at hj
end Go.Proofs.YtbebdhjhlheboaaDoor
