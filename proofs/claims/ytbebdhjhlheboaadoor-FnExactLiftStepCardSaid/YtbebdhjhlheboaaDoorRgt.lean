/- A region that draws its order, operation by operation; edges that do not bind may point ahead (no claim of its own). Conditions: as each theorem states. -/
import Derived.Test.YtbebdhjhlheboaaDoorRgA
namespace Go.Proofs.YtbebdhjhlheboaaDoor
open Go.ChangeShapes Go.WideShapes Go.ChangeAt Go.RowKit

theorem all_listed2 {md : Region.Mode} {ops : Array Oper} {listed : Array Bool} (hs : listed.size = ops.size) (hac : ∀ (i : Nat) (o : Oper), ops[i]? = some o → ∀ e : Edge, e ∈ o.after → Region.binds md e = true → e.on < i) (hr : Region.ready md ops listed = []) : ∀ i, listed.getD i true = true := by
  intro i
  induction i using Nat.strongRecOn with
  | ind i ih =>
    by_cases hlt : i < ops.size
    · cases hb : listed.getD i true with
      | true => rfl
      | false =>
        exfalso
        have hm : i ∈ Region.ready md ops listed := by
          unfold Region.ready
          refine List.mem_filter.2 ⟨List.mem_range.2 hlt, ?_⟩
          have ho : ops[i]? = some ops[i] := Array.getElem?_eq_getElem hlt
          simp only [Bool.and_eq_true, Bool.not_eq_true', hb, true_and]
          rw [ho]
          simp only [Option.map_some, Option.getD_some]
          rw [Array.all_eq_true_iff_forall_mem]
          intro e he
          cases hbd : Region.binds md e with
          | false => simp
          | true =>
            have h1 := ih e.on (hac i _ ho e he hbd)
            have h2 : e.on < listed.size := by have := hac i _ ho e he hbd; omega
            have h3 : listed.getD e.on false = true := by
              simp [Array.getD, h2] at h1 ⊢
              exact h1
            rw [h3]; simp
        rw [hr] at hm
        cases hm
    · simp [Array.getD, show ¬ i < listed.size by omega]

/-- A region that draws its order: an invariant over what has run. -/
theorem region_inv2 {P : Program} {id : Nat} {ops : Array Oper} {Q : Exit → Act → World → Prop} {a : Act} {w : World} (hmix : P.follows .mixedOrders = true) (I : (Nat → Bool) → Act → World → Prop)
    (hac : ∀ (i : Nat) (o : Oper), ops[i]? = some o → ∀ e : Edge, e ∈ o.after → Region.binds .any e = true → e.on < i)
    (h0 : ∀ L : Nat → Bool, (∀ i, i < ops.size → L i = false) → I L a w.drew)
    (hend : ∀ (L : Nat → Bool) a w, (∀ i, L i = true) → I L a w → Q .normal a w)
    (hstep : ∀ (L : Nat → Bool) (i : Nat) (o : Oper), ops[i]? = some o → L i = false → (∀ e : Edge, e ∈ o.after → Region.binds .any e = true → L e.on = true) → ∀ a w, I L a w → ∀ K' : Act → World → Prop, (∀ a' w', I (updL L i) a' w' → K' a' w') → if Region.wanted o (yielded ops a.tmps) = true then Oper.wp P o a w K' Q else K' (a.put o.dst undef) w) :
    (Code.region id ops true).wp P Q a w := by
  refine wp_region_any hmix ?_
  have key : ∀ (fuel : Nat) (listed : Array Bool) (a : Act) (w : World), listed.size = ops.size → leftO listed ≤ fuel → I (fun j => listed.getD j true) a w → wpAny P .any ops Q fuel listed a w := by
    intro fuel
    induction fuel with
    | zero =>
      intro listed a w hs hl hI
      have hr := leftO_zero (md := .any) (ops := ops) (listed := listed) (by omega)
      exact ⟨hr, hend _ a w (all_listed2 hs hac hr) hI⟩
    | succ fuel ih =>
      intro listed a w hs hl hI
      refine ⟨fun hr => hend _ a w (all_listed2 hs hac hr) hI, fun i hi => ?_⟩
      unfold Region.ready at hi
      obtain ⟨hi1, hi2⟩ := List.mem_filter.1 hi
      have hlt := List.mem_range.1 hi1
      have ho : ops[i]? = some ops[i] := Array.getElem?_eq_getElem hlt
      simp only [Bool.and_eq_true, Bool.not_eq_true'] at hi2
      obtain ⟨hu, hd⟩ := hi2
      rw [ho] at hd
      simp only [Option.map_some, Option.getD_some] at hd
      rw [Array.all_eq_true_iff_forall_mem] at hd
      refine wpOp_step ho fun K' hK' => hstep (fun j => listed.getD j true) i _ ho hu (fun e he hb => ?_) a w hI K' fun a' w' hI' => hK' a' w' (ih _ a' w' (by simp [hs]) (by have := leftO_set hu; omega) ?_)
      · have h1 := hd e he
        rw [hb] at h1
        simp only [Bool.not_true, Bool.false_or] at h1
        have h2 : e.on < listed.size := by have := hac i _ ho e he hb; omega
        simp [Array.getD, h2] at h1 ⊢
        exact h1
      · have e : (fun j => (listed.setIfInBounds i true).getD j true) = updL (fun j => listed.getD j true) i := funext fun j => getD_set
        rw [e]; exact hI'
  refine key _ _ _ _ (by simp) ?_ ?_
  · unfold leftO
    refine Nat.le_trans List.countP_le_length ?_
    simp
  · exact h0 _ fun i hi => by simp [Array.getD, hi]
/-- The edges that are told stand in the text. -/
def edgesOk2 (l : List (List Nat)) (ops : List Oper) : Bool := decide (l.length ≤ ops.length) && (List.range ops.length).all fun i => match ops[i]? with
  | some o => o.guard.isNone && (o.after.toList.all (fun e => !Region.binds .any e || decide (e.on < i)) && (l.getD i []).all fun k => o.after.toList.any fun e => e.on == k && Region.binds .any e)
  | none => true
theorem region_steps2 {P : Program} {id : Nat} {ops : List Oper} {Q : Exit → Act → World → Prop} {a : Act} {w : World} (J : Act → (Nat → Bool) → Act → World → Prop) (l : List (List Nat)) (hmix : P.follows .mixedOrders = true) (hok : edgesOk2 l ops = true)
    (h0 : ∀ L : Nat → Bool, (∀ i, i < ops.length → L i = false) → J a L a w.drew)
    (hs : StepsI P Q (J a) l 0 ops)
    (hend : ∀ L : Nat → Bool, (∀ i, L i = true) → ∀ a' w', J a L a' w' → Q .normal a' w') :
    (Code.region id ops.toArray true).wp P Q a w := by
  unfold edgesOk2 at hok
  rw [Bool.and_eq_true] at hok
  have hlen := of_decide_eq_true hok.1
  have hall : ∀ (i : Nat) (o : Oper), ops[i]? = some o → o.guard = none ∧ (∀ e : Edge, e ∈ o.after → Region.binds .any e = true → e.on < i) ∧ ∀ k, k ∈ l.getD i [] → ∃ e : Edge, e ∈ o.after ∧ e.on = k ∧ Region.binds .any e = true := by
    intro i o ho
    have hi : i < ops.length := (List.getElem?_eq_some_iff.1 ho).1
    have := List.all_eq_true.1 hok.2 i (List.mem_range.2 hi)
    rw [ho] at this
    simp only [Bool.and_eq_true] at this
    obtain ⟨h1, h2, h3⟩ := this
    have h1' : o.guard = none := by
      cases hg : o.guard with
      | none => rfl
      | some x => rw [hg] at h1; cases h1
    refine ⟨h1', fun e he hb => ?_, fun k hk => ?_⟩
    · have := List.all_eq_true.1 h2 e (by simpa using he)
      rw [hb] at this
      simpa using this
    · obtain ⟨e, he, h4⟩ := List.any_eq_true.1 (List.all_eq_true.1 h3 k hk)
      rw [Bool.and_eq_true, beq_iff_eq] at h4
      exact ⟨e, by simpa using he, h4.1, h4.2⟩
  refine region_inv2 hmix (fun L a' w' => J a L a' w' ∧ ∀ j k, k ∈ l.getD j [] → L j = true → L k = true) (fun i o ho => (hall i o (by simpa using ho)).2.1) (fun L hL => ⟨h0 L (fun i hi => hL i (by simpa using hi)), fun j k hk hj => ?_⟩) (fun L a' w' hL hI => hend L hL a' w' hI.1) ?_
  · by_cases hlt : j < ops.length
    · rw [hL j (by simpa using hlt)] at hj; cases hj
    · rw [List.getD_eq_getElem?_getD, List.getElem?_eq_none (by omega)] at hk
      simp at hk
  · intro L i o ho hLi hd a' w' hI K' hK'
    have ho' : ops[i]? = some o := by simpa using ho
    obtain ⟨hg, _, he⟩ := hall i o ho'
    rw [if_pos (by unfold Region.wanted; rw [hg])]
    have hdl : ∀ k, k ∈ l.getD i [] → L k = true := fun k hk => by
      obtain ⟨e, h1, h2, h3⟩ := he k hk
      rw [← h2]
      exact hd e h1 h3
    have := hs.at_ ho' L (by rw [Nat.zero_add]; exact hLi) (by rw [Nat.zero_add]; exact hdl) hI.2 a' w' hI.1 K'
    rw [Nat.zero_add] at this
    refine this fun a2 w2 h2 => hK' a2 w2 ⟨h2, fun j k hk hj => ?_⟩
    have hup : ∀ k, L k = true → updL L i k = true := fun k hk => by
      unfold updL
      split
      · rfl
      · exact hk
    by_cases e : j = i
    · subst e; exact hup k (hdl k hk)
    · refine hup k (hI.2 j k hk ?_)
      unfold updL at hj
      rwa [if_neg e] at hj
end Go.Proofs.YtbebdhjhlheboaaDoor
