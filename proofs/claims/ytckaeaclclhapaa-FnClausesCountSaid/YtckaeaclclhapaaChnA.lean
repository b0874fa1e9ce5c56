/- Walks through sends and receives on a channel with room, in one goroutine: what a piece of code comes to at frames that are not early (no claim of its own). Conditions: as each theorem states. -/
import Derived.Test.YtckaeaclclhapaaProg
import Derived.Conc.LoneCalls
import Derived.WalkKit
namespace Go.Proofs.Ytckaeaclclhapaa
open Go.Conc

section
variable {P : Program} {ops : Array Oper} {Q : Exit → Act → World → Prop} {a : Act} {w : World}

/-- At every frame that is not early the code comes to an exit of which Q holds. -/
def WpN (P : Program) (c : Code) (Q : Exit → Act → World → Prop) (a : Act) (w : World) : Prop :=
  ∀ (b : Frame), b.kind ≠ .early → ∀ (k : List Item) (cs : List Frame), ∃ e a' w', Q e a' w' ∧ Arrives P (lone (b.at a (.code c :: k)) cs w) b k cs e a' w'
/-- The like for the operations of a region that are left. -/
def OpsN (P : Program) (ops : Array Oper) (Q : Exit → Act → World → Prop) (l : List Nat) (a : Act) (w : World) : Prop :=
  ∀ (b : Frame), b.kind ≠ .early → ∀ (k : List Item) (cs : List Frame), ∃ e a' w', Q e a' w' ∧ Arrives P (lone (b.at a (.inRegion ops l :: k)) cs w) b k cs e a' w'

theorem WpN.of {c : Code} (h : c.wp P Q a w) : WpN P c Q a w := fun b _ k cs => h b k cs
theorem WpN.mono {c : Code} {Q' : Exit → Act → World → Prop} (h : WpN P c Q a w) (hq : ∀ e a w, Q e a w → Q' e a w) : WpN P c Q' a w := fun b hb k cs => by
  obtain ⟨e, a', w', q, r⟩ := h b hb k cs
  exact ⟨e, a', w', hq _ _ _ q, r⟩
theorem OpsN.of {l : List Nat} (h : wpOps P ops Q l a w) : OpsN P ops Q l a w := fun b _ k cs => wp_ops l a w h b k cs
theorem WpN.region {id : Nat} (h : OpsN P ops Q (List.range ops.size) a w) : WpN P (.region id ops false) Q a w := fun b hb k cs => by
  obtain ⟨e, a', w', q, r⟩ := h b hb k cs
  exact ⟨e, a', w', q, .of_steps (.one step_region) r⟩
theorem OpsN.nil (h : Q .normal a w) : OpsN P ops Q [] a w := fun _ _ _ _ => ⟨.normal, a, w, h, .one step_region_end⟩

section
variable {i : Nat} {rest : List Nat} {o : Oper} {w' : World}
theorem finish_op (ho : ops[i]? = some o) (b : Frame) (k : List Item) (v : Value) : (b.at a (.inRegion ops (i :: rest) :: k)).finish v = b.at (a.put o.dst v) (.inRegion ops rest :: k) := by
  rw [Frame.finish_at, ho]
  rfl
/-- An operation that yields a value. -/
theorem OpsN.value {v : Value} (ho : ops[i]? = some o) (hw : Region.wanted o (yielded ops a.tmps) = true) (hr : (execOp a.eval o).run P w = .ok (.value v) w')
    (h : OpsN P ops Q rest (a.put o.dst v) w') : OpsN P ops Q (i :: rest) a w := fun b hb k cs => by
  obtain ⟨e, a', w'', hq, harr⟩ := h b hb k cs
  refine ⟨e, a', w'', hq, .of_steps (.one (step_lone_go ?_)) harr⟩
  rw [stepG_op (P := P) (b := b) (k := k) (cs := cs) (w := w) (rest := rest) ho hw, ← finish_op ho]
  simp [stepG.apply, hr]
/-- A send into a channel's buffer with room. -/
theorem OpsN.send {c cap s r : Nat} {buf : Array Value} {v z : Value} {tm : Bool} (ho : ops[i]? = some o) (hw : Region.wanted o (yielded ops a.tmps) = true)
    (hr : (execOp a.eval o).run P w = .ok (.comm #[scase c v z] true .send) w) (hc : w.heap[c]? = some (.chan cap buf false s r tm)) (hroom : buf.size < cap)
    (h : OpsN P ops Q rest (a.put o.dst undef) (w.setChan c cap (buf.push v) false (s + 1) r tm)) : OpsN P ops Q (i :: rest) a w := fun b hb k cs => by
  obtain ⟨e, a', w'', hq, harr⟩ := h b hb k cs
  refine ⟨e, a', w'', hq, .of_steps (.one ?_) harr⟩
  have hs := step_lone_send_room (stepG_comm (main := true) (P := P) (k := k) (cs := cs) (rest := rest) ho hw hb hr) hc hroom
  rw [finish_op ho] at hs
  exact hs
/-- A receive from a channel's buffer that holds something. -/
theorem OpsN.recv {c cap s r : Nat} {buf : Array Value} {z : Value} {tm closed : Bool} (ho : ops[i]? = some o) (hw : Region.wanted o (yielded ops a.tmps) = true)
    (hr : (execOp a.eval o).run P w = .ok (.comm #[rcase c z] true (.recv false)) w) (hc : w.heap[c]? = some (.chan cap buf closed s r tm)) (hsome : 0 < buf.size)
    (h : OpsN P ops Q rest (a.put o.dst (buf.getD 0 undef)) (w.setChan c cap (buf.extract 1 buf.size) closed s (r + 1) tm)) : OpsN P ops Q (i :: rest) a w := fun b hb k cs => by
  obtain ⟨e, a', w'', hq, harr⟩ := h b hb k cs
  refine ⟨e, a', w'', hq, .of_steps (.one ?_) harr⟩
  have hs := step_lone_recv_buf false (stepG_comm (main := true) (P := P) (k := k) (cs := cs) (rest := rest) ho hw hb hr) hc hsome
  rw [finish_op ho] at hs
  exact hs
end

/-! The code around them. -/
theorem pass_other {m m1 : Machine} {b : Frame} {x : Item} {k : List Item} {cs : List Frame} {e : Exit} {a' : Act} {w' : World} (hs : Steps P m m1) (hx : x.plain = true) (he : e ≠ .normal) (h : Arrives P m1 b (x :: k) cs e a' w') : Arrives P m b k cs e a' w' :=
  .of_steps hs (.pass hx (fun _ _ => .inl he) h)
theorem WpN.seq {x y : Code} (h : WpN P x (Exit.then (fun a w => WpN P y Q a w) Q) a w) : WpN P (.seq x y) Q a w := fun b hb k cs => by
  obtain ⟨e, a1, w1, hq, harr⟩ := h b hb (.code y :: k) cs
  cases e
  case normal =>
    obtain ⟨e2, a2, w2, hq2, harr2⟩ := (show WpN P y Q a1 w1 from hq) b hb k cs
    exact ⟨e2, a2, w2, hq2, .of_steps (.head step_seq harr) harr2⟩
  all_goals exact ⟨_, a1, w1, hq, pass_other (x := .code y) (.one step_seq) rfl (fun he => by cases he) harr⟩
theorem WpN.cond {c : Operand} {x y : Code} {t : Bool} (hc : a.eval c = .bool t) (h : WpN P (if t then x else y) Q a w) : WpN P (.cond c x y) Q a w := fun b hb k cs => by
  obtain ⟨e, a', w', q, r⟩ := h b hb k cs
  exact ⟨e, a', w', q, .of_steps (.one (step_cond hc)) r⟩
theorem WpN.block {id : Nat} {c : Code} (h : WpN P c (Exit.inBlock id Q) a w) : WpN P (.block id c) Q a w := fun b hb k cs => by
  obtain ⟨e, a1, w1, hq, harr⟩ := h b hb (.inBlock id :: k) cs
  cases e with
  | normal => exact ⟨.normal, a1, w1, hq, Steps.head step_block (Steps.trans harr (.one step_inBlock))⟩
  | exit id' =>
    by_cases he : id' = id
    · subst he
      exact ⟨.normal, a1, w1, by simpa [Exit.inBlock] using hq, Steps.head step_block (harr k (by simp [exitTo]))⟩
    · have hne : (id == id') = false := by
        rw [beq_eq_false_iff_ne]
        exact fun h => he h.symm
      exact ⟨.exit id', a1, w1, by simpa [Exit.inBlock, he] using hq, fun k' hk => Steps.head step_block (harr k' (by simp [exitTo, hne, hk]))⟩
  | goto l => exact ⟨.goto l, a1, w1, hq, fun k' hk => Steps.head step_block (harr k' (by simp [gotoIn, hk]))⟩
  | ret => exact ⟨.ret, a1, w1, hq, .of_steps (b := b) (k := k) (cs := cs) (e := .ret) (.one step_block) harr⟩
  | panic ch => exact ⟨.panic ch, a1, w1, hq, .of_steps (b := b) (k := k) (cs := cs) (e := .panic ch) (.one step_block) harr⟩
  | outgrown => exact ⟨.outgrown, a1, w1, hq, .of_steps (b := b) (k := k) (cs := cs) (e := .outgrown) (.one step_block) harr⟩
theorem WpN.loop {c : Code} (I : Nat → Act → World → Prop) {m : Nat} (h0 : I m a w)
    (round : ∀ m a w, I m a w → WpN P c (Exit.then (fun a' w' => ∃ m', m' < m ∧ I m' a' w') Q) a w) : WpN P (.loop c) Q a w := fun b hb k cs => by
  have key : ∀ m a w, I m a w → ∃ e a' w', Q e a' w' ∧ Arrives P (lone (b.at a (.code c :: .inLoop c :: k)) cs w) b k cs e a' w' := by
    intro m
    induction m using Nat.strongRecOn with
    | _ m ih =>
      intro a w hI
      obtain ⟨e, a1, w1, hq, harr⟩ := round m a w hI b hb (.inLoop c :: k) cs
      cases e
      case normal =>
        obtain ⟨m', hlt, hI1⟩ := (show ∃ m', m' < m ∧ I m' a1 w1 from hq)
        obtain ⟨e2, a2, w2, hq2, harr2⟩ := ih m' hlt a1 w1 hI1
        exact ⟨e2, a2, w2, hq2, .of_steps (Steps.trans harr (.one step_inLoop)) harr2⟩
      all_goals exact ⟨_, a1, w1, hq, pass_other (x := .inLoop c) (.refl _ _) rfl (fun he => by cases he) harr⟩
  obtain ⟨e, a', w', hq, harr⟩ := key m a w h0
  exact ⟨e, a', w', hq, .of_steps (.one step_loop) harr⟩

theorem WpN.seqK {x y : Code} (h : ∀ K : Act → World → Prop, (∀ a w, WpN P y Q a w → K a w) → x.wp P (Exit.then K Q) a w) : WpN P (.seq x y) Q a w := WpN.seq (.of (h _ fun _ _ h => h))
theorem WpN.seqN {x y : Code} (h : ∀ K : Act → World → Prop, (∀ a w, WpN P y Q a w → K a w) → WpN P x (Exit.then K Q) a w) : WpN P (.seq x y) Q a w := WpN.seq (h _ fun _ _ h => h)
/-- The slots of a frame, put anew. -/
def putS (ts : Array Value) (slots : List Nat) (f : Nat → Value) : Array Value := slots.foldl (fun t k => t.setIfInBounds k (f k)) ts
/-- A loop of whose frame some slots turn: what holds of them, as a function of the slot. -/
theorem WpN.loopS {c : Code} {ts : Array Value} {ds : List Deferred} (slots : List Nat) (R : Nat → (Nat → Value) → World → Prop) {m0 : Nat}
    (h0 : R m0 (fun k => ts.getD k undef) w) (hts : ts = putS ts slots (fun k => ts.getD k undef))
    (round : ∀ m f w', R m f w' → WpN P c (Exit.then (fun a' w'' => ∃ m', m' < m ∧ a' = ⟨putS ts slots (fun k => a'.tmps.getD k undef), ds⟩ ∧ R m' (fun k => a'.tmps.getD k undef) w'') Q) ⟨putS ts slots f, ds⟩ w') :
    WpN P (.loop c) Q ⟨ts, ds⟩ w := by
  refine WpN.loop (fun m a w' => ∃ f, a = ⟨putS ts slots f, ds⟩ ∧ R m f w') (m := m0) ⟨_, by rw [← hts], h0⟩ fun m a w' ⟨f, ha, hR⟩ => ?_
  subst ha
  refine (round m f w' hR).mono fun e a1 w1 hq => ?_
  cases e
  case normal =>
    obtain ⟨m', hlt, ha, hr⟩ := (show ∃ m', m' < m ∧ a1 = ⟨putS ts slots (fun k => a1.tmps.getD k undef), ds⟩ ∧ R m' (fun k => a1.tmps.getD k undef) w1 from hq)
    exact ⟨m', hlt, _, ha, hr⟩
  all_goals exact hq
/-- A function's call, off what its body comes to. -/
theorem calls_of_wpN {f : FuncId} {fn : Func} {c : Code} {args : Array Value} {R : Ending → World → Prop} (hf : P.funcs[f]? = some fn) (hb : fn.body = some c)
    (h : WpN P c (bodyPost P fn R) { tmps := args ++ Array.replicate (fn.ntmps - args.size) undef, defers := [] } w) : Calls P f args w R := fun cs => by
  let b : Frame := { (default : Frame) with fn := f, kind := .normal }
  have henter : Frame.enter P f args .normal = b.at { tmps := args ++ Array.replicate (fn.ntmps - args.size) undef, defers := [] } [.code c] := by
    simp [Frame.enter, Frame.at, hf, hb, b]
  obtain ⟨e, a', w', hq, harr⟩ := h b (by simp [b]) [] cs
  rw [← henter] at harr
  cases e with
  | normal =>
    obtain ⟨hd, v, hr, hR⟩ := hq
    exact ⟨.returned v, w', _, hR, Steps.trans harr (.one step_end), rfl, rfl, hd, rfl, fn, hf, hr⟩
  | ret =>
    obtain ⟨hd, v, hr, hR⟩ := hq
    obtain ⟨todo, hs⟩ := harr
    exact ⟨.returned v, w', _, hR, hs, rfl, rfl, hd, rfl, fn, hf, hr⟩
  | panic chain =>
    obtain ⟨hd, hR⟩ := hq
    obtain ⟨todo, hs⟩ := harr
    exact ⟨.panicked chain, w', _, hR, hs, rfl, rfl, hd, fn, hf⟩
  | exit id => exact hq.elim
  | goto l => exact hq.elim
  | outgrown => exact ⟨.outgrown, w', b, hq, harr.resolve_left (by simp [b]), rfl, trivial⟩
end
end Go.Proofs.Ytckaeaclclhapaa
