/- Copies of a slice of constraints, terms and all (no claim of its own). Conditions: as each theorem states. -/
import Derived.Test.YtnfkhakgikbbeaaSubM
import Derived.Test.YtnfkhakgikbbeaaCpyC
import Derived.Test.YtnfkhakgikbbeaaMkCs
namespace Go.Proofs.Ytnfkhakgikbbeaa
open Go.ChangeShapes Go.WideShapes Go.ChangeAt Go.RowKit

/-- The cells of constraints. -/
def conXs (Af : Nat → Option Addr) (cf : Nat → Nat) (p : Nat → Con) : Nat → List Value
  | 0 => []
  | k + 1 => conXs Af cf p k ++ [.slice (Af k) (p k).n (cf k), .int .i64 (p k).bd]
section
variable {Af : Nat → Option Addr} {cf : Nat → Nat} {p : Nat → Con} {n : Nat}
theorem conXs_len : (conXs Af cf p n).length = n * 2 := by
  induction n with
  | zero => rfl
  | succ n ih => simp [conXs, ih]; omega
theorem conXs_one : ∀ u ∈ conXs Af cf p n, u.oneCell' = true := by
  induction n with
  | zero => intro u hu; cases hu
  | succ n ih =>
    intro u hu
    unfold conXs at hu
    rcases List.mem_append.1 hu with h | h
    · exact ih u h
    · simp at h
      rcases h with rfl | rfl <;> rfl
theorem conXs_at {i : Nat} (hi : i < n) : (conXs Af cf p n)[i * 2]? = some (.slice (Af i) (p i).n (cf i)) ∧ (conXs Af cf p n)[i * 2 + 1]? = some (.int .i64 (p i).bd) := by
  induction n with
  | zero => omega
  | succ n ih =>
    unfold conXs
    by_cases e : i = n
    · subst e
      rw [List.getElem?_append_right (by rw [conXs_len]; omega), List.getElem?_append_right (by rw [conXs_len]; omega), conXs_len]
      refine ⟨?_, ?_⟩
      · rw [Nat.sub_self]; rfl
      · rw [show i * 2 + 1 - i * 2 = 1 by omega]; rfl
    · rw [List.getElem?_append_left (by rw [conXs_len]; omega), List.getElem?_append_left (by rw [conXs_len]; omega)]
      exact ih (by omega)
end
theorem rdpc_cells {w : World} {B : Nat} {A : Option Addr} {n : Nat} {p : Nat → Con} (h : RdPc w B A n p) :
    ∃ Af cf, ∀ j u, (conXs Af cf p n)[j]? = some u → ∃ a, A = some a ∧ w.cell? (a.add j) = some u := by
  rcases Nat.eq_zero_or_pos n with e | e
  · subst e
    exact ⟨fun _ => none, fun _ => 0, fun j u hj => by simp [conXs] at hj⟩
  · obtain ⟨b, off, rfl, _, hc⟩ := h e
    have h1 : ∀ i, ∃ Ai ci, i < n → w.cell? ⟨b, off + i * 2, none⟩ = some (.slice Ai (p i).n ci) ∧ w.cell? ⟨b, off + i * 2 + 1, none⟩ = some (.int .i64 (p i).bd) := fun i => by
      by_cases hi : i < n
      · obtain ⟨Ai, ci, a1, a2, _⟩ := hc i hi
        exact ⟨Ai, ci, fun _ => ⟨a1, a2⟩⟩
      · exact ⟨none, 0, fun h => absurd h hi⟩
    refine ⟨fun i => Classical.choose (h1 i), fun i => Classical.choose (Classical.choose_spec (h1 i)), fun j u hj => ⟨_, rfl, ?_⟩⟩
    have hlt : j < n * 2 := by
      rcases Nat.lt_or_ge j (n * 2) with hlt | hge
      · exact hlt
      · rw [List.getElem?_eq_none (by rw [conXs_len]; exact hge)] at hj; cases hj
    rw [Go.WideShapes.add_plain]
    obtain ⟨i, hi, e⟩ : ∃ i, i < n ∧ (j = i * 2 ∨ j = i * 2 + 1) := ⟨j / 2, by omega, by omega⟩
    have h2 := Classical.choose_spec (Classical.choose_spec (h1 i)) hi
    obtain ⟨c1, c2⟩ := conXs_at (Af := fun i => Classical.choose (h1 i)) (cf := fun i => Classical.choose (Classical.choose_spec (h1 i))) (p := p) hi
    rcases e with e | e
    · subst e
      rw [c1] at hj
      cases hj
      exact h2.1
    · subst e
      rw [c2] at hj
      cases hj
      exact h2.2

theorem wpO_cp {o : Oper} {c : Act} {K : Act → World → Prop} {Q : Exit → Act → World → Prop} {W : World} (s x : Operand) (t e : TypeId)
    (ho : o.op = .call { callee := .builtin .append, args := #[s, x], argTypes := #[t, t] }) (hty : o.type = t) (i : TypeInfo) (z : Value) (size bytes : Nat) (ht : Try.prog.underlying t = some (.slice e)) (hi : Try.prog.info? e = some i) (hz : i.zero = some z)
    (hsize : i.size = size) (hby : i.bytes = bytes) (hzs : z.cells.size = size) (hsz : 0 < size) {B0 : Nat} {v : Value} {n cap : Nat} {a : Addr} {xs : List Value} (hs : c.eval s = v) (hx : c.eval x = .slice (some a) n cap) (hl : xs.length = n * size)
    (hown : W.ownsRow B0 e size v 0 []) (hlt : ∀ j, v.ownBlock = some j → B0 ≤ j) (hc : ∀ j u, xs[j]? = some u → W.cell? (a.add j) = some u) (h1 : ∀ u ∈ xs, u.oneCell' = true) (hm : n ≤ maxLen) (hbytes : n * bytes ≤ 140737488355328) (hB : B0 ≤ W.heap.size)
    (h : ∀ ov w', w'.ownsRow B0 e size ov n xs → Below B0 W w' → K (c.put o.dst ov) w') :
    o.wp Try.prog c W K Q := by
  obtain ⟨v', w', k1, k2, k3, _, _⟩ := run_append_own_at (P := Try.prog) W B0 t t e i z size bytes ht hi hz hsize hby hzs hsz v 0 _ hown a n cap xs hl hc h1 (by omega) (by rw [Nat.zero_add]; exact hbytes) hB
  have hb := (Below.refl B0 W).grown k3 hB hlt
  rw [Nat.zero_add, List.nil_append] at k2
  unfold Oper.wp execOp
  simp only [ho, hty, resolve, invoke, builtin, Sem.run_bind, Sem.run_pure, Result.andThen_ok, List.map_toArray, List.map_cons, List.map_nil, hs, hx, k1]
  exact h v' w' k2 hb

set_option linter.unusedVariables false in
set_option maxRecDepth 100000 in
set_option maxHeartbeats 1600000 in
theorem cloneCo_any (A : Option Addr) (n cap : Nat) (p : Nat → Con) (w : World) (hn : n ≤ 1048576) (hr : RdPc w w.heap.size A n p) :
    Calls Try.prog 40 #[.slice A n cap] w fun e w' => ∃ ov xs, e = .returned ov ∧ w'.ownsRow w.heap.size 39 2 ov n xs ∧ (∀ i, i < n → (∃ u, xs[i * 2]? = some u) ∧ xs[i * 2 + 1]? = some (.int .i64 (p i).bd)) ∧ Below w.heap.size w w' := by
  have qT : ∀ (w : World) (a : Option Addr) (n c n' c' : Nat), (binOp .eql 23 (.slice a n c) (.slice none n' c')).run Try.prog w = .ok (.bool a.isNone) w := fun w a n c n' c' => Lib.run_eql_slice_nil w _ _ a n c n' c' Try.underlying23
  cases A with
  | none =>
    have h0 : n = 0 := by
      rcases Nat.eq_zero_or_pos n with e | e
      · exact e
      · obtain ⟨b, off, ha, _⟩ := hr e
        cases ha
    subst h0
    clear hr
    go_enter Try.func40, Try.ntmps40
    go_wp2
    go_ret
    exact ⟨.slice none 0 0, [], rfl, World.ownsRow_nil _ _ _ _, fun i hi => by omega, Below.refl _ _⟩
  | some a =>
    obtain ⟨i0, hi, hz0, hz1, hz2⟩ := info_parts Try.infoCon
    obtain ⟨Af, cf, hcells⟩ := rdpc_cells hr
    have HI := Lib.hid hi
    have HZ0 := Lib.hid hz0
    have HZ1 := Lib.hid hz1
    have HZ2 := Lib.hid hz2
    have HcA := Lib.hid (show ∀ j u, (conXs Af cf p n)[j]? = some u → (w.alloc (.cells #[] 39)).cell? (a.add j) = some u from fun j u hj => by
      obtain ⟨a', ha, hc⟩ := hcells j u hj
      cases ha
      exact kc (bl_alloc (Below.refl w.heap.size w) (.cells #[] 39)) hc)
    have HR0 := Lib.hid (rowX_new w 39 2)
    clear hr hi hz0 hz1 hz2 hcells
    go_enter Try.func40, Try.ntmps40
    go_wp2_with (at_builtin; refine wpList_plain (by rfl) fun K' hK' => ?_; refine wpO_cp _ _ 23 39 (by rfl) (by rfl) i0 _ 2 32 Try.underlying23 HI.out HZ0.out HZ1.out HZ2.out rfl (by omega) (B0 := w.heap.size) (by rfl) (by rfl) conXs_len HR0.out (by intro j hj; cases hj; exact Nat.le_refl _) HcA.out conXs_one (by unfold maxLen; omega) (by omega) (by simp) ?_; intro ov w7 hov hb7; have Hbx := Lib.hid ((bl_alloc (Below.refl w.heap.size w) (.cells #[] 39)).trans hb7); have Hov := Lib.hid hov; clear hov hb7; refine hK' _ _ ?_; clear hK' K')
    go_ret
    exact ⟨ov, _, rfl, Hov.out, fun i hi => ⟨⟨_, (conXs_at hi).1⟩, (conXs_at hi).2⟩, Hbx.out⟩
/-- A row of n constraints of the call's own: the terms of the first k lie in blocks of their own. -/
structure HalfC (w : World) (B hi : Nat) (ov : Value) (n k : Nat) (xs : List Value) (p : Nat → Con) (f : Nat → Nat) : Prop where
  own : w.ownsRow B 39 2 ov n xs
  rest : ∀ i, i < n → (∃ u, xs[i * 2]? = some u) ∧ xs[i * 2 + 1]? = some (.int .i64 (p i).bd)
  els : ∀ i, i < k → ∃ Ai ci, xs[i * 2]? = some (.slice Ai (p i).n ci) ∧ ((p i).n = 0 ∨ (Ai = some ⟨f i, 0, none⟩ ∧ B ≤ f i ∧ f i < hi ∧ OwnU w (f i) (p i).n (p i).n (p i).c (p i).l))
  inj : ∀ i j, i < k → j < k → (p i).n ≠ 0 → (p j).n ≠ 0 → i ≠ j → f i ≠ f j
section
variable {w W w' : World} {B hi hi' n k : Nat} {ov : Value} {xs : List Value} {p : Nat → Con} {f : Nat → Nat}
theorem HalfC.fin (h : HalfC w B hi ov n n xs p f) : GrwC w B hi ov n xs p f :=
  ⟨h.own, h.own.1, fun i hi => by
    obtain ⟨Ai, ci, h1, h2⟩ := h.els i hi
    exact ⟨Ai, ci, h1, (h.rest i hi).2, h2⟩, h.inj⟩
theorem HalfC.form (h : HalfC w B hi ov n k xs p f) (hn : 0 < n) : ∃ g cap cur, ov = .slice (some ⟨g, 0, none⟩) n cap ∧ B ≤ g ∧ w.heap[g]? = some (.cells cur 39 (0, 0)) ∧ cur.toList.take (n * 2) = xs := by
  rcases h.own.2 with ⟨_, h0⟩ | ⟨g, cap, cur, e, hg, hh, _, _, _, ht⟩
  · omega
  · exact ⟨g, cap, cur, e, hg, hh, ht⟩
/-- The terms of the next constraint are laid anew, in a block of their own from hi on. -/
theorem HalfC.next (h : HalfC w B hi ov n k xs p f) (hb : Below w.heap.size w W) (hk : k < n) {g cap : Nat} (hov : ov = .slice (some ⟨g, 0, none⟩) n cap) (hB : B ≤ hi) (hhi : hi ≤ w.heap.size) {A : Option Addr} {ci : Nat} (hel : Frs W w.heap.size A (p k).n (p k).c (p k).l) :
    ∃ xs' f', HalfC (W.setCell ⟨g, k * 2, none⟩ (.slice A (p k).n ci)) B W.heap.size ov n (k + 1) xs' p f' := by
  have htyp : ∀ {G m : Nat} {c l : Nat → Int} {cur : Array Value}, OwnU W G m m c l → W.heap[g]? = some (.cells cur 39 (0, 0)) → G ≠ g := fun hu hh e => by
    obtain ⟨cs, h3, _⟩ := hu
    rw [e, hh] at h3
    injection h3 with h3
    injection h3 with _ h4 _
    exact absurd h4 (by decide)
  rcases h.own.2 with ⟨_, h0⟩ | ⟨g', cap', cur, e, hg, hh, hnc, hcm, hsz, htk⟩
  · omega
  · rw [hov] at e
    cases e
    have hW : W.heap[g]? = some (.cells cur 39 (0, 0)) := (hb.block g (block_lt hh)).trans hh
    have hset : (W.setCell ⟨g, k * 2, none⟩ (.slice A (p k).n ci)).heap[g]? = some (.cells (cur.setIfInBounds (k * 2) (.slice A (p k).n ci)) 39 (0, 0)) := by
      simp [World.setCell, Array.getElem?_modify, hW]
    have hxl := h.own.1
    obtain ⟨g1, hg1⟩ : ∃ g1, (p k).n = 0 ∨ (A = some ⟨g1, 0, none⟩ ∧ w.heap.size ≤ g1 ∧ OwnU W g1 (p k).n (p k).n (p k).c (p k).l) := by
      rcases hel with e | ⟨G, e, h1, h2⟩
      · exact ⟨0, .inl e⟩
      · exact ⟨G, .inr ⟨e, h1, h2⟩⟩
    have hfar : ∀ {G m : Nat} {c l : Nat → Int}, OwnU W G m m c l → OwnU (W.setCell ⟨g, k * 2, none⟩ (.slice A (p k).n ci)) G m m c l := fun hu => hu.at_ (Below.heap_setCell W ⟨g, k * 2, none⟩ _ _ (htyp hu hW))
    have hold : ∀ i, i < k → (p i).n ≠ 0 → f i < hi := fun i hi1 hz => by
      obtain ⟨_, _, _, h3⟩ := h.els i hi1
      rcases h3 with e | ⟨_, _, c, _⟩
      · exact absurd e hz
      · exact c
    have hws := hb.size
    refine ⟨xs.set (k * 2) (.slice A (p k).n ci), fun i => if i = k then g1 else f i, ⟨⟨by rw [List.length_set]; exact hxl, .inr ⟨g, cap, _, hov, hg, hset, hnc, hcm, by simpa using hsz, ?_⟩⟩, fun i hi1 => ?_, fun i hi1 => ?_, fun i j hi1 hj1 hz1 hz2 hne => ?_⟩⟩
    · rw [Array.toList_setIfInBounds, List.take_set, htk]
    · obtain ⟨⟨u, hu⟩, h2⟩ := h.rest i hi1
      refine ⟨?_, by rw [List.getElem?_set_ne (by omega)]; exact h2⟩
      by_cases e : i = k
      · subst e
        exact ⟨_, List.getElem?_set_self (by omega)⟩
      · exact ⟨u, by rw [List.getElem?_set_ne (by omega)]; exact hu⟩
    · by_cases e : i = k
      · subst e
        refine ⟨A, ci, List.getElem?_set_self (by omega), ?_⟩
        rcases hg1 with e | ⟨a1, a2, a3⟩
        · exact .inl e
        · exact .inr ⟨by rw [if_pos rfl]; exact a1, by rw [if_pos rfl]; omega, by rw [if_pos rfl]; exact a3.lt, by rw [if_pos rfl]; exact hfar a3⟩
      · obtain ⟨Ai, ci', h1, h3⟩ := h.els i (by omega)
        refine ⟨Ai, ci', by rw [List.getElem?_set_ne (by omega)]; exact h1, ?_⟩
        simp only [if_neg e]
        rcases h3 with e3 | ⟨a1, a2, a3, a4⟩
        · exact .inl e3
        · exact .inr ⟨a1, a2, by omega, hfar (a4.below hb)⟩
    · have hnew1 : (p k).n ≠ 0 → hi ≤ g1 := fun hz => by
        rcases hg1 with e | ⟨_, a2, _⟩
        · exact absurd e hz
        · omega
      show (if i = k then g1 else f i) ≠ (if j = k then g1 else f j)
      by_cases e : i = k
      · have e2 : j ≠ k := fun e' => hne (by omega)
        rw [if_pos e, if_neg e2]
        have h1 := hold j (by omega) hz2
        have h2 := hnew1 (by rw [← e]; exact hz1)
        omega
      · by_cases e2 : j = k
        · rw [if_pos e2, if_neg e]
          have h1 := hold i (by omega) hz1
          have h2 := hnew1 (by rw [← e2]; exact hz2)
          omega
        · rw [if_neg e, if_neg e2]
          exact h.inj i j (by omega) (by omega) hz1 hz2 hne
end

set_option linter.unusedVariables false in
set_option maxRecDepth 100000 in
set_option maxHeartbeats 3200000 in
theorem copied_any (A : Option Addr) (n cap : Nat) (p : Nat → Con) (w : World) (hn : n ≤ 10000) (hn' : ∀ i, i < n → (p i).n ≤ 1048576) (hr : RdPc w w.heap.size A n p) :
    Calls Try.prog 21 #[.slice A n cap] w fun e w' => ∃ ov xs f, e = .returned ov ∧ GrwC w' w.heap.size w'.heap.size ov n xs p f ∧ Below w.heap.size w w' := by
  have HN := Lib.hid hn'
  have HR := Lib.hid hr
  clear hn' hr
  go_enter Try.func21, Try.ntmps21
  go_wp2_with fail
  refine (cloneCo_any A n cap p _ (by omega) HR.out).mono ?_
  rintro e w1 ⟨ov, xs0, rfl, hown, hrest, hb⟩
  have HH := Lib.hid (show HalfC w1 w.heap.size w1.heap.size ov n 0 xs0 p (fun _ => 0) from ⟨hown, hrest, fun i hi => by omega, fun i j hi => by omega⟩)
  have HB1 := Lib.hid hb
  clear hown hrest hb
  go_wp2
  go_loopw [10] (fun i wr => ∃ (k hi : Nat) (xs : List Value) (f : Nat → Nat), k ≤ n ∧ i = .int .i64 k ∧ HalfC wr w.heap.size hi ov n k xs p f ∧ w.heap.size ≤ hi ∧ hi ≤ wr.heap.size ∧ Below w.heap.size w wr) (fun i _ => n - (intOf i).toNat)
  case atStart => exact ⟨0, w1.heap.size, xs0, fun _ => 0, Nat.zero_le _, rfl, HH.out, HB1.out.size, Nat.le_refl _, HB1.out⟩
  case round =>
    obtain ⟨k, hi, xs, f, hk, rfl, hg, h1, h2, hb⟩ := hrel
    have HG := Lib.hid hg
    have HB := Lib.hid hb
    clear hg hb HH HB1
    by_cases hlt : k < n
    · obtain ⟨b, off, rfl, _, hc⟩ := (HR.out.later HB.out) (by omega)
      obtain ⟨Ai, ci, hx0, hx1, hrq, hcq⟩ := hc k hlt
      obtain ⟨g, capg, cur, rfl, hgg, hgh, hgt⟩ := HG.out.form (by omega)
      have hq := HN.out k hlt
      have hlen := HG.out.own.1
      have HRQ := Lib.hid hrq
      have hkI : (k : Int) < (n : Int) := by omega
      have hk0 : (0 : Int) ≤ (k : Int) := by omega
      have HAl := Lib.hid (bl_alloc (Below.refl wr.heap.size wr) (.cells #[.slice Ai (p k).n ci, .int .i64 (p k).bd] 39))
      have HGb := Lib.hid hgh
      obtain ⟨u, hu⟩ := (HG.out.rest k hlt).1
      have hcu : cur[k * 2]? = some u := by
        rw [← hgt, List.getElem?_take_of_lt (by omega)] at hu
        simpa using hu
      have HCu := Lib.hid hcu
      clear hc hrq hcq hgh hgt hlen hu hcu
      go_wp2_with fail
      refine (clone_any Ai _ ci _ _ _ hq (HRQ.out.later HAl.out)).mono ?_
      rintro e w2 ⟨A2, cap2, rfl, hF, hb2⟩
      have HB2 := Lib.hid (bl_trans HAl.out hb2)
      have hgh2 := (HB2.out.block g (block_lt HGb.out)).trans HGb.out
      have y0 : w2.cell? ⟨g, k * 2, none⟩ = some u := (cell_of_row w2 g _ cur _ _ hgh2).trans HCu.out
      have f0 : w2.frozen? ⟨g, k * 2, none⟩ = false := by simp [World.frozen?, hgh2]
      obtain ⟨xs', f', hn⟩ := HG.out.next (ci := cap2) HB2.out hlt rfl h1 h2 (hF.more (by simp))
      have HN2 := Lib.hid hn
      have HB3 := Lib.hid ((bl_trans HB.out HB2.out).setCell (p := ⟨g, k * 2, none⟩) hgg (.slice A2 (p k).n cap2))
      have hs2 : w.heap.size ≤ w2.heap.size := Nat.le_trans (Nat.le_trans h1 h2) HB2.out.size
      have hs3 : w2.heap.size ≤ (w2.setCell ⟨g, k * 2, none⟩ (.slice A2 (p k).n cap2)).heap.size := by simp [World.setCell]
      have HS3 := Lib.hid hs3
      clear hF hb2 hn HG HB HB2 hgh2 hx0 hx1 HAl HRQ hs3
      go_wp2
      go_roundw
      case rel => exact ⟨k + 1, w2.heap.size, xs', f', by omega, by go_num, HN2.out, hs2, HS3.out, HB3.out⟩
      case measure => simp [intOf]; omega
    · have e : k = n := by omega
      subst e
      have HF := Lib.hid (HG.out.fin)
      have HU : GrwC wr w.heap.size wr.heap.size ov k xs p f := ⟨HF.out.own, HF.out.len, fun i hi0 => by
        obtain ⟨Ai, ci, a1, a2, a3⟩ := HF.out.els i hi0
        exact ⟨Ai, ci, a1, a2, a3.imp id fun ⟨b1, b2, b3, b4⟩ => ⟨b1, b2, by omega, b4⟩⟩, HF.out.inj⟩
      have HV := Lib.hid HU
      clear HF HU HG
      go_wp2
      go_ret
      exact ⟨ov, xs, f, rfl, HV.out, HB.out⟩
end Go.Proofs.Ytnfkhakgikbbeaa
