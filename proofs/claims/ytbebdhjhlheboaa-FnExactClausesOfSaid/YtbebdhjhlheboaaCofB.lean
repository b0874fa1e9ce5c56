/- Contracts of the program's ClausesOf (no claim of its own). Conditions: as each theorem states. -/
import Derived.Test.YtbebdhjhlheboaaCofA
import Derived.Deep.RegionHeld3
import Derived.Deep.DeepCutAuto
import Derived.Deep.CutBlock
namespace Go.Proofs.Ytbebdhjhlheboaa
open Go.ChangeShapes Go.WideShapes Go.ChangeAt Go.RowKit Go.Shelf

theorem pk_coef9 {c l : Nat → Int} {q : Nat → Bool} {n : Nat} (h : ∀ i, i < n → 1 ≤ c i ∧ c i ≤ 1000) : ∀ i, i < (pkR c l q n).length → 1 ≤ pkC (pkR c l q n) i ∧ pkC (pkR c l q n) i ≤ 1000 := fun i hi => by
  obtain ⟨j, hj, _, ej⟩ := pk_from (c := c) (l := l) (q := q) (n := n) ((pkR c l q n).getD i (0, 0)) (by
    rw [List.getD_eq_getElem?_getD, List.getElem?_eq_getElem hi]
    exact List.getElem_mem _)
  have e : pkC (pkR c l q n) i = c j := by unfold pkC; rw [ej]
  rw [e]
  exact h j hj
theorem bits_odd8 : ∀ a b : Fin 64, (bits .and .u64 ((a.val * 64 + b.val : Nat) : Int) 1 == 1) = ((a.val * 64 + b.val) % 2 == 1) := by decide +kernel
theorem bits_J8 {j k : Nat} (h : j < 4096) : (bits .and .u64 ((j : Int) / 2 ^ k) 1 == 1) = bitJ j k := by
  have h1 : ((j : Int) / 2 ^ k) = ((j / 2 ^ k : Nat) : Int) := by simp
  have h2 : j / 2 ^ k < 4096 := Nat.lt_of_le_of_lt (Nat.div_le_self _ _) h
  rw [h1]
  have h3 := bits_odd8 ⟨j / 2 ^ k / 64, by omega⟩ ⟨j / 2 ^ k % 64, by omega⟩
  have h4 : j / 2 ^ k / 64 * 64 + j / 2 ^ k % 64 = j / 2 ^ k := by omega
  simp only [h4] at h3
  exact h3

theorem rcells_len9 (R : List (Int × Int)) : (rcells R).length = R.length * 2 := by
  induction R with
  | nil => rfl
  | cons x R ih =>
    show ((rcells [x]) ++ rcells R).length = _
    rw [List.length_append, ih]
    simp [rcells]
    omega
theorem rcells_at9 (R : List (Int × Int)) : ∀ i, i < R.length → (rcells R)[i * 2]? = some (.int .i64 (pkC R i)) ∧ (rcells R)[i * 2 + 1]? = some (.int .i64 (pkL R i)) := by
  induction R with
  | nil => intro i hi; cases hi
  | cons x R ih =>
    intro i hi
    cases i with
    | zero => exact ⟨rfl, rfl⟩
    | succ i =>
      obtain ⟨h1, h2⟩ := ih i (by simpa using hi)
      have e : rcells (x :: R) = .int .i64 x.1 :: .int .i64 x.2 :: rcells R := rfl
      rw [e, show (i + 1) * 2 = i * 2 + 1 + 1 by omega, List.getElem?_cons_succ, List.getElem?_cons_succ, show i * 2 + 1 + 1 + 1 = (i * 2 + 1) + 1 + 1 by omega, List.getElem?_cons_succ, List.getElem?_cons_succ]
      exact ⟨h1, h2⟩
theorem frs_of_row9 {w : World} {B : Nat} {ov : Value} {R : List (Int × Int)} (h : w.ownsRow B 114 2 ov R.length (rcells R)) : ∃ A cap, ov = .slice A R.length cap ∧ Frs w B A R.length (pkC R) (pkL R) := by
  rcases h.2 with ⟨e, h0⟩ | ⟨g, cap, cur, e, hg, hh, hnc, _, hsz, htk⟩
  · exact ⟨none, 0, by rw [e, h0], .inl h0⟩
  · refine ⟨_, cap, e, .inr ⟨g, rfl, hg, cur, hh, by omega, fun i hi => ?_⟩⟩
    have hx := rcells_at9 R i hi
    rw [← htk] at hx
    rw [List.getElem?_take_of_lt (by omega), List.getElem?_take_of_lt (by omega)] at hx
    simpa using hx
/-- The append of one term. -/
theorem wp_row1 {o : Oper} {a : Act} {K : Act → World → Prop} {Q : Exit → Act → World → Prop} {W : World} {B : Nat} {ov : Value} {R : List (Int × Int)} (s x : Operand)
    (ho : o.op = .call { callee := .builtin .append, args := #[s, x], argTypes := #[53, 53] })
    (h : W.ownsRow B 114 2 ov R.length (rcells R)) (hB : B ≤ W.heap.size) (hs : a.eval s = ov) {H : Nat} (hx : a.eval x = .slice (some ⟨H, 0, none⟩) 1 1) {X Y : Int} {T' : TypeId} (hnew : W.heap[H]? = some (.cells #[.int .i64 X, .int .i64 Y] T' (0, 0))) (hk : R.length ≤ 10000)
    (hK : ∀ g cap w', w'.ownsRow B 114 2 (.slice (some ⟨g, 0, none⟩) (R.length + 1) cap) (R ++ [(X, Y)]).length (rcells (R ++ [(X, Y)])) → W.grownBy w' ov.ownBlock → K (a.put o.dst (.slice (some ⟨g, 0, none⟩) (R.length + 1) cap)) w') :
    o.wp Try.prog a W K Q := by
  obtain ⟨i0, hi0, hz0, hz1, hz2⟩ := info_parts Try.infoTerm
  refine wp_append_lies _ s x 53 ho B 114 i0 _ 2 16 Try.underlying53 hi0 hz0 hz1 hz2 rfl (by omega) ov R.length _ hs h ⟨H, 0, none⟩ 1 1 [.int .i64 X, .int .i64 Y] hx (by rfl)
    (World.news_of_block hnew) (by simp [Value.oneCell']) (by omega) (by unfold maxLen; omega) (by omega) hB W.heap.size rfl ?_
  intro g cap' w' hown hg _ _
  refine hK g cap' w' ?_ hg
  rw [List.length_append, rcells_append]
  exact hown

set_option linter.unusedVariables false in
set_option maxRecDepth 100000 in
set_option maxHeartbeats 1600000 in
theorem setOf_any (A : Option Addr) (n cap : Nat) (c l : Nat → Int) (j : Nat) (w : World) (hn : n ≤ 12) (hj : j < 4096) (hr : Rd w w.heap.size A n c l) :
    Calls Try.prog 72 #[.int .u64 j, .slice A n cap] w fun e w' => ∃ A' cap', e = .returned (.slice A' (pkR c l (bitJ j) n).length cap') ∧ Frs w' w.heap.size A' (pkR c l (bitJ j) n).length (pkC (pkR c l (bitJ j) n)) (pkL (pkR c l (bitJ j) n)) ∧ Below w.heap.size w w' := by
  go_enter Try.func72, Try.ntmps72
  go_wp2
  go_loopw [5, 10] (fun ov i wr => ∃ k : Nat, k ≤ n ∧ i = .int .i64 k ∧ wr.ownsRow w.heap.size 114 2 ov (pkR c l (bitJ j) k).length (rcells (pkR c l (bitJ j) k)) ∧ Below w.heap.size w wr) (fun _ i _ => n - (intOf i).toNat)
  case atStart => exact ⟨0, Nat.zero_le _, rfl, World.ownsRow_nil _ _ _ _, Below.refl _ _⟩
  case round =>
    obtain ⟨k, hk, rfl, hown, hb⟩ := hrel
    have Hown := Lib.hid hown
    have HB := Lib.hid hb
    by_cases hlt : k < n
    · obtain ⟨b, off, rfl, hbl, hc⟩ := (hr.below hb) (by omega)
      obtain ⟨hc1, hc2⟩ := hc k hlt
      have hkI : (k : Int) < (n : Int) := by omega
      have hk0 : (0 : Int) ≤ (k : Int) := by omega
      have hb0 := bits_J8 (j := j) (k := k) hj
      have hpl := pk_le (c := c) (l := l) (q := bitJ j) k
      have HAl := Lib.hid (bl_trans (bl_alloc (Below.refl wr.heap.size wr) (.cells #[.int .i64 (c k), .int .i64 (l k)] 114)) (bl_alloc (Below.refl _ _) (.cells #[.int .i64 (c k), .int .i64 (l k)] 114)))
      have HAl1 := Lib.hid (bl_alloc (Below.refl wr.heap.size wr) (.cells #[.int .i64 (c k), .int .i64 (l k)] 114))
      have hz := hb.size
      clear hc hr hown hb
      cases hbit : bitJ j k with
      | false =>
        rw [hbit] at hb0
        have e1 := Lib.hid (pk_no (c := c) (l := l) (q := bitJ j) hbit)
        clear hbit
        go_wp2
        go_roundw
        case rel => exact ⟨k + 1, by omega, by go_num, by rw [e1.out]; exact row_below Hown.out HAl1.out, bl_trans HB.out HAl1.out⟩
        case measure => simp [intOf]; omega
      | true =>
        rw [hbit] at hb0
        have e1 := Lib.hid (pk_yes (c := c) (l := l) (q := bitJ j) hbit)
        clear hbit
        go_wp2_with (at_builtin; refine wpList_plain (by rfl) fun K' hK' => ?_; refine wp_row1 _ _ (by rfl) (row_below Hown.out HAl.out) (by simp; omega) (by rfl) (by rfl) (alloc_two _ _ _) (by omega) ?_; intro gg cap4 w4 hown4 hgr4; have Hown4 := Lib.hid hown4; have HB4 := Lib.hid ((bl_trans HB.out HAl.out).grown hgr4 (by simp; omega) (fun j e => ((row_below Hown.out HAl.out).lt j e).1)); clear hown4 hgr4; refine hK' _ _ ?_; clear hK' K')
        go_roundw
        case rel => exact ⟨k + 1, by omega, by go_num, by rw [e1.out]; exact Hown4.out, HB4.out⟩
        case measure => simp [intOf]; omega
    · have e : k = n := by omega
      subst e
      obtain ⟨A1, cap1, rfl, hF⟩ := frs_of_row9 Hown.out
      have HF := Lib.hid hF
      clear hF hown hb
      go_wp2
      go_ret
      exact ⟨A1, cap1, rfl, HF.out, HB.out⟩

theorem newboxI {w0 W w1 : World} (hb : Below W.heap.size W w1) (hW : W.heap = (w0.alloc (.cells #[.int .i64 0] 3)).heap) : w1.cell? ⟨w0.heap.size, 0, none⟩ = some (.int .i64 0) ∧ w1.frozen? ⟨w0.heap.size, 0, none⟩ = false := by
  have hlt : w0.heap.size < W.heap.size := by rw [hW]; simp
  have h := (hb.block w0.heap.size hlt).trans (congrArg (fun h => h[w0.heap.size]?) hW)
  have h2 : w1.heap[w0.heap.size]? = some (.cells #[.int .i64 0] 3) := h.trans (heap_alloc_new w0 _)
  refine ⟨?_, ?_⟩ <;> simp [World.cell?, World.frozen?, h2]

set_option maxRecDepth 100000 in
set_option maxHeartbeats 800000 in
theorem indexT_any (f : Nat) (lb : Array Value) (A : Option Addr) (n cap : Nat) (c l : Nat → Int) (b : Nat → Bool) (w : World) (hn : n ≤ 1048576) (hr : Rd w w.heap.size A n c l)
    (ef : ∀ args w, (callFunc f args).run Try.prog w = .ok (.enter f args) w)
    (hf : ∀ (k : Nat) (X : World), k < n → Below w.heap.size w X → Calls Try.prog f (#[.agg #[.int .i64 (c k), .int .i64 (l k)]] ++ lb) X fun e X' => e = .returned (.bool (b k)) ∧ Below X.heap.size X X') :
    Calls Try.prog 118 #[.slice A n cap, .func (.func f) #[] lb] w fun e w' => ∃ m : Int, e = .returned (.int .i64 m) ∧ decide (0 ≤ m) = anyQ b n ∧ Below w.heap.size w w' := by
  go_enter Try.func118, Try.ntmps118
  go_wp2
  go_loopw [8] (fun i wr => ∃ k : Nat, k ≤ n ∧ i = .int .i64 k ∧ anyQ b k = false ∧ Below w.heap.size w wr) (fun i _ => n - (intOf i).toNat)
  case atStart => exact ⟨0, Nat.zero_le _, rfl, rfl, Below.refl _ _⟩
  case round =>
    obtain ⟨k, hk, rfl, hp, hb⟩ := hrel
    have Hp := Lib.hid hp
    clear hp
    by_cases hlt : k < n
    · obtain ⟨bb, off, rfl, hbl, hc⟩ := (hr.below hb) (by omega)
      obtain ⟨hc1, hc2⟩ := hc k hlt
      have Hcall := Lib.hid (hf k wr hlt hb)
      clear hc hr hf
      cases hq : b k with
      | true =>
        have Hfin := Lib.hid (show decide (0 ≤ (k : Int)) = anyQ b n from by rw [anyQ_of hlt hq]; simp)
        rw [hq] at Hcall
        clear hq
        go_wp2_with fail
        refine Hcall.out.mono ?_
        rintro e w1 ⟨rfl, hb1⟩
        go_wp2
        go_ret
        exact ⟨_, rfl, Hfin.out, hb.trans (hb1.mono hb.size)⟩
      | false =>
        have Hno := Lib.hid (anyQ_step Hp.out hq)
        rw [hq] at Hcall
        clear hq
        go_wp2_with fail
        refine Hcall.out.mono ?_
        rintro e w1 ⟨rfl, hb1⟩
        go_wp2
        go_roundw
        case rel => exact ⟨k + 1, by omega, by go_num, Hno.out, hb.trans (hb1.mono hb.size)⟩
        case measure => simp [intOf]; omega
    · have e : k = n := by omega
      subst e
      go_wp2
      go_ret
      exact ⟨-1, rfl, by rw [Hp.out]; rfl, hb⟩

set_option maxRecDepth 100000 in
set_option maxHeartbeats 800000 in
theorem containsT_any (f : Nat) (lb : Array Value) (A : Option Addr) (n cap : Nat) (c l : Nat → Int) (b : Nat → Bool) (w : World) (hn : n ≤ 1048576) (hr : Rd w w.heap.size A n c l)
    (ef : ∀ args w, (callFunc f args).run Try.prog w = .ok (.enter f args) w)
    (hf : ∀ (k : Nat) (X : World), k < n → Below w.heap.size w X → Calls Try.prog f (#[.agg #[.int .i64 (c k), .int .i64 (l k)]] ++ lb) X fun e X' => e = .returned (.bool (b k)) ∧ Below X.heap.size X X') :
    Calls Try.prog 106 #[.slice A n cap, .func (.func f) #[] lb] w fun e w' => e = .returned (.bool (anyQ b n)) ∧ Below w.heap.size w w' := by
  go_enter Try.func106, Try.ntmps106
  go_wp2_with fail
  refine (indexT_any f lb A n cap c l b _ hn hr ef hf).mono ?_
  rintro e w1 ⟨m, rfl, hm, hb⟩
  have Hm := Lib.hid hm
  clear hm
  go_wp2
  go_ret
  exact ⟨ret_bool (by rw [← Hm.out]), hb⟩

/-- One literal can be left out. -/
theorem spare_any (H : Nat) (x b d : Int) (w : World) (hH : H < w.heap.size) (hx : -100000000 ≤ x ∧ x ≤ 100000000) (hb0 : 0 ≤ b ∧ b ≤ 1000000) (hc : w.cell? ⟨H, 0, none⟩ = some (.int .i64 x)) :
    Calls Try.prog 105 #[.agg #[.int .i64 b, .int .i64 d], .pointer (some ⟨H, 0, none⟩)] w fun e w' => e = .returned (.bool (decide (x + b < 0))) ∧ Below w.heap.size w w' := by
  have hHn : ¬ H = w.heap.size := by omega
  have hw1 : wrap64 (x + b) = x + b := by rw [← IntWalk.i64_left]; exact IntWalk.i64_in _ (by omega)
  go_enter Try.func105, Try.ntmps105
  go_wp2
  go_ret
  exact ⟨rfl, by repeat (first | exact Below.refl _ _ | refine bl_alloc ?_ _ | refine Below.setCell ?_ (by simp) _)⟩

set_option linter.unusedVariables false in
set_option maxRecDepth 100000 in
set_option maxHeartbeats 3200000 in
theorem minimal_any (A Ac : Option Addr) (n cap capc : Nat) (bd : Int) (c l : Nat → Int) (q : Nat → Bool) (w : World) (hn : n ≤ 1048576) (hr : Rd w w.heap.size A n c l) (hrc : Rd w w.heap.size Ac (pkR c l q n).length (pkC (pkR c l q n)) (pkL (pkR c l q n))) (hval : validB n c l bd = true) :
    Calls Try.prog 73 #[.agg #[.slice A n cap, .int .i64 bd], .slice Ac (pkR c l q n).length capc] w fun e w' => e = .returned (.bool (cfB n c l bd q)) ∧ Below w.heap.size w w' := by
  have hbd := vb_bd hval
  have h12 := valid_le12 hval
  have hTb : 0 ≤ cfT n c l ∧ cfT n c l ≤ 1000 * (n : Int) := sB_le (c := c) (l := l) (P := fun _ => true) (k := n) (coef_of hval)
  have hSb := cfS_le (c := c) (q := q) (k := n) (vb_coef hval)
  have hm : (pkR c l q n).length ≤ 1048576 := Nat.le_trans (pk_le n) hn
  have Htot := Lib.hid (show totV n c l bd = cfT n c l by unfold totV; rw [hval, if_pos rfl]; exact sumW_sB hn (coef_of hval))
  have Hs := Lib.hid (show totW (pkC (pkR c l q n)) (pkL (pkR c l q n)) (pkR c l q n).length = cfS c q n by
    rw [← cfS_rows (l := l)]
    exact sumW_sB hm (pk_coef9 (vb_coef hval)))
  have HPr := Lib.hid (cf_prog (l := l) (q := q) (bd := bd) (vb_coef hval))
  have hw1 : IntKind.i64.wrap (cfT n c l - cfS c q n) = cfT n c l - cfS c q n := IntWalk.i64_in _ (by omega)
  have hw2 : IntKind.i64.wrap (cfT n c l - cfS c q n - bd) = cfT n c l - cfS c q n - bd := IntWalk.i64_in _ (by omega)
  have HPc := Lib.hid (pk_coef9 (l := l) (q := q) (vb_coef hval))
  have Hval := Lib.hid hval
  clear hval
  obtain ⟨R, hR⟩ : ∃ R, pkR c l q n = R := ⟨_, rfl⟩
  obtain ⟨S, hS⟩ : ∃ S, cfS c q n = S := ⟨_, rfl⟩
  obtain ⟨T, hT⟩ : ∃ T, cfT n c l = T := ⟨_, rfl⟩
  rw [hR] at hrc hm HPc ⊢
  rw [hR, hS] at Hs
  rw [hT] at Htot hTb
  rw [hS] at hSb
  rw [hS, hT] at hw1 hw2
  rw [hR, hS, hT] at HPr
  clear hR hS hT
  go_enter Try.func73, Try.ntmps73
  go_upto_region 1 with fail
  have HB0 := Lib.hid (bl_alloc (Below.refl w.heap.size w) (.cells #[.slice A n cap, .int .i64 bd] 55))
  have a0 : (w.alloc (.cells #[.slice A n cap, .int .i64 bd] 55)).cell? ⟨w.heap.size, 0, none⟩ = some (.slice A n cap) := by go_simp
  have a1 : (w.alloc (.cells #[.slice A n cap, .int .i64 bd] 55)).cell? ⟨w.heap.size, 1, none⟩ = some (.int .i64 bd) := by go_simp
  have hz : w.heap.size < (w.alloc (.cells #[.slice A n cap, .int .i64 bd] 55)).heap.size := by simp
  generalize w.alloc (.cells #[.slice A n cap, .int .i64 bd] 55) = W0 at *
  have HR0 := Lib.hid (hr.later HB0.out)
  have HRC := Lib.hid (hrc.later HB0.out)
  have n0a : ¬ w.heap.size = W0.heap.size := Nat.ne_of_lt hz
  have n0b : ¬ W0.heap.size = w.heap.size := Nat.ne_of_gt hz
  clear hr hrc
  go_cut [5] (fun s5 wx => ∃ H, s5 = .pointer (some ⟨H, 0, none⟩) ∧ W0.heap.size ≤ H ∧ H < wx.heap.size ∧ wx.cell? ⟨H, 0, none⟩ = some (.int .i64 (T - S - bd)) ∧ Below W0.heap.size W0 wx)
  case first =>
    go_region_held3 (fun w' => w'.cell? ⟨w.heap.size, 0, none⟩ = some (.slice A n cap) ∧ w'.cell? ⟨w.heap.size, 1, none⟩ = some (.int .i64 bd)) (go_keep)
      (first
        | (go_at_call 103; refine (implTotal_v A n cap bd c l _ hn (HR0.out.later (by repeat (first | exact Below.refl _ _ | refine bl_alloc ?_ _ | refine Below.drew ?_)))).mono ?_; rintro e u1 ⟨rfl, hb⟩; rw [Htot.out]; have hbx : Below W0.heap.size W0 u1 := bl_trans (by repeat (first | exact Below.refl _ _ | refine bl_alloc ?_ _ | refine Below.drew ?_)) hb; (try (have hnb := newboxI (w0 := W0) hb rfl; have v0 := hnb.1; have g0 := hnb.2; clear hnb)); have HB1 := Lib.hid hbx; have a0 := kc hbx a0; have a1 := kc hbx a1; have zu1 : w.heap.size < u1.heap.size := World.block_lt_of_cell? u1 _ a1; have nu1a : ¬ w.heap.size = u1.heap.size := Nat.ne_of_lt zu1; have nu1b : ¬ u1.heap.size = w.heap.size := Nat.ne_of_gt zu1; clear hb hbx)
        | (go_at_call 82; refine (coefsWhere_any _ _ _ _ _ _).mono ?_; rintro e u2 ⟨rfl, t0, t1, hsz, hb⟩; have hbx : Below u1.heap.size u1 u2 := bl_trans (by repeat (first | exact Below.refl _ _ | refine bl_alloc ?_ _ | refine Below.drew ?_)) hb; (try (have g0 := kf hbx (World.block_lt_of_cell? _ _ v0) g0; have v0 := kc hbx v0)); (try (have hnb := newboxI (w0 := u1) hb rfl; have v0 := hnb.1; have g0 := hnb.2; clear hnb)); have HB2 := Lib.hid (bl_trans HB1.out hbx); have a0 := kc hbx a0; have a1 := kc hbx a1; have zu2 : w.heap.size < u2.heap.size := World.block_lt_of_cell? u2 _ a1; have nu2a : ¬ w.heap.size = u2.heap.size := Nat.ne_of_lt zu2; have nu2b : ¬ u2.heap.size = w.heap.size := Nat.ne_of_gt zu2; clear hb hbx)
        | (go_at_call 81; refine (sumAll_any _ Ac R.length _ (pkC R) (pkL R) hm _ (by first | exact hsz | (simp at hsz ⊢; omega)) (by first | exact t0 | (simpa using t0) | exact kc (by repeat (first | exact Below.refl _ _ | refine bl_alloc ?_ _ | refine Below.drew ?_)) t0 | (simpa using kc (by repeat (first | exact Below.refl _ _ | refine bl_alloc ?_ _ | refine Below.drew ?_)) t0)) (by first | exact t1 | (simpa using t1) | exact kc (by repeat (first | exact Below.refl _ _ | refine bl_alloc ?_ _ | refine Below.drew ?_)) t1 | (simpa using kc (by repeat (first | exact Below.refl _ _ | refine bl_alloc ?_ _ | refine Below.drew ?_)) t1)) (HRC.out.later (bl_trans HB2.out (by repeat (first | exact Below.refl _ _ | refine bl_alloc ?_ _ | refine Below.drew ?_))))).mono ?_; rintro e u3 ⟨rfl, hb⟩; rw [Hs.out]; have hbx : Below u2.heap.size u2 u3 := bl_trans (by repeat (first | exact Below.refl _ _ | refine bl_alloc ?_ _ | refine Below.drew ?_)) hb; (try (have g0 := kf hbx (World.block_lt_of_cell? _ _ v0) g0; have v0 := kc hbx v0)); (try (have hnb := newboxI (w0 := u2) hb rfl; have v0 := hnb.1; have g0 := hnb.2; clear hnb)); have HB3 := Lib.hid (bl_trans HB2.out hbx); have a0 := kc hbx a0; have a1 := kc hbx a1; have zu3 : w.heap.size < u3.heap.size := World.block_lt_of_cell? u3 _ a1; have nu3a : ¬ w.heap.size = u3.heap.size := Nat.ne_of_lt zu3; have nu3b : ¬ u3.heap.size = w.heap.size := Nat.ne_of_gt zu3; clear hb hbx t0 t1 hsz))
    all_goals go_wp2_with fail
    all_goals go_meet
    all_goals first
      | exact ⟨u3.heap.size, rfl, HB3.out.size, by simp, by go_simp, HB3.out.alloc HB3.out.size _⟩
      | exact ⟨u2.heap.size, rfl, HB2.out.size, by have h9 := World.block_lt_of_cell? u3 _ v0; simpa [World.setCell] using h9, by go_simp, HB3.out.setCell HB2.out.size _⟩
      | exact ⟨u1.heap.size, rfl, HB1.out.size, by have h9 := World.block_lt_of_cell? u3 _ v0; simpa [World.setCell] using h9, by go_simp, HB3.out.setCell HB1.out.size _⟩
      | exact ⟨W0.heap.size, rfl, Nat.le_refl _, by have h9 := World.block_lt_of_cell? u3 _ v0; simpa [World.setCell] using h9, by go_simp, HB3.out.setCell (Nat.le_refl _) _⟩
  case rest =>
    obtain ⟨H, rfl, hH, hHw, hx, hb⟩ := hcut
    have HBc := Lib.hid (bl_trans HB0.out hb)
    have HRc := Lib.hid (HRC.out.later hb)
    by_cases hneg : T - S - bd < 0
    · have HC := Lib.hid (containsT_any 105 #[.pointer (some ⟨H, 0, none⟩)] Ac R.length capc (pkC R) (pkL R) (fun i => decide (T - S - bd + pkC R i < 0)) wc hm HRc.out
        (enters_of Try.func105 (by kernel_rfl) rfl)
        (fun k X hk hX => spare_any H (T - S - bd) (pkC R k) (pkL R k) X (Nat.lt_of_lt_of_le hHw hX.size) (by omega) (by have := HPc.out k hk; omega) (kc hX hx)))
      have HF := Lib.hid (show (!anyQ (fun i => decide (T - S - bd + pkC R i < 0)) R.length) = cfB n c l bd q from by rw [← HPr.out, decide_eq_true hneg, Bool.true_and])
      go_wp2_with fail
      refine HC.out.mono ?_
      rintro e w5 ⟨rfl, hb5⟩
      have HB5 := Lib.hid (bl_trans HBc.out hb5)
      clear hb hb5 HC
      go_wp2
      go_ret
      exact ⟨ret_bool HF.out, HB5.out⟩
    · have HF := Lib.hid (show false = cfB n c l bd q from by rw [← HPr.out, decide_eq_false hneg, Bool.false_and])
      go_wp2
      go_ret
      exact ⟨ret_bool HF.out, HBc.out⟩

theorem pkAll_len (c l : Nat → Int) (k : Nat) : (pkR c l (fun _ => true) k).length = k := by
  induction k with
  | zero => rfl
  | succ k ih => rw [pk_yes rfl, List.length_append, ih]; rfl
theorem pkAll_rdi {c l : Nat → Int} {w : World} {B : Nat} {A : Option Addr} {n : Nat} (h : RdI w B A n (pkL (pkR c l (fun _ => true) n))) : RdI w B A n l := fun hp => by
  obtain ⟨b, off, e, hlt, hc⟩ := h hp
  refine ⟨b, off, e, hlt, fun i hi => ?_⟩
  have h1 := hc i hi
  have h2 := (pk_at (c := c) (l := l) (q := fun _ => true) hi rfl).2
  rw [pkAll_len c l i] at h2
  rw [h2] at h1
  exact h1
theorem row_ne9 {w : World} {B s n : Nat} {e : TypeId} {ov : Value} {xs : List Value} (h : w.ownsRow B e s ov n xs) {j : Nat} (hj : j < B) : some j ≠ ov.ownBlock := fun e => by
  have := (h.lt j e.symm).1
  omega

set_option maxRecDepth 100000 in
set_option maxHeartbeats 1600000 in
theorem clauseN_any (A : Option Addr) (n cap : Nat) (v : Nat → Int) (w : World) (hn : n ≤ 1048576) (hr : RdI w w.heap.size A n v) :
    Calls Try.prog 107 #[.slice A n cap] w fun e w' => ∃ A' cap', e = .returned (.agg #[.slice A' (clN n v) cap', .int .i64 (clD n v)]) ∧ Frs w' w.heap.size A' (clN n v) one1 (rL (clF n v)) ∧ Below w.heap.size w w' := by
  have HC := Lib.hid (fun W (hb : Below w.heap.size w W) => implClause_any A n cap v W hn (hr.later hb))
  clear hr
  go_enter Try.func107, Try.ntmps107
  go_wp2_with fail
  refine (HC.out _ (bl_alloc (Below.refl _ _) _)).mono ?_
  rintro e w1 ⟨A1, cap1, rfl, hF, hb⟩
  have HF := Lib.hid hF
  have HB := Lib.hid (bl_trans (bl_alloc (Below.refl w.heap.size w) _) hb)
  have r0 : w1.cell? ⟨w.heap.size, 0, none⟩ = some (.slice none 0 0) := kc hb (by go_simp)
  have r1 : w1.cell? ⟨w.heap.size, 1, none⟩ = some (.int .i64 0) := kc hb (by go_simp)
  have f0 : w1.frozen? ⟨w.heap.size, 0, none⟩ = false := kf hb (by simp) (by go_simp)
  have f1 : w1.frozen? ⟨w.heap.size, 1, none⟩ = false := kf hb (by simp) (by go_simp)
  have hz : w.heap.size < w1.heap.size := World.block_lt_of_cell? w1 ⟨w.heap.size, 0, none⟩ r0
  obtain ⟨N, hN⟩ : ∃ N, clN n v = N := ⟨_, rfl⟩
  obtain ⟨D, hD⟩ : ∃ D, clD n v = D := ⟨_, rfl⟩
  rw [hN] at HF
  rw [hN, hD]
  have HAl := Lib.hid (bl_alloc (Below.refl w1.heap.size w1) (.cells #[.slice A1 N cap1, .int .i64 D] 55))
  have s0 := kc HAl.out r0
  have s1 := kc HAl.out r1
  have g0 := kf HAl.out (p := ⟨w.heap.size, 0, none⟩) hz f0
  have g1 := kf HAl.out (p := ⟨w.heap.size, 1, none⟩) hz f1
  have HN := Lib.hid hN
  have HD := Lib.hid hD
  clear hF hb HC hN hD
  go_wp2
  refine bodyPost_ret (v := .agg #[.slice A1 N cap1, .int .i64 D]) (by simp [results, Try.results107, go_sem, r0, r1, hz]) rfl ?_
  have hN := HN.out
  have hD := HD.out
  subst hN hD
  refine ⟨A1, cap1, rfl, ?_, bl_alloc ((HB.out.setCell (by simp) _).setCell (by simp) _) _⟩
  exact ((((HF.out.far' (by simp) (by simp) _).far' (by simp) (by simp) _).below (bl_alloc (Below.refl _ _) _)).more (by simp))

set_option linter.unusedVariables false in
set_option maxRecDepth 100000 in
set_option maxHeartbeats 1600000 in
theorem clauseOfTerms_any (A : Option Addr) (n cap : Nat) (c l : Nat → Int) (w : World) (hn : n ≤ 12) (hr : Rd w w.heap.size A n c l) :
    Calls Try.prog 74 #[.slice A n cap] w fun e w' => ∃ A' cap', e = .returned (.agg #[.slice A' (clN n l) cap', .int .i64 (clD n l)]) ∧ Frs w' w.heap.size A' (clN n l) one1 (rL (clF n l)) ∧ Below w.heap.size w w' := by
  go_enter Try.func74, Try.ntmps74
  go_wp2
  go_loopw [3, 8] (fun ov i wr => ∃ k : Nat, k ≤ n ∧ i = .int .i64 k ∧ wr.cell? ⟨w.heap.size, 0, none⟩ = some (.slice none 0 0) ∧ wr.cell? ⟨w.heap.size, 1, none⟩ = some (.int .i64 0) ∧ wr.frozen? ⟨w.heap.size, 0, none⟩ = false ∧ wr.frozen? ⟨w.heap.size, 1, none⟩ = false ∧ wr.ownsRow (w.heap.size + 1) 3 1 ov (pkR c l (fun _ => true) k).length (pkV (pkR c l (fun _ => true) k)) ∧ Below w.heap.size w wr) (fun _ i _ => n - (intOf i).toNat)
  case atStart => exact ⟨0, Nat.zero_le _, rfl, by go_simp, by go_simp, by go_simp, by go_simp, World.ownsRow_nil _ _ _ _, bl_alloc (Below.refl _ _) _⟩
  case round =>
    obtain ⟨k, hk, rfl, r0, r1, f0, f1, hown, hb⟩ := hrel
    have Hown := Lib.hid hown
    have HB := Lib.hid hb
    have hz : w.heap.size < wr.heap.size := World.block_lt_of_cell? wr _ r0
    by_cases hlt : k < n
    · obtain ⟨b, off, rfl, hbl, hc⟩ := (hr.below hb) (by omega)
      obtain ⟨hc1, hc2⟩ := hc k hlt
      have hkI : (k : Int) < (n : Int) := by omega
      have hk0 : (0 : Int) ≤ (k : Int) := by omega
      have hpl := pk_le (c := c) (l := l) (q := fun _ => true) k
      have e1 := Lib.hid (pk_yes (c := c) (l := l) (q := fun _ => true) (k := k) rfl)
      have HAl := Lib.hid (bl_trans (bl_alloc (Below.refl wr.heap.size wr) (.cells #[.int .i64 (c k), .int .i64 (l k)] 114)) (bl_alloc (Below.refl _ _) (.cells #[.int .i64 (l k)] 3)))
      clear hc hr hown hb
      go_wp2_with (at_builtin; refine wpList_plain (by rfl) fun K' hK' => ?_; refine wp_lit1 _ _ (by rfl) (row_below Hown.out HAl.out) (by simp; omega) (by rfl) (by rfl) (alloc_two _ _ _) (by omega) (c k) ?_; intro gg cap4 w4 hown4 hgr4; have Hown4 := Lib.hid hown4; have HB4 := Lib.hid ((bl_trans HB.out HAl.out).grown hgr4 (by simp; omega) (fun j e => Nat.le_trans (Nat.le_succ _) ((row_below Hown.out HAl.out).lt j e).1)); have hne := row_ne9 (row_below Hown.out HAl.out) (Nat.lt_succ_self w.heap.size); have hr0 := Lib.hid (hgr4.cell (a := ⟨w.heap.size, 0, none⟩) (kc HAl.out r0) hne); have hr1 := Lib.hid (hgr4.cell (a := ⟨w.heap.size, 1, none⟩) (kc HAl.out r1) hne); have hf0 := Lib.hid ((hgr4.frozen_far ⟨w.heap.size, 0, none⟩ (World.block_lt_of_cell? _ _ (kc HAl.out r0)) hne).trans (kf HAl.out (by show w.heap.size < _; omega) f0)); have hf1 := Lib.hid ((hgr4.frozen_far ⟨w.heap.size, 1, none⟩ (World.block_lt_of_cell? _ _ (kc HAl.out r1)) hne).trans (kf HAl.out (by show w.heap.size < _; omega) f1)); clear hown4 hgr4 hne; refine hK' _ _ ?_; clear hK' K')
      go_roundw
      case rel => exact ⟨k + 1, by omega, by go_num, hr0.out, hr1.out, hf0.out, hf1.out, by rw [e1.out]; exact Hown4.out, HB4.out⟩
      case measure => simp [intOf]; omega
    · have e : k = n := by omega
      subst e
      obtain ⟨A1, cap1, rfl, hrl⟩ := pkV_rdi Hown.out
      have hlen := pkAll_len c l k
      have HRL := Lib.hid (pkAll_rdi (c := c) (by rw [hlen] at hrl; exact hrl))
      rw [hlen]
      clear hown hb hr hrl hlen
      go_wp2_with fail
      refine (clauseN_any A1 k cap1 l _ (by omega) HRL.out).mono ?_
      rintro e w5 ⟨A5, cap5, rfl, hF, hb5⟩
      have HF := Lib.hid hF
      have HB5 := Lib.hid (bl_trans HB.out hb5)
      have s0 := kc hb5 r0
      have s1 := kc hb5 r1
      have g0 := kf hb5 (p := ⟨w.heap.size, 0, none⟩) hz f0
      have g1 := kf hb5 (p := ⟨w.heap.size, 1, none⟩) hz f1
      have hz5 : w.heap.size < w5.heap.size := Nat.lt_of_lt_of_le hz hb5.size
      clear hF hb5 r0 r1 f0 f1
      go_wp2
      refine bodyPost_ret (v := .agg #[.slice A5 (clN k l) cap5, .int .i64 (clD k l)]) (by simp [results, Try.results74, go_sem, s0, s1]) rfl ?_
      refine ⟨A5, cap5, rfl, ?_, (HB5.out.setCell (by simp) _).setCell (by simp) _⟩
      exact ((HF.out.far' (by simp) (by show w.heap.size < _; omega) _).far' (by simp) (by show w.heap.size < _; omega) _).more (by omega)

end Go.Proofs.Ytbebdhjhlheboaa
