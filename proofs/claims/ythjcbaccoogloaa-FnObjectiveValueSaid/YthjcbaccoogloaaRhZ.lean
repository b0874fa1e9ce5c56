/- RuleHolds: what it says (no claim of its own). Conditions: as each theorem states. · RuleHolds: the reference's side (no claim of its own). Conditions: as each theorem states. · The values of cells as an array (no claim of its own). Conditions: as each theorem states. · The values of some cells out of the array (no claim of its own). Conditions: as each theorem states. · RuleHolds: the program's side, the kinds of rules (no claim of its own). Conditions: as each theorem states. · RuleHolds: the program's side, tables; all kinds (no claim of its own). Conditions: as each theorem states. · RuleHolds, SolvesModel: what they say (no claim of its own). Conditions: as each theorem states. · A method value's test for nil (no claim of its own). Conditions: as each theorem states. · RuleHolds, SolvesModel: the reference's side (no claim of its own). Conditions: as each theorem states. · RuleHolds, SolvesModel: the program's side (no claim of its own). Conditions: as each theorem states. · RuleHolds, SolvesModel: the program's side, whole (no claim of its own). Conditions: as each theorem states. -/
import Derived.Test.YthjcbaccoogloaaBviA
import Derived.Laws.CopyOwn
namespace Go.Proofs.Ythjcbaccoogloaa
open Go.ChangeShapes Go.WideShapes Go.ChangeAt Go.RowKit

/-- The values of the cells of a list. -/
def pk (v : Lst) (c : Nat → Int) (i : Nat) : Int := c (v.x i).toNat
def linS (a p : Nat → Int) : Nat → Int
  | 0 => 0
  | k + 1 => linS a p k + a k * p k
/-- Cells satisfy a rule. -/
def holdB (q : Rul) (c : Nat → Int) : Bool := if q.k = 1 then decide (q.bd ≤ linS q.c.x (pk q.v c) q.v.n) else if q.k = 2 then prE (newB (pk q.v c)) q.v.n else if q.k = 4 then decide (pk q.v c 0 < pk q.v c 1) else anyQ (fun j => lsE (q.r j) ⟨q.v.n, pk q.v c⟩) q.n

/-- What a valid rule is. -/
structure RuleOk (cells : Nat) (q : Rul) : Prop where
  len : 1 ≤ q.v.n
  at_ : ∀ i, i < q.v.n → 0 ≤ q.v.x i ∧ q.v.x i < cells
  kind : q.k = 1 ∨ q.k = 2 ∨ q.k = 3 ∨ q.k = 4
  lin : q.k = 1 → q.c.n = q.v.n ∧ ∀ i, i < q.c.n → -9 ≤ q.c.x i ∧ q.c.x i ≤ 9
  two : q.k = 4 → q.v.n = 2
theorem rule_ok {cells : Nat} {q : Rul} (h : ruleB cells q = true) : RuleOk cells q := by
  unfold ruleB at h
  simp only [Bool.and_eq_true] at h
  obtain ⟨hv, h1, h2, hk⟩ := h
  unfold varB at hv
  simp only [Bool.and_eq_true, decide_eq_true_eq] at hv
  unfold kindB at hk
  refine ⟨hv.2, fun i hi => ?_, ?_, fun e => ?_, fun e => ?_⟩
  · have := prE_at hv.1 hi
    simp [betB] at this
    omega
  · by_cases k1 : q.k = 1
    · exact .inl k1
    by_cases k2 : q.k = 2
    · exact .inr (.inl k2)
    by_cases k3 : q.k = 3
    · exact .inr (.inr (.inl k3))
    by_cases k4 : q.k = 4
    · exact .inr (.inr (.inr k4))
    · simp [k1, k2, k3, k4] at hk
  · rw [if_pos e] at hk
    unfold linB at hk
    simp only [Bool.and_eq_true, beq_iff_eq] at hk
    refine ⟨hk.2.1, fun i hi => ?_⟩
    have := prE_at hk.1 hi
    simp [wtB] at this
    omega
  · rw [if_neg (by omega), if_neg (by omega), if_neg (by omega), if_pos e] at hk
    simpa using hk
/-- Cells are values: each between 0 and 3. -/
def CelV (m : Nat) (c : Nat → Int) : Prop := ∀ i, i < m → 0 ≤ c i ∧ c i ≤ 3
theorem pk_bd {cells : Nat} {q : Rul} {c : Nat → Int} (h : RuleOk cells q) (hc : CelV cells c) {i : Nat} (hi : i < q.v.n) : 0 ≤ pk q.v c i ∧ pk q.v c i ≤ 3 := by
  obtain ⟨h0, h1⟩ := h.at_ i hi
  exact hc _ (by omega)
theorem lin_bd {a p : Nat → Int} {k : Nat} (ha : ∀ i, i < k → -9 ≤ a i ∧ a i ≤ 9) (hp : ∀ i, i < k → 0 ≤ p i ∧ p i ≤ 3) : -27 * (k : Int) ≤ linS a p k ∧ linS a p k ≤ 27 * k := by
  induction k with
  | zero => exact ⟨Int.le_refl _, Int.le_refl _⟩
  | succ k ih =>
    obtain ⟨h1, h2⟩ := ih (fun i hi => ha i (by omega)) (fun i hi => hp i (by omega))
    obtain ⟨a1, a2⟩ := ha k (by omega)
    obtain ⟨b1, b2⟩ := hp k (by omega)
    unfold linS
    have e : -27 ≤ a k * p k ∧ a k * p k ≤ 27 := by
      have : p k = 0 ∨ p k = 1 ∨ p k = 2 ∨ p k = 3 := by omega
      rcases this with h | h | h | h <;> rw [h] <;> omega
    omega
theorem mul_bd {x y : Int} (hx : -9 ≤ x ∧ x ≤ 9) (hy : 0 ≤ y ∧ y ≤ 3) : -27 ≤ x * y ∧ x * y ≤ 27 := by
  have : y = 0 ∨ y = 1 ∨ y = 2 ∨ y = 3 := by omega
  rcases this with h | h | h | h <;> rw [h] <;> omega
theorem cels_cel {s c : Lst} (h : celsB s c = true) (hs : prE (fun i => betB 0 3 (s.x i)) s.n = true) : c.n = s.n ∧ CelV s.n c.x := by
  unfold celsB at h
  simp only [Bool.and_eq_true, beq_iff_eq] at h
  refine ⟨h.1, fun i hi => ?_⟩
  have h1 := prE_at h.2 hi
  have h2 := size_at hs hi
  simp [betB] at h1
  omega
end Go.Proofs.Ythjcbaccoogloaa

namespace Go.Proofs.Ythjcbaccoogloaa
open Go.ChangeShapes Go.WideShapes Go.ChangeAt Go.RowKit

theorem row_lit0 {W : World} {T : TypeId} : RowAt W W.heap.size T [] [] (.slice (some ⟨W.heap.size, 0, none⟩) 0 0) (W.alloc (.cells #[] T)) :=
  ⟨⟨rfl, .inr ⟨W.heap.size, 0, #[], rfl, Nat.le_refl _, heap_alloc_new _ _, Nat.le_refl _, by unfold maxLen; omega, rfl, rfl⟩⟩,
    fun x hx => (by cases hx), bl_alloc (Below.refl _ _) _, Nat.le_refl _, by simp⟩

set_option maxRecDepth 100000 in
set_option maxHeartbeats 3200000 in
theorem l6Holds_any (cells : Nat) (q : Rul) (c : Nat → Int) (Av Ac Ar A : Option Addr) (cv cc cr cap : Nat) (w : World) (hf : q.fit 1048576) (hok : RuleOk cells q) (hcel : CelV cells c) (h5 : cells ≤ 5) (hv : RdI w w.heap.size Av q.v.n q.v.x) (hc : RdI w w.heap.size Ac q.c.n q.c.x) (hr : RdL w w.heap.size Ar q.n q.r) (hx : RdI w w.heap.size A cells c) :
    Calls Try.prog 58 #[.agg #[.int .i64 q.k, .slice Av q.v.n cv, .slice Ac q.c.n cc, .int .i64 q.bd, .slice Ar q.n cr], .slice A cells cap] w fun e w' => e = .returned (.bool (holdB q c)) ∧ Below w.heap.size w w' := by
  obtain ⟨m1, m2, m3, m4⟩ := hf
  have M4 := Lib.hid m4
  have HOk := Lib.hid hok
  have HP := Lib.hid (fun i (hi : i < q.v.n) => pk_bd hok hcel hi)
  have hl1 := hok.len
  have hb1 := bl_alloc (Below.refl w.heap.size w) (.cells #[.int .i64 q.k, .slice Av q.v.n cv, .slice Ac q.c.n cc, .int .i64 q.bd, .slice Ar q.n cr] 36)
  have HB := Lib.hid hb1
  have HV := Lib.hid (hv.later hb1)
  have HC := Lib.hid (hc.later hb1)
  have HR := Lib.hid (hr.later hb1)
  have HX := Lib.hid (hx.later hb1)
  have a0 : (w.alloc (.cells #[.int .i64 q.k, .slice Av q.v.n cv, .slice Ac q.c.n cc, .int .i64 q.bd, .slice Ar q.n cr] 36)).cell? ⟨w.heap.size, 0, none⟩ = some (.int .i64 q.k) := by go_simp
  have a1 : (w.alloc (.cells #[.int .i64 q.k, .slice Av q.v.n cv, .slice Ac q.c.n cc, .int .i64 q.bd, .slice Ar q.n cr] 36)).cell? ⟨w.heap.size, 1, none⟩ = some (.slice Av q.v.n cv) := by go_simp
  have a2 : (w.alloc (.cells #[.int .i64 q.k, .slice Av q.v.n cv, .slice Ac q.c.n cc, .int .i64 q.bd, .slice Ar q.n cr] 36)).cell? ⟨w.heap.size, 2, none⟩ = some (.slice Ac q.c.n cc) := by go_simp
  have a3 : (w.alloc (.cells #[.int .i64 q.k, .slice Av q.v.n cv, .slice Ac q.c.n cc, .int .i64 q.bd, .slice Ar q.n cr] 36)).cell? ⟨w.heap.size, 3, none⟩ = some (.int .i64 q.bd) := by go_simp
  have a4 : (w.alloc (.cells #[.int .i64 q.k, .slice Av q.v.n cv, .slice Ac q.c.n cc, .int .i64 q.bd, .slice Ar q.n cr] 36)).cell? ⟨w.heap.size, 4, none⟩ = some (.slice Ar q.n cr) := by go_simp
  clear hv hc hr hx hb1 m4 hok hcel
  obtain ⟨k0, ⟨vn, v⟩, ⟨cn, a⟩, bd, n, r⟩ := q
  simp only at m1 m2 m3 M4 HOk HP hl1 HB HV HC HR HX a0 a1 a2 a3 a4 ⊢
  go_enter Try.func58, Try.ntmps58
  go_wp2
  have hsz : (w.alloc (.cells #[.int .i64 k0, .slice Av vn cv, .slice Ac cn cc, .int .i64 bd, .slice Ar n cr] 36)).heap.size = w.heap.size + 1 := by simp
  have HSz := Lib.hid hsz
  clear hsz
  generalize (w.alloc (.cells #[.int .i64 k0, .slice Av vn cv, .slice Ac cn cc, .int .i64 bd, .slice Ar n cr] 36)) = W1 at *
  rw [← HSz.out]
  have Row0 := Lib.hid (row_lit0 (W := W1) (T := 3))
  obtain ⟨H, hHe⟩ : ∃ H, w.heap.size = H := ⟨_, rfl⟩
  have hH1 : H < W1.heap.size := by rw [HSz.out]; omega
  rw [hHe] at a0 a1 a2 a3 a4 ⊢
  go_loopw [5, 6] (fun o i wr => ∃ (k : Nat) (ov : Value), ov = o ∧ k ≤ vn ∧ i = .int .i64 k ∧ RowAt W1 W1.heap.size 3 [] (vlst (pk ⟨vn, v⟩ c) k) ov wr) (fun _ i _ => vn - (intOf i).toNat)
  case atStart => exact ⟨0, _, rfl, Nat.zero_le _, rfl, Row0.out⟩
  case round =>
    obtain ⟨k, ov, rfl, hk, rfl, hrow⟩ := hrel
    have Row := Lib.hid hrow
    have hb := hrow.bel
    replace a0 := kc hb a0
    replace a1 := kc hb a1
    replace a2 := kc hb a2
    replace a3 := kc hb a3
    replace a4 := kc hb a4
    by_cases hlt : k < vn
    · obtain ⟨j, hj⟩ : ∃ j : Nat, v k = (j : Int) := ⟨(v k).toNat, by have := (HOk.out.at_ k hlt).1; simp only at this; omega⟩
      have hjc : j < cells := by have := (HOk.out.at_ k hlt).2; simp only at this; omega
      have Hpk := Lib.hid (show pk ⟨vn, v⟩ c k = c j from by unfold pk; simp only; rw [hj]; rfl)
      obtain ⟨b, off, rfl, hbl, hc⟩ := (HV.out.later hb) (by omega)
      have hc1 := hc k hlt
      rw [hj] at hc1
      obtain ⟨b2, off2, rfl, hbl2, hc2⟩ := (HX.out.later hb) (by omega)
      have hc3 := hc2 j hjc
      have hlt' : (k : Int) < (vn : Int) := by omega
      have hk0 : (0 : Int) ≤ (k : Int) := by omega
      have hlt2 : (j : Int) < (cells : Int) := by omega
      have hj0 : (0 : Int) ≤ (j : Int) := by omega
      have Hs := Lib.hid (show vlst (pk ⟨vn, v⟩ c) k ++ [c j] = vlst (pk ⟨vn, v⟩ c) (k + 1) from by rw [← Hpk.out]; rfl)
      have Hle := Lib.hid (show (vlst (pk ⟨vn, v⟩ c) k).length ≤ 1048576 from by rw [vlst_length]; omega)
      clear hc hc2 hrow hj hjc Hpk
      go_wp2_with (at_builtin; refine wpList_plain (by rfl) fun K' hK' => ?_; refine wp_rowI _ _ 23 (by rfl) Try.underlying23 Try.infoInt Row.out (bl_alloc (Below.refl _ _) _) (by rfl) (by rfl) (heap_alloc_new _ _) Hle.out ?_; intro gg cap1 w3 hout; refine hK' _ _ ?_; clear hK' K')
      rw [Hs.out] at hout
      go_roundw
      case rel => exact ⟨k + 1, _, rfl, by omega, by go_num, hout⟩
      case measure => simp [intOf]; omega
    · have e : k = vn := by omega
      subst e
      obtain ⟨A2, cap2, hov, hF⟩ := hrow.fr
      rw [vlst_length] at hov hF
      subst hov
      have HL := Lib.hid ((hF.congr (v' := pk ⟨k, v⟩ c) (fun i hi => gI_vlst hi)).rdAt)
      have HV2 := Lib.hid (HV.out.later hb)
      have HC2 := Lib.hid (HC.out.later hb)
      have HR2 := Lib.hid (HR.out.later hb)
      have HB2 := Lib.hid (HB.out.trans (hb.mono (by rw [HSz.out]; omega)))
      clear hrow Row Row0 hF hb HB HV HC HR hlt hk
      generalize hp : pk ⟨k, v⟩ c = p at *
      obtain ⟨W3, rfl⟩ : ∃ X, X = wr := ⟨_, rfl⟩
      have A0 := Lib.hid a0
      have A1 := Lib.hid a1
      have A2 := Lib.hid a2
      have A3 := Lib.hid a3
      have A4 := Lib.hid a4
      clear a0 a1 a2 a3 a4
      by_cases k1 : k0 = 1
      · subst k1
        obtain ⟨hcn, hco⟩ := HOk.out.lin rfl
        simp only at hcn hco
        subst hcn
        have HCo := Lib.hid hco
        clear hco
        have Hd := Lib.hid (show ∀ z, decide (bd ≤ linS a p cn) = z → holdB ⟨1, ⟨cn, v⟩, ⟨cn, a⟩, bd, n, r⟩ c = z from fun z hz => by unfold holdB; simp only [if_true]; rw [hp]; exact hz)
        have a0 := A0.out
        have a1 := A1.out
        have a2 := A2.out
        have a3 := A3.out
        have a4 := A4.out
        go_wp2
        go_loopw [7, 8] (fun t i wr => ∃ k : Nat, k ≤ cn ∧ i = .int .i64 k ∧ t = .int .i64 (linS a p k) ∧ Below W3.heap.size W3 wr) (fun _ i _ => cn - (intOf i).toNat)
        case atStart => exact ⟨0, Nat.zero_le _, rfl, rfl, Below.refl _ _⟩
        case round =>
          obtain ⟨k, hk, rfl, rfl, hb⟩ := hrel
          have a0 := kc hb A0.out
          have a2 := kc hb A2.out
          have a3 := kc hb A3.out
          obtain ⟨tb0, tb1⟩ := lin_bd (a := a) (p := p) (k := k) (fun i hi => HCo.out i (by omega)) (fun i hi => HP.out i (by omega))
          by_cases hlt : k < cn
          · obtain ⟨b1, off1, rfl, hbl1, hc1⟩ := (HC2.out.later hb) (by omega)
            have c1 := hc1 k hlt
            obtain ⟨b2, off2, rfl, hbl2, hc2⟩ := (HL.out.later hb) (by omega)
            have c2 := hc2 k hlt
            obtain ⟨mb0, mb1⟩ := mul_bd (HCo.out k hlt) (HP.out k hlt)
            have Hs := Lib.hid (show linS a p k + a k * p k = linS a p (k + 1) from rfl)
            clear hc1 hc2
            obtain ⟨y, hy⟩ : ∃ y, a k * p k = y := ⟨_, rfl⟩
            obtain ⟨z, hz⟩ : ∃ z, linS a p k = z := ⟨_, rfl⟩
            rw [hy, hz] at Hs
            rw [hy] at mb0 mb1
            rw [hz] at tb0 tb1
            have w1 : IntKind.i64.wrap (a k * p k) = y := by rw [hy]; exact IntWalk.i64_in _ (by omega)
            have w2 : IntKind.i64.wrap (z + y) = z + y := IntWalk.i64_in _ (by omega)
            have w3 : wrap64 y = y := IntWalk.wrap64_in _ (by omega)
            have w4 : wrap64 (z + y) = z + y := IntWalk.wrap64_in _ (by omega)
            have hlt' : (k : Int) < (cn : Int) := by omega
            have hk0 : (0 : Int) ≤ (k : Int) := by omega
            rw [hz]
            clear hz tb0 tb1 mb0 mb1
            go_wp2_with fail
            try go_quiet (fail)
            try go_wp2
            go_roundw
            case rel => exact ⟨k + 1, by omega, by go_num, by (have h := Hs.out; first | (rw [← h]; done) | (rw [h]; done) | (rw [← h]; simp [hy]; done)), by first | exact hb | exact bl_drewN hb _⟩
            case measure => simp [intOf]; omega
          · have e : k = cn := by omega
            subst e
            by_cases hz : bd ≤ linS a p k
            · have He := Lib.hid (Hd.out true (by simp [hz]))
              generalize linS a p k = z at *
              go_wp2_with fail
              try go_quiet (fail)
              try go_wp2
              go_ret
              exact ⟨ret_bool (by have he := He.out; first | exact he.symm | (rw [he]; simp [hz]; done) | (rw [he]; simp; omega)), by first | exact HB2.out.trans (by first | exact hb.mono (by have := HB2.out.size; omega) | exact (bl_drewN hb _).mono (by have := HB2.out.size; omega)) | (rw [← hHe]; exact HB2.out.trans (by first | exact hb.mono (by have := HB2.out.size; omega) | exact (bl_drewN hb _).mono (by have := HB2.out.size; omega)))⟩
            · have He := Lib.hid (Hd.out false (by simp [hz]))
              generalize linS a p k = z at *
              go_wp2_with fail
              try go_quiet (fail)
              try go_wp2
              go_ret
              exact ⟨ret_bool (by have he := He.out; first | exact he.symm | (rw [he]; simp [hz]; done) | (rw [he]; simp; omega)), by first | exact HB2.out.trans (by first | exact hb.mono (by have := HB2.out.size; omega) | exact (bl_drewN hb _).mono (by have := HB2.out.size; omega)) | (rw [← hHe]; exact HB2.out.trans (by first | exact hb.mono (by have := HB2.out.size; omega) | exact (bl_drewN hb _).mono (by have := HB2.out.size; omega)))⟩
      by_cases k2 : k0 = 2
      · subst k2
        have Hd := Lib.hid (show ∀ z, prE (newB p) k = z → holdB ⟨2, ⟨k, v⟩, ⟨cn, a⟩, bd, n, r⟩ c = z from fun z hz => by unfold holdB; rw [if_neg (show ¬ (2 : Int) = 1 by decide), if_pos rfl]; simp only; rw [hp]; exact hz)
        have a0 := A0.out
        have a1 := A1.out
        have a2 := A2.out
        have a3 := A3.out
        have a4 := A4.out
        obtain ⟨vn, rfl⟩ : ∃ X, X = k := ⟨_, rfl⟩
        go_wp2
        go_loopw [9] (fun i wr => ∃ k : Nat, k ≤ vn ∧ i = .int .i64 k ∧ prE (newB p) k = true ∧ Below W3.heap.size W3 wr) (fun i _ => vn - (intOf i).toNat)
        case atStart => exact ⟨0, Nat.zero_le _, rfl, rfl, Below.refl _ _⟩
        case round =>
          obtain ⟨k, hk, rfl, hq, hb⟩ := hrel
          have Hq := Lib.hid hq
          clear hq
          have a0 := kc hb A0.out
          by_cases hlt : k < vn
          · have hlt' : (k : Int) < (vn : Int) := by omega
            have hk0 : (0 : Int) ≤ (k : Int) := by omega
            have HL2 := Lib.hid (HL.out.later hb)
            obtain ⟨W4, rfl⟩ : ∃ X, X = wr := ⟨_, rfl⟩
            have HB4 := Lib.hid hb
            clear hb
            go_wp2
            go_loopw [10] (fun i wr => ∃ j : Nat, j ≤ k ∧ i = .int .i64 j ∧ prE (fun t => p t != p k) j = true ∧ Below W4.heap.size W4 wr) (fun i _ => k - (intOf i).toNat)
            case atStart => exact ⟨0, Nat.zero_le _, rfl, rfl, Below.refl _ _⟩
            case round =>
              obtain ⟨j, hj, rfl, hq, hb⟩ := hrel
              have Hq2 := Lib.hid hq
              clear hq
              by_cases hjk : j < k
              · obtain ⟨b2, off2, rfl, hbl2, hc2⟩ := (HL2.out.later hb) (by omega)
                have c2 := hc2 j (by omega)
                have c3 := hc2 k (by omega)
                have hj1 : (j : Int) < (k : Int) := by omega
                have hj0 : (0 : Int) ≤ (j : Int) := by omega
                have hj2 : (j : Int) < (vn : Int) := by omega
                clear hc2
                by_cases he : p j = p k
                · have Hno := Lib.hid (Hd.out false (prE_no hlt (show newB p k = false from prE_no (e := fun t => p t != p k) hjk (by simp [he]))))
                  go_wp2_with fail
                  try go_quiet (fail)
                  try go_wp2
                  go_ret
                  exact ⟨ret_bool (by have he := Hno.out; first | exact he.symm | (rw [he]; simp [hz]; done) | (rw [he]; simp; omega)), by first | exact HB2.out.trans ((HB4.out.trans ((by first | exact hb | exact bl_drewN hb _ : Below W4.heap.size W4 _).mono HB4.out.size)).mono (by have := HB2.out.size; omega)) | (rw [← hHe]; exact HB2.out.trans ((HB4.out.trans ((by first | exact hb | exact bl_drewN hb _ : Below W4.heap.size W4 _).mono HB4.out.size)).mono (by have := HB2.out.size; omega)))⟩
                · have Hy := Lib.hid (prE_yes (e := fun t => p t != p k) Hq2.out (by simpa using he))
                  go_wp2_with fail
                  try go_quiet (fail)
                  try go_wp2
                  go_roundw
                  case rel => exact ⟨j + 1, by omega, by go_num, Hy.out, by first | exact hb | exact bl_drewN hb _⟩
                  case measure => simp [intOf]; omega
              · have e : j = k := by omega
                subst e
                have Hy := Lib.hid (prE_yes (e := newB p) Hq.out Hq2.out)
                go_wp2
                go_roundw
                case rel => exact ⟨j + 1, by omega, by go_num, Hy.out, HB4.out.trans (hb.mono HB4.out.size)⟩
                case measure => simp [intOf]; omega
          · have e : k = vn := by omega
            subst e
            have He := Lib.hid (Hd.out true Hq.out)
            go_wp2
            go_ret
            exact ⟨ret_bool (by have he := He.out; first | exact he.symm | (rw [he]; simp [hz]; done) | (rw [he]; simp; omega)), by first | exact HB2.out.trans (hb.mono (by have := HB2.out.size; omega)) | (rw [← hHe]; exact HB2.out.trans (hb.mono (by have := HB2.out.size; omega)))⟩
      by_cases k4 : k0 = 4
      · subst k4
        have hk2 := HOk.out.two rfl
        simp only at hk2
        subst hk2
        have Hd := Lib.hid (show ∀ z, decide (p 0 < p 1) = z → holdB ⟨4, ⟨2, v⟩, ⟨cn, a⟩, bd, n, r⟩ c = z from fun z hz => by unfold holdB; rw [if_neg (show ¬ (4 : Int) = 1 by decide), if_neg (show ¬ (4 : Int) = 2 by decide), if_pos rfl]; simp only; rw [hp]; exact hz)
        have a0 := A0.out
        have a1 := A1.out
        have a2 := A2.out
        have a3 := A3.out
        have a4 := A4.out
        obtain ⟨b2, off2, rfl, hbl2, hc2⟩ := HL.out (by omega)
        have c2 := hc2 0 (by omega)
        have c3 := hc2 1 (by omega)
        rw [Nat.add_zero] at c2
        clear hc2
        by_cases hz : p 0 < p 1
        · have He := Lib.hid (Hd.out true (by simp [hz]))
          go_wp2_with fail
          try go_quiet (fail)
          try go_wp2
          go_ret
          exact ⟨ret_bool (by have he := He.out; first | exact he.symm | (rw [he]; simp [hz]; done) | (rw [he]; simp; omega)), by first | exact by first | exact HB2.out | exact bl_drewN HB2.out _ | (rw [← hHe]; exact by first | exact HB2.out | exact bl_drewN HB2.out _)⟩
        · have He := Lib.hid (Hd.out false (by simp [hz]))
          go_wp2_with fail
          try go_quiet (fail)
          try go_wp2
          go_ret
          exact ⟨ret_bool (by have he := He.out; first | exact he.symm | (rw [he]; simp [hz]; done) | (rw [he]; simp; omega)), by first | exact by first | exact HB2.out | exact bl_drewN HB2.out _ | (rw [← hHe]; exact by first | exact HB2.out | exact bl_drewN HB2.out _)⟩
      have k3 : k0 = 3 := by have := HOk.out.kind; simp only at this; omega
      subst k3
      have Hd := Lib.hid (show ∀ z, anyQ (fun j => lsE (r j) ⟨k, p⟩) n = z → holdB ⟨3, ⟨k, v⟩, ⟨cn, a⟩, bd, n, r⟩ c = z from fun z hz => by unfold holdB; rw [if_neg (show ¬ (3 : Int) = 1 by decide), if_neg (show ¬ (3 : Int) = 2 by decide), if_neg (show ¬ (3 : Int) = 4 by decide)]; simp only; rw [hp]; exact hz)
      have a0 := A0.out
      have a1 := A1.out
      have a2 := A2.out
      have a3 := A3.out
      have a4 := A4.out
      go_wp2
      go_loopw [11] (fun i wr => ∃ j : Nat, j ≤ n ∧ i = .int .i64 j ∧ anyQ (fun j => lsE (r j) ⟨k, p⟩) j = false ∧ Below W3.heap.size W3 wr) (fun i _ => n - (intOf i).toNat)
      case atStart => exact ⟨0, Nat.zero_le _, rfl, rfl, Below.refl _ _⟩
      case round =>
        obtain ⟨j, hj, rfl, hq, hb⟩ := hrel
        have Hq := Lib.hid hq
        clear hq
        have a0 := kc hb A0.out
        have a4 := kc hb A4.out
        by_cases hlt : j < n
        · obtain ⟨bb, off, rfl, hbl, hc⟩ := (HR2.out.later hb) (by omega)
          obtain ⟨Ai, ci, hc1, hrk⟩ := hc j hlt
          have hlt' : (j : Int) < (n : Int) := by omega
          have hj0 : (0 : Int) ≤ (j : Int) := by omega
          have HRk := Lib.hid hrk
          clear hc hrk
          go_wp2_with fail
          refine (l6Ints_any (r j) ⟨k, p⟩ _ _ _ _ _ (M4.out j hlt) m1 HRk.out (HL.out.later hb)).mono ?_
          rintro e w5 ⟨rfl, hb5⟩
          have HB5 := Lib.hid (hb.trans (hb5.mono hb.size))
          clear hb5
          cases hz : lsE (r j) ⟨k, p⟩ with
          | true =>
            have He := Lib.hid (Hd.out true (anyQ_of hlt hz))
            clear hz
            go_wp2
            go_ret
            exact ⟨ret_bool (by have he := He.out; first | exact he.symm | (rw [he]; simp [hz]; done) | (rw [he]; simp; omega)), by first | exact HB2.out.trans (HB5.out.mono (by have := HB2.out.size; omega)) | (rw [← hHe]; exact HB2.out.trans (HB5.out.mono (by have := HB2.out.size; omega)))⟩
          | false =>
            have Hno := Lib.hid (anyQ_step Hq.out hz)
            clear hz
            go_wp2
            go_roundw
            case rel => exact ⟨j + 1, by omega, by go_num, Hno.out, HB5.out⟩
            case measure => simp [intOf]; omega
        · have e : j = n := by omega
          subst e
          have He := Lib.hid (Hd.out false Hq.out)
          go_wp2
          go_ret
          exact ⟨ret_bool (by have he := He.out; first | exact he.symm | (rw [he]; simp [hz]; done) | (rw [he]; simp; omega)), by first | exact HB2.out.trans (hb.mono (by have := HB2.out.size; omega)) | (rw [← hHe]; exact HB2.out.trans (hb.mono (by have := HB2.out.size; omega)))⟩
end Go.Proofs.Ythjcbaccoogloaa

namespace Go.Proofs.Ythjcbaccoogloaa
open Go.ChangeShapes Go.WideShapes Go.ChangeAt Go.RowKit

/-- Element i of the array of the values of n cells. -/
def cvV (n : Nat) (c : Nat → Int) (i : Nat) : Int := if i < n then c i else 0
/-- Five values as an array. -/
def arr5 (u : Nat → Int) : Value := .agg #[.int .i64 (u 0), .int .i64 (u 1), .int .i64 (u 2), .int .i64 (u 3), .int .i64 (u 4)]
theorem row5 {n i : Nat} (c : Nat → Int) (hi : i < 5) :
    ((#[Value.int .i64 0, .int .i64 0, .int .i64 0, .int .i64 0, .int .i64 0] : Array Value).toList.take 0 ++ ((vlst c n).map vI ++ (#[Value.int .i64 0, .int .i64 0, .int .i64 0, .int .i64 0, .int .i64 0] : Array Value).toList.drop (0 + ((vlst c n).map vI).length))).toArray[i]? = some (.int .i64 (cvV n c i)) := by
  have hl : ((vlst c n).map vI).length = n := by rw [List.length_map, vlst_length]
  rw [hl, List.getElem?_toArray, List.take_zero, List.nil_append, Nat.zero_add]
  unfold cvV
  by_cases h : i < n
  · rw [if_pos h, List.getElem?_append_left (by omega), List.getElem?_map, vlst_get c h]
    rfl
  · rw [if_neg h, List.getElem?_append_right (by omega), hl, List.getElem?_drop, show n + (i - n) = i by omega]
    have : i = 0 ∨ i = 1 ∨ i = 2 ∨ i = 3 ∨ i = 4 := by omega
    rcases this with rfl | rfl | rfl | rfl | rfl <;> rfl
theorem cell_set5 {w : World} {g i : Nat} {cs cs0 : Array Value} {t : TypeId} {u : Value} (h : w.heap[g]? = some (.cells cs0 t (0, 0))) (hu : cs[i]? = some u) : (w.setRow g cs).cell? ⟨g, i, none⟩ = some u := by
  have := setRow_heap w g cs0 cs t (0, 0) h
  exact (cell_of_row _ g i cs _ _ this).trans hu
theorem len_vlst (c : Nat → Int) (n : Nat) : ((vlst c n).map vI).length = n := by rw [List.length_map, vlst_length]
theorem fit5 (c : Nat → Int) {n : Nat} (hn : n ≤ 5) : 0 + ((vlst c n).map vI).length ≤ (#[Value.int .i64 0, .int .i64 0, .int .i64 0, .int .i64 0, .int .i64 0] : Array Value).size := by rw [len_vlst]; show 0 + n ≤ 5; omega
theorem one_vlst (c : Nat → Int) (n : Nat) : ∀ v ∈ (vlst c n).map vI, v.oneCell' = true := by
  intro v hv
  obtain ⟨x, _, rfl⟩ := List.mem_map.1 hv
  rfl
theorem src_vlst {w : World} {b off n : Nat} {c : Nat → Int} (h : ∀ i, i < n → w.cell? ⟨b, off + i, none⟩ = some (.int .i64 (c i))) : ∀ j v, ((vlst c n).map vI)[j]? = some v → w.cell? ((⟨b, off, none⟩ : Addr).add j) = some v := by
  intro j v hj
  rw [List.getElem?_map] at hj
  by_cases hlt : j < n
  · rw [vlst_get c hlt] at hj
    injection hj with hj
    subst hj
    have := h j hlt
    unfold Addr.add
    by_cases e : j = 0
    · subst e; rw [if_pos rfl]; rw [Nat.add_zero] at this; exact this
    · rw [if_neg e]; exact this
  · rw [List.getElem?_eq_none (by rw [vlst_length]; omega)] at hj
    cases hj

set_option maxRecDepth 100000 in
set_option maxHeartbeats 1600000 in
theorem cvo_any (n cap : Nat) (A : Option Addr) (c : Nat → Int) (w : World) (hn : n ≤ 5) (hn1 : 1 ≤ n) (hr : RdI w w.heap.size A n c) :
    Calls Try.prog 46 #[.slice A n cap] w fun e w' => e = .returned (arr5 (cvV n c)) ∧ Below w.heap.size w w' := by
  have hb1 := bl_alloc (bl_alloc (Below.refl w.heap.size w) (.cells #[.int .i64 0, .int .i64 0, .int .i64 0, .int .i64 0, .int .i64 0] 71)) (.cells #[.int .i64 0, .int .i64 0, .int .i64 0, .int .i64 0, .int .i64 0] 71)
  obtain ⟨b, off, rfl, hbl, hc⟩ := (hr.later hb1) (by omega)
  have HC := Lib.hid hc
  have HB := Lib.hid hb1
  have hh : ((w.alloc (.cells #[.int .i64 0, .int .i64 0, .int .i64 0, .int .i64 0, .int .i64 0] 71)).alloc (.cells #[.int .i64 0, .int .i64 0, .int .i64 0, .int .i64 0, .int .i64 0] 71)).heap[w.heap.size + 1]? = some (.cells #[.int .i64 0, .int .i64 0, .int .i64 0, .int .i64 0, .int .i64 0] 71 (0, 0)) := by
    have := heap_alloc_new (w.alloc (.cells #[.int .i64 0, .int .i64 0, .int .i64 0, .int .i64 0, .int .i64 0] 71)) (.cells #[.int .i64 0, .int .i64 0, .int .i64 0, .int .i64 0, .int .i64 0] 71)
    simpa using this
  have HH := Lib.hid hh
  have HS := Lib.hid (fun i (hi : i < 5) => cell_set5 hh (row5 (n := n) c hi))
  have HU := Lib.hid (fun r => below_setRow (Below.refl (w.heap.size + 1) ((w.alloc (.cells #[.int .i64 0, .int .i64 0, .int .i64 0, .int .i64 0, .int .i64 0] 71)).alloc (.cells #[.int .i64 0, .int .i64 0, .int .i64 0, .int .i64 0, .int .i64 0] 71))) (Nat.le_refl _) r)
  have z0 : ((w.alloc (.cells #[.int .i64 0, .int .i64 0, .int .i64 0, .int .i64 0, .int .i64 0] 71)).alloc (.cells #[.int .i64 0, .int .i64 0, .int .i64 0, .int .i64 0, .int .i64 0] 71)).cell? ⟨w.heap.size, 0, none⟩ = some (.int .i64 0) := by go_simp
  have z1 : ((w.alloc (.cells #[.int .i64 0, .int .i64 0, .int .i64 0, .int .i64 0, .int .i64 0] 71)).alloc (.cells #[.int .i64 0, .int .i64 0, .int .i64 0, .int .i64 0, .int .i64 0] 71)).cell? ⟨w.heap.size, 1, none⟩ = some (.int .i64 0) := by go_simp
  have z2 : ((w.alloc (.cells #[.int .i64 0, .int .i64 0, .int .i64 0, .int .i64 0, .int .i64 0] 71)).alloc (.cells #[.int .i64 0, .int .i64 0, .int .i64 0, .int .i64 0, .int .i64 0] 71)).cell? ⟨w.heap.size, 2, none⟩ = some (.int .i64 0) := by go_simp
  have z3 : ((w.alloc (.cells #[.int .i64 0, .int .i64 0, .int .i64 0, .int .i64 0, .int .i64 0] 71)).alloc (.cells #[.int .i64 0, .int .i64 0, .int .i64 0, .int .i64 0, .int .i64 0] 71)).cell? ⟨w.heap.size, 3, none⟩ = some (.int .i64 0) := by go_simp
  have z4 : ((w.alloc (.cells #[.int .i64 0, .int .i64 0, .int .i64 0, .int .i64 0, .int .i64 0] 71)).alloc (.cells #[.int .i64 0, .int .i64 0, .int .i64 0, .int .i64 0, .int .i64 0] 71)).cell? ⟨w.heap.size, 4, none⟩ = some (.int .i64 0) := by go_simp
  have f0 : ((w.alloc (.cells #[.int .i64 0, .int .i64 0, .int .i64 0, .int .i64 0, .int .i64 0] 71)).alloc (.cells #[.int .i64 0, .int .i64 0, .int .i64 0, .int .i64 0, .int .i64 0] 71)).frozen? ⟨w.heap.size, 0, none⟩ = false := by go_simp
  have f1 : ((w.alloc (.cells #[.int .i64 0, .int .i64 0, .int .i64 0, .int .i64 0, .int .i64 0] 71)).alloc (.cells #[.int .i64 0, .int .i64 0, .int .i64 0, .int .i64 0, .int .i64 0] 71)).frozen? ⟨w.heap.size, 1, none⟩ = false := by go_simp
  have f2 : ((w.alloc (.cells #[.int .i64 0, .int .i64 0, .int .i64 0, .int .i64 0, .int .i64 0] 71)).alloc (.cells #[.int .i64 0, .int .i64 0, .int .i64 0, .int .i64 0, .int .i64 0] 71)).frozen? ⟨w.heap.size, 2, none⟩ = false := by go_simp
  have f3 : ((w.alloc (.cells #[.int .i64 0, .int .i64 0, .int .i64 0, .int .i64 0, .int .i64 0] 71)).alloc (.cells #[.int .i64 0, .int .i64 0, .int .i64 0, .int .i64 0, .int .i64 0] 71)).frozen? ⟨w.heap.size, 3, none⟩ = false := by go_simp
  have f4 : ((w.alloc (.cells #[.int .i64 0, .int .i64 0, .int .i64 0, .int .i64 0, .int .i64 0] 71)).alloc (.cells #[.int .i64 0, .int .i64 0, .int .i64 0, .int .i64 0, .int .i64 0] 71)).frozen? ⟨w.heap.size, 4, none⟩ = false := by go_simp
  clear hc hb1 hr hh
  go_enter Try.func46, Try.ntmps46
  go_wp2_with (with_reducible show wpList _ _ _ _ _ _; with_reducible refine wpList_copy_own rfl (.tmp 4) (.tmp 5) 23 23 rfl 3 Try.underlying23 (by kernel_rfl) (w.heap.size + 1) 0 5 5 ⟨b, off, none⟩ n cap rfl rfl _ _ HH.out ((vlst c n).map vI) ((len_vlst c n).trans (Nat.min_eq_left hn).symm) (src_vlst HC.out) (fit5 c hn) (one_vlst c n) ?_; have s0 := HS.out 0 (by omega); have s1 := HS.out 1 (by omega); have s2 := HS.out 2 (by omega); have s3 := HS.out 3 (by omega); have s4 := HS.out 4 (by omega); have hU := HU.out ((#[Value.int .i64 0, .int .i64 0, .int .i64 0, .int .i64 0, .int .i64 0] : Array Value).toList.take 0 ++ ((vlst c n).map vI ++ (#[Value.int .i64 0, .int .i64 0, .int .i64 0, .int .i64 0, .int .i64 0] : Array Value).toList.drop (0 + ((vlst c n).map vI).length))).toArray; replace z0 := (hU.cell (p := ⟨w.heap.size, 0, none⟩) (Nat.lt_succ_self _)).trans z0; replace z1 := (hU.cell (p := ⟨w.heap.size, 1, none⟩) (Nat.lt_succ_self _)).trans z1; replace z2 := (hU.cell (p := ⟨w.heap.size, 2, none⟩) (Nat.lt_succ_self _)).trans z2; replace z3 := (hU.cell (p := ⟨w.heap.size, 3, none⟩) (Nat.lt_succ_self _)).trans z3; replace z4 := (hU.cell (p := ⟨w.heap.size, 4, none⟩) (Nat.lt_succ_self _)).trans z4; replace f0 := (hU.frozen (p := ⟨w.heap.size, 0, none⟩) (Nat.lt_succ_self _)).trans f0; replace f1 := (hU.frozen (p := ⟨w.heap.size, 1, none⟩) (Nat.lt_succ_self _)).trans f1; replace f2 := (hU.frozen (p := ⟨w.heap.size, 2, none⟩) (Nat.lt_succ_self _)).trans f2; replace f3 := (hU.frozen (p := ⟨w.heap.size, 3, none⟩) (Nat.lt_succ_self _)).trans f3; replace f4 := (hU.frozen (p := ⟨w.heap.size, 4, none⟩) (Nat.lt_succ_self _)).trans f4; have HB2 := Lib.hid (HB.out.trans (hU.mono (Nat.le_succ _))); clear hU HS HU HB HH HC; generalize ((w.alloc (.cells #[.int .i64 0, .int .i64 0, .int .i64 0, .int .i64 0, .int .i64 0] 71)).alloc (.cells #[.int .i64 0, .int .i64 0, .int .i64 0, .int .i64 0, .int .i64 0] 71)).setRow (w.heap.size + 1) ((#[Value.int .i64 0, .int .i64 0, .int .i64 0, .int .i64 0, .int .i64 0] : Array Value).toList.take 0 ++ ((vlst c n).map vI ++ (#[Value.int .i64 0, .int .i64 0, .int .i64 0, .int .i64 0, .int .i64 0] : Array Value).toList.drop (0 + ((vlst c n).map vI).length))).toArray = W5 at *)
  refine bodyPost_ret (v := arr5 (cvV n c)) (by simp [results, Try.results46, go_sem, z0, z1, z2, z3, z4, arr5]) rfl ?_
  refine ⟨rfl, ?_⟩
  exact ((((HB2.out.setCell (p := ⟨w.heap.size, 0, none⟩) (Nat.le_refl _) _).setCell (p := ⟨w.heap.size, 1, none⟩) (Nat.le_refl _) _).setCell (p := ⟨w.heap.size, 2, none⟩) (Nat.le_refl _) _).setCell (p := ⟨w.heap.size, 3, none⟩) (Nat.le_refl _) _).setCell (p := ⟨w.heap.size, 4, none⟩) (Nat.le_refl _) _
end Go.Proofs.Ythjcbaccoogloaa

namespace Go.Proofs.Ythjcbaccoogloaa
open Go.ChangeShapes Go.WideShapes Go.ChangeAt Go.RowKit

theorem at_cell {W : World} {H j : Nat} {u : Nat → Int} (h0 : W.cell? ⟨H, 0, none⟩ = some (.int .i64 (u 0))) (h1 : W.cell? ⟨H, 1, none⟩ = some (.int .i64 (u 1))) (h2 : W.cell? ⟨H, 2, none⟩ = some (.int .i64 (u 2))) (h3 : W.cell? ⟨H, 3, none⟩ = some (.int .i64 (u 3))) (h4 : W.cell? ⟨H, 4, none⟩ = some (.int .i64 (u 4))) (hj : j < 5) : W.cell? ⟨H, j, none⟩ = some (.int .i64 (u j)) := by
  have : j = 0 ∨ j = 1 ∨ j = 2 ∨ j = 3 ∨ j = 4 := by omega
  rcases this with rfl | rfl | rfl | rfl | rfl
  · exact h0
  · exact h1
  · exact h2
  · exact h3
  · exact h4

set_option maxRecDepth 100000 in
set_option maxHeartbeats 1600000 in
theorem at_any (v : Lst) (cap : Nat) (A : Option Addr) (u : Nat → Int) (w : World) (hn : v.n ≤ 1048576) (hx : ∀ i, i < v.n → 0 ≤ v.x i ∧ v.x i < 5) (hr : RdI w w.heap.size A v.n v.x) :
    Calls Try.prog 165 #[arr5 u, .slice A v.n cap] w fun e w' => ∃ G, e = .returned (.slice (some ⟨G, 0, none⟩) v.n v.n) ∧ w.heap.size ≤ G ∧ OwnI w' G v.n v.n (pk v u) ∧ Below w.heap.size w w' := by
  obtain ⟨n, x⟩ := v
  simp only at hn hx hr ⊢
  obtain ⟨i0, hi, hz0, hz1, hz2⟩ := info_parts Try.infoInt
  have hmk := fun W => run_make (P := Try.prog) W 23 3 i0 _ Try.underlying23 hi hz0 .i64 .i64 (n : Int) n (by omega) (by omega) (by rw [hz2]; omega) (by omega)
  rw [hz1] at hmk
  have HXx := Lib.hid hx
  have hb1 := bl_alloc (Below.refl w.heap.size w) (.cells #[.int .i64 (u 0), .int .i64 (u 1), .int .i64 (u 2), .int .i64 (u 3), .int .i64 (u 4)] 71)
  have HB := Lib.hid hb1
  have HR := Lib.hid (hr.later hb1)
  have a0 : (w.alloc (.cells #[.int .i64 (u 0), .int .i64 (u 1), .int .i64 (u 2), .int .i64 (u 3), .int .i64 (u 4)] 71)).cell? ⟨w.heap.size, 0, none⟩ = some (.int .i64 (u 0)) := by go_simp
  have a1 : (w.alloc (.cells #[.int .i64 (u 0), .int .i64 (u 1), .int .i64 (u 2), .int .i64 (u 3), .int .i64 (u 4)] 71)).cell? ⟨w.heap.size, 1, none⟩ = some (.int .i64 (u 1)) := by go_simp
  have a2 : (w.alloc (.cells #[.int .i64 (u 0), .int .i64 (u 1), .int .i64 (u 2), .int .i64 (u 3), .int .i64 (u 4)] 71)).cell? ⟨w.heap.size, 2, none⟩ = some (.int .i64 (u 2)) := by go_simp
  have a3 : (w.alloc (.cells #[.int .i64 (u 0), .int .i64 (u 1), .int .i64 (u 2), .int .i64 (u 3), .int .i64 (u 4)] 71)).cell? ⟨w.heap.size, 3, none⟩ = some (.int .i64 (u 3)) := by go_simp
  have a4 : (w.alloc (.cells #[.int .i64 (u 0), .int .i64 (u 1), .int .i64 (u 2), .int .i64 (u 3), .int .i64 (u 4)] 71)).cell? ⟨w.heap.size, 4, none⟩ = some (.int .i64 (u 4)) := by go_simp
  have hsz : (w.alloc (.cells #[.int .i64 (u 0), .int .i64 (u 1), .int .i64 (u 2), .int .i64 (u 3), .int .i64 (u 4)] 71)).heap.size = w.heap.size + 1 := by simp
  have HSz := Lib.hid hsz
  have HA := Lib.hid (fun j (hj : j < 5) => at_cell (j := j) a0 a1 a2 a3 a4 hj)
  clear hi hz0 hz1 hz2 hx hr hb1 a0 a1 a2 a3 a4 hsz
  unfold arr5
  go_enter Try.func165, Try.ntmps165
  go_wp2_with fail
  generalize (w.alloc (.cells #[.int .i64 (u 0), .int .i64 (u 1), .int .i64 (u 2), .int .i64 (u 3), .int .i64 (u 4)] 71)) = W1 at *
  rw [← HSz.out]
  go_loopw [13] (fun i wr => ∃ k : Nat, k ≤ n ∧ i = .int .i64 k ∧ OwnI wr W1.heap.size n k (pk ⟨n, x⟩ u) ∧ Below W1.heap.size W1 wr) (fun i _ => n - (intOf i).toNat)
  case atStart => exact ⟨0, Nat.zero_le _, rfl, ⟨_, heap_alloc_new _ _, by simp [size_madeCells], fun i hi => absurd hi (by omega)⟩, bl_alloc (Below.refl _ _) _⟩
  case round =>
    obtain ⟨k, hk, rfl, hown, hb⟩ := hrel
    by_cases hlt : k < n
    · obtain ⟨b, off, rfl, hbl, hc⟩ := (HR.out.below hb) (by omega)
      have hc1 := hc k hlt
      obtain ⟨hx0, hx5⟩ := HXx.out k hlt
      obtain ⟨j, hj⟩ : ∃ j : Nat, x k = (j : Int) := ⟨(x k).toNat, by omega⟩
      have hj5 : j < 5 := by omega
      have hc2 := kc hb (HA.out j hj5)
      have Hpk := Lib.hid (show pk ⟨n, x⟩ u k = u j from by unfold pk; simp only; rw [hj]; rfl)
      rw [hj] at hc1
      obtain ⟨y1, hy1⟩ := hown.cell hlt
      have hf1 := hown.frozen k
      have hj0 : (0 : Int) ≤ (j : Int) := by omega
      have hj5' : (j : Int) < 5 := by omega
      have Hput := Lib.hid (hown.put hlt)
      rw [Hpk.out] at Hput
      have HBk := Lib.hid hb
      have hltI : (k : Int) < (n : Int) := by omega
      have hk0 : (0 : Int) ≤ (k : Int) := by omega
      clear hc hmk hj hx0 hx5 hown hb
      go_wp2
      go_roundw
      case rel => exact ⟨k + 1, by omega, by go_num, Hput.out, HBk.out.setCell (Nat.le_refl _) _⟩
      case measure => simp [intOf]; omega
    · have e : k = n := by omega
      subst e
      go_wp2
      go_ret
      exact ⟨_, rfl, by rw [HSz.out]; omega, hown, HB.out.trans (hb.mono (by rw [HSz.out]; omega))⟩
end Go.Proofs.Ythjcbaccoogloaa

namespace Go.Proofs.Ythjcbaccoogloaa
open Go.ChangeShapes Go.WideShapes Go.ChangeAt Go.RowKit

theorem hold1 {k bd : Int} {v c : Lst} {n : Nat} {r : Nat → Lst} {u : Nat → Int} (h : k = 1) : holdB ⟨k, v, c, bd, n, r⟩ u = decide (bd ≤ linS c.x (pk v u) v.n) := by unfold holdB; simp [h]
theorem hold2 {k bd : Int} {v c : Lst} {n : Nat} {r : Nat → Lst} {u : Nat → Int} (h : k = 2) : holdB ⟨k, v, c, bd, n, r⟩ u = prE (newB (pk v u)) v.n := by unfold holdB; simp [h]
theorem hold4 {k bd : Int} {v c : Lst} {n : Nat} {r : Nat → Lst} {u : Nat → Int} (h : k = 4) : holdB ⟨k, v, c, bd, n, r⟩ u = decide (pk v u 0 < pk v u 1) := by unfold holdB; simp [h]
theorem hold3 {k bd : Int} {v c : Lst} {n : Nat} {r : Nat → Lst} {u : Nat → Int} (h : k = 3) : holdB ⟨k, v, c, bd, n, r⟩ u = anyQ (fun j => lsE (r j) ⟨v.n, pk v u⟩) n := by unfold holdB; simp [h]

set_option maxRecDepth 100000 in
set_option maxHeartbeats 1600000 in
theorem linCheck_any (k bd : Int) (v c : Lst) (n : Nat) (u : Nat → Int) (Av Ac Ar : Option Addr) (cv cc cr : Nat) (w : World) (m1 : v.n ≤ 1048576) (hcn : c.n = v.n) (hx : ∀ i, i < v.n → 0 ≤ v.x i ∧ v.x i < 5) (hco : ∀ i, i < c.n → -9 ≤ c.x i ∧ c.x i ≤ 9) (hp : ∀ i, i < v.n → 0 ≤ pk v u i ∧ pk v u i ≤ 3) (hv : RdI w w.heap.size Av v.n v.x) (hc : RdI w w.heap.size Ac c.n c.x) :
    Calls Try.prog 163 #[.agg #[.int .i64 k, .slice Av v.n cv, .slice Ac c.n cc, .int .i64 bd, .slice Ar n cr], arr5 u] w fun e w' => e = .returned (.bool (decide (bd ≤ linS c.x (pk v u) v.n))) ∧ Below w.heap.size w w' := by
  obtain ⟨vn, x⟩ := v
  obtain ⟨cn, a⟩ := c
  simp only at m1 hcn hx hco hp hv hc ⊢
  subst hcn
  have HP := Lib.hid hp
  have HCo := Lib.hid hco
  have HXx := Lib.hid hx
  have hb1 := bl_alloc (bl_alloc (Below.refl w.heap.size w) (.cells #[.int .i64 k, .slice Av cn cv, .slice Ac cn cc, .int .i64 bd, .slice Ar n cr] 115)) (.cells #[.int .i64 (u 0), .int .i64 (u 1), .int .i64 (u 2), .int .i64 (u 3), .int .i64 (u 4)] 71)
  have HB := Lib.hid hb1
  have HV := Lib.hid (hv.later hb1)
  have HC := Lib.hid (hc.later hb1)
  have a1 : ((w.alloc (.cells #[.int .i64 k, .slice Av cn cv, .slice Ac cn cc, .int .i64 bd, .slice Ar n cr] 115)).alloc (.cells #[.int .i64 (u 0), .int .i64 (u 1), .int .i64 (u 2), .int .i64 (u 3), .int .i64 (u 4)] 71)).cell? ⟨w.heap.size, 1, none⟩ = some (.slice Av cn cv) := by go_simp
  have a2 : ((w.alloc (.cells #[.int .i64 k, .slice Av cn cv, .slice Ac cn cc, .int .i64 bd, .slice Ar n cr] 115)).alloc (.cells #[.int .i64 (u 0), .int .i64 (u 1), .int .i64 (u 2), .int .i64 (u 3), .int .i64 (u 4)] 71)).cell? ⟨w.heap.size, 2, none⟩ = some (.slice Ac cn cc) := by go_simp
  have a3 : ((w.alloc (.cells #[.int .i64 k, .slice Av cn cv, .slice Ac cn cc, .int .i64 bd, .slice Ar n cr] 115)).alloc (.cells #[.int .i64 (u 0), .int .i64 (u 1), .int .i64 (u 2), .int .i64 (u 3), .int .i64 (u 4)] 71)).cell? ⟨w.heap.size, 3, none⟩ = some (.int .i64 bd) := by go_simp
  clear hx hco hp hv hc hb1
  unfold arr5
  go_enter Try.func163, Try.ntmps163
  go_wp2_with fail
  generalize ((w.alloc (.cells #[.int .i64 k, .slice Av cn cv, .slice Ac cn cc, .int .i64 bd, .slice Ar n cr] 115)).alloc (.cells #[.int .i64 (u 0), .int .i64 (u 1), .int .i64 (u 2), .int .i64 (u 3), .int .i64 (u 4)] 71)) = w1 at *
  refine (at_any ⟨cn, x⟩ cv Av u w1 m1 HXx.out HV.out).mono ?_
  rintro e w2 ⟨G, rfl, -, hown, hb⟩
  have HB2 := Lib.hid (bl_trans HB.out hb)
  have HC2 := Lib.hid (HC.out.later hb)
  have HO := Lib.hid hown.rdAt
  replace a1 := kc hb a1
  replace a2 := kc hb a2
  replace a3 := kc hb a3
  clear hb hown HB HC HV
  generalize hpk : pk ⟨cn, x⟩ u = p at *
  go_wp2
  go_loopw [5, 13] (fun t i wr => ∃ k : Nat, k ≤ cn ∧ i = .int .i64 k ∧ t = .int .i64 (linS a p k) ∧ Below w2.heap.size w2 wr) (fun _ i _ => cn - (intOf i).toNat)
  case atStart => exact ⟨0, Nat.zero_le _, rfl, rfl, Below.refl _ _⟩
  case round =>
    obtain ⟨j, hj, rfl, rfl, hb⟩ := hrel
    replace a1 := kc hb a1
    replace a2 := kc hb a2
    replace a3 := kc hb a3
    obtain ⟨tb0, tb1⟩ := lin_bd (a := a) (p := p) (k := j) (fun i hi => HCo.out i (by omega)) (fun i hi => HP.out i (by omega))
    by_cases hlt : j < cn
    · obtain ⟨b1, off1, rfl, hbl1, hc1⟩ := (HC2.out.later hb) (by omega)
      have c1 := hc1 j hlt
      obtain ⟨b2, off2, e2, hbl2, hc2⟩ := (HO.out.later hb) (by omega)
      have c2 := hc2 j hlt
      injection e2 with e2
      injection e2 with e3 e4
      subst e3 e4
      rw [Nat.zero_add] at c2
      obtain ⟨mb0, mb1⟩ := mul_bd (HCo.out j hlt) (HP.out j hlt)
      have Hs := Lib.hid (show linS a p j + a j * p j = linS a p (j + 1) from rfl)
      clear hc1 hc2
      obtain ⟨y, hy⟩ : ∃ y, a j * p j = y := ⟨_, rfl⟩
      obtain ⟨z, hz⟩ : ∃ z, linS a p j = z := ⟨_, rfl⟩
      rw [hy, hz] at Hs
      rw [hy] at mb0 mb1
      rw [hz] at tb0 tb1
      have w1' : IntKind.i64.wrap (a j * p j) = y := by rw [hy]; exact IntWalk.i64_in _ (by omega)
      have w2' : IntKind.i64.wrap (z + y) = z + y := IntWalk.i64_in _ (by omega)
      have w3' : wrap64 y = y := IntWalk.wrap64_in _ (by omega)
      have w4' : wrap64 (z + y) = z + y := IntWalk.wrap64_in _ (by omega)
      have hlt' : (j : Int) < (cn : Int) := by omega
      have hk0 : (0 : Int) ≤ (j : Int) := by omega
      rw [hz]
      clear hz tb0 tb1 mb0 mb1
      go_wp2_with fail
      try go_quiet (fail)
      try go_wp2
      go_roundw
      case rel => exact ⟨j + 1, by omega, by go_num, by (have h := Hs.out; first | (rw [← h]; done) | (rw [h]; done) | (rw [← h]; simp [hy]; done)), by first | exact hb | exact bl_drewN hb _⟩
      case measure => simp [intOf]; omega
    · have e : j = cn := by omega
      subst e
      by_cases hz : bd ≤ linS a p j
      · have He := Lib.hid (show decide (bd ≤ linS a (pk ⟨j, x⟩ u) j) = true from by rw [hpk]; simp [hz])
        generalize linS a p j = z at *
        go_wp2_with fail
        try go_quiet (fail)
        try go_wp2
        go_ret
        exact ⟨ret_bool (by have he := He.out; first | exact he.symm | (rw [hpk] at he; exact he.symm) | (rw [he]; simp [hz]; done)), bl_trans HB2.out (by first | exact hb | exact bl_drewN hb _)⟩
      · have He := Lib.hid (show decide (bd ≤ linS a (pk ⟨j, x⟩ u) j) = false from by rw [hpk]; simp [hz])
        generalize linS a p j = z at *
        go_wp2_with fail
        try go_quiet (fail)
        try go_wp2
        go_ret
        exact ⟨ret_bool (by have he := He.out; first | exact he.symm | (rw [hpk] at he; exact he.symm) | (rw [he]; simp [hz]; done)), bl_trans HB2.out (by first | exact hb | exact bl_drewN hb _)⟩

set_option maxRecDepth 100000 in
set_option maxHeartbeats 1600000 in
theorem difCheck_any (k bd : Int) (v c : Lst) (n : Nat) (u : Nat → Int) (Av Ac Ar : Option Addr) (cv cc cr : Nat) (w : World) (m1 : v.n ≤ 1048576) (hx : ∀ i, i < v.n → 0 ≤ v.x i ∧ v.x i < 5) (hv : RdI w w.heap.size Av v.n v.x) :
    Calls Try.prog 168 #[.agg #[.int .i64 k, .slice Av v.n cv, .slice Ac c.n cc, .int .i64 bd, .slice Ar n cr], arr5 u] w fun e w' => e = .returned (.bool (prE (newB (pk v u)) v.n)) ∧ Below w.heap.size w w' := by
  have HXx := Lib.hid hx
  have hb1 := bl_alloc (bl_alloc (Below.refl w.heap.size w) (.cells #[.int .i64 k, .slice Av v.n cv, .slice Ac c.n cc, .int .i64 bd, .slice Ar n cr] 116)) (.cells #[.int .i64 (u 0), .int .i64 (u 1), .int .i64 (u 2), .int .i64 (u 3), .int .i64 (u 4)] 71)
  have HB := Lib.hid hb1
  have HV := Lib.hid (hv.later hb1)
  clear hx hv hb1
  unfold arr5
  go_enter Try.func168, Try.ntmps168
  go_wp2_with fail
  generalize ((w.alloc (.cells #[.int .i64 k, .slice Av v.n cv, .slice Ac c.n cc, .int .i64 bd, .slice Ar n cr] 116)).alloc (.cells #[.int .i64 (u 0), .int .i64 (u 1), .int .i64 (u 2), .int .i64 (u 3), .int .i64 (u 4)] 71)) = w1 at *
  refine (at_any v cv Av u w1 m1 HXx.out HV.out).mono ?_
  rintro e w2 ⟨G, rfl, -, hown, hb⟩
  have HB2 := Lib.hid (bl_trans HB.out hb)
  have HO := Lib.hid hown.rdAt
  clear hb hown HB HV
  go_wp2_with fail
  refine (allDifferent_any ⟨v.n, pk v u⟩ _ _ _ m1 HO.out).mono ?_
  rintro e w3 ⟨rfl, hb⟩
  have HB3 := Lib.hid (bl_trans HB2.out hb)
  clear hb
  go_wp2
  go_ret
  exact ⟨rfl, HB3.out⟩

set_option maxRecDepth 100000 in
set_option maxHeartbeats 1600000 in
theorem lesCheck_any (k bd : Int) (v c : Lst) (n : Nat) (u : Nat → Int) (Av Ac Ar : Option Addr) (cv cc cr : Nat) (w : World) (h2 : v.n = 2) (hx : ∀ i, i < v.n → 0 ≤ v.x i ∧ v.x i < 5) (hv : RdI w w.heap.size Av v.n v.x) :
    Calls Try.prog 177 #[.agg #[.int .i64 k, .slice Av v.n cv, .slice Ac c.n cc, .int .i64 bd, .slice Ar n cr], arr5 u] w fun e w' => e = .returned (.bool (decide (pk v u 0 < pk v u 1))) ∧ Below w.heap.size w w' := by
  obtain ⟨j0, hj0⟩ : ∃ j : Nat, v.x 0 = (j : Int) := ⟨(v.x 0).toNat, by have := hx 0 (by omega); omega⟩
  obtain ⟨j1, hj1⟩ : ∃ j : Nat, v.x 1 = (j : Int) := ⟨(v.x 1).toNat, by have := hx 1 (by omega); omega⟩
  have b0 : j0 < 5 := by have := hx 0 (by omega); omega
  have b1 : j1 < 5 := by have := hx 1 (by omega); omega
  have Hp := Lib.hid (show pk v u 0 = u j0 ∧ pk v u 1 = u j1 from ⟨by unfold pk; rw [hj0]; rfl, by unfold pk; rw [hj1]; rfl⟩)
  have hb1 := bl_alloc (bl_alloc (Below.refl w.heap.size w) (.cells #[.int .i64 k, .slice Av v.n cv, .slice Ac c.n cc, .int .i64 bd, .slice Ar n cr] 118)) (.cells #[.int .i64 (u 0), .int .i64 (u 1), .int .i64 (u 2), .int .i64 (u 3), .int .i64 (u 4)] 71)
  have a0 : ((w.alloc (.cells #[.int .i64 k, .slice Av v.n cv, .slice Ac c.n cc, .int .i64 bd, .slice Ar n cr] 118)).alloc (.cells #[.int .i64 (u 0), .int .i64 (u 1), .int .i64 (u 2), .int .i64 (u 3), .int .i64 (u 4)] 71)).cell? ⟨w.heap.size + 1, 0, none⟩ = some (.int .i64 (u 0)) := by go_simp
  have a1 : ((w.alloc (.cells #[.int .i64 k, .slice Av v.n cv, .slice Ac c.n cc, .int .i64 bd, .slice Ar n cr] 118)).alloc (.cells #[.int .i64 (u 0), .int .i64 (u 1), .int .i64 (u 2), .int .i64 (u 3), .int .i64 (u 4)] 71)).cell? ⟨w.heap.size + 1, 1, none⟩ = some (.int .i64 (u 1)) := by go_simp
  have a2 : ((w.alloc (.cells #[.int .i64 k, .slice Av v.n cv, .slice Ac c.n cc, .int .i64 bd, .slice Ar n cr] 118)).alloc (.cells #[.int .i64 (u 0), .int .i64 (u 1), .int .i64 (u 2), .int .i64 (u 3), .int .i64 (u 4)] 71)).cell? ⟨w.heap.size + 1, 2, none⟩ = some (.int .i64 (u 2)) := by go_simp
  have a3 : ((w.alloc (.cells #[.int .i64 k, .slice Av v.n cv, .slice Ac c.n cc, .int .i64 bd, .slice Ar n cr] 118)).alloc (.cells #[.int .i64 (u 0), .int .i64 (u 1), .int .i64 (u 2), .int .i64 (u 3), .int .i64 (u 4)] 71)).cell? ⟨w.heap.size + 1, 3, none⟩ = some (.int .i64 (u 3)) := by go_simp
  have a4 : ((w.alloc (.cells #[.int .i64 k, .slice Av v.n cv, .slice Ac c.n cc, .int .i64 bd, .slice Ar n cr] 118)).alloc (.cells #[.int .i64 (u 0), .int .i64 (u 1), .int .i64 (u 2), .int .i64 (u 3), .int .i64 (u 4)] 71)).cell? ⟨w.heap.size + 1, 4, none⟩ = some (.int .i64 (u 4)) := by go_simp
  obtain ⟨b, off, rfl, hbl, hc⟩ := (hv.later hb1) (by omega)
  have c0 := hc 0 (by omega)
  have c1 := hc 1 (by omega)
  rw [hj0, Nat.add_zero] at c0
  rw [hj1] at c1
  have HB := Lib.hid hb1
  have d0 := at_cell (j := j0) a0 a1 a2 a3 a4 b0
  have d1 := at_cell (j := j1) a0 a1 a2 a3 a4 b1
  rw [h2] at *
  have i0 : (j0 : Int) < 5 := by omega
  have i1 : (j1 : Int) < 5 := by omega
  have i2 : (0 : Int) ≤ (j0 : Int) := by omega
  have i3 : (0 : Int) ≤ (j1 : Int) := by omega
  clear hx hv hb1 hc hj0 hj1 b0 b1 a0 a1 a2 a3 a4
  unfold arr5
  go_enter Try.func177, Try.ntmps177
  go_wp2_with fail
  try go_quiet (fail)
  try go_wp2
  go_ret
  exact ⟨ret_bool (by rw [Hp.out.1, Hp.out.2]), by first | exact HB.out | exact bl_drewN HB.out _⟩

end Go.Proofs.Ythjcbaccoogloaa

namespace Go.Proofs.Ythjcbaccoogloaa
open Go.ChangeShapes Go.WideShapes Go.ChangeAt Go.RowKit

set_option maxRecDepth 100000 in
set_option maxHeartbeats 1600000 in
theorem indexRowG_any (f : Nat) (lb : Array Value) (A : Option Addr) (n cap : Nat) (r : Nat → Lst) (b : Nat → Bool) (w : World) (hn : n ≤ 1048576) (hr : RdL w w.heap.size A n r)
    (ef : ∀ args w, (callFunc f args).run Try.prog w = .ok (.enter f args) w)
    (hf : ∀ (k : Nat) (Ai : Option Addr) (ci : Nat) (X : World), k < n → Below w.heap.size w X → RdI X X.heap.size Ai (r k).n (r k).x → Calls Try.prog f (#[.slice Ai (r k).n ci] ++ lb) X fun e X' => e = .returned (.bool (b k)) ∧ Below X.heap.size X X') :
    Calls Try.prog 176 #[.slice A n cap, .func (.func f) #[] lb] w fun e w' => ∃ m : Int, e = .returned (.int .i64 m) ∧ decide (0 ≤ m) = anyQ b n ∧ Below w.heap.size w w' := by
  go_enter Try.func176, Try.ntmps176
  go_wp2
  go_loopw [8] (fun i wr => ∃ k : Nat, k ≤ n ∧ i = .int .i64 k ∧ anyQ b k = false ∧ Below w.heap.size w wr) (fun i _ => n - (intOf i).toNat)
  case atStart => exact ⟨0, Nat.zero_le _, rfl, rfl, Below.refl _ _⟩
  case round =>
    obtain ⟨k, hk, rfl, hp, hb⟩ := hrel
    have Hp := Lib.hid hp
    clear hp
    by_cases hlt : k < n
    · obtain ⟨bb, off, rfl, hbl, hc⟩ := (hr.below hb) (by omega)
      obtain ⟨Ai, ci, hc1, hrk⟩ := hc k hlt
      have Hcall := Lib.hid (hf k Ai ci wr hlt hb (hrk.more hb.size))
      clear hc hr hf hrk
      cases hq : b k with
      | true =>
        have Hfin := Lib.hid (show decide (0 ≤ (k : Int)) = anyQ b n from by rw [anyQ_of hlt hq]; simp)
        rw [hq] at Hcall
        clear hq
        go_wp2_with fail
        refine Hcall.out.mono ?_
        rintro e w1 ⟨rfl, hb1⟩
        go_wp2
        go_ret
        exact ⟨_, rfl, Hfin.out, hb.trans (hb1.mono hb.size)⟩
      | false =>
        have Hno := Lib.hid (anyQ_step Hp.out hq)
        rw [hq] at Hcall
        clear hq
        go_wp2_with fail
        refine Hcall.out.mono ?_
        rintro e w1 ⟨rfl, hb1⟩
        go_wp2
        go_roundw
        case rel => exact ⟨k + 1, by omega, by go_num, Hno.out, hb.trans (hb1.mono hb.size)⟩
        case measure => simp [intOf]; omega
    · have e : k = n := by omega
      subst e
      go_wp2
      go_ret
      exact ⟨-1, rfl, by rw [Hp.out]; rfl, hb⟩

set_option maxRecDepth 100000 in
set_option maxHeartbeats 800000 in
theorem containsRowG_any (f : Nat) (lb : Array Value) (A : Option Addr) (n cap : Nat) (r : Nat → Lst) (b : Nat → Bool) (w : World) (hn : n ≤ 1048576) (hr : RdL w w.heap.size A n r)
    (ef : ∀ args w, (callFunc f args).run Try.prog w = .ok (.enter f args) w)
    (hf : ∀ (k : Nat) (Ai : Option Addr) (ci : Nat) (X : World), k < n → Below w.heap.size w X → RdI X X.heap.size Ai (r k).n (r k).x → Calls Try.prog f (#[.slice Ai (r k).n ci] ++ lb) X fun e X' => e = .returned (.bool (b k)) ∧ Below X.heap.size X X') :
    Calls Try.prog 172 #[.slice A n cap, .func (.func f) #[] lb] w fun e w' => e = .returned (.bool (anyQ b n)) ∧ Below w.heap.size w w' := by
  have Hc := Lib.hid (indexRowG_any f lb A n cap r b w hn hr ef hf)
  clear hf ef hr
  go_enter Try.func172, Try.ntmps172
  go_wp2_with fail
  refine Hc.out.mono ?_
  rintro e w1 ⟨m, rfl, hm, hb⟩
  have Hm := Lib.hid hm
  clear hm
  go_wp2
  go_ret
  exact ⟨ret_bool Hm.out, hb⟩

set_option maxHeartbeats 800000 in
/-- The test of the table's closure: its box holds the values chosen. -/
theorem rowEq_any (l v : Lst) (p : Nat → Int) (A G : Option Addr) (cap cg : Nat) (P0 : Nat) (w : World) (hn : l.n ≤ 1048576) (hm : v.n ≤ 1048576) (hr : RdI w w.heap.size A l.n l.x) (hg : RdI w w.heap.size G v.n p) (h0 : w.cell? ⟨P0, 0, none⟩ = some (.slice G v.n cg)) :
    Calls Try.prog 173 #[.slice A l.n cap, .pointer (some ⟨P0, 0, none⟩)] w fun e w' => e = .returned (.bool (lsE l ⟨v.n, p⟩)) ∧ Below w.heap.size w w' := by
  have HR := Lib.hid hr
  have HG := Lib.hid hg
  clear hr hg
  go_enter Try.func173, Try.ntmps173
  go_wp2_with fail
  refine (sliceEq_any l ⟨v.n, p⟩ _ _ _ _ _ hn hm HR.out HG.out).mono ?_
  rintro e w2 ⟨rfl, hb⟩
  go_wp2
  go_ret
  exact ⟨rfl, hb⟩

set_option maxRecDepth 100000 in
set_option maxHeartbeats 1600000 in
theorem tabCheck_any (k bd : Int) (v c : Lst) (n : Nat) (r : Nat → Lst) (u : Nat → Int) (Av Ac Ar : Option Addr) (cv cc cr : Nat) (w : World) (m1 : v.n ≤ 1048576) (m3 : n ≤ 1048576) (m4 : ∀ i, i < n → (r i).n ≤ 1048576) (hx : ∀ i, i < v.n → 0 ≤ v.x i ∧ v.x i < 5) (hv : RdI w w.heap.size Av v.n v.x) (hr : RdL w w.heap.size Ar n r) :
    Calls Try.prog 170 #[.agg #[.int .i64 k, .slice Av v.n cv, .slice Ac c.n cc, .int .i64 bd, .slice Ar n cr], arr5 u] w fun e w' => e = .returned (.bool (anyQ (fun j => lsE (r j) ⟨v.n, pk v u⟩) n)) ∧ Below w.heap.size w w' := by
  have HXx := Lib.hid hx
  have M4 := Lib.hid m4
  have HV := Lib.hid hv
  have HR := Lib.hid hr
  clear hx hv hr m4
  unfold arr5
  go_enter Try.func170, Try.ntmps170
  go_wp2_with fail
  have a4 : ((w.alloc (.cells #[.int .i64 k, .slice Av v.n cv, .slice Ac c.n cc, .int .i64 bd, .slice Ar n cr] 117)).alloc (.cells #[.int .i64 (u 0), .int .i64 (u 1), .int .i64 (u 2), .int .i64 (u 3), .int .i64 (u 4)] 71)).cell? ⟨w.heap.size, 4, none⟩ = some (.slice Ar n cr) := by go_simp
  have HB := Lib.hid (bl_alloc (bl_alloc (Below.refl w.heap.size w) (.cells #[.int .i64 k, .slice Av v.n cv, .slice Ac c.n cc, .int .i64 bd, .slice Ar n cr] 117)) (.cells #[.int .i64 (u 0), .int .i64 (u 1), .int .i64 (u 2), .int .i64 (u 3), .int .i64 (u 4)] 71))
  generalize ((w.alloc (.cells #[.int .i64 k, .slice Av v.n cv, .slice Ac c.n cc, .int .i64 bd, .slice Ar n cr] 117)).alloc (.cells #[.int .i64 (u 0), .int .i64 (u 1), .int .i64 (u 2), .int .i64 (u 3), .int .i64 (u 4)] 71)) = w1 at *
  refine (at_any v cv Av u w1 m1 HXx.out (HV.out.later HB.out)).mono ?_
  rintro e w2 ⟨G, rfl, -, hown, hb⟩
  have HB2 := Lib.hid (bl_trans HB.out hb)
  have HO := Lib.hid hown
  replace a4 := kc hb a4
  have hal := bl_alloc (Below.refl w2.heap.size w2) (.cells #[.slice (some ⟨G, 0, none⟩) v.n v.n] 23)
  have a4' := kc hal a4
  clear hb hown HB HV hal
  go_wp2_with fail
  have x0 : (w2.alloc (.cells #[.slice (some ⟨G, 0, none⟩) v.n v.n] 23)).cell? ⟨w2.heap.size, 0, none⟩ = some (.slice (some ⟨G, 0, none⟩) v.n v.n) := by go_simp
  have hal := bl_alloc (Below.refl w2.heap.size w2) (.cells #[.slice (some ⟨G, 0, none⟩) v.n v.n] 23)
  have HO3 := Lib.hid ((HO.out.below hal HO.out.lt).rdAt)
  have HB3 := Lib.hid (bl_trans HB2.out hal)
  clear a4 a4' hal HO
  generalize (w2.alloc (.cells #[.slice (some ⟨G, 0, none⟩) v.n v.n] 23)) = w3 at *
  obtain ⟨P0, hP0⟩ : ∃ P0, w2.heap.size = P0 := ⟨_, rfl⟩
  rw [hP0] at x0 ⊢
  refine (containsRowG_any 173 #[.pointer (some ⟨P0, 0, none⟩)] Ar n cr r (fun j => lsE (r j) ⟨v.n, pk v u⟩) w3 m3 (HR.out.later HB3.out) (enters_of Try.func173 (by kernel_rfl) rfl) (fun j Ai ci X hj hX hri => rowEq_any (r j) v (pk v u) _ _ _ _ P0 X (M4.out j hj) m1 hri (HO3.out.later hX) (kc hX x0))).mono ?_
  rintro e w4 ⟨rfl, hb⟩
  have HB4 := Lib.hid (bl_trans HB3.out hb)
  clear hb
  go_wp2
  go_ret
  exact ⟨rfl, HB4.out⟩

/-- What a rule that has a kind is as a value of its type: its type, its value, its test. -/
structure Typed (k : Int) (a : Value) (u : Nat → Int) (B : Bool) (w : World) : Prop where
  go : ∃ (T : TypeId) (X : Value) (f : Nat), tyV k a = .iface T X ∧ (∀ w : World, (method 291 T X "loop.example/cuttingplanes/impl.check").run Try.prog w = .ok (f, X) w) ∧ (∀ args w, (callFunc f args).run Try.prog w = .ok (.enter f args) w) ∧ (∀ w : World, (nilAhead (Try.prog.types.size + Made.depth) T X "loop.example/cuttingplanes/impl.check").run Try.prog w = .ok (some false) w) ∧
    ∀ W, Below w.heap.size w W → Calls Try.prog f #[X, arr5 u] W fun e w' => e = .returned (.bool B) ∧ Below W.heap.size W w'

theorem typed_check (cells : Nat) (q : Rul) (u : Nat → Int) (Av Ac Ar : Option Addr) (cv cc cr : Nat) (w : World) (h5 : cells ≤ 5) (hok : RuleOk cells q) (hcel : CelV cells u) (hf : q.fit 1048576) (hv : RdI w w.heap.size Av q.v.n q.v.x) (hc : RdI w w.heap.size Ac q.c.n q.c.x) (hr : RdL w w.heap.size Ar q.n q.r) :
    Typed q.k (.agg #[.int .i64 q.k, .slice Av q.v.n cv, .slice Ac q.c.n cc, .int .i64 q.bd, .slice Ar q.n cr]) u (holdB q u) w := by
  have hx : ∀ i, i < q.v.n → 0 ≤ q.v.x i ∧ q.v.x i < 5 := fun i hi => by have := hok.at_ i hi; omega
  have hp := fun i (hi : i < q.v.n) => pk_bd hok hcel hi
  have hkind := hok.kind
  have hlin := hok.lin
  have htwo := hok.two
  clear hok hcel
  obtain ⟨k, v, c, bd, n, r⟩ := q
  obtain ⟨m1, m2, m3, m4⟩ := hf
  simp only at m1 m2 m3 m4 hv hc hr hx hp hkind hlin htwo ⊢
  rcases hkind with rfl | rfl | rfl | rfl
  · obtain ⟨l1, l2⟩ := hlin rfl
    rw [hold1 rfl]
    exact ⟨_, _, 163, rfl, fun _ => by kernel_rfl, enters_of Try.func163 (by kernel_rfl) rfl, fun _ => by kernel_rfl, fun W hW => linCheck_any 1 bd v c n u _ _ _ _ _ _ W m1 l1 hx l2 hp (hv.later hW) (hc.later hW)⟩
  · rw [hold2 rfl]
    exact ⟨_, _, 168, rfl, fun _ => by kernel_rfl, enters_of Try.func168 (by kernel_rfl) rfl, fun _ => by kernel_rfl, fun W hW => difCheck_any 2 bd v c n u _ _ _ _ _ _ W m1 hx (hv.later hW)⟩
  · rw [hold3 rfl]
    exact ⟨_, _, 170, rfl, fun _ => by kernel_rfl, enters_of Try.func170 (by kernel_rfl) rfl, fun _ => by kernel_rfl, fun W hW => tabCheck_any 3 bd v c n r u _ _ _ _ _ _ W m1 m3 m4 hx (hv.later hW) (hr.later hW)⟩
  · rw [hold4 rfl]
    exact ⟨_, _, 177, rfl, fun _ => by kernel_rfl, enters_of Try.func177 (by kernel_rfl) rfl, fun _ => by kernel_rfl, fun W hW => lesCheck_any 4 bd v c n u _ _ _ _ _ _ W (htwo rfl) hx (hv.later hW)⟩
end Go.Proofs.Ythjcbaccoogloaa

namespace Go.Proofs.Ythjcbaccoogloaa
open Go.ChangeShapes Go.WideShapes Go.ChangeAt Go.RowKit

theorem linS_congr {a p p' : Nat → Int} {k : Nat} (h : ∀ i, i < k → p i = p' i) : linS a p k = linS a p' k := by
  induction k with
  | zero => rfl
  | succ k ih =>
    unfold linS
    rw [ih fun i hi => h i (by omega), h k (by omega)]
theorem prE_congr {e e' : Nat → Bool} {k : Nat} (h : ∀ i, i < k → e i = e' i) : prE e k = prE e' k := by
  induction k with
  | zero => rfl
  | succ k ih =>
    unfold prE
    rw [ih fun i hi => h i (by omega), h k (by omega)]
theorem anyQ_congr {e e' : Nat → Bool} {k : Nat} (h : ∀ i, i < k → e i = e' i) : anyQ e k = anyQ e' k := by
  induction k with
  | zero => rfl
  | succ k ih =>
    unfold anyQ
    rw [ih fun i hi => h i (by omega), h k (by omega)]
theorem newB_congr {p p' : Nat → Int} {n : Nat} (h : ∀ i, i < n → p i = p' i) : prE (newB p) n = prE (newB p') n := by
  refine prE_congr fun i hi => ?_
  unfold newB
  exact prE_congr fun k hk => by rw [h k (by omega), h i hi]
theorem lsE_congr {l : Lst} {p p' : Nat → Int} {n : Nat} (h : ∀ i, i < n → p i = p' i) : lsE l ⟨n, p⟩ = lsE l ⟨n, p'⟩ := by
  unfold lsE
  by_cases e : l.n = n
  · rw [e]
    have : prE (fun i => l.x i == p i) n = prE (fun i => l.x i == p' i) n := prE_congr fun i hi => by rw [h i hi]
    simp only [this]
  · have : (l.n == n) = false := by rw [beq_eq_false_iff_ne]; exact e
    simp only [this, Bool.false_and]
theorem hold_congr {cells : Nat} {q : Rul} {u u' : Nat → Int} (hok : RuleOk cells q) (h : ∀ i, i < cells → u i = u' i) : holdB q u = holdB q u' := by
  have hp : ∀ i, i < q.v.n → pk q.v u i = pk q.v u' i := fun i hi => by
    have := hok.at_ i hi
    exact h _ (by omega)
  obtain ⟨k, v, c, bd, n, r⟩ := q
  have htwo := hok.two
  rcases hok.kind with h1 | h1 | h1 | h1 <;> simp only at h1 hp htwo <;> subst h1
  · rw [hold1 rfl, hold1 rfl, linS_congr hp]
  · rw [hold2 rfl, hold2 rfl, newB_congr hp]
  · rw [hold3 rfl, hold3 rfl]
    exact anyQ_congr fun j _ => lsE_congr hp
  · have h2 := htwo rfl
    rw [hold4 rfl, hold4 rfl, hp 0 (by omega), hp 1 (by omega)]
theorem cvV_at {n i : Nat} {c : Nat → Int} (h : i < n) : cvV n c i = c i := by unfold cvV; rw [if_pos h]
theorem cvV_cel {n : Nat} {c : Nat → Int} (h : CelV n c) : CelV n (cvV n c) := fun i hi => by rw [cvV_at hi]; exact h i hi

/-- What RuleHolds answers. -/
def rhB (s : Lst) (n : Nat) (q : Nat → Rul) (c : Lst) (rule : Int) : Bool := cvB s n q c && (decide (0 ≤ rule) && (decide (rule < n) && holdB (q rule.toNat) c.x))
/-- Cells satisfy all rules. -/
def solB (n : Nat) (q : Nat → Rul) (u : Nat → Int) : Bool := prE (fun i => holdB (q i) u) n
/-- What SolvesModel answers. -/
def smB (s : Lst) (n : Nat) (q : Nat → Rul) (c : Lst) : Bool := cvB s n q c && solB n q c.x
/-- Valid cells of a valid model. -/
structure CelOk (s : Lst) (n : Nat) (q : Nat → Rul) (c : Lst) : Prop where
  one : 1 ≤ s.n
  five : s.n ≤ 5
  sizes : prE (fun i => betB 0 3 (s.x i)) s.n = true
  sum : tS s.x s.n ≤ 12
  eight : n ≤ 8
  rules : ∀ i, i < n → RuleOk s.n (q i)
  len : c.n = s.n
  cel : CelV s.n c.x
theorem cv_ok {s : Lst} {n : Nat} {q : Nat → Rul} {c : Lst} (h : cvB s n q c = true) : CelOk s n q c := by
  unfold cvB at h
  rw [Bool.and_eq_true] at h
  obtain ⟨h1, h2, h3, h4, h5, h6⟩ := mod_parts h.1
  obtain ⟨h7, h8⟩ := cels_cel h.2 h3
  exact ⟨h1, h2, h3, h4, h5, fun i hi => rule_ok (h6 i hi), h7, h8⟩
end Go.Proofs.Ythjcbaccoogloaa

namespace Go.Proofs.Ythjcbaccoogloaa
open Go.ChangeShapes Go.WideShapes Go.ChangeAt Go.RowKit

theorem run_nilCheck {P : Program} {a : Act} {o : Oper} {x : Operand} {T : TypeId} {X : Value} {name : String} {w : World} (ho : o.op = .nilCheck x) (hx : a.eval x = .func (.method name) #[.iface T X] #[]) (hn : (nilAhead (P.types.size + Made.depth) T X name).run P w = .ok (some false) w) :
    (execOp a.eval o).run P w = .ok (.value (.func (.method name) #[.iface T X] #[])) w := by
  unfold execOp
  simp only [ho, hx]
  have h0 : (#[Value.iface T X][0]? : Option Value) = some (Value.iface T X) := rfl
  simp only [h0]
  have hp : (program).run P w = .ok P w := rfl
  simp [Sem.run_bind, hp, hn, Result.andThen]
end Go.Proofs.Ythjcbaccoogloaa

namespace Go.Proofs.Ythjcbaccoogloaa
open Go.ChangeShapes Go.WideShapes Go.ChangeAt Go.RowKit

set_option maxRecDepth 100000 in
set_option maxHeartbeats 1600000 in
theorem specHolds_any (s c : Lst) (n : Nat) (q : Nat → Rul) (rule : Int) (As Ar Ac : Option Addr) (cs cr cc : Nat) (w : World) (p1 : s.n ≤ 1048576) (p2 : c.n ≤ 1048576) (p3 : n ≤ 1048576) (p4 : ∀ i, i < n → (q i).fit 1048576) (hs : RdI w w.heap.size As s.n s.x) (hr : RdRs w w.heap.size Ar n q) (hc : RdI w w.heap.size Ac c.n c.x) :
    Calls Try.prog 19 #[.agg #[.slice As s.n cs, .slice Ar n cr], .int .i64 rule, .slice Ac c.n cc] w fun e w' => e = .returned (.bool (rhB s n q c rule)) ∧ Below w.heap.size w w' := by
  have Hd := Lib.hid (show ∀ z, rhB s n q c rule = z ↔ (cvB s n q c && (decide (0 ≤ rule) && (decide (rule < n) && holdB (q rule.toNat) c.x))) = z from fun z => Iff.rfl)
  have HS := Lib.hid hs
  have HR := Lib.hid hr
  have HC := Lib.hid hc
  have P4 := Lib.hid p4
  clear hs hr hc p4
  have HA := Lib.hid (bl_alloc (Below.refl w.heap.size w))
  go_enter Try.func19, Try.ntmps19
  go_wp2_with fail
  have a0 : (w.alloc (.cells #[.slice As s.n cs, .slice Ar n cr] 26)).cell? ⟨w.heap.size, 0, none⟩ = some (.slice As s.n cs) := by go_simp
  have a1 : (w.alloc (.cells #[.slice As s.n cs, .slice Ar n cr] 26)).cell? ⟨w.heap.size, 1, none⟩ = some (.slice Ar n cr) := by go_simp
  have HB := Lib.hid (HA.out (.cells #[.slice As s.n cs, .slice Ar n cr] 26))
  clear HA
  generalize (w.alloc (.cells #[.slice As s.n cs, .slice Ar n cr] 26)) = w1 at *
  refine (specCells_any s c n q _ _ _ _ _ _ _ p1 p2 p3 P4.out (HS.out.later HB.out) (HR.out.later HB.out) (HC.out.later HB.out)).mono ?_
  rintro e w2 ⟨rfl, hb⟩
  have HB2 := Lib.hid (bl_trans HB.out hb)
  replace a0 := kc hb a0
  replace a1 := kc hb a1
  clear hb HB
  cases hm : cvB s n q c with
  | false =>
    have He := Lib.hid ((Hd.out false).2 (by rw [hm]; rfl))
    clear hm Hd
    go_wp2
    go_ret
    exact ⟨ret_bool He.out.symm, HB2.out⟩
  | true =>
    have Ok := Lib.hid (cv_ok hm)
    have Hm := Lib.hid hm
    clear hm
    by_cases q1 : 0 ≤ rule
    · by_cases q2 : rule < (n : Int)
      · obtain ⟨k, rfl⟩ : ∃ k : Nat, rule = (k : Int) := ⟨rule.toNat, by omega⟩
        have hk : k < n := by omega
        have He := Lib.hid ((Hd.out (holdB (q k) c.x)).2 (by rw [Hm.out, Int.toNat_natCast]; simp [q2]))
        clear Hd Hm
        obtain ⟨b, off, rfl, hbl, hc⟩ := (HR.out.later HB2.out) (by omega)
        obtain ⟨Av, cv, Aq, cq, Ar, cr', c0, c1, c2, c3, c4, hv, hcc, hrk⟩ := hc k hk
        have HV := Lib.hid hv
        have HQ := Lib.hid hcc
        have HRk := Lib.hid hrk
        have hlen := Ok.out.len
        clear hc hv hcc hrk
        go_wp2_with fail
        have hx := HC.out.later HB2.out
        rw [hlen] at hx
        refine (l6Holds_any s.n (q k) c.x _ _ _ _ _ _ _ _ _ (P4.out k hk) (Ok.out.rules k hk) Ok.out.cel Ok.out.five HV.out HQ.out HRk.out hx).mono ?_
        rintro e w3 ⟨rfl, hb⟩
        have HB3 := Lib.hid (bl_trans HB2.out hb)
        clear hb hx
        go_wp2
        go_ret
        exact ⟨ret_bool He.out.symm, HB3.out⟩
      · have He := Lib.hid ((Hd.out false).2 (by simp [q2]))
        clear Hd
        go_wp2
        go_ret
        exact ⟨ret_bool He.out.symm, HB2.out⟩
    · have He := Lib.hid ((Hd.out false).2 (by simp [q1]))
      clear Hd
      go_wp2
      go_ret
      exact ⟨ret_bool He.out.symm, HB2.out⟩

set_option maxRecDepth 100000 in
set_option maxHeartbeats 1600000 in
theorem l6Solves_any (s : Lst) (cells : Nat) (n : Nat) (q : Nat → Rul) (c : Nat → Int) (As Ar Ac : Option Addr) (cs cr cc : Nat) (w : World) (p3 : n ≤ 1048576) (p4 : ∀ i, i < n → (q i).fit 1048576) (hok : ∀ i, i < n → RuleOk cells (q i)) (hcel : CelV cells c) (h5 : cells ≤ 5) (hr : RdRs w w.heap.size Ar n q) (hc : RdI w w.heap.size Ac cells c) :
    Calls Try.prog 47 #[.agg #[.slice As s.n cs, .slice Ar n cr], .slice Ac cells cc] w fun e w' => e = .returned (.bool (solB n q c)) ∧ Below w.heap.size w w' := by
  have HOk := Lib.hid hok
  have HCel := Lib.hid hcel
  have P4 := Lib.hid p4
  have hb1 := bl_alloc (Below.refl w.heap.size w) (.cells #[.slice As s.n cs, .slice Ar n cr] 26)
  have HB := Lib.hid hb1
  have HR := Lib.hid (hr.later hb1)
  have HC := Lib.hid (hc.later hb1)
  have hsol := Lib.hid (show ∀ z, prE (fun i => holdB (q i) c) n = z → solB n q c = z from fun z h => h)
  clear hok hcel p4 hr hc hb1
  go_enter Try.func47, Try.ntmps47
  go_wp2
  have a1 : (w.alloc (.cells #[.slice As s.n cs, .slice Ar n cr] 26)).cell? ⟨w.heap.size, 1, none⟩ = some (.slice Ar n cr) := by go_simp
  generalize (w.alloc (.cells #[.slice As s.n cs, .slice Ar n cr] 26)) = w1 at *
  go_loopw [5] (fun i wr => ∃ k : Nat, k ≤ n ∧ i = .int .i64 k ∧ prE (fun i => holdB (q i) c) k = true ∧ Below w1.heap.size w1 wr) (fun i _ => n - (intOf i).toNat)
  case atStart => exact ⟨0, Nat.zero_le _, rfl, rfl, Below.refl _ _⟩
  case round =>
    obtain ⟨k, hk, rfl, hp, hb⟩ := hrel
    have Hp := Lib.hid hp
    clear hp
    replace a1 := kc hb a1
    by_cases hlt : k < n
    · obtain ⟨b, off, rfl, hbl, hc⟩ := (HR.out.later hb) (by omega)
      obtain ⟨Av, cv, Aq, cq, Ar', cr', c0, c1, c2, c3, c4, hv, hcc, hrk⟩ := hc k hlt
      have HV := Lib.hid hv
      have HQ := Lib.hid hcc
      have HRk := Lib.hid hrk
      have hlt' : (k : Int) < (n : Int) := by omega
      have hk0 : (0 : Int) ≤ (k : Int) := by omega
      clear hc hv hcc hrk
      go_wp2_with fail
      refine (l6Holds_any cells (q k) c _ _ _ _ _ _ _ _ _ (P4.out k hlt) (HOk.out k hlt) HCel.out h5 HV.out HQ.out HRk.out (HC.out.later hb)).mono ?_
      rintro e w3 ⟨rfl, hb3⟩
      have HB3 := Lib.hid (hb.trans (hb3.mono hb.size))
      clear hb3
      cases hz : holdB (q k) c with
      | true =>
        have Hy := Lib.hid (prE_yes (e := fun i => holdB (q i) c) Hp.out hz)
        clear hz
        go_wp2
        go_roundw
        case rel => exact ⟨k + 1, by omega, by go_num, Hy.out, HB3.out⟩
        case measure => simp [intOf]; omega
      | false =>
        have Hno := Lib.hid (prE_no (e := fun i => holdB (q i) c) hlt hz)
        clear hz
        go_wp2
        go_ret
        exact ⟨ret_bool (hsol.out _ Hno.out).symm, bl_trans HB.out HB3.out⟩
    · have e : k = n := by omega
      subst e
      go_wp2
      go_ret
      exact ⟨ret_bool (hsol.out _ Hp.out).symm, bl_trans HB.out hb⟩

set_option maxRecDepth 100000 in
set_option maxHeartbeats 1600000 in
theorem specSolves_any (s c : Lst) (n : Nat) (q : Nat → Rul) (As Ar Ac : Option Addr) (cs cr cc : Nat) (w : World) (p1 : s.n ≤ 1048576) (p2 : c.n ≤ 1048576) (p3 : n ≤ 1048576) (p4 : ∀ i, i < n → (q i).fit 1048576) (hs : RdI w w.heap.size As s.n s.x) (hr : RdRs w w.heap.size Ar n q) (hc : RdI w w.heap.size Ac c.n c.x) :
    Calls Try.prog 14 #[.agg #[.slice As s.n cs, .slice Ar n cr], .slice Ac c.n cc] w fun e w' => e = .returned (.bool (smB s n q c)) ∧ Below w.heap.size w w' := by
  have Hd := Lib.hid (show ∀ z, smB s n q c = z ↔ (cvB s n q c && solB n q c.x) = z from fun z => Iff.rfl)
  have HS := Lib.hid hs
  have HR := Lib.hid hr
  have HC := Lib.hid hc
  have P4 := Lib.hid p4
  clear hs hr hc p4
  have HA := Lib.hid (bl_alloc (Below.refl w.heap.size w))
  go_enter Try.func14, Try.ntmps14
  go_wp2_with fail
  have a0 : (w.alloc (.cells #[.slice As s.n cs, .slice Ar n cr] 26)).cell? ⟨w.heap.size, 0, none⟩ = some (.slice As s.n cs) := by go_simp
  have a1 : (w.alloc (.cells #[.slice As s.n cs, .slice Ar n cr] 26)).cell? ⟨w.heap.size, 1, none⟩ = some (.slice Ar n cr) := by go_simp
  have HB := Lib.hid (HA.out (.cells #[.slice As s.n cs, .slice Ar n cr] 26))
  clear HA
  generalize (w.alloc (.cells #[.slice As s.n cs, .slice Ar n cr] 26)) = w1 at *
  refine (specCells_any s c n q _ _ _ _ _ _ _ p1 p2 p3 P4.out (HS.out.later HB.out) (HR.out.later HB.out) (HC.out.later HB.out)).mono ?_
  rintro e w2 ⟨rfl, hb⟩
  have HB2 := Lib.hid (bl_trans HB.out hb)
  replace a0 := kc hb a0
  replace a1 := kc hb a1
  clear hb HB
  cases hm : cvB s n q c with
  | false =>
    have He := Lib.hid ((Hd.out false).2 (by rw [hm]; rfl))
    clear hm Hd
    go_wp2
    go_ret
    exact ⟨ret_bool He.out.symm, HB2.out⟩
  | true =>
    have Ok := Lib.hid (cv_ok hm)
    have He := Lib.hid ((Hd.out (solB n q c.x)).2 (by rw [hm]; simp))
    have hlen := Ok.out.len
    clear hm Hd
    go_wp2_with fail
    have hx := HC.out.later HB2.out
    rw [hlen] at hx
    refine (l6Solves_any s s.n n q c.x _ _ _ _ _ _ _ p3 P4.out Ok.out.rules Ok.out.cel Ok.out.five (HR.out.later HB2.out) hx).mono ?_
    rintro e w3 ⟨rfl, hb⟩
    have HB3 := Lib.hid (bl_trans HB2.out hb)
    clear hb hx
    go_wp2
    go_ret
    exact ⟨ret_bool He.out.symm, HB3.out⟩
end Go.Proofs.Ythjcbaccoogloaa

namespace Go.Proofs.Ythjcbaccoogloaa
open Go.ChangeShapes Go.WideShapes Go.ChangeAt Go.RowKit

set_option maxHeartbeats 800000 in
theorem hasRule_any (rule : Int) (n : Nat) (As Ar : Option Addr) (sn cs cr : Nat) (w : World) :
    Calls Try.prog 51 #[.agg #[.slice As sn cs, .slice Ar n cr], .int .i64 rule] w fun e w' => e = .returned (.bool (decide (0 ≤ rule) && decide (rule < n))) ∧ Below w.heap.size w w' := by
  have HA := Lib.hid (bl_alloc (Below.refl w.heap.size w) (.cells #[.slice As sn cs, .slice Ar n cr] 26))
  by_cases q1 : 0 ≤ rule
  · by_cases q2 : rule < (n : Int)
    · have He := Lib.hid (show (decide (0 ≤ rule) && decide (rule < n)) = true from by simp [q1, q2])
      go_enter Try.func51, Try.ntmps51
      go_wp2
      go_ret
      exact ⟨ret_bool He.out.symm, HA.out⟩
    · have He := Lib.hid (show (decide (0 ≤ rule) && decide (rule < n)) = false from by simp [q2])
      go_enter Try.func51, Try.ntmps51
      go_wp2
      go_ret
      exact ⟨ret_bool (by first | exact He.out.symm | (simp [q2]; done) | (simp; omega)), HA.out⟩
  · have He := Lib.hid (show (decide (0 ≤ rule) && decide (rule < n)) = false from by simp [q1])
    go_enter Try.func51, Try.ntmps51
    go_wp2
    go_ret
    exact ⟨ret_bool He.out.symm, HA.out⟩

set_option linter.unusedSimpArgs false in
set_option maxRecDepth 100000 in
set_option maxHeartbeats 1600000 in
/-- The test of solvedBy's closure: its box holds the values. -/
theorem violated_any (cells : Nat) (q : Rul) (u : Nat → Int) (Av Ac Ar : Option Addr) (cv cc cr : Nat) (P0 : Nat) (w : World) (h5 : cells ≤ 5) (hok : RuleOk cells q) (hcel : CelV cells u) (hf : q.fit 1048576) (hv : RdI w w.heap.size Av q.v.n q.v.x) (hc : RdI w w.heap.size Ac q.c.n q.c.x) (hr : RdL w w.heap.size Ar q.n q.r)
    (k0 : w.cell? ⟨P0, 0, none⟩ = some (.int .i64 (u 0))) (k1 : w.cell? ⟨P0, 1, none⟩ = some (.int .i64 (u 1))) (k2 : w.cell? ⟨P0, 2, none⟩ = some (.int .i64 (u 2))) (k3 : w.cell? ⟨P0, 3, none⟩ = some (.int .i64 (u 3))) (k4 : w.cell? ⟨P0, 4, none⟩ = some (.int .i64 (u 4))) :
    Calls Try.prog 90 #[.agg #[.int .i64 q.k, .slice Av q.v.n cv, .slice Ac q.c.n cc, .int .i64 q.bd, .slice Ar q.n cr], .pointer (some ⟨P0, 0, none⟩)] w fun e w' => e = .returned (.bool (!holdB q u)) ∧ Below w.heap.size w w' := by
  obtain ⟨T, X, f, hT, hm, ef, hnil, hC⟩ := (typed_check cells q u Av Ac Ar cv cc cr w h5 hok hcel hf hv hc hr).go
  have HC := Lib.hid hC
  have HT := Lib.hid hT
  clear hok hcel hf hv hc hr hC hT hnil
  have hb1 := bl_alloc (Below.refl w.heap.size w) (.cells #[.int .i64 q.k, .slice Av q.v.n cv, .slice Ac q.c.n cc, .int .i64 q.bd, .slice Ar q.n cr] 36)
  have HB := Lib.hid hb1
  replace k0 := kc hb1 k0
  replace k1 := kc hb1 k1
  replace k2 := kc hb1 k2
  replace k3 := kc hb1 k3
  replace k4 := kc hb1 k4
  have b0 : (w.alloc (.cells #[.int .i64 q.k, .slice Av q.v.n cv, .slice Ac q.c.n cc, .int .i64 q.bd, .slice Ar q.n cr] 36)).cell? ⟨w.heap.size, 0, none⟩ = some (.int .i64 q.k) := by go_simp
  have b1 : (w.alloc (.cells #[.int .i64 q.k, .slice Av q.v.n cv, .slice Ac q.c.n cc, .int .i64 q.bd, .slice Ar q.n cr] 36)).cell? ⟨w.heap.size, 1, none⟩ = some (.slice Av q.v.n cv) := by go_simp
  have b2 : (w.alloc (.cells #[.int .i64 q.k, .slice Av q.v.n cv, .slice Ac q.c.n cc, .int .i64 q.bd, .slice Ar q.n cr] 36)).cell? ⟨w.heap.size, 2, none⟩ = some (.slice Ac q.c.n cc) := by go_simp
  have b3 : (w.alloc (.cells #[.int .i64 q.k, .slice Av q.v.n cv, .slice Ac q.c.n cc, .int .i64 q.bd, .slice Ar q.n cr] 36)).cell? ⟨w.heap.size, 3, none⟩ = some (.int .i64 q.bd) := by go_simp
  have b4 : (w.alloc (.cells #[.int .i64 q.k, .slice Av q.v.n cv, .slice Ac q.c.n cc, .int .i64 q.bd, .slice Ar q.n cr] 36)).cell? ⟨w.heap.size, 4, none⟩ = some (.slice Ar q.n cr) := by go_simp
  clear hb1
  go_enter Try.func90, Try.ntmps90
  go_wp2_with fail
  generalize (w.alloc (.cells #[.int .i64 q.k, .slice Av q.v.n cv, .slice Ac q.c.n cc, .int .i64 q.bd, .slice Ar q.n cr] 36)) = w1 at *
  obtain ⟨H, hHe⟩ : ∃ H, w.heap.size = H := ⟨_, rfl⟩
  rw [hHe] at b0 b1 b2 b3 b4 ⊢
  refine wp_region_held_drew (S := fun w' => w'.cell? ⟨H, 0, none⟩ = some (.int .i64 q.k) ∧ w'.cell? ⟨H, 1, none⟩ = some (.slice Av q.v.n cv) ∧ w'.cell? ⟨H, 2, none⟩ = some (.slice Ac q.c.n cc) ∧ w'.cell? ⟨H, 3, none⟩ = some (.int .i64 q.bd) ∧ w'.cell? ⟨H, 4, none⟩ = some (.slice Ar q.n cr) ∧ w'.cell? ⟨P0, 0, none⟩ = some (.int .i64 (u 0)) ∧ w'.cell? ⟨P0, 1, none⟩ = some (.int .i64 (u 1)) ∧ w'.cell? ⟨P0, 2, none⟩ = some (.int .i64 (u 2)) ∧ w'.cell? ⟨P0, 3, none⟩ = some (.int .i64 (u 3)) ∧ w'.cell? ⟨P0, 4, none⟩ = some (.int .i64 (u 4))) (by kernel_rfl) ⟨by simpa using b0, by simpa using b1, by simpa using b2, by simpa using b3, by simpa using b4, by simpa using k0, by simpa using k1, by simpa using k2, by simpa using k3, by simpa using k4⟩ (fun hHeld => ?_)
  refine wpAnyH_take (i := 0) (v := .agg #[.int .i64 q.k, .slice Av q.v.n cv, .slice Ac q.c.n cc, .int .i64 q.bd, .slice Ar q.n cr]) rfl (by kernel_rfl) (by kernel_rfl) (by kernel_rfl) (fun _ _ _ h => h) (Or.inl ⟨by rfl, ?_⟩) (by assumption) ?_
  · intro w hSw; obtain ⟨s0, s1, s2, s3, s4, s5, s6, s7, s8, s9⟩ := hSw; simp only [List.getElem_toArray, List.getElem_cons_zero, List.getElem_cons_succ]; (first | (go_simp; done) | rfl | kernel_rfl)
  try simp only [Act.put, List.getElem_toArray, List.getElem_cons_zero, List.getElem_cons_succ, List.setIfInBounds_toArray, List.set_cons_zero, List.set_cons_succ]
  refine wpAnyH_take (i := 2) (v := arr5 u) rfl (by kernel_rfl) (by kernel_rfl) (by kernel_rfl) (fun _ _ _ h => h) (Or.inl ⟨by rfl, ?_⟩) (by assumption) ?_
  · intro w hSw; obtain ⟨s0, s1, s2, s3, s4, s5, s6, s7, s8, s9⟩ := hSw; unfold arr5; simp only [List.getElem_toArray, List.getElem_cons_zero, List.getElem_cons_succ]; (first | (go_simp; done) | rfl | kernel_rfl)
  try simp only [Act.put, List.getElem_toArray, List.getElem_cons_zero, List.getElem_cons_succ, List.setIfInBounds_toArray, List.set_cons_zero, List.set_cons_succ]
  clear hHeld
  refine wpAnyH_ready (rs := [1]) (by kernel_rfl) (by simp) ?_
  refine AllReadyH.cons rfl (fun K hK => ?_) AllReadyH.nil
  simp only [List.getElem_toArray, List.getElem_cons_zero, List.getElem_cons_succ]
  go_simp
  go_at_call 52
  refine (typed_any q.k q.bd q.v q.c q.n _ _ _ _ _ _ _).mono ?_
  rintro e w2 ⟨rfl, hb⟩
  rw [HT.out]
  have hbd := bl_trans (Below.refl w1.heap.size w1).drew hb
  have HB2 := Lib.hid (bl_trans HB.out hbd)
  replace b0 := kc hbd b0
  replace b1 := kc hbd b1
  replace b2 := kc hbd b2
  replace b3 := kc hbd b3
  replace b4 := kc hbd b4
  replace k0 := kc hbd k0
  replace k1 := kc hbd k1
  replace k2 := kc hbd k2
  replace k3 := kc hbd k3
  replace k4 := kc hbd k4
  clear hb hbd HB
  refine hK.out _ _ ⟨b0, b1, b2, b3, b4, k0, k1, k2, k3, k4⟩ (fun hHeld => ?_)
  clear hK K
  try simp only [Act.put, List.getElem_toArray, List.getElem_cons_zero, List.getElem_cons_succ, List.setIfInBounds_toArray, List.set_cons_zero, List.set_cons_succ]
  clear hHeld
  refine wpAnyH_ready (rs := [3]) (by kernel_rfl) (by simp) ?_
  refine AllReadyH.cons rfl (fun K hK => ?_) AllReadyH.nil
  simp only [List.getElem_toArray, List.getElem_cons_zero, List.getElem_cons_succ]
  go_simp
  refine (HC.out _ HB2.out).mono ?_
  rintro e w3 ⟨rfl, hb⟩
  have HB3 := Lib.hid (bl_trans HB2.out hb)
  replace b0 := kc hb b0
  replace b1 := kc hb b1
  replace b2 := kc hb b2
  replace b3 := kc hb b3
  replace b4 := kc hb b4
  replace k0 := kc hb k0
  replace k1 := kc hb k1
  replace k2 := kc hb k2
  replace k3 := kc hb k3
  replace k4 := kc hb k4
  clear hb
  refine hK.out _ _ ⟨b0, b1, b2, b3, b4, k0, k1, k2, k3, k4⟩ (fun hHeld => ?_)
  clear hK K
  try simp only [Act.put, List.getElem_toArray, List.getElem_cons_zero, List.getElem_cons_succ, List.setIfInBounds_toArray, List.set_cons_zero, List.set_cons_succ]
  cases hz : holdB q u with
  | false =>
    have Hz := Lib.hid (show (!holdB q u) = true from by rw [hz]; rfl)
    clear hz
    refine wpAnyH_take (i := 4) (v := .bool true) rfl (by kernel_rfl) (by kernel_rfl) (by kernel_rfl) (fun _ _ _ h => h) (Or.inl ⟨by rfl, ?_⟩) (by assumption) ?_
    · intro w hSw; simp only [List.getElem_toArray, List.getElem_cons_zero, List.getElem_cons_succ]; (first | (go_simp; done) | rfl | kernel_rfl)
    try simp only [Act.put, List.getElem_toArray, List.getElem_cons_zero, List.getElem_cons_succ, List.setIfInBounds_toArray, List.set_cons_zero, List.set_cons_succ]
    refine wpAnyH_take (i := 5) (v := .bool true) rfl (by kernel_rfl) (by kernel_rfl) (by kernel_rfl) (fun _ _ _ h => h) (Or.inl ⟨by rfl, ?_⟩) (by assumption) ?_
    · intro w hSw; simp only [List.getElem_toArray, List.getElem_cons_zero, List.getElem_cons_succ]; (first | (go_simp; done) | rfl | kernel_rfl)
    try simp only [Act.put, List.getElem_toArray, List.getElem_cons_zero, List.getElem_cons_succ, List.setIfInBounds_toArray, List.set_cons_zero, List.set_cons_succ]
    refine wpAnyH_done (by kernel_rfl) ?_ _
    go_wp2
    go_ret
    exact ⟨ret_bool Hz.out.symm, by first | exact HB3.out | (rw [← hHe]; exact HB3.out)⟩
  | true =>
    have Hz := Lib.hid (show (!holdB q u) = false from by rw [hz]; rfl)
    clear hz
    refine wpAnyH_take (i := 4) (v := .bool false) rfl (by kernel_rfl) (by kernel_rfl) (by kernel_rfl) (fun _ _ _ h => h) (Or.inl ⟨by rfl, ?_⟩) (by assumption) ?_
    · intro w hSw; simp only [List.getElem_toArray, List.getElem_cons_zero, List.getElem_cons_succ]; (first | (go_simp; done) | rfl | kernel_rfl)
    try simp only [Act.put, List.getElem_toArray, List.getElem_cons_zero, List.getElem_cons_succ, List.setIfInBounds_toArray, List.set_cons_zero, List.set_cons_succ]
    refine wpAnyH_take (i := 5) (v := .bool false) rfl (by kernel_rfl) (by kernel_rfl) (by kernel_rfl) (fun _ _ _ h => h) (Or.inl ⟨by rfl, ?_⟩) (by assumption) ?_
    · intro w hSw; simp only [List.getElem_toArray, List.getElem_cons_zero, List.getElem_cons_succ]; (first | (go_simp; done) | rfl | kernel_rfl)
    try simp only [Act.put, List.getElem_toArray, List.getElem_cons_zero, List.getElem_cons_succ, List.setIfInBounds_toArray, List.set_cons_zero, List.set_cons_succ]
    refine wpAnyH_done (by kernel_rfl) ?_ _
    go_wp2
    go_ret
    exact ⟨ret_bool Hz.out.symm, by first | exact HB3.out | (rw [← hHe]; exact HB3.out)⟩
end Go.Proofs.Ythjcbaccoogloaa

namespace Go.Proofs.Ythjcbaccoogloaa
open Go.ChangeShapes Go.WideShapes Go.ChangeAt Go.RowKit

theorem solB_not (n : Nat) (q : Nat → Rul) (u : Nat → Int) : anyQ (fun i => !holdB (q i) u) n = !solB n q u := anyQ_prE n

set_option maxRecDepth 100000 in
set_option maxHeartbeats 1600000 in
theorem solvedBy_any (cells : Nat) (s : Lst) (n : Nat) (q : Nat → Rul) (u : Nat → Int) (As Ar : Option Addr) (cs cr : Nat) (w : World) (h5 : cells ≤ 5) (p3 : n ≤ 1048576) (p4 : ∀ i, i < n → (q i).fit 1048576) (hok : ∀ i, i < n → RuleOk cells (q i)) (hcel : CelV cells u) (hr : RdRs w w.heap.size Ar n q) :
    Calls Try.prog 45 #[.agg #[.slice As s.n cs, .slice Ar n cr], arr5 u] w fun e w' => e = .returned (.bool (solB n q u)) ∧ Below w.heap.size w w' := by
  have HOk := Lib.hid hok
  have HCel := Lib.hid hcel
  have P4 := Lib.hid p4
  have HR := Lib.hid hr
  clear hok hcel p4 hr
  unfold arr5
  go_enter Try.func45, Try.ntmps45
  go_wp2_with fail
  have HB := Lib.hid (bl_alloc (bl_alloc (Below.refl w.heap.size w) (.cells #[.slice As s.n cs, .slice Ar n cr] 26)) (.cells #[.int .i64 (u 0), .int .i64 (u 1), .int .i64 (u 2), .int .i64 (u 3), .int .i64 (u 4)] 71))
  have k0 : ((w.alloc (.cells #[.slice As s.n cs, .slice Ar n cr] 26)).alloc (.cells #[.int .i64 (u 0), .int .i64 (u 1), .int .i64 (u 2), .int .i64 (u 3), .int .i64 (u 4)] 71)).cell? ⟨w.heap.size + 1, 0, none⟩ = some (.int .i64 (u 0)) := by go_simp
  have k1 : ((w.alloc (.cells #[.slice As s.n cs, .slice Ar n cr] 26)).alloc (.cells #[.int .i64 (u 0), .int .i64 (u 1), .int .i64 (u 2), .int .i64 (u 3), .int .i64 (u 4)] 71)).cell? ⟨w.heap.size + 1, 1, none⟩ = some (.int .i64 (u 1)) := by go_simp
  have k2 : ((w.alloc (.cells #[.slice As s.n cs, .slice Ar n cr] 26)).alloc (.cells #[.int .i64 (u 0), .int .i64 (u 1), .int .i64 (u 2), .int .i64 (u 3), .int .i64 (u 4)] 71)).cell? ⟨w.heap.size + 1, 2, none⟩ = some (.int .i64 (u 2)) := by go_simp
  have k3 : ((w.alloc (.cells #[.slice As s.n cs, .slice Ar n cr] 26)).alloc (.cells #[.int .i64 (u 0), .int .i64 (u 1), .int .i64 (u 2), .int .i64 (u 3), .int .i64 (u 4)] 71)).cell? ⟨w.heap.size + 1, 3, none⟩ = some (.int .i64 (u 3)) := by go_simp
  have k4 : ((w.alloc (.cells #[.slice As s.n cs, .slice Ar n cr] 26)).alloc (.cells #[.int .i64 (u 0), .int .i64 (u 1), .int .i64 (u 2), .int .i64 (u 3), .int .i64 (u 4)] 71)).cell? ⟨w.heap.size + 1, 4, none⟩ = some (.int .i64 (u 4)) := by go_simp
  generalize ((w.alloc (.cells #[.slice As s.n cs, .slice Ar n cr] 26)).alloc (.cells #[.int .i64 (u 0), .int .i64 (u 1), .int .i64 (u 2), .int .i64 (u 3), .int .i64 (u 4)] 71)) = w1 at *
  obtain ⟨P0, hP0⟩ : ∃ P0, w.heap.size + 1 = P0 := ⟨_, rfl⟩
  rw [hP0] at k0 k1 k2 k3 k4 ⊢
  clear hP0
  refine (containsRule_any 90 #[.pointer (some ⟨P0, 0, none⟩)] Ar n cr q (fun i => !holdB (q i) u) w1 p3 (HR.out.later HB.out) (enters_of Try.func90 (by kernel_rfl) rfl) (fun k Av Ac Ar cv cc cr X hk hX h1 h2 h3 => violated_any cells (q k) u _ _ _ _ _ _ P0 X h5 (HOk.out k hk) HCel.out (P4.out k hk) h1 h2 h3 (kc hX k0) (kc hX k1) (kc hX k2) (kc hX k3) (kc hX k4))).mono ?_
  rintro e w2 ⟨rfl, hb⟩
  rw [solB_not]
  have HB2 := Lib.hid (bl_trans HB.out hb)
  clear hb
  cases hz : solB n q u with
  | false =>
    have Hz := Lib.hid hz
    clear hz
    go_wp2
    go_ret
    exact ⟨ret_bool (by rw [Hz.out]; try rfl), HB2.out⟩
  | true =>
    have Hz := Lib.hid hz
    clear hz
    go_wp2
    go_ret
    exact ⟨ret_bool (by rw [Hz.out]; try rfl), HB2.out⟩

set_option linter.unusedSimpArgs false in
set_option maxRecDepth 100000 in
set_option maxHeartbeats 1600000 in
theorem implSolves_any (s c : Lst) (n : Nat) (q : Nat → Rul) (As Ar Ac : Option Addr) (cs cr cc : Nat) (w : World) (p1 : s.n ≤ 1048576) (p2 : c.n ≤ 1048576) (p3 : n ≤ 1048576) (p4 : ∀ i, i < n → (q i).fit 1048576) (hs : RdI w w.heap.size As s.n s.x) (hr : RdRs w w.heap.size Ar n q) (hc : RdI w w.heap.size Ac c.n c.x) :
    Calls Try.prog 13 #[.agg #[.slice As s.n cs, .slice Ar n cr], .slice Ac c.n cc] w fun e w' => e = .returned (.bool (smB s n q c)) ∧ Below w.heap.size w w' := by
  have HS := Lib.hid hs
  have HR := Lib.hid hr
  have HC := Lib.hid hc
  have P4 := Lib.hid p4
  clear hs hr hc p4
  have HA := Lib.hid (bl_alloc (Below.refl w.heap.size w) (.cells #[.slice As s.n cs, .slice Ar n cr] 26))
  go_enter Try.func13, Try.ntmps13
  go_wp2_with fail
  have a0 : (w.alloc (.cells #[.slice As s.n cs, .slice Ar n cr] 26)).cell? ⟨w.heap.size, 0, none⟩ = some (.slice As s.n cs) := by go_simp
  have a1 : (w.alloc (.cells #[.slice As s.n cs, .slice Ar n cr] 26)).cell? ⟨w.heap.size, 1, none⟩ = some (.slice Ar n cr) := by go_simp
  generalize (w.alloc (.cells #[.slice As s.n cs, .slice Ar n cr] 26)) = w1 at *
  obtain ⟨H, hHe⟩ : ∃ H, w.heap.size = H := ⟨_, rfl⟩
  rw [hHe] at a0 a1 ⊢
  have Hd := Lib.hid (show ∀ z, smB s n q c = z ↔ (cvB s n q c && solB n q c.x) = z from fun z => Iff.rfl)
  refine wp_region_held_drew (S := fun w' => w'.cell? ⟨H, 0, none⟩ = some (.slice As s.n cs) ∧ w'.cell? ⟨H, 1, none⟩ = some (.slice Ar n cr)) (by kernel_rfl) ⟨by simpa using a0, by simpa using a1⟩ (fun hHeld => ?_)
  refine wpAnyH_take (i := 0) (v := .agg #[.slice As s.n cs, .slice Ar n cr]) rfl (by kernel_rfl) (by kernel_rfl) (by kernel_rfl) (fun _ _ _ h => h) (Or.inl ⟨by rfl, ?_⟩) (by assumption) ?_
  · intro w hSw; obtain ⟨s0, s1⟩ := hSw; simp only [List.getElem_toArray, List.getElem_cons_zero, List.getElem_cons_succ]; (first | (go_simp; done) | rfl | kernel_rfl)
  try simp only [Act.put, List.getElem_toArray, List.getElem_cons_zero, List.getElem_cons_succ, List.setIfInBounds_toArray, List.set_cons_zero, List.set_cons_succ]
  refine wpAnyH_take (i := 1) (v := .slice Ac c.n cc) rfl (by kernel_rfl) (by kernel_rfl) (by kernel_rfl) (fun _ _ _ h => h) (Or.inl ⟨by rfl, ?_⟩) (by assumption) ?_
  · intro w hSw; simp only [List.getElem_toArray, List.getElem_cons_zero, List.getElem_cons_succ]; (first | (go_simp; done) | rfl | kernel_rfl)
  try simp only [Act.put, List.getElem_toArray, List.getElem_cons_zero, List.getElem_cons_succ, List.setIfInBounds_toArray, List.set_cons_zero, List.set_cons_succ]
  clear hHeld
  refine wpAnyH_ready (rs := [2]) (by kernel_rfl) (by simp) ?_
  refine AllReadyH.cons rfl (fun K hK => ?_) AllReadyH.nil
  simp only [List.getElem_toArray, List.getElem_cons_zero, List.getElem_cons_succ]
  go_simp
  go_at_call 15
  refine (implCells_any s c n q _ _ _ _ _ _ _ p1 p2 p3 P4.out (HS.out.later (bl_trans HA.out (Below.refl w1.heap.size w1).drew)) (HR.out.later (bl_trans HA.out (Below.refl w1.heap.size w1).drew)) (HC.out.later (bl_trans HA.out (Below.refl w1.heap.size w1).drew))).mono ?_
  rintro e w2 ⟨rfl, hb⟩
  have hbd := bl_trans (Below.refl w1.heap.size w1).drew hb
  have HB2 := Lib.hid (bl_trans HA.out hbd)
  have HBw := Lib.hid hbd
  replace a0 := kc hbd a0
  replace a1 := kc hbd a1
  clear hb hbd
  refine hK.out _ _ ⟨a0, a1⟩ (fun hHeld => ?_)
  clear hK K
  try simp only [Act.put, List.getElem_toArray, List.getElem_cons_zero, List.getElem_cons_succ, List.setIfInBounds_toArray, List.set_cons_zero, List.set_cons_succ]
  cases hm : cvB s n q c with
  | false =>
    have He := Lib.hid ((Hd.out false).2 (by rw [hm]; rfl))
    clear hm Hd
    refine wpAnyH_take (i := 3) (v := .bool false) rfl (by kernel_rfl) (by kernel_rfl) (by kernel_rfl) (fun _ _ _ h => h) (Or.inl ⟨by rfl, ?_⟩) (by assumption) ?_
    · intro w hSw; simp only [List.getElem_toArray, List.getElem_cons_zero, List.getElem_cons_succ]; (first | (go_simp; done) | rfl | kernel_rfl)
    try simp only [Act.put, List.getElem_toArray, List.getElem_cons_zero, List.getElem_cons_succ, List.setIfInBounds_toArray, List.set_cons_zero, List.set_cons_succ]
    refine wpAnyH_take (i := 4) (v := undef) rfl (by kernel_rfl) (by kernel_rfl) (by kernel_rfl) (fun _ _ _ h => h) (Or.inr ⟨by rfl, rfl⟩) (by assumption) ?_
    try simp only [Act.put, List.getElem_toArray, List.getElem_cons_zero, List.getElem_cons_succ, List.setIfInBounds_toArray, List.set_cons_zero, List.set_cons_succ]
    refine wpAnyH_take (i := 5) (v := undef) rfl (by kernel_rfl) (by kernel_rfl) (by kernel_rfl) (fun _ _ _ h => h) (Or.inr ⟨by rfl, rfl⟩) (by assumption) ?_
    try simp only [Act.put, List.getElem_toArray, List.getElem_cons_zero, List.getElem_cons_succ, List.setIfInBounds_toArray, List.set_cons_zero, List.set_cons_succ]
    refine wpAnyH_take (i := 6) (v := undef) rfl (by kernel_rfl) (by kernel_rfl) (by kernel_rfl) (fun _ _ _ h => h) (Or.inr ⟨by rfl, rfl⟩) (by assumption) ?_
    try simp only [Act.put, List.getElem_toArray, List.getElem_cons_zero, List.getElem_cons_succ, List.setIfInBounds_toArray, List.set_cons_zero, List.set_cons_succ]
    refine wpAnyH_take (i := 7) (v := undef) rfl (by kernel_rfl) (by kernel_rfl) (by kernel_rfl) (fun _ _ _ h => h) (Or.inr ⟨by rfl, rfl⟩) (by assumption) ?_
    try simp only [Act.put, List.getElem_toArray, List.getElem_cons_zero, List.getElem_cons_succ, List.setIfInBounds_toArray, List.set_cons_zero, List.set_cons_succ]
    refine wpAnyH_take (i := 8) (v := .bool false) rfl (by kernel_rfl) (by kernel_rfl) (by kernel_rfl) (fun _ _ _ h => h) (Or.inl ⟨by rfl, ?_⟩) (by assumption) ?_
    · intro w hSw; simp only [List.getElem_toArray, List.getElem_cons_zero, List.getElem_cons_succ]; (first | (go_simp; done) | rfl | kernel_rfl)
    try simp only [Act.put, List.getElem_toArray, List.getElem_cons_zero, List.getElem_cons_succ, List.setIfInBounds_toArray, List.set_cons_zero, List.set_cons_succ]
    refine wpAnyH_take (i := 9) (v := .bool false) rfl (by kernel_rfl) (by kernel_rfl) (by kernel_rfl) (fun _ _ _ h => h) (Or.inl ⟨by rfl, ?_⟩) (by assumption) ?_
    · intro w hSw; simp only [List.getElem_toArray, List.getElem_cons_zero, List.getElem_cons_succ]; (first | (go_simp; done) | rfl | kernel_rfl)
    try simp only [Act.put, List.getElem_toArray, List.getElem_cons_zero, List.getElem_cons_succ, List.setIfInBounds_toArray, List.set_cons_zero, List.set_cons_succ]
    refine wpAnyH_done (by kernel_rfl) ?_ _
    go_wp2
    go_ret
    exact ⟨ret_bool He.out.symm, by first | exact HB2.out | (rw [← hHe]; exact HB2.out)⟩
  | true =>
    have Ok := Lib.hid (cv_ok hm)
    have hsc : solB n q (cvV s.n c.x) = solB n q c.x := prE_congr fun i hi => hold_congr (Ok.out.rules i hi) (fun j hj => cvV_at hj)
    have He := Lib.hid ((Hd.out (solB n q (cvV s.n c.x))).2 (by rw [hm, hsc]; rfl))
    have hlen := Ok.out.len
    clear hm Hd hsc
    refine wpAnyH_take (i := 3) (v := .bool true) rfl (by kernel_rfl) (by kernel_rfl) (by kernel_rfl) (fun _ _ _ h => h) (Or.inl ⟨by rfl, ?_⟩) (by assumption) ?_
    · intro w hSw; simp only [List.getElem_toArray, List.getElem_cons_zero, List.getElem_cons_succ]; (first | (go_simp; done) | rfl | kernel_rfl)
    try simp only [Act.put, List.getElem_toArray, List.getElem_cons_zero, List.getElem_cons_succ, List.setIfInBounds_toArray, List.set_cons_zero, List.set_cons_succ]
    refine wpAnyH_take (i := 4) (v := .agg #[.slice As s.n cs, .slice Ar n cr]) rfl (by kernel_rfl) (by kernel_rfl) (by kernel_rfl) (fun _ _ _ h => h) (Or.inl ⟨by rfl, ?_⟩) (by assumption) ?_
    · intro w hSw; obtain ⟨s0, s1⟩ := hSw; simp only [List.getElem_toArray, List.getElem_cons_zero, List.getElem_cons_succ]; (first | (go_simp; done) | rfl | kernel_rfl)
    try simp only [Act.put, List.getElem_toArray, List.getElem_cons_zero, List.getElem_cons_succ, List.setIfInBounds_toArray, List.set_cons_zero, List.set_cons_succ]
    refine wpAnyH_take (i := 5) (v := .slice Ac s.n cc) rfl (by kernel_rfl) (by kernel_rfl) (by kernel_rfl) (fun _ _ _ h => h) (Or.inl ⟨by rfl, ?_⟩) (by assumption) ?_
    · intro w hSw; simp only [List.getElem_toArray, List.getElem_cons_zero, List.getElem_cons_succ]; (first | (go_simp; done) | rfl | kernel_rfl)
    try simp only [Act.put, List.getElem_toArray, List.getElem_cons_zero, List.getElem_cons_succ, List.setIfInBounds_toArray, List.set_cons_zero, List.set_cons_succ]
    clear hHeld
    refine wpAnyH_ready (rs := [6]) (by kernel_rfl) (by simp) ?_
    refine AllReadyH.cons rfl (fun K hK => ?_) AllReadyH.nil
    simp only [List.getElem_toArray, List.getElem_cons_zero, List.getElem_cons_succ]
    go_simp
    go_at_call 46
    have hx := HC.out.later HB2.out
    rw [hlen] at hx
    refine (cvo_any s.n _ _ c.x _ Ok.out.five Ok.out.one hx).mono ?_
    rintro e w3 ⟨rfl, hb⟩
    have Hw3 := Lib.hid (bl_trans HB2.out hb)
    have Hb35 := Lib.hid hb
    replace a0 := kc hb a0
    replace a1 := kc hb a1
    clear hb hx
    refine hK.out _ _ ⟨a0, a1⟩ (fun hHeld => ?_)
    clear hK K
    try simp only [Act.put, List.getElem_toArray, List.getElem_cons_zero, List.getElem_cons_succ, List.setIfInBounds_toArray, List.set_cons_zero, List.set_cons_succ]
    clear hHeld
    refine wpAnyH_ready (rs := [7]) (by kernel_rfl) (by simp) ?_
    refine AllReadyH.cons rfl (fun K hK => ?_) AllReadyH.nil
    simp only [List.getElem_toArray, List.getElem_cons_zero, List.getElem_cons_succ]
    go_simp
    go_at_call 45
    refine (solvedBy_any s.n s n q (cvV s.n c.x) _ _ _ _ _ Ok.out.five p3 P4.out Ok.out.rules (cvV_cel Ok.out.cel) (HR.out.later Hw3.out)).mono ?_
    rintro e w4 ⟨rfl, hb⟩
    have HB4 := Lib.hid (bl_trans Hw3.out hb)
    replace a0 := kc hb a0
    replace a1 := kc hb a1
    clear hb
    refine hK.out _ _ ⟨a0, a1⟩ (fun hHeld => ?_)
    clear hK K
    try simp only [Act.put, List.getElem_toArray, List.getElem_cons_zero, List.getElem_cons_succ, List.setIfInBounds_toArray, List.set_cons_zero, List.set_cons_succ]
    generalize solB n q (cvV s.n c.x) = z at *
    refine wpAnyH_take (i := 8) (v := .bool z) rfl (by kernel_rfl) (by kernel_rfl) (by kernel_rfl) (fun _ _ _ h => h) (Or.inl ⟨by rfl, ?_⟩) (by assumption) ?_
    · intro w hSw; simp only [List.getElem_toArray, List.getElem_cons_zero, List.getElem_cons_succ]; (first | (go_simp; done) | rfl | kernel_rfl)
    try simp only [Act.put, List.getElem_toArray, List.getElem_cons_zero, List.getElem_cons_succ, List.setIfInBounds_toArray, List.set_cons_zero, List.set_cons_succ]
    refine wpAnyH_take (i := 9) (v := .bool z) rfl (by kernel_rfl) (by kernel_rfl) (by kernel_rfl) (fun _ _ _ h => h) (Or.inl ⟨by rfl, ?_⟩) (by assumption) ?_
    · intro w hSw; simp only [List.getElem_toArray, List.getElem_cons_zero, List.getElem_cons_succ]; (first | (go_simp; done) | rfl | kernel_rfl)
    try simp only [Act.put, List.getElem_toArray, List.getElem_cons_zero, List.getElem_cons_succ, List.setIfInBounds_toArray, List.set_cons_zero, List.set_cons_succ]
    refine wpAnyH_done (by kernel_rfl) ?_ _
    go_wp2
    go_ret
    exact ⟨ret_bool He.out.symm, by first | exact HB4.out | (rw [← hHe]; exact HB4.out)⟩

set_option linter.unusedSimpArgs false in
set_option maxRecDepth 100000 in
set_option maxHeartbeats 1600000 in
theorem implHolds_any (s c : Lst) (n : Nat) (q : Nat → Rul) (rule : Int) (As Ar Ac : Option Addr) (cs cr cc : Nat) (w : World) (p1 : s.n ≤ 1048576) (p2 : c.n ≤ 1048576) (p3 : n ≤ 1048576) (p4 : ∀ i, i < n → (q i).fit 1048576) (hs : RdI w w.heap.size As s.n s.x) (hr : RdRs w w.heap.size Ar n q) (hc : RdI w w.heap.size Ac c.n c.x) :
    Calls Try.prog 17 #[.agg #[.slice As s.n cs, .slice Ar n cr], .int .i64 rule, .slice Ac c.n cc] w fun e w' => e = .returned (.bool (rhB s n q c rule)) ∧ Below w.heap.size w w' := by
  have HS := Lib.hid hs
  have HR := Lib.hid hr
  have HC := Lib.hid hc
  have P4 := Lib.hid p4
  clear hs hr hc p4
  have HA := Lib.hid (bl_alloc (Below.refl w.heap.size w) (.cells #[.slice As s.n cs, .slice Ar n cr] 26))
  go_enter Try.func17, Try.ntmps17
  go_wp2_with fail
  have a0 : (w.alloc (.cells #[.slice As s.n cs, .slice Ar n cr] 26)).cell? ⟨w.heap.size, 0, none⟩ = some (.slice As s.n cs) := by go_simp
  have a1 : (w.alloc (.cells #[.slice As s.n cs, .slice Ar n cr] 26)).cell? ⟨w.heap.size, 1, none⟩ = some (.slice Ar n cr) := by go_simp
  generalize (w.alloc (.cells #[.slice As s.n cs, .slice Ar n cr] 26)) = w1 at *
  obtain ⟨H, hHe⟩ : ∃ H, w.heap.size = H := ⟨_, rfl⟩
  rw [hHe] at a0 a1 ⊢
  have Hd := Lib.hid (show ∀ z, rhB s n q c rule = z ↔ (cvB s n q c && (decide (0 ≤ rule) && (decide (rule < n) && holdB (q rule.toNat) c.x))) = z from fun z => Iff.rfl)
  by_cases hk : 0 ≤ rule ∧ rule < (n : Int)
  case neg =>
    have Hhr := Lib.hid (show (decide (0 ≤ rule) && decide (rule < n)) = false from by by_cases h0 : 0 ≤ rule <;> simp [h0]; omega)
    have He := Lib.hid ((Hd.out false).2 (by rw [← Bool.and_assoc, ← Bool.and_assoc, Bool.and_assoc (cvB s n q c), Hhr.out]; simp))
    clear Hd hk
    refine wp_region_held_drew (S := fun w' => w'.cell? ⟨H, 0, none⟩ = some (.slice As s.n cs) ∧ w'.cell? ⟨H, 1, none⟩ = some (.slice Ar n cr)) (by kernel_rfl) ⟨by simpa using a0, by simpa using a1⟩ (fun hHeld => ?_)
    refine wpAnyH_take (i := 0) (v := .agg #[.slice As s.n cs, .slice Ar n cr]) rfl (by kernel_rfl) (by kernel_rfl) (by kernel_rfl) (fun _ _ _ h => h) (Or.inl ⟨by rfl, ?_⟩) (by assumption) ?_
    · intro w hSw; obtain ⟨s0, s1⟩ := hSw; simp only [List.getElem_toArray, List.getElem_cons_zero, List.getElem_cons_succ]; (first | (go_simp; done) | rfl | kernel_rfl)
    try simp only [Act.put, List.getElem_toArray, List.getElem_cons_zero, List.getElem_cons_succ, List.setIfInBounds_toArray, List.set_cons_zero, List.set_cons_succ]
    refine wpAnyH_take (i := 1) (v := .slice Ac c.n cc) rfl (by kernel_rfl) (by kernel_rfl) (by kernel_rfl) (fun _ _ _ h => h) (Or.inl ⟨by rfl, ?_⟩) (by assumption) ?_
    · intro w hSw; simp only [List.getElem_toArray, List.getElem_cons_zero, List.getElem_cons_succ]; (first | (go_simp; done) | rfl | kernel_rfl)
    try simp only [Act.put, List.getElem_toArray, List.getElem_cons_zero, List.getElem_cons_succ, List.setIfInBounds_toArray, List.set_cons_zero, List.set_cons_succ]
    clear hHeld
    refine wpAnyH_ready (rs := [2]) (by kernel_rfl) (by simp) ?_
    refine AllReadyH.cons rfl (fun K hK => ?_) AllReadyH.nil
    simp only [List.getElem_toArray, List.getElem_cons_zero, List.getElem_cons_succ]
    go_simp
    go_at_call 15
    refine (implCells_any s c n q _ _ _ _ _ _ _ p1 p2 p3 P4.out (HS.out.later (bl_trans HA.out (Below.refl w1.heap.size w1).drew)) (HR.out.later (bl_trans HA.out (Below.refl w1.heap.size w1).drew)) (HC.out.later (bl_trans HA.out (Below.refl w1.heap.size w1).drew))).mono ?_
    rintro e w2 ⟨rfl, hb⟩
    have hbd := bl_trans (Below.refl w1.heap.size w1).drew hb
    have HB2 := Lib.hid (bl_trans HA.out hbd)
    have HBw := Lib.hid hbd
    replace a0 := kc hbd a0
    replace a1 := kc hbd a1
    clear hb hbd
    refine hK.out _ _ ⟨a0, a1⟩ (fun hHeld => ?_)
    clear hK K
    try simp only [Act.put, List.getElem_toArray, List.getElem_cons_zero, List.getElem_cons_succ, List.setIfInBounds_toArray, List.set_cons_zero, List.set_cons_succ]
    cases hm : cvB s n q c with
    | false =>
      clear hm
      refine wpAnyH_take (i := 3) (v := .bool false) rfl (by kernel_rfl) (by kernel_rfl) (by kernel_rfl) (fun _ _ _ h => h) (Or.inl ⟨by rfl, ?_⟩) (by assumption) ?_
      · intro w hSw; simp only [List.getElem_toArray, List.getElem_cons_zero, List.getElem_cons_succ]; (first | (go_simp; done) | rfl | kernel_rfl)
      try simp only [Act.put, List.getElem_toArray, List.getElem_cons_zero, List.getElem_cons_succ, List.setIfInBounds_toArray, List.set_cons_zero, List.set_cons_succ]
      refine wpAnyH_take (i := 4) (v := undef) rfl (by kernel_rfl) (by kernel_rfl) (by kernel_rfl) (fun _ _ _ h => h) (Or.inr ⟨by rfl, rfl⟩) (by assumption) ?_
      try simp only [Act.put, List.getElem_toArray, List.getElem_cons_zero, List.getElem_cons_succ, List.setIfInBounds_toArray, List.set_cons_zero, List.set_cons_succ]
      refine wpAnyH_take (i := 5) (v := undef) rfl (by kernel_rfl) (by kernel_rfl) (by kernel_rfl) (fun _ _ _ h => h) (Or.inr ⟨by rfl, rfl⟩) (by assumption) ?_
      try simp only [Act.put, List.getElem_toArray, List.getElem_cons_zero, List.getElem_cons_succ, List.setIfInBounds_toArray, List.set_cons_zero, List.set_cons_succ]
      refine wpAnyH_take (i := 6) (v := undef) rfl (by kernel_rfl) (by kernel_rfl) (by kernel_rfl) (fun _ _ _ h => h) (Or.inr ⟨by rfl, rfl⟩) (by assumption) ?_
      try simp only [Act.put, List.getElem_toArray, List.getElem_cons_zero, List.getElem_cons_succ, List.setIfInBounds_toArray, List.set_cons_zero, List.set_cons_succ]
      refine wpAnyH_take (i := 7) (v := .bool false) rfl (by kernel_rfl) (by kernel_rfl) (by kernel_rfl) (fun _ _ _ h => h) (Or.inl ⟨by rfl, ?_⟩) (by assumption) ?_
      · intro w hSw; simp only [List.getElem_toArray, List.getElem_cons_zero, List.getElem_cons_succ]; (first | (go_simp; done) | rfl | kernel_rfl)
      try simp only [Act.put, List.getElem_toArray, List.getElem_cons_zero, List.getElem_cons_succ, List.setIfInBounds_toArray, List.set_cons_zero, List.set_cons_succ]
      refine wpAnyH_take (i := 8) (v := .bool false) rfl (by kernel_rfl) (by kernel_rfl) (by kernel_rfl) (fun _ _ _ h => h) (Or.inl ⟨by rfl, ?_⟩) (by assumption) ?_
      · intro w hSw; simp only [List.getElem_toArray, List.getElem_cons_zero, List.getElem_cons_succ]; (first | (go_simp; done) | rfl | kernel_rfl)
      try simp only [Act.put, List.getElem_toArray, List.getElem_cons_zero, List.getElem_cons_succ, List.setIfInBounds_toArray, List.set_cons_zero, List.set_cons_succ]
      refine wpAnyH_take (i := 9) (v := undef) rfl (by kernel_rfl) (by kernel_rfl) (by kernel_rfl) (fun _ _ _ h => h) (Or.inr ⟨by rfl, rfl⟩) (by assumption) ?_
      try simp only [Act.put, List.getElem_toArray, List.getElem_cons_zero, List.getElem_cons_succ, List.setIfInBounds_toArray, List.set_cons_zero, List.set_cons_succ]
      refine wpAnyH_take (i := 10) (v := undef) rfl (by kernel_rfl) (by kernel_rfl) (by kernel_rfl) (fun _ _ _ h => h) (Or.inr ⟨by rfl, rfl⟩) (by assumption) ?_
      try simp only [Act.put, List.getElem_toArray, List.getElem_cons_zero, List.getElem_cons_succ, List.setIfInBounds_toArray, List.set_cons_zero, List.set_cons_succ]
      refine wpAnyH_take (i := 11) (v := undef) rfl (by kernel_rfl) (by kernel_rfl) (by kernel_rfl) (fun _ _ _ h => h) (Or.inr ⟨by rfl, rfl⟩) (by assumption) ?_
      try simp only [Act.put, List.getElem_toArray, List.getElem_cons_zero, List.getElem_cons_succ, List.setIfInBounds_toArray, List.set_cons_zero, List.set_cons_succ]
      refine wpAnyH_take (i := 12) (v := undef) rfl (by kernel_rfl) (by kernel_rfl) (by kernel_rfl) (fun _ _ _ h => h) (Or.inr ⟨by rfl, rfl⟩) (by assumption) ?_
      try simp only [Act.put, List.getElem_toArray, List.getElem_cons_zero, List.getElem_cons_succ, List.setIfInBounds_toArray, List.set_cons_zero, List.set_cons_succ]
      refine wpAnyH_take (i := 13) (v := undef) rfl (by kernel_rfl) (by kernel_rfl) (by kernel_rfl) (fun _ _ _ h => h) (Or.inr ⟨by rfl, rfl⟩) (by assumption) ?_
      try simp only [Act.put, List.getElem_toArray, List.getElem_cons_zero, List.getElem_cons_succ, List.setIfInBounds_toArray, List.set_cons_zero, List.set_cons_succ]
      refine wpAnyH_take (i := 14) (v := undef) rfl (by kernel_rfl) (by kernel_rfl) (by kernel_rfl) (fun _ _ _ h => h) (Or.inr ⟨by rfl, rfl⟩) (by assumption) ?_
      try simp only [Act.put, List.getElem_toArray, List.getElem_cons_zero, List.getElem_cons_succ, List.setIfInBounds_toArray, List.set_cons_zero, List.set_cons_succ]
      refine wpAnyH_take (i := 15) (v := undef) rfl (by kernel_rfl) (by kernel_rfl) (by kernel_rfl) (fun _ _ _ h => h) (Or.inr ⟨by rfl, rfl⟩) (by assumption) ?_
      try simp only [Act.put, List.getElem_toArray, List.getElem_cons_zero, List.getElem_cons_succ, List.setIfInBounds_toArray, List.set_cons_zero, List.set_cons_succ]
      refine wpAnyH_take (i := 16) (v := undef) rfl (by kernel_rfl) (by kernel_rfl) (by kernel_rfl) (fun _ _ _ h => h) (Or.inr ⟨by rfl, rfl⟩) (by assumption) ?_
      try simp only [Act.put, List.getElem_toArray, List.getElem_cons_zero, List.getElem_cons_succ, List.setIfInBounds_toArray, List.set_cons_zero, List.set_cons_succ]
      refine wpAnyH_take (i := 17) (v := undef) rfl (by kernel_rfl) (by kernel_rfl) (by kernel_rfl) (fun _ _ _ h => h) (Or.inr ⟨by rfl, rfl⟩) (by assumption) ?_
      try simp only [Act.put, List.getElem_toArray, List.getElem_cons_zero, List.getElem_cons_succ, List.setIfInBounds_toArray, List.set_cons_zero, List.set_cons_succ]
      refine wpAnyH_take (i := 18) (v := undef) rfl (by kernel_rfl) (by kernel_rfl) (by kernel_rfl) (fun _ _ _ h => h) (Or.inr ⟨by rfl, rfl⟩) (by assumption) ?_
      try simp only [Act.put, List.getElem_toArray, List.getElem_cons_zero, List.getElem_cons_succ, List.setIfInBounds_toArray, List.set_cons_zero, List.set_cons_succ]
      refine wpAnyH_take (i := 19) (v := undef) rfl (by kernel_rfl) (by kernel_rfl) (by kernel_rfl) (fun _ _ _ h => h) (Or.inr ⟨by rfl, rfl⟩) (by assumption) ?_
      try simp only [Act.put, List.getElem_toArray, List.getElem_cons_zero, List.getElem_cons_succ, List.setIfInBounds_toArray, List.set_cons_zero, List.set_cons_succ]
      refine wpAnyH_take (i := 20) (v := undef) rfl (by kernel_rfl) (by kernel_rfl) (by kernel_rfl) (fun _ _ _ h => h) (Or.inr ⟨by rfl, rfl⟩) (by assumption) ?_
      try simp only [Act.put, List.getElem_toArray, List.getElem_cons_zero, List.getElem_cons_succ, List.setIfInBounds_toArray, List.set_cons_zero, List.set_cons_succ]
      refine wpAnyH_take (i := 21) (v := .bool false) rfl (by kernel_rfl) (by kernel_rfl) (by kernel_rfl) (fun _ _ _ h => h) (Or.inl ⟨by rfl, ?_⟩) (by assumption) ?_
      · intro w hSw; simp only [List.getElem_toArray, List.getElem_cons_zero, List.getElem_cons_succ]; (first | (go_simp; done) | rfl | kernel_rfl)
      try simp only [Act.put, List.getElem_toArray, List.getElem_cons_zero, List.getElem_cons_succ, List.setIfInBounds_toArray, List.set_cons_zero, List.set_cons_succ]
      refine wpAnyH_take (i := 22) (v := .bool false) rfl (by kernel_rfl) (by kernel_rfl) (by kernel_rfl) (fun _ _ _ h => h) (Or.inl ⟨by rfl, ?_⟩) (by assumption) ?_
      · intro w hSw; simp only [List.getElem_toArray, List.getElem_cons_zero, List.getElem_cons_succ]; (first | (go_simp; done) | rfl | kernel_rfl)
      try simp only [Act.put, List.getElem_toArray, List.getElem_cons_zero, List.getElem_cons_succ, List.setIfInBounds_toArray, List.set_cons_zero, List.set_cons_succ]
      refine wpAnyH_done (by kernel_rfl) ?_ _
      go_wp2
      go_ret
      exact ⟨ret_bool He.out.symm, by first | exact HB2.out | (rw [← hHe]; exact HB2.out)⟩
    | true =>
      clear hm
      refine wpAnyH_take (i := 3) (v := .bool true) rfl (by kernel_rfl) (by kernel_rfl) (by kernel_rfl) (fun _ _ _ h => h) (Or.inl ⟨by rfl, ?_⟩) (by assumption) ?_
      · intro w hSw; simp only [List.getElem_toArray, List.getElem_cons_zero, List.getElem_cons_succ]; (first | (go_simp; done) | rfl | kernel_rfl)
      try simp only [Act.put, List.getElem_toArray, List.getElem_cons_zero, List.getElem_cons_succ, List.setIfInBounds_toArray, List.set_cons_zero, List.set_cons_succ]
      refine wpAnyH_take (i := 4) (v := .agg #[.slice As s.n cs, .slice Ar n cr]) rfl (by kernel_rfl) (by kernel_rfl) (by kernel_rfl) (fun _ _ _ h => h) (Or.inl ⟨by rfl, ?_⟩) (by assumption) ?_
      · intro w hSw; obtain ⟨s0, s1⟩ := hSw; simp only [List.getElem_toArray, List.getElem_cons_zero, List.getElem_cons_succ]; (first | (go_simp; done) | rfl | kernel_rfl)
      try simp only [Act.put, List.getElem_toArray, List.getElem_cons_zero, List.getElem_cons_succ, List.setIfInBounds_toArray, List.set_cons_zero, List.set_cons_succ]
      refine wpAnyH_take (i := 5) (v := .int .i64 rule) rfl (by kernel_rfl) (by kernel_rfl) (by kernel_rfl) (fun _ _ _ h => h) (Or.inl ⟨by rfl, ?_⟩) (by assumption) ?_
      · intro w hSw; simp only [List.getElem_toArray, List.getElem_cons_zero, List.getElem_cons_succ]; (first | (go_simp; done) | rfl | kernel_rfl)
      try simp only [Act.put, List.getElem_toArray, List.getElem_cons_zero, List.getElem_cons_succ, List.setIfInBounds_toArray, List.set_cons_zero, List.set_cons_succ]
      clear hHeld
      refine wpAnyH_ready (rs := [6]) (by kernel_rfl) (by simp) ?_
      refine AllReadyH.cons rfl (fun K hK => ?_) AllReadyH.nil
      simp only [List.getElem_toArray, List.getElem_cons_zero, List.getElem_cons_succ]
      go_simp
      go_at_call 51
      refine (hasRule_any rule n _ _ _ _ _ _).mono ?_
      rintro e w3 ⟨rfl, hb⟩
      rw [Hhr.out]
      have HB3 := Lib.hid (bl_trans HB2.out hb)
      replace a0 := kc hb a0
      replace a1 := kc hb a1
      clear hb
      refine hK.out _ _ ⟨a0, a1⟩ (fun hHeld => ?_)
      clear hK K
      try simp only [Act.put, List.getElem_toArray, List.getElem_cons_zero, List.getElem_cons_succ, List.setIfInBounds_toArray, List.set_cons_zero, List.set_cons_succ]
      refine wpAnyH_take (i := 7) (v := .bool false) rfl (by kernel_rfl) (by kernel_rfl) (by kernel_rfl) (fun _ _ _ h => h) (Or.inl ⟨by rfl, ?_⟩) (by assumption) ?_
      · intro w hSw; simp only [List.getElem_toArray, List.getElem_cons_zero, List.getElem_cons_succ]; (first | (go_simp; done) | rfl | kernel_rfl)
      try simp only [Act.put, List.getElem_toArray, List.getElem_cons_zero, List.getElem_cons_succ, List.setIfInBounds_toArray, List.set_cons_zero, List.set_cons_succ]
      refine wpAnyH_take (i := 8) (v := .bool false) rfl (by kernel_rfl) (by kernel_rfl) (by kernel_rfl) (fun _ _ _ h => h) (Or.inl ⟨by rfl, ?_⟩) (by assumption) ?_
      · intro w hSw; simp only [List.getElem_toArray, List.getElem_cons_zero, List.getElem_cons_succ]; (first | (go_simp; done) | rfl | kernel_rfl)
      try simp only [Act.put, List.getElem_toArray, List.getElem_cons_zero, List.getElem_cons_succ, List.setIfInBounds_toArray, List.set_cons_zero, List.set_cons_succ]
      refine wpAnyH_take (i := 9) (v := undef) rfl (by kernel_rfl) (by kernel_rfl) (by kernel_rfl) (fun _ _ _ h => h) (Or.inr ⟨by rfl, rfl⟩) (by assumption) ?_
      try simp only [Act.put, List.getElem_toArray, List.getElem_cons_zero, List.getElem_cons_succ, List.setIfInBounds_toArray, List.set_cons_zero, List.set_cons_succ]
      refine wpAnyH_take (i := 10) (v := undef) rfl (by kernel_rfl) (by kernel_rfl) (by kernel_rfl) (fun _ _ _ h => h) (Or.inr ⟨by rfl, rfl⟩) (by assumption) ?_
      try simp only [Act.put, List.getElem_toArray, List.getElem_cons_zero, List.getElem_cons_succ, List.setIfInBounds_toArray, List.set_cons_zero, List.set_cons_succ]
      refine wpAnyH_take (i := 11) (v := undef) rfl (by kernel_rfl) (by kernel_rfl) (by kernel_rfl) (fun _ _ _ h => h) (Or.inr ⟨by rfl, rfl⟩) (by assumption) ?_
      try simp only [Act.put, List.getElem_toArray, List.getElem_cons_zero, List.getElem_cons_succ, List.setIfInBounds_toArray, List.set_cons_zero, List.set_cons_succ]
      refine wpAnyH_take (i := 12) (v := undef) rfl (by kernel_rfl) (by kernel_rfl) (by kernel_rfl) (fun _ _ _ h => h) (Or.inr ⟨by rfl, rfl⟩) (by assumption) ?_
      try simp only [Act.put, List.getElem_toArray, List.getElem_cons_zero, List.getElem_cons_succ, List.setIfInBounds_toArray, List.set_cons_zero, List.set_cons_succ]
      refine wpAnyH_take (i := 13) (v := undef) rfl (by kernel_rfl) (by kernel_rfl) (by kernel_rfl) (fun _ _ _ h => h) (Or.inr ⟨by rfl, rfl⟩) (by assumption) ?_
      try simp only [Act.put, List.getElem_toArray, List.getElem_cons_zero, List.getElem_cons_succ, List.setIfInBounds_toArray, List.set_cons_zero, List.set_cons_succ]
      refine wpAnyH_take (i := 14) (v := undef) rfl (by kernel_rfl) (by kernel_rfl) (by kernel_rfl) (fun _ _ _ h => h) (Or.inr ⟨by rfl, rfl⟩) (by assumption) ?_
      try simp only [Act.put, List.getElem_toArray, List.getElem_cons_zero, List.getElem_cons_succ, List.setIfInBounds_toArray, List.set_cons_zero, List.set_cons_succ]
      refine wpAnyH_take (i := 15) (v := undef) rfl (by kernel_rfl) (by kernel_rfl) (by kernel_rfl) (fun _ _ _ h => h) (Or.inr ⟨by rfl, rfl⟩) (by assumption) ?_
      try simp only [Act.put, List.getElem_toArray, List.getElem_cons_zero, List.getElem_cons_succ, List.setIfInBounds_toArray, List.set_cons_zero, List.set_cons_succ]
      refine wpAnyH_take (i := 16) (v := undef) rfl (by kernel_rfl) (by kernel_rfl) (by kernel_rfl) (fun _ _ _ h => h) (Or.inr ⟨by rfl, rfl⟩) (by assumption) ?_
      try simp only [Act.put, List.getElem_toArray, List.getElem_cons_zero, List.getElem_cons_succ, List.setIfInBounds_toArray, List.set_cons_zero, List.set_cons_succ]
      refine wpAnyH_take (i := 17) (v := undef) rfl (by kernel_rfl) (by kernel_rfl) (by kernel_rfl) (fun _ _ _ h => h) (Or.inr ⟨by rfl, rfl⟩) (by assumption) ?_
      try simp only [Act.put, List.getElem_toArray, List.getElem_cons_zero, List.getElem_cons_succ, List.setIfInBounds_toArray, List.set_cons_zero, List.set_cons_succ]
      refine wpAnyH_take (i := 18) (v := undef) rfl (by kernel_rfl) (by kernel_rfl) (by kernel_rfl) (fun _ _ _ h => h) (Or.inr ⟨by rfl, rfl⟩) (by assumption) ?_
      try simp only [Act.put, List.getElem_toArray, List.getElem_cons_zero, List.getElem_cons_succ, List.setIfInBounds_toArray, List.set_cons_zero, List.set_cons_succ]
      refine wpAnyH_take (i := 19) (v := undef) rfl (by kernel_rfl) (by kernel_rfl) (by kernel_rfl) (fun _ _ _ h => h) (Or.inr ⟨by rfl, rfl⟩) (by assumption) ?_
      try simp only [Act.put, List.getElem_toArray, List.getElem_cons_zero, List.getElem_cons_succ, List.setIfInBounds_toArray, List.set_cons_zero, List.set_cons_succ]
      refine wpAnyH_take (i := 20) (v := undef) rfl (by kernel_rfl) (by kernel_rfl) (by kernel_rfl) (fun _ _ _ h => h) (Or.inr ⟨by rfl, rfl⟩) (by assumption) ?_
      try simp only [Act.put, List.getElem_toArray, List.getElem_cons_zero, List.getElem_cons_succ, List.setIfInBounds_toArray, List.set_cons_zero, List.set_cons_succ]
      refine wpAnyH_take (i := 21) (v := .bool false) rfl (by kernel_rfl) (by kernel_rfl) (by kernel_rfl) (fun _ _ _ h => h) (Or.inl ⟨by rfl, ?_⟩) (by assumption) ?_
      · intro w hSw; simp only [List.getElem_toArray, List.getElem_cons_zero, List.getElem_cons_succ]; (first | (go_simp; done) | rfl | kernel_rfl)
      try simp only [Act.put, List.getElem_toArray, List.getElem_cons_zero, List.getElem_cons_succ, List.setIfInBounds_toArray, List.set_cons_zero, List.set_cons_succ]
      refine wpAnyH_take (i := 22) (v := .bool false) rfl (by kernel_rfl) (by kernel_rfl) (by kernel_rfl) (fun _ _ _ h => h) (Or.inl ⟨by rfl, ?_⟩) (by assumption) ?_
      · intro w hSw; simp only [List.getElem_toArray, List.getElem_cons_zero, List.getElem_cons_succ]; (first | (go_simp; done) | rfl | kernel_rfl)
      try simp only [Act.put, List.getElem_toArray, List.getElem_cons_zero, List.getElem_cons_succ, List.setIfInBounds_toArray, List.set_cons_zero, List.set_cons_succ]
      refine wpAnyH_done (by kernel_rfl) ?_ _
      go_wp2
      go_ret
      exact ⟨ret_bool He.out.symm, by first | exact HB3.out | (rw [← hHe]; exact HB3.out)⟩
  case pos =>
    obtain ⟨h0, h1⟩ := hk
    obtain ⟨k, rfl⟩ : ∃ k : Nat, rule = (k : Int) := ⟨rule.toNat, by omega⟩
    have hk : k < n := by omega
    have Hhr := Lib.hid (show (decide (0 ≤ (k : Int)) && decide ((k : Int) < n)) = true from by simp; omega)
    have Hd2 := Lib.hid (show ∀ z, rhB s n q c k = z ↔ (cvB s n q c && holdB (q k) c.x) = z from fun z => by rw [Hd.out, Int.toNat_natCast, ← Bool.and_assoc (decide (0 ≤ (k : Int))), Hhr.out, Bool.true_and])
    clear Hd
    obtain ⟨b, off, rfl, hbl, hc⟩ := (HR.out.later HA.out) (by omega)
    obtain ⟨Av, cv, Aq, cq, Ar', cr', c0, c1, c2, c3, c4, hv, hcc, hrk⟩ := hc k hk
    have HV := Lib.hid hv
    have HQ := Lib.hid hcc
    have HRk := Lib.hid hrk
    clear hc hv hcc hrk
    refine wp_region_held_drew (S := fun w' => w'.cell? ⟨H, 0, none⟩ = some (.slice As s.n cs) ∧ w'.cell? ⟨H, 1, none⟩ = some (.slice (some ⟨b, off, none⟩) n cr) ∧ w'.cell? ⟨b, off + k * 5, none⟩ = some (.int .i64 (q k).k) ∧ w'.cell? ⟨b, off + k * 5 + 1, none⟩ = some (.slice Av (q k).v.n cv) ∧ w'.cell? ⟨b, off + k * 5 + 2, none⟩ = some (.slice Aq (q k).c.n cq) ∧ w'.cell? ⟨b, off + k * 5 + 3, none⟩ = some (.int .i64 (q k).bd) ∧ w'.cell? ⟨b, off + k * 5 + 4, none⟩ = some (.slice Ar' (q k).n cr')) (by kernel_rfl) ⟨by simpa using a0, by simpa using a1, by simpa using c0, by simpa using c1, by simpa using c2, by simpa using c3, by simpa using c4⟩ (fun hHeld => ?_)
    refine wpAnyH_take (i := 0) (v := .agg #[.slice As s.n cs, .slice (some ⟨b, off, none⟩) n cr]) rfl (by kernel_rfl) (by kernel_rfl) (by kernel_rfl) (fun _ _ _ h => h) (Or.inl ⟨by rfl, ?_⟩) (by assumption) ?_
    · intro w hSw; obtain ⟨s0, s1, s2, s3, s4, s5, s6⟩ := hSw; simp only [List.getElem_toArray, List.getElem_cons_zero, List.getElem_cons_succ]; (first | (go_simp; done) | rfl | kernel_rfl)
    try simp only [Act.put, List.getElem_toArray, List.getElem_cons_zero, List.getElem_cons_succ, List.setIfInBounds_toArray, List.set_cons_zero, List.set_cons_succ]
    refine wpAnyH_take (i := 1) (v := .slice Ac c.n cc) rfl (by kernel_rfl) (by kernel_rfl) (by kernel_rfl) (fun _ _ _ h => h) (Or.inl ⟨by rfl, ?_⟩) (by assumption) ?_
    · intro w hSw; simp only [List.getElem_toArray, List.getElem_cons_zero, List.getElem_cons_succ]; (first | (go_simp; done) | rfl | kernel_rfl)
    try simp only [Act.put, List.getElem_toArray, List.getElem_cons_zero, List.getElem_cons_succ, List.setIfInBounds_toArray, List.set_cons_zero, List.set_cons_succ]
    clear hHeld
    refine wpAnyH_ready (rs := [2]) (by kernel_rfl) (by simp) ?_
    refine AllReadyH.cons rfl (fun K hK => ?_) AllReadyH.nil
    simp only [List.getElem_toArray, List.getElem_cons_zero, List.getElem_cons_succ]
    go_simp
    go_at_call 15
    refine (implCells_any s c n q _ _ _ _ _ _ _ p1 p2 p3 P4.out (HS.out.later (bl_trans HA.out (Below.refl w1.heap.size w1).drew)) (HR.out.later (bl_trans HA.out (Below.refl w1.heap.size w1).drew)) (HC.out.later (bl_trans HA.out (Below.refl w1.heap.size w1).drew))).mono ?_
    rintro e w2 ⟨rfl, hb⟩
    have hbd := bl_trans (Below.refl w1.heap.size w1).drew hb
    have HB2 := Lib.hid (bl_trans HA.out hbd)
    have HBw := Lib.hid hbd
    replace a0 := kc hbd a0
    replace a1 := kc hbd a1
    replace c0 := kc hbd c0
    replace c1 := kc hbd c1
    replace c2 := kc hbd c2
    replace c3 := kc hbd c3
    replace c4 := kc hbd c4
    clear hb hbd
    refine hK.out _ _ ⟨a0, a1, c0, c1, c2, c3, c4⟩ (fun hHeld => ?_)
    clear hK K
    try simp only [Act.put, List.getElem_toArray, List.getElem_cons_zero, List.getElem_cons_succ, List.setIfInBounds_toArray, List.set_cons_zero, List.set_cons_succ]
    cases hm : cvB s n q c with
    | false =>
      have He := Lib.hid ((Hd2.out false).2 (by rw [hm]; rfl))
      clear hm Hd2
      refine wpAnyH_take (i := 3) (v := .bool false) rfl (by kernel_rfl) (by kernel_rfl) (by kernel_rfl) (fun _ _ _ h => h) (Or.inl ⟨by rfl, ?_⟩) (by assumption) ?_
      · intro w hSw; simp only [List.getElem_toArray, List.getElem_cons_zero, List.getElem_cons_succ]; (first | (go_simp; done) | rfl | kernel_rfl)
      try simp only [Act.put, List.getElem_toArray, List.getElem_cons_zero, List.getElem_cons_succ, List.setIfInBounds_toArray, List.set_cons_zero, List.set_cons_succ]
      refine wpAnyH_take (i := 4) (v := undef) rfl (by kernel_rfl) (by kernel_rfl) (by kernel_rfl) (fun _ _ _ h => h) (Or.inr ⟨by rfl, rfl⟩) (by assumption) ?_
      try simp only [Act.put, List.getElem_toArray, List.getElem_cons_zero, List.getElem_cons_succ, List.setIfInBounds_toArray, List.set_cons_zero, List.set_cons_succ]
      refine wpAnyH_take (i := 5) (v := undef) rfl (by kernel_rfl) (by kernel_rfl) (by kernel_rfl) (fun _ _ _ h => h) (Or.inr ⟨by rfl, rfl⟩) (by assumption) ?_
      try simp only [Act.put, List.getElem_toArray, List.getElem_cons_zero, List.getElem_cons_succ, List.setIfInBounds_toArray, List.set_cons_zero, List.set_cons_succ]
      refine wpAnyH_take (i := 6) (v := undef) rfl (by kernel_rfl) (by kernel_rfl) (by kernel_rfl) (fun _ _ _ h => h) (Or.inr ⟨by rfl, rfl⟩) (by assumption) ?_
      try simp only [Act.put, List.getElem_toArray, List.getElem_cons_zero, List.getElem_cons_succ, List.setIfInBounds_toArray, List.set_cons_zero, List.set_cons_succ]
      refine wpAnyH_take (i := 7) (v := .bool false) rfl (by kernel_rfl) (by kernel_rfl) (by kernel_rfl) (fun _ _ _ h => h) (Or.inl ⟨by rfl, ?_⟩) (by assumption) ?_
      · intro w hSw; simp only [List.getElem_toArray, List.getElem_cons_zero, List.getElem_cons_succ]; (first | (go_simp; done) | rfl | kernel_rfl)
      try simp only [Act.put, List.getElem_toArray, List.getElem_cons_zero, List.getElem_cons_succ, List.setIfInBounds_toArray, List.set_cons_zero, List.set_cons_succ]
      refine wpAnyH_take (i := 8) (v := .bool false) rfl (by kernel_rfl) (by kernel_rfl) (by kernel_rfl) (fun _ _ _ h => h) (Or.inl ⟨by rfl, ?_⟩) (by assumption) ?_
      · intro w hSw; simp only [List.getElem_toArray, List.getElem_cons_zero, List.getElem_cons_succ]; (first | (go_simp; done) | rfl | kernel_rfl)
      try simp only [Act.put, List.getElem_toArray, List.getElem_cons_zero, List.getElem_cons_succ, List.setIfInBounds_toArray, List.set_cons_zero, List.set_cons_succ]
      refine wpAnyH_take (i := 9) (v := undef) rfl (by kernel_rfl) (by kernel_rfl) (by kernel_rfl) (fun _ _ _ h => h) (Or.inr ⟨by rfl, rfl⟩) (by assumption) ?_
      try simp only [Act.put, List.getElem_toArray, List.getElem_cons_zero, List.getElem_cons_succ, List.setIfInBounds_toArray, List.set_cons_zero, List.set_cons_succ]
      refine wpAnyH_take (i := 10) (v := undef) rfl (by kernel_rfl) (by kernel_rfl) (by kernel_rfl) (fun _ _ _ h => h) (Or.inr ⟨by rfl, rfl⟩) (by assumption) ?_
      try simp only [Act.put, List.getElem_toArray, List.getElem_cons_zero, List.getElem_cons_succ, List.setIfInBounds_toArray, List.set_cons_zero, List.set_cons_succ]
      refine wpAnyH_take (i := 11) (v := undef) rfl (by kernel_rfl) (by kernel_rfl) (by kernel_rfl) (fun _ _ _ h => h) (Or.inr ⟨by rfl, rfl⟩) (by assumption) ?_
      try simp only [Act.put, List.getElem_toArray, List.getElem_cons_zero, List.getElem_cons_succ, List.setIfInBounds_toArray, List.set_cons_zero, List.set_cons_succ]
      refine wpAnyH_take (i := 12) (v := undef) rfl (by kernel_rfl) (by kernel_rfl) (by kernel_rfl) (fun _ _ _ h => h) (Or.inr ⟨by rfl, rfl⟩) (by assumption) ?_
      try simp only [Act.put, List.getElem_toArray, List.getElem_cons_zero, List.getElem_cons_succ, List.setIfInBounds_toArray, List.set_cons_zero, List.set_cons_succ]
      refine wpAnyH_take (i := 13) (v := undef) rfl (by kernel_rfl) (by kernel_rfl) (by kernel_rfl) (fun _ _ _ h => h) (Or.inr ⟨by rfl, rfl⟩) (by assumption) ?_
      try simp only [Act.put, List.getElem_toArray, List.getElem_cons_zero, List.getElem_cons_succ, List.setIfInBounds_toArray, List.set_cons_zero, List.set_cons_succ]
      refine wpAnyH_take (i := 14) (v := undef) rfl (by kernel_rfl) (by kernel_rfl) (by kernel_rfl) (fun _ _ _ h => h) (Or.inr ⟨by rfl, rfl⟩) (by assumption) ?_
      try simp only [Act.put, List.getElem_toArray, List.getElem_cons_zero, List.getElem_cons_succ, List.setIfInBounds_toArray, List.set_cons_zero, List.set_cons_succ]
      refine wpAnyH_take (i := 15) (v := undef) rfl (by kernel_rfl) (by kernel_rfl) (by kernel_rfl) (fun _ _ _ h => h) (Or.inr ⟨by rfl, rfl⟩) (by assumption) ?_
      try simp only [Act.put, List.getElem_toArray, List.getElem_cons_zero, List.getElem_cons_succ, List.setIfInBounds_toArray, List.set_cons_zero, List.set_cons_succ]
      refine wpAnyH_take (i := 16) (v := undef) rfl (by kernel_rfl) (by kernel_rfl) (by kernel_rfl) (fun _ _ _ h => h) (Or.inr ⟨by rfl, rfl⟩) (by assumption) ?_
      try simp only [Act.put, List.getElem_toArray, List.getElem_cons_zero, List.getElem_cons_succ, List.setIfInBounds_toArray, List.set_cons_zero, List.set_cons_succ]
      refine wpAnyH_take (i := 17) (v := undef) rfl (by kernel_rfl) (by kernel_rfl) (by kernel_rfl) (fun _ _ _ h => h) (Or.inr ⟨by rfl, rfl⟩) (by assumption) ?_
      try simp only [Act.put, List.getElem_toArray, List.getElem_cons_zero, List.getElem_cons_succ, List.setIfInBounds_toArray, List.set_cons_zero, List.set_cons_succ]
      refine wpAnyH_take (i := 18) (v := undef) rfl (by kernel_rfl) (by kernel_rfl) (by kernel_rfl) (fun _ _ _ h => h) (Or.inr ⟨by rfl, rfl⟩) (by assumption) ?_
      try simp only [Act.put, List.getElem_toArray, List.getElem_cons_zero, List.getElem_cons_succ, List.setIfInBounds_toArray, List.set_cons_zero, List.set_cons_succ]
      refine wpAnyH_take (i := 19) (v := undef) rfl (by kernel_rfl) (by kernel_rfl) (by kernel_rfl) (fun _ _ _ h => h) (Or.inr ⟨by rfl, rfl⟩) (by assumption) ?_
      try simp only [Act.put, List.getElem_toArray, List.getElem_cons_zero, List.getElem_cons_succ, List.setIfInBounds_toArray, List.set_cons_zero, List.set_cons_succ]
      refine wpAnyH_take (i := 20) (v := undef) rfl (by kernel_rfl) (by kernel_rfl) (by kernel_rfl) (fun _ _ _ h => h) (Or.inr ⟨by rfl, rfl⟩) (by assumption) ?_
      try simp only [Act.put, List.getElem_toArray, List.getElem_cons_zero, List.getElem_cons_succ, List.setIfInBounds_toArray, List.set_cons_zero, List.set_cons_succ]
      refine wpAnyH_take (i := 21) (v := .bool false) rfl (by kernel_rfl) (by kernel_rfl) (by kernel_rfl) (fun _ _ _ h => h) (Or.inl ⟨by rfl, ?_⟩) (by assumption) ?_
      · intro w hSw; simp only [List.getElem_toArray, List.getElem_cons_zero, List.getElem_cons_succ]; (first | (go_simp; done) | rfl | kernel_rfl)
      try simp only [Act.put, List.getElem_toArray, List.getElem_cons_zero, List.getElem_cons_succ, List.setIfInBounds_toArray, List.set_cons_zero, List.set_cons_succ]
      refine wpAnyH_take (i := 22) (v := .bool false) rfl (by kernel_rfl) (by kernel_rfl) (by kernel_rfl) (fun _ _ _ h => h) (Or.inl ⟨by rfl, ?_⟩) (by assumption) ?_
      · intro w hSw; simp only [List.getElem_toArray, List.getElem_cons_zero, List.getElem_cons_succ]; (first | (go_simp; done) | rfl | kernel_rfl)
      try simp only [Act.put, List.getElem_toArray, List.getElem_cons_zero, List.getElem_cons_succ, List.setIfInBounds_toArray, List.set_cons_zero, List.set_cons_succ]
      refine wpAnyH_done (by kernel_rfl) ?_ _
      go_wp2
      go_ret
      exact ⟨ret_bool He.out.symm, by first | exact HB2.out | (rw [← hHe]; exact HB2.out)⟩
    | true =>
      have Ok := Lib.hid (cv_ok hm)
      have hsc := hold_congr (u := cvV s.n c.x) (u' := c.x) (Ok.out.rules k hk) (fun j hj => cvV_at hj)
      have He := Lib.hid ((Hd2.out (holdB (q k) (cvV s.n c.x))).2 (by rw [hm, hsc]; rfl))
      have hlen := Ok.out.len
      clear hm Hd2 hsc
      obtain ⟨rule, hrule⟩ : ∃ r, (k : Int) = r := ⟨_, rfl⟩
      clear rule hrule
      refine wpAnyH_take (i := 3) (v := .bool true) rfl (by kernel_rfl) (by kernel_rfl) (by kernel_rfl) (fun _ _ _ h => h) (Or.inl ⟨by rfl, ?_⟩) (by assumption) ?_
      · intro w hSw; simp only [List.getElem_toArray, List.getElem_cons_zero, List.getElem_cons_succ]; (first | (go_simp; done) | rfl | kernel_rfl)
      try simp only [Act.put, List.getElem_toArray, List.getElem_cons_zero, List.getElem_cons_succ, List.setIfInBounds_toArray, List.set_cons_zero, List.set_cons_succ]
      refine wpAnyH_take (i := 4) (v := .agg #[.slice As s.n cs, .slice (some ⟨b, off, none⟩) n cr]) rfl (by kernel_rfl) (by kernel_rfl) (by kernel_rfl) (fun _ _ _ h => h) (Or.inl ⟨by rfl, ?_⟩) (by assumption) ?_
      · intro w hSw; obtain ⟨s0, s1, s2, s3, s4, s5, s6⟩ := hSw; simp only [List.getElem_toArray, List.getElem_cons_zero, List.getElem_cons_succ]; (first | (go_simp; done) | rfl | kernel_rfl)
      try simp only [Act.put, List.getElem_toArray, List.getElem_cons_zero, List.getElem_cons_succ, List.setIfInBounds_toArray, List.set_cons_zero, List.set_cons_succ]
      refine wpAnyH_take (i := 5) (v := .int .i64 k) rfl (by kernel_rfl) (by kernel_rfl) (by kernel_rfl) (fun _ _ _ h => h) (Or.inl ⟨by rfl, ?_⟩) (by assumption) ?_
      · intro w hSw; simp only [List.getElem_toArray, List.getElem_cons_zero, List.getElem_cons_succ]; (first | (go_simp; done) | rfl | kernel_rfl)
      try simp only [Act.put, List.getElem_toArray, List.getElem_cons_zero, List.getElem_cons_succ, List.setIfInBounds_toArray, List.set_cons_zero, List.set_cons_succ]
      clear hHeld
      refine wpAnyH_ready (rs := [6]) (by kernel_rfl) (by simp) ?_
      refine AllReadyH.cons rfl (fun K hK => ?_) AllReadyH.nil
      simp only [List.getElem_toArray, List.getElem_cons_zero, List.getElem_cons_succ]
      go_simp
      go_at_call 51
      refine (hasRule_any k n _ _ _ _ _ _).mono ?_
      rintro e w3 ⟨rfl, hb⟩
      rw [Hhr.out]
      have HB3 := Lib.hid (bl_trans HB2.out hb)
      have HB3' := Lib.hid hb
      replace a0 := kc hb a0
      replace a1 := kc hb a1
      replace c0 := kc hb c0
      replace c1 := kc hb c1
      replace c2 := kc hb c2
      replace c3 := kc hb c3
      replace c4 := kc hb c4
      clear hb
      refine hK.out _ _ ⟨a0, a1, c0, c1, c2, c3, c4⟩ (fun hHeld => ?_)
      clear hK K
      try simp only [Act.put, List.getElem_toArray, List.getElem_cons_zero, List.getElem_cons_succ, List.setIfInBounds_toArray, List.set_cons_zero, List.set_cons_succ]
      refine wpAnyH_take (i := 7) (v := .bool true) rfl (by kernel_rfl) (by kernel_rfl) (by kernel_rfl) (fun _ _ _ h => h) (Or.inl ⟨by rfl, ?_⟩) (by assumption) ?_
      · intro w hSw; simp only [List.getElem_toArray, List.getElem_cons_zero, List.getElem_cons_succ]; (first | (go_simp; done) | rfl | kernel_rfl)
      try simp only [Act.put, List.getElem_toArray, List.getElem_cons_zero, List.getElem_cons_succ, List.setIfInBounds_toArray, List.set_cons_zero, List.set_cons_succ]
      refine wpAnyH_take (i := 8) (v := .bool true) rfl (by kernel_rfl) (by kernel_rfl) (by kernel_rfl) (fun _ _ _ h => h) (Or.inl ⟨by rfl, ?_⟩) (by assumption) ?_
      · intro w hSw; simp only [List.getElem_toArray, List.getElem_cons_zero, List.getElem_cons_succ]; (first | (go_simp; done) | rfl | kernel_rfl)
      try simp only [Act.put, List.getElem_toArray, List.getElem_cons_zero, List.getElem_cons_succ, List.setIfInBounds_toArray, List.set_cons_zero, List.set_cons_succ]
      refine wpAnyH_take (i := 9) (v := .pointer (some ⟨H, 1, none⟩)) rfl (by kernel_rfl) (by kernel_rfl) (by kernel_rfl) (fun _ _ _ h => h) (Or.inl ⟨by rfl, ?_⟩) (by assumption) ?_
      · intro w hSw; simp only [List.getElem_toArray, List.getElem_cons_zero, List.getElem_cons_succ]; (first | (go_simp; done) | rfl | kernel_rfl)
      try simp only [Act.put, List.getElem_toArray, List.getElem_cons_zero, List.getElem_cons_succ, List.setIfInBounds_toArray, List.set_cons_zero, List.set_cons_succ]
      refine wpAnyH_take (i := 10) (v := .slice (some ⟨b, off, none⟩) n cr) rfl (by kernel_rfl) (by kernel_rfl) (by kernel_rfl) (fun _ _ _ h => h) (Or.inl ⟨by rfl, ?_⟩) (by assumption) ?_
      · intro w hSw; obtain ⟨s0, s1, s2, s3, s4, s5, s6⟩ := hSw; simp only [List.getElem_toArray, List.getElem_cons_zero, List.getElem_cons_succ]; (first | (go_simp; done) | rfl | kernel_rfl)
      try simp only [Act.put, List.getElem_toArray, List.getElem_cons_zero, List.getElem_cons_succ, List.setIfInBounds_toArray, List.set_cons_zero, List.set_cons_succ]
      refine wpAnyH_take (i := 11) (v := .int .i64 k) rfl (by kernel_rfl) (by kernel_rfl) (by kernel_rfl) (fun _ _ _ h => h) (Or.inl ⟨by rfl, ?_⟩) (by assumption) ?_
      · intro w hSw; simp only [List.getElem_toArray, List.getElem_cons_zero, List.getElem_cons_succ]; (first | (go_simp; done) | rfl | kernel_rfl)
      try simp only [Act.put, List.getElem_toArray, List.getElem_cons_zero, List.getElem_cons_succ, List.setIfInBounds_toArray, List.set_cons_zero, List.set_cons_succ]
      refine wpAnyH_take (i := 12) (v := .pointer (some ⟨b, off + k * 5, none⟩)) rfl (by kernel_rfl) (by kernel_rfl) (by kernel_rfl) (fun _ _ _ h => h) (Or.inl ⟨by rfl, ?_⟩) (by assumption) ?_
      · intro w hSw; simp only [List.getElem_toArray, List.getElem_cons_zero, List.getElem_cons_succ]; (first | (go_simp; done) | rfl | kernel_rfl)
      try simp only [Act.put, List.getElem_toArray, List.getElem_cons_zero, List.getElem_cons_succ, List.setIfInBounds_toArray, List.set_cons_zero, List.set_cons_succ]
      refine wpAnyH_take (i := 13) (v := .agg #[.int .i64 (q k).k, .slice Av (q k).v.n cv, .slice Aq (q k).c.n cq, .int .i64 (q k).bd, .slice Ar' (q k).n cr']) rfl (by kernel_rfl) (by kernel_rfl) (by kernel_rfl) (fun _ _ _ h => h) (Or.inl ⟨by rfl, ?_⟩) (by assumption) ?_
      · intro w hSw; obtain ⟨s0, s1, s2, s3, s4, s5, s6⟩ := hSw; simp only [List.getElem_toArray, List.getElem_cons_zero, List.getElem_cons_succ]; (first | (go_simp; done) | rfl | kernel_rfl)
      try simp only [Act.put, List.getElem_toArray, List.getElem_cons_zero, List.getElem_cons_succ, List.setIfInBounds_toArray, List.set_cons_zero, List.set_cons_succ]
      refine wpAnyH_take (i := 15) (v := .slice Ac s.n cc) rfl (by kernel_rfl) (by kernel_rfl) (by kernel_rfl) (fun _ _ _ h => h) (Or.inl ⟨by rfl, ?_⟩) (by assumption) ?_
      · intro w hSw; simp only [List.getElem_toArray, List.getElem_cons_zero, List.getElem_cons_succ]; (first | (go_simp; done) | rfl | kernel_rfl)
      try simp only [Act.put, List.getElem_toArray, List.getElem_cons_zero, List.getElem_cons_succ, List.setIfInBounds_toArray, List.set_cons_zero, List.set_cons_succ]
      obtain ⟨T, X, f, hT, hm, ef, hnil, hC⟩ := (typed_check s.n (q k) (cvV s.n c.x) Av Aq Ar' cv cq cr' w3 Ok.out.five (Ok.out.rules k hk) (cvV_cel Ok.out.cel) (P4.out k hk) (HV.out.later (bl_trans HBw.out HB3'.out)) (HQ.out.later (bl_trans HBw.out HB3'.out)) (HRk.out.later (bl_trans HBw.out HB3'.out))).go
      clear hHeld
      refine wpAnyH_ready (rs := [14]) (by kernel_rfl) (by simp) ?_
      refine AllReadyH.cons rfl (fun K hK => ?_) AllReadyH.nil
      simp only [List.getElem_toArray, List.getElem_cons_zero, List.getElem_cons_succ]
      go_simp
      go_at_call 52
      refine (typed_any (q k).k (q k).bd (q k).v (q k).c (q k).n _ _ _ _ _ _ _).mono ?_
      rintro e w4 ⟨rfl, hb⟩
      rw [hT]
      have HB4 := Lib.hid (bl_trans HB3.out hb)
      have HB34 := Lib.hid hb
      replace a0 := kc hb a0
      replace a1 := kc hb a1
      replace c0 := kc hb c0
      replace c1 := kc hb c1
      replace c2 := kc hb c2
      replace c3 := kc hb c3
      replace c4 := kc hb c4
      clear hb
      refine hK.out _ _ ⟨a0, a1, c0, c1, c2, c3, c4⟩ (fun hHeld => ?_)
      clear hK K
      try simp only [Act.put, List.getElem_toArray, List.getElem_cons_zero, List.getElem_cons_succ, List.setIfInBounds_toArray, List.set_cons_zero, List.set_cons_succ]
      refine wpAnyH_take (i := 17) (v := .func (.method "loop.example/cuttingplanes/impl.check") #[.iface T X] #[]) rfl (by kernel_rfl) (by kernel_rfl) (by kernel_rfl) (fun _ _ _ h => h) (Or.inl ⟨by rfl, ?_⟩) (by assumption) ?_
      · intro w hSw; simp only [List.getElem_toArray, List.getElem_cons_zero, List.getElem_cons_succ]; (first | (go_simp; done) | rfl | kernel_rfl)
      try simp only [Act.put, List.getElem_toArray, List.getElem_cons_zero, List.getElem_cons_succ, List.setIfInBounds_toArray, List.set_cons_zero, List.set_cons_succ]
      refine wpAnyH_take (i := 18) (v := .func (.method "loop.example/cuttingplanes/impl.check") #[.iface T X] #[]) rfl (by kernel_rfl) (by kernel_rfl) (by kernel_rfl) (fun _ _ _ h => h) (Or.inl ⟨by rfl, ?_⟩) (by assumption) ?_
      · intro w hSw; exact run_nilCheck (x := .tmp 24) rfl rfl (hnil w)
      try simp only [Act.put, List.getElem_toArray, List.getElem_cons_zero, List.getElem_cons_succ, List.setIfInBounds_toArray, List.set_cons_zero, List.set_cons_succ]
      refine wpAnyH_take (i := 19) (v := .iface T X) rfl (by kernel_rfl) (by kernel_rfl) (by kernel_rfl) (fun _ _ _ h => h) (Or.inl ⟨by rfl, ?_⟩) (by assumption) ?_
      · intro w hSw; simp only [List.getElem_toArray, List.getElem_cons_zero, List.getElem_cons_succ]; (first | (go_simp; done) | rfl | kernel_rfl)
      try simp only [Act.put, List.getElem_toArray, List.getElem_cons_zero, List.getElem_cons_succ, List.setIfInBounds_toArray, List.set_cons_zero, List.set_cons_succ]
      clear hHeld
      refine wpAnyH_ready (rs := [16]) (by kernel_rfl) (by simp) ?_
      refine AllReadyH.cons rfl (fun K hK => ?_) AllReadyH.nil
      simp only [List.getElem_toArray, List.getElem_cons_zero, List.getElem_cons_succ]
      go_simp
      go_at_call 46
      have hx := HC.out.later HB4.out
      rw [hlen] at hx
      refine (cvo_any s.n _ _ c.x _ Ok.out.five Ok.out.one hx).mono ?_
      rintro e w5 ⟨rfl, hb⟩
      have Hw5 := Lib.hid (bl_trans HB4.out hb)
      have Hb35 := Lib.hid hb
      replace a0 := kc hb a0
      replace a1 := kc hb a1
      replace c0 := kc hb c0
      replace c1 := kc hb c1
      replace c2 := kc hb c2
      replace c3 := kc hb c3
      replace c4 := kc hb c4
      clear hb hx
      refine hK.out _ _ ⟨a0, a1, c0, c1, c2, c3, c4⟩ (fun hHeld => ?_)
      clear hK K
      try simp only [Act.put, List.getElem_toArray, List.getElem_cons_zero, List.getElem_cons_succ, List.setIfInBounds_toArray, List.set_cons_zero, List.set_cons_succ]
      clear hHeld
      refine wpAnyH_ready (rs := [20]) (by kernel_rfl) (by simp) ?_
      refine AllReadyH.cons rfl (fun K hK => ?_) AllReadyH.nil
      simp only [List.getElem_toArray, List.getElem_cons_zero, List.getElem_cons_succ]
      go_simp
      refine (hC _ (bl_trans HB34.out Hb35.out)).mono ?_
      rintro e w6 ⟨rfl, hb⟩
      have HB6 := Lib.hid (bl_trans Hw5.out hb)
      replace a0 := kc hb a0
      replace a1 := kc hb a1
      replace c0 := kc hb c0
      replace c1 := kc hb c1
      replace c2 := kc hb c2
      replace c3 := kc hb c3
      replace c4 := kc hb c4
      clear hb hm hnil ef hT
      refine hK.out _ _ ⟨a0, a1, c0, c1, c2, c3, c4⟩ (fun hHeld => ?_)
      clear hK K
      try simp only [Act.put, List.getElem_toArray, List.getElem_cons_zero, List.getElem_cons_succ, List.setIfInBounds_toArray, List.set_cons_zero, List.set_cons_succ]
      generalize holdB (q k) (cvV s.n c.x) = z at *
      refine wpAnyH_take (i := 21) (v := .bool z) rfl (by kernel_rfl) (by kernel_rfl) (by kernel_rfl) (fun _ _ _ h => h) (Or.inl ⟨by rfl, ?_⟩) (by assumption) ?_
      · intro w hSw; simp only [List.getElem_toArray, List.getElem_cons_zero, List.getElem_cons_succ]; (first | (go_simp; done) | rfl | kernel_rfl)
      try simp only [Act.put, List.getElem_toArray, List.getElem_cons_zero, List.getElem_cons_succ, List.setIfInBounds_toArray, List.set_cons_zero, List.set_cons_succ]
      refine wpAnyH_take (i := 22) (v := .bool z) rfl (by kernel_rfl) (by kernel_rfl) (by kernel_rfl) (fun _ _ _ h => h) (Or.inl ⟨by rfl, ?_⟩) (by assumption) ?_
      · intro w hSw; simp only [List.getElem_toArray, List.getElem_cons_zero, List.getElem_cons_succ]; (first | (go_simp; done) | rfl | kernel_rfl)
      try simp only [Act.put, List.getElem_toArray, List.getElem_cons_zero, List.getElem_cons_succ, List.setIfInBounds_toArray, List.set_cons_zero, List.set_cons_succ]
      refine wpAnyH_done (by kernel_rfl) ?_ _
      go_wp2
      go_ret
      exact ⟨ret_bool He.out.symm, by first | exact HB6.out | (rw [← hHe]; exact HB6.out)⟩

end Go.Proofs.Ythjcbaccoogloaa

