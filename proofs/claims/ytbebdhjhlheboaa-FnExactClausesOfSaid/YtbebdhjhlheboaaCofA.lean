/- Contracts of the reference's ClausesOf (no claim of its own). Conditions: as each theorem states. -/
import Derived.Test.YtbebdhjhlheboaaCofM
import Derived.Test.YtbebdhjhlheboaaDsjQ
import Derived.Test.YtbebdhjhlheboaaMkCs
import Derived.Test.YtbebdhjhlheboaaImpA
namespace Go.Proofs.Ytbebdhjhlheboaa
open Go.ChangeShapes Go.WideShapes Go.ChangeAt Go.RowKit

theorem bits_odd : ∀ a b : Fin 64, (bits .and .i64 ((a.val * 64 + b.val : Nat) : Int) 1 == 1) = ((a.val * 64 + b.val) % 2 == 1) := by decide +kernel
theorem bits_J {j k : Nat} (h : j < 4096) : (bits .and .i64 ((j : Int) / 2 ^ k) 1 == 1) = bitJ j k := by
  have h1 : ((j : Int) / 2 ^ k) = ((j / 2 ^ k : Nat) : Int) := by simp
  have h2 : j / 2 ^ k < 4096 := Nat.lt_of_le_of_lt (Nat.div_le_self _ _) h
  rw [h1]
  have h3 := bits_odd ⟨j / 2 ^ k / 64, by omega⟩ ⟨j / 2 ^ k % 64, by omega⟩
  have h4 : j / 2 ^ k / 64 * 64 + j / 2 ^ k % 64 = j / 2 ^ k := by omega
  simp only [h4] at h3
  exact h3
theorem pow_12 {n : Nat} (h : n ≤ 12) : 2 ^ n ≤ 4096 := Nat.pow_le_pow_right (n := 2) (by omega) h
/-- The literals of rows, as cells. -/
def pkV (R : List (Int × Int)) : List Value := R.map fun x => Value.int .i64 x.2
theorem pkV_len (R : List (Int × Int)) : (pkV R).length = R.length := by simp [pkV]
theorem pkV_new (w : World) : (w.alloc (.cells #[] 3)).ownsRow w.heap.size 3 1 (.slice (some ⟨w.heap.size, 0, none⟩) 0 0) 0 (pkV []) := by
  simpa [pkV] using World.ownsRow_lit (e := 3) (size := 1) w #[] 0 (Nat.le_refl _) (by unfold maxLen; omega) (by simp)
theorem pkV_rdi {w : World} {B : Nat} {ov : Value} {R : List (Int × Int)} (h : w.ownsRow B 3 1 ov R.length (pkV R)) : ∃ A cap, ov = .slice A R.length cap ∧ RdI w w.heap.size A R.length (pkL R) := by
  rcases h.2 with ⟨rfl, h0⟩ | ⟨g, cap, cur, rfl, hg, hh, hnc, _, hsz, htk⟩
  · exact ⟨none, 0, by rw [h0], fun hp => by omega⟩
  · refine ⟨_, cap, rfl, fun hp => ⟨g, 0, rfl, block_lt hh, fun i hi => ?_⟩⟩
    have hx : (pkV R)[i]? = some (.int .i64 (pkL R i)) := by
      unfold pkV pkL
      rw [List.getElem?_map, List.getD_eq_getElem?_getD, List.getElem?_eq_getElem hi]
      rfl
    rw [← htk, List.getElem?_take_of_lt (by omega)] at hx
    rw [Nat.zero_add]
    exact (cell_of_row w g _ cur _ _ hh).trans (by simpa using hx)

/-- The append of one literal. -/
theorem wp_lit1 {o : Oper} {a : Act} {K : Act → World → Prop} {Q : Exit → Act → World → Prop} {W : World} {B : Nat} {ov : Value} {R : List (Int × Int)} (s x : Operand)
    (ho : o.op = .call { callee := .builtin .append, args := #[s, x], argTypes := #[23, 23] })
    (h : W.ownsRow B 3 1 ov R.length (pkV R)) (hB : B ≤ W.heap.size) (hs : a.eval s = ov) {H : Nat} (hx : a.eval x = .slice (some ⟨H, 0, none⟩) 1 1) {X : Int} {T' : TypeId} (hnew : W.heap[H]? = some (.cells #[.int .i64 X] T' (0, 0))) (hk : R.length ≤ 10000) (Y : Int)
    (hK : ∀ g cap w', w'.ownsRow B 3 1 (.slice (some ⟨g, 0, none⟩) (R.length + 1) cap) (R ++ [(Y, X)]).length (pkV (R ++ [(Y, X)])) → W.grownBy w' ov.ownBlock → K (a.put o.dst (.slice (some ⟨g, 0, none⟩) (R.length + 1) cap)) w') :
    o.wp Try.prog a W K Q := by
  obtain ⟨i0, hi0, hz0, hz1, hz2⟩ := info_parts Try.infoInt
  refine wp_append_lies _ s x 23 ho B 3 i0 _ 1 8 Try.underlying23 hi0 hz0 hz1 hz2 rfl (by omega) ov R.length _ hs h ⟨H, 0, none⟩ 1 1 [.int .i64 X] hx (by rfl)
    (World.news_of_block hnew) (by simp [Value.oneCell']) (by omega) (by unfold maxLen; omega) (by omega) hB W.heap.size rfl ?_
  intro g cap' w' hown hg _ _
  refine hK g cap' w' ?_ hg
  rw [List.length_append]
  simpa [pkV] using hown

set_option linter.unusedVariables false in
set_option maxRecDepth 100000 in
set_option maxHeartbeats 3200000 in
theorem l13Max_any (A : Option Addr) (n cap : Nat) (bd : Int) (c l : Nat → Int) (w : World) (hn : n ≤ 1048576) (hr : Rd w w.heap.size A n c l) (hval : validB n c l bd = true) :
    Calls Try.prog 70 #[.agg #[.slice A n cap, .int .i64 bd]] w fun e w' => ∃ A' cap', e = .returned (.slice A' (cfM n c l bd) cap') ∧ FrC w' w.heap.size A' (cfM n c l bd) (cfK n c l bd) ∧ Below w.heap.size w w' := by
  have hbd := vb_bd hval
  have h12 := valid_le12 hval
  have Hval := Lib.hid hval
  clear hval
  have hM : wrap64 ((2 : Int) ^ n) = ((2 ^ n : Nat) : Int) := by
    have : n = 0 ∨ n = 1 ∨ n = 2 ∨ n = 3 ∨ n = 4 ∨ n = 5 ∨ n = 6 ∨ n = 7 ∨ n = 8 ∨ n = 9 ∨ n = 10 ∨ n = 11 ∨ n = 12 := by omega
    rcases this with rfl | rfl | rfl | rfl | rfl | rfl | rfl | rfl | rfl | rfl | rfl | rfl | rfl <;> decide +kernel
  have HM := Lib.hid hM
  clear hM
  have htot : totW c l n = cfT n c l := sumW_sB hn (coef_of Hval.out)
  have Htot := Lib.hid htot
  have hTb := sB_le (c := c) (l := l) (P := fun _ => true) (k := n) (coef_of Hval.out)
  have HW1 := Lib.hid (bl_alloc (Below.refl w.heap.size w) (.cells #[.slice A n cap, .int .i64 bd] 55))
  have x0 : (w.alloc (.cells #[.slice A n cap, .int .i64 bd] 55)).cell? ⟨w.heap.size, 0, none⟩ = some (.slice A n cap) := by go_simp
  have x1 : (w.alloc (.cells #[.slice A n cap, .int .i64 bd] 55)).cell? ⟨w.heap.size, 1, none⟩ = some (.int .i64 bd) := by go_simp
  have hrW := hr.later HW1.out
  have hgW := grw_lit (w.alloc (.cells #[.slice A n cap, .int .i64 bd] 55)) (w.alloc (.cells #[.slice A n cap, .int .i64 bd] 55)).heap.size (cfK n c l bd) (fun _ => 0)
  clear htot hr
  go_enter Try.func70, Try.ntmps70
  go_wp2_with fail
  generalize hW : w.alloc (.cells #[.slice A n cap, .int .i64 bd] 55) = W at *
  have hsz : W.heap.size = w.heap.size + 1 := by rw [← hW]; simp
  clear hW
  refine (l1Total_any A n cap bd c l _ hn (hrW.later (bl_alloc (Below.refl _ _) _))).mono ?_
  rintro e w1 ⟨rfl, hb⟩
  rw [Htot.out]
  have HB1 := Lib.hid (bl_trans (bl_alloc (Below.refl W.heap.size W) _) hb)
  have HG1 := Lib.hid (hgW.below hb)
  have HRW := Lib.hid hrW
  have X0 := Lib.hid x0
  have X1 := Lib.hid x1
  clear hb hgW hrW x0 x1 Htot
  go_wp2
  go_loopw [3, 5] (fun ov i wr => ∃ (j hi : Nat) (xs : List Value) (f : Nat → Nat), j ≤ 2 ^ n ∧ i = .int .i64 j ∧ GrwC wr W.heap.size hi ov (cfI n c l bd j).length xs (cfK n c l bd) f ∧ W.heap.size ≤ hi ∧ hi ≤ wr.heap.size ∧ Below W.heap.size W wr) (fun _ i _ => 2 ^ n - (intOf i).toNat)
  case atStart => exact ⟨0, W.heap.size, [], fun _ => 0, Nat.zero_le _, rfl, by rw [← hsz]; exact HG1.out, Nat.le_refl _, HB1.out.size, HB1.out⟩
  case round =>
    obtain ⟨j, hi, xs, f, hj, rfl, hg, h1, h2, hb⟩ := hrel
    obtain ⟨wo, hwo⟩ : ∃ wo : World, wo = wr := ⟨wr, rfl⟩
    subst hwo
    have HG := Lib.hid hg
    have HB := Lib.hid hb
    have a0 := kc hb X0.out
    have a1 := kc hb X1.out
    clear hg hb HG1 HB1
    by_cases hlt : j < 2 ^ n
    · have hjm : (j : Int) < wrap64 ((2 : Int) ^ n) := by rw [HM.out]; omega
      have hj4 : (j : Int) < 4096 := by have := pow_12 h12; omega
      have hj0 : (0 : Int) ≤ (j : Int) := by omega
      have A0 := Lib.hid a0
      have A1 := Lib.hid a1
      have HRo := Lib.hid (HRW.out.later HB.out)
      go_wp2_with fail
      go_loopw [6, 7, 8, 9] (fun lv sv mv i wq => ∃ k : Nat, k ≤ n ∧ i = .int .i64 k ∧ wq.ownsRow wo.heap.size 3 1 lv (pkR c l (bitJ j) k).length (pkV (pkR c l (bitJ j) k)) ∧ sv = .int .i64 (cfS c (bitJ j) k) ∧ mv = .int .i64 (cfL c (bitJ j) k) ∧ Below wo.heap.size wo wq) (fun _ _ _ i _ => n - (intOf i).toNat)
      case atStart => exact ⟨0, Nat.zero_le _, rfl, pkV_new wo, rfl, rfl, bl_alloc (Below.refl _ _) _⟩
      case round =>
        obtain ⟨k, hk, rfl, hown, rfl, rfl, hq⟩ := hrel
        have HQ := Lib.hid hq
        have Hown := Lib.hid hown
        replace a0 := kc hq a0
        replace a1 := kc hq a1
        by_cases hkn : k < n
        · obtain ⟨b, off, rfl, hbl, hc⟩ := HRo.out (by omega)
          obtain ⟨hc3, hc4⟩ := hc k hkn
          have hc1 := kc hq hc3
          have hc2 := kc hq hc4
          have HC3 := Lib.hid hc3
          clear hc3 hc4
          have hkI : (k : Int) < (n : Int) := by omega
          have hk0 : (0 : Int) ≤ (k : Int) := by omega
          have hco := vb_coef Hval.out k hkn
          have hsb := cfS_le (c := c) (q := bitJ j) (k := k) (fun i hi => vb_coef Hval.out i (by omega))
          have hlb := cfL_le (c := c) (q := bitJ j) (k := k) (fun i hi => vb_coef Hval.out i (by omega))
          have hpl := pk_le (c := c) (l := l) (q := bitJ j) k
          have hb0 := bits_J (j := j) (k := k) (by have := pow_12 h12; omega)
          clear hc hq hown
          cases hbit : bitJ j k with
          | false =>
            rw [hbit] at hb0
            have e1 := Lib.hid (pk_no (c := c) (l := l) (q := bitJ j) hbit)
            have e2 := Lib.hid (cfS_no (c := c) (q := bitJ j) hbit)
            have e3 := Lib.hid (cfL_no (c := c) (q := bitJ j) hbit)
            clear hbit
            go_wp2
            go_roundw
            case rel => exact ⟨k + 1, by omega, by go_num, by rw [e1.out]; exact Hown.out, by rw [e2.out], by rw [e3.out], HQ.out⟩
            case measure => simp [intOf]; omega
          | true =>
            rw [hbit] at hb0
            have e1 := Lib.hid (pk_yes (c := c) (l := l) (q := bitJ j) hbit)
            have e2 := Lib.hid (cfS_yes (c := c) (q := bitJ j) hbit)
            have HAl := Lib.hid (bl_alloc (Below.refl wr.heap.size wr) (.cells #[.int .i64 (l k)] 3))
            have hw1 : wrap64 (cfS c (bitJ j) k + c k) = cfS c (bitJ j) k + c k := by rw [← IntWalk.i64_left]; exact IntWalk.i64_in _ (by omega)
            have hqz := HQ.out.size
            by_cases hless : c k < cfL c (bitJ j) k
            · have e3 := Lib.hid (cfL_less (c := c) (q := bitJ j) hbit hless)
              clear hbit
              go_wp2_with (at_builtin; refine wpList_plain (by rfl) fun K' hK' => ?_; refine wp_lit1 _ _ (by rfl) (row_below Hown.out HAl.out) (by simp; omega) (by rfl) (by rfl) (heap_alloc_new _ _) (by omega) (c k) ?_; intro gg cap4 w4 hown4 hgr4; have Hown4 := Lib.hid hown4; have HQ4 := Lib.hid ((bl_trans HQ.out HAl.out).grown hgr4 (by simp; omega) (fun j e => (row_below Hown.out HAl.out).lt j e |>.1)); replace a0 := kc HQ4.out A0.out; have hc1 := kc HQ4.out HC3.out; clear hown4 hgr4; refine hK' _ _ ?_; clear hK' K')
              go_roundw
              case rel => exact ⟨k + 1, by omega, by go_num, by rw [e1.out]; exact Hown4.out, by rw [e2.out], by rw [e3.out], HQ4.out⟩
              case measure => simp [intOf]; omega
            · have e3 := Lib.hid (cfL_more (c := c) (q := bitJ j) hbit hless)
              clear hbit
              go_wp2_with (at_builtin; refine wpList_plain (by rfl) fun K' hK' => ?_; refine wp_lit1 _ _ (by rfl) (row_below Hown.out HAl.out) (by simp; omega) (by rfl) (by rfl) (heap_alloc_new _ _) (by omega) (c k) ?_; intro gg cap4 w4 hown4 hgr4; have Hown4 := Lib.hid hown4; have HQ4 := Lib.hid ((bl_trans HQ.out HAl.out).grown hgr4 (by simp; omega) (fun j e => (row_below Hown.out HAl.out).lt j e |>.1)); replace a0 := kc HQ4.out A0.out; have hc1 := kc HQ4.out HC3.out; clear hown4 hgr4; refine hK' _ _ ?_; clear hK' K')
              go_roundw
              case rel => exact ⟨k + 1, by omega, by go_num, by rw [e1.out]; exact Hown4.out, by rw [e2.out], by rw [e3.out], HQ4.out⟩
              case measure => simp [intOf]; omega
        · have e : k = n := by omega
          subst e
          have hsb := cfS_le (c := c) (q := bitJ j) (k := k) (fun i hi => vb_coef Hval.out i hi)
          have hlb := cfL_le (c := c) (q := bitJ j) (k := k) (fun i hi => vb_coef Hval.out i hi)
          have hpl := pk_le (c := c) (l := l) (q := bitJ j) k
          have hct : 0 ≤ cfT k c l ∧ cfT k c l ≤ 1000 * (k : Int) := hTb
          have hw1 : wrap64 (cfT k c l - cfS c (bitJ j) k) = cfT k c l - cfS c (bitJ j) k := by rw [← IntWalk.i64_left]; exact IntWalk.i64_in _ (by omega)
          have hw2 : wrap64 (cfT k c l - cfS c (bitJ j) k + cfL c (bitJ j) k) = cfT k c l - cfS c (bitJ j) k + cfL c (bitJ j) k := by rw [← IntWalk.i64_left]; exact IntWalk.i64_in _ (by omega)
          obtain ⟨Al, capl, rfl, hrl⟩ := pkV_rdi Hown.out
          have hm6 : (pkR c l (bitJ j) k).length ≤ 1048576 := Nat.le_trans hpl hn
          have hq6 : (cfI k c l bd j).length ≤ 10000 := Nat.le_trans (cfI_le j) (by have := pow_12 h12; omega)
          have HEK := Lib.hid (fun (h : cfB k c l bd (bitJ j) = true) => show cfK k c l bd (cfI k c l bd j).length = ⟨clN (pkR c l (bitJ j) k).length (pkL (pkR c l (bitJ j) k)), clD (pkR c l (bitJ j) k).length (pkL (pkR c l (bitJ j) k)), one1, rL (clF (pkR c l (bitJ j) k).length (pkL (pkR c l (bitJ j) k)))⟩ from cfK_at hlt h)
          have HCf := Lib.hid (show cfB k c l bd (bitJ j) = (decide (cfT k c l - cfS c (bitJ j) k < bd) && (decide ((pkR c l (bitJ j) k).length = 0) || decide (bd ≤ cfT k c l - cfS c (bitJ j) k + cfL c (bitJ j) k))) from rfl)
          clear Hown hq hown hsb hlb hct hTb
          obtain ⟨fl, hfl⟩ : ∃ fl, pkL (pkR c l (bitJ j) k) = fl := ⟨_, rfl⟩
          obtain ⟨m, hm⟩ : ∃ m, (pkR c l (bitJ j) k).length = m := ⟨_, rfl⟩
          obtain ⟨S, hS⟩ : ∃ S, cfS c (bitJ j) k = S := ⟨_, rfl⟩
          obtain ⟨Lm, hL⟩ : ∃ Lm, cfL c (bitJ j) k = Lm := ⟨_, rfl⟩
          rw [hm, hfl] at hrl HEK
          rw [hm] at hm6 hpl
          rw [hm, hS, hL] at HCf
          rw [hS] at hw1
          rw [hS, hL] at hw2
          rw [hm, hS, hL]
          have HRL := Lib.hid hrl
          clear hrl hfl hm hS hL hpl
          by_cases ht : cfT k c l - S < bd
          · by_cases hl : m = 0
            · have hlb0 : ((m : Int) == 0) = true := by rw [beq_iff_eq]; omega
              have hyes : cfB k c l bd (bitJ j) = true := by rw [HCf.out, decide_eq_true ht, decide_eq_true hl]; rfl
              clear hl
              have HYes := Lib.hid (cfI_yes hyes)
              have EK := Lib.hid (HEK.out hyes)
              clear hyes
              go_wp2_with fail
              refine (specClause_any Al m capl fl _ hm6 HRL.out).mono ?_
              rintro e w5 ⟨A5, cap5, rfl, hF, hb5⟩
              have HB5 := Lib.hid (bl_trans HQ.out hb5)
              have HF := Lib.hid (hF.more HQ.out.size)
              have e5 := EK.out
              obtain ⟨N, hN⟩ : ∃ N, clN m fl = N := ⟨_, rfl⟩
              obtain ⟨D, hD⟩ : ∃ D, clD m fl = D := ⟨_, rfl⟩
              rw [hN, hD] at e5
              rw [hN, hD]
              rw [hN] at HF
              have E5 := Lib.hid e5
              have HA5 := Lib.hid (bl_trans (bl_alloc (Below.refl w5.heap.size w5) (.cells #[.slice A5 N cap5, .int .i64 D] 55)) (bl_alloc (Below.refl _ _) (.cells #[.slice A5 N cap5, .int .i64 D] 55)))
              have HG5 := Lib.hid ((HG.out.below HB5.out).below HA5.out)
              have HF5 := Lib.hid ((HF.out.below HA5.out).more h2)
              have HB6 := Lib.hid (bl_trans (bl_trans HB.out HB5.out) HA5.out)
              have hs5 : hi ≤ ((w5.alloc (.cells #[.slice A5 N cap5, .int .i64 D] 55)).alloc (.cells #[.slice A5 N cap5, .int .i64 D] 55)).heap.size := Nat.le_trans (Nat.le_trans h2 HB5.out.size) HA5.out.size
              have HS5 := Lib.hid hs5
              clear hF hb5 e5 hN hD hs5 HF HG HQ EK HEK
              go_wp2_with (at_builtin; refine wpList_plain (by rfl) fun K' hK' => ?_; refine wp_grw1 _ _ (by rfl) HG5.out h1 HS5.out (by rfl) (by rfl) (A := A5) (cap := cap5) (T' := 55) (by rw [E5.out]; exact alloc_two _ _ _) (by rw [E5.out]; exact HF5.out) hq6 ?_; intro gg cap7 w7 zs f7 hg7 hgr7; have HG7 := Lib.hid hg7; have HB7 := Lib.hid (HB6.out.grown hgr7 HB6.out.size (fun j e => (HG5.out.lt j e).1)); have HS7 := Lib.hid hgr7.size; clear hg7 hgr7; refine hK' _ _ ?_; clear hK' K')
              go_roundw
              case rel => exact ⟨j + 1, _, zs, f7, by omega, by go_num, by rw [HYes.out, List.length_append]; exact HG7.out, Nat.le_trans h1 (Nat.le_trans HS5.out HS7.out), Nat.le_refl _, HB7.out⟩
              case measure => simp [intOf]; omega
            · have hlb0 : ((m : Int) == 0) = false := by rw [beq_eq_false_iff_ne]; omega
              by_cases hle : bd ≤ cfT k c l - S + Lm
              · have hyes : cfB k c l bd (bitJ j) = true := by rw [HCf.out, decide_eq_true ht, decide_eq_true hle, Bool.or_true]; rfl
                have HYes := Lib.hid (cfI_yes hyes)
                have EK := Lib.hid (HEK.out hyes)
                clear hyes
                go_wp2_with fail
                refine (specClause_any Al m capl fl _ hm6 HRL.out).mono ?_
                rintro e w5 ⟨A5, cap5, rfl, hF, hb5⟩
                have HB5 := Lib.hid (bl_trans HQ.out hb5)
                have HF := Lib.hid (hF.more HQ.out.size)
                have e5 := EK.out
                obtain ⟨N, hN⟩ : ∃ N, clN m fl = N := ⟨_, rfl⟩
                obtain ⟨D, hD⟩ : ∃ D, clD m fl = D := ⟨_, rfl⟩
                rw [hN, hD] at e5
                rw [hN, hD]
                rw [hN] at HF
                have E5 := Lib.hid e5
                have HA5 := Lib.hid (bl_trans (bl_alloc (Below.refl w5.heap.size w5) (.cells #[.slice A5 N cap5, .int .i64 D] 55)) (bl_alloc (Below.refl _ _) (.cells #[.slice A5 N cap5, .int .i64 D] 55)))
                have HG5 := Lib.hid ((HG.out.below HB5.out).below HA5.out)
                have HF5 := Lib.hid ((HF.out.below HA5.out).more h2)
                have HB6 := Lib.hid (bl_trans (bl_trans HB.out HB5.out) HA5.out)
                have hs5 : hi ≤ ((w5.alloc (.cells #[.slice A5 N cap5, .int .i64 D] 55)).alloc (.cells #[.slice A5 N cap5, .int .i64 D] 55)).heap.size := Nat.le_trans (Nat.le_trans h2 HB5.out.size) HA5.out.size
                have HS5 := Lib.hid hs5
                clear hF hb5 e5 hN hD hs5 HF HG HQ EK HEK
                go_wp2_with (at_builtin; refine wpList_plain (by rfl) fun K' hK' => ?_; refine wp_grw1 _ _ (by rfl) HG5.out h1 HS5.out (by rfl) (by rfl) (A := A5) (cap := cap5) (T' := 55) (by rw [E5.out]; exact alloc_two _ _ _) (by rw [E5.out]; exact HF5.out) hq6 ?_; intro gg cap7 w7 zs f7 hg7 hgr7; have HG7 := Lib.hid hg7; have HB7 := Lib.hid (HB6.out.grown hgr7 HB6.out.size (fun j e => (HG5.out.lt j e).1)); have HS7 := Lib.hid hgr7.size; clear hg7 hgr7; refine hK' _ _ ?_; clear hK' K')
                go_roundw
                case rel => exact ⟨j + 1, _, zs, f7, by omega, by go_num, by rw [HYes.out, List.length_append]; exact HG7.out, Nat.le_trans h1 (Nat.le_trans HS5.out HS7.out), Nat.le_refl _, HB7.out⟩
                case measure => simp [intOf]; omega
              · have HNo := Lib.hid (cfI_no (by rw [HCf.out, decide_eq_false hl, decide_eq_false hle]; simp))
                go_wp2
                go_roundw
                case rel => exact ⟨j + 1, hi, xs, f, by omega, by go_num, by rw [HNo.out]; exact HG.out.below HQ.out, h1, Nat.le_trans h2 HQ.out.size, bl_trans HB.out HQ.out⟩
                case measure => simp [intOf]; omega
          · have HNo := Lib.hid (cfI_no (by rw [HCf.out, decide_eq_false ht]; rfl))
            go_wp2
            go_roundw
            case rel => exact ⟨j + 1, hi, xs, f, by omega, by go_num, by rw [HNo.out]; exact HG.out.below HQ.out, h1, Nat.le_trans h2 HQ.out.size, bl_trans HB.out HQ.out⟩
            case measure => simp [intOf]; omega
    · have hjm : wrap64 ((2 : Int) ^ n) ≤ (j : Int) := by rw [HM.out]; omega
      have He := Lib.hid (show j = 2 ^ n by omega)
      obtain ⟨A1, cap1, rfl, hF⟩ := HG.out.fin
      have HF := Lib.hid (hF.more (lo' := w.heap.size) (by omega))
      clear hF HG
      go_wp2
      go_ret
      have e := He.out
      subst e
      exact ⟨A1, cap1, rfl, HF.out, bl_trans HW1.out HB.out⟩
end Go.Proofs.Ytbebdhjhlheboaa
