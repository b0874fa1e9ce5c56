/- Contracts of the reference's and the program's ClausesOf (no claim of its own). Conditions: as each theorem states. -/
import Derived.Test.YtbebdhjhlheboaaCofB
namespace Go.Proofs.Ytbebdhjhlheboaa
open Go.ChangeShapes Go.WideShapes Go.ChangeAt Go.RowKit Go.Shelf

/-- What ClausesOf leaves. -/
def CoRes (w : World) (N : Nat) (ok : Bool) (q : Nat → Con) (e : Ending) (w' : World) : Prop :=
  ∃ A cap, e = .returned (.tuple #[.slice A N cap, .bool ok]) ∧ FrC w' w.heap.size A N q ∧ Below w.heap.size w w'
theorem coRes_no {w w' : World} {N : Nat} {ok : Bool} {q : Nat → Con} {A : Option Addr} {cap : Nat} (h : ok = false ∧ N = 0) (hb : Below w.heap.size w w') : CoRes w N ok q (.returned (.tuple #[.slice A 0 cap, .bool false])) w' :=
  ⟨A, cap, by rw [h.1, h.2], by rw [h.2]; exact frc_nil _ _ _ _, hb⟩
theorem coRes_yes {w w' : World} {N n : Nat} {ok : Bool} {q : Nat → Con} {A : Option Addr} {cap : Nat} (h : ok = true ∧ N = n) (hF : FrC w' w.heap.size A n q) (hb : Below w.heap.size w w') : CoRes w N ok q (.returned (.tuple #[.slice A n cap, .bool true])) w' :=
  ⟨A, cap, by rw [h.1, h.2], by rw [h.2]; exact hF, hb⟩

set_option linter.unusedVariables false in
set_option maxRecDepth 100000 in
set_option maxHeartbeats 1600000 in
theorem specCof_any (A : Option Addr) (n cap : Nat) (bd : Int) (c l : Nat → Int) (w : World) (hn : n ≤ 1048576) (hr : Rd w w.heap.size A n c l) :
    Calls Try.prog 30 #[.agg #[.slice A n cap, .int .i64 bd]] w (CoRes w (cfCnt n c l bd) (cfOk n c l bd) (cfK n c l bd)) := by
  have HV := Lib.hid (fun W (hb : Below w.heap.size w W) => specValid_any A n cap bd c l W hn (hr.later hb))
  cases hv : validB n c l bd with
  | false =>
    have Hfin := Lib.hid (cf_no (.inl hv))
    rw [hv] at HV
    clear hv hr
    go_enter Try.func30, Try.ntmps30
    go_wp2_with fail
    refine (HV.out _ (by repeat (first | exact Below.refl _ _ | refine bl_alloc ?_ _))).mono ?_
    rintro e w1 ⟨rfl, hb⟩
    have HB1 := Lib.hid (bl_trans (a := w) (by repeat (first | exact Below.refl _ _ | refine bl_alloc ?_ _)) hb)
    clear hb
    go_wp2
    go_ret2
    exact coRes_no Hfin.out (bl_alloc HB1.out _)
  | true =>
    have h12 := valid_le12 hv
    have HM := Lib.hid (fun W (hb : Below w.heap.size w W) => l13Max_any A n cap bd c l W hn (hr.later hb) hv)
    rw [hv] at HV
    have hmle : cfM n c l bd ≤ 4096 := Nat.le_trans (cfI_le _) (pow_12 h12)
    by_cases h4 : cfM n c l bd ≤ 400
    · have Hfin := Lib.hid (cf_yes hv h4)
      clear hv hr
      go_enter Try.func30, Try.ntmps30
      go_wp2_with fail
      refine (HV.out _ (by repeat (first | exact Below.refl _ _ | refine bl_alloc ?_ _))).mono ?_
      rintro e w1 ⟨rfl, hb⟩
      have HB1 := Lib.hid (bl_trans (a := w) (by repeat (first | exact Below.refl _ _ | refine bl_alloc ?_ _)) hb)
      have a0 : w1.cell? ⟨w.heap.size, 0, none⟩ = some (.slice A n cap) := kc hb (by go_simp)
      have a1 : w1.cell? ⟨w.heap.size, 1, none⟩ = some (.int .i64 bd) := kc hb (by go_simp)
      clear hb
      go_wp2_with fail
      refine (HM.out _ HB1.out).mono ?_
      rintro e w2 ⟨A2, cap2, rfl, hF, hb⟩
      have HF := Lib.hid (hF.more HB1.out.size)
      have HB2 := Lib.hid (bl_trans HB1.out hb)
      have h4I : (cfM n c l bd : Int) ≤ 400 := by omega
      obtain ⟨N, hN⟩ : ∃ N, cfM n c l bd = N := ⟨_, rfl⟩
      rw [hN] at h4I HF Hfin ⊢
      clear hb hF hN hmle h4
      go_wp2
      go_ret2
      exact coRes_yes Hfin.out HF.out HB2.out
    · have Hfin := Lib.hid (cf_no (n := n) (c := c) (l := l) (bd := bd) (.inr (by omega)))
      clear hv hr
      go_enter Try.func30, Try.ntmps30
      go_wp2_with fail
      refine (HV.out _ (by repeat (first | exact Below.refl _ _ | refine bl_alloc ?_ _))).mono ?_
      rintro e w1 ⟨rfl, hb⟩
      have HB1 := Lib.hid (bl_trans (a := w) (by repeat (first | exact Below.refl _ _ | refine bl_alloc ?_ _)) hb)
      have a0 : w1.cell? ⟨w.heap.size, 0, none⟩ = some (.slice A n cap) := kc hb (by go_simp)
      have a1 : w1.cell? ⟨w.heap.size, 1, none⟩ = some (.int .i64 bd) := kc hb (by go_simp)
      clear hb
      go_wp2_with fail
      refine (HM.out _ HB1.out).mono ?_
      rintro e w2 ⟨A2, cap2, rfl, hF, hb⟩
      have HB2 := Lib.hid (bl_trans HB1.out hb)
      have h4I : ¬ (cfM n c l bd : Int) ≤ 400 := by omega
      have h4J : (400 : Int) < (cfM n c l bd : Int) := by omega
      obtain ⟨N, hN⟩ : ∃ N, cfM n c l bd = N := ⟨_, rfl⟩
      rw [hN] at h4I h4J hmle ⊢
      clear hb hF hN h4
      go_wp2
      go_ret2
      exact coRes_no Hfin.out (bl_alloc HB2.out _)

set_option linter.unusedVariables false in
set_option maxRecDepth 100000 in
set_option maxHeartbeats 3200000 in
theorem implCof_any (A : Option Addr) (n cap : Nat) (bd : Int) (c l : Nat → Int) (w : World) (hn : n ≤ 1048576) (hr : Rd w w.heap.size A n c l) :
    Calls Try.prog 32 #[.agg #[.slice A n cap, .int .i64 bd]] w (CoRes w (cfCnt n c l bd) (cfOk n c l bd) (cfK n c l bd)) := by
  have HV := Lib.hid (fun W (hb : Below w.heap.size w W) => implValid_any A n cap bd c l W hn (hr.later hb))
  cases hv : validB n c l bd with
  | false =>
    have Hfin := Lib.hid (cf_no (.inl hv))
    rw [hv] at HV
    clear hv hr
    go_enter Try.func32, Try.ntmps32
    go_wp2_with fail
    refine (HV.out _ (by repeat (first | exact Below.refl _ _ | refine bl_alloc ?_ _))).mono ?_
    rintro e w1 ⟨rfl, hb⟩
    have HB1 := Lib.hid (bl_trans (a := w) (by repeat (first | exact Below.refl _ _ | refine bl_alloc ?_ _)) hb)
    clear hb
    go_wp2
    go_ret2
    exact coRes_no Hfin.out HB1.out
  | true =>
    have h12 := valid_le12 hv
    have Hval := Lib.hid hv
    have hM8 : IntKind.u64.wrap ((2 : Int) ^ n) = ((2 ^ n : Nat) : Int) := by
      have : n = 0 ∨ n = 1 ∨ n = 2 ∨ n = 3 ∨ n = 4 ∨ n = 5 ∨ n = 6 ∨ n = 7 ∨ n = 8 ∨ n = 9 ∨ n = 10 ∨ n = 11 ∨ n = 12 := by omega
      rcases this with rfl | rfl | rfl | rfl | rfl | rfl | rfl | rfl | rfl | rfl | rfl | rfl | rfl <;> decide +kernel
    have HM8 := Lib.hid hM8
    clear hM8
    rw [hv] at HV
    have HR := Lib.hid hr
    clear hv hr
    go_enter Try.func32, Try.ntmps32
    go_wp2_with fail
    refine (HV.out _ (by repeat (first | exact Below.refl _ _ | refine bl_alloc ?_ _))).mono ?_
    rintro e w1 ⟨rfl, hb⟩
    have HB1 := Lib.hid (bl_trans (a := w) (by repeat (first | exact Below.refl _ _ | refine bl_alloc ?_ _)) hb)
    have a0 : w1.cell? ⟨w.heap.size, 0, none⟩ = some (.slice A n cap) := kc hb (by go_simp)
    have a1 : w1.cell? ⟨w.heap.size, 1, none⟩ = some (.int .i64 bd) := kc hb (by go_simp)
    have hz : w.heap.size < w1.heap.size := World.block_lt_of_cell? w1 _ a0
    have X0 := Lib.hid a0
    have X1 := Lib.hid a1
    clear hb
    go_wp2
    go_loopw [4, 14] (fun ov i wr => ∃ (j hi : Nat) (xs : List Value) (f : Nat → Nat), j ≤ 2 ^ n ∧ i = .int .u64 j ∧ GrwC wr w1.heap.size hi ov (cfI n c l bd j).length xs (cfK n c l bd) f ∧ (cfI n c l bd j).length ≤ 400 ∧ w1.heap.size ≤ hi ∧ hi ≤ wr.heap.size ∧ Below w1.heap.size w1 wr) (fun _ i _ => 2 ^ n - (intOf i).toNat)
    case atStart => exact ⟨0, w1.heap.size, [], fun _ => 0, Nat.zero_le _, rfl, grw_none _ _ _ _ _, Nat.zero_le _, Nat.le_refl _, Nat.le_refl _, Below.refl _ _⟩
    case round =>
      obtain ⟨j, hi, xs, f, hj, rfl, hg, hq4, h1, h2, hb⟩ := hrel
      have HG := Lib.hid hg
      have HB := Lib.hid hb
      have a0 := kc hb X0.out
      have a1 := kc hb X1.out
      obtain ⟨Ao, capo, rfl, hFo⟩ := HG.out.fin
      have HFo := Lib.hid hFo
      clear hg hb hFo
      by_cases hlt : j < 2 ^ n
      · have hjm : (j : Int) < IntKind.u64.wrap ((2 : Int) ^ n) := by rw [HM8.out]; omega
        have hj9 : j < 4096 := by have := pow_12 h12; omega
        have hj4 : (j : Int) < 4096 := by omega
        have hj0 : (0 : Int) ≤ (j : Int) := by omega
        have hqj : (cfI n c l bd j).length ≤ 10000 := by omega
        have hm12 : (pkR c l (bitJ j) n).length ≤ 12 := Nat.le_trans (pk_le n) h12
        obtain ⟨k, hk⟩ : ∃ k, (cfI n c l bd j).length = k := ⟨_, rfl⟩
        have HEK := Lib.hid (fun (h : cfB n c l bd (bitJ j) = true) => show cfK n c l bd k = ⟨clN (pkR c l (bitJ j) n).length (pkL (pkR c l (bitJ j) n)), clD (pkR c l (bitJ j) n).length (pkL (pkR c l (bitJ j) n)), one1, rL (clF (pkR c l (bitJ j) n).length (pkL (pkR c l (bitJ j) n)))⟩ from by rw [← hk]; exact cfK_at hlt h)
        have HYes := Lib.hid (fun (h : cfB n c l bd (bitJ j) = true) => show (cfI n c l bd (j + 1)).length = k + 1 from by rw [cfI_yes h, List.length_append, hk]; rfl)
        have HNo := Lib.hid (fun (h : cfB n c l bd (bitJ j) = false) => show (cfI n c l bd (j + 1)).length = k from by rw [cfI_no h, hk])
        have HMore := Lib.hid (fun (h : cfB n c l bd (bitJ j) = true) => show k + 1 ≤ cfM n c l bd from by rw [← hk]; exact cfI_more hlt h)
        rw [hk] at HG HFo hq4 hqj
        rw [hk]
        clear hk
        go_wp2_with fail
        refine (setOf_any A n cap c l j _ h12 hj9 (HR.out.later (bl_trans HB1.out HB.out))).mono ?_
        rintro e w2 ⟨Ac, capc, rfl, hF, hb2⟩
        have HB2 := Lib.hid (bl_trans HB.out hb2)
        have HF := Lib.hid hF
        replace a0 := kc hb2 a0
        replace a1 := kc hb2 a1
        have HQ2 := Lib.hid hb2
        clear hF hb2
        go_wp2_with fail
        refine (minimal_any A Ac n cap capc bd c l (bitJ j) _ hn (HR.out.later (bl_trans HB1.out HB2.out)) HF.out.rdAt Hval.out).mono ?_
        rintro e w3 ⟨rfl, hb3⟩
        have HB3 := Lib.hid (bl_trans HB2.out hb3)
        have HQ3 := Lib.hid (bl_trans HQ2.out hb3)
        have HF3 := Lib.hid (HF.out.below hb3)
        replace a0 := kc hb3 a0
        replace a1 := kc hb3 a1
        clear hb3 HQ2 HF HB2
        cases hB : cfB n c l bd (bitJ j) with
        | false =>
          have e1 := Lib.hid (HNo.out hB)
          clear hB
          go_wp2
          go_roundw
          case rel => exact ⟨j + 1, hi, xs, f, by omega, by go_num, by rw [e1.out]; exact HG.out.below HQ3.out, by rw [e1.out]; exact hq4, h1, Nat.le_trans h2 HQ3.out.size, HB3.out⟩
          case measure => simp [intOf]; omega
        | true =>
          by_cases h400 : k = 400
          · have Hfin := Lib.hid (cf_no (n := n) (c := c) (l := l) (bd := bd) (.inr (by have := HMore.out hB; omega)))
            have hkb : ((k : Int) == 400) = true := by rw [beq_iff_eq]; omega
            clear hB h400
            go_wp2
            go_ret2
            exact coRes_no Hfin.out (bl_trans HB1.out HB3.out)
          · have hkb : ((k : Int) == 400) = false := by rw [beq_eq_false_iff_ne]; omega
            have EK := Lib.hid (HEK.out hB)
            have e1 := Lib.hid (HYes.out hB)
            clear hB HEK HYes HNo HMore
            go_wp2_with fail
            refine (clauseOfTerms_any Ac (pkR c l (bitJ j) n).length capc (pkC (pkR c l (bitJ j) n)) (pkL (pkR c l (bitJ j) n)) _ hm12 HF3.out.rdAt).mono ?_
            rintro e w5 ⟨A5, cap5, rfl, hF5, hb5⟩
            have e5 := EK.out
            obtain ⟨N, hN⟩ : ∃ N, clN (pkR c l (bitJ j) n).length (pkL (pkR c l (bitJ j) n)) = N := ⟨_, rfl⟩
            obtain ⟨D, hD⟩ : ∃ D, clD (pkR c l (bitJ j) n).length (pkL (pkR c l (bitJ j) n)) = D := ⟨_, rfl⟩
            rw [hN, hD] at e5
            rw [hN, hD]
            rw [hN] at hF5
            have E5 := Lib.hid e5
            have HA5 := Lib.hid (bl_alloc (Below.refl w5.heap.size w5) (.cells #[.slice A5 N cap5, .int .i64 D] 55))
            have HG5 := Lib.hid (((HG.out.below HQ3.out).below hb5).below HA5.out)
            have HF5 := Lib.hid ((hF5.below HA5.out).more (Nat.le_trans h2 HQ3.out.size))
            have HB6 := Lib.hid (bl_trans (bl_trans HB3.out hb5) HA5.out)
            have hs5 : hi ≤ (w5.alloc (.cells #[.slice A5 N cap5, .int .i64 D] 55)).heap.size := Nat.le_trans (Nat.le_trans (Nat.le_trans h2 HQ3.out.size) hb5.size) HA5.out.size
            have HS5 := Lib.hid hs5
            clear hF5 hb5 e5 hN hD hs5 HG HQ3 EK HF3
            go_wp2_with (at_builtin; refine wpList_plain (by rfl) fun K' hK' => ?_; refine wp_grw1 _ _ (by rfl) HG5.out h1 HS5.out (by rfl) (by rfl) (A := A5) (cap := cap5) (T' := 55) (by rw [E5.out]; exact heap_alloc_new _ _) (by rw [E5.out]; exact HF5.out) hqj ?_; intro gg cap7 w7 zs f7 hg7 hgr7; have HG7 := Lib.hid hg7; have HB7 := Lib.hid (HB6.out.grown hgr7 HB6.out.size (fun j e => (HG5.out.lt j e).1)); have HS7 := Lib.hid hgr7.size; clear hg7 hgr7; refine hK' _ _ ?_; clear hK' K')
            go_roundw
            case rel => exact ⟨j + 1, _, zs, f7, by omega, by go_num, by rw [e1.out]; exact HG7.out, by rw [e1.out]; omega, Nat.le_trans h1 (Nat.le_trans HS5.out HS7.out), Nat.le_refl _, HB7.out⟩
            case measure => simp [intOf]; omega
      · have hjm : IntKind.u64.wrap ((2 : Int) ^ n) ≤ (j : Int) := by rw [HM8.out]; omega
        have He := Lib.hid (show j = 2 ^ n by omega)
        have Hq4 := Lib.hid hq4
        go_wp2
        go_ret2
        have e := He.out
        subst e
        exact coRes_yes (cf_yes Hval.out Hq4.out) (HFo.out.more HB1.out.size) (bl_trans HB1.out HB.out)
end Go.Proofs.Ytbebdhjhlheboaa
