/- Contracts of the program's fixing of a constraint (no claim of its own). Conditions: as each theorem states. -/
import Derived.Test.YtbebdhjhlheboaaFixA
import Derived.Test.YtbebdhjhlheboaaSlkB
import Derived.Test.YtbebdhjhlheboaaMadC
import Derived.Laws.Cover3
import Derived.Deep.MidRow
namespace Go.Proofs.Ytbebdhjhlheboaa
open Go.ChangeShapes Go.WideShapes Go.ChangeAt Go.RowKit Go.Shelf

/-- The cells of a partial assignment's box, and those of the call's result box, as they are kept. -/
def par12 (B : Nat) (v : Nat → Int) : List (Nat × Nat × Value) := (List.range 12).map fun i => (B, i, .int .i64 (v i))
theorem par12_mem {B : Nat} {v : Nat → Int} {i : Nat} (h : i < 12) : (B, i, Value.int .i64 (v i)) ∈ par12 B v := List.mem_map.2 ⟨i, List.mem_range.2 h, rfl⟩
def fxKs (B : Nat) (v : Nat → Int) : List (Nat × Nat × Value) := (B + 1 + 1, 0, .slice none 0 0) :: (B + 1 + 1, 1, .int .i64 0) :: par12 B v
theorem fxKs_low {B : Nat} {v : Nat → Int} : ∀ x ∈ fxKs B v, x.1 < B + 1 + 1 + 1 := fun x hx => by
  rcases List.mem_cons.1 hx with rfl | hx
  · show B + 1 + 1 < _; omega
  · rcases List.mem_cons.1 hx with rfl | hx
    · show B + 1 + 1 < _; omega
    · obtain ⟨i, _, rfl⟩ := List.mem_map.1 hx
      show B < _; omega

set_option maxRecDepth 100000 in
set_option maxHeartbeats 3200000 in
theorem fixed_any (A : Option Addr) (n cap : Nat) (bd : Int) (c l : Nat → Int) (v : Nat → Int) (w : World) (hn : n ≤ 1048576) (hr : Rd w w.heap.size A n c l) (hval : validB n c l bd = true) (hv : ∀ i, i < 12 → -1 ≤ v i ∧ v i ≤ 1) :
    Calls Try.prog 48 #[arrV v, .agg #[.slice A n cap, .int .i64 bd]] w (FxRes w v ⟨n, bd, c, l⟩) := by
  have hbd := vb_bd hval
  have Hval := Lib.hid hval
  have HV := Lib.hid hv
  clear hval hv
  have hfx0 : fxP (fxS c l bd v 0) = bd := if_neg (by show ¬ bd < 0; omega)
  have Hfx0 := Lib.hid hfx0
  clear hfx0
  unfold arrV
  go_enter Try.func48, Try.ntmps48
  go_wp2
  go_loopw [14] (fun i wr => ∃ k : Nat, k ≤ n ∧ i = .int .i64 k ∧ Out w (w.heap.size + 1 + 1 + 1) ((w.heap.size + 1 + 1 + 1, 1, .int .i64 (fxP (fxS c l bd v k))) :: fxKs w.heap.size v) (pkC (fxR c l v n)) (pkL (fxR c l v n)) (fxR c l v k).length wr) (fun i _ => n - (intOf i).toNat)
  case atStart =>
    refine ⟨0, Nat.zero_le _, rfl, .slice none 0 0, ⟨by go_simp, by go_simp⟩, World.ownsRow_nil _ _ _ _, fun x hx => ?_, by repeat (first | exact Below.refl _ _ | refine bl_alloc ?_ _ | refine Below.drew ?_), by omega⟩
    rw [Hfx0.out] at hx
    rcases List.mem_cons.1 hx with rfl | hx
    · exact ⟨by first | (simp; done) | (simp; omega), by go_simp, by go_simp⟩
    · rcases List.mem_cons.1 hx with rfl | hx
      · exact ⟨by first | (simp; done) | (simp; omega), by go_simp, by go_simp⟩
      · rcases List.mem_cons.1 hx with rfl | hx
        · exact ⟨by first | (simp; done) | (simp; omega), by go_simp, by go_simp⟩
        · obtain ⟨i, hi, rfl⟩ := List.mem_map.1 hx
          have h1 := heap_alloc_new w (.cells (cells12 v) 72)
          have h2 : Cel (w.alloc (.cells (cells12 v) 72)) w.heap.size i (.int .i64 (v i)) := ⟨(cell_of_row _ w.heap.size i _ _ _ h1).trans (cells12_at v (List.mem_range.1 hi)), frozen_row h1 i⟩
          exact ⟨.inl (by show w.heap.size < _; omega), ((h2.below (bl_alloc (Below.refl _ _) _)).below (bl_alloc (Below.refl _ _) _)).below (bl_alloc (Below.refl _ _) _)⟩
  case round =>
    obtain ⟨k, hk, rfl, ov, old⟩ := hrel
    obtain ⟨r0, f0⟩ := old.at_ (j := w.heap.size + 1 + 1) (o := 0) (v := .slice none 0 0) (List.mem_cons_of_mem _ (List.mem_cons_self ..))
    obtain ⟨r1, f1⟩ := old.at_ (j := w.heap.size + 1 + 1) (o := 1) (v := .int .i64 0) (List.mem_cons_of_mem _ (List.mem_cons_of_mem _ (List.mem_cons_self ..)))
    obtain ⟨o1, g1⟩ := old.at_ (j := w.heap.size + 1 + 1 + 1) (o := 1) (v := .int .i64 (fxP (fxS c l bd v k))) (List.mem_cons_self ..)
    obtain ⟨o0, g0⟩ := old.o0
    have hz3 : w.heap.size + 1 + 1 + 1 < wr.heap.size := World.block_lt_of_cell? wr _ o0
    have Old := Lib.hid old
    have hbw := old.bel
    by_cases hlt : k < n
    · have hco := vb_coef Hval.out k hlt
      have hL := Lib.hid (litAt Hval.out hlt)
      have hst := stV_bd hL.out HV.out
      obtain ⟨b, off, rfl, hbl, hc⟩ := (hr.below hbw) (by omega)
      obtain ⟨hc1, hc2⟩ := hc k hlt
      have hkI : (k : Int) < (n : Int) := by omega
      have hkJ : (0 : Int) ≤ (k : Int) := by omega
      have hq2 : w.heap.size + 1 + 1 < wr.heap.size := by omega
      have hq1 : w.heap.size + 1 < wr.heap.size := by omega
      have hq0 : w.heap.size < wr.heap.size := by omega
      have hal : Below wr.heap.size wr (wr.alloc (.cells #[.int .i64 (c k), .int .i64 (l k)] 114)) := bl_alloc (Below.refl _ _) _
      have s0 : (wr.alloc (.cells #[.int .i64 (c k), .int .i64 (l k)] 114)).rangeAt w.heap.size 0 (cl12 v) := range_kc hal (range12 fun i hi => by rw [Nat.zero_add]; exact (old.at_ (List.mem_cons_of_mem _ (List.mem_cons_of_mem _ (List.mem_cons_of_mem _ (par12_mem hi))))).1)
      have S0 := Lib.hid s0
      have OldX := Lib.hid (old.below hal)
      have t0 : (wr.alloc (.cells #[.int .i64 (c k), .int .i64 (l k)] 114)).cell? ⟨wr.heap.size, 0, none⟩ = some (.int .i64 (c k)) := by go_simp
      have t1 : (wr.alloc (.cells #[.int .i64 (c k), .int .i64 (l k)] 114)).cell? ⟨wr.heap.size, 1, none⟩ = some (.int .i64 (l k)) := by go_simp
      have hu := Try.underlying72
      have hsz12 : (Try.prog.info? 72).map (·.size) = some (cl12 v).length := by kernel_rfl
      have HU := Lib.hid hu
      have HSZ := Lib.hid hsz12
      have T0 := Lib.hid t0
      have T1 := Lib.hid t1
      clear hc hr hbw s0 hu hsz12 old Old o0 o1 g0 g1 r0 r1 f0 f1 t0 t1 hal
      have hcall := fun W => valueOf_any v (l k) W hL.out HV.out
      by_cases he : stV v (l k) = 0
      · have hkp := Lib.hid (fxR_yes (c := c) (l := l) (v := v) (k := k) he)
        have hwk := Lib.hid (fxS_no (c := c) (l := l) (v := v) (bd := bd) (k := k) (by omega))
        obtain ⟨hX, hY⟩ := pk_at (c := c) (l := l) (q := fxQ l v) hlt (decide_eq_true he)
        have HX := Lib.hid (show pkC (fxR c l v n) (fxR c l v k).length = c k from hX)
        have HY := Lib.hid (show pkL (fxR c l v n) (fxR c l v k).length = l k from hY)
        have hkl : (fxR c l v k).length ≤ 1048576 := by have := fxR_le (c := c) (l := l) (v := v) k; omega
        rw [he] at hcall
        have Hcall := Lib.hid hcall
        clear hX hY hst he hcall
        go_upto_region 5 with fail
        refine wp_region_list ?_
        refine wpList_load_mid (by rfl) 72 _ (by rfl) w.heap.size 0 (by rfl) (cl12 v) _ S0.out HU.out (by rfl) HSZ.out ?_
        go_wp2_with fail
        refine (Hcall.out _).mono ?_
        rintro e w2 ⟨rfl, hb⟩
        have OldY := Lib.hid (OldX.out.below hb)
        have t0 := kc hb T0.out
        have t1 := kc hb T1.out
        obtain ⟨o0, g0⟩ := OldY.out.o0
        have hzz : wr.heap.size < w2.heap.size := World.block_lt_of_cell? w2 ⟨wr.heap.size, 0, none⟩ t0
        clear hb T0 T1 OldX S0 Hcall
        go_wp2_with (at_builtin; refine wpList_plain (by rfl) fun K' hK' => ?_; refine wp_appG _ _ (by rfl) OldY.out (by repeat (first | exact Below.refl _ _ | refine bl_alloc ?_ _)) (by rfl) (by rfl) (alloc_eq (by first | assumption | rfl | simp)) HX.out HY.out hkl ?_; intro gg cap1 w3 t0 u0 hout; refine hK' _ _ ?_; clear hK' K')
        go_roundw
        case rel => exact ⟨k + 1, by omega, by go_num, by rw [hkp.out, hwk.out, List.length_append]; exact hout⟩
        case measure => simp [intOf]; omega
      · have hkp := Lib.hid (fxR_no (c := c) (l := l) (v := v) (k := k) he)
        by_cases he1 : stV v (l k) = 1
        · have hrg := fxS_le (c := c) (l := l) (v := v) (bd := bd) (n := k) (fun i hi => vb_coef Hval.out i (by omega))
          have hcp : 0 ≤ fxP (fxS c l bd v k) ∧ fxP (fxS c l bd v k) ≤ 20000 := by unfold fxP; split <;> omega
          have hw64 : wrap64 (fxP (fxS c l bd v k) - c k) = fxP (fxS c l bd v k) - c k := by rw [← IntWalk.i64_left]; exact IntWalk.i64_in _ (by omega)
          have hmx : (if fxP (fxS c l bd v k) - c k < 0 then 0 else fxP (fxS c l bd v k) - c k) = fxP (fxS c l bd v (k + 1)) := by
            rw [fxS_yes he1, ← fxP_step (b := fxS c l bd v k) (x := c k) (by omega)]
          have Hmx := Lib.hid hmx
          rw [he1] at hcall
          have Hcall := Lib.hid hcall
          clear hrg hst he he1 hcall hmx
          go_upto_region 5 with fail
          refine wp_region_list ?_
          refine wpList_load_mid (by rfl) 72 _ (by rfl) w.heap.size 0 (by rfl) (cl12 v) _ S0.out HU.out (by rfl) HSZ.out ?_
          go_wp2_with fail
          refine (Hcall.out _).mono ?_
          rintro e w2 ⟨rfl, hb⟩
          have OldY := Lib.hid (OldX.out.below hb)
          have t0 := kc hb T0.out
          have t1 := kc hb T1.out
          obtain ⟨o1, g1⟩ := OldY.out.at_ (j := w.heap.size + 1 + 1 + 1) (o := 1) (v := .int .i64 (fxP (fxS c l bd v k))) (List.mem_cons_self ..)
          clear hb T0 T1 OldX S0 Hcall
          go_wp2_with fail
          go_roundw
          case rel =>
            refine ⟨k + 1, by omega, by go_num, ?_⟩
            rw [Hmx.out, hkp.out]
            exact ⟨_, OldY.out.setB fxKs_low⟩
          case measure => simp [intOf]; omega
        · have hwk := Lib.hid (fxS_no (c := c) (l := l) (v := v) (bd := bd) (k := k) he1)
          have h2 : stV v (l k) = -1 := by omega
          rw [h2] at hcall
          have Hcall := Lib.hid hcall
          clear hst he he1 hcall h2
          go_upto_region 5 with fail
          refine wp_region_list ?_
          refine wpList_load_mid (by rfl) 72 _ (by rfl) w.heap.size 0 (by rfl) (cl12 v) _ S0.out HU.out (by rfl) HSZ.out ?_
          go_wp2_with fail
          refine (Hcall.out _).mono ?_
          rintro e w2 ⟨rfl, hb⟩
          have OldY := Lib.hid (OldX.out.below hb)
          clear hb T0 T1 OldX S0 Hcall
          go_wp2
          go_roundw
          case rel => exact ⟨k + 1, by omega, by go_num, by rw [hwk.out, hkp.out]; exact ⟨_, OldY.out⟩⟩
          case measure => simp [intOf]; omega
    · have e : k = n := by omega
      subst e
      obtain ⟨A', cap', rfl, hF⟩ := Old.out.frs
      have HF := Lib.hid hF
      have HB := Lib.hid hbw
      have hq1 : w.heap.size + 1 + 1 < wr.heap.size := by omega
      clear hF hbw hr old
      go_wp2
      refine bodyPost_ret (v := .agg #[.slice A' (fxR c l v k).length cap', .int .i64 (fxP (fxS c l bd v k))]) (by simp [results, Try.results48, go_sem, r0, r1]) rfl ?_
      refine ⟨A', cap', rfl, ?_, ?_⟩
      · exact ((HF.out.far (by simp) (by first | (simp; done) | (simp; omega)) _).far (by simp) (by first | (simp; done) | (simp; omega)) _).more (by omega)
      · exact (HB.out.setCell (by first | (simp; done) | (simp; omega)) _).setCell (by first | (simp; done) | (simp; omega)) _

set_option linter.unusedVariables false in
set_option maxRecDepth 100000 in
set_option maxHeartbeats 3200000 in
theorem eachChanged_any (f : Nat) (R : Value) (A : Option Addr) (n cap : Nat) (p q : Nat → Con) (w : World) (hn : n ≤ 400) (hr : RdP w w.heap.size A n p)
    (ef : ∀ args w, (callFunc f args).run Try.prog w = .ok (.enter f args) w)
    (hf : ∀ (k : Nat) (Ai : Option Addr) (ci : Nat) (X : World), k < n → Rd X X.heap.size Ai (p k).n (p k).c (p k).l → Calls Try.prog f #[R, .agg #[.slice Ai (p k).n ci, .int .i64 (p k).bd]] X fun e X' => ∃ A' c', e = .returned (.agg #[.slice A' (q k).n c', .int .i64 (q k).bd]) ∧ Frs X' X.heap.size A' (q k).n (q k).c (q k).l ∧ Below X.heap.size X X') :
    Calls Try.prog 47 #[.slice A n cap, .func (.func f) #[R] #[]] w fun e w' => ∃ G, e = .returned (.slice (some ⟨G, 0, none⟩) n n) ∧ w.heap.size ≤ G ∧ FrC w' w.heap.size (some ⟨G, 0, none⟩) n q ∧ Below w.heap.size w w' := by
  obtain ⟨i0, hi, hz0, hz1, hz2⟩ := info_parts Try.infoCon
  have hmk := fun W => run_make (P := Try.prog) W 25 55 i0 _ Try.underlying25 hi hz0 .i64 .i64 (n : Int) n (by omega) (by omega) (by rw [hz2]; omega) (by omega)
  rw [hz1] at hmk
  have Hf := Lib.hid hf
  have HR := Lib.hid hr
  clear hi hz0 hz1 hz2 hf hr
  go_enter Try.func47, Try.ntmps47
  go_wp2
  go_loopw [13] (fun i wr => ∃ (k hi : Nat) (f : Nat → Nat), k ≤ n ∧ i = .int .i64 k ∧ MadC wr w.heap.size hi w.heap.size n k q f ∧ w.heap.size ≤ hi ∧ hi ≤ wr.heap.size ∧ Below w.heap.size w wr) (fun i _ => n - (intOf i).toNat)
  case atStart => exact ⟨0, w.heap.size, fun _ => 0, Nat.zero_le _, rfl, madC_new _ _ _ _ _ _ _ (by simp [size_madeCells]), Nat.le_refl _, by simp, bl_alloc (Below.refl _ _) _⟩
  case round =>
    obtain ⟨k, hi, f, hk, rfl, hm, h1, h2, hb⟩ := hrel
    have HM := Lib.hid hm
    have HB := Lib.hid hb
    by_cases hlt : k < n
    · obtain ⟨b, off, rfl, hbl, hc⟩ := (HR.out.below hb) (by omega)
      obtain ⟨Ai, ci, hc1, hc2, hrq⟩ := hc k hlt
      have HRQ := Lib.hid (hrq.more hb.size)
      have hzw : w.heap.size < wr.heap.size := hm.lt
      have hkI : (k : Int) < (n : Int) := by omega
      have hkJ : (0 : Int) ≤ (k : Int) := by omega
      have HAl := Lib.hid (bl_alloc (Below.refl wr.heap.size wr) (.cells #[.slice Ai (p k).n ci, .int .i64 (p k).bd] 55))
      clear hc hrq hm hb hmk
      go_wp2_with fail
      refine (Hf.out k Ai ci _ hlt (HRQ.out.later HAl.out)).mono ?_
      rintro e w2 ⟨A2, c2, rfl, hF, hb2⟩
      have HB2 := Lib.hid (bl_trans HAl.out hb2)
      have HM2 := Lib.hid (HM.out.below HB2.out)
      obtain ⟨y1, hy1⟩ := HM2.out.cell (j := k * 2) (by omega)
      obtain ⟨y2, hy2⟩ := HM2.out.cell (j := k * 2 + 1) (by omega)
      have hf1 := HM2.out.frozen (k * 2)
      have hf2 := HM2.out.frozen (k * 2 + 1)
      obtain ⟨f', hn1⟩ := HM.out.next (ci := c2) HB2.out hlt h1 h2 (hF.more (by simp))
      have HN := Lib.hid hn1
      have HB3 := Lib.hid (((bl_trans HB.out HB2.out).setCell (p := ⟨w.heap.size, k * 2, none⟩) (Nat.le_refl _) (.slice A2 (q k).n c2)).setCell (p := ⟨w.heap.size, k * 2 + 1, none⟩) (Nat.le_refl _) (.int .i64 (q k).bd))
      have hs2 : w.heap.size ≤ w2.heap.size := Nat.le_trans (Nat.le_trans h1 h2) HB2.out.size
      have hs3 : w2.heap.size ≤ ((w2.setCell ⟨w.heap.size, k * 2, none⟩ (.slice A2 (q k).n c2)).setCell ⟨w.heap.size, k * 2 + 1, none⟩ (.int .i64 (q k).bd)).heap.size := by simp [World.setCell]
      have HS3 := Lib.hid hs3
      clear hF hb2 hn1 HM2 HM HB HB2 HAl hs3 hc1 hc2
      go_wp2
      go_roundw
      case rel => exact ⟨k + 1, w2.heap.size, f', by omega, by go_num, HN.out, hs2, HS3.out, HB3.out⟩
      case measure => simp [intOf]; omega
    · have e : k = n := by omega
      subst e
      have HF := Lib.hid (HM.out.fin (Nat.le_refl _))
      clear hm hb hmk
      go_wp2
      go_ret
      exact ⟨_, rfl, Nat.le_refl _, HF.out, HB.out⟩
end Go.Proofs.Ytbebdhjhlheboaa
