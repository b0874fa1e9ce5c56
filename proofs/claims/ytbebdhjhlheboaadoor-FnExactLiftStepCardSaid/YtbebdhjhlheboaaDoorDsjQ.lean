/- Contract of the model's ClauseOf (no claim of its own). Conditions: as each theorem states. -/
import Derived.Test.YtbebdhjhlheboaaDoorDsjZ
import Derived.Test.YtbebdhjhlheboaaDoorIntA
namespace Go.Proofs.YtbebdhjhlheboaaDoor
open Go.ChangeShapes Go.WideShapes Go.ChangeAt Go.RowKit

/-- What the walk knows while the rows R are in the field of the struct o, the value of the field as a letter. -/
structure DsjAt (o : Nat) (W0 : World) (R : List (Int × Int)) (ov : Value) (wr : World) : Prop where
  o0 : wr.cell? ⟨o, 0, none⟩ = some ov
  o1 : wr.cell? ⟨o, 1, none⟩ = some (.int .i64 1)
  g0 : wr.frozen? ⟨o, 0, none⟩ = false
  g1 : wr.frozen? ⟨o, 1, none⟩ = false
  own : wr.ownsRow (o + 1) 60 2 ov R.length (rcells R)
  bel : Below o W0 wr
def DsjLoop (o : Nat) (W0 : World) (R : List (Int × Int)) (wr : World) : Prop := ∃ ov, DsjAt o W0 R ov wr

section
variable {o : Nat} {W0 : World} {R : List (Int × Int)} {ov : Value} {wr w0 w1 : World}
theorem dsj_far (h : DsjAt o W0 R ov wr) {j : Nat} (hj : j ≤ o) : some j ≠ ov.ownBlock := fun e => by
  have := (h.own.lt j e.symm).1
  omega
theorem dsj_cell (h : DsjAt o W0 R ov wr) (hb : Below wr.heap.size wr w0) (hg : w0.grownBy w1 ov.ownBlock) {j i : Nat} {v : Value} (hj : j ≤ o) (hc : wr.cell? ⟨j, i, none⟩ = some v) : w1.cell? ⟨j, i, none⟩ = some v :=
  hg.cell (a := ⟨j, i, none⟩) (kc hb hc) (dsj_far h hj)
theorem dsj_frozen (h : DsjAt o W0 R ov wr) (hb : Below wr.heap.size wr w0) (hg : w0.grownBy w1 ov.ownBlock) {j i : Nat} {v : Value} (hj : j ≤ o) (hc : wr.cell? ⟨j, i, none⟩ = some v) (hf : wr.frozen? ⟨j, i, none⟩ = false) : w1.frozen? ⟨j, i, none⟩ = false := by
  have hlt : j < wr.heap.size := World.block_lt_of_cell? wr ⟨j, i, none⟩ hc
  have h1 := hg.frozen_far ⟨j, i, none⟩ (by have := hb.size; show j < w0.heap.size; omega) (dsj_far h hj)
  exact h1.trans (kf hb hlt hf)
theorem dsj_t0 (h : DsjAt o W0 R ov wr) (hb : Below wr.heap.size wr w0) (hg : w0.grownBy w1 ov.ownBlock) : w1.cell? ⟨o, 0, none⟩ = some ov := dsj_cell h hb hg (Nat.le_refl _) h.o0
theorem dsj_u0 (h : DsjAt o W0 R ov wr) (hb : Below wr.heap.size wr w0) (hg : w0.grownBy w1 ov.ownBlock) : w1.frozen? ⟨o, 0, none⟩ = false := dsj_frozen h hb hg (Nat.le_refl _) h.o0 h.g0
theorem dsj_step {gg cap1 : Nat} {r : Int × Int} (h : DsjAt o W0 R ov wr) (hb : Below wr.heap.size wr w0)
    (hown : w1.ownsRow (o + 1) 60 2 (.slice (some ⟨gg, 0, none⟩) (R.length + 1) cap1) (R.length + 1) (rcells R ++ [.int .i64 r.1, .int .i64 r.2]))
    (hg : w0.grownBy w1 ov.ownBlock) : DsjLoop o W0 (R ++ [r]) (w1.setCell ⟨o, 0, none⟩ (.slice (some ⟨gg, 0, none⟩) (R.length + 1) cap1)) := by
  have t0 := dsj_t0 h hb hg
  have hol : o < wr.heap.size := World.block_lt_of_cell? wr ⟨o, 0, none⟩ h.o0
  have hown' : w1.ownsRow (o + 1) 60 2 (.slice (some ⟨gg, 0, none⟩) (R.length + 1) cap1) (R ++ [r]).length (rcells (R ++ [r])) := by
    rw [rcells_append, List.length_append]
    exact hown
  refine ⟨_, World.cell?_setCell_same' _ _ _ (by rw [t0]; rfl), ?_, by rw [World.frozen?_setCell]; exact dsj_u0 h hb hg, by rw [World.frozen?_setCell]; exact dsj_frozen h hb hg (Nat.le_refl _) h.o1 h.g1, ownsRow_setCell_below hown' (by show o < o + 1; omega) _, ?_⟩
  · exact (World.cell?_setCell_other _ _ _ _ (fun e => by injection e with e1 e2 _; omega)).trans (dsj_cell h hb hg (Nat.le_refl _) h.o1)
  · have h2 : Below o W0 w0 := h.bel.trans (hb.mono (by omega))
    refine (h2.grown hg (by have := h.bel.size; have := hb.size; omega) (fun j e => ?_)).setCell (by show o ≤ o; omega) _
    have := (h.own.lt j e).1
    omega
end

theorem clF_flat (n : Nat) (lt : Nat → Int) : rcells (clF n lt) = flat one1 (rL (clF n lt)) (clF n lt).length := rows_flat (clR_one _ _)

set_option maxRecDepth 100000 in
set_option maxHeartbeats 3200000 in
theorem specClause_any (A : Option Addr) (n cap : Nat) (lt : Nat → Int) (w : World) (hn : n ≤ 1048576) (hr : RdI w w.heap.size A n lt) :
    Calls Tryd.prog 33 #[.slice A n cap] w (CRes w (clN n lt) one1 (rL (clF n lt)) (clD n lt) (clB n lt)) := by
  obtain ⟨i0, hi, hz0, hz1, hz2⟩ := info_parts Tryd.infoInt
  have hmk := fun W => run_make (P := Tryd.prog) W 27 3 i0 _ Tryd.underlying27 hi hz0 .i64 .i64 13 13 (by omega) (by omega) (by rw [hz2]; omega) (by omega)
  rw [hz1] at hmk
  clear hi hz0 hz1 hz2
  have hno : clB n lt = false → clN n lt = 0 ∧ clD n lt = 0 := fun h => ⟨by unfold clN; rw [h]; rfl, by unfold clD; rw [h]; rfl⟩
  have Hno := Lib.hid hno
  clear hno
  by_cases h40 : 40 < n
  · have hX : clB n lt = false := by simp [clB]; omega
    obtain ⟨x1, x2⟩ := Hno.out hX
    rw [x1, x2, hX]
    clear hX x1 x2 Hno
    go_enter Tryd.func33, Tryd.ntmps33
    go_wp2
    refine bodyPost_ret (v := .tuple #[.agg #[.slice none 0 0, .int .i64 0], .bool false]) (by simp [results, Tryd.results33, go_sem]) rfl ?_
    exact ⟨none, 0, rfl, .inl rfl, by repeat (first | exact Below.refl _ _ | refine bl_alloc ?_ _ | refine Below.setCell ?_ (by simp) _)⟩
  · have h40' : n ≤ 40 := by omega
    go_enter Tryd.func33, Tryd.ntmps33
    go_wp2
    go_loopw [5, 6] (fun i _ wr => ∃ k : Nat, k ≤ n ∧ i = .int .i64 k ∧ okD lt k = true ∧ OwnK wr (w.heap.size + 1) 13 (seenA lt k) ∧ wr.cell? ⟨w.heap.size, 0, none⟩ = some (.slice none 0 0) ∧ wr.cell? ⟨w.heap.size, 1, none⟩ = some (.int .i64 0) ∧ wr.frozen? ⟨w.heap.size, 0, none⟩ = false ∧ wr.frozen? ⟨w.heap.size, 1, none⟩ = false ∧ Below w.heap.size w wr) (fun i _ _ => n - (intOf i).toNat)
    case atStart => exact ⟨0, Nat.zero_le _, rfl, rfl, ⟨_, alloc_two _ _ _, by simp [size_madeCells], fun i hi => by simp [madeCells_get _ hi, seenA]⟩, by go_simp, by go_simp, by go_simp, by go_simp, bl_alloc (bl_alloc (Below.refl _ _) _) _⟩
    case round =>
      obtain ⟨k, hk, rfl, hok, hown, r0, r1, f0, f1, hb⟩ := hrel
      by_cases hlt : k < n
      · obtain ⟨b, off, rfl, hbl, hc⟩ := (hr.below hb) (by omega)
        have hc1 := hc k hlt
        have hzb : b < wr.heap.size := Nat.lt_of_lt_of_le hbl hb.size
        have hzg : w.heap.size + 1 < wr.heap.size := hown.lt
        have hz0 : w.heap.size < wr.heap.size := by omega
        have HB := Lib.hid hb
        have HO := Lib.hid hown
        have hltI : (k : Int) < (n : Int) := by omega
        have hk0 : (0 : Int) ≤ (k : Int) := by omega
        by_cases hL : litB (lt k) = true
        · obtain ⟨hl0, hl1, hl2⟩ := litB_iff.1 hL
          have hp := ab_pos hL
          obtain ⟨v, hv⟩ : ∃ v : Nat, ab (lt k) = (v : Int) := ⟨(ab (lt k)).toNat, by omega⟩
          have hv13 : v < 13 := by omega
          have hvI : (v : Int) < 13 := by omega
          have hv0 : (0 : Int) ≤ (v : Int) := by omega
          have hcl := hown.cell hv13
          have hfr := hown.frozen v
          obtain ⟨x, hx⟩ : ∃ x : Int, seenA lt k v = x := ⟨_, rfl⟩
          obtain ⟨y, hy⟩ : ∃ y : Int, lt k = y := ⟨_, rfl⟩
          obtain ⟨z, hz⟩ : ∃ z : Int, -y = z := ⟨_, rfl⟩
          have hwn : IntKind.i64.wrap (-y) = z := by rw [← hz]; exact IntWalk.i64_in _ (by omega)
          rw [hx] at hcl
          rw [hy] at hc1 hl1 hl2 hL hv
          have HV := Lib.hid hv
          have HX := Lib.hid hx
          have HY := Lib.hid hy
          have HZ := Lib.hid hz
          have HOK := Lib.hid hok
          have HLt := Lib.hid hL
          have hcA := l1Abs_any y
          have hcL := l1Lit_any y
          rw [hv] at hcA
          rw [hL] at hcL
          have HA := Lib.hid hcA
          have HL := Lib.hid hcL
          have H1 := Lib.hid hl1
          have H2 := Lib.hid hl2
          clear hc hmk hr hown hb hok hp hv hx hy hz hcA hcL hl0 hl1 hl2 hL h40'
          by_cases hC : x = z
          · have hX : clB n lt = false := by
              have h1 : okD lt n = false := by
                cases h : okD lt n with
                | false => rfl
                | true =>
                  exfalso
                  obtain ⟨h2, h3⟩ := okD_iff.1 h
                  have hp := ab_pos HLt.out
                  have hz0 : z ≠ 0 := by have := (litB_iff.1 HLt.out).1; have := HZ.out; omega
                  rcases seenA_spec lt k v with ⟨hq, _⟩ | ⟨i, hi, hq, hq2⟩
                  · rw [HX.out] at hq; omega
                  · have := h3 i k (by omega) hlt (by rw [hq2, HY.out, HV.out])
                    rw [← hq, HX.out, HY.out] at this
                    have := HZ.out
                    have := (litB_iff.1 HLt.out).1
                    omega
              simp [clB, h1]
            obtain ⟨x1, x2⟩ := Hno.out hX
            rw [x1, x2, hX]
            clear hX x1 x2 Hno HOK HX HY HZ HLt HV
            go_wp2_with (first | (go_at_call 51; refine (HL.out _).mono ?_; rintro e w' ⟨rfl, rfl⟩) | (go_at_call 40; refine (HA.out _ H1.out H2.out).mono ?_; rintro e w' ⟨rfl, rfl⟩))
            go_quiet (fail)
            go_wp2
            refine bodyPost_ret (v := .tuple #[.agg #[.slice none 0 0, .int .i64 0], .bool false]) (by simp [results, Tryd.results33, go_sem, r0, r1]) rfl ?_
            exact ⟨none, 0, rfl, .inl rfl, ((bl_drewN HB.out _).setCell (by simp) _).setCell (by simp) _⟩
          · go_wp2_with (first | (go_at_call 51; refine (HL.out _).mono ?_; rintro e w' ⟨rfl, rfl⟩) | (go_at_call 40; refine (HA.out _ H1.out H2.out).mono ?_; rintro e w' ⟨rfl, rfl⟩))
            go_quiet (fail)
            go_wp2
            go_roundw
            case rel =>
              refine ⟨k + 1, by omega, by go_num, ?_, (HO.out.at_ (w' := w'.drewN _) rfl).put hv13 (g := seenA lt (k + 1)) ?_ (fun i hi hne => ?_), by go_simp, by go_simp, by go_simp, by go_simp, (bl_drewN HB.out _).setCell (by simp) _⟩
              · show (okD lt k && (litB (lt k) && !(seenA lt k (ab (lt k)).toNat == -(lt k)))) = true
                rw [HOK.out, HY.out, HLt.out, HV.out, Int.toNat_natCast, HX.out, HZ.out]
                simp [hC]
              · show (if ab (lt k) = (v : Int) then lt k else seenA lt k v) = y
                rw [HY.out, if_pos HV.out]
              · show (if ab (lt k) = (i : Int) then lt k else seenA lt k i) = _
                rw [HY.out, if_neg (by rw [HV.out]; omega)]
            case measure => simp [intOf]; omega
        · rw [Bool.not_eq_true] at hL
          have hX : clB n lt = false := by
            have h1 : okD lt n = false := by
              cases h : okD lt n with
              | false => rfl
              | true => rw [(okD_iff.1 h).1 k hlt] at hL; cases hL
            simp [clB, h1]
          obtain ⟨x1, x2⟩ := Hno.out hX
          rw [x1, x2, hX]
          have hcL := l1Lit_any (lt k)
          rw [hL] at hcL
          have HL := Lib.hid hcL
          clear hX x1 x2 Hno hc hmk hr hown hb hok hcL hL h40'
          go_wp2_with (go_at_call 51; refine (HL.out _).mono ?_; rintro e w' ⟨rfl, rfl⟩)
          refine bodyPost_ret (v := .tuple #[.agg #[.slice none 0 0, .int .i64 0], .bool false]) (by simp [results, Tryd.results33, go_sem, r0, r1]) rfl ?_
          exact ⟨none, 0, rfl, .inl rfl, (HB.out.setCell (by simp) _).setCell (by simp) _⟩
      · have e : k = n := by omega
        subst e
        clear hmk
        obtain ⟨W1, rfl⟩ : ∃ X, X = wr := ⟨_, rfl⟩
        have hX : clB k lt = true := by simp [clB, hok, h40']
        have hX2 : clN k lt = (clF k lt).length ∧ clD k lt = 1 := ⟨by unfold clN; rw [hX]; rfl, by unfold clD; rw [hX]; rfl⟩
        have HX2 := Lib.hid (And.intro hX2.1 (And.intro hX2.2 hX))
        have hzg : w.heap.size + 1 < W1.heap.size := hown.lt
        have r0 := kc (bl_alloc (Below.refl W1.heap.size W1) (.cells #[.slice none 0 0, .int .i64 1] 31)) r0
        have r1 := kc (bl_alloc (Below.refl W1.heap.size W1) (.cells #[.slice none 0 0, .int .i64 1] 31)) r1
        have f0 := kf (bl_alloc (Below.refl W1.heap.size W1) (.cells #[.slice none 0 0, .int .i64 1] 31)) (p := ⟨w.heap.size, 0, none⟩) (by show w.heap.size < W1.heap.size; omega) f0
        have f1 := kf (bl_alloc (Below.refl W1.heap.size W1) (.cells #[.slice none 0 0, .int .i64 1] 31)) (p := ⟨w.heap.size, 1, none⟩) (by show w.heap.size < W1.heap.size; omega) f1
        have ho := hown.alloc (.cells #[.slice none 0 0, .int .i64 1] 31)
        have hb := bl_alloc hb (.cells #[.slice none 0 0, .int .i64 1] 31)
        have HO := Lib.hid ho
        have HB := Lib.hid hb
        have R0 := Lib.hid r0
        have R1 := Lib.hid r1
        have F0 := Lib.hid f0
        have F1 := Lib.hid f1
        clear hX hX2 hr Hno hok hown ho hb r0 r1 f0 f1 h40'
        obtain ⟨j0, hi, hz0, hz1, hz2⟩ := info_parts Tryd.infoTerm
        have Hi := Lib.hid hi
        have Hz0 := Lib.hid hz0
        have Hz1 := Lib.hid hz1
        have Hz2 := Lib.hid hz2
        clear hi hz0 hz1 hz2
        go_wp2
        go_loopw [8] (fun i wx => ∃ j v : Nat, j ≤ 12 ∧ v = j + 1 ∧ i = .int .i64 v ∧ DsjLoop W1.heap.size (W1.alloc (.cells #[.slice none 0 0, .int .i64 1] 31)) (clR (seenA lt k) j) wx) (fun i _ => 13 - (intOf i).toNat)
        case atStart => exact ⟨0, 1, Nat.zero_le _, rfl, rfl, _, by go_simp, by go_simp, by go_simp, by go_simp, World.ownsRow_nil _ _ _ _, Below.refl _ _⟩
        case round =>
          obtain ⟨j, v, hj, hv, rfl, ov, old⟩ := hrel
          by_cases hlt : j < 12
          · have Old := Lib.hid old
            have hcl := (HO.out.below old.bel hzg).cell (j := v) (by omega)
            obtain ⟨o0, o1, g0, g1, hown, hb⟩ := old
            have Hown := Lib.hid hown
            have hOl : W1.heap.size < wr.heap.size := World.block_lt_of_cell? wr ⟨W1.heap.size, 0, none⟩ o0
            have hlt' : (v : Int) < 13 := by omega
            have hv12 : (v : Int) ≤ 12 := by omega
            have hk0 : (0 : Int) ≤ (v : Int) := by omega
            have hGw : w.heap.size + 1 < wr.heap.size := by omega
            obtain ⟨x, hx⟩ : ∃ x : Int, seenA lt k v = x := ⟨_, rfl⟩
            rw [hx] at hcl
            have HX := Lib.hid hx
            clear hown hb o1 g1 hx
            by_cases hp : x = 0
            · have hrow : clR (seenA lt k) (j + 1) = clR (seenA lt k) j := by
                show clR (seenA lt k) j ++ clAt (seenA lt k (j + 1)) = _
                rw [← hv, HX.out, clAt, if_pos hp, List.append_nil]
              have Hrow := Lib.hid hrow
              have Hv := Lib.hid hv
              clear hrow hv
              go_wp2
              go_roundw
              case rel => exact ⟨j + 1, v + 1, by omega, by rw [Hv.out], by go_num, by rw [Hrow.out]; exact ⟨_, Old.out⟩⟩
              case measure => simp [intOf]; omega
            · have hrow : clR (seenA lt k) (j + 1) = clR (seenA lt k) j ++ [(1, x)] := by
                show clR (seenA lt k) j ++ clAt (seenA lt k (j + 1)) = _
                rw [← hv, HX.out, clAt, if_neg hp]
              have Hrow := Lib.hid hrow
              have hRl := clR_length (seenA lt k) j
              have News := Lib.hid (World.news_of_block (w := (wr.alloc (.cells #[.int .i64 1, .int .i64 x] 60)).drew) (B := wr.heap.size) (cs := #[.int .i64 1, .int .i64 x]) (t := 60) (fr := (0, 0)) (heap_alloc_new wr _))
              have Hv := Lib.hid hv
              clear hrow hv
              go_upto_region 18 with fail
              go_region_law (refine step_append_lies _ (by rfl) _ _ _ (by rfl) (W1.heap.size + 1) 60 j0 _ 2 16 Tryd.underlying29 Hi.out Hz0.out Hz1.out Hz2.out rfl (by omega) ov (clR (seenA lt k) j).length _ (by rfl) ((Hown.out.alloc _).drew) ⟨wr.heap.size, 0, none⟩ 1 1 [.int .i64 1, .int .i64 x] (by rfl) (by rfl) (News.out) (by simp [Value.oneCell']) (by omega) (by unfold maxLen; omega) (by omega) (by simp; omega) (wr.heap.size + 1) (by simp) ?_; intro gg cap1 w1 hown1 hgrow hat hlt1; have t0 := dsj_t0 Old.out (bl_alloc (Below.refl _ _) _).drew hgrow; have u0 := dsj_u0 Old.out (bl_alloc (Below.refl _ _) _).drew hgrow)
              all_goals go_wp2
              all_goals go_roundw
              all_goals (first | exact ⟨j + 1, v + 1, by omega, by rw [Hv.out], by go_num, by rw [Hrow.out]; exact dsj_step Old.out (bl_alloc (Below.refl _ _) _).drew hown1 hgrow⟩ | (simp [intOf]; omega))
          · have e : j = 12 := by omega
            subst e
            subst hv
            obtain ⟨A', cap', rfl, hF⟩ := frs_of_row (by have h := old.own; rw [show clR (seenA lt k) 12 = clF k lt from rfl, clF_flat] at h; exact h)
            obtain ⟨o0, o1, g0, g1, -, hb⟩ := old
            have r0 := (hb.cell (p := ⟨w.heap.size, 0, none⟩) (by show w.heap.size < W1.heap.size; omega)).trans R0.out
            have r1 := (hb.cell (p := ⟨w.heap.size, 1, none⟩) (by show w.heap.size < W1.heap.size; omega)).trans R1.out
            have f0 := (hb.frozen (p := ⟨w.heap.size, 0, none⟩) (by show w.heap.size < W1.heap.size; omega)).trans F0.out
            have f1 := (hb.frozen (p := ⟨w.heap.size, 1, none⟩) (by show w.heap.size < W1.heap.size; omega)).trans F1.out
            have HF := Lib.hid hF
            have HB2 := Lib.hid (HB.out.trans (hb.mono (by omega)))
            have HZ9 := Lib.hid (show w.heap.size < W1.heap.size + 1 from by omega)
            clear hF hb HB HO R0 R1 F0 F1
            go_wp2
            refine bodyPost_ret (v := .tuple #[.agg #[.slice A' (clF k lt).length cap', .int .i64 1], .bool true]) (by simp [results, Tryd.results33, go_sem, r0, r1]) rfl ?_
            obtain ⟨x1, x2, x3⟩ := HX2.out
            rw [x1, x2, x3]
            exact ⟨_, _, rfl, ((HF.out.far' (p := ⟨w.heap.size, 0, none⟩) rfl HZ9.out _).far' (p := ⟨w.heap.size, 1, none⟩) rfl HZ9.out _).more (Nat.le_of_lt HZ9.out), (HB2.out.setCell (p := ⟨w.heap.size, 0, none⟩) (Nat.le_refl _) _).setCell (p := ⟨w.heap.size, 1, none⟩) (Nat.le_refl _) _⟩
end Go.Proofs.YtbebdhjhlheboaaDoor
