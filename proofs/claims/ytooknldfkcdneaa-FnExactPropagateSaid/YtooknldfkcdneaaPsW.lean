/- The program's propagate (no claim of its own). Conditions: as each theorem states. -/
import Derived.Test.YtooknldfkcdneaaPsP
namespace Go.Proofs.Ytooknldfkcdneaa
open Go.Conc Go.ChangeShapes Go.WideShapes Go.ChangeAt Go.RowKit Go.Shelf

set_option maxRecDepth 100000 in
set_option maxHeartbeats 3200000 in
theorem pgProp_any (B lo m : Nat) (lv : Value) (p : Nat → Con) (uv : Nat → Value) (v : Nat → Int) (w : World) (hm : m ≤ 1400) (hok : ∀ i, i < m → okC (p i) ∧ (p i).n ≤ 1048576) (hrn : rng v) (hv0 : ∀ i, 12 ≤ i → v i = 0)
    (hPg : Pg w lo B lv m m p (fun i => slkC (p i) z0) (usP p m) uv) :
    Calls Try.prog 39 #[.pointer (some ⟨B, 0, none⟩), arrV v] w fun e w' => ∃ V r, e = .returned (.tuple #[arrV V, .int .i64 r]) ∧ Runs p m 0 v V r ∧ rng V ∧ Below w.heap.size w w' := by
  have HPg := Lib.hid hPg
  have HOk := Lib.hid hok
  have HRn := Lib.hid hrn
  have HV0 := Lib.hid hv0
  have hBw := hPg.cel.lt
  have HLb := Lib.hid (show ∀ b, lv.ownBlock = some b → b < w.heap.size from fun b e => by
    obtain ⟨xs, hx, _⟩ := hPg.lst
    exact (hx.lt b e).2)
  have HUb := Lib.hid (show ∀ j, j < 25 → ∀ b, (uv j).ownBlock = some b → b < w.heap.size from fun j hj b e => ((hPg.use j hj).lt b e).2)
  clear hPg hok hrn hv0
  unfold arrV cells12
  go_enter Try.func39, Try.ntmps39
  go_upto_region 1 with fail
  have hs := start12 w v 64
  simp only [cells12] at hs
  generalize (World.alloc (World.alloc w _) _) = W1 at hs ⊢
  obtain ⟨hb1, hr3, h4, hsz⟩ := hs
  have HP1 := HPg.out.below hb1
  obtain ⟨SL, s1, s2, s3, hrg, hin⟩ := pg_slacks HP1.cel hm
  obtain ⟨cells, hbd, c1, c2, c3, c4, c5⟩ := ps_built B SL s1 s3
  obtain ⟨hth, hiz, hps, hb2⟩ := ps_new (w := W1) c1 c2 c3 c4 hm s2
  clear s1 s2 s3 c1 c2 c3 c4 HP1
  have Hrg := Lib.hid hrg
  have Hin := Lib.hid hin
  have Hps := Lib.hid hps
  have Hb1 := Lib.hid hb1
  have Hb2 := Lib.hid hb2
  have Hr3 := Lib.hid hr3
  have H4 := Lib.hid h4
  clear hrg hin hps hb1 hb2 hr3 h4
  go_wp2_with fail
  rename_i K1 hK1
  refine wp_load_mid 99 (.tmp 13) rfl B 1 (by rfl) SL.toList _ Hrg.out Try.underlying99 rfl Hin.out ?_
  simp only [Array.toArray_toList]
  refine hK1 _ _ ?_
  clear hK1 K1
  refine wpList_plain (by rfl) fun K1 hK1 => ?_
  refine wp_build_run 106 _ rfl cells (by simp only [List.map_toArray, List.map_cons, List.map_nil]; exact hbd _) ?_
  refine hK1 _ _ ?_
  clear hK1 K1
  refine wpList_plain (by rfl) fun K1 hK1 => ?_
  refine wp_value (v := .pointer (some ⟨W1.heap.size, 0, none⟩)) (w' := W1.alloc (.cells Try.zeroCells106 106)) (by go_simp) ?_
  refine hK1 _ _ ?_
  clear hK1 K1
  refine wpList_plain (by rfl) fun K1 hK1 => ?_
  refine wp_store_mid 106 (.tmp 6) (.tmp 15) rfl W1.heap.size 0 cells (by rfl) (by rfl) hth hiz c5 ?_
  refine hK1 _ _ ?_
  clear hK1 K1 hth hiz c5
  generalize ((W1.alloc (.cells Try.zeroCells106 106)).setCells W1.heap.size 0 cells.toList) = W2 at *
  have Hr4 := Lib.hid (range_kc Hb2.out Hr3.out)
  have H5 := Lib.hid ((Hb2.out.block (w.heap.size + 1) (by omega)).trans H4.out)
  have Hbw := Lib.hid (Hb1.out.trans (Hb2.out.mono (by omega)))
  rw [hsz] at Hps ⊢
  clear hsz hbd
  have HP2 := Lib.hid (HPg.out.below Hbw.out)
  clear HPg Hr3 H4 Hrg Hin Hb1 Hb2
  go_upto_region 2 with fail
  have q0 : W2.cell? ⟨w.heap.size, 0, none⟩ = some (.int .i64 (v 0)) := Hr4.out 0 _ rfl
  have q1 : W2.cell? ⟨w.heap.size, 1, none⟩ = some (.int .i64 (v 1)) := Hr4.out 1 _ rfl
  have q2 : W2.cell? ⟨w.heap.size, 2, none⟩ = some (.int .i64 (v 2)) := Hr4.out 2 _ rfl
  have q3 : W2.cell? ⟨w.heap.size, 3, none⟩ = some (.int .i64 (v 3)) := Hr4.out 3 _ rfl
  have q4 : W2.cell? ⟨w.heap.size, 4, none⟩ = some (.int .i64 (v 4)) := Hr4.out 4 _ rfl
  have q5 : W2.cell? ⟨w.heap.size, 5, none⟩ = some (.int .i64 (v 5)) := Hr4.out 5 _ rfl
  have q6 : W2.cell? ⟨w.heap.size, 6, none⟩ = some (.int .i64 (v 6)) := Hr4.out 6 _ rfl
  have q7 : W2.cell? ⟨w.heap.size, 7, none⟩ = some (.int .i64 (v 7)) := Hr4.out 7 _ rfl
  have q8 : W2.cell? ⟨w.heap.size, 8, none⟩ = some (.int .i64 (v 8)) := Hr4.out 8 _ rfl
  have q9 : W2.cell? ⟨w.heap.size, 9, none⟩ = some (.int .i64 (v 9)) := Hr4.out 9 _ rfl
  have q10 : W2.cell? ⟨w.heap.size, 10, none⟩ = some (.int .i64 (v 10)) := Hr4.out 10 _ rfl
  have q11 : W2.cell? ⟨w.heap.size, 11, none⟩ = some (.int .i64 (v 11)) := Hr4.out 11 _ rfl
  go_wp2_with (go_at_call 55; refine (trueLits_any v _ HRn.out).mono ?_; rintro e w3 ⟨A, cap, rfl, hF, hb⟩; have HF := Lib.hid hF; have HB3 := Lib.hid hb; clear hF hb)
  clear q0 q1 q2 q3 q4 q5 q6 q7 q8 q9 q10 q11
  obtain ⟨TL, hTL⟩ : ∃ TL, tl v 12 = TL := ⟨_, rfl⟩
  have HFr := Lib.hid (show frL z0 TL from hTL ▸ tl_fr HRn.out)
  have HAll := Lib.hid (show asgL z0 TL = v from hTL ▸ tl_all HRn.out HV0.out)
  have htl : TL.length ≤ 12 := by rw [← hTL]; exact tl_le 12
  rw [hTL] at HF ⊢
  have HPs3 := Lib.hid (Hps.out.below HB3.out)
  have HPg3 := Lib.hid (HP2.out.below HB3.out)
  have H63 := Lib.hid ((HB3.out.block (w.heap.size + 1) (by have := Hps.out.lt; omega)).trans H5.out)
  have Hbw3 := Lib.hid (Hbw.out.trans (HB3.out.mono (by have := Hps.out.lt; omega)))
  have hSW : w.heap.size + 2 < W2.heap.size := Hps.out.lt
  have hBS : B < w.heap.size + 2 := by omega
  have HLb2 := Lib.hid (show ∀ b, lv.ownBlock = some b → b < w.heap.size + 2 from fun b e => by have := HLb.out b e; omega)
  have HUb2 := Lib.hid (show ∀ j, j < 25 → ∀ b, (uv j).ownBlock = some b → b < w.heap.size + 2 from fun j hj b e => by have := HUb.out j hj b e; omega)
  clear hTL Hps HP2 H5 Hbw HB3 HLb HUb Hr4
  go_wp2
  go_loopw [19] (fun t wz => ∃ kk : Nat, t = .int .i64 (kk : Nat) ∧ kk ≤ TL.length ∧ PsAt wz (w.heap.size + 2) B (asgL z0 (TL.take kk)) m (fun j => slkC (p j) (asgL z0 (TL.take kk))) ∧ FrI wz W2.heap.size 80 A TL.length (gI TL) ∧ w3.grownBy wz (some (w.heap.size + 2))) (fun t _ => TL.length - (intOf t).toNat)
  case atStart => exact ⟨0, rfl, Nat.zero_le _, HPs3.out, HF.out, ⟨rfl, rfl, rfl, Nat.le_refl _, fun _ _ _ => rfl⟩⟩
  case round =>
    obtain ⟨kk, rfl, hk, hps, hfi, hgr⟩ := hrel
    have HP5 := Lib.hid hps
    have HF5 := Lib.hid hfi
    have HG5 := Lib.hid hgr
    clear hps hfi hgr
    by_cases hkl : kk < TL.length
    · obtain ⟨b2, off2, e2, hbl2, hc⟩ := HF5.out.rdAt (by omega)
      subst e2
      have hc1 := hc kk hkl
      obtain ⟨hz, htk⟩ := frL_take HFr.out hkl
      have H0 := Lib.hid (frL_zero HFr.out hkl)
      have Hz := Lib.hid hz
      have HT := Lib.hid htk
      have hkI : (kk : Int) < (TL.length : Int) := by omega
      have hk0 : (0 : Int) ≤ (kk : Int) := by omega
      clear hc hz htk
      go_wp2_with (go_at_call 72; refine (psGo_any (w.heap.size + 2) B lo m lv p uv _ _ _ hm HOk.out HP5.out (HPg3.out.other HG5.out hBS HLb2.out HUb2.out) hBS HLb2.out HUb2.out Hz.out H0.out).mono ?_; rintro e w5 ⟨rfl, hp5, hg5⟩; have HP6 := Lib.hid (show PsAt w5 (w.heap.size + 2) B (asgL z0 (TL.take (kk + 1))) m (fun j => slkC (p j) (asgL z0 (TL.take (kk + 1)))) by rw [HT.out]; exact hp5); have HF6 := Lib.hid (fri_grown HF5.out hg5 hSW); have HG6 := Lib.hid (grown_trans HG5.out hg5); clear hp5 hg5 hc1)
      go_roundw
      case rel => exact ⟨kk + 1, by go_num, by omega, HP6.out, HF6.out, HG6.out⟩
      case measure => simp [intOf]; omega
    · have e : kk = TL.length := by omega
      subst e
      have HP6 := Lib.hid (show PsAt wr (w.heap.size + 2) B v m (fun j => slkC (p j) v) by have := HP5.out; rwa [List.take_length, HAll.out] at this)
      clear HP5
      go_wp2_with fail
      refine (psRun_any (w.heap.size + 2) B lo m lv p uv v _ hm HOk.out HRn.out HP6.out (HPg3.out.other HG5.out hBS HLb2.out HUb2.out) hBS HLb2.out HUb2.out).mono ?_
      rintro e w5 ⟨V, r, rfl, hr, hrv, hp5, hg5⟩
      have HR := Lib.hid hr
      have HRv := Lib.hid hrv
      have HG6 := Lib.hid (grown_trans HG5.out hg5)
      have h6 := heap_kept HG6.out H63.out (by omega)
      have hf6 : ∀ i, w5.frozen? ⟨w.heap.size + 1, i, none⟩ = false := fun i => by simp [World.frozen?, h6]
      have q0 : w5.cell? ⟨w.heap.size + 2, 1, none⟩ = some (.int .i64 (V 0)) := hp5.cellV (i := 0) (by omega)
      have q1 : w5.cell? ⟨w.heap.size + 2, 2, none⟩ = some (.int .i64 (V 1)) := hp5.cellV (i := 1) (by omega)
      have q2 : w5.cell? ⟨w.heap.size + 2, 3, none⟩ = some (.int .i64 (V 2)) := hp5.cellV (i := 2) (by omega)
      have q3 : w5.cell? ⟨w.heap.size + 2, 4, none⟩ = some (.int .i64 (V 3)) := hp5.cellV (i := 3) (by omega)
      have q4 : w5.cell? ⟨w.heap.size + 2, 5, none⟩ = some (.int .i64 (V 4)) := hp5.cellV (i := 4) (by omega)
      have q5 : w5.cell? ⟨w.heap.size + 2, 6, none⟩ = some (.int .i64 (V 5)) := hp5.cellV (i := 5) (by omega)
      have q6 : w5.cell? ⟨w.heap.size + 2, 7, none⟩ = some (.int .i64 (V 6)) := hp5.cellV (i := 6) (by omega)
      have q7 : w5.cell? ⟨w.heap.size + 2, 8, none⟩ = some (.int .i64 (V 7)) := hp5.cellV (i := 7) (by omega)
      have q8 : w5.cell? ⟨w.heap.size + 2, 9, none⟩ = some (.int .i64 (V 8)) := hp5.cellV (i := 8) (by omega)
      have q9 : w5.cell? ⟨w.heap.size + 2, 10, none⟩ = some (.int .i64 (V 9)) := hp5.cellV (i := 9) (by omega)
      have q10 : w5.cell? ⟨w.heap.size + 2, 11, none⟩ = some (.int .i64 (V 10)) := hp5.cellV (i := 10) (by omega)
      have q11 : w5.cell? ⟨w.heap.size + 2, 12, none⟩ = some (.int .i64 (V 11)) := hp5.cellV (i := 11) (by omega)
      have p0 : w5.cell? ⟨w.heap.size + 1, 0, none⟩ = some (.int .i64 0) := (cell_of_row w5 (w.heap.size + 1) 0 _ _ _ h6).trans rfl
      have p1 : w5.cell? ⟨w.heap.size + 1, 1, none⟩ = some (.int .i64 0) := (cell_of_row w5 (w.heap.size + 1) 1 _ _ _ h6).trans rfl
      have p2 : w5.cell? ⟨w.heap.size + 1, 2, none⟩ = some (.int .i64 0) := (cell_of_row w5 (w.heap.size + 1) 2 _ _ _ h6).trans rfl
      have p3 : w5.cell? ⟨w.heap.size + 1, 3, none⟩ = some (.int .i64 0) := (cell_of_row w5 (w.heap.size + 1) 3 _ _ _ h6).trans rfl
      have p4 : w5.cell? ⟨w.heap.size + 1, 4, none⟩ = some (.int .i64 0) := (cell_of_row w5 (w.heap.size + 1) 4 _ _ _ h6).trans rfl
      have p5 : w5.cell? ⟨w.heap.size + 1, 5, none⟩ = some (.int .i64 0) := (cell_of_row w5 (w.heap.size + 1) 5 _ _ _ h6).trans rfl
      have p6 : w5.cell? ⟨w.heap.size + 1, 6, none⟩ = some (.int .i64 0) := (cell_of_row w5 (w.heap.size + 1) 6 _ _ _ h6).trans rfl
      have p7 : w5.cell? ⟨w.heap.size + 1, 7, none⟩ = some (.int .i64 0) := (cell_of_row w5 (w.heap.size + 1) 7 _ _ _ h6).trans rfl
      have p8 : w5.cell? ⟨w.heap.size + 1, 8, none⟩ = some (.int .i64 0) := (cell_of_row w5 (w.heap.size + 1) 8 _ _ _ h6).trans rfl
      have p9 : w5.cell? ⟨w.heap.size + 1, 9, none⟩ = some (.int .i64 0) := (cell_of_row w5 (w.heap.size + 1) 9 _ _ _ h6).trans rfl
      have p10 : w5.cell? ⟨w.heap.size + 1, 10, none⟩ = some (.int .i64 0) := (cell_of_row w5 (w.heap.size + 1) 10 _ _ _ h6).trans rfl
      have p11 : w5.cell? ⟨w.heap.size + 1, 11, none⟩ = some (.int .i64 0) := (cell_of_row w5 (w.heap.size + 1) 11 _ _ _ h6).trans rfl
      have f0 : w5.frozen? ⟨w.heap.size + 1, 0, none⟩ = false := hf6 0
      have f1 : w5.frozen? ⟨w.heap.size + 1, 1, none⟩ = false := hf6 1
      have f2 : w5.frozen? ⟨w.heap.size + 1, 2, none⟩ = false := hf6 2
      have f3 : w5.frozen? ⟨w.heap.size + 1, 3, none⟩ = false := hf6 3
      have f4 : w5.frozen? ⟨w.heap.size + 1, 4, none⟩ = false := hf6 4
      have f5 : w5.frozen? ⟨w.heap.size + 1, 5, none⟩ = false := hf6 5
      have f6 : w5.frozen? ⟨w.heap.size + 1, 6, none⟩ = false := hf6 6
      have f7 : w5.frozen? ⟨w.heap.size + 1, 7, none⟩ = false := hf6 7
      have f8 : w5.frozen? ⟨w.heap.size + 1, 8, none⟩ = false := hf6 8
      have f9 : w5.frozen? ⟨w.heap.size + 1, 9, none⟩ = false := hf6 9
      have f10 : w5.frozen? ⟨w.heap.size + 1, 10, none⟩ = false := hf6 10
      have f11 : w5.frozen? ⟨w.heap.size + 1, 11, none⟩ = false := hf6 11
      clear hr hrv hp5 hg5 h6 hf6
      have hbf : Below w.heap.size w w5 := Hbw3.out.trans ((grown_below HG6.out (Nat.le_of_lt HPs3.out.lt)).mono (by omega))
      have hle : w.heap.size ≤ w.heap.size + 1 := Nat.le_succ _
      have HBf := Lib.hid ((((((((((((hbf.setCell (p := ⟨w.heap.size + 1, 0, none⟩) hle (.int .i64 (V 0))).setCell (p := ⟨w.heap.size + 1, 1, none⟩) hle (.int .i64 (V 1))).setCell (p := ⟨w.heap.size + 1, 2, none⟩) hle (.int .i64 (V 2))).setCell (p := ⟨w.heap.size + 1, 3, none⟩) hle (.int .i64 (V 3))).setCell (p := ⟨w.heap.size + 1, 4, none⟩) hle (.int .i64 (V 4))).setCell (p := ⟨w.heap.size + 1, 5, none⟩) hle (.int .i64 (V 5))).setCell (p := ⟨w.heap.size + 1, 6, none⟩) hle (.int .i64 (V 6))).setCell (p := ⟨w.heap.size + 1, 7, none⟩) hle (.int .i64 (V 7))).setCell (p := ⟨w.heap.size + 1, 8, none⟩) hle (.int .i64 (V 8))).setCell (p := ⟨w.heap.size + 1, 9, none⟩) hle (.int .i64 (V 9))).setCell (p := ⟨w.heap.size + 1, 10, none⟩) hle (.int .i64 (V 10))).setCell (p := ⟨w.heap.size + 1, 11, none⟩) hle (.int .i64 (V 11)))
      clear hbf hle
      go_wp2
      obtain ⟨W6, hW6⟩ : ∃ W6, ((((((((((((w5.setCell ⟨w.heap.size + 1, 0, none⟩ (.int .i64 (V 0))).setCell ⟨w.heap.size + 1, 1, none⟩ (.int .i64 (V 1))).setCell ⟨w.heap.size + 1, 2, none⟩ (.int .i64 (V 2))).setCell ⟨w.heap.size + 1, 3, none⟩ (.int .i64 (V 3))).setCell ⟨w.heap.size + 1, 4, none⟩ (.int .i64 (V 4))).setCell ⟨w.heap.size + 1, 5, none⟩ (.int .i64 (V 5))).setCell ⟨w.heap.size + 1, 6, none⟩ (.int .i64 (V 6))).setCell ⟨w.heap.size + 1, 7, none⟩ (.int .i64 (V 7))).setCell ⟨w.heap.size + 1, 8, none⟩ (.int .i64 (V 8))).setCell ⟨w.heap.size + 1, 9, none⟩ (.int .i64 (V 9))).setCell ⟨w.heap.size + 1, 10, none⟩ (.int .i64 (V 10))).setCell ⟨w.heap.size + 1, 11, none⟩ (.int .i64 (V 11))) = W6 := ⟨_, rfl⟩
      have r0 : W6.cell? ⟨w.heap.size + 1, 0, none⟩ = some (.int .i64 (V 0)) := by rw [← hW6]; clear hW6; go_simp
      have r1 : W6.cell? ⟨w.heap.size + 1, 1, none⟩ = some (.int .i64 (V 1)) := by rw [← hW6]; clear hW6; go_simp
      have r2 : W6.cell? ⟨w.heap.size + 1, 2, none⟩ = some (.int .i64 (V 2)) := by rw [← hW6]; clear hW6; go_simp
      have r3 : W6.cell? ⟨w.heap.size + 1, 3, none⟩ = some (.int .i64 (V 3)) := by rw [← hW6]; clear hW6; go_simp
      have r4 : W6.cell? ⟨w.heap.size + 1, 4, none⟩ = some (.int .i64 (V 4)) := by rw [← hW6]; clear hW6; go_simp
      have r5 : W6.cell? ⟨w.heap.size + 1, 5, none⟩ = some (.int .i64 (V 5)) := by rw [← hW6]; clear hW6; go_simp
      have r6 : W6.cell? ⟨w.heap.size + 1, 6, none⟩ = some (.int .i64 (V 6)) := by rw [← hW6]; clear hW6; go_simp
      have r7 : W6.cell? ⟨w.heap.size + 1, 7, none⟩ = some (.int .i64 (V 7)) := by rw [← hW6]; clear hW6; go_simp
      have r8 : W6.cell? ⟨w.heap.size + 1, 8, none⟩ = some (.int .i64 (V 8)) := by rw [← hW6]; clear hW6; go_simp
      have r9 : W6.cell? ⟨w.heap.size + 1, 9, none⟩ = some (.int .i64 (V 9)) := by rw [← hW6]; clear hW6; go_simp
      have r10 : W6.cell? ⟨w.heap.size + 1, 10, none⟩ = some (.int .i64 (V 10)) := by rw [← hW6]; clear hW6; go_simp
      have r11 : W6.cell? ⟨w.heap.size + 1, 11, none⟩ = some (.int .i64 (V 11)) := by rw [← hW6]; clear hW6; go_simp
      rw [hW6] at HBf ⊢
      clear hW6
      refine bodyPost_ret (v := .tuple #[.agg #[.int .i64 (V 0), .int .i64 (V 1), .int .i64 (V 2), .int .i64 (V 3), .int .i64 (V 4), .int .i64 (V 5), .int .i64 (V 6), .int .i64 (V 7), .int .i64 (V 8), .int .i64 (V 9), .int .i64 (V 10), .int .i64 (V 11)], .int .i64 r]) (by simp [results, Try.results39, go_sem, r0, r1, r2, r3, r4, r5, r6, r7, r8, r9, r10, r11]) rfl ?_
      exact ⟨V, r, rfl, HR.out, HRv.out, HBf.out⟩
end Go.Proofs.Ytooknldfkcdneaa
