/- try -/
import Derived.Test.YtooknldfkcdneaaPsQ
import Derived.Test.YtooknldfkcdneaaChnA
import Derived.Test.YtooknldfkcdneaaImpB
import Derived.Conc.SmallLaws
import Derived.Deep.RegionHeld3
import Derived.Deep.MidRow
namespace Go.Proofs.Ytooknldfkcdneaa
open Go.Conc Go.ChangeShapes Go.WideShapes Go.ChangeAt Go.RowKit Go.Shelf

theorem mkChan (w : World) (m : Nat) (hm : m ≤ 1400) : (Instr.makeChan 125 (.int .i64 m)).run Try.prog w = .ok (.chan (some w.heap.size)) (w.alloc (.chan m #[] false 0 0 false)) := by
  obtain ⟨i, hi, _, _, hb⟩ := info_parts Try.infoInt
  exact run_makeChan (P := Try.prog) (w := w) Try.underlying125 hi .i64 m (by omega) (by rw [hb]; omega)

set_option maxRecDepth 100000 in
set_option maxHeartbeats 3200000 in
theorem psRun_any (S B lo m : Nat) (lv : Value) (p : Nat → Con) (uv : Nat → Value) (v : Nat → Int) (w : World) (hm : m ≤ 1400) (hok : ∀ i, i < m → okC (p i) ∧ (p i).n ≤ 1048576) (hrn : rng v)
    (hPs : PsAt w S B v m (fun i => slkC (p i) v)) (hPg : Pg w lo B lv m m p (fun i => slkC (p i) z0) (usP p m) uv) (hB : B < S) (hl : ∀ b, lv.ownBlock = some b → b < S) (hu : ∀ j, j < 25 → ∀ b, (uv j).ownBlock = some b → b < S) :
    Calls Try.prog 73 #[.pointer (some ⟨S, 0, none⟩)] w fun e w' => ∃ V r, e = .returned (.int .i64 r) ∧ Runs p m 0 v V r ∧ rng V ∧ PsAt w' S B V m (fun i => slkC (p i) V) ∧ w.grownBy w' (some S) := by
  have hSw := hPs.lt
  have HPs := Lib.hid hPs
  have HOth := Lib.hid (fun (w' : World) (hg : w.grownBy w' (some S)) => hPg.other hg hB hl hu)
  have HOk := Lib.hid hok
  have HRn := Lib.hid hrn
  have HGo := Lib.hid (fun (v1 : Nat → Int) (z : Int) (w1 : World) (h1 : PsAt w1 S B v1 m (fun i => slkC (p i) v1)) (h2 : w.grownBy w1 (some S)) (hz : litB z = true) (h0 : stV v1 z = 0) => psGo_any S B lo m lv p uv v1 z w1 hm hok h1 (hPg.other h2 hB hl hu) hB hl hu hz h0)
  have hcp := hPs.cellP
  have hcl := hPg.cel.cellL
  obtain ⟨xs, hx, _⟩ := hPg.lst
  obtain ⟨Al, capl, hle⟩ := row_slice hx
  subst hle
  have hmk := fun W => mkChan W m hm
  have HX := Lib.hid hx
  clear hx hPs hPg hok hrn hB hl hu
  refine calls_of_wpN Try.func73 rfl ?_
  simp only [Try.ntmps73, List.size_toArray, List.length_cons, List.length_nil, Nat.reduceAdd, Nat.reduceSub, Array.replicate_succ, Array.replicate_zero, List.push_toArray, List.append_toArray, List.nil_append, List.cons_append]
  refine WpN.seqK fun K hK => ?_
  go_wp2
  refine WpN.seqK fun K2 hK2 => ?_
  go_wp2
  refine WpN.seqK fun K3 hK3 => ?_
  go_wp2
  refine WpN.seqN fun K4 hK4 => ?_
  refine WpN.seqK fun K5 hK5 => ?_
  go_wp2
  refine WpN.block ?_
  generalize hQ4 : Exit.inBlock 0 (Exit.then K4 _) = Q4
  obtain ⟨C, hC⟩ : ∃ C, w.heap.size = C := ⟨_, rfl⟩
  have hstart : (w.alloc (.chan m #[] false 0 0 false)).heap[C]? = some (.chan m (qu 0) false 0 0 false) := by rw [← hC]; exact heap_alloc_new w _
  have hbst : Below C w (w.alloc (.chan m #[] false 0 0 false)) := by rw [← hC]; exact bl_alloc (Below.refl _ _) _
  rw [hC]
  refine WpN.loopS [5, 21, 22, 23, 24, 25, 26] (fun n f wx => ∃ i : Nat, n = m - i ∧ i ≤ m ∧ f 21 = .int .i64 i ∧ Below C w wx ∧ ∃ s, wx.heap[C]? = some (.chan m (qu i) false s 0 false)) (m0 := m) ⟨0, by omega, by omega, rfl, hbst, 0, hstart⟩ (by rfl) ?_
  rintro n f wx ⟨i, hn, hi, hf, hb, sc, hch⟩
  simp only [putS, List.foldl_cons, List.foldl_nil, List.setIfInBounds_toArray, List.set_cons_succ, List.set_cons_zero, hf]
  generalize hQR : Exit.then _ Q4 = QR
  by_cases hlt : i < m
  · have hltI : (i : Int) < (m : Int) := by omega
    refine WpN.seqK fun K6 hK6 => ?_
    go_wp2
    refine WpN.seqK fun K7 hK7 => ?_
    go_wp2
    refine WpN.seqN fun K8 hK8 => ?_
    refine WpN.block ?_
    generalize hQ9 : Exit.inBlock 1 (Exit.then K8 _) = Q9
    refine WpN.seqK fun K10 hK10 => ?_
    go_wp2
    refine WpN.region ?_
    refine (show OpsN _ _ _ [0, 1, 2] _ _ from ?_)
    refine OpsN.value rfl (by rfl) (by go_simp; exact ⟨rfl, rfl⟩) ?_
    refine OpsN.value rfl (by rfl) (by go_simp; exact ⟨rfl, rfl⟩) ?_
    refine OpsN.send (c := C) (v := .int .i64 (i : Nat)) (z := .tuple #[]) rfl (by rfl) (by simp [execOp, scase]; exact ⟨rfl, rfl⟩) hch (by rw [qu_size]; exact hlt) ?_
    refine OpsN.nil ?_
    rw [← hQ9]
    refine (show K8 _ _ from ?_)
    refine hK8 _ _ ?_
    clear hQ9 hK8 K8
    simp only [Act.put, List.setIfInBounds_toArray, qu_push]
    have hb2 := below_setChan hb (Nat.le_refl C) m (qu (i + 1)) false (sc + 1) 0 false
    have hch2 := heap_setChan wx C m (qu (i + 1)) false (sc + 1) 0 false (by
      rcases Nat.lt_or_ge C wx.heap.size with hlt | hge
      · exact hlt
      · rw [Array.getElem?_eq_none hge] at hch; cases hch)
    generalize wx.setChan C m (qu (i + 1)) false (sc + 1) 0 false = wy at *
    refine WpN.of ?_
    go_wp2
    rw [← hQR]
    refine (show ∃ m', _ from ⟨m - (i + 1), by omega, by rfl, i + 1, rfl, by omega, by simp, hb2, _, hch2⟩)
  · have e : m = i := by omega
    subst e
    refine WpN.seqK fun K6 hK6 => ?_
    go_wp2
    refine WpN.seqK fun K7 hK7 => ?_
    go_wp2
    rw [← hQR, ← hQ4]
    refine (show K4 _ _ from ?_)
    refine hK4 _ _ ?_
    clear hQR hQ4 hK4 K4 hstart hbst
    have HQ0 := Lib.hid (show QI w S B C m p v wx 0 0 v (rot m 0) from ⟨by omega, Nat.zero_le _, HRn.out, ⟨sc, 0, by rw [← rot_qu]; exact hch⟩, HPs.out.same (hb.block S (by omega)), ⟨hb.os, hb.tape, hb.output, by have := hb.size; omega, fun k hk _ => hb.block k (by omega)⟩, fun j hj hd => by unfold dis at hd; split at hd <;> omega, fun _ _ h => h⟩)
    clear hch hb hf
    refine WpN.seqN fun K8 hK8 => ?_
    refine WpN.seqK fun K9 hK9 => ?_
    go_wp2
    refine WpN.block ?_
    generalize hQ8 : Exit.inBlock 2 (Exit.then K8 _) = Q8
    refine WpN.loopS [6, 7, 9, 27, 28, 29, 30, 31, 32, 33, 34, 35, 36, 37, 38, 39, 40, 41, 42, 43, 44, 45, 46, 47, 48, 49, 50, 51, 52, 53, 54, 55, 56, 57, 58, 59, 60, 61, 62, 63, 64, 65, 66, 67, 68, 69, 70, 71, 72, 73] (fun n f wx => ∃ st i v', n = una v' 12 * (m + 1) + (m - st) ∧ f 6 = .int .i64 (st : Nat) ∧ QI w S B C m p v wx st i v' (rot m i)) (m0 := una v 12 * (m + 1) + m) ⟨0, 0, v, by simp, by simp, HQ0.out⟩ (putS_self _ _) ?_
    rintro n f wx ⟨st, i, v', hn, hf, hq⟩
    have HQ := Lib.hid hq
    clear hq HQ0
    simp only [putS, List.foldl_cons, List.foldl_nil, List.setIfInBounds_toArray, List.set_cons_succ, List.set_cons_zero, hf]
    generalize hQR : Exit.then _ Q8 = QR
    by_cases hst : st < m
    · have hstI : (st : Int) < (m : Int) := by omega
      have him : i < m := by rcases HQ.out.im with h | h <;> omega
      refine WpN.seqK fun K10 hK10 => ?_
      go_wp2
      refine WpN.seqN fun K11 hK11 => ?_
      refine WpN.block ?_
      generalize hQ11 : Exit.inBlock 3 (Exit.then K11 _) = Q11
      refine WpN.seqN fun K12 hK12 => ?_
      refine WpN.region ?_
      refine (show OpsN _ _ _ [0, 1, 2] _ _ from ?_)
      obtain ⟨sc1, rc1, hch⟩ := HQ.out.ch
      refine OpsN.value rfl (by rfl) (by go_simp; exact ⟨rfl, rfl⟩) ?_
      refine OpsN.recv (c := C) (z := .int .i64 0) rfl (by rfl) (by simp [execOp, rcase]; first | rfl | exact ⟨rfl, rfl⟩) hch (by rw [rot_size]; omega) ?_
      rw [rot_head him]
      refine OpsN.value rfl (by rfl) (by go_simp; exact ⟨rfl, rfl⟩) ?_
      refine OpsN.nil ?_
      refine (show K12 _ _ from ?_)
      refine hK12 _ _ ?_
      clear hK12 K12
      simp only [Act.put, List.setIfInBounds_toArray]
      have HQ1 := Lib.hid (HQ.out.chan (by omega) hSw ((rot m i).extract 1 (rot m i).size) sc1 (rc1 + 1))
      clear hch
      generalize wx.setChan C m ((rot m i).extract 1 (rot m i).size) false sc1 (rc1 + 1) false = W1 at *
      have hp0 := HQ1.out.ps.cellP
      have hs0 := HQ1.out.ps.cellS him
      have hiI : (i : Int) < 1400 := by omega
      have hi0 : (0 : Int) ≤ (i : Int) := by omega
      by_cases hs : slkC (p i) v' < 0
      · have HR := Lib.hid (HQ1.out.vio him hs)
        refine WpN.seqK fun K13 hK13 => ?_
        go_wp2
        rw [← hQ11, ← hQR, ← hQ8]
        exact ⟨rfl, .int .i64 (i : Nat), by first | rfl | simp [results], v', i, rfl, HR.out, HQ1.out.rn, HQ1.out.ps, HQ1.out.gr⟩
      · obtain ⟨hoi, hni⟩ := HOk.out i him
        have Hoi := Lib.hid hoi
        obtain ⟨ys, hy, hcr⟩ := (HOth.out _ HQ1.out.gr).lst
        obtain ⟨Ai, ci, e0, e1, hrd⟩ := hcr i him
        obtain ⟨g, e, hgc⟩ := row_cells hy him
        subst e
        have c0 := hgc (i * 2) _ (by omega) e0
        have c1 := hgc (i * 2 + 1) _ (by omega) e1
        have hb0 := (HOth.out _ HQ1.out.gr).cel.cellL
        have HRd := Lib.hid (hrd.more (HOth.out _ HQ1.out.gr).loB)
        have s12 : W1.rangeAt S 1 (cl12 v') := fun j u hu => by
          obtain ⟨hj, rfl⟩ := cl12_at v' j u hu
          exact HQ1.out.ps.cellV hj
        have hu12 := Try.underlying64
        have hsz12 : (Try.prog.info? 64).map (·.size) = some (cl12 v').length := by kernel_rfl
        obtain ⟨L, hL⟩ : ∃ L, imL (p i).c (p i).l v' (slkC (p i) v') (p i).n = L := ⟨_, rfl⟩
        have HL := Lib.hid (show impC (p i) v' = L from hL)
        have HFr := Lib.hid (show frL v' L from hL ▸ imp_fr hoi v')
        have hlb : L.length ≤ 1048576 := by rw [← hL]; exact Nat.le_trans (imL_le _) hni
        have HI := Lib.hid (fun (wq : World) (hb : Below W1.heap.size W1 wq) => show Calls Try.prog 93 #[.agg #[.slice Ai (p i).n ci, .int .i64 (p i).bd], .int .i64 (slkC (p i) v'), arrV v'] wq (LRes wq L) from hL ▸ impliedBy_any Ai (p i).n ci (p i).bd (slkC (p i) v') (p i).c (p i).l v' wq hni (HRd.out.later hb) hoi HQ1.out.rn)
        have hSW : S < W1.heap.size := HQ1.out.ps.lt
        clear hL hoi hy hcr hrd hgc e0 e1 HRd
        refine WpN.seqK fun K13 hK13 => ?_
        go_wp2
        refine WpN.seqN fun K14 hK14 => ?_
        generalize hQ14 : Exit.then K14 _ = Q14
        refine WpN.of ?_
        go_wp2_with fail
        go_region_held3 (fun w' => w'.cell? ⟨S, 0, none⟩ = some (.pointer (some ⟨B, 0, none⟩)) ∧ w'.cell? ⟨B, 0, none⟩ = some (.slice (some ⟨g, 0, none⟩) m capl) ∧ w'.cell? ⟨g, i * 2, none⟩ = some (.slice Ai (p i).n ci) ∧ w'.cell? ⟨g, i * 2 + 1, none⟩ = some (.int .i64 (p i).bd) ∧ w'.cell? ⟨S, 13 + i, none⟩ = some (.int .i64 (slkC (p i) v')) ∧ w'.rangeAt S 1 (cl12 v')) (go_keep)
          (first | (go_at_call 93; refine (HI.out _ ((Below.refl W1.heap.size W1).drew)).mono ?_; rintro e w2 ⟨A', cap', rfl, hF, hb⟩; have HB2 := Lib.hid (bl_trans ((Below.refl W1.heap.size W1).drew) hb); have HF := Lib.hid (hF.more (B' := W1.heap.size) (Nat.le_refl _)); replace hp0 := kc hb hp0; replace hb0 := kc hb hb0; replace c0 := kc hb c0; replace c1 := kc hb c1; replace hs0 := kc hb hs0; replace s12 := range_kc hb s12; clear hb hF))
        have HQ2 := Lib.hid (HQ1.out.below HB2.out)
        clear hp0 hb0 c0 c1 hs0 s12 HB2 HI hu12 hsz12
        obtain ⟨ext, hext⟩ : ∃ ext, (rot m i).extract 1 (rot m i).size = ext := ⟨_, rfl⟩
        rw [hext] at HQ2
        have hes : ext.size < m := by rw [← hext]; simp [rot_size]; omega
        have hep : ext.push (.int .i64 (i : Nat)) = rot m (nxt m i) := by rw [← hext]; exact rot_next him
        clear hext HQ1
        go_wp2
        go_loopw [6, 64] (fun s6 t wz => ∃ kk : Nat, t = .int .i64 (kk : Nat) ∧ kk ≤ L.length ∧ s6 = .int .i64 ((if 0 < kk then 0 else st : Nat) : Int) ∧ PsAt wz S B (asgL v' (L.take kk)) m (fun j => slkC (p j) (asgL v' (L.take kk))) ∧ FrI wz W1.heap.size 3 A' L.length (gI L) ∧ w.grownBy wz (some S) ∧ ∃ s r, wz.heap[C]? = some (.chan m ext false s r false)) (fun _ t _ => L.length - (intOf t).toNat)
        case atStart => exact ⟨0, rfl, Nat.zero_le _, by simp, HQ2.out.ps, HF.out, HQ2.out.gr, HQ2.out.ch⟩
        case round =>
          obtain ⟨kk, rfl, hk, rfl, hps, hfi, hgr, hch⟩ := hrel
          have HP5 := Lib.hid hps
          have HF5 := Lib.hid hfi
          have HG5 := Lib.hid hgr
          have HC5 := Lib.hid hch
          clear hps hfi hgr hch
          by_cases hkl : kk < L.length
          · obtain ⟨b2, off2, e2, hbl2, hc⟩ := HF5.out.rdAt (by omega)
            subst e2
            have hc1 := hc kk hkl
            obtain ⟨hz, htk⟩ := frL_take HFr.out hkl
            have H0 := Lib.hid (frL_zero HFr.out hkl)
            have Hz := Lib.hid hz
            have HT := Lib.hid htk
            have hkI : (kk : Int) < (L.length : Int) := by omega
            have hk0 : (0 : Int) ≤ (kk : Int) := by omega
            clear hc hz htk
            go_wp2_with (go_at_call 72; refine (HGo.out _ _ _ HP5.out HG5.out Hz.out H0.out).mono ?_; rintro e w5 ⟨rfl, hp5, hg5⟩; have HP6 := Lib.hid (show PsAt w5 S B (asgL v' (L.take (kk + 1))) m (fun j => slkC (p j) (asgL v' (L.take (kk + 1)))) by rw [HT.out]; exact hp5); have HF6 := Lib.hid (fri_grown HF5.out hg5 hSW); have HG6 := Lib.hid (grown_trans HG5.out hg5); have HC6 := Lib.hid (show ∃ s r, w5.heap[C]? = some (.chan m ext false s r false) from HC5.out.elim fun s h => h.elim fun r h => ⟨s, r, heap_kept hg5 h (by omega)⟩); clear hp5 hg5 hc1)
            go_roundw
            case rel => exact ⟨kk + 1, by go_num, by omega, by simp, HP6.out, HF6.out, HG6.out, HC6.out⟩
            case measure => simp [intOf]; omega
          · have e : kk = L.length := by omega
            subst e
            have HP6 := Lib.hid (show PsAt wr S B (asgL v' L) m (fun j => slkC (p j) (asgL v' L)) by have := HP5.out; rwa [List.take_length] at this)
            have HN := Lib.hid (show ∀ (wy : World) (buf' : Array Value), PsAt wy S B (asgL v' L) m (fun j => slkC (p j) (asgL v' L)) → w.grownBy wy (some S) → (∃ s r, wy.heap[C]? = some (.chan m buf' false s r false)) → QI w S B C m p v wy ((if 0 < L.length then 0 else st) + 1) (nxt m i) (asgL v' L) buf' from by
              intro wy buf' a b c
              have := HQ2.out.next him hst (HOk.out i him).1 (by omega) (by rw [HL.out]; exact a) b c
              rwa [HL.out] at this)
            have HM := Lib.hid (q_less HFr.out hst)
            obtain ⟨q, hq⟩ : ∃ q, (if 0 < L.length then 0 else st) = q := ⟨_, rfl⟩
            have hq1 : q < m := by rw [← hq]; split <;> omega
            rw [hq] at HN HM ⊢
            have hqI : (q : Int) < 1400 := by omega
            have hq0 : (0 : Int) ≤ (q : Int) := by omega
            clear hq HP5 HFr HQ2 HL
            go_wp2
            rw [← hQ14]
            refine (show K14 _ _ from ?_)
            refine hK14 _ _ ?_
            clear hQ14 hK14 K14
            obtain ⟨s2, r2, hc2⟩ := HC5.out
            refine WpN.region ?_
            refine (show OpsN _ _ _ [0, 1, 2] _ _ from ?_)
            refine OpsN.value rfl (by rfl) (by go_simp; exact ⟨rfl, rfl⟩) ?_
            refine OpsN.value rfl (by rfl) (by go_simp; exact ⟨rfl, rfl⟩) ?_
            refine OpsN.send (c := C) (v := .int .i64 (i : Nat)) (z := .tuple #[]) rfl (by rfl) (by simp [execOp, scase]; exact ⟨rfl, rfl⟩) hc2 hes ?_
            refine OpsN.nil ?_
            rw [← hQ11]
            refine (show K11 _ _ from ?_)
            refine hK11 _ _ ?_
            clear hQ11 hK11 K11
            simp only [Act.put, List.setIfInBounds_toArray, hep]
            have HQ7 := Lib.hid ((HN.out wr ext HP6.out HG5.out HC5.out).chan (by omega) hSw (rot m (nxt m i)) (s2 + 1) r2)
            clear HP6 HG5 HC5 HF5 HN hc2
            generalize wr.setChan C m (rot m (nxt m i)) false (s2 + 1) r2 false = wy at *
            refine WpN.of ?_
            go_wp2
            rw [← hQR]
            refine (show ∃ m', _ from ⟨una (asgL v' L) 12 * (m + 1) + (m - (q + 1)), by rw [hn]; exact HM.out, by rfl, q + 1, nxt m i, asgL v' L, rfl, by simp, HQ7.out⟩)
    · have e : m = st := by have := HQ.out.sm; omega
      subst e
      have HR := Lib.hid HQ.out.fin
      refine WpN.seqK fun K10 hK10 => ?_
      go_wp2
      rw [← hQR, ← hQ8]
      refine (show K8 _ _ from ?_)
      refine hK8 _ _ ?_
      refine WpN.of ?_
      go_wp2
      exact ⟨rfl, .int .i64 (-1), by first | rfl | simp [results], v', -1, rfl, HR.out, HQ.out.rn, HQ.out.ps, HQ.out.gr⟩
end Go.Proofs.Ytooknldfkcdneaa
