/- Contract of the model's BlockingClause (no claim of its own). Conditions: as each theorem states. -/
import Derived.Test.YtfkgcniphgigeaaBlkM
import Derived.Test.YtfkgcniphgigeaaBoolA
import Derived.Deep.AppendLies
namespace Go.Proofs.Ytfkgcniphgigeaa
open Go.ChangeShapes Go.WideShapes Go.ChangeAt Go.RowKit

set_option maxRecDepth 100000 in
set_option maxHeartbeats 3200000 in
theorem specBlock_any (A : Option Addr) (n cap : Nat) (v : Nat → Bool) (w : World) (hn : n ≤ 1048576) (hr : RdB w w.heap.size A n v) :
    Calls Try.prog 5 #[.slice A n cap] w (CRes w (bcN n v) one1 (rL (clF 12 (blkL v))) (bcD n v) (bcB n v)) := by
  by_cases h12 : n = 12
  · subst h12
    go_enter Try.func5, Try.ntmps5
    go_wp2
    obtain ⟨j0, hi, hz0, hz1, hz2⟩ := info_parts Try.infoTerm
    have Hi := Lib.hid hi
    have Hz0 := Lib.hid hz0
    have Hz1 := Lib.hid hz1
    have Hz2 := Lib.hid hz2
    clear hi hz0 hz1 hz2
    have hX : bcN 12 v = (clF 12 (blkL v)).length ∧ bcD 12 v = 1 ∧ bcB 12 v = true := ⟨(blk_len v (Nat.le_refl 12)).symm, rfl, rfl⟩
    have HX := Lib.hid hX
    clear hX
    have r0 : ((w.alloc (.cells #[.slice none 0 0, .int .i64 0] 25)).alloc (.cells #[.slice none 0 0, .int .i64 1] 25)).cell? ⟨w.heap.size, 0, none⟩ = some (.slice none 0 0) := by go_simp
    have r1 : ((w.alloc (.cells #[.slice none 0 0, .int .i64 0] 25)).alloc (.cells #[.slice none 0 0, .int .i64 1] 25)).cell? ⟨w.heap.size, 1, none⟩ = some (.int .i64 0) := by go_simp
    have f0 : ((w.alloc (.cells #[.slice none 0 0, .int .i64 0] 25)).alloc (.cells #[.slice none 0 0, .int .i64 1] 25)).frozen? ⟨w.heap.size, 0, none⟩ = false := by go_simp
    have f1 : ((w.alloc (.cells #[.slice none 0 0, .int .i64 0] 25)).alloc (.cells #[.slice none 0 0, .int .i64 1] 25)).frozen? ⟨w.heap.size, 1, none⟩ = false := by go_simp
    have hb0 : Below w.heap.size w ((w.alloc (.cells #[.slice none 0 0, .int .i64 0] 25)).alloc (.cells #[.slice none 0 0, .int .i64 1] 25)) := bl_alloc (bl_alloc (Below.refl _ _) _) _
    have hd0 : DsjLoop (w.heap.size + 1) ((w.alloc (.cells #[.slice none 0 0, .int .i64 0] 25)).alloc (.cells #[.slice none 0 0, .int .i64 1] 25)) (clR (seenA (blkL v) 12) 0) ((w.alloc (.cells #[.slice none 0 0, .int .i64 0] 25)).alloc (.cells #[.slice none 0 0, .int .i64 1] 25)) := ⟨_, by go_simp, by go_simp, by go_simp, by go_simp, World.ownsRow_nil _ _ _ _, Below.refl _ _⟩
    generalize ((w.alloc (.cells #[.slice none 0 0, .int .i64 0] 25)).alloc (.cells #[.slice none 0 0, .int .i64 1] 25)) = W0 at *
    have R0 := Lib.hid r0
    have R1 := Lib.hid r1
    have F0 := Lib.hid f0
    have F1 := Lib.hid f1
    have HB0 := Lib.hid hb0
    clear r0 r1 f0 f1 hb0
    go_loopw [5, 6] (fun i _ wx => ∃ j : Nat, j ≤ 12 ∧ i = .int .i64 j ∧ DsjLoop (w.heap.size + 1) W0 (clR (seenA (blkL v) 12) j) wx) (fun i _ _ => 12 - (iOf i).toNat)
    case atStart => exact ⟨0, Nat.zero_le _, rfl, hd0⟩
    case round =>
      obtain ⟨j, hj, rfl, ov, old⟩ := hrel
      have Old := Lib.hid old
      have hbw := old.bel
      by_cases hlt : j < 12
      · obtain ⟨b, off, rfl, hbl, hc⟩ := hr (by omega)
        have hc1 := (hbw.cell (p := ⟨b, off + j, none⟩) (by show b < w.heap.size + 1; omega)).trans ((HB0.out.cell (p := ⟨b, off + j, none⟩) hbl).trans (hc j hlt))
        obtain ⟨o0, o1, g0, g1, hown, hb⟩ := old
        have hOl : w.heap.size + 1 < wr.heap.size := World.block_lt_of_cell? wr ⟨w.heap.size + 1, 0, none⟩ o0
        have hzb : b < wr.heap.size := by omega
        have hltI : (j : Int) < 12 := by omega
        have hj0 : (0 : Int) ≤ (j : Int) := by omega
        have hRl := blk_len v (k := j) (by omega)
        have HRl := Lib.hid hRl
        have Hrow := Lib.hid (blk_row v hlt)
        clear hc hb o1 g1 hRl hr
        cases hv : v j with
        | true =>
          rw [hv] at hc1
          obtain ⟨z, hz⟩ : ∃ z : Int, -((j : Int) + 1) = z := ⟨_, rfl⟩
          have hw1 : wrap64 (-((j : Int) + 1)) = z := by rw [← hz]; exact IntWalk.i64_left _ ▸ IntWalk.i64_in _ (by omega)
          have hw2 : IntKind.i64.wrap (-((j : Int) + 1)) = z := by rw [← hz]; exact IntWalk.i64_in _ (by omega)
          have HXX := Lib.hid (show z = blkL v j from by unfold blkL; rw [hv, ← hz]; rfl)
          clear hz
          go_upto_region 10 with fail
          clear hw1 hw2
          have hbX : Below wr.heap.size wr (wr.alloc (.cells #[.int .i64 1, .int .i64 z] 40)) := (bl_alloc (Below.refl _ _) _)
          have HbX := Lib.hid (bl_alloc hbX (.cells #[.int .i64 1, .int .i64 z] 40))
          have hsz : (wr.alloc (.cells #[.int .i64 1, .int .i64 z] 40)).heap.size = wr.heap.size + 1 := by simp
          have HrowA := Lib.hid ((row_sameD hown (fun g e => by
            obtain ⟨o, h1, _⟩ := row_at hown e
            exact hbX.block g (Array.getElem?_eq_some_iff.1 h1).1)).alloc (.cells #[.int .i64 1, .int .i64 z] 40))
          have hne := heap_alloc_new (wr.alloc (.cells #[.int .i64 1, .int .i64 z] 40)) (.cells #[.int .i64 1, .int .i64 z] 40)
          rw [hsz] at hne
          have News := Lib.hid (World.news_of_block (w := (wr.alloc (.cells #[.int .i64 1, .int .i64 z] 40)).alloc (.cells #[.int .i64 1, .int .i64 z] 40)) (B := wr.heap.size + 1) (cs := #[.int .i64 1, .int .i64 z]) (t := 40) (fr := (0, 0)) hne)
          have Hsz := Lib.hid hsz
          clear hown hbX hne hsz hbw
          go_wp2_with (at_builtin; refine wpList_plain (by rfl) fun K' hK' => ?_; refine wp_append_lies _ _ _ _ (by rfl) (w.heap.size + 1 + 1) 40 j0 _ 2 16 Try.underlying23 Hi.out Hz0.out Hz1.out Hz2.out rfl (by omega) ov (clR (seenA (blkL v) 12) j).length _ (by rfl) HrowA.out ⟨wr.heap.size + 1, 0, none⟩ 1 1 [.int .i64 1, .int .i64 z] (by rfl) (by rfl) (News.out) (by simp [Value.oneCell']) (by omega) (by rw [HRl.out]; unfold maxLen; omega) (by rw [HRl.out]; omega) (by rw [World.size_alloc, Hsz.out]; omega) (wr.heap.size + 1 + 1) (by rw [World.size_alloc, Hsz.out]) ?_; intro gg cap1 w4 hown3 hgrow hat3 hlt3; have t0 := dsj_t0 Old.out HbX.out hgrow; have u0 := dsj_u0 Old.out HbX.out hgrow; refine hK' _ _ ?_; clear hK' K')
          go_roundw
          case rel =>
            refine ⟨j + 1, by omega, by go_num, ?_⟩
            rw [Hrow.out, ← HXX.out]
            exact dsj_step Old.out HbX.out hown3 hgrow
          case measure => simp [iOf]; omega
        | false =>
          rw [hv] at hc1
          have HXX := Lib.hid (show (j : Int) + 1 = blkL v j from by unfold blkL; rw [hv]; rfl)
          have hbX : Below wr.heap.size wr (wr.alloc (.cells #[.int .i64 1, .int .i64 ((j : Int) + 1)] 40)) := (bl_alloc (Below.refl _ _) _)
          have HbX := Lib.hid (bl_alloc hbX (.cells #[.int .i64 1, .int .i64 ((j : Int) + 1)] 40))
          have hsz : (wr.alloc (.cells #[.int .i64 1, .int .i64 ((j : Int) + 1)] 40)).heap.size = wr.heap.size + 1 := by simp
          have HrowA := Lib.hid ((row_sameD hown (fun g e => by
            obtain ⟨o, h1, _⟩ := row_at hown e
            exact hbX.block g (Array.getElem?_eq_some_iff.1 h1).1)).alloc (.cells #[.int .i64 1, .int .i64 ((j : Int) + 1)] 40))
          have hne := heap_alloc_new (wr.alloc (.cells #[.int .i64 1, .int .i64 ((j : Int) + 1)] 40)) (.cells #[.int .i64 1, .int .i64 ((j : Int) + 1)] 40)
          rw [hsz] at hne
          have News := Lib.hid (World.news_of_block (w := (wr.alloc (.cells #[.int .i64 1, .int .i64 ((j : Int) + 1)] 40)).alloc (.cells #[.int .i64 1, .int .i64 ((j : Int) + 1)] 40)) (B := wr.heap.size + 1) (cs := #[.int .i64 1, .int .i64 ((j : Int) + 1)]) (t := 40) (fr := (0, 0)) hne)
          have Hsz := Lib.hid hsz
          clear hown hbX hne hsz hbw
          go_wp2_with (at_builtin; refine wpList_plain (by rfl) fun K' hK' => ?_; refine wp_append_lies _ _ _ _ (by rfl) (w.heap.size + 1 + 1) 40 j0 _ 2 16 Try.underlying23 Hi.out Hz0.out Hz1.out Hz2.out rfl (by omega) ov (clR (seenA (blkL v) 12) j).length _ (by rfl) HrowA.out ⟨wr.heap.size + 1, 0, none⟩ 1 1 [.int .i64 1, .int .i64 ((j : Int) + 1)] (by rfl) (by rfl) (News.out) (by simp [Value.oneCell']) (by omega) (by rw [HRl.out]; unfold maxLen; omega) (by rw [HRl.out]; omega) (by rw [World.size_alloc, Hsz.out]; omega) (wr.heap.size + 1 + 1) (by rw [World.size_alloc, Hsz.out]) ?_; intro gg cap1 w4 hown3 hgrow hat3 hlt3; have t0 := dsj_t0 Old.out HbX.out hgrow; have u0 := dsj_u0 Old.out HbX.out hgrow; refine hK' _ _ ?_; clear hK' K')
          go_roundw
          case rel =>
            refine ⟨j + 1, by omega, by go_num, ?_⟩
            rw [Hrow.out, ← HXX.out]
            exact dsj_step Old.out HbX.out hown3 hgrow
          case measure => simp [iOf]; omega
      · have e : j = 12 := by omega
        subst e
        obtain ⟨A', cap', rfl, hF⟩ := frs_of_row (by have h := old.own; rw [show clR (seenA (blkL v) 12) 12 = clF 12 (blkL v) from rfl, clF_flat] at h; exact h)
        obtain ⟨o0, o1, g0, g1, -, hb⟩ := old
        have r0 := (hb.cell (p := ⟨w.heap.size, 0, none⟩) (Nat.lt_succ_self _)).trans R0.out
        have r1 := (hb.cell (p := ⟨w.heap.size, 1, none⟩) (Nat.lt_succ_self _)).trans R1.out
        have f0 := (hb.frozen (p := ⟨w.heap.size, 0, none⟩) (Nat.lt_succ_self _)).trans F0.out
        have f1 := (hb.frozen (p := ⟨w.heap.size, 1, none⟩) (Nat.lt_succ_self _)).trans F1.out
        have HF := Lib.hid hF
        have HB2 := Lib.hid (HB0.out.trans (hb.mono (Nat.le_succ _)))
        clear hF hb HB0 R0 R1 F0 F1 hbw Old hr
        go_wp2
        refine bodyPost_ret (v := .tuple #[.agg #[.slice A' (clF 12 (blkL v)).length cap', .int .i64 1], .bool true]) (by simp [results, Try.results5, go_sem, r0, r1]) rfl ?_
        obtain ⟨x1, x2, x3⟩ := HX.out
        rw [x1, x2, x3]
        exact ⟨_, _, rfl, ((HF.out.far' (p := ⟨w.heap.size, 0, none⟩) rfl (by show w.heap.size < w.heap.size + 1 + 1; omega) _).far' (p := ⟨w.heap.size, 1, none⟩) rfl (by show w.heap.size < w.heap.size + 1 + 1; omega) _).more (by omega), (HB2.out.setCell (p := ⟨w.heap.size, 0, none⟩) (Nat.le_refl _) _).setCell (p := ⟨w.heap.size, 1, none⟩) (Nat.le_refl _) _⟩
  · have hni : ¬ (n : Int) = 12 := by omega
    have hX : bcN n v = 0 ∧ bcD n v = 0 ∧ bcB n v = false := ⟨if_neg h12, if_neg h12, by simp [bcB, h12]⟩
    rw [hX.1, hX.2.1, hX.2.2]
    clear hX hr
    go_enter Try.func5, Try.ntmps5
    go_wp2
    refine bodyPost_ret (v := .tuple #[.agg #[.slice none 0 0, .int .i64 0], .bool false]) (by simp [results, Try.results5, go_sem]) rfl ?_
    exact ⟨none, 0, rfl, .inl rfl, by repeat (first | exact Below.refl _ _ | refine bl_alloc ?_ _ | refine Below.setCell ?_ (by simp) _)⟩
end Go.Proofs.Ytfkgcniphgigeaa
