/- Some cells of a model, drawn (no claim of its own). Conditions: as each theorem states. -/
import Derived.Test.YtafiikfaeomhpaaDmlB
namespace Go.Proofs.Ytafiikfaeomhpaa
open Go.ChangeShapes Go.WideShapes Go.ChangeAt Go.RowKit

theorem ts_head {w : World} {lo k s : Nat} {T : TypeId} {ov : Value} (h : TS w lo T s ov k) : ∃ A cap, ov = .slice A k cap := by
  obtain ⟨xs, h0, h1, h2⟩ := h
  rcases h0.2 with ⟨hov, hk⟩ | ⟨g, cap, cur, hov, _⟩
  · exact ⟨none, 0, by rw [hk]; exact hov⟩
  · exact ⟨_, cap, hov⟩
theorem ts_more {w : World} {lo lo' k s : Nat} {T : TypeId} {ov : Value} (h : TS w lo T s ov k) (h1 : lo' ≤ lo) : TS w lo' T s ov k := by
  obtain ⟨xs, h0, hl, h2⟩ := h
  exact ⟨xs, row_more h0 h1, hl, h2⟩
/-- An element of such a slice. -/
theorem ts_at {w : World} {lo k : Nat} {T : TypeId} {ov : Value} (h : TS w lo T 1 ov k) {j : Nat} (hj : j < k) : ∃ g cap z, ov = .slice (some ⟨g, 0, none⟩) k cap ∧ w.cell? ⟨g, j, none⟩ = some (.int .i64 z) := by
  obtain ⟨xs, h0, h1, h2⟩ := h
  rcases id h0.2 with ⟨_, hk⟩ | ⟨g, cap, cur, rfl, hg, hh, _⟩
  · omega
  · have hx : xs[j]? = some (xs[j]'(by omega)) := List.getElem?_eq_getElem (by omega)
    obtain ⟨z, hz⟩ := h2 _ (List.getElem_mem (by omega : j < xs.length))
    have := h0.cells rfl _ _ hx
    rw [Go.WideShapes.add_plain, Nat.zero_add, hz] at this
    exact ⟨g, cap, z, rfl, this⟩

set_option maxRecDepth 100000 in
set_option maxHeartbeats 3200000 in
theorem some_any (R K : Nat) (As Ar : Option Addr) (sn cs n cr least : Nat) (w : World) (hK : K ≤ 900000) (hl1 : 1 ≤ least) (hl : least ≤ 2) (hs : sn ≤ 20) (h : Rdr w R K) :
    Calls Try.prog 106 #[.pointer (some ⟨R, 0, none⟩), .agg #[.slice As sn cs, .slice Ar n cr], .int .i64 least] w fun e w' => ∃ V k, e = .returned V ∧ least ≤ k ∧ k ≤ 22 ∧ TS w' w.heap.size 3 1 V k ∧ Gr R w w' ∧ Rdr w' R (K + 21) := by
  have hRw := h.lt
  have HR := Lib.hid h
  clear h
  go_enter Try.func106, Try.ntmps106
  go_wp2
  have c0 : Cel ((w.alloc (.cells #[.slice As sn cs, .slice Ar n cr] 30)).alloc (.cells #[] 3)) w.heap.size 0 (.slice As sn cs) := ⟨by go_simp, by go_simp⟩
  have ts0 := ts_lit (w.alloc (.cells #[.slice As sn cs, .slice Ar n cr] 30)) 3 1
  have hb0 := bl_alloc (bl_alloc (Below.refl w.heap.size w) (.cells #[.slice As sn cs, .slice Ar n cr] 30)) (.cells #[] 3)
  have hz0 : (w.alloc (.cells #[.slice As sn cs, .slice Ar n cr] 30)).heap.size = w.heap.size + 1 := by simp
  rw [hz0] at ts0
  have C0 := Lib.hid c0
  have T0 := Lib.hid ts0
  have B0 := Lib.hid hb0
  clear c0 ts0 hb0 hz0
  generalize ((w.alloc (.cells #[.slice As sn cs, .slice Ar n cr] 30)).alloc (.cells #[] 3)) = w1 at *
  go_loopw [7, 8] (fun t i wr => ∃ j k : Nat, j ≤ sn ∧ k ≤ j ∧ i = .int .i64 j ∧ TS wr (w.heap.size + 1) 3 1 t k ∧ Cel wr w.heap.size 0 (.slice As sn cs) ∧ Gr R w wr ∧ Rdr wr R (K + j)) (fun _ i _ => sn - (intOf i).toNat)
  case atStart => exact ⟨0, 0, Nat.zero_le _, Nat.le_refl _, rfl, T0.out, C0.out, Gr.of B0.out, HR.out.bel B0.out⟩
  case round =>
    obtain ⟨j, k, hj, hk, rfl, hts, c0, hgr, hrd⟩ := hrel
    have TSk := Lib.hid hts
    have GR := Lib.hid hgr
    have RD := Lib.hid hrd
    have C1 := Lib.hid c0
    obtain ⟨c0a, c0b⟩ := c0
    clear hts hgr hrd
    by_cases hlt : j < sn
    · have hlt' : (j : Int) < (sn : Int) := by omega
      go_wp2_with fail
      refine (pick_any R (K + j) 3 _ (by omega) RD.out).mono ?_
      rintro e w2 ⟨x, rfl, hx0, hx1, hg, hr⟩
      have TS2 := Lib.hid (TSk.out.gr hg (by omega))
      have GR2 := Lib.hid (GR.out.trans hg)
      have RD2 := Lib.hid hr
      have C2 := Lib.hid (hg.cel C1.out (by omega))
      have hz2 : w.heap.size < w2.heap.size := World.block_lt_of_cell? w2 ⟨w.heap.size, 0, none⟩ C2.out.1
      clear hg hr c0a c0b TSk GR RD C1
      by_cases h0 : 0 < x
      · clear hx0 hx1
        have HAl := Lib.hid (bl_alloc (Below.refl w2.heap.size w2) (.cells #[.int .i64 j] 3))
        go_wp2_with (at_builtin; refine wpList_plain (by rfl) fun K' hK' => ?_; refine wp_ts1 _ _ 22 (by rfl) Try.underlying22 Try.infoInt (TS2.out.bel HAl.out) (by simp; omega) (by rfl) (by rfl) (heap_alloc_new _ _) (by omega) ?_; intro gg cap1 w3 hts3 hgr3; refine hK' _ _ ?_; clear hK' K')
        go_roundw
        case rel => exact ⟨j + 1, k + 1, by omega, by omega, by go_num, hts3, (C2.out.below HAl.out).grow hgr3 (fun b e => by have := TS2.out.lt2 b e; omega), (GR2.out.bel HAl.out).grow hgr3 (fun b e => by have := TS2.out.lt2 b e; omega), ((RD2.out.bel HAl.out).grow hgr3 (fun b e => by have := TS2.out.lt2 b e; omega)).more (by omega)⟩
        case measure => simp [intOf]; omega
      · go_wp2
        go_roundw
        case rel => exact ⟨j + 1, k, by omega, by omega, by go_num, TS2.out, C2.out, GR2.out, RD2.out.more (by omega)⟩
        case measure => simp [intOf]; omega
    · have e : j = sn := by omega
      subst e
      obtain ⟨A0, cap0, hv0⟩ := ts_head TSk.out
      subst hv0
      go_wp2
      have SZ := Lib.hid (show TS wr (w.heap.size + 1) 3 1 (.slice A0 k cap0) k ∧ Cel wr w.heap.size 0 (.slice As j cs) ∧ Gr R w wr ∧ Rdr wr R (K + j) from ⟨TSk.out, C1.out, GR.out, RD.out⟩)
      clear TSk C1 GR RD c0a c0b hlt C0 T0 B0 HR
      go_loopw [7, 9] (fun t i wr => ∃ v k : Nat, v ≤ j ∧ k ≤ 20 ∧ i = .int .i64 v ∧ TS wr (w.heap.size + 1) 3 1 t k ∧ Cel wr w.heap.size 0 (.slice As j cs) ∧ Gr R w wr ∧ Rdr wr R (K + j)) (fun _ i _ => j - (intOf i).toNat)
      case atStart => exact ⟨0, k, Nat.zero_le _, by omega, rfl, SZ.out⟩
      case round =>
        obtain ⟨v, k, hv, hk, rfl, hts, c0, hgr, hrd⟩ := hrel
        have TSk := Lib.hid hts
        have GR := Lib.hid hgr
        have RD := Lib.hid hrd
        have C1 := Lib.hid c0
        obtain ⟨c0a, c0b⟩ := c0
        obtain ⟨A1, cap1, rfl⟩ := ts_head hts
        clear hts hgr hrd SZ
        have hzr : w.heap.size < wr.heap.size := World.block_lt_of_cell? wr ⟨w.heap.size, 0, none⟩ c0a
        by_cases hkl : k < least
        · have hkl' : (k : Int) < (least : Int) := by omega
          by_cases hlt : v < j
          · have hlt' : (v : Int) < (j : Int) := by omega
            have HAl := Lib.hid (bl_alloc (Below.refl wr.heap.size wr) (.cells #[.int .i64 v] 3))
            by_cases hk0 : k = 0
            · subst hk0
              go_wp2_with (at_builtin; refine wpList_plain (by rfl) fun K' hK' => ?_; refine wp_ts1 _ _ 22 (by rfl) Try.underlying22 Try.infoInt (TSk.out.bel HAl.out) (by simp; omega) (by rfl) (by rfl) (heap_alloc_new _ _) (by omega) ?_; intro gg cap1 w3 hts3 hgr3; refine hK' _ _ ?_; clear hK' K')
              go_roundw
              case rel => exact ⟨v + 1, _, by omega, by omega, by go_num, hts3, (C1.out.below HAl.out).grow hgr3 (fun b e => by have := TSk.out.lt2 b e; omega), (GR.out.bel HAl.out).grow hgr3 (fun b e => by have := TSk.out.lt2 b e; omega), ((RD.out.bel HAl.out).grow hgr3 (fun b e => by have := TSk.out.lt2 b e; omega))⟩
              case measure => simp [intOf]; omega
            · obtain ⟨g, cp, z, e, cz⟩ := ts_at TSk.out (j := k - 1) (by omega)
              cases e
              have hkc : ((k - 1 : Nat) : Int) = (k : Int) - 1 := by omega
              have hk1 : (0 : Int) ≤ (k : Int) - 1 := by omega
              have hk2 : ((k : Int) - 1) < (k : Int) := by omega
              have hk3 : ¬ (k : Int) = 0 := by omega
              have hk4 : ((k : Int) - 1).toNat = k - 1 := by omega
              have hk3' : ((k : Int) == 0) = false := by rw [beq_eq_false_iff_ne]; exact hk3
              by_cases hz : z < (v : Int)
              · go_wp2_with (at_builtin; refine wpList_plain (by rfl) fun K' hK' => ?_; refine wp_ts1 _ _ 22 (by rfl) Try.underlying22 Try.infoInt (TSk.out.bel HAl.out) (by simp; omega) (by rfl) (by rfl) (heap_alloc_new _ _) (by omega) ?_; intro gg cap1 w3 hts3 hgr3; refine hK' _ _ ?_; clear hK' K')
                go_roundw
                case rel => exact ⟨v + 1, _, by omega, by omega, by go_num, hts3, (C1.out.below HAl.out).grow hgr3 (fun b e => by have := TSk.out.lt2 b e; omega), (GR.out.bel HAl.out).grow hgr3 (fun b e => by have := TSk.out.lt2 b e; omega), ((RD.out.bel HAl.out).grow hgr3 (fun b e => by have := TSk.out.lt2 b e; omega))⟩
                case measure => simp [intOf]; omega
              · go_wp2
                go_roundw
                case rel => exact ⟨v + 1, k, by omega, by omega, by go_num, TSk.out, C1.out, GR.out, RD.out⟩
                case measure => simp [intOf]; omega
          · obtain rfl : j = v := by omega
            go_wp2
            have TSz := Lib.hid (ts_lit wr 3 1)
            have GRz := Lib.hid (GR.out.bel (bl_alloc (Below.refl wr.heap.size wr) (.cells #[] 3)))
            have RDz := Lib.hid (RD.out.bel (bl_alloc (Below.refl wr.heap.size wr) (.cells #[] 3)))
            have hsz := GR.out.size
            clear TSk GR RD C1 c0a c0b
            go_loopw [7, 10] (fun t i wq => ∃ k : Nat, k ≤ least ∧ i = .int .i64 k ∧ TS wq (w.heap.size + 1) 3 1 t k ∧ Gr R w wq ∧ Rdr wq R (K + j)) (fun _ i _ => least - (intOf i).toNat)
            case atStart => exact ⟨0, Nat.zero_le _, rfl, ts_more TSz.out (by omega), GRz.out, RDz.out⟩
            case round =>
              obtain ⟨k, hk, rfl, hts, hgr, hrd⟩ := hrel
              have TSk := Lib.hid hts
              have GR := Lib.hid hgr
              have RD := Lib.hid hrd
              obtain ⟨A1, cap1, rfl⟩ := ts_head hts
              clear hts hgr hrd TSz GRz RDz
              by_cases hlk : k < least
              · have hlk' : (k : Int) < (least : Int) := by omega
                have HAl := Lib.hid (bl_alloc (Below.refl wr.heap.size wr) (.cells #[.int .i64 k] 3))
                have hszr := GR.out.size
                go_wp2_with (at_builtin; refine wpList_plain (by rfl) fun K' hK' => ?_; refine wp_ts1 _ _ 22 (by rfl) Try.underlying22 Try.infoInt (TSk.out.bel HAl.out) (by simp; omega) (by rfl) (by rfl) (heap_alloc_new _ _) (by omega) ?_; intro gg cap1 w3 hts3 hgr3; refine hK' _ _ ?_; clear hK' K')
                go_roundw
                case rel => exact ⟨k + 1, by omega, by go_num, hts3, (GR.out.bel HAl.out).grow hgr3 (fun b e => by have := TSk.out.lt2 b e; omega), ((RD.out.bel HAl.out).grow hgr3 (fun b e => by have := TSk.out.lt2 b e; omega))⟩
                case measure => simp [intOf]; omega
              · have e : k = least := by omega
                subst e
                have TSt := TSk
                have GRt := GR
                have RDt := RD
                clear TSk GR RD
                by_cases hk1 : 1 < k
                · have hk1' : (1 : Int) < (k : Int) := by omega
                  go_wp2_with fail
                  refine (pick_any R (K + j) 3 _ (by omega) RDt.out).mono ?_
                  rintro e w5 ⟨x, rfl, hx0, hx1, hg, hr⟩
                  have TS5 := Lib.hid (TSt.out.gr hg (by omega))
                  have GR5 := Lib.hid (GRt.out.trans hg)
                  have RD5 := Lib.hid (hr.more (show K + j + 1 ≤ K + 21 by omega))
                  obtain ⟨g, cp, z0, e0, cz0⟩ := ts_at TS5.out (j := 0) (by omega)
                  obtain ⟨g', cp', z1, e1, cz1⟩ := ts_at TS5.out (j := 1) (by omega)
                  cases e0
                  cases e1
                  obtain ⟨g2, cp2, e2, _, hg1, hg2, _, hfr⟩ := TS5.out.open (by omega)
                  cases e2
                  have f0 := hfr 0
                  have f1 := hfr 1
                  clear hg hr hfr TSt GRt RDt hx0 hx1
                  by_cases h0 : x = 0
                  · subst h0
                    go_wp2
                    go_ret
                    first | exact ⟨_, k, rfl, by omega, by omega, ts_more (((TS5.out.store 0 _).store 1 _)) (by omega), (GR5.out.set (.inr (by show w.heap.size ≤ g; omega)) _).set (.inr (by show w.heap.size ≤ g; omega)) _, (RD5.out.set (by show R < g; omega) _).set (by show R < g; omega) _⟩ | exact ⟨_, rfl, k, by omega, by omega, ts_more (((TS5.out.store 0 _).store 1 _)) (by omega), (GR5.out.set (.inr (by show w.heap.size ≤ g; omega)) _).set (.inr (by show w.heap.size ≤ g; omega)) _, (RD5.out.set (by show R < g; omega) _).set (by show R < g; omega) _⟩
                  · have hd0 : (x == 0) = false := by rw [beq_eq_false_iff_ne]; exact h0
                    go_wp2
                    go_ret
                    first | exact ⟨_, k, rfl, by omega, by omega, ts_more TS5.out (by omega), GR5.out, RD5.out⟩ | exact ⟨_, rfl, k, by omega, by omega, ts_more TS5.out (by omega), GR5.out, RD5.out⟩
                · have hk1' : ¬ (1 : Int) < (k : Int) := by omega
                  go_wp2
                  go_ret
                  first | exact ⟨_, k, rfl, by omega, by omega, ts_more TSt.out (by omega), GRt.out, RDt.out.more (by omega)⟩ | exact ⟨_, rfl, k, by omega, by omega, ts_more TSt.out (by omega), GRt.out, RDt.out.more (by omega)⟩
        · have hkl' : ¬ (k : Int) < (least : Int) := by omega
          have hk3 : ¬ (k : Int) = 0 := by omega
          have hk3' : ((k : Int) == 0) = false := by rw [beq_eq_false_iff_ne]; exact hk3
          have TSt := TSk
          have GRt := GR
          have RDt := RD
          clear TSk GR RD
          by_cases hk1 : 1 < k
          · have hk1' : (1 : Int) < (k : Int) := by omega
            go_wp2_with fail
            refine (pick_any R (K + j) 3 _ (by omega) RDt.out).mono ?_
            rintro e w5 ⟨x, rfl, hx0, hx1, hg, hr⟩
            have TS5 := Lib.hid (TSt.out.gr hg (by omega))
            have GR5 := Lib.hid (GRt.out.trans hg)
            have RD5 := Lib.hid (hr.more (show K + j + 1 ≤ K + 21 by omega))
            obtain ⟨g, cp, z0, e0, cz0⟩ := ts_at TS5.out (j := 0) (by omega)
            obtain ⟨g', cp', z1, e1, cz1⟩ := ts_at TS5.out (j := 1) (by omega)
            cases e0
            cases e1
            obtain ⟨g2, cp2, e2, _, hg1, hg2, _, hfr⟩ := TS5.out.open (by omega)
            cases e2
            have f0 := hfr 0
            have f1 := hfr 1
            clear hg hr hfr TSt GRt RDt hx0 hx1
            by_cases h0 : x = 0
            · subst h0
              go_wp2
              go_ret
              first | exact ⟨_, k, rfl, by omega, by omega, ts_more (((TS5.out.store 0 _).store 1 _)) (by omega), (GR5.out.set (.inr (by show w.heap.size ≤ g; omega)) _).set (.inr (by show w.heap.size ≤ g; omega)) _, (RD5.out.set (by show R < g; omega) _).set (by show R < g; omega) _⟩ | exact ⟨_, rfl, k, by omega, by omega, ts_more (((TS5.out.store 0 _).store 1 _)) (by omega), (GR5.out.set (.inr (by show w.heap.size ≤ g; omega)) _).set (.inr (by show w.heap.size ≤ g; omega)) _, (RD5.out.set (by show R < g; omega) _).set (by show R < g; omega) _⟩
            · have hd0 : (x == 0) = false := by rw [beq_eq_false_iff_ne]; exact h0
              go_wp2
              go_ret
              first | exact ⟨_, k, rfl, by omega, by omega, ts_more TS5.out (by omega), GR5.out, RD5.out⟩ | exact ⟨_, rfl, k, by omega, by omega, ts_more TS5.out (by omega), GR5.out, RD5.out⟩
          · have hk1' : ¬ (1 : Int) < (k : Int) := by omega
            go_wp2
            go_ret
            first | exact ⟨_, k, rfl, by omega, by omega, ts_more TSt.out (by omega), GRt.out, RDt.out.more (by omega)⟩ | exact ⟨_, rfl, k, by omega, by omega, ts_more TSt.out (by omega), GRt.out, RDt.out.more (by omega)⟩
end Go.Proofs.Ytafiikfaeomhpaa
