/- EncodeCells: the program's side (no claim of its own). Conditions: as each theorem states. -/
import Derived.Test.YtkphagmeoghegaaEncA
namespace Go.Proofs.Ytkphagmeoghegaa
open Go.ChangeShapes Go.WideShapes Go.ChangeAt Go.RowKit

set_option linter.unusedSimpArgs false in
set_option maxRecDepth 100000 in
set_option maxHeartbeats 3200000 in
theorem implEnc_any (s c : Lst) (n : Nat) (q : Nat → Rul) (As Ar Ac : Option Addr) (cs cr cc : Nat) (w : World) (p1 : s.n ≤ 1048576) (p2 : c.n ≤ 1048576) (p3 : n ≤ 1048576) (p4 : ∀ i, i < n → (q i).fit 1048576) (hs : RdI w w.heap.size As s.n s.x) (hr : RdRs w w.heap.size Ar n q) (hc : RdI w w.heap.size Ac c.n c.x) :
    Calls Try.prog 30 #[.agg #[.slice As s.n cs, .slice Ar n cr], .slice Ac c.n cc] w (SResB w (ecN s n q c) (eb s.x c.x s.n) (cvB s n q c)) := by
  have HS := Lib.hid hs
  have HR := Lib.hid hr
  have HC := Lib.hid hc
  have P4 := Lib.hid p4
  clear hs hr hc p4
  obtain ⟨i0, hi, hz0, hz1, hz2⟩ := info_parts Try.infoBool
  have hmk := fun W => run_make (P := Try.prog) W 43 4 i0 _ Try.underlying43 hi hz0 .i64 .i64 12 12 (by omega) (by omega) (by rw [hz2]; omega) (by omega)
  rw [hz1] at hmk
  clear hi hz0 hz1 hz2
  have HA := Lib.hid (bl_alloc (Below.refl w.heap.size w))
  go_enter Try.func30, Try.ntmps30
  go_wp2_with fail
  have a0 : (w.alloc (.cells #[.slice As s.n cs, .slice Ar n cr] 30)).cell? ⟨w.heap.size, 0, none⟩ = some (.slice As s.n cs) := by go_simp
  have a1 : (w.alloc (.cells #[.slice As s.n cs, .slice Ar n cr] 30)).cell? ⟨w.heap.size, 1, none⟩ = some (.slice Ar n cr) := by go_simp
  have HB := Lib.hid (HA.out (.cells #[.slice As s.n cs, .slice Ar n cr] 30))
  clear HA
  generalize (w.alloc (.cells #[.slice As s.n cs, .slice Ar n cr] 30)) = w1 at *
  refine (implCells_any s c n q _ _ _ _ _ _ _ p1 p2 p3 P4.out (HS.out.later HB.out) (HR.out.later HB.out) (HC.out.later HB.out)).mono ?_
  rintro e w2 ⟨rfl, hb⟩
  have HB2 := Lib.hid (bl_trans HB.out hb)
  replace a0 := kc hb a0
  replace a1 := kc hb a1
  clear hb HB
  cases hm : cvB s n q c with
  | false =>
    have Hn := Lib.hid (show ecN s n q c = 0 from by unfold ecN; rw [hm]; rfl)
    have Hm := Lib.hid hm
    clear hm
    go_wp2
    refine bodyPost_ret (v := .tuple #[.slice none 0 0, .bool false]) (by simp [results, Try.results30, go_sem]) rfl ?_
    exact ⟨_, _, by rw [Hn.out, Hm.out], .inl Hn.out, HB2.out⟩
  | true =>
    have Hn := Lib.hid (show ecN s n q c = 12 from by unfold ecN; rw [hm]; rfl)
    have Hle := Lib.hid (cv_le hm)
    have Ok := Lib.hid (cv_ok hm)
    have hlen := Ok.out.len
    have Hm := Lib.hid hm
    clear hm
    go_wp2_with fail
    refine (newEnc_any s n _ _ _ _ _ Ok.out.five Ok.out.sizes (HS.out.later HB2.out)).mono ?_
    rintro e w3 ⟨A, cap, rfl, hF, hb⟩
    have HB3 := Lib.hid (bl_trans HB2.out hb)
    have HF := Lib.hid hF.rdAt
    clear hb hF a0 a1 HB2
    have hx := HC.out.later HB3.out
    rw [hlen] at hx
    have HX := Lib.hid hx
    clear hx
    have hal := bl_alloc (Below.refl w3.heap.size w3) (.cells #[.slice As s.n cs, .slice Ar n cr, .slice A (s.n + 1) cap] 79)
    have e0 : (w3.alloc (.cells #[.slice As s.n cs, .slice Ar n cr, .slice A (s.n + 1) cap] 79)).cell? ⟨w3.heap.size, 0, none⟩ = some (.slice As s.n cs) := by go_simp
    have e1 : (w3.alloc (.cells #[.slice As s.n cs, .slice Ar n cr, .slice A (s.n + 1) cap] 79)).cell? ⟨w3.heap.size, 1, none⟩ = some (.slice Ar n cr) := by go_simp
    have e2 : (w3.alloc (.cells #[.slice As s.n cs, .slice Ar n cr, .slice A (s.n + 1) cap] 79)).cell? ⟨w3.heap.size, 2, none⟩ = some (.slice A (s.n + 1) cap) := by go_simp
    have hsz : (w3.alloc (.cells #[.slice As s.n cs, .slice Ar n cr, .slice A (s.n + 1) cap] 79)).heap.size = w3.heap.size + 1 := by simp
    have HSz := Lib.hid hsz
    have HB4 := Lib.hid (bl_trans HB3.out hal)
    have HF4 := Lib.hid (HF.out.later hal)
    have HX4 := Lib.hid (HX.out.later hal)
    clear hal hsz HF HX HB3
    go_wp2
    generalize (w3.alloc (.cells #[.slice As s.n cs, .slice Ar n cr, .slice A (s.n + 1) cap] 79)) = w4 at *
    rw [← HSz.out]
    obtain ⟨P, hP⟩ : ∃ P, w3.heap.size = P := ⟨_, rfl⟩
    have hP4 : P < w4.heap.size := by rw [HSz.out]; omega
    rw [hP] at e0 e1 e2 ⊢
    clear hP
    have Made := Lib.hid (ownVb_made (w := w4))
    go_loopw [19] (fun i wr => ∃ k : Nat, k ≤ s.n ∧ i = .int .i64 k ∧ OwnVb wr w4.heap.size 4 12 12 (eb s.x c.x k) ∧ Below w4.heap.size w4 wr) (fun i _ => s.n - (intOf i).toNat)
    case atStart => exact ⟨0, Nat.zero_le _, rfl, Made.out, bl_alloc (Below.refl _ _) _⟩
    case round =>
      obtain ⟨k, hk, rfl, hown, hb⟩ := hrel
      replace e0 := kc hb e0
      replace e1 := kc hb e1
      replace e2 := kc hb e2
      by_cases hlt : k < s.n
      · obtain ⟨b, off, rfl, hbl, hc⟩ := (HX4.out.below hb) (by omega)
        have c1 := hc k hlt
        have hsz := size_at Ok.out.sizes hlt
        have hcel := Ok.out.cel k hlt
        have hcv : c.x k ≤ s.x k := Hle.out k hlt
        have hT0 := (tS_bd (prE_le Ok.out.sizes (show k ≤ s.n by omega))).1
        have hT1 := tS_mono (show k + 1 ≤ s.n by omega) Ok.out.sizes
        have hT2 : tS s.x (k + 1) = tS s.x k + s.x k + 1 := rfl
        have hT3 := Ok.out.sum
        obtain ⟨p, hp⟩ : ∃ p : Nat, c.x k + tS s.x k = (p : Int) := ⟨(c.x k + tS s.x k).toNat, by omega⟩
        have hp12 : p < 12 := by omega
        have Hset := Lib.hid (fun W (h : OwnVb W w4.heap.size 4 12 12 (eb s.x c.x k)) => h.set_ (v' := eb s.x c.x (k + 1)) (j := p) true (eb_hit hp) (fun i hi => eb_miss hp hi))
        have Hown := Lib.hid hown
        have HBk := Lib.hid hb
        have hlt' : (k : Int) < (s.n : Int) := by omega
        have hk0 : (0 : Int) ≤ (k : Int) := by omega
        have hp0 : (0 : Int) ≤ (p : Int) := by omega
        have hp1 : (p : Int) < 12 := by omega
        have hv3 : 0 ≤ c.x k ∧ c.x k ≤ 1000 := by omega
        have ht3 : 0 ≤ tS s.x k ∧ tS s.x k ≤ 1000 := by omega
        have Hy := Lib.hid (show 1 + c.x k + tS s.x k = (p : Int) + 1 by omega)
        clear hown hb hc hsz hT0 hT1 hT2 hT3 hcv hp hcel
        go_wp2_with fail
        refine (encVar_any As Ar A s.n cs n cr (s.n + 1) cap (tS s.x) k (c.x k) _ (by have := Ok.out.five; omega) (by omega) hv3 ht3 (HF4.out.later HBk.out)).mono ?_
        rintro e w5 ⟨rfl, hb⟩
        rw [Hy.out]
        have HB5 := Lib.hid (HBk.out.trans (hb.mono HBk.out.size))
        have Hown5 := Lib.hid (Hown.out.below hb)
        replace e0 := kc hb e0
        replace e1 := kc hb e1
        replace e2 := kc hb e2
        clear hb Hown
        obtain ⟨y9, hy9⟩ := Hown5.out.cell hp12
        have hf9 := Hown5.out.frozen p
        go_wp2
        go_roundw
        case rel => exact ⟨k + 1, by omega, by go_num, Hset.out _ Hown5.out, HB5.out.setCell (Nat.le_refl _) _⟩
        case measure => simp [intOf]; omega
      · have e : k = s.n := by omega
        subst e
        have Hown := Lib.hid hown
        have HBk := Lib.hid hb
        clear hown hb
        go_wp2
        refine bodyPost_ret (v := .tuple #[.slice (some ⟨w4.heap.size, 0, none⟩) 12 12, .bool true]) (by simp [results, Try.results30, go_sem]) rfl ?_
        exact ⟨_, _, by rw [Hn.out, Hm.out], .inr ⟨w4.heap.size, rfl, HB4.out.size, by rw [Hn.out]; exact Hown.out⟩, HB4.out.trans (HBk.out.mono HB4.out.size)⟩
end Go.Proofs.Ytkphagmeoghegaa
