/- Contracts of the model's DivideConstraint (no claim of its own). Conditions: as each theorem states. -/
import Derived.Test.YtaghnjkpanjioaaScaA
import Derived.Test.YtaghnjkpanjioaaOutC
import Derived.Outline
namespace Go.Proofs.Ytaghnjkpanjioaa
open Go.ChangeShapes Go.WideShapes Go.ChangeAt Go.RowKit

set_option maxHeartbeats 400000 in
theorem l2Up_any (x k : Int) (w : World) (h0 : 0 ≤ x) (h1 : x ≤ 20000) (h2 : 1 ≤ k) (h3 : k ≤ 1000) :
    Calls Try.prog 108 #[.int .i64 x, .int .i64 k] w fun e w' => e = .returned (.int .i64 (divK x k)) ∧ w' = w := by
  have hk : (k == 0) = false := by simp; omega
  have hk1 : k ≠ 0 := by omega
  go_enter Try.func108, Try.ntmps108
  go_wp2
  go_ret
  exact ⟨rfl, rfl⟩
theorem divK_up {x k : Int} (h0 : 1 ≤ x) (h1 : 1 ≤ k) : 1 ≤ divK x k := by
  unfold divK
  exact (Int.le_ediv_iff_mul_le (by omega)).2 (by omega)
theorem divK_pos {x k : Int} (h0 : 0 ≤ x) (h1 : 1 ≤ k) : 0 ≤ divK x k := Int.ediv_nonneg (by omega) (by omega)
theorem divK_le {x k : Int} (h0 : 0 ≤ x) (h1 : 1 ≤ k) : divK x k ≤ x := by
  unfold divK
  rcases Int.lt_or_le 0 x with h | h
  · have : (x + k - 1) / k < x + 1 := (Int.ediv_lt_iff_lt_mul (by omega)).2 (by
      have : x * 1 ≤ x * k := Int.mul_le_mul_of_nonneg_left h1 (by omega)
      rw [Int.add_mul]
      omega)
    omega
  · obtain rfl : x = 0 := by omega
    have : (0 + k - 1) / k < 1 := (Int.ediv_lt_iff_lt_mul (by omega)).2 (by omega)
    omega
theorem divValid {n : Nat} {c l : Nat → Int} {bd kk : Int} (h : validB n c l bd = true) (h1 : 1 ≤ kk) (_h2 : kk ≤ 1000) : validB n (fun i => divK (c i) kk) l (divK bd kk) = true :=
  valid_mk h (fun i hi => by
    have hc := valid_coef h hi
    have := divK_le (x := c i) (k := kk) (by omega) h1
    exact ⟨divK_up hc.1 h1, by omega⟩) (divK_pos (valid_bd h).1 h1) (by
    have := divK_le (x := bd) (k := kk) (valid_bd h).1 h1
    have := (valid_bd h).2
    omega)

set_option maxRecDepth 100000 in
set_option maxHeartbeats 1600000 in
theorem specDivide_inv (A : Option Addr) (n cap : Nat) (bd kk : Int) (c l f : Nat → Int) (w : World) (hn : n ≤ 1048576) (hr : Rd w w.heap.size A n c l) (hR : scaR n c l bd kk = false) :
    Calls Try.prog 102 #[.agg #[.slice A n cap, .int .i64 bd], .int .i64 kk] w (CRes w 0 f l 0 false) := by
  cases hv : validB n c l bd with
  | false =>
    have Hv := Lib.hid hv
    clear hv hR
    go_enter Try.func102, Try.ntmps102
    go_wp2_with fail
    refine (specValid_any _ _ _ _ c l _ hn (hr.later (bl_alloc (bl_alloc (Below.refl _ _) _) _))).mono ?_
    rintro e w1 ⟨rfl, hb⟩
    have HB1 := Lib.hid (bl_trans (bl_alloc (bl_alloc (Below.refl w.heap.size w) _) _) hb)
    have r0 : w1.cell? ⟨w.heap.size + 1, 0, none⟩ = some (.slice none 0 0) := kc hb (by go_simp)
    have r1 : w1.cell? ⟨w.heap.size + 1, 1, none⟩ = some (.int .i64 0) := kc hb (by go_simp)
    have f0 : w1.frozen? ⟨w.heap.size + 1, 0, none⟩ = false := kf hb (by simp) (by go_simp)
    have f1 : w1.frozen? ⟨w.heap.size + 1, 1, none⟩ = false := kf hb (by simp) (by go_simp)
    clear hb
    rw [Hv.out]
    go_wp2
    refine bodyPost_ret (v := .tuple #[.agg #[.slice none 0 0, .int .i64 0], .bool false]) (by simp [results, Try.results102, go_sem, r0, r1]) rfl ?_
    exact ⟨none, 0, rfl, .inl rfl, (HB1.out.setCell (by simp) _).setCell (by simp) _⟩
  | true =>
    have hk : kk < 1 ∨ 1000 < kk := by
      unfold scaR at hR
      rw [hv] at hR
      simp at hR
      omega
    have Hv := Lib.hid hv
    clear hv hR
    rcases hk with hk | hk
    all_goals
      go_enter Try.func102, Try.ntmps102
      go_wp2_with fail
      refine (specValid_any _ _ _ _ c l _ hn (hr.later (bl_alloc (bl_alloc (Below.refl _ _) _) _))).mono ?_
      rintro e w1 ⟨rfl, hb⟩
      have HB1 := Lib.hid (bl_trans (bl_alloc (bl_alloc (Below.refl w.heap.size w) _) _) hb)
      have r0 : w1.cell? ⟨w.heap.size + 1, 0, none⟩ = some (.slice none 0 0) := kc hb (by go_simp)
      have r1 : w1.cell? ⟨w.heap.size + 1, 1, none⟩ = some (.int .i64 0) := kc hb (by go_simp)
      have f0 : w1.frozen? ⟨w.heap.size + 1, 0, none⟩ = false := kf hb (by simp) (by go_simp)
      have f1 : w1.frozen? ⟨w.heap.size + 1, 1, none⟩ = false := kf hb (by simp) (by go_simp)
      clear hb
      rw [Hv.out]
      go_wp2
      refine bodyPost_ret (v := .tuple #[.agg #[.slice none 0 0, .int .i64 0], .bool false]) (by simp [results, Try.results102, go_sem, r0, r1]) rfl ?_
      exact ⟨none, 0, rfl, .inl rfl, (HB1.out.setCell (by simp) _).setCell (by simp) _⟩

set_option maxRecDepth 100000 in
set_option maxHeartbeats 25600000 in
theorem specDivide_val (A : Option Addr) (n cap : Nat) (bd kk : Int) (c l : Nat → Int) (w : World) (hn : n ≤ 1048576) (hr : Rd w w.heap.size A n c l) (hv : validB n c l bd = true) (hk1 : 1 ≤ kk) (hk2 : kk ≤ 1000) :
    Calls Try.prog 102 #[.agg #[.slice A n cap, .int .i64 bd], .int .i64 kk] w (CRes w (infN true n (fun i => divK (c i) kk) l (divK bd kk)) (fun i => divK (c i) kk) l (infD true n (fun i => divK (c i) kk) l (divK bd kk)) (infB true n (fun i => divK (c i) kk) l (divK bd kk))) := by
  have Hv := Lib.hid hv
  have hbd := valid_bd hv
  have hbd0 := hbd.1
  have hbd1 := hbd.2
  clear hv hbd
  go_enter Try.func102, Try.ntmps102
  go_wp2_with fail
  refine (specValid_any _ _ _ _ c l _ hn (hr.later (bl_alloc (bl_alloc (Below.refl _ _) _) _))).mono ?_
  rintro e w1 ⟨rfl, hb⟩
  have HB1 := Lib.hid (bl_trans (bl_alloc (bl_alloc (Below.refl w.heap.size w) _) _) hb)
  have c00 : Cel w1 w.heap.size 0 (.slice A n cap) := ⟨kc hb (by go_simp), kf hb (by first | (simp; done) | (simp; omega)) (by go_simp)⟩
  have c01 : Cel w1 w.heap.size 1 (.int .i64 bd) := ⟨kc hb (by go_simp), kf hb (by first | (simp; done) | (simp; omega)) (by go_simp)⟩
  have c10 : Cel w1 (w.heap.size + 1) 0 (.slice none 0 0) := ⟨kc hb (by go_simp), kf hb (by first | (simp; done) | (simp; omega)) (by go_simp)⟩
  have c11 : Cel w1 (w.heap.size + 1) 1 (.int .i64 0) := ⟨kc hb (by go_simp), kf hb (by first | (simp; done) | (simp; omega)) (by go_simp)⟩
  have C00 := Lib.hid c00
  have C01 := Lib.hid c01
  have C10 := Lib.hid c10
  have C11 := Lib.hid c11
  have a0 := c00.1
  have a1 := c01.1
  have q1 : w.heap.size + 1 < w1.heap.size := World.block_lt_of_cell? w1 _ c10.1
  have q0 : w.heap.size < w1.heap.size := by omega
  clear hb c00 c01 c10 c11
  rw [Hv.out]
  go_wp2_with (go_at_call 108; refine (l2Up_any _ _ _ hbd0 hbd1 hk1 hk2).mono ?_; rintro e w' ⟨rfl, hw⟩; replace hw := hw.symm; subst hw)
  go_loopw [7] (fun i wr => ∃ k : Nat, k ≤ n ∧ i = .int .i64 k ∧ Out w w1.heap.size [(w.heap.size, 0, .slice A n cap), (w.heap.size, 1, .int .i64 bd), (w.heap.size + 1, 0, .slice none 0 0), (w.heap.size + 1, 1, .int .i64 0), (w1.heap.size, 1, .int .i64 (divK bd kk))] (fun i => divK (c i) kk) l k wr) (fun i _ => n - (intOf i).toNat)
  case atStart =>
    have hal := bl_alloc (Below.refl w1.heap.size w1) (.cells #[.slice none 0 0, .int .i64 (divK bd kk)] 31)
    refine ⟨0, Nat.zero_le _, rfl, .slice none 0 0, ⟨by go_simp, by go_simp⟩, World.ownsRow_nil _ _ _ _, fun x hx => ?_, bl_trans HB1.out hal, by omega⟩
    simp only [List.mem_cons, List.not_mem_nil, or_false] at hx
    rcases hx with rfl | rfl | rfl | rfl | rfl
    · exact ⟨.inl (by show w.heap.size < _; omega), C00.out.below hal⟩
    · exact ⟨.inl (by show w.heap.size < _; omega), C01.out.below hal⟩
    · exact ⟨.inl (by show w.heap.size + 1 < _; omega), C10.out.below hal⟩
    · exact ⟨.inl (by show w.heap.size + 1 < _; omega), C11.out.below hal⟩
    · exact ⟨.inr ⟨rfl, by simp⟩, by constructor <;> go_simp⟩
  case round =>
    obtain ⟨k, hk, rfl, ov, old⟩ := hrel
    have b00 := (old.at_ (j := w.heap.size) (o := 0) (v := .slice A n cap) (by simp)).1
    have b01 := (old.at_ (j := w.heap.size) (o := 1) (v := .int .i64 bd) (by simp)).1
    have b10 := old.at_ (j := w.heap.size + 1) (o := 0) (v := .slice none 0 0) (by simp)
    have b11 := old.at_ (j := w.heap.size + 1) (o := 1) (v := .int .i64 0) (by simp)
    have o1 := (old.at_ (j := w1.heap.size) (o := 1) (v := .int .i64 (divK bd kk)) (by simp)).1
    have o0 := old.o0.1
    have g0 := old.o0.2
    have Old := Lib.hid old
    have hbw := old.bel
    have hz : w1.heap.size < wr.heap.size := World.block_lt_of_cell? wr _ o0
    clear old
    by_cases hlt : k < n
    · have hco := valid_coef Hv.out hlt
      have hco0 := hco.1
      have hco1 := hco.2
      have hco00 : 0 ≤ c k := by omega
      have hco11 : c k ≤ 20000 := by omega
      obtain ⟨b, off, rfl, hbl, hc⟩ := (hr.below hbw) (by omega)
      obtain ⟨hc1, hc2⟩ := hc k hlt
      have hzb : b < wr.heap.size := Nat.lt_of_lt_of_le hbl hbw.size
      have hkI : (k : Int) < (n : Int) := by omega
      have hkJ : (0 : Int) ≤ (k : Int) := by omega
      clear hc hr hbw b10 b11 o1 b01 a0 a1 hco
      go_upto_block 1 with fail
      go_cut [] (fun wx => Out w w1.heap.size [(w.heap.size, 0, .slice (some ⟨b, off, none⟩) n cap), (w.heap.size, 1, .int .i64 bd), (w.heap.size + 1, 0, .slice none 0 0), (w.heap.size + 1, 1, .int .i64 0), (w1.heap.size, 1, .int .i64 (divK bd kk))] (fun i => divK (c i) kk) l (k + 1) wx)
      case first =>
        go_wp2_with fail
        have hbO : b ≤ w1.heap.size := by omega
        have hne : ¬ w1.heap.size = b := by omega
        have hne' : ¬ b = w1.heap.size := by omega
        have hnw : ¬ w1.heap.size = w.heap.size := by omega
        have hnw' : ¬ w.heap.size = w1.heap.size := by omega
        have hzw : w.heap.size < wr.heap.size := by omega
        go_region_law (first | (go_simp; go_at_call 108; refine (l2Up_any _ _ _ hco00 hco11 hk1 hk2).mono ?_; rintro e w' ⟨rfl, rfl⟩) | (refine step_app1 (by rfl) _ _ (by rfl) Old.out (by rfl) rfl (by rfl) rfl rfl (by omega) ?_; intro gg cap1 w3 t0 u0 hout))
        all_goals go_wp2_with fail
        all_goals go_meet
        all_goals exact hout
      case rest =>
        go_wp2
        go_roundw
        case rel => exact ⟨k + 1, by omega, by go_num, hcut⟩
        case measure => simp [intOf]; omega
    · have e : k = n := by omega
      subst e
      obtain ⟨A', cap', rfl, hF⟩ := Old.out.frs
      obtain ⟨r0, f0⟩ := b10
      obtain ⟨r1, f1⟩ := b11
      have hF1 := hF.more (B' := w.heap.size + 1 + 1) (by omega)
      have HF := Lib.hid hF1
      have HB := Lib.hid hbw
      have hq1 : w.heap.size + 1 < wr.heap.size := by omega
      clear hF hF1 hbw Old hr a0 a1
      have hok : validB k (fun i => divK (c i) kk) l (divK bd kk) = true := divValid Hv.out hk1 hk2
      have HX := Lib.hid (show infN true k (fun i => divK (c i) kk) l (divK bd kk) = k ∧ infD true k (fun i => divK (c i) kk) l (divK bd kk) = (divK bd kk) ∧ infB true k (fun i => divK (c i) kk) l (divK bd kk) = true from ⟨by unfold infN infB; rw [hok]; rfl, by unfold infD infB; rw [hok]; rfl, by unfold infB; rw [hok]; rfl⟩)
      clear hok
      go_wp2
      refine bodyPost_ret (v := .tuple #[.agg #[.slice A' k cap', .int .i64 (divK bd kk)], .bool true]) (by simp [results, Try.results102, go_sem, r0, r1]) rfl ?_
      obtain ⟨x1, x2, x3⟩ := HX.out
      rw [x1, x2, x3]
      exact ⟨A', cap', rfl, ((HF.out.far' (by simp) (by simp) _).far' (by simp) (by simp) _).more (by omega), (HB.out.setCell (by simp) _).setCell (by simp) _⟩

theorem specDivide_any (A : Option Addr) (n cap : Nat) (bd kk : Int) (c l : Nat → Int) (w : World) (hn : n ≤ 1048576) (hr : Rd w w.heap.size A n c l) :
    Calls Try.prog 102 #[.agg #[.slice A n cap, .int .i64 bd], .int .i64 kk] w (CRes w (infN (scaR n c l bd kk) n (fun i => divK (c i) kk) l (divK bd kk)) (fun i => divK (c i) kk) l (infD (scaR n c l bd kk) n (fun i => divK (c i) kk) l (divK bd kk)) (infB (scaR n c l bd kk) n (fun i => divK (c i) kk) l (divK bd kk))) := by
  cases hR : scaR n c l bd kk with
  | false => exact specDivide_inv A n cap bd kk c l _ w hn hr hR
  | true =>
    obtain ⟨hv, h1, h2⟩ := scaR_iff.1 hR
    exact specDivide_val A n cap bd kk c l w hn hr hv h1 h2
end Go.Proofs.Ytaghnjkpanjioaa
