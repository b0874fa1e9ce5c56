/- Contracts of the model's MultiplyConstraint (no claim of its own). Conditions: as each theorem states. -/
import Derived.Test.YtipblbcedkhmbaaScaA
import Derived.Test.YtipblbcedkhmbaaOutC
import Derived.Outline
namespace Go.Proofs.Ytipblbcedkhmbaa
open Go.ChangeShapes Go.WideShapes Go.ChangeAt Go.RowKit

set_option maxRecDepth 100000 in
set_option maxHeartbeats 1600000 in
theorem specMultiply_inv (A : Option Addr) (n cap : Nat) (bd kk : Int) (c l f : Nat → Int) (w : World) (hn : n ≤ 1048576) (hr : Rd w w.heap.size A n c l) (hR : scaR n c l bd kk = false) :
    Calls Try.prog 39 #[.agg #[.slice A n cap, .int .i64 bd], .int .i64 kk] w (CRes w 0 f l 0 false) := by
  cases hv : validB n c l bd with
  | false =>
    have Hv := Lib.hid hv
    clear hv hR
    go_enter Try.func39, Try.ntmps39
    go_wp2_with fail
    refine (specValid_any _ _ _ _ c l _ hn (hr.later (bl_alloc (bl_alloc (Below.refl _ _) _) _))).mono ?_
    rintro e w1 ⟨rfl, hb⟩
    have HB1 := Lib.hid (bl_trans (bl_alloc (bl_alloc (Below.refl w.heap.size w) _) _) hb)
    have r0 : w1.cell? ⟨w.heap.size + 1, 0, none⟩ = some (.slice none 0 0) := kc hb (by go_simp)
    have r1 : w1.cell? ⟨w.heap.size + 1, 1, none⟩ = some (.int .i64 0) := kc hb (by go_simp)
    have f0 : w1.frozen? ⟨w.heap.size + 1, 0, none⟩ = false := kf hb (by simp) (by go_simp)
    have f1 : w1.frozen? ⟨w.heap.size + 1, 1, none⟩ = false := kf hb (by simp) (by go_simp)
    clear hb
    rw [Hv.out]
    go_wp2
    refine bodyPost_ret (v := .tuple #[.agg #[.slice none 0 0, .int .i64 0], .bool false]) (by simp [results, Try.results39, go_sem, r0, r1]) rfl ?_
    exact ⟨none, 0, rfl, .inl rfl, (HB1.out.setCell (by simp) _).setCell (by simp) _⟩
  | true =>
    have hk : kk < 1 ∨ 1000 < kk := by
      unfold scaR at hR
      rw [hv] at hR
      simp at hR
      omega
    have Hv := Lib.hid hv
    clear hv hR
    rcases hk with hk | hk
    all_goals
      go_enter Try.func39, Try.ntmps39
      go_wp2_with fail
      refine (specValid_any _ _ _ _ c l _ hn (hr.later (bl_alloc (bl_alloc (Below.refl _ _) _) _))).mono ?_
      rintro e w1 ⟨rfl, hb⟩
      have HB1 := Lib.hid (bl_trans (bl_alloc (bl_alloc (Below.refl w.heap.size w) _) _) hb)
      have r0 : w1.cell? ⟨w.heap.size + 1, 0, none⟩ = some (.slice none 0 0) := kc hb (by go_simp)
      have r1 : w1.cell? ⟨w.heap.size + 1, 1, none⟩ = some (.int .i64 0) := kc hb (by go_simp)
      have f0 : w1.frozen? ⟨w.heap.size + 1, 0, none⟩ = false := kf hb (by simp) (by go_simp)
      have f1 : w1.frozen? ⟨w.heap.size + 1, 1, none⟩ = false := kf hb (by simp) (by go_simp)
      clear hb
      rw [Hv.out]
      go_wp2
      refine bodyPost_ret (v := .tuple #[.agg #[.slice none 0 0, .int .i64 0], .bool false]) (by simp [results, Try.results39, go_sem, r0, r1]) rfl ?_
      exact ⟨none, 0, rfl, .inl rfl, (HB1.out.setCell (by simp) _).setCell (by simp) _⟩

set_option maxRecDepth 100000 in
set_option maxHeartbeats 25600000 in
theorem specMultiply_val (A : Option Addr) (n cap : Nat) (bd kk : Int) (c l : Nat → Int) (w : World) (hn : n ≤ 1048576) (hr : Rd w w.heap.size A n c l) (hv : validB n c l bd = true) (hk1 : 1 ≤ kk) (hk2 : kk ≤ 1000) :
    Calls Try.prog 39 #[.agg #[.slice A n cap, .int .i64 bd], .int .i64 kk] w (CRes w (infN true n (fun i => mulK (c i) kk) l (mulK bd kk)) (fun i => mulK (c i) kk) l (infD true n (fun i => mulK (c i) kk) l (mulK bd kk)) (infB true n (fun i => mulK (c i) kk) l (mulK bd kk))) := by
  have Hv := Lib.hid hv
  have hbd := valid_bd hv
  have hbd0 := hbd.1
  have hbd1 := hbd.2
  clear hv hbd
  go_enter Try.func39, Try.ntmps39
  go_wp2_with fail
  refine (specValid_any _ _ _ _ c l _ hn (hr.later (bl_alloc (bl_alloc (Below.refl _ _) _) _))).mono ?_
  rintro e w1 ⟨rfl, hb⟩
  have HB1 := Lib.hid (bl_trans (bl_alloc (bl_alloc (Below.refl w.heap.size w) _) _) hb)
  have c00 : Cel w1 w.heap.size 0 (.slice A n cap) := ⟨kc hb (by go_simp), kf hb (by first | (simp; done) | (simp; omega)) (by go_simp)⟩
  have c01 : Cel w1 w.heap.size 1 (.int .i64 bd) := ⟨kc hb (by go_simp), kf hb (by first | (simp; done) | (simp; omega)) (by go_simp)⟩
  have c10 : Cel w1 (w.heap.size + 1) 0 (.slice none 0 0) := ⟨kc hb (by go_simp), kf hb (by first | (simp; done) | (simp; omega)) (by go_simp)⟩
  have c11 : Cel w1 (w.heap.size + 1) 1 (.int .i64 0) := ⟨kc hb (by go_simp), kf hb (by first | (simp; done) | (simp; omega)) (by go_simp)⟩
  have C00 := Lib.hid c00
  have C01 := Lib.hid c01
  have C10 := Lib.hid c10
  have C11 := Lib.hid c11
  have a0 := c00.1
  have a1 := c01.1
  have q1 : w.heap.size + 1 < w1.heap.size := World.block_lt_of_cell? w1 _ c10.1
  have q0 : w.heap.size < w1.heap.size := by omega
  clear hb c00 c01 c10 c11
  rw [Hv.out]
  go_wp2
  go_loopw [7] (fun i wr => ∃ k : Nat, k ≤ n ∧ i = .int .i64 k ∧ Out w w1.heap.size [(w.heap.size, 0, .slice A n cap), (w.heap.size, 1, .int .i64 bd), (w.heap.size + 1, 0, .slice none 0 0), (w.heap.size + 1, 1, .int .i64 0), (w1.heap.size, 1, .int .i64 (mulK bd kk))] (fun i => mulK (c i) kk) l k wr) (fun i _ => n - (intOf i).toNat)
  case atStart =>
    have hal := bl_alloc (Below.refl w1.heap.size w1) (.cells #[.slice none 0 0, .int .i64 (mulK bd kk)] 27)
    refine ⟨0, Nat.zero_le _, rfl, .slice none 0 0, ⟨by go_simp, by go_simp⟩, World.ownsRow_nil _ _ _ _, fun x hx => ?_, bl_trans HB1.out hal, by omega⟩
    simp only [List.mem_cons, List.not_mem_nil, or_false] at hx
    rcases hx with rfl | rfl | rfl | rfl | rfl
    · exact ⟨.inl (by show w.heap.size < _; omega), C00.out.below hal⟩
    · exact ⟨.inl (by show w.heap.size < _; omega), C01.out.below hal⟩
    · exact ⟨.inl (by show w.heap.size + 1 < _; omega), C10.out.below hal⟩
    · exact ⟨.inl (by show w.heap.size + 1 < _; omega), C11.out.below hal⟩
    · exact ⟨.inr ⟨rfl, by simp⟩, by constructor <;> (try unfold mulK) <;> go_simp⟩
  case round =>
    obtain ⟨k, hk, rfl, ov, old⟩ := hrel
    have b00 := (old.at_ (j := w.heap.size) (o := 0) (v := .slice A n cap) (by simp)).1
    have b01 := (old.at_ (j := w.heap.size) (o := 1) (v := .int .i64 bd) (by simp)).1
    have b10 := old.at_ (j := w.heap.size + 1) (o := 0) (v := .slice none 0 0) (by simp)
    have b11 := old.at_ (j := w.heap.size + 1) (o := 1) (v := .int .i64 0) (by simp)
    have o1 := (old.at_ (j := w1.heap.size) (o := 1) (v := .int .i64 (mulK bd kk)) (by simp)).1
    have o0 := old.o0.1
    have g0 := old.o0.2
    have Old := Lib.hid old
    have hbw := old.bel
    have hz : w1.heap.size < wr.heap.size := World.block_lt_of_cell? wr _ o0
    clear old
    by_cases hlt : k < n
    · have hco := valid_coef Hv.out hlt
      have hco0 := hco.1
      have hco1 := hco.2
      have hco00 : 0 ≤ c k := by omega
      have hco11 : c k ≤ 20000 := by omega
      obtain ⟨b, off, rfl, hbl, hc⟩ := (hr.below hbw) (by omega)
      obtain ⟨hc1, hc2⟩ := hc k hlt
      have hzb : b < wr.heap.size := Nat.lt_of_lt_of_le hbl hbw.size
      have hkI : (k : Int) < (n : Int) := by omega
      have hkJ : (0 : Int) ≤ (k : Int) := by omega
      have HX : Hid (mulK (c k) kk = IntKind.i64.wrap (c k * kk)) := Lib.hid (by simp only [mulK, IntWalk.i64_left])
      clear hc hr hbw b10 b11 o1 b01 a0 a1 hco
      go_upto_block 1 with fail
      go_cut [] (fun wx => Out w w1.heap.size [(w.heap.size, 0, .slice (some ⟨b, off, none⟩) n cap), (w.heap.size, 1, .int .i64 bd), (w.heap.size + 1, 0, .slice none 0 0), (w.heap.size + 1, 1, .int .i64 0), (w1.heap.size, 1, .int .i64 (mulK bd kk))] (fun i => mulK (c i) kk) l (k + 1) wx)
      case first =>
        go_wp2_with fail
        have hbO : b ≤ w1.heap.size := by omega
        have hne : ¬ w1.heap.size = b := by omega
        have hne' : ¬ b = w1.heap.size := by omega
        have hnw : ¬ w1.heap.size = w.heap.size := by omega
        have hnw' : ¬ w.heap.size = w1.heap.size := by omega
        have hzw : w.heap.size < wr.heap.size := by omega
        go_region_law (refine step_app1 (by rfl) _ _ (by rfl) Old.out (by rfl) rfl (by rfl) HX.out rfl (by omega) ?_; intro gg cap1 w3 t0 u0 hout)
        all_goals go_wp2_with fail
        all_goals go_meet
        all_goals exact hout
      case rest =>
        go_wp2
        go_roundw
        case rel => exact ⟨k + 1, by omega, by go_num, hcut⟩
        case measure => simp [intOf]; omega
    · have e : k = n := by omega
      subst e
      obtain ⟨A', cap', rfl, hF⟩ := Old.out.frs
      obtain ⟨r0, f0⟩ := b10
      obtain ⟨r1, f1⟩ := b11
      have hF1 := hF.more (B' := w.heap.size + 1 + 1) (by omega)
      have HF := Lib.hid hF1
      have HB := Lib.hid hbw
      have hq1 : w.heap.size + 1 < wr.heap.size := by omega
      clear hF hF1 hbw Old hr a0 a1
      go_wp2_with fail
      refine (specValid_any _ _ _ _ (fun i => mulK (c i) kk) l _ hn HF.out.rdAt).mono ?_
      rintro e w3 ⟨rfl, hb⟩
      have HB3 := Lib.hid (bl_trans HB.out hb)
      have HF3 := Lib.hid (HF.out.below hb)
      replace r0 := kc hb r0
      replace r1 := kc hb r1
      replace f0 := kf hb hq1 f0
      replace f1 := kf hb hq1 f1
      replace o0 := kc hb o0
      replace o1 := kc hb o1
      clear hb
      cases hok : validB k (fun i => mulK (c i) kk) l (mulK bd kk) with
      | false =>
        have HX := Lib.hid (show infN true k (fun i => mulK (c i) kk) l (mulK bd kk) = 0 ∧ infD true k (fun i => mulK (c i) kk) l (mulK bd kk) = 0 ∧ infB true k (fun i => mulK (c i) kk) l (mulK bd kk) = false from ⟨by unfold infN infB; rw [hok]; rfl, by unfold infD infB; rw [hok]; rfl, by unfold infB; rw [hok]; rfl⟩)
        clear hok
        go_wp2
        refine bodyPost_ret (v := .tuple #[.agg #[.slice none 0 0, .int .i64 0], .bool false]) (by simp [results, Try.results39, go_sem, r0, r1]) rfl ?_
        obtain ⟨x1, x2, x3⟩ := HX.out
        rw [x1, x2, x3]
        exact ⟨none, 0, rfl, .inl rfl, (HB3.out.setCell (by simp) _).setCell (by simp) _⟩
      | true =>
        have HX := Lib.hid (show infN true k (fun i => mulK (c i) kk) l (mulK bd kk) = k ∧ infD true k (fun i => mulK (c i) kk) l (mulK bd kk) = (mulK bd kk) ∧ infB true k (fun i => mulK (c i) kk) l (mulK bd kk) = true from ⟨by unfold infN infB; rw [hok]; rfl, by unfold infD infB; rw [hok]; rfl, by unfold infB; rw [hok]; rfl⟩)
        clear hok
        go_wp2
        refine bodyPost_ret (v := .tuple #[.agg #[.slice A' k cap', .int .i64 (mulK bd kk)], .bool true]) (by simp [results, Try.results39, go_sem, r0, r1]) rfl ?_
        obtain ⟨x1, x2, x3⟩ := HX.out
        rw [x1, x2, x3]
        exact ⟨A', cap', rfl, ((HF3.out.far' (by simp) (by simp) _).far' (by simp) (by simp) _).more (by omega), (HB3.out.setCell (by simp) _).setCell (by simp) _⟩

theorem specMultiply_any (A : Option Addr) (n cap : Nat) (bd kk : Int) (c l : Nat → Int) (w : World) (hn : n ≤ 1048576) (hr : Rd w w.heap.size A n c l) :
    Calls Try.prog 39 #[.agg #[.slice A n cap, .int .i64 bd], .int .i64 kk] w (CRes w (infN (scaR n c l bd kk) n (fun i => mulK (c i) kk) l (mulK bd kk)) (fun i => mulK (c i) kk) l (infD (scaR n c l bd kk) n (fun i => mulK (c i) kk) l (mulK bd kk)) (infB (scaR n c l bd kk) n (fun i => mulK (c i) kk) l (mulK bd kk))) := by
  cases hR : scaR n c l bd kk with
  | false => exact specMultiply_inv A n cap bd kk c l _ w hn hr hR
  | true =>
    obtain ⟨hv, h1, h2⟩ := scaR_iff.1 hR
    exact specMultiply_val A n cap bd kk c l w hn hr hv h1 h2
end Go.Proofs.Ytipblbcedkhmbaa
