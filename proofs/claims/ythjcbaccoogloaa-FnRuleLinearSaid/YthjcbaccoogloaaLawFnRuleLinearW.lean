/- The walk of the law FnRuleLinear (no claim of its own). Conditions: as each theorem states. -/
import Derived.Test.YthjcbaccoogloaaDmlK
import Derived.Test.YthjcbaccoogloaaAxA
import Derived.Test.YthjcbaccoogloaaClsA
import Derived.BigQuiet
namespace Go.Proofs.Ythjcbaccoogloaa
open Go.ChangeShapes Go.WideShapes Go.ChangeAt Go.RowKit

def nilL : Lst := ⟨0, fun _ => 0⟩
/-- Where the append of a coefficient stands. -/
structure F12 (w4 : World) (Bx G i : Nat) (V : Value) (bq oq cn cq lo : Nat) (x : Int) (v : Nat → Int) (L : Nat → Bool) (w : World) (u88 u89 u90 u91 u92 u93 u94 u95 u96 u97 u98 : Value) : Prop where
  bel : L 9 = false → Below w4.heap.size w4 w
  a0 : L 0 = true → u88 = .pointer (some ⟨G, 2, none⟩)
  a1 : L 1 = true → u89 = V
  a2 : L 2 = true → u90 = .pointer (some ⟨Bx, 2, none⟩)
  a3 : L 3 = true → u91 = .slice (some ⟨bq, oq, none⟩) cn cq
  a4 : L 4 = true → u92 = .int .i64 i
  a5 : L 5 = true → u93 = .pointer (some ⟨bq, oq + i, none⟩)
  a6 : L 6 = true → u94 = .int .i64 x
  a7 : L 7 = true → u95 = .int .i64 (-x)
  a8 : L 8 = true → ∃ p, u96 = .slice (some ⟨p, 0, none⟩) 1 1 ∧ (L 9 = false → w.heap[p]? = some (.cells #[.int .i64 (-x)] 3 (0, 0)))
  a9 : L 9 = true → ∃ g c, u97 = .slice (some ⟨g, 0, none⟩) (i + 1) c ∧ ∃ w' w'', Below w4.heap.size w4 w' ∧ w'.grownBy w'' V.ownBlock ∧ OX w'' lo (.slice (some ⟨g, 0, none⟩) (i + 1) c) (i + 1) v ∧ (L 11 = false → w = w'') ∧ (L 11 = true → w = w''.setCell ⟨G, 2, none⟩ u97)
  a10 : L 10 = true → u98 = .pointer (some ⟨G, 2, none⟩)
theorem tf8 {b : Bool} {P : Prop} (h : b = true) (h' : b = false) : P := by rw [h] at h'; cases h'
def negQ (q : Rul) : Rul := ⟨1, q.v, ⟨q.c.n, fun i => -q.c.x i⟩, 1 - q.bd, 0, fun _ => nilL⟩
theorem lin_neg {a p : Nat → Int} (k : Nat) : linS (fun i => -a i) p k = -linS a p k := by
  induction k with
  | zero => rfl
  | succ k ih =>
    show linS (fun i => -a i) p k + -a k * p k = -(linS a p k + a k * p k)
    rw [ih, Int.neg_mul]; omega
theorem neg_bd {s : Lst} {n : Nat} {q : Nat → Rul} {c : Lst} {k : Nat} (hcv : cvB s n q c = true) (hk : k < n) (h1 : (q k).k = 1) : -1000 ≤ (q k).bd ∧ (q k).bd ≤ 1000 ∧ (q k).c.n = (q k).v.n ∧ prE (fun i => wtB ((q k).c.x i)) (q k).c.n = true ∧ varB s.n (q k).v = true := by
  unfold cvB at hcv
  rw [Bool.and_eq_true] at hcv
  obtain ⟨_, _, _, _, _, h6⟩ := mod_parts hcv.1
  have hr := h6 k hk
  unfold ruleB at hr
  simp only [Bool.and_eq_true] at hr
  obtain ⟨hv, -, -, hkd⟩ := hr
  unfold kindB at hkd
  rw [if_pos h1] at hkd
  unfold linB at hkd
  simp only [Bool.and_eq_true, decide_eq_true_eq, beq_iff_eq] at hkd
  exact ⟨hkd.2.2.1, hkd.2.2.2, hkd.2.1, hkd.1, hv⟩
theorem neg_ok {s : Lst} {n : Nat} {q : Nat → Rul} {c : Lst} {k : Nat} (hcv : cvB s n q c = true) (hk : k < n) (h1 : (q k).k = 1) (hb : (q k).bd ≠ -1000) : rhB s 1 (fun _ => negQ (q k)) c 0 = !rhB s n q c (k : Int) := by
  obtain ⟨b1, b2, b3, b4, b5⟩ := neg_bd hcv hk h1
  have hcv0 := hcv
  unfold cvB at hcv
  rw [Bool.and_eq_true] at hcv
  obtain ⟨m1, m2, m3, m4, m5, m6⟩ := mod_parts hcv.1
  have hr : ruleB s.n (negQ (q k)) = true := by
    unfold ruleB kindB
    rw [if_pos (show (negQ (q k)).k = 1 from rfl)]
    unfold linB
    have hw : prE (fun i => wtB ((negQ (q k)).c.x i)) (negQ (q k)).c.n = true := by
      refine prE_iff.2 fun i hi => ?_
      have := prE_at b4 hi
      show wtB (-(q k).c.x i) = true
      unfold wtB at this ⊢
      simp at this ⊢
      omega
    simp only [Bool.and_eq_true, Bool.or_eq_true, decide_eq_true_eq, beq_iff_eq]
    exact ⟨b5, .inl rfl, .inr rfl, hw, b3, by show -1000 ≤ 1 - (q k).bd; omega, by show 1 - (q k).bd ≤ 1000; omega⟩
  have hcv' : cvB s 1 (fun _ => negQ (q k)) c = true := by
    unfold cvB
    rw [Bool.and_eq_true]
    refine ⟨?_, hcv.2⟩
    unfold modB
    simp only [Bool.and_eq_true, decide_eq_true_eq]
    exact ⟨⟨m1, m2⟩, m3, m4, by omega, prE_iff.2 fun i _ => hr⟩
  have e1 : rhB s 1 (fun _ => negQ (q k)) c 0 = holdB (negQ (q k)) c.x := by unfold rhB; rw [hcv']; simp
  have e2 : rhB s n q c (k : Int) = holdB (q k) c.x := by unfold rhB; rw [hcv0]; simp [hk]
  rw [e1, e2]
  unfold holdB
  rw [if_pos (show (negQ (q k)).k = 1 from rfl), if_pos h1]
  show decide (1 - (q k).bd ≤ linS (fun i => -(q k).c.x i) (pk (q k).v c.x) (q k).v.n) = _
  rw [lin_neg]
  by_cases h : (q k).bd ≤ linS (q k).c.x (pk (q k).v c.x) (q k).v.n
  · rw [decide_eq_true h]; exact decide_eq_false (by omega)
  · rw [decide_eq_false h]; exact decide_eq_true (by omega)
theorem rd_neg {W : World} {B G cv cc : Nat} {Av Ac : Option Addr} {q : Rul} (hG : G < B) (h0 : W.cell? ⟨G, 0, none⟩ = some (.int .i64 1)) (h1 : W.cell? ⟨G, 1, none⟩ = some (.slice Av q.v.n cv)) (h2 : W.cell? ⟨G, 2, none⟩ = some (.slice Ac q.c.n cc)) (h3 : W.cell? ⟨G, 3, none⟩ = some (.int .i64 (1 - q.bd))) (h4 : W.cell? ⟨G, 4, none⟩ = some (.slice none 0 0)) (hv : RdI W B Av q.v.n q.v.x) (hc : RdI W B Ac q.c.n (fun i => -q.c.x i)) : RdRs W B (some ⟨G, 0, none⟩) 1 (fun _ => negQ q) := fun _ => ⟨G, 0, rfl, hG, fun i hi => by
  obtain rfl : i = 0 := by omega
  exact ⟨Av, cv, Ac, cc, none, 0, h0, h1, h2, h3, h4, hv, hc, fun h => absurd h (by show ¬ 0 < 0; omega)⟩⟩

set_option linter.unusedSimpArgs false in
set_option linter.unusedVariables false in
set_option maxRecDepth 100000 in
set_option maxHeartbeats 6400000 in
theorem lawFnRuleLinear_ok (A0 : Option Addr) (n0 cap0 : Nat) (y0 : Nat → Int) (w : World) (h0 : n0 ≤ 1048576) (hc0 : n0 ≤ cap0) (hr0 : RdY w w.heap.size A0 n0 y0) :
    Calls Try.prog 6 #[.slice A0 n0 cap0] w fun e w' => e = .returned (.bool true) ∧ Below w.heap.size w w' := by
  have hm0 : n0 ≤ maxLen := by unfold maxLen; omega
  have hi0 : ¬ (1048576 : Int) < (n0 : Int) := by omega
  go_enter Try.func6, Try.ntmps6
  go_wp2_with fail
  refine (drawHolds_any _ _ _ y0 _ hm0 hc0 hr0).mono ?_
  rintro e w1 ⟨As, cs, Ar, cr, sn, n, rule, Ac, kc, cc, rfl, hmt, hkc, htc⟩
  obtain ⟨s, q, rfl, hm⟩ := hmt.rd
  obtain ⟨A', c', v, e, hv⟩ := htc.rd
  cases e
  obtain ⟨c, rfl, hc⟩ : ∃ c : Lst, c.n = kc ∧ RdI w1 w1.heap.size Ac c.n c.x := ⟨⟨kc, v⟩, rfl, hv⟩
  have p1 : s.n ≤ 1048576 := by have := hm.hs; omega
  have p2 : c.n ≤ 1048576 := by omega
  have p3 : n ≤ 1048576 := by have := hm.hn; omega
  have p4 := Lib.hid (fun i hi => Rul.fit_more (hm.fit i hi) (show 22 ≤ 1048576 by omega))
  have HB := Lib.hid hm.bl
  have HM := Lib.hid hm
  have HC := Lib.hid hc
  clear hmt htc hm hc hv
  go_wp2_with fail
  have hal := bl_alloc (Below.refl w1.heap.size w1) (.cells #[.slice As s.n cs, .slice Ar n cr] 26)
  have x0 : (w1.alloc (.cells #[.slice As s.n cs, .slice Ar n cr] 26)).cell? ⟨w1.heap.size, 0, none⟩ = some (.slice As s.n cs) := by go_simp
  have x1 : (w1.alloc (.cells #[.slice As s.n cs, .slice Ar n cr] 26)).cell? ⟨w1.heap.size, 1, none⟩ = some (.slice Ar n cr) := by go_simp
  have HB' := Lib.hid (bl_trans HB.out hal)
  have HM' := Lib.hid (HM.out.later hal)
  have HC' := Lib.hid (HC.out.later hal)
  clear hal HB HM HC
  have HB := HB'
  clear HB'
  have HM := HM'
  clear HM'
  have HC := HC'
  clear HC'
  generalize (w1.alloc (.cells #[.slice As s.n cs, .slice Ar n cr] 26)) = w2 at *
  obtain ⟨X, hX⟩ : ∃ X, w1.heap.size = X := ⟨_, rfl⟩
  rw [hX] at x0 x1 ⊢
  clear hX
  refine (implHolds_any s c n q rule As Ar Ac cs cr cc _ p1 p2 p3 p4.out HM.out.rs HM.out.rr HC.out).mono ?_
  rintro e w3 ⟨rfl, hb⟩
  have HB' := Lib.hid (bl_trans HB.out hb)
  have HM' := Lib.hid (HM.out.later hb)
  have HC' := Lib.hid (HC.out.later hb)
  replace x0 := kc hb x0
  replace x1 := kc hb x1
  clear hb HB HM HC
  have HB := HB'
  clear HB'
  have HM := HM'
  clear HM'
  have HC := HC'
  clear HC'
  have HNeg := Lib.hid (fun (k : Nat) (e : rule = (k : Int)) hcv hk h1 hb => show rhB s 1 (fun _ => negQ (q k)) c 0 = !rhB s n q c rule from by rw [e]; exact neg_ok (s := s) (n := n) (q := q) (c := c) (k := k) hcv hk h1 hb)
  obtain ⟨b, hb⟩ : ∃ b, rhB s n q c rule = b := ⟨_, rfl⟩
  have HV := Lib.hid hb
  rw [hb] at HNeg ⊢
  clear hb
  go_wp2_with fail
  refine (specHolds_any s c n q rule As Ar Ac cs cr cc _ p1 p2 p3 p4.out HM.out.rs HM.out.rr HC.out).mono ?_
  rintro e w4 ⟨rfl, hb⟩
  rw [HV.out]
  have HB' := Lib.hid (bl_trans HB.out hb)
  have HM' := Lib.hid (HM.out.later hb)
  have HC' := Lib.hid (HC.out.later hb)
  replace x0 := kc hb x0
  replace x1 := kc hb x1
  clear hb HB HM HC
  have HB := HB'
  clear HB'
  have HM := HM'
  clear HM'
  have HC := HC'
  clear HC'
  go_wp2_with fail
  refine (implCells_any s c n q As Ar Ac cs cr cc _ p1 p2 p3 p4.out HM.out.rs HM.out.rr HC.out).mono ?_
  rintro e w5 ⟨rfl, hb⟩
  have HB' := Lib.hid (bl_trans HB.out hb)
  have HM' := Lib.hid (HM.out.later hb)
  have HC' := Lib.hid (HC.out.later hb)
  replace x0 := kc hb x0
  replace x1 := kc hb x1
  clear hb HB HM HC
  have HB := HB'
  clear HB'
  have HM := HM'
  clear HM'
  have HC := HC'
  clear HC'
  cases hcv : cvB s n q c with
  | false =>
    clear HNeg
    go_wp2_with fail
    refine (specHolds_any s c n q rule As Ar Ac cs cr cc _ p1 p2 p3 p4.out HM.out.rs HM.out.rr HC.out).mono ?_
    rintro e w6 ⟨rfl, hb⟩
    rw [HV.out]
    have HB6 := Lib.hid (bl_trans HB.out hb)
    clear hb
    go_wp2
    go_ret
    exact ⟨rfl, HB6.out⟩
  | true =>
    have HCV := Lib.hid hcv
    clear hcv
    by_cases r0 : rule < 0
    · clear HNeg HCV
      go_wp2_with fail
      refine (specHolds_any s c n q rule As Ar Ac cs cr cc _ p1 p2 p3 p4.out HM.out.rs HM.out.rr HC.out).mono ?_
      rintro e w6 ⟨rfl, hb⟩
      rw [HV.out]
      have HB6 := Lib.hid (bl_trans HB.out hb)
      clear hb
      go_wp2
      go_ret
      exact ⟨rfl, HB6.out⟩
    · by_cases rn : (n : Int) ≤ rule
      · clear HNeg HCV
        go_wp2_with fail
        refine (specHolds_any s c n q rule As Ar Ac cs cr cc _ p1 p2 p3 p4.out HM.out.rs HM.out.rr HC.out).mono ?_
        rintro e w6 ⟨rfl, hb⟩
        rw [HV.out]
        have HB6 := Lib.hid (bl_trans HB.out hb)
        clear hb
        go_wp2
        go_ret
        exact ⟨rfl, HB6.out⟩
      · obtain ⟨k, rfl⟩ : ∃ k : Nat, rule = (k : Int) := ⟨rule.toNat, by omega⟩
        have hk : k < n := by omega
        have hkI : (k : Int) < (n : Int) := by omega
        have hk0 : (0 : Int) ≤ (k : Int) := by omega
        have HR2 := Lib.hid (fun hk h1 => neg_bd (s := s) (n := n) (q := q) (c := c) (k := k) HCV.out hk h1)
        have HN2 := Lib.hid (fun h1 hb => HNeg.out k rfl HCV.out hk h1 hb)
        have HF := Lib.hid (p4.out k hk)
        obtain ⟨g, off, eA, hg, hcells⟩ := HM.out.rr (by omega)
        subst eA
        obtain ⟨Av, cv, Aq, cq, Az, cz, z0, z1, z2, z3, z4, rv, rc, -⟩ := hcells k hk
        have RV := Lib.hid rv
        have RC := Lib.hid rc
        clear hcells rv rc HNeg
        obtain ⟨Q, hQ⟩ : ∃ Q, q k = Q := ⟨_, rfl⟩
        rw [hQ] at HR2 HN2 HF z0 z1 z2 z3 z4 RV RC
        clear hQ
        obtain ⟨kd, v, ⟨cn, x⟩, bd, qn, r⟩ := Q
        dsimp only at HR2 HN2 HF z0 z1 z2 z3 z4 RV RC
        have hcnB : cn ≤ 1048576 := HF.out.2.1
        by_cases k1 : kd = 1
        · by_cases bm : bd = -1000
          · subst k1
            subst bm
            clear HR2 HN2 HF RV RC
            go_wp2_with fail
            refine (specHolds_any s c n q (k : Int) As (some ⟨g, off, none⟩) Ac cs cr cc _ p1 p2 p3 p4.out HM.out.rs HM.out.rr HC.out).mono ?_
            rintro e w6 ⟨rfl, hb⟩
            rw [HV.out]
            have HB6 := Lib.hid (bl_trans HB.out hb)
            clear hb
            go_wp2
            go_ret
            exact ⟨rfl, HB6.out⟩
          · subst k1
            have e2 : (bd == -1000) = false := by rw [beq_eq_false_iff_ne]; exact bm
            obtain ⟨b1, b2, b3, b4, -⟩ := HR2.out hk rfl
            have HNN := Lib.hid (HN2.out rfl bm)
            have HWT := Lib.hid b4
            have HB3 := Lib.hid b3
            clear b4 b3 HR2 HN2
            have hw1 : IntKind.i64.wrap (1 - bd) = 1 - bd := IntWalk.i64_in _ (by omega)
            have hw2 : wrap64 (1 - bd) = 1 - bd := IntWalk.wrap64_in _ (by omega)
            go_upto_region 7 with fail
            go_cut [7] from 10 (fun s7 wx => s7 = .pointer (some ⟨w5.heap.size, 0, none⟩) ∧ wx = w5.alloc (.cells #[.int .i64 1, .slice Av v.n cv, .slice Aq cn cq, .int .i64 bd, .slice Az qn cz] 36))
            case first =>
              go_wp2
              go_meet
              case rel => exact ⟨rfl, rfl⟩
            case rest =>
              obtain ⟨e7, ew⟩ := hcut
              subst e7
              subst ew
              have hbl := bl_alloc (bl_alloc (Below.refl w5.heap.size w5) (.cells #[.int .i64 1, .slice Av v.n cv, .slice Aq cn cq, .int .i64 bd, .slice Az qn cz] 36)) (.cells #[.int .i64 1, .slice Av v.n cv, .slice none 0 0, .int .i64 (1 - bd), .slice none 0 0] 36)
              have hsz : ((w5.alloc (.cells #[.int .i64 1, .slice Av v.n cv, .slice Aq cn cq, .int .i64 bd, .slice Az qn cz] 36)).alloc (.cells #[.int .i64 1, .slice Av v.n cv, .slice none 0 0, .int .i64 (1 - bd), .slice none 0 0] 36)).heap.size = w5.heap.size + 1 + 1 := by simp
              have d2 : ((w5.alloc (.cells #[.int .i64 1, .slice Av v.n cv, .slice Aq cn cq, .int .i64 bd, .slice Az qn cz] 36)).alloc (.cells #[.int .i64 1, .slice Av v.n cv, .slice none 0 0, .int .i64 (1 - bd), .slice none 0 0] 36)).cell? ⟨w5.heap.size, 2, none⟩ = some (.slice Aq cn cq) := by go_simp
              have r0 : ((w5.alloc (.cells #[.int .i64 1, .slice Av v.n cv, .slice Aq cn cq, .int .i64 bd, .slice Az qn cz] 36)).alloc (.cells #[.int .i64 1, .slice Av v.n cv, .slice none 0 0, .int .i64 (1 - bd), .slice none 0 0] 36)).cell? ⟨w5.heap.size + 1, 0, none⟩ = some (.int .i64 1) := by go_simp
              have r1 : ((w5.alloc (.cells #[.int .i64 1, .slice Av v.n cv, .slice Aq cn cq, .int .i64 bd, .slice Az qn cz] 36)).alloc (.cells #[.int .i64 1, .slice Av v.n cv, .slice none 0 0, .int .i64 (1 - bd), .slice none 0 0] 36)).cell? ⟨w5.heap.size + 1, 1, none⟩ = some (.slice Av v.n cv) := by go_simp
              have r2 : ((w5.alloc (.cells #[.int .i64 1, .slice Av v.n cv, .slice Aq cn cq, .int .i64 bd, .slice Az qn cz] 36)).alloc (.cells #[.int .i64 1, .slice Av v.n cv, .slice none 0 0, .int .i64 (1 - bd), .slice none 0 0] 36)).cell? ⟨w5.heap.size + 1, 2, none⟩ = some (.slice none 0 0) := by go_simp
              have r3 : ((w5.alloc (.cells #[.int .i64 1, .slice Av v.n cv, .slice Aq cn cq, .int .i64 bd, .slice Az qn cz] 36)).alloc (.cells #[.int .i64 1, .slice Av v.n cv, .slice none 0 0, .int .i64 (1 - bd), .slice none 0 0] 36)).cell? ⟨w5.heap.size + 1, 3, none⟩ = some (.int .i64 (1 - bd)) := by go_simp
              have r4 : ((w5.alloc (.cells #[.int .i64 1, .slice Av v.n cv, .slice Aq cn cq, .int .i64 bd, .slice Az qn cz] 36)).alloc (.cells #[.int .i64 1, .slice Av v.n cv, .slice none 0 0, .int .i64 (1 - bd), .slice none 0 0] 36)).cell? ⟨w5.heap.size + 1, 4, none⟩ = some (.slice none 0 0) := by go_simp
              have r2f : ((w5.alloc (.cells #[.int .i64 1, .slice Av v.n cv, .slice Aq cn cq, .int .i64 bd, .slice Az qn cz] 36)).alloc (.cells #[.int .i64 1, .slice Av v.n cv, .slice none 0 0, .int .i64 (1 - bd), .slice none 0 0] 36)).frozen? ⟨w5.heap.size + 1, 2, none⟩ = false := by go_simp
              have HA := Lib.hid (show AX w5 ((w5.alloc (.cells #[.int .i64 1, .slice Av v.n cv, .slice Aq cn cq, .int .i64 bd, .slice Az qn cz] 36)).alloc (.cells #[.int .i64 1, .slice Av v.n cv, .slice none 0 0, .int .i64 (1 - bd), .slice none 0 0] 36)) ((w5.alloc (.cells #[.int .i64 1, .slice Av v.n cv, .slice Aq cn cq, .int .i64 bd, .slice Az qn cz] 36)).alloc (.cells #[.int .i64 1, .slice Av v.n cv, .slice none 0 0, .int .i64 (1 - bd), .slice none 0 0] 36)) (w5.heap.size + 1 + 1) (w5.heap.size + 1) 2 (.slice none 0 0) 0 (fun t => -x t) from ⟨by omega, by omega, by rw [hsz]; omega, ⟨r2, r2f⟩, fun _ _ _ => rfl, OX.nil, hbl⟩)
              have R0 := Lib.hid r0
              have R1 := Lib.hid r1
              have R3 := Lib.hid r3
              have R4 := Lib.hid r4
              have D2 := Lib.hid d2
              clear r0 r1 r2 r3 r4 r2f d2 z0 z1 z2 z3 z4 hsz x1
              have X0 := Lib.hid x0
              clear x0
              go_wp2
              generalize ((w5.alloc (.cells #[.int .i64 1, .slice Av v.n cv, .slice Aq cn cq, .int .i64 bd, .slice Az qn cz] 36)).alloc (.cells #[.int .i64 1, .slice Av v.n cv, .slice none 0 0, .int .i64 (1 - bd), .slice none 0 0] 36)) = w6 at *
              obtain ⟨Bx, hBx⟩ : ∃ Bx, w5.heap.size = Bx := ⟨_, rfl⟩
              obtain ⟨G, hG⟩ : ∃ G, Bx + 1 = G := ⟨_, rfl⟩
              obtain ⟨lo, hlo⟩ : ∃ lo, Bx + 1 + 1 = lo := ⟨_, rfl⟩
              have hBG : Bx < lo ∧ G < lo ∧ Bx ≠ G := by omega
              have hXB : X < Bx := by rw [← hBx]; exact World.block_lt_of_cell? w5 ⟨X, 0, none⟩ X0.out
              simp only [hBx] at HA R0 R1 R3 R4 D2 ⊢
              simp only [hlo] at HA
              simp only [hG] at HA R0 R1 R3 R4 ⊢
              have HBL := Lib.hid hbl
              clear hG hlo hbl hBx
              go_loopw [9] (fun c wr => ∃ (i : Nat) (V : Value), i ≤ cn ∧ c = .int .i64 i ∧ AX w5 w6 wr lo G 2 V i (fun t => -x t)) (fun c _ => cn - (intOf c).toNat)
              case atStart => exact ⟨0, _, Nat.zero_le _, rfl, HA.out⟩
              case round =>
                obtain ⟨i, V, hi, rfl, hax⟩ := hrel
                have AXk := Lib.hid hax
                obtain ⟨Ak, ck, rfl⟩ := hax.ox.head
                have d2 := (hax.oth ⟨Bx, 2, none⟩ hBG.1 (by intro e; injection e with e1; exact hBG.2.2 e1)).trans D2.out
                obtain ⟨gc, gf⟩ := hax.cel
                clear hax HA
                by_cases hlt : i < cn
                · have hltI : (i : Int) < (cn : Int) := by omega
                  have hiI : (0 : Int) ≤ (i : Int) := by omega
                  obtain ⟨bq, oq, eQ, hbq, hxq⟩ := (RC.out.later AXk.out.bl) (by omega)
                  subst eQ
                  have qx := hxq i hlt
                  clear hxq
                  have hwt := prE_at HWT.out hlt
                  have hxb : -9 ≤ x i ∧ x i ≤ 9 := by unfold wtB at hwt; simp at hwt; omega
                  clear hwt
                  obtain ⟨z, hz⟩ : ∃ z, x i = z := ⟨_, rfl⟩
                  have HZ := Lib.hid hz
                  rw [hz] at qx hxb
                  clear hz
                  have hwz : IntKind.i64.wrap (-z) = -z := IntWalk.i64_in _ (by omega)
                  go_upto_region 12 with fail
                  have hown : ∀ b, (Value.slice Ak i ck).ownBlock = some b → b ≠ G := fun b e => by have := (World.ownsRow.lt AXk.out.ox b e).1; have := AXk.out.hG; omega
                  refine region_steps (J := fun _ L a' w' => ∃ u88 u89 u90 u91 u92 u93 u94 u95 u96 u97 u98 : Value, a' = ⟨#[.slice A0 n0 cap0, undef, .bool false, .pointer (some ⟨X, 0, none⟩), .int .i64 k, .slice Ac c.n cc, .bool b, .pointer (some ⟨Bx, 0, none⟩), .pointer (some ⟨G, 0, none⟩), .int .i64 i, u10, u11, u12, u13, u14, u15, u16, u17, u18, u19, u20, u21, u22, u23, u24, u25, u26, u27, u28, u29, u30, u31, u32, u33, u34, u35, u36, u37, u38, u39, u40, u41, u42, u43, u44, u45, u46, u47, u48, u49, u50, u51, u52, u53, u54, u55, u56, u57, u58, u59, u60, u61, u62, u63, u64, u65, u66, u67, u68, u69, u70, u71, u72, u73, u74, .pointer (some ⟨Bx, 1, none⟩), .slice Av v.n cv, .pointer (some ⟨Bx, 3, none⟩), .int .i64 bd, .int .i64 (1 - bd), .agg #[.int .i64 1, .slice Av v.n cv, .slice none 0 0, .int .i64 (1 - bd), .slice none 0 0], .int .i64 i, .pointer (some ⟨Bx, 2, none⟩), .slice (some ⟨bq, oq, none⟩) cn cq, .int .i64 cn, .bool true, u86, u87, u88, u89, u90, u91, u92, u93, u94, u95, u96, u97, u98, u99, u100, u101, u102, u103, u104, u105, u106, u107, u108], []⟩ ∧ F12 wr Bx G i (.slice Ak i ck) bq oq cn cq lo z (fun t => -x t) L w' u88 u89 u90 u91 u92 u93 u94 u95 u96 u97 u98) [[], [0], [], [2], [], [3, 4], [5], [6], [7], [1, 8], [0, 1, 2, 3, 4, 5, 6, 7, 8, 9], [10, 9]] (by kernel_rfl) (by kernel_rfl) ?_ ⟨?_, ?_, ?_, ?_, ?_, ?_, ?_, ?_, ?_, ?_, ?_, ?_, trivial⟩ ?_
                  · intro L hL
                    exact ⟨_, _, _, _, _, _, _, _, _, _, _, rfl, ⟨fun _ => (Below.refl wr.heap.size wr).drew, fun h => tf8 h (hL 0 (by decide)), fun h => tf8 h (hL 1 (by decide)), fun h => tf8 h (hL 2 (by decide)), fun h => tf8 h (hL 3 (by decide)), fun h => tf8 h (hL 4 (by decide)), fun h => tf8 h (hL 5 (by decide)), fun h => tf8 h (hL 6 (by decide)), fun h => tf8 h (hL 7 (by decide)), fun h => tf8 h (hL 8 (by decide)), fun h => tf8 h (hL 9 (by decide)), fun h => tf8 h (hL 10 (by decide))⟩⟩
                  · intro L hL hd hc a w5 hI K' hK'
                    obtain ⟨u88, u89, u90, u91, u92, u93, u94, u95, u96, u97, u98, rfl, hF⟩ := hI
                    have hn : L 9 = false := by
                      cases h : L 9 with
                      | false => rfl
                      | true => exact tf8 (hc 1 0 (by simp) (hc 9 1 (by simp) h)) hL
                    go_simp
                    refine hK' _ _ ⟨_, _, _, _, _, _, _, _, _, _, _, rfl, ⟨hF.bel, fun _ => rfl, hF.a1, hF.a2, hF.a3, hF.a4, hF.a5, hF.a6, hF.a7, hF.a8, hF.a9, hF.a10⟩⟩
                  · intro L hL hd hc a w5 hI K' hK'
                    obtain ⟨u88, u89, u90, u91, u92, u93, u94, u95, u96, u97, u98, rfl, hF⟩ := hI
                    have hn : L 9 = false := by
                      cases h : L 9 with
                      | false => rfl
                      | true => exact tf8 (hc 9 1 (by simp) h) hL
                    obtain rfl := hF.a0 (hd 0 (by simp))
                    have hz := kc (hF.bel hn) gc
                    go_simp
                    refine hK' _ _ ⟨_, _, _, _, _, _, _, _, _, _, _, rfl, ⟨hF.bel, hF.a0, fun _ => rfl, hF.a2, hF.a3, hF.a4, hF.a5, hF.a6, hF.a7, hF.a8, hF.a9, hF.a10⟩⟩
                  · intro L hL hd hc a w5 hI K' hK'
                    obtain ⟨u88, u89, u90, u91, u92, u93, u94, u95, u96, u97, u98, rfl, hF⟩ := hI
                    have hn : L 9 = false := by
                      cases h : L 9 with
                      | false => rfl
                      | true => exact tf8 (hc 3 2 (by simp) (hc 5 3 (by simp) (hc 6 5 (by simp) (hc 7 6 (by simp) (hc 8 7 (by simp) (hc 9 8 (by simp) h)))))) hL
                    go_simp
                    refine hK' _ _ ⟨_, _, _, _, _, _, _, _, _, _, _, rfl, ⟨hF.bel, hF.a0, hF.a1, fun _ => rfl, hF.a3, hF.a4, hF.a5, hF.a6, hF.a7, hF.a8, hF.a9, hF.a10⟩⟩
                  · intro L hL hd hc a w5 hI K' hK'
                    obtain ⟨u88, u89, u90, u91, u92, u93, u94, u95, u96, u97, u98, rfl, hF⟩ := hI
                    have hn : L 9 = false := by
                      cases h : L 9 with
                      | false => rfl
                      | true => exact tf8 (hc 5 3 (by simp) (hc 6 5 (by simp) (hc 7 6 (by simp) (hc 8 7 (by simp) (hc 9 8 (by simp) h))))) hL
                    obtain rfl := hF.a2 (hd 2 (by simp))
                    have hz := kc (hF.bel hn) d2
                    go_simp
                    refine hK' _ _ ⟨_, _, _, _, _, _, _, _, _, _, _, rfl, ⟨hF.bel, hF.a0, hF.a1, hF.a2, fun _ => rfl, hF.a4, hF.a5, hF.a6, hF.a7, hF.a8, hF.a9, hF.a10⟩⟩
                  · intro L hL hd hc a w5 hI K' hK'
                    obtain ⟨u88, u89, u90, u91, u92, u93, u94, u95, u96, u97, u98, rfl, hF⟩ := hI
                    have hn : L 9 = false := by
                      cases h : L 9 with
                      | false => rfl
                      | true => exact tf8 (hc 5 4 (by simp) (hc 6 5 (by simp) (hc 7 6 (by simp) (hc 8 7 (by simp) (hc 9 8 (by simp) h))))) hL
                    go_simp
                    refine hK' _ _ ⟨_, _, _, _, _, _, _, _, _, _, _, rfl, ⟨hF.bel, hF.a0, hF.a1, hF.a2, hF.a3, fun _ => rfl, hF.a5, hF.a6, hF.a7, hF.a8, hF.a9, hF.a10⟩⟩
                  · intro L hL hd hc a w5 hI K' hK'
                    obtain ⟨u88, u89, u90, u91, u92, u93, u94, u95, u96, u97, u98, rfl, hF⟩ := hI
                    have hn : L 9 = false := by
                      cases h : L 9 with
                      | false => rfl
                      | true => exact tf8 (hc 6 5 (by simp) (hc 7 6 (by simp) (hc 8 7 (by simp) (hc 9 8 (by simp) h)))) hL
                    obtain rfl := hF.a3 (hd 3 (by simp))
                    obtain rfl := hF.a4 (hd 4 (by simp))
                    go_simp
                    refine hK' _ _ ⟨_, _, _, _, _, _, _, _, _, _, _, rfl, ⟨hF.bel, hF.a0, hF.a1, hF.a2, hF.a3, hF.a4, fun _ => rfl, hF.a6, hF.a7, hF.a8, hF.a9, hF.a10⟩⟩
                  · intro L hL hd hc a w5 hI K' hK'
                    obtain ⟨u88, u89, u90, u91, u92, u93, u94, u95, u96, u97, u98, rfl, hF⟩ := hI
                    have hn : L 9 = false := by
                      cases h : L 9 with
                      | false => rfl
                      | true => exact tf8 (hc 7 6 (by simp) (hc 8 7 (by simp) (hc 9 8 (by simp) h))) hL
                    obtain rfl := hF.a5 (hd 5 (by simp))
                    have hz := kc (hF.bel hn) qx
                    go_simp
                    refine hK' _ _ ⟨_, _, _, _, _, _, _, _, _, _, _, rfl, ⟨hF.bel, hF.a0, hF.a1, hF.a2, hF.a3, hF.a4, hF.a5, fun _ => rfl, hF.a7, hF.a8, hF.a9, hF.a10⟩⟩
                  · intro L hL hd hc a w5 hI K' hK'
                    obtain ⟨u88, u89, u90, u91, u92, u93, u94, u95, u96, u97, u98, rfl, hF⟩ := hI
                    have hn : L 9 = false := by
                      cases h : L 9 with
                      | false => rfl
                      | true => exact tf8 (hc 8 7 (by simp) (hc 9 8 (by simp) h)) hL
                    obtain rfl := hF.a6 (hd 6 (by simp))
                    go_simp
                    refine hK' _ _ ⟨_, _, _, _, _, _, _, _, _, _, _, rfl, ⟨hF.bel, hF.a0, hF.a1, hF.a2, hF.a3, hF.a4, hF.a5, hF.a6, fun _ => rfl, hF.a8, hF.a9, hF.a10⟩⟩
                  · intro L hL hd hc a w5 hI K' hK'
                    obtain ⟨u88, u89, u90, u91, u92, u93, u94, u95, u96, u97, u98, rfl, hF⟩ := hI
                    have hn : L 9 = false := by
                      cases h : L 9 with
                      | false => rfl
                      | true => exact tf8 (hc 9 8 (by simp) h) hL
                    obtain rfl := hF.a7 (hd 7 (by simp))
                    go_simp
                    refine hK' _ _ ⟨_, _, _, _, _, _, _, _, _, _, _, rfl, ⟨fun _ => bl_alloc (hF.bel hn) _, hF.a0, hF.a1, hF.a2, hF.a3, hF.a4, hF.a5, hF.a6, hF.a7, fun _ => ⟨_, rfl, fun _ => heap_alloc_new _ _⟩, fun h => tf8 h hn, hF.a10⟩⟩
                  · intro L hL hd hc a w5 hI K' hK'
                    obtain ⟨u88, u89, u90, u91, u92, u93, u94, u95, u96, u97, u98, rfl, hF⟩ := hI
                    obtain rfl := hF.a1 (hd 1 (by simp))
                    obtain ⟨p, rfl, hp⟩ := hF.a8 (hd 8 (by simp))
                    have hbl := (hF.bel hL).size
                    have hs5 := AXk.out.hs
                    refine wp_ox1 (k := i) (v := fun t => -x t) _ _ (by rfl) (AXk.out.ox.kept (gb_of (hF.bel hL)) (fun _ e => by cases e)) (Nat.le_trans hs5 hbl) (by rfl) (by rfl) (by rw [← HZ.out]) (hp hL) (by omega) ?_
                    intro g' c' w7 hox hgr
                    go_simp
                    refine hK' _ _ ⟨_, _, _, _, _, _, _, _, _, _, _, rfl, ⟨fun h => tf8 (show true = true from rfl) h, hF.a0, hF.a1, hF.a2, hF.a3, hF.a4, hF.a5, hF.a6, hF.a7, fun _ => ⟨_, rfl, fun h => tf8 (show true = true from rfl) h⟩, fun _ => ⟨g', c', rfl, w5, w7, hF.bel hL, hgr, hox, fun _ => rfl, fun h => tf8 (hc 11 9 (by simp) h) hL⟩, hF.a10⟩⟩
                  · intro L hL hd hc a w5 hI K' hK'
                    obtain ⟨u88, u89, u90, u91, u92, u93, u94, u95, u96, u97, u98, rfl, hF⟩ := hI
                    go_simp
                    refine hK' _ _ ⟨_, _, _, _, _, _, _, _, _, _, _, rfl, ⟨hF.bel, hF.a0, hF.a1, hF.a2, hF.a3, hF.a4, hF.a5, hF.a6, hF.a7, hF.a8, hF.a9, fun _ => rfl⟩⟩
                  · intro L hL hd hc a w5 hI K' hK'
                    obtain ⟨u88, u89, u90, u91, u92, u93, u94, u95, u96, u97, u98, rfl, hF⟩ := hI
                    obtain ⟨g', c', rfl, w', w'', hb, hgr, hox, e1, -⟩ := hF.a9 (hd 9 (by simp))
                    obtain rfl := hF.a10 (hd 10 (by simp))
                    obtain rfl := e1 hL
                    obtain ⟨gca, gcb⟩ := (AXk.out.cel.below hb).grow hgr hown
                    go_simp
                    refine hK' _ _ ⟨_, _, _, _, _, _, _, _, _, _, _, rfl, ⟨fun h => tf8 (hd 9 (by simp)) h, hF.a0, hF.a1, hF.a2, hF.a3, hF.a4, hF.a5, hF.a6, hF.a7, fun h8 => by obtain ⟨p, e, _⟩ := hF.a8 h8; exact ⟨p, e, fun h => tf8 (hd 9 (by simp)) h⟩, fun _ => ⟨g', c', rfl, w', _, hb, hgr, hox, fun h => tf8 (show true = true from rfl) h, fun _ => rfl⟩, hF.a10⟩⟩
                  · intro L hL a' w5 hI
                    obtain ⟨u88, u89, u90, u91, u92, u93, u94, u95, u96, u97, u98, rfl, hF⟩ := hI
                    obtain ⟨g', c', rfl, w', w'', hb, hgr, hox, -, e2⟩ := hF.a9 (hL 9)
                    obtain rfl := e2 (hL 11)
                    have AXn := Lib.hid (AXk.out.step hb hgr hox)
                    clear hF hb hgr hox e2 hL AXk qx
                    go_wp2
                    go_roundw
                    case rel => exact ⟨i + 1, _, by omega, by go_num, AXn.out⟩
                    case measure => simp [intOf]; omega
                · obtain rfl : i = cn := by omega
                  have hrdc := AXk.out.ox.rd
                  have g0 := (AXk.out.oth ⟨G, 0, none⟩ hBG.2.1 (by intro e; injection e with e1 e2; omega)).trans R0.out
                  have g1 := (AXk.out.oth ⟨G, 1, none⟩ hBG.2.1 (by intro e; injection e with e1 e2; omega)).trans R1.out
                  have g3 := (AXk.out.oth ⟨G, 3, none⟩ hBG.2.1 (by intro e; injection e with e1 e2; omega)).trans R3.out
                  have g4 := (AXk.out.oth ⟨G, 4, none⟩ hBG.2.1 (by intro e; injection e with e1 e2; omega)).trans R4.out
                  have x0 := kc AXk.out.bl X0.out
                  have hal := bl_alloc (Below.refl wr.heap.size wr) (.cells #[.int .i64 1, .slice Av v.n cv, .slice Ak i ck, .int .i64 (1 - bd), .slice none 0 0] 36)
                  have h0c : (wr.alloc (.cells #[.int .i64 1, .slice Av v.n cv, .slice Ak i ck, .int .i64 (1 - bd), .slice none 0 0] 36)).cell? ⟨wr.heap.size, 0, none⟩ = some (.int .i64 1) := by go_simp
                  have h1c : (wr.alloc (.cells #[.int .i64 1, .slice Av v.n cv, .slice Ak i ck, .int .i64 (1 - bd), .slice none 0 0] 36)).cell? ⟨wr.heap.size, 1, none⟩ = some (.slice Av v.n cv) := by go_simp
                  have h2c : (wr.alloc (.cells #[.int .i64 1, .slice Av v.n cv, .slice Ak i ck, .int .i64 (1 - bd), .slice none 0 0] 36)).cell? ⟨wr.heap.size, 2, none⟩ = some (.slice Ak i ck) := by go_simp
                  have h3c : (wr.alloc (.cells #[.int .i64 1, .slice Av v.n cv, .slice Ak i ck, .int .i64 (1 - bd), .slice none 0 0] 36)).cell? ⟨wr.heap.size, 3, none⟩ = some (.int .i64 (1 - bd)) := by go_simp
                  have h4c : (wr.alloc (.cells #[.int .i64 1, .slice Av v.n cv, .slice Ak i ck, .int .i64 (1 - bd), .slice none 0 0] 36)).cell? ⟨wr.heap.size, 4, none⟩ = some (.slice none 0 0) := by go_simp
                  have HQ := Lib.hid (rd_neg (q := ⟨1, v, ⟨i, x⟩, bd, qn, r⟩) (show wr.heap.size < (wr.alloc (.cells #[.int .i64 1, .slice Av v.n cv, .slice Ak i ck, .int .i64 (1 - bd), .slice none 0 0] 36)).heap.size by simp) h0c h1c h2c h3c h4c ((RV.out.later AXk.out.bl).later hal) (hrdc.later hal))
                  have HS := Lib.hid ((HM.out.rs.later AXk.out.bl).later hal)
                  have HC' := Lib.hid ((HC.out.later AXk.out.bl).later hal)
                  have HB' := Lib.hid (bl_trans (bl_trans HB.out AXk.out.bl) hal)
                  have P5 := Lib.hid (show ∀ j, j < 1 → ((fun _ => negQ ⟨1, v, ⟨i, x⟩, bd, qn, r⟩ : Nat → Rul) j).fit 1048576 from fun j _ => ⟨HF.out.1, HF.out.2.1, by show 0 ≤ _; omega, fun i hi => absurd hi (by show ¬ i < 0; omega)⟩)
                  clear hrdc h0c h1c h2c h3c h4c HC HB HM AXk R0 R1 R3 R4 D2 RV RC hal gf HBL
                  have HC := HC'
                  have HB := HB'
                  clear HC' HB'
                  go_wp2_with fail
                  refine (implHolds_any s c 1 (fun _ => negQ ⟨1, v, ⟨i, x⟩, bd, qn, r⟩) 0 As (some ⟨wr.heap.size, 0, none⟩) Ac cs 1 cc _ p1 p2 (by omega) P5.out HS.out HQ.out HC.out).mono ?_
                  rintro e w9 ⟨rfl, hb⟩
                  rw [HNN.out]
                  have HB9 := Lib.hid (bl_trans HB.out hb)
                  clear hb HNN
                  cases b with
                  | false =>
                    go_wp2
                    go_ret
                    exact ⟨rfl, HB9.out⟩
                  | true =>
                    go_wp2
                    go_ret
                    exact ⟨rfl, HB9.out⟩
        · have e1 : (kd == 1) = false := by rw [beq_eq_false_iff_ne]; exact k1
          clear HR2 HN2
          go_wp2_with fail
          refine (specHolds_any s c n q (k : Int) As (some ⟨g, off, none⟩) Ac cs cr cc _ p1 p2 p3 p4.out HM.out.rs HM.out.rr HC.out).mono ?_
          rintro e w6 ⟨rfl, hb⟩
          rw [HV.out]
          have HB6 := Lib.hid (bl_trans HB.out hb)
          clear hb
          go_wp2
          go_ret
          exact ⟨rfl, HB6.out⟩

set_option linter.unusedSimpArgs false in
set_option linter.unusedVariables false in
set_option maxRecDepth 100000 in
set_option maxHeartbeats 6400000 in
theorem lawFnRuleLinear_walk (A0 : Option Addr) (n0 cap0 : Nat) (y0 : Nat → Int) (w : World) (hm0 : n0 ≤ maxLen) (hc0 : n0 ≤ cap0) (hr0 : RdY w w.heap.size A0 n0 y0) :
    Calls Try.prog 6 #[.slice A0 n0 cap0] w fun e w' => e = .returned (.bool true) ∧ Below w.heap.size w w' := by
  by_cases h0 : n0 ≤ 1048576
  · exact lawFnRuleLinear_ok A0 n0 cap0 y0 w h0 hc0 hr0
  · unfold maxLen at hm0
    have hi0 : (1048576 : Int) < (n0 : Int) := by omega
    go_enter Try.func6, Try.ntmps6
    go_wp2
    go_ret
    exact ⟨rfl, Below.refl _ _⟩
end Go.Proofs.Ythjcbaccoogloaa
