/- The iterator over the pairs of terms of two constraints (no claim of its own). Conditions: as each theorem states. -/
import Derived.Test.YtaghnjkpanjioaaPairA
import Derived.Test.YtaghnjkpanjioaaPairB
import Derived.Test.YtaghnjkpanjioaaOutC
import Derived.Shelf.Abstract
import Derived.Shelf.RegionOpen
import Derived.OwnWalkIn
import Derived.TacticsInMore
import Derived.LoopNIn
import Derived.LoopIn
import Derived.Outline
namespace Go.Proofs.Ytaghnjkpanjioaa
open Go.ChangeShapes Go.WideShapes Go.ChangeAt Go.RowKit Go.Shelf

attribute [local go_sem] Oper.semAt_some

structure Aim (X : Prop) : Prop where
  out : X
theorem shared {X G : Prop} (h : Aim X → G) (x : X) : G := h ⟨x⟩
theorem Cel.same {W W' : World} {j o : Nat} {v : Value} (h : Cel W j o v) (hh : W'.heap[j]? = W.heap[j]?) : Cel W' j o v :=
  ⟨(World.cell?_of_block (w := W) hh).trans h.1, by have := h.2; simp only [World.frozen?, hh] at this ⊢; exact this⟩
theorem Cel.lt {W : World} {j o : Nat} {v : Value} (h : Cel W j o v) : j < W.heap.size := World.block_lt_of_cell? W ⟨j, o, none⟩ h.1

/-- A captured variable that holds m terms, the rows from place i on. -/
def Var (W : World) (n₀ B : Nat) (c l : Nat → Int) (i m : Nat) : Prop :=
  ∃ (A : Option Addr) (cap : Nat), m ≤ cap ∧ Cel W B 0 (.slice A m cap) ∧ Rd W n₀ A m (fun t => c (i + t)) (fun t => l (i + t))
theorem rd_same {W W' : World} {n₀ : Nat} {A : Option Addr} {m : Nat} {c l : Nat → Int} (h : Rd W n₀ A m c l) (hh : ∀ k, k < n₀ → W'.heap[k]? = W.heap[k]?) : Rd W' n₀ A m c l := fun hm => by
  obtain ⟨b, off, e, hb, hc⟩ := h hm
  exact ⟨b, off, e, hb, fun t ht => ⟨(World.cell?_of_block (w := W) (hh b hb)).trans (hc t ht).1, (World.cell?_of_block (w := W) (hh b hb)).trans (hc t ht).2⟩⟩
theorem Var.same {W W' : World} {n₀ B : Nat} {c l : Nat → Int} {i m : Nat} (h : Var W n₀ B c l i m) (hh : ∀ k, (k < n₀ ∨ k = B) → W'.heap[k]? = W.heap[k]?) : Var W' n₀ B c l i m := by
  obtain ⟨A, cap, h0, h1, h2⟩ := h
  exact ⟨A, cap, h0, h1.same (hh B (.inr rfl)), rd_same h2 fun k hk => hh k (.inl hk)⟩
def lenAt (W : World) (B : Nat) : Nat := match W.cell? ⟨B, 0, none⟩ with | some (.slice _ n _) => n | _ => 0
theorem Var.len {W : World} {n₀ B : Nat} {c l : Nat → Int} {i m : Nat} (h : Var W n₀ B c l i m) : lenAt W B = m := by
  obtain ⟨A, cap, _, h1, _⟩ := h
  unfold lenAt
  rw [h1.1]
/-- The variable behind 'a = a[1:]'. -/
theorem Var.next {W W' : World} {n₀ B b off cap : Nat} {c l : Nat → Int} {i m : Nat} (hr : Rd W n₀ (some ⟨b, off, none⟩) m (fun t => c (i + t)) (fun t => l (i + t))) (hm : 0 < m) (hcap : m ≤ cap)
    (hc : Cel W' B 0 (.slice (if cap = 1 then some ⟨b, off, none⟩ else some ⟨b, off + 2, none⟩) (m - 1) (cap - 1))) (hh : ∀ k, k < n₀ → W'.heap[k]? = W.heap[k]?) : Var W' n₀ B c l (i + 1) (m - 1) := by
  refine ⟨_, _, by omega, hc, fun hm1 => ?_⟩
  obtain ⟨b', off', e, hb, hx⟩ := rd_same hr hh hm
  cases e
  refine ⟨b, off + 2, by rw [if_neg (by omega)], hb, fun t ht => ?_⟩
  obtain ⟨h1, h2⟩ := hx (t + 1) (by omega)
  have e1 : off + 2 + t * 2 = off + (t + 1) * 2 := by omega
  have e2 : i + 1 + t = i + (t + 1) := by omega
  dsimp only
  rw [e1, e2]
  exact ⟨h1, h2⟩

def enc2 (x : (Int × Int) × (Int × Int)) : Array Value := #[.agg #[.int .i64 x.1.1, .int .i64 x.1.2], .agg #[.int .i64 x.2.1, .int .i64 x.2.2]]
theorem Mv.of_below {K : Nat → Prop} {A B : World} (h : Below A.heap.size A B) : Mv K A B := ⟨h.os, h.tape, h.output, h.size, fun k hk _ => h.block k hk⟩

set_option maxRecDepth 100000 in
set_option maxHeartbeats 6400000 in
theorem pairs_in (F : Fence) (n : Nat) (h58 : F.fn 170) (h59 : F.fn 171) (hro : F.round = none) (hn : 1 ≤ n) (l1 n₀ B1 : Nat) (c l c' l' : Nat → Int) (N N' : Nat) (hN : N ≤ 1048576) (hN' : N' ≤ 1048576)
    (hli : ∀ i, i < N → litB (l i) = true) (hli' : ∀ i, i < N' → litB (l' i) = true)
    (hcf : ∀ (A A' : Option Addr) (m m' cap cap' : Nat) (c l c' l' : Nat → Int) (w : World) (_ : m ≤ 1048576) (_ : m' ≤ 1048576) (_ : Rd w w.heap.size A m c l) (_ : Rd w w.heap.size A' m' c' l') (_ : 0 < m → litB (l 0) = true) (_ : 0 < m' → litB (l' 0) = true),
      CallsIn F (n - 1) Try.prog 171 #[.slice A m cap, .slice A' m' cap'] w fun e w' => e = .returned (.int .i64 (ordC m l m' l')) ∧ Below w.heap.size w w')
    (J : List ((Int × Int) × (Int × Int)) → World → Prop) (W : World)
    (hJ : ∀ pre A B, J pre A → Mv (fun k => k = B1 ∨ k = B1 + 1) A B → J pre B)
    (hY : ∀ pre x W1, J pre W1 → pre ++ [x] <+: prs (lst c l 0 N) (lst c' l' 0 N') → YieldAt F (n - 1) Try.prog l1 (enc2 x) W1 fun e W' => e = .returned (.bool true) ∧ J (pre ++ [x]) W' ∧ Held n₀ B1 (B1 + 1) W1 W' ∧ W1.heap.size ≤ W'.heap.size)
    (h0 : J [] W) (hB : n₀ ≤ B1) (hv : Var W n₀ B1 c l 0 N) (hv' : Var W n₀ (B1 + 1) c' l' 0 N') :
    CallsIn F n Try.prog 170 #[.func (.yield l1) #[] #[], .pointer (some ⟨B1, 0, none⟩), .pointer (some ⟨B1 + 1, 0, none⟩)] W fun e W' => (∃ v, e = .returned v) ∧ J (prs (lst c l 0 N) (lst c' l' 0 N')) W' := by
  have HJ := Lib.hid hJ
  have HY := Lib.hid hY
  clear hJ hY
  refine callsIn_of_wp Try.func170 rfl h58 ?_ hro
  simp only [Try.ntmps170, List.size_toArray, List.length_cons, List.length_nil, Nat.reduceAdd, Nat.reduceSub, Array.replicate_succ, Array.replicate_zero, List.push_toArray, List.append_toArray, List.nil_append, List.cons_append]
  gi_wp2
  gi_loopw [] (fun wr => ∃ (i m j m' : Nat) (pre : List ((Int × Int) × (Int × Int))), i + m = N ∧ j + m' = N' ∧ Var wr n₀ B1 c l i m ∧ Var wr n₀ (B1 + 1) c' l' j m' ∧ J pre wr ∧ pre ++ prs (lst c l i m) (lst c' l' j m') = prs (lst c l 0 N) (lst c' l' 0 N')) (fun wr => lenAt wr B1 + lenAt wr (B1 + 1))
  case atStart => exact ⟨0, N, 0, N', [], by omega, by omega, hv, hv', h0, rfl⟩
  case round =>
    obtain ⟨i, m, j, m', pre, him, hjm, hV, hV', hJs, htot⟩ := hrel
    have hms := Lib.hid hV.len
    have hms' := Lib.hid hV'.len
    have HV := Lib.hid hV
    have HV' := Lib.hid hV'
    have HJs := Lib.hid hJs
    obtain ⟨A, cap, hcap, ⟨a0, f0⟩, hr⟩ := hV
    obtain ⟨A', cap', hcap', ⟨a1, f1⟩, hr'⟩ := hV'
    have z1 : B1 + 1 < wr.heap.size := World.block_lt_of_cell? wr _ a1
    have z0 : B1 < wr.heap.size := by omega
    have hmI : m ≤ 1048576 := by omega
    have hmI' : m' ≤ 1048576 := by omega
    have Htot := Lib.hid htot
    clear hJs hv hv' h0 htot
    by_cases hmm : m = 0 ∧ m' = 0
    · obtain ⟨hm0, hm1⟩ := hmm
      subst hm0 hm1
      have hend : pre = prs (lst c l 0 N) (lst c' l' 0 N') := by rw [← Htot.out]; exact (List.append_nil pre).symm
      clear hr hr' hcf hli hli'
      gi_wp2
      go_end0
      exact ⟨⟨_, rfl⟩, by rw [← hend]; exact HJs.out⟩
    · have hrA := (hr.more (B' := wr.heap.size) (by omega))
      have hrA' := (hr'.more (B' := wr.heap.size) (by omega))
      have hal := bl_alloc (bl_alloc (Below.refl wr.heap.size wr) (.cells #[.int .i64 0, .int .i64 0] 38)) (.cells #[.int .i64 0, .int .i64 0] 38)
      have hcall := Lib.hid (hcf A A' m m' cap cap' _ _ _ _ _ hmI hmI' (hrA.later hal) (hrA'.later hal) (fun _ => hli i (by omega)) (fun _ => hli' j (by omega)))
      have hli0 := Lib.hid hli
      clear hcf hli hli' hrA hrA'
      have hpos : 0 < m ∨ (m = 0 ∧ 0 < m') := by omega
      clear hmm
      rcases hpos with hmp | ⟨hm0, hmp'⟩
      · by_cases hm1 : m' = 0
        · subst hm1
          gi_wp2_with fail
          refine hcall.out.mono ?_
          rintro e w2 ⟨rfl, hb⟩
          have t0 : Cel w2 wr.heap.size 0 (.int .i64 0) := ⟨kc hb (by go_simp), kf hb (by first | (simp; done) | (simp; omega)) (by go_simp)⟩
          have t1 : Cel w2 wr.heap.size 1 (.int .i64 0) := ⟨kc hb (by go_simp), kf hb (by first | (simp; done) | (simp; omega)) (by go_simp)⟩
          have t2 : Cel w2 (wr.heap.size + 1) 0 (.int .i64 0) := ⟨kc hb (by go_simp), kf hb (by first | (simp; done) | (simp; omega)) (by go_simp)⟩
          have t3 : Cel w2 (wr.heap.size + 1) 1 (.int .i64 0) := ⟨kc hb (by go_simp), kf hb (by first | (simp; done) | (simp; omega)) (by go_simp)⟩
          have hbb := bl_trans hal hb
          have Hbb := Lib.hid hbb
          have C0 := Lib.hid (Cel.below ⟨a0, f0⟩ hbb)
          have C1 := Lib.hid (Cel.below ⟨a1, f1⟩ hbb)
          have T0 := Lib.hid t0
          have T1 := Lib.hid t1
          have T2 := Lib.hid t2
          have T3 := Lib.hid t3
          replace a0 := kc hbb a0
          replace a1 := kc hbb a1
          replace f0 := kf hbb z0 f0
          replace f1 := kf hbb z1 f1
          obtain ⟨t0, u0⟩ := t0
          obtain ⟨t1, u1⟩ := t1
          obtain ⟨t2, u2⟩ := t2
          obtain ⟨t3, u3⟩ := t3
          have z2 : wr.heap.size + 1 < w2.heap.size := World.block_lt_of_cell? w2 _ t2
          have hmix : Try.prog.follows .mixedOrders = true := by kernel_rfl
          obtain ⟨b, off, rfl, hbl, hc⟩ := hr hmp
          obtain ⟨c1, c2⟩ := hc 0 hmp
          simp only [Nat.zero_mul, Nat.add_zero] at c1 c2
          replace c1 := kc hbb c1
          replace c2 := kc hbb c2
          have hne1 : ¬ B1 = b := by omega
          have hne1' : ¬ b = B1 := by omega
          have hI1 : (0 : Int) < (m : Int) := by omega
          have hI3 : (1 : Int) ≤ (m : Int) := by omega
          have hI5 : (m : Int) ≤ (cap : Int) := by omega
          have hI7 : 1 ≤ m := by omega
          have Hr := Lib.hid hr
          clear hc hr
          clear hb hbb hal
          have hstep : Hid (prs (lst c l i m) (lst c' l' j 0) = ((c i, l i), (0, 0)) :: prs (lst c l (i + 1) (m - 1)) (lst c' l' j 0)) := Lib.hid (by
            obtain ⟨p, rfl⟩ : ∃ p, m = p + 1 := ⟨m - 1, by omega⟩
            exact prs_left
          )
          have ho : ordC m (fun t => l (i + t)) 0 (fun t => l' (j + t)) = -1 := by
            unfold ordC sgnC
            rw [if_pos (.inr rfl)]
            rw [if_pos (by omega)]
          rw [ho]
          clear ho
          gi_wp2_with fail
          refine shared (X := ?XX10) (fun hk => ?ma10) ?re10
          case ma10 =>
            gi_region_with_o (fail)
            all_goals exact hk.out
          have hmv : Mv (fun k => k = B1 ∨ k = B1 + 1) wr (((w2.setCell ⟨wr.heap.size, 0, none⟩ (.int .i64 (c i))).setCell ⟨wr.heap.size, 1, none⟩ (.int .i64 (l i))).setCell ⟨B1, 0, none⟩ (.slice (if cap = 1 then some ⟨b, off, none⟩ else some ⟨b, off + 2, none⟩) (m - 1) (cap - 1))).drew := ((((Mv.of_below (K := fun k => k = B1 ∨ k = B1 + 1) Hbb.out).setCell (.inr (Nat.le_refl _)) _).setCell (.inr (Nat.le_refl _)) _).setCell (.inl (.inl rfl)) _).drew
          have hlow : ∀ k, k < n₀ → (((w2.setCell ⟨wr.heap.size, 0, none⟩ (.int .i64 (c i))).setCell ⟨wr.heap.size, 1, none⟩ (.int .i64 (l i))).setCell ⟨B1, 0, none⟩ (.slice (if cap = 1 then some ⟨b, off, none⟩ else some ⟨b, off + 2, none⟩) (m - 1) (cap - 1))).drew.heap[k]? = wr.heap[k]? := fun k hk => hmv.block k (by omega) (by omega)
          have hmvL : Mv (fun k => k = B1) wr (((w2.setCell ⟨wr.heap.size, 0, none⟩ (.int .i64 (c i))).setCell ⟨wr.heap.size, 1, none⟩ (.int .i64 (l i))).setCell ⟨B1, 0, none⟩ (.slice (if cap = 1 then some ⟨b, off, none⟩ else some ⟨b, off + 2, none⟩) (m - 1) (cap - 1))).drew := ((((Mv.of_below (K := fun k => k = B1) Hbb.out).setCell (.inr (Nat.le_refl _)) _).setCell (.inr (Nat.le_refl _)) _).setCell (.inl rfl) _).drew
          have hlow1 : ∀ k, (k < n₀ ∨ k = B1 + 1) → (((w2.setCell ⟨wr.heap.size, 0, none⟩ (.int .i64 (c i))).setCell ⟨wr.heap.size, 1, none⟩ (.int .i64 (l i))).setCell ⟨B1, 0, none⟩ (.slice (if cap = 1 then some ⟨b, off, none⟩ else some ⟨b, off + 2, none⟩) (m - 1) (cap - 1))).drew.heap[k]? = wr.heap[k]? := fun k hk => hmvL.block k (by omega) (by omega)
          have hV2 : Var (((w2.setCell ⟨wr.heap.size, 0, none⟩ (.int .i64 (c i))).setCell ⟨wr.heap.size, 1, none⟩ (.int .i64 (l i))).setCell ⟨B1, 0, none⟩ (.slice (if cap = 1 then some ⟨b, off, none⟩ else some ⟨b, off + 2, none⟩) (m - 1) (cap - 1))).drew n₀ B1 c l (i + 1) (m - 1) := Var.next Hr.out hmp hcap (Cel.same (((C0.out.set (by first | (right; decide) | (left; omega))).set (by first | (right; decide) | (left; omega))).put (u := (.slice (if cap = 1 then some ⟨b, off, none⟩ else some ⟨b, off + 2, none⟩) (m - 1) (cap - 1)))) rfl) hlow
          have hV2' : Var (((w2.setCell ⟨wr.heap.size, 0, none⟩ (.int .i64 (c i))).setCell ⟨wr.heap.size, 1, none⟩ (.int .i64 (l i))).setCell ⟨B1, 0, none⟩ (.slice (if cap = 1 then some ⟨b, off, none⟩ else some ⟨b, off + 2, none⟩) (m - 1) (cap - 1))).drew n₀ (B1 + 1) c' l' j 0 := HV'.out.same hlow1
          have t0 := (Cel.same (((T0.out.put (u := .int .i64 (c i))).set (by first | (right; decide) | (left; omega))).set (by first | (right; decide) | (left; omega))) rfl : Cel (((w2.setCell ⟨wr.heap.size, 0, none⟩ (.int .i64 (c i))).setCell ⟨wr.heap.size, 1, none⟩ (.int .i64 (l i))).setCell ⟨B1, 0, none⟩ (.slice (if cap = 1 then some ⟨b, off, none⟩ else some ⟨b, off + 2, none⟩) (m - 1) (cap - 1))).drew wr.heap.size 0 _).1
          have t1 := (Cel.same (((T1.out.set (by first | (right; decide) | (left; omega))).put (u := .int .i64 (l i))).set (by first | (right; decide) | (left; omega))) rfl : Cel (((w2.setCell ⟨wr.heap.size, 0, none⟩ (.int .i64 (c i))).setCell ⟨wr.heap.size, 1, none⟩ (.int .i64 (l i))).setCell ⟨B1, 0, none⟩ (.slice (if cap = 1 then some ⟨b, off, none⟩ else some ⟨b, off + 2, none⟩) (m - 1) (cap - 1))).drew wr.heap.size 1 _).1
          have t2 := (Cel.same (((T2.out.set (by first | (right; decide) | (left; omega))).set (by first | (right; decide) | (left; omega))).set (by first | (right; decide) | (left; omega))) rfl : Cel (((w2.setCell ⟨wr.heap.size, 0, none⟩ (.int .i64 (c i))).setCell ⟨wr.heap.size, 1, none⟩ (.int .i64 (l i))).setCell ⟨B1, 0, none⟩ (.slice (if cap = 1 then some ⟨b, off, none⟩ else some ⟨b, off + 2, none⟩) (m - 1) (cap - 1))).drew (wr.heap.size + 1) 0 _).1
          have t3 := (Cel.same (((T3.out.set (by first | (right; decide) | (left; omega))).set (by first | (right; decide) | (left; omega))).set (by first | (right; decide) | (left; omega))) rfl : Cel (((w2.setCell ⟨wr.heap.size, 0, none⟩ (.int .i64 (c i))).setCell ⟨wr.heap.size, 1, none⟩ (.int .i64 (l i))).setCell ⟨B1, 0, none⟩ (.slice (if cap = 1 then some ⟨b, off, none⟩ else some ⟨b, off + 2, none⟩) (m - 1) (cap - 1))).drew (wr.heap.size + 1) 1 _).1
          have hj2 := HJ.out pre wr (((w2.setCell ⟨wr.heap.size, 0, none⟩ (.int .i64 (c i))).setCell ⟨wr.heap.size, 1, none⟩ (.int .i64 (l i))).setCell ⟨B1, 0, none⟩ (.slice (if cap = 1 then some ⟨b, off, none⟩ else some ⟨b, off + 2, none⟩) (m - 1) (cap - 1))).drew HJs.out hmv
          generalize (((w2.setCell ⟨wr.heap.size, 0, none⟩ (.int .i64 (c i))).setCell ⟨wr.heap.size, 1, none⟩ (.int .i64 (l i))).setCell ⟨B1, 0, none⟩ (.slice (if cap = 1 then some ⟨b, off, none⟩ else some ⟨b, off + 2, none⟩) (m - 1) (cap - 1))).drew = X at *
          generalize (if cap = 1 then some (⟨b, off, none⟩ : Addr) else some ⟨b, off + 2, none⟩) = A2
          obtain ⟨fn, tmps, assign, body, hy, hR⟩ := HY.out pre ((c i, l i), (0, 0)) X hj2 ⟨_, by rw [List.append_assoc]; exact (congrArg (pre ++ ·) hstep.out.symm).trans Htot.out⟩
          dsimp only [enc2] at hy
          have HR := Lib.hid hR
          have HV2 := Lib.hid hV2
          have HV2' := Lib.hid hV2'
          clear hmv hlow hV2 hV2' hj2 hR
          gi_wp2
          refine HR.out.mono ?_
          rintro e W3 ⟨rfl, hJ3, hh3, hz3⟩
          gi_wp2
          go_roundw
          case rel => exact ⟨(i + 1), (m - 1), j, 0, pre ++ [((c i, l i), (0, 0))], by omega, by omega, HV2.out.same (fun k hk => hh3 k (by omega)), HV2'.out.same (fun k hk => hh3 k (by omega)), hJ3, by rw [List.append_assoc]; exact (congrArg (pre ++ ·) hstep.out.symm).trans Htot.out⟩
          case measure =>
            have e1 := (HV2.out.same (W' := W3) (fun k hk => hh3 k (by omega))).len
            have e2 := (HV2'.out.same (W' := W3) (fun k hk => hh3 k (by omega))).len
            rw [e1, e2, hms.out, hms'.out]
            omega
        · have hmp' : 0 < m' := by omega
          rcases Int.lt_trichotomy (ab (l i)) (ab (l' j)) with hlt | heq | hgt
          · gi_wp2_with fail
            refine hcall.out.mono ?_
            rintro e w2 ⟨rfl, hb⟩
            have t0 : Cel w2 wr.heap.size 0 (.int .i64 0) := ⟨kc hb (by go_simp), kf hb (by first | (simp; done) | (simp; omega)) (by go_simp)⟩
            have t1 : Cel w2 wr.heap.size 1 (.int .i64 0) := ⟨kc hb (by go_simp), kf hb (by first | (simp; done) | (simp; omega)) (by go_simp)⟩
            have t2 : Cel w2 (wr.heap.size + 1) 0 (.int .i64 0) := ⟨kc hb (by go_simp), kf hb (by first | (simp; done) | (simp; omega)) (by go_simp)⟩
            have t3 : Cel w2 (wr.heap.size + 1) 1 (.int .i64 0) := ⟨kc hb (by go_simp), kf hb (by first | (simp; done) | (simp; omega)) (by go_simp)⟩
            have hbb := bl_trans hal hb
            have Hbb := Lib.hid hbb
            have C0 := Lib.hid (Cel.below ⟨a0, f0⟩ hbb)
            have C1 := Lib.hid (Cel.below ⟨a1, f1⟩ hbb)
            have T0 := Lib.hid t0
            have T1 := Lib.hid t1
            have T2 := Lib.hid t2
            have T3 := Lib.hid t3
            replace a0 := kc hbb a0
            replace a1 := kc hbb a1
            replace f0 := kf hbb z0 f0
            replace f1 := kf hbb z1 f1
            obtain ⟨t0, u0⟩ := t0
            obtain ⟨t1, u1⟩ := t1
            obtain ⟨t2, u2⟩ := t2
            obtain ⟨t3, u3⟩ := t3
            have z2 : wr.heap.size + 1 < w2.heap.size := World.block_lt_of_cell? w2 _ t2
            have hmix : Try.prog.follows .mixedOrders = true := by kernel_rfl
            obtain ⟨b, off, rfl, hbl, hc⟩ := hr hmp
            obtain ⟨c1, c2⟩ := hc 0 hmp
            simp only [Nat.zero_mul, Nat.add_zero] at c1 c2
            replace c1 := kc hbb c1
            replace c2 := kc hbb c2
            have hne1 : ¬ B1 = b := by omega
            have hne1' : ¬ b = B1 := by omega
            have hI1 : (0 : Int) < (m : Int) := by omega
            have hI3 : (1 : Int) ≤ (m : Int) := by omega
            have hI5 : (m : Int) ≤ (cap : Int) := by omega
            have hI7 : 1 ≤ m := by omega
            have Hr := Lib.hid hr
            clear hc hr
            clear hb hbb hal
            have hstep : Hid (prs (lst c l i m) (lst c' l' j m') = ((c i, l i), (0, 0)) :: prs (lst c l (i + 1) (m - 1)) (lst c' l' j m')) := Lib.hid (by
              obtain ⟨p, rfl⟩ : ∃ p, m = p + 1 := ⟨m - 1, by omega⟩
              obtain ⟨p', rfl⟩ : ∃ p', m' = p' + 1 := ⟨m' - 1, by omega⟩
              exact prs_lt hlt
            )
            have ho : ordC m (fun t => l (i + t)) m' (fun t => l' (j + t)) = -1 := by
              unfold ordC sgnC
              rw [if_neg (by omega), if_pos (by simpa using hlt)]
            rw [ho]
            clear ho
            gi_wp2_with fail
            refine shared (X := ?XX20) (fun hk => ?ma20) ?re20
            case ma20 =>
              gi_region_with_o (fail)
              all_goals exact hk.out
            have hmv : Mv (fun k => k = B1 ∨ k = B1 + 1) wr (((w2.setCell ⟨wr.heap.size, 0, none⟩ (.int .i64 (c i))).setCell ⟨wr.heap.size, 1, none⟩ (.int .i64 (l i))).setCell ⟨B1, 0, none⟩ (.slice (if cap = 1 then some ⟨b, off, none⟩ else some ⟨b, off + 2, none⟩) (m - 1) (cap - 1))).drew := ((((Mv.of_below (K := fun k => k = B1 ∨ k = B1 + 1) Hbb.out).setCell (.inr (Nat.le_refl _)) _).setCell (.inr (Nat.le_refl _)) _).setCell (.inl (.inl rfl)) _).drew
            have hlow : ∀ k, k < n₀ → (((w2.setCell ⟨wr.heap.size, 0, none⟩ (.int .i64 (c i))).setCell ⟨wr.heap.size, 1, none⟩ (.int .i64 (l i))).setCell ⟨B1, 0, none⟩ (.slice (if cap = 1 then some ⟨b, off, none⟩ else some ⟨b, off + 2, none⟩) (m - 1) (cap - 1))).drew.heap[k]? = wr.heap[k]? := fun k hk => hmv.block k (by omega) (by omega)
            have hmvL : Mv (fun k => k = B1) wr (((w2.setCell ⟨wr.heap.size, 0, none⟩ (.int .i64 (c i))).setCell ⟨wr.heap.size, 1, none⟩ (.int .i64 (l i))).setCell ⟨B1, 0, none⟩ (.slice (if cap = 1 then some ⟨b, off, none⟩ else some ⟨b, off + 2, none⟩) (m - 1) (cap - 1))).drew := ((((Mv.of_below (K := fun k => k = B1) Hbb.out).setCell (.inr (Nat.le_refl _)) _).setCell (.inr (Nat.le_refl _)) _).setCell (.inl rfl) _).drew
            have hlow1 : ∀ k, (k < n₀ ∨ k = B1 + 1) → (((w2.setCell ⟨wr.heap.size, 0, none⟩ (.int .i64 (c i))).setCell ⟨wr.heap.size, 1, none⟩ (.int .i64 (l i))).setCell ⟨B1, 0, none⟩ (.slice (if cap = 1 then some ⟨b, off, none⟩ else some ⟨b, off + 2, none⟩) (m - 1) (cap - 1))).drew.heap[k]? = wr.heap[k]? := fun k hk => hmvL.block k (by omega) (by omega)
            have hV2 : Var (((w2.setCell ⟨wr.heap.size, 0, none⟩ (.int .i64 (c i))).setCell ⟨wr.heap.size, 1, none⟩ (.int .i64 (l i))).setCell ⟨B1, 0, none⟩ (.slice (if cap = 1 then some ⟨b, off, none⟩ else some ⟨b, off + 2, none⟩) (m - 1) (cap - 1))).drew n₀ B1 c l (i + 1) (m - 1) := Var.next Hr.out hmp hcap (Cel.same (((C0.out.set (by first | (right; decide) | (left; omega))).set (by first | (right; decide) | (left; omega))).put (u := (.slice (if cap = 1 then some ⟨b, off, none⟩ else some ⟨b, off + 2, none⟩) (m - 1) (cap - 1)))) rfl) hlow
            have hV2' : Var (((w2.setCell ⟨wr.heap.size, 0, none⟩ (.int .i64 (c i))).setCell ⟨wr.heap.size, 1, none⟩ (.int .i64 (l i))).setCell ⟨B1, 0, none⟩ (.slice (if cap = 1 then some ⟨b, off, none⟩ else some ⟨b, off + 2, none⟩) (m - 1) (cap - 1))).drew n₀ (B1 + 1) c' l' j m' := HV'.out.same hlow1
            have t0 := (Cel.same (((T0.out.put (u := .int .i64 (c i))).set (by first | (right; decide) | (left; omega))).set (by first | (right; decide) | (left; omega))) rfl : Cel (((w2.setCell ⟨wr.heap.size, 0, none⟩ (.int .i64 (c i))).setCell ⟨wr.heap.size, 1, none⟩ (.int .i64 (l i))).setCell ⟨B1, 0, none⟩ (.slice (if cap = 1 then some ⟨b, off, none⟩ else some ⟨b, off + 2, none⟩) (m - 1) (cap - 1))).drew wr.heap.size 0 _).1
            have t1 := (Cel.same (((T1.out.set (by first | (right; decide) | (left; omega))).put (u := .int .i64 (l i))).set (by first | (right; decide) | (left; omega))) rfl : Cel (((w2.setCell ⟨wr.heap.size, 0, none⟩ (.int .i64 (c i))).setCell ⟨wr.heap.size, 1, none⟩ (.int .i64 (l i))).setCell ⟨B1, 0, none⟩ (.slice (if cap = 1 then some ⟨b, off, none⟩ else some ⟨b, off + 2, none⟩) (m - 1) (cap - 1))).drew wr.heap.size 1 _).1
            have t2 := (Cel.same (((T2.out.set (by first | (right; decide) | (left; omega))).set (by first | (right; decide) | (left; omega))).set (by first | (right; decide) | (left; omega))) rfl : Cel (((w2.setCell ⟨wr.heap.size, 0, none⟩ (.int .i64 (c i))).setCell ⟨wr.heap.size, 1, none⟩ (.int .i64 (l i))).setCell ⟨B1, 0, none⟩ (.slice (if cap = 1 then some ⟨b, off, none⟩ else some ⟨b, off + 2, none⟩) (m - 1) (cap - 1))).drew (wr.heap.size + 1) 0 _).1
            have t3 := (Cel.same (((T3.out.set (by first | (right; decide) | (left; omega))).set (by first | (right; decide) | (left; omega))).set (by first | (right; decide) | (left; omega))) rfl : Cel (((w2.setCell ⟨wr.heap.size, 0, none⟩ (.int .i64 (c i))).setCell ⟨wr.heap.size, 1, none⟩ (.int .i64 (l i))).setCell ⟨B1, 0, none⟩ (.slice (if cap = 1 then some ⟨b, off, none⟩ else some ⟨b, off + 2, none⟩) (m - 1) (cap - 1))).drew (wr.heap.size + 1) 1 _).1
            have hj2 := HJ.out pre wr (((w2.setCell ⟨wr.heap.size, 0, none⟩ (.int .i64 (c i))).setCell ⟨wr.heap.size, 1, none⟩ (.int .i64 (l i))).setCell ⟨B1, 0, none⟩ (.slice (if cap = 1 then some ⟨b, off, none⟩ else some ⟨b, off + 2, none⟩) (m - 1) (cap - 1))).drew HJs.out hmv
            generalize (((w2.setCell ⟨wr.heap.size, 0, none⟩ (.int .i64 (c i))).setCell ⟨wr.heap.size, 1, none⟩ (.int .i64 (l i))).setCell ⟨B1, 0, none⟩ (.slice (if cap = 1 then some ⟨b, off, none⟩ else some ⟨b, off + 2, none⟩) (m - 1) (cap - 1))).drew = X at *
            generalize (if cap = 1 then some (⟨b, off, none⟩ : Addr) else some ⟨b, off + 2, none⟩) = A2
            obtain ⟨fn, tmps, assign, body, hy, hR⟩ := HY.out pre ((c i, l i), (0, 0)) X hj2 ⟨_, by rw [List.append_assoc]; exact (congrArg (pre ++ ·) hstep.out.symm).trans Htot.out⟩
            dsimp only [enc2] at hy
            have HR := Lib.hid hR
            have HV2 := Lib.hid hV2
            have HV2' := Lib.hid hV2'
            clear hmv hlow hV2 hV2' hj2 hR
            gi_wp2
            refine HR.out.mono ?_
            rintro e W3 ⟨rfl, hJ3, hh3, hz3⟩
            gi_wp2
            go_roundw
            case rel => exact ⟨(i + 1), (m - 1), j, m', pre ++ [((c i, l i), (0, 0))], by omega, by omega, HV2.out.same (fun k hk => hh3 k (by omega)), HV2'.out.same (fun k hk => hh3 k (by omega)), hJ3, by rw [List.append_assoc]; exact (congrArg (pre ++ ·) hstep.out.symm).trans Htot.out⟩
            case measure =>
              have e1 := (HV2.out.same (W' := W3) (fun k hk => hh3 k (by omega))).len
              have e2 := (HV2'.out.same (W' := W3) (fun k hk => hh3 k (by omega))).len
              rw [e1, e2, hms.out, hms'.out]
              omega
          · have Heq := Lib.hid heq
            clear heq
            gi_wp2_with fail
            refine hcall.out.mono ?_
            rintro e w2 ⟨rfl, hb⟩
            have t0 : Cel w2 wr.heap.size 0 (.int .i64 0) := ⟨kc hb (by go_simp), kf hb (by first | (simp; done) | (simp; omega)) (by go_simp)⟩
            have t1 : Cel w2 wr.heap.size 1 (.int .i64 0) := ⟨kc hb (by go_simp), kf hb (by first | (simp; done) | (simp; omega)) (by go_simp)⟩
            have t2 : Cel w2 (wr.heap.size + 1) 0 (.int .i64 0) := ⟨kc hb (by go_simp), kf hb (by first | (simp; done) | (simp; omega)) (by go_simp)⟩
            have t3 : Cel w2 (wr.heap.size + 1) 1 (.int .i64 0) := ⟨kc hb (by go_simp), kf hb (by first | (simp; done) | (simp; omega)) (by go_simp)⟩
            have hbb := bl_trans hal hb
            have Hbb := Lib.hid hbb
            have C0 := Lib.hid (Cel.below ⟨a0, f0⟩ hbb)
            have C1 := Lib.hid (Cel.below ⟨a1, f1⟩ hbb)
            have T0 := Lib.hid t0
            have T1 := Lib.hid t1
            have T2 := Lib.hid t2
            have T3 := Lib.hid t3
            replace a0 := kc hbb a0
            replace a1 := kc hbb a1
            replace f0 := kf hbb z0 f0
            replace f1 := kf hbb z1 f1
            obtain ⟨t0, u0⟩ := t0
            obtain ⟨t1, u1⟩ := t1
            obtain ⟨t2, u2⟩ := t2
            obtain ⟨t3, u3⟩ := t3
            have z2 : wr.heap.size + 1 < w2.heap.size := World.block_lt_of_cell? w2 _ t2
            have hmix : Try.prog.follows .mixedOrders = true := by kernel_rfl
            obtain ⟨b, off, rfl, hbl, hc⟩ := hr hmp
            obtain ⟨c1, c2⟩ := hc 0 hmp
            simp only [Nat.zero_mul, Nat.add_zero] at c1 c2
            replace c1 := kc hbb c1
            replace c2 := kc hbb c2
            have hne1 : ¬ B1 = b := by omega
            have hne1' : ¬ b = B1 := by omega
            have hI1 : (0 : Int) < (m : Int) := by omega
            have hI3 : (1 : Int) ≤ (m : Int) := by omega
            have hI5 : (m : Int) ≤ (cap : Int) := by omega
            have hI7 : 1 ≤ m := by omega
            have Hr := Lib.hid hr
            clear hc hr
            obtain ⟨b', off', rfl, hbl', hc'⟩ := hr' hmp'
            obtain ⟨c3, c4⟩ := hc' 0 hmp'
            simp only [Nat.zero_mul, Nat.add_zero] at c3 c4
            have e3 := c3
            have e4 := c4
            replace c3 := kc hbb c3
            replace c4 := kc hbb c4
            have hne2 : ¬ B1 + 1 = b' := by omega
            have hne2' : ¬ b' = B1 + 1 := by omega
            have hne3 : ¬ B1 = b' := by omega
            have hI2 : (0 : Int) < (m' : Int) := by omega
            have hI4 : (1 : Int) ≤ (m' : Int) := by omega
            have hI6 : (m' : Int) ≤ (cap' : Int) := by omega
            have hI8 : 1 ≤ m' := by omega
            have Hr' := Lib.hid hr'
            clear hc' hr'
            clear hb hbb hal
            have hstep : Hid (prs (lst c l i m) (lst c' l' j m') = ((c i, l i), (c' j, l' j)) :: prs (lst c l (i + 1) (m - 1)) (lst c' l' (j + 1) (m' - 1))) := Lib.hid (by
              obtain ⟨p, rfl⟩ : ∃ p, m = p + 1 := ⟨m - 1, by omega⟩
              obtain ⟨p', rfl⟩ : ∃ p', m' = p' + 1 := ⟨m' - 1, by omega⟩
              exact prs_eq Heq.out
            )
            have ho : ordC m (fun t => l (i + t)) m' (fun t => l' (j + t)) = 0 := by
              have heq := Heq.out
              unfold ordC sgnC
              rw [if_neg (by omega), if_neg (by simp; omega), if_neg (by simp; omega)]
            rw [ho]
            clear ho
            gi_wp2_with fail
            refine shared (X := ?XX30) (fun hk => ?ma30) ?re30
            case ma30 =>
              gi_region_with_o (fail)
              all_goals exact hk.out
            generalize hA2 : (if cap = 1 then some (⟨b, off, none⟩ : Addr) else some ⟨b, off + 2, none⟩) = A2
            have HA2 := Lib.hid hA2
            clear hA2
            have hm1 : Mv (fun k => k = B1 ∨ k = B1 + 1) wr ((((w2.setCell ⟨wr.heap.size, 0, none⟩ (.int .i64 (c i))).setCell ⟨wr.heap.size, 1, none⟩ (.int .i64 (l i))).setCell ⟨B1, 0, none⟩ (.slice A2 (m - 1) (cap - 1))).drew) := ((((Mv.of_below (K := fun k => k = B1 ∨ k = B1 + 1) Hbb.out).setCell (.inr (Nat.le_refl _)) _).setCell (.inr (Nat.le_refl _)) _).setCell (.inl (.inl rfl)) _).drew
            have hlow : ∀ k, k < n₀ → ((((w2.setCell ⟨wr.heap.size, 0, none⟩ (.int .i64 (c i))).setCell ⟨wr.heap.size, 1, none⟩ (.int .i64 (l i))).setCell ⟨B1, 0, none⟩ (.slice A2 (m - 1) (cap - 1))).drew).heap[k]? = wr.heap[k]? := fun k hk => hm1.block k (by omega) (by omega)
            have hV2 : Var ((((w2.setCell ⟨wr.heap.size, 0, none⟩ (.int .i64 (c i))).setCell ⟨wr.heap.size, 1, none⟩ (.int .i64 (l i))).setCell ⟨B1, 0, none⟩ (.slice A2 (m - 1) (cap - 1))).drew) n₀ B1 c l (i + 1) (m - 1) := Var.next Hr.out hmp hcap (by rw [HA2.out]; exact Cel.same (((C0.out.set (by first | (right; decide) | (left; omega))).set (by first | (right; decide) | (left; omega))).put) rfl) hlow
            have s0 : Cel ((((w2.setCell ⟨wr.heap.size, 0, none⟩ (.int .i64 (c i))).setCell ⟨wr.heap.size, 1, none⟩ (.int .i64 (l i))).setCell ⟨B1, 0, none⟩ (.slice A2 (m - 1) (cap - 1))).drew) wr.heap.size 0 (.int .i64 (c i)) := Cel.same (((T0.out.put (u := .int .i64 (c i))).set (by first | (right; decide) | (left; omega))).set (by first | (right; decide) | (left; omega))) rfl
            have s1 : Cel ((((w2.setCell ⟨wr.heap.size, 0, none⟩ (.int .i64 (c i))).setCell ⟨wr.heap.size, 1, none⟩ (.int .i64 (l i))).setCell ⟨B1, 0, none⟩ (.slice A2 (m - 1) (cap - 1))).drew) wr.heap.size 1 (.int .i64 (l i)) := Cel.same (((T1.out.set (by first | (right; decide) | (left; omega))).put (u := .int .i64 (l i))).set (by first | (right; decide) | (left; omega))) rfl
            have s2 : Cel ((((w2.setCell ⟨wr.heap.size, 0, none⟩ (.int .i64 (c i))).setCell ⟨wr.heap.size, 1, none⟩ (.int .i64 (l i))).setCell ⟨B1, 0, none⟩ (.slice A2 (m - 1) (cap - 1))).drew) (wr.heap.size + 1) 0 (.int .i64 0) := Cel.same (((T2.out.set (by first | (right; decide) | (left; omega))).set (by first | (right; decide) | (left; omega))).set (by first | (right; decide) | (left; omega))) rfl
            have s3 : Cel ((((w2.setCell ⟨wr.heap.size, 0, none⟩ (.int .i64 (c i))).setCell ⟨wr.heap.size, 1, none⟩ (.int .i64 (l i))).setCell ⟨B1, 0, none⟩ (.slice A2 (m - 1) (cap - 1))).drew) (wr.heap.size + 1) 1 (.int .i64 0) := Cel.same (((T3.out.set (by first | (right; decide) | (left; omega))).set (by first | (right; decide) | (left; omega))).set (by first | (right; decide) | (left; omega))) rfl
            have s4 : Cel ((((w2.setCell ⟨wr.heap.size, 0, none⟩ (.int .i64 (c i))).setCell ⟨wr.heap.size, 1, none⟩ (.int .i64 (l i))).setCell ⟨B1, 0, none⟩ (.slice A2 (m - 1) (cap - 1))).drew) (B1 + 1) 0 (.slice (some ⟨b', off', none⟩) m' cap') := Cel.same (((C1.out.set (by first | (right; decide) | (left; omega))).set (by first | (right; decide) | (left; omega))).set (by first | (right; decide) | (left; omega))) rfl
            have d3 : ((((w2.setCell ⟨wr.heap.size, 0, none⟩ (.int .i64 (c i))).setCell ⟨wr.heap.size, 1, none⟩ (.int .i64 (l i))).setCell ⟨B1, 0, none⟩ (.slice A2 (m - 1) (cap - 1))).drew).cell? ⟨b', off', none⟩ = some (.int .i64 (c' j)) := hm1.cell (by omega) e3
            have d4 : ((((w2.setCell ⟨wr.heap.size, 0, none⟩ (.int .i64 (c i))).setCell ⟨wr.heap.size, 1, none⟩ (.int .i64 (l i))).setCell ⟨B1, 0, none⟩ (.slice A2 (m - 1) (cap - 1))).drew).cell? ⟨b', off' + 1, none⟩ = some (.int .i64 (l' j)) := hm1.cell (by omega) e4
            clear hlow t0 t1 t2 t3 u0 u1 u2 u3 a0 a1 f0 f1 c1 c2 c3 c4
            generalize (((w2.setCell ⟨wr.heap.size, 0, none⟩ (.int .i64 (c i))).setCell ⟨wr.heap.size, 1, none⟩ (.int .i64 (l i))).setCell ⟨B1, 0, none⟩ (.slice A2 (m - 1) (cap - 1))).drew = X at *
            have S0 := Lib.hid s0
            have S1 := Lib.hid s1
            have S2 := Lib.hid s2
            have S3 := Lib.hid s3
            have S4 := Lib.hid s4
            have HV2 := Lib.hid hV2
            have HM1 := Lib.hid hm1
            have zX := hm1.size
            have z3 : wr.heap.size + 1 < X.heap.size := s2.lt
            obtain ⟨t0, u0⟩ := s0
            obtain ⟨t1, u1⟩ := s1
            obtain ⟨t2, u2⟩ := s2
            obtain ⟨t3, u3⟩ := s3
            obtain ⟨a1, f1⟩ := s4
            clear hV2 hm1 Hbb C0 C1 T0 T1 T2 T3 z2 HA2
            gi_wp2_with fail
            refine shared (X := ?XX21) (fun hk => ?ma21) ?re21
            case ma21 =>
              gi_region_with_o (fail)
              all_goals exact hk.out
            have hmv : Mv (fun k => k = B1 ∨ k = B1 + 1) wr ((((X.setCell ⟨wr.heap.size + 1, 0, none⟩ (.int .i64 (c' j))).setCell ⟨wr.heap.size + 1, 1, none⟩ (.int .i64 (l' j))).setCell ⟨B1 + 1, 0, none⟩ (.slice (if cap' = 1 then some ⟨b', off', none⟩ else some ⟨b', off' + 2, none⟩) (m' - 1) (cap' - 1))).drew) := (((HM1.out.setCell (.inr (Nat.le_succ _)) _).setCell (.inr (Nat.le_succ _)) _).setCell (.inl (.inr rfl)) _).drew
            have hlow : ∀ k, k < n₀ → ((((X.setCell ⟨wr.heap.size + 1, 0, none⟩ (.int .i64 (c' j))).setCell ⟨wr.heap.size + 1, 1, none⟩ (.int .i64 (l' j))).setCell ⟨B1 + 1, 0, none⟩ (.slice (if cap' = 1 then some ⟨b', off', none⟩ else some ⟨b', off' + 2, none⟩) (m' - 1) (cap' - 1))).drew).heap[k]? = wr.heap[k]? := fun k hk => hmv.block k (by omega) (by omega)
            have hmX : Mv (fun k => k = B1 + 1 ∨ k = wr.heap.size + 1) X ((((X.setCell ⟨wr.heap.size + 1, 0, none⟩ (.int .i64 (c' j))).setCell ⟨wr.heap.size + 1, 1, none⟩ (.int .i64 (l' j))).setCell ⟨B1 + 1, 0, none⟩ (.slice (if cap' = 1 then some ⟨b', off', none⟩ else some ⟨b', off' + 2, none⟩) (m' - 1) (cap' - 1))).drew) := ((((Mv.refl (fun k => k = B1 + 1 ∨ k = wr.heap.size + 1) X).setCell (.inl (.inr rfl)) _).setCell (.inl (.inr rfl)) _).setCell (.inl (.inl rfl)) _).drew
            have hV2 : Var ((((X.setCell ⟨wr.heap.size + 1, 0, none⟩ (.int .i64 (c' j))).setCell ⟨wr.heap.size + 1, 1, none⟩ (.int .i64 (l' j))).setCell ⟨B1 + 1, 0, none⟩ (.slice (if cap' = 1 then some ⟨b', off', none⟩ else some ⟨b', off' + 2, none⟩) (m' - 1) (cap' - 1))).drew) n₀ B1 c l (i + 1) (m - 1) := HV2.out.same (fun k hk => hmX.block k (by omega) (by omega))
            have hV2' : Var ((((X.setCell ⟨wr.heap.size + 1, 0, none⟩ (.int .i64 (c' j))).setCell ⟨wr.heap.size + 1, 1, none⟩ (.int .i64 (l' j))).setCell ⟨B1 + 1, 0, none⟩ (.slice (if cap' = 1 then some ⟨b', off', none⟩ else some ⟨b', off' + 2, none⟩) (m' - 1) (cap' - 1))).drew) n₀ (B1 + 1) c' l' (j + 1) (m' - 1) := Var.next Hr'.out hmp' hcap' (Cel.same (((S4.out.set (by first | (right; decide) | (left; omega))).set (by first | (right; decide) | (left; omega))).put) rfl) hlow
            have t0 := (Cel.same (((S0.out.set (by first | (right; decide) | (left; omega))).set (by first | (right; decide) | (left; omega))).set (by first | (right; decide) | (left; omega))) rfl : Cel ((((X.setCell ⟨wr.heap.size + 1, 0, none⟩ (.int .i64 (c' j))).setCell ⟨wr.heap.size + 1, 1, none⟩ (.int .i64 (l' j))).setCell ⟨B1 + 1, 0, none⟩ (.slice (if cap' = 1 then some ⟨b', off', none⟩ else some ⟨b', off' + 2, none⟩) (m' - 1) (cap' - 1))).drew) wr.heap.size 0 _).1
            have t1 := (Cel.same (((S1.out.set (by first | (right; decide) | (left; omega))).set (by first | (right; decide) | (left; omega))).set (by first | (right; decide) | (left; omega))) rfl : Cel ((((X.setCell ⟨wr.heap.size + 1, 0, none⟩ (.int .i64 (c' j))).setCell ⟨wr.heap.size + 1, 1, none⟩ (.int .i64 (l' j))).setCell ⟨B1 + 1, 0, none⟩ (.slice (if cap' = 1 then some ⟨b', off', none⟩ else some ⟨b', off' + 2, none⟩) (m' - 1) (cap' - 1))).drew) wr.heap.size 1 _).1
            have t2 := (Cel.same (((S2.out.put (u := .int .i64 (c' j))).set (by first | (right; decide) | (left; omega))).set (by first | (right; decide) | (left; omega))) rfl : Cel ((((X.setCell ⟨wr.heap.size + 1, 0, none⟩ (.int .i64 (c' j))).setCell ⟨wr.heap.size + 1, 1, none⟩ (.int .i64 (l' j))).setCell ⟨B1 + 1, 0, none⟩ (.slice (if cap' = 1 then some ⟨b', off', none⟩ else some ⟨b', off' + 2, none⟩) (m' - 1) (cap' - 1))).drew) (wr.heap.size + 1) 0 _).1
            have t3 := (Cel.same (((S3.out.set (by first | (right; decide) | (left; omega))).put (u := .int .i64 (l' j))).set (by first | (right; decide) | (left; omega))) rfl : Cel ((((X.setCell ⟨wr.heap.size + 1, 0, none⟩ (.int .i64 (c' j))).setCell ⟨wr.heap.size + 1, 1, none⟩ (.int .i64 (l' j))).setCell ⟨B1 + 1, 0, none⟩ (.slice (if cap' = 1 then some ⟨b', off', none⟩ else some ⟨b', off' + 2, none⟩) (m' - 1) (cap' - 1))).drew) (wr.heap.size + 1) 1 _).1
            have hj2 := HJ.out pre wr ((((X.setCell ⟨wr.heap.size + 1, 0, none⟩ (.int .i64 (c' j))).setCell ⟨wr.heap.size + 1, 1, none⟩ (.int .i64 (l' j))).setCell ⟨B1 + 1, 0, none⟩ (.slice (if cap' = 1 then some ⟨b', off', none⟩ else some ⟨b', off' + 2, none⟩) (m' - 1) (cap' - 1))).drew) HJs.out hmv
            clear hlow hmX d3 d4 a1 f1 HV2 u0 u1 u2 u3 zX z3 HM1
            generalize (((X.setCell ⟨wr.heap.size + 1, 0, none⟩ (.int .i64 (c' j))).setCell ⟨wr.heap.size + 1, 1, none⟩ (.int .i64 (l' j))).setCell ⟨B1 + 1, 0, none⟩ (.slice (if cap' = 1 then some ⟨b', off', none⟩ else some ⟨b', off' + 2, none⟩) (m' - 1) (cap' - 1))).drew = X2 at *
            generalize (if cap' = 1 then some (⟨b', off', none⟩ : Addr) else some ⟨b', off' + 2, none⟩) = A2'
            obtain ⟨fn, tmps, assign, body, hy, hR⟩ := HY.out pre ((c i, l i), (c' j, l' j)) X2 hj2 ⟨_, by rw [List.append_assoc]; exact (congrArg (pre ++ ·) hstep.out.symm).trans Htot.out⟩
            dsimp only [enc2] at hy
            have HR := Lib.hid hR
            have HV2 := Lib.hid hV2
            have HV2' := Lib.hid hV2'
            clear hmv hV2 hV2' hj2 hR S0 S1 S2 S3 S4
            gi_wp2
            refine HR.out.mono ?_
            rintro e W3 ⟨rfl, hJ3, hh3, hz3⟩
            gi_wp2
            go_roundw
            case rel => exact ⟨(i + 1), (m - 1), (j + 1), (m' - 1), pre ++ [((c i, l i), (c' j, l' j))], by omega, by omega, HV2.out.same (fun k hk => hh3 k (by omega)), HV2'.out.same (fun k hk => hh3 k (by omega)), hJ3, by rw [List.append_assoc]; exact (congrArg (pre ++ ·) hstep.out.symm).trans Htot.out⟩
            case measure =>
              have e1 := (HV2.out.same (W' := W3) (fun k hk => hh3 k (by omega))).len
              have e2 := (HV2'.out.same (W' := W3) (fun k hk => hh3 k (by omega))).len
              rw [e1, e2, hms.out, hms'.out]
              omega
          · gi_wp2_with fail
            refine hcall.out.mono ?_
            rintro e w2 ⟨rfl, hb⟩
            have t0 : Cel w2 wr.heap.size 0 (.int .i64 0) := ⟨kc hb (by go_simp), kf hb (by first | (simp; done) | (simp; omega)) (by go_simp)⟩
            have t1 : Cel w2 wr.heap.size 1 (.int .i64 0) := ⟨kc hb (by go_simp), kf hb (by first | (simp; done) | (simp; omega)) (by go_simp)⟩
            have t2 : Cel w2 (wr.heap.size + 1) 0 (.int .i64 0) := ⟨kc hb (by go_simp), kf hb (by first | (simp; done) | (simp; omega)) (by go_simp)⟩
            have t3 : Cel w2 (wr.heap.size + 1) 1 (.int .i64 0) := ⟨kc hb (by go_simp), kf hb (by first | (simp; done) | (simp; omega)) (by go_simp)⟩
            have hbb := bl_trans hal hb
            have Hbb := Lib.hid hbb
            have C0 := Lib.hid (Cel.below ⟨a0, f0⟩ hbb)
            have C1 := Lib.hid (Cel.below ⟨a1, f1⟩ hbb)
            have T0 := Lib.hid t0
            have T1 := Lib.hid t1
            have T2 := Lib.hid t2
            have T3 := Lib.hid t3
            replace a0 := kc hbb a0
            replace a1 := kc hbb a1
            replace f0 := kf hbb z0 f0
            replace f1 := kf hbb z1 f1
            obtain ⟨t0, u0⟩ := t0
            obtain ⟨t1, u1⟩ := t1
            obtain ⟨t2, u2⟩ := t2
            obtain ⟨t3, u3⟩ := t3
            have z2 : wr.heap.size + 1 < w2.heap.size := World.block_lt_of_cell? w2 _ t2
            have hmix : Try.prog.follows .mixedOrders = true := by kernel_rfl
            obtain ⟨b', off', rfl, hbl', hc'⟩ := hr' hmp'
            obtain ⟨c3, c4⟩ := hc' 0 hmp'
            simp only [Nat.zero_mul, Nat.add_zero] at c3 c4
            replace c3 := kc hbb c3
            replace c4 := kc hbb c4
            have hne2 : ¬ B1 + 1 = b' := by omega
            have hne2' : ¬ b' = B1 + 1 := by omega
            have hne3 : ¬ B1 = b' := by omega
            have hI2 : (0 : Int) < (m' : Int) := by omega
            have hI4 : (1 : Int) ≤ (m' : Int) := by omega
            have hI6 : (m' : Int) ≤ (cap' : Int) := by omega
            have hI8 : 1 ≤ m' := by omega
            have Hr' := Lib.hid hr'
            clear hc' hr'
            clear hb hbb hal
            have hstep : Hid (prs (lst c l i m) (lst c' l' j m') = ((0, 0), (c' j, l' j)) :: prs (lst c l i m) (lst c' l' (j + 1) (m' - 1))) := Lib.hid (by
              obtain ⟨p, rfl⟩ : ∃ p, m = p + 1 := ⟨m - 1, by omega⟩
              obtain ⟨p', rfl⟩ : ∃ p', m' = p' + 1 := ⟨m' - 1, by omega⟩
              exact prs_gt hgt
            )
            have ho : ordC m (fun t => l (i + t)) m' (fun t => l' (j + t)) = 1 := by
              unfold ordC sgnC
              rw [if_neg (by omega), if_neg (by simp; omega), if_pos (by simpa using hgt)]
            rw [ho]
            clear ho
            gi_wp2_with fail
            refine shared (X := ?XX50) (fun hk => ?ma50) ?re50
            case ma50 =>
              gi_region_with_o (fail)
              all_goals exact hk.out
            have hmv : Mv (fun k => k = B1 ∨ k = B1 + 1) wr (((w2.setCell ⟨wr.heap.size + 1, 0, none⟩ (.int .i64 (c' j))).setCell ⟨wr.heap.size + 1, 1, none⟩ (.int .i64 (l' j))).setCell ⟨B1 + 1, 0, none⟩ (.slice (if cap' = 1 then some ⟨b', off', none⟩ else some ⟨b', off' + 2, none⟩) (m' - 1) (cap' - 1))).drew := ((((Mv.of_below (K := fun k => k = B1 ∨ k = B1 + 1) Hbb.out).setCell (.inr (Nat.le_succ _)) _).setCell (.inr (Nat.le_succ _)) _).setCell (.inl (.inr rfl)) _).drew
            have hlow : ∀ k, k < n₀ → (((w2.setCell ⟨wr.heap.size + 1, 0, none⟩ (.int .i64 (c' j))).setCell ⟨wr.heap.size + 1, 1, none⟩ (.int .i64 (l' j))).setCell ⟨B1 + 1, 0, none⟩ (.slice (if cap' = 1 then some ⟨b', off', none⟩ else some ⟨b', off' + 2, none⟩) (m' - 1) (cap' - 1))).drew.heap[k]? = wr.heap[k]? := fun k hk => hmv.block k (by omega) (by omega)
            have hmvR : Mv (fun k => k = B1 + 1) wr (((w2.setCell ⟨wr.heap.size + 1, 0, none⟩ (.int .i64 (c' j))).setCell ⟨wr.heap.size + 1, 1, none⟩ (.int .i64 (l' j))).setCell ⟨B1 + 1, 0, none⟩ (.slice (if cap' = 1 then some ⟨b', off', none⟩ else some ⟨b', off' + 2, none⟩) (m' - 1) (cap' - 1))).drew := ((((Mv.of_below (K := fun k => k = B1 + 1) Hbb.out).setCell (.inr (Nat.le_succ _)) _).setCell (.inr (Nat.le_succ _)) _).setCell (.inl rfl) _).drew
            have hlow0 : ∀ k, (k < n₀ ∨ k = B1) → (((w2.setCell ⟨wr.heap.size + 1, 0, none⟩ (.int .i64 (c' j))).setCell ⟨wr.heap.size + 1, 1, none⟩ (.int .i64 (l' j))).setCell ⟨B1 + 1, 0, none⟩ (.slice (if cap' = 1 then some ⟨b', off', none⟩ else some ⟨b', off' + 2, none⟩) (m' - 1) (cap' - 1))).drew.heap[k]? = wr.heap[k]? := fun k hk => hmvR.block k (by omega) (by omega)
            have hV2 : Var (((w2.setCell ⟨wr.heap.size + 1, 0, none⟩ (.int .i64 (c' j))).setCell ⟨wr.heap.size + 1, 1, none⟩ (.int .i64 (l' j))).setCell ⟨B1 + 1, 0, none⟩ (.slice (if cap' = 1 then some ⟨b', off', none⟩ else some ⟨b', off' + 2, none⟩) (m' - 1) (cap' - 1))).drew n₀ B1 c l i m := HV.out.same hlow0
            have hV2' : Var (((w2.setCell ⟨wr.heap.size + 1, 0, none⟩ (.int .i64 (c' j))).setCell ⟨wr.heap.size + 1, 1, none⟩ (.int .i64 (l' j))).setCell ⟨B1 + 1, 0, none⟩ (.slice (if cap' = 1 then some ⟨b', off', none⟩ else some ⟨b', off' + 2, none⟩) (m' - 1) (cap' - 1))).drew n₀ (B1 + 1) c' l' (j + 1) (m' - 1) := Var.next Hr'.out hmp' hcap' (Cel.same (((C1.out.set (by first | (right; decide) | (left; omega))).set (by first | (right; decide) | (left; omega))).put (u := (.slice (if cap' = 1 then some ⟨b', off', none⟩ else some ⟨b', off' + 2, none⟩) (m' - 1) (cap' - 1)))) rfl) hlow
            have t0 := (Cel.same (((T0.out.set (by first | (right; decide) | (left; omega))).set (by first | (right; decide) | (left; omega))).set (by first | (right; decide) | (left; omega))) rfl : Cel (((w2.setCell ⟨wr.heap.size + 1, 0, none⟩ (.int .i64 (c' j))).setCell ⟨wr.heap.size + 1, 1, none⟩ (.int .i64 (l' j))).setCell ⟨B1 + 1, 0, none⟩ (.slice (if cap' = 1 then some ⟨b', off', none⟩ else some ⟨b', off' + 2, none⟩) (m' - 1) (cap' - 1))).drew wr.heap.size 0 _).1
            have t1 := (Cel.same (((T1.out.set (by first | (right; decide) | (left; omega))).set (by first | (right; decide) | (left; omega))).set (by first | (right; decide) | (left; omega))) rfl : Cel (((w2.setCell ⟨wr.heap.size + 1, 0, none⟩ (.int .i64 (c' j))).setCell ⟨wr.heap.size + 1, 1, none⟩ (.int .i64 (l' j))).setCell ⟨B1 + 1, 0, none⟩ (.slice (if cap' = 1 then some ⟨b', off', none⟩ else some ⟨b', off' + 2, none⟩) (m' - 1) (cap' - 1))).drew wr.heap.size 1 _).1
            have t2 := (Cel.same (((T2.out.put (u := .int .i64 (c' j))).set (by first | (right; decide) | (left; omega))).set (by first | (right; decide) | (left; omega))) rfl : Cel (((w2.setCell ⟨wr.heap.size + 1, 0, none⟩ (.int .i64 (c' j))).setCell ⟨wr.heap.size + 1, 1, none⟩ (.int .i64 (l' j))).setCell ⟨B1 + 1, 0, none⟩ (.slice (if cap' = 1 then some ⟨b', off', none⟩ else some ⟨b', off' + 2, none⟩) (m' - 1) (cap' - 1))).drew (wr.heap.size + 1) 0 _).1
            have t3 := (Cel.same (((T3.out.set (by first | (right; decide) | (left; omega))).put (u := .int .i64 (l' j))).set (by first | (right; decide) | (left; omega))) rfl : Cel (((w2.setCell ⟨wr.heap.size + 1, 0, none⟩ (.int .i64 (c' j))).setCell ⟨wr.heap.size + 1, 1, none⟩ (.int .i64 (l' j))).setCell ⟨B1 + 1, 0, none⟩ (.slice (if cap' = 1 then some ⟨b', off', none⟩ else some ⟨b', off' + 2, none⟩) (m' - 1) (cap' - 1))).drew (wr.heap.size + 1) 1 _).1
            have hj2 := HJ.out pre wr (((w2.setCell ⟨wr.heap.size + 1, 0, none⟩ (.int .i64 (c' j))).setCell ⟨wr.heap.size + 1, 1, none⟩ (.int .i64 (l' j))).setCell ⟨B1 + 1, 0, none⟩ (.slice (if cap' = 1 then some ⟨b', off', none⟩ else some ⟨b', off' + 2, none⟩) (m' - 1) (cap' - 1))).drew HJs.out hmv
            generalize (((w2.setCell ⟨wr.heap.size + 1, 0, none⟩ (.int .i64 (c' j))).setCell ⟨wr.heap.size + 1, 1, none⟩ (.int .i64 (l' j))).setCell ⟨B1 + 1, 0, none⟩ (.slice (if cap' = 1 then some ⟨b', off', none⟩ else some ⟨b', off' + 2, none⟩) (m' - 1) (cap' - 1))).drew = X at *
            generalize (if cap' = 1 then some (⟨b', off', none⟩ : Addr) else some ⟨b', off' + 2, none⟩) = A2'
            obtain ⟨fn, tmps, assign, body, hy, hR⟩ := HY.out pre ((0, 0), (c' j, l' j)) X hj2 ⟨_, by rw [List.append_assoc]; exact (congrArg (pre ++ ·) hstep.out.symm).trans Htot.out⟩
            dsimp only [enc2] at hy
            have HR := Lib.hid hR
            have HV2 := Lib.hid hV2
            have HV2' := Lib.hid hV2'
            clear hmv hlow hV2 hV2' hj2 hR
            gi_wp2
            refine HR.out.mono ?_
            rintro e W3 ⟨rfl, hJ3, hh3, hz3⟩
            gi_wp2
            go_roundw
            case rel => exact ⟨i, m, (j + 1), (m' - 1), pre ++ [((0, 0), (c' j, l' j))], by omega, by omega, HV2.out.same (fun k hk => hh3 k (by omega)), HV2'.out.same (fun k hk => hh3 k (by omega)), hJ3, by rw [List.append_assoc]; exact (congrArg (pre ++ ·) hstep.out.symm).trans Htot.out⟩
            case measure =>
              have e1 := (HV2.out.same (W' := W3) (fun k hk => hh3 k (by omega))).len
              have e2 := (HV2'.out.same (W' := W3) (fun k hk => hh3 k (by omega))).len
              rw [e1, e2, hms.out, hms'.out]
              omega
      · subst hm0
        gi_wp2_with fail
        refine hcall.out.mono ?_
        rintro e w2 ⟨rfl, hb⟩
        have t0 : Cel w2 wr.heap.size 0 (.int .i64 0) := ⟨kc hb (by go_simp), kf hb (by first | (simp; done) | (simp; omega)) (by go_simp)⟩
        have t1 : Cel w2 wr.heap.size 1 (.int .i64 0) := ⟨kc hb (by go_simp), kf hb (by first | (simp; done) | (simp; omega)) (by go_simp)⟩
        have t2 : Cel w2 (wr.heap.size + 1) 0 (.int .i64 0) := ⟨kc hb (by go_simp), kf hb (by first | (simp; done) | (simp; omega)) (by go_simp)⟩
        have t3 : Cel w2 (wr.heap.size + 1) 1 (.int .i64 0) := ⟨kc hb (by go_simp), kf hb (by first | (simp; done) | (simp; omega)) (by go_simp)⟩
        have hbb := bl_trans hal hb
        have Hbb := Lib.hid hbb
        have C0 := Lib.hid (Cel.below ⟨a0, f0⟩ hbb)
        have C1 := Lib.hid (Cel.below ⟨a1, f1⟩ hbb)
        have T0 := Lib.hid t0
        have T1 := Lib.hid t1
        have T2 := Lib.hid t2
        have T3 := Lib.hid t3
        replace a0 := kc hbb a0
        replace a1 := kc hbb a1
        replace f0 := kf hbb z0 f0
        replace f1 := kf hbb z1 f1
        obtain ⟨t0, u0⟩ := t0
        obtain ⟨t1, u1⟩ := t1
        obtain ⟨t2, u2⟩ := t2
        obtain ⟨t3, u3⟩ := t3
        have z2 : wr.heap.size + 1 < w2.heap.size := World.block_lt_of_cell? w2 _ t2
        have hmix : Try.prog.follows .mixedOrders = true := by kernel_rfl
        obtain ⟨b', off', rfl, hbl', hc'⟩ := hr' hmp'
        obtain ⟨c3, c4⟩ := hc' 0 hmp'
        simp only [Nat.zero_mul, Nat.add_zero] at c3 c4
        replace c3 := kc hbb c3
        replace c4 := kc hbb c4
        have hne2 : ¬ B1 + 1 = b' := by omega
        have hne2' : ¬ b' = B1 + 1 := by omega
        have hne3 : ¬ B1 = b' := by omega
        have hI2 : (0 : Int) < (m' : Int) := by omega
        have hI4 : (1 : Int) ≤ (m' : Int) := by omega
        have hI6 : (m' : Int) ≤ (cap' : Int) := by omega
        have hI8 : 1 ≤ m' := by omega
        have Hr' := Lib.hid hr'
        clear hc' hr'
        clear hb hbb hal
        have hstep : Hid (prs (lst c l i 0) (lst c' l' j m') = ((0, 0), (c' j, l' j)) :: prs (lst c l i 0) (lst c' l' (j + 1) (m' - 1))) := Lib.hid (by
          obtain ⟨p', rfl⟩ : ∃ p', m' = p' + 1 := ⟨m' - 1, by omega⟩
          exact prs_right
        )
        have ho : ordC 0 (fun t => l (i + t)) m' (fun t => l' (j + t)) = 1 := by
          unfold ordC sgnC
          rw [if_pos (.inl rfl)]
          rw [if_neg (by omega), if_pos (by omega)]
        rw [ho]
        clear ho
        gi_wp2_with fail
        refine shared (X := ?XX60) (fun hk => ?ma60) ?re60
        case ma60 =>
          gi_region_with_o (fail)
          all_goals exact hk.out
        have hmv : Mv (fun k => k = B1 ∨ k = B1 + 1) wr (((w2.setCell ⟨wr.heap.size + 1, 0, none⟩ (.int .i64 (c' j))).setCell ⟨wr.heap.size + 1, 1, none⟩ (.int .i64 (l' j))).setCell ⟨B1 + 1, 0, none⟩ (.slice (if cap' = 1 then some ⟨b', off', none⟩ else some ⟨b', off' + 2, none⟩) (m' - 1) (cap' - 1))).drew := ((((Mv.of_below (K := fun k => k = B1 ∨ k = B1 + 1) Hbb.out).setCell (.inr (Nat.le_succ _)) _).setCell (.inr (Nat.le_succ _)) _).setCell (.inl (.inr rfl)) _).drew
        have hlow : ∀ k, k < n₀ → (((w2.setCell ⟨wr.heap.size + 1, 0, none⟩ (.int .i64 (c' j))).setCell ⟨wr.heap.size + 1, 1, none⟩ (.int .i64 (l' j))).setCell ⟨B1 + 1, 0, none⟩ (.slice (if cap' = 1 then some ⟨b', off', none⟩ else some ⟨b', off' + 2, none⟩) (m' - 1) (cap' - 1))).drew.heap[k]? = wr.heap[k]? := fun k hk => hmv.block k (by omega) (by omega)
        have hmvR : Mv (fun k => k = B1 + 1) wr (((w2.setCell ⟨wr.heap.size + 1, 0, none⟩ (.int .i64 (c' j))).setCell ⟨wr.heap.size + 1, 1, none⟩ (.int .i64 (l' j))).setCell ⟨B1 + 1, 0, none⟩ (.slice (if cap' = 1 then some ⟨b', off', none⟩ else some ⟨b', off' + 2, none⟩) (m' - 1) (cap' - 1))).drew := ((((Mv.of_below (K := fun k => k = B1 + 1) Hbb.out).setCell (.inr (Nat.le_succ _)) _).setCell (.inr (Nat.le_succ _)) _).setCell (.inl rfl) _).drew
        have hlow0 : ∀ k, (k < n₀ ∨ k = B1) → (((w2.setCell ⟨wr.heap.size + 1, 0, none⟩ (.int .i64 (c' j))).setCell ⟨wr.heap.size + 1, 1, none⟩ (.int .i64 (l' j))).setCell ⟨B1 + 1, 0, none⟩ (.slice (if cap' = 1 then some ⟨b', off', none⟩ else some ⟨b', off' + 2, none⟩) (m' - 1) (cap' - 1))).drew.heap[k]? = wr.heap[k]? := fun k hk => hmvR.block k (by omega) (by omega)
        have hV2 : Var (((w2.setCell ⟨wr.heap.size + 1, 0, none⟩ (.int .i64 (c' j))).setCell ⟨wr.heap.size + 1, 1, none⟩ (.int .i64 (l' j))).setCell ⟨B1 + 1, 0, none⟩ (.slice (if cap' = 1 then some ⟨b', off', none⟩ else some ⟨b', off' + 2, none⟩) (m' - 1) (cap' - 1))).drew n₀ B1 c l i 0 := HV.out.same hlow0
        have hV2' : Var (((w2.setCell ⟨wr.heap.size + 1, 0, none⟩ (.int .i64 (c' j))).setCell ⟨wr.heap.size + 1, 1, none⟩ (.int .i64 (l' j))).setCell ⟨B1 + 1, 0, none⟩ (.slice (if cap' = 1 then some ⟨b', off', none⟩ else some ⟨b', off' + 2, none⟩) (m' - 1) (cap' - 1))).drew n₀ (B1 + 1) c' l' (j + 1) (m' - 1) := Var.next Hr'.out hmp' hcap' (Cel.same (((C1.out.set (by first | (right; decide) | (left; omega))).set (by first | (right; decide) | (left; omega))).put (u := (.slice (if cap' = 1 then some ⟨b', off', none⟩ else some ⟨b', off' + 2, none⟩) (m' - 1) (cap' - 1)))) rfl) hlow
        have t0 := (Cel.same (((T0.out.set (by first | (right; decide) | (left; omega))).set (by first | (right; decide) | (left; omega))).set (by first | (right; decide) | (left; omega))) rfl : Cel (((w2.setCell ⟨wr.heap.size + 1, 0, none⟩ (.int .i64 (c' j))).setCell ⟨wr.heap.size + 1, 1, none⟩ (.int .i64 (l' j))).setCell ⟨B1 + 1, 0, none⟩ (.slice (if cap' = 1 then some ⟨b', off', none⟩ else some ⟨b', off' + 2, none⟩) (m' - 1) (cap' - 1))).drew wr.heap.size 0 _).1
        have t1 := (Cel.same (((T1.out.set (by first | (right; decide) | (left; omega))).set (by first | (right; decide) | (left; omega))).set (by first | (right; decide) | (left; omega))) rfl : Cel (((w2.setCell ⟨wr.heap.size + 1, 0, none⟩ (.int .i64 (c' j))).setCell ⟨wr.heap.size + 1, 1, none⟩ (.int .i64 (l' j))).setCell ⟨B1 + 1, 0, none⟩ (.slice (if cap' = 1 then some ⟨b', off', none⟩ else some ⟨b', off' + 2, none⟩) (m' - 1) (cap' - 1))).drew wr.heap.size 1 _).1
        have t2 := (Cel.same (((T2.out.put (u := .int .i64 (c' j))).set (by first | (right; decide) | (left; omega))).set (by first | (right; decide) | (left; omega))) rfl : Cel (((w2.setCell ⟨wr.heap.size + 1, 0, none⟩ (.int .i64 (c' j))).setCell ⟨wr.heap.size + 1, 1, none⟩ (.int .i64 (l' j))).setCell ⟨B1 + 1, 0, none⟩ (.slice (if cap' = 1 then some ⟨b', off', none⟩ else some ⟨b', off' + 2, none⟩) (m' - 1) (cap' - 1))).drew (wr.heap.size + 1) 0 _).1
        have t3 := (Cel.same (((T3.out.set (by first | (right; decide) | (left; omega))).put (u := .int .i64 (l' j))).set (by first | (right; decide) | (left; omega))) rfl : Cel (((w2.setCell ⟨wr.heap.size + 1, 0, none⟩ (.int .i64 (c' j))).setCell ⟨wr.heap.size + 1, 1, none⟩ (.int .i64 (l' j))).setCell ⟨B1 + 1, 0, none⟩ (.slice (if cap' = 1 then some ⟨b', off', none⟩ else some ⟨b', off' + 2, none⟩) (m' - 1) (cap' - 1))).drew (wr.heap.size + 1) 1 _).1
        have hj2 := HJ.out pre wr (((w2.setCell ⟨wr.heap.size + 1, 0, none⟩ (.int .i64 (c' j))).setCell ⟨wr.heap.size + 1, 1, none⟩ (.int .i64 (l' j))).setCell ⟨B1 + 1, 0, none⟩ (.slice (if cap' = 1 then some ⟨b', off', none⟩ else some ⟨b', off' + 2, none⟩) (m' - 1) (cap' - 1))).drew HJs.out hmv
        generalize (((w2.setCell ⟨wr.heap.size + 1, 0, none⟩ (.int .i64 (c' j))).setCell ⟨wr.heap.size + 1, 1, none⟩ (.int .i64 (l' j))).setCell ⟨B1 + 1, 0, none⟩ (.slice (if cap' = 1 then some ⟨b', off', none⟩ else some ⟨b', off' + 2, none⟩) (m' - 1) (cap' - 1))).drew = X at *
        generalize (if cap' = 1 then some (⟨b', off', none⟩ : Addr) else some ⟨b', off' + 2, none⟩) = A2'
        obtain ⟨fn, tmps, assign, body, hy, hR⟩ := HY.out pre ((0, 0), (c' j, l' j)) X hj2 ⟨_, by rw [List.append_assoc]; exact (congrArg (pre ++ ·) hstep.out.symm).trans Htot.out⟩
        dsimp only [enc2] at hy
        have HR := Lib.hid hR
        have HV2 := Lib.hid hV2
        have HV2' := Lib.hid hV2'
        clear hmv hlow hV2 hV2' hj2 hR
        gi_wp2
        refine HR.out.mono ?_
        rintro e W3 ⟨rfl, hJ3, hh3, hz3⟩
        gi_wp2
        go_roundw
        case rel => exact ⟨i, 0, (j + 1), (m' - 1), pre ++ [((0, 0), (c' j, l' j))], by omega, by omega, HV2.out.same (fun k hk => hh3 k (by omega)), HV2'.out.same (fun k hk => hh3 k (by omega)), hJ3, by rw [List.append_assoc]; exact (congrArg (pre ++ ·) hstep.out.symm).trans Htot.out⟩
        case measure =>
          have e1 := (HV2.out.same (W' := W3) (fun k hk => hh3 k (by omega))).len
          have e2 := (HV2'.out.same (W' := W3) (fun k hk => hh3 k (by omega))).len
          rw [e1, e2, hms.out, hms'.out]
          omega
end Go.Proofs.Ytaghnjkpanjioaa
