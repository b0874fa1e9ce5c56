/- Lifted steps: the lists of literals, the program (no claim of its own). Conditions: as each theorem states. -/
import Derived.Test.YtbebdhjhlheboaaDoorLifA
import Derived.Test.YtbebdhjhlheboaaDoorBlkP
import Derived.Test.YtbebdhjhlheboaaDoorDsjQ
import Derived.Test.YtbebdhjhlheboaaDoorCubA
namespace Go.Proofs.YtbebdhjhlheboaaDoor
open Go.ChangeShapes Go.WideShapes Go.ChangeAt Go.RowKit

/-- The literals of a lifted clause: the cube's negations first, or last. -/
def lifF (m : Nat) (x l : Nat → Int) (i : Nat) : Int := if i < m then -(x i) else l (i - m)
def lifG (n : Nat) (l x : Nat → Int) (i : Nat) : Int := if i < n then l i else -(x (i - n))
theorem okD_sub {f g : Nat → Int} {N M : Nat} (h : ∀ i, i < N → ∃ j, j < M ∧ f i = g j) (hok : okD g M = true) : okD f N = true := by
  obtain ⟨h1, h2⟩ := okD_iff.1 hok
  refine okD_iff.2 ⟨fun i hi => ?_, fun i j hi hj e => ?_⟩
  · obtain ⟨a, ha, e⟩ := h i hi
    rw [e]; exact h1 a ha
  · obtain ⟨a, ha, e1⟩ := h i hi
    obtain ⟨b, hb, e2⟩ := h j hj
    rw [e1, e2] at e ⊢
    exact h2 a b ha hb e
theorem seenA_sub {f g : Nat → Int} {N M : Nat} (h1 : ∀ i, i < N → ∃ j, j < M ∧ f i = g j) (h2 : ∀ j, j < M → ∃ i, i < N ∧ g j = f i) (hok : okD g M = true) (v : Nat) : seenA f N v = seenA g M v := by
  obtain ⟨_, hu⟩ := okD_iff.1 hok
  rcases seenA_spec f N v with ⟨e1, n1⟩ | ⟨i, hi, e1, v1⟩ <;> rcases seenA_spec g M v with ⟨e2, n2⟩ | ⟨j, hj, e2, v2⟩
  · rw [e1, e2]
  · obtain ⟨i, hi, e⟩ := h2 j hj
    exact absurd (by rw [← e]; exact v2) (n1 i hi)
  · obtain ⟨j, hj, e⟩ := h1 i hi
    exact absurd (by rw [← e]; exact v1) (n2 j hj)
  · obtain ⟨k, hk, e⟩ := h1 i hi
    rw [e1, e2, e]
    exact hu k j hk hj (by rw [← e, v1, v2])
section
variable {m n : Nat} {x l : Nat → Int}
theorem lif_fg : ∀ i, i < m + n → ∃ j, j < n + m ∧ lifF m x l i = lifG n l x j := fun i hi => by
  by_cases h : i < m
  · refine ⟨n + i, by omega, ?_⟩
    unfold lifF lifG
    rw [if_pos h, if_neg (by omega), show n + i - n = i by omega]
  · refine ⟨i - m, by omega, ?_⟩
    unfold lifF lifG
    rw [if_neg h, if_pos (by omega)]
theorem lif_gf : ∀ j, j < n + m → ∃ i, i < m + n ∧ lifG n l x j = lifF m x l i := fun j hj => by
  by_cases h : j < n
  · refine ⟨m + j, by omega, ?_⟩
    unfold lifF lifG
    rw [if_pos h, if_neg (by omega), show m + j - m = j by omega]
  · refine ⟨j - n, by omega, ?_⟩
    unfold lifF lifG
    rw [if_neg h, if_pos (by omega)]
theorem lif_okD : okD (lifG n l x) (n + m) = okD (lifF m x l) (m + n) := by
  cases h : okD (lifF m x l) (m + n) with
  | true => exact okD_sub lif_gf h
  | false =>
    cases h2 : okD (lifG n l x) (n + m) with
    | false => rfl
    | true => rw [okD_sub lif_fg h2] at h; cases h
theorem lif_clB : clB (n + m) (lifG n l x) = clB (m + n) (lifF m x l) := by
  unfold clB
  rw [lif_okD, Nat.add_comm n m]
theorem lif_clF (h : clB (m + n) (lifF m x l) = true) : clF (n + m) (lifG n l x) = clF (m + n) (lifF m x l) := by
  unfold clB at h
  rw [Bool.and_eq_true] at h
  unfold clF
  congr 1
  exact funext fun v => seenA_sub lif_gf lif_fg h.2 v
end
theorem vlst_cg {f g : Nat → Int} : ∀ n, (∀ i, i < n → f i = g i) → vlst f n = vlst g n
  | 0, _ => rfl
  | n + 1, h => by
    show vlst f n ++ [f n] = vlst g n ++ [g n]
    rw [vlst_cg n fun i hi => h i (by omega), h n (by omega)]

/-- A step is lifted. -/
def lifB (k a b : Int) (n : Nat) (c l : Nat → Int) (bd : Int) (m : Nat) (x : Nat → Int) : Bool := k == 7 && ((a == 0 && b == 0) && (clauB n c l bd && (cubeB m x && clB (m + n) (lifF m x l))))
def lifN (k a b : Int) (n : Nat) (c l : Nat → Int) (bd : Int) (m : Nat) (x : Nat → Int) : Nat := if lifB k a b n c l bd m x then clN (m + n) (lifF m x l) else 0
def lifK (ok : Bool) : Int := if ok then 7 else 0
def lifD (ok : Bool) : Int := if ok then 1 else 0
def lifL (n : Nat) (l : Nat → Int) (m : Nat) (x : Nat → Int) : Nat → Int := rL (clF (m + n) (lifF m x l))
/-- What LiftStep leaves. -/
def LRes (w : World) (ok : Bool) (N : Nat) (f : Nat → Int) (e : Ending) (w' : World) : Prop :=
  ∃ A cap, e = .returned (.tuple #[.agg #[.int .i64 (lifK ok), .int .i64 0, .int .i64 0, .slice A N cap, .int .i64 (lifD ok)], .bool ok]) ∧ Frs w' w.heap.size A N one1 f ∧ Below w.heap.size w w'

set_option maxRecDepth 100000 in
set_option maxHeartbeats 1600000 in
theorem negationsO_any (A : Option Addr) (n cap : Nat) (f : Nat → Int) (w : World) (hn : n ≤ 1048576) (hf : ∀ i, i < n → -1048576 ≤ f i ∧ f i ≤ 1048576) (hr : RdI w w.heap.size A n f) :
    Calls Tryd.prog 27 #[.slice A n cap] w fun e w' => ∃ ov, e = .returned ov ∧ w'.ownsRow w.heap.size 3 1 ov n ((vlst (fun i => -(f i)) n).map (Value.int .i64)) ∧ Below w.heap.size w w' := by
  go_enter Tryd.func27, Tryd.ntmps27
  go_wp2
  obtain ⟨i0, hi, hz0, hz1, hz2⟩ := info_parts Tryd.infoInt
  have Hi := Lib.hid hi
  have Hz0 := Lib.hid hz0
  have Hz1 := Lib.hid hz1
  have Hz2 := Lib.hid hz2
  clear hi hz0 hz1 hz2
  go_loopw [3, 8] (fun o i wr => ∃ (j : Nat) (ov : Value), ov = o ∧ j ≤ n ∧ i = .int .i64 j ∧ wr.ownsRow w.heap.size 3 1 ov j ((vlst (fun i => -(f i)) j).map (Value.int .i64)) ∧ Below w.heap.size w wr) (fun _ i _ => n - (iOf i).toNat)
  case atStart => exact ⟨0, _, rfl, Nat.zero_le _, rfl, World.ownsRow_nil _ _ _ _, Below.refl _ _⟩
  case round =>
    obtain ⟨j, ov, rfl, hj, rfl, hown, hb⟩ := hrel
    have Hown := Lib.hid hown
    by_cases hlt : j < n
    · obtain ⟨b, off, rfl, hbl, hc⟩ := (hr.below hb) (by omega)
      have hc1 := hc j hlt
      have hzb : b < wr.heap.size := Nat.lt_of_lt_of_le hbl hb.size
      have hzw : w.heap.size ≤ wr.heap.size := hb.size
      have hltI : (j : Int) < (n : Int) := by omega
      have hj0 : (0 : Int) ≤ (j : Int) := by omega
      have HB := Lib.hid hb
      obtain ⟨y, hy⟩ : ∃ y : Int, f j = y := ⟨_, rfl⟩
      have hfj := hf j hlt
      rw [hy] at hc1 hfj
      obtain ⟨z, hz⟩ : ∃ z : Int, -y = z := ⟨_, rfl⟩
      have hw1 : wrap64 (-y) = z := by rw [← hz]; exact IntWalk.i64_left _ ▸ IntWalk.i64_in _ (by omega)
      have hw2 : IntKind.i64.wrap (-y) = z := by rw [← hz]; exact IntWalk.i64_in _ (by omega)
      have HX := Lib.hid (show z = (fun i => -(f i)) j from by rw [← hz, ← hy])
      clear hf hfj hz hy
      have HrowA := Lib.hid (hown.alloc (.cells #[.int .i64 (z)] 3))
      have HbA := Lib.hid (bl_alloc hb (.cells #[.int .i64 (z)] 3))
      have News := Lib.hid (World.news_of_block (w := wr.alloc (.cells #[.int .i64 (z)] 3)) (B := wr.heap.size) (cs := #[.int .i64 (z)]) (t := 3) (fr := (0, 0)) (heap_alloc_new wr _))
      clear hc hown hb hr
      go_wp2_with (at_builtin; refine wpList_plain (by rfl) fun K' hK' => ?_; refine wp_append_lies _ _ _ _ (by rfl) w.heap.size 3 i0 _ 1 8 Tryd.underlying27 Hi.out Hz0.out Hz1.out Hz2.out rfl (by omega) ov j _ (by rfl) HrowA.out ⟨wr.heap.size, 0, none⟩ 1 1 [.int .i64 (z)] (by rfl) (by rfl) (News.out) (by simp [Value.oneCell']) (by omega) (by unfold maxLen; omega) (by omega) (by simp; omega) (wr.heap.size + 1) (by simp) ?_; intro gg cap1 w4 hown3 hgrow hat3 hlt3; refine hK' _ _ ?_; clear hK' K')
      go_roundw
      case rel =>
        refine ⟨j + 1, _, rfl, by omega, by go_num, ?_, HbA.out.grown hgrow HbA.out.size (fun j e => (Hown.out.lt j e).1)⟩
        rw [show vlst (fun i => -(f i)) (j + 1) = vlst (fun i => -(f i)) j ++ [(fun i => -(f i)) j] from rfl, List.map_append, ← HX.out]
        exact hown3
      case measure => simp [iOf]; omega
    · have e : j = n := by omega
      subst e
      have HB := Lib.hid hb
      clear hb hown hr
      go_wp2
      go_ret
      exact ⟨_, rfl, Hown.out, HB.out⟩
end Go.Proofs.YtbebdhjhlheboaaDoor
