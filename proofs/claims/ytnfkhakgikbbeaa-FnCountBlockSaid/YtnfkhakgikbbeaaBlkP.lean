/- Contracts of the program's rows of literals (no claim of its own). Conditions: as each theorem states. -/
import Derived.Test.YtnfkhakgikbbeaaBlkM
import Derived.Test.YtnfkhakgikbbeaaBoolA
namespace Go.Proofs.Ytnfkhakgikbbeaa
open Go.ChangeShapes Go.WideShapes Go.ChangeAt Go.RowKit

theorem Try.infoLitB : (Try.prog.info? 60).map (fun i => (i.zero, i.size, i.bytes)) = some (some (.int .i64 0), 1, 8) := by kernel_rfl

/-- A row of ints of the call's own, read. -/
theorem rdI_row {w : World} {B n : Nat} {T : TypeId} {u : Value} {f : Nat → Int} (h : w.ownsRow B T 1 u n ((vlst f n).map (Value.int .i64))) : ∃ A cap, u = .slice A n cap ∧ RdI w w.heap.size A n f := by
  have hlt := h.lt
  rcases h.2 with ⟨rfl, hz⟩ | ⟨g, cap, cur, rfl, hg, hh, hnc, _, hsz, htk⟩
  · have : n = 0 := hz
    exact ⟨none, 0, by rw [this], fun h => absurd h (by omega)⟩
  · refine ⟨_, cap, rfl, fun _ => ⟨g, 0, rfl, (hlt g rfl).2, fun i hi => ?_⟩⟩
    have hx : ((vlst f n).map (Value.int .i64))[i]? = some (.int .i64 (f i)) := by
      rw [List.getElem?_map, vlst_get f hi]
      rfl
    rw [← htk, List.getElem?_take_of_lt (by omega)] at hx
    rw [Nat.zero_add]
    exact (cell_of_row w g _ cur _ _ hh).trans (by simpa using hx)

set_option maxRecDepth 100000 in
set_option maxHeartbeats 1600000 in
theorem trueLitsB_any (A : Option Addr) (n cap : Nat) (v : Nat → Bool) (w : World) (hn : n ≤ 1048576) (hr : RdB w w.heap.size A n v) :
    Calls Try.prog 32 #[.slice A n cap] w fun e w' => ∃ A' cap', e = .returned (.slice A' n cap') ∧ RdI w' w'.heap.size A' n (truL v) ∧ Below w.heap.size w w' := by
  go_enter Try.func32, Try.ntmps32
  go_wp2
  obtain ⟨i0, hi, hz0, hz1, hz2⟩ := info_parts Try.infoLitB
  have Hi := Lib.hid hi
  have Hz0 := Lib.hid hz0
  have Hz1 := Lib.hid hz1
  have Hz2 := Lib.hid hz2
  clear hi hz0 hz1 hz2
  go_loopw [3, 9] (fun o i wr => ∃ (j : Nat) (ov : Value), ov = o ∧ j ≤ n ∧ i = .int .i64 j ∧ wr.ownsRow w.heap.size 60 1 ov j ((vlst (truL v) j).map (Value.int .i64)) ∧ Below w.heap.size w wr) (fun _ i _ => n - (iOf i).toNat)
  case atStart => exact ⟨0, _, rfl, Nat.zero_le _, rfl, World.ownsRow_nil _ _ _ _, Below.refl _ _⟩
  case round =>
    obtain ⟨j, ov, rfl, hj, rfl, hown, hb⟩ := hrel
    have Hown := Lib.hid hown
    by_cases hlt : j < n
    · obtain ⟨b, off, rfl, hbl, hc⟩ := (hr.below hb) (by omega)
      have hc1 := hc j hlt
      have hzb : b < wr.heap.size := Nat.lt_of_lt_of_le hbl hb.size
      have hzw : w.heap.size ≤ wr.heap.size := hb.size
      have hltI : (j : Int) < (n : Int) := by omega
      have hj0 : (0 : Int) ≤ (j : Int) := by omega
      have HB := Lib.hid hb
      cases hv : v j with
      | true =>
        rw [hv] at hc1
        have HX := Lib.hid (show (j : Int) + 1 = (truL v) j from by unfold truL; rw [hv]; rfl)
        have HrowA := Lib.hid (hown.alloc (.cells #[.int .i64 ((j : Int) + 1)] 60))
        have HbA := Lib.hid (bl_alloc hb (.cells #[.int .i64 ((j : Int) + 1)] 60))
        have News := Lib.hid (World.news_of_block (w := wr.alloc (.cells #[.int .i64 ((j : Int) + 1)] 60)) (B := wr.heap.size) (cs := #[.int .i64 ((j : Int) + 1)]) (t := 60) (fr := (0, 0)) (heap_alloc_new wr _))
        clear hc hown hb hr
        go_wp2_with (at_builtin; refine wpList_plain (by rfl) fun K' hK' => ?_; refine wp_append_lies _ _ _ _ (by rfl) w.heap.size 60 i0 _ 1 8 Try.underlying61 Hi.out Hz0.out Hz1.out Hz2.out rfl (by omega) ov j _ (by rfl) HrowA.out ⟨wr.heap.size, 0, none⟩ 1 1 [.int .i64 ((j : Int) + 1)] (by rfl) (by rfl) (News.out) (by simp [Value.oneCell']) (by omega) (by unfold maxLen; omega) (by omega) (by simp; omega) (wr.heap.size + 1) (by simp) ?_; intro gg cap1 w4 hown3 hgrow hat3 hlt3; refine hK' _ _ ?_; clear hK' K')
        go_roundw
        case rel =>
          refine ⟨j + 1, _, rfl, by omega, by go_num, ?_, HbA.out.grown hgrow HbA.out.size (fun j e => (Hown.out.lt j e).1)⟩
          rw [show vlst (truL v) (j + 1) = vlst (truL v) j ++ [(truL v) j] from rfl, List.map_append, ← HX.out]
          exact hown3
        case measure => simp [iOf]; omega
      | false =>
        rw [hv] at hc1
        have hw1 : wrap64 (-((j : Int) + 1)) = -((j : Int) + 1) := IntWalk.i64_left _ ▸ IntWalk.i64_in _ (by omega)
        have hw2 : IntKind.i64.wrap (-((j : Int) + 1)) = -((j : Int) + 1) := IntWalk.i64_in _ (by omega)
        have HX := Lib.hid (show -((j : Int) + 1) = (truL v) j from by unfold truL; rw [hv]; rfl)
        have HrowA := Lib.hid (hown.alloc (.cells #[.int .i64 (-((j : Int) + 1))] 60))
        have HbA := Lib.hid (bl_alloc hb (.cells #[.int .i64 (-((j : Int) + 1))] 60))
        have News := Lib.hid (World.news_of_block (w := wr.alloc (.cells #[.int .i64 (-((j : Int) + 1))] 60)) (B := wr.heap.size) (cs := #[.int .i64 (-((j : Int) + 1))]) (t := 60) (fr := (0, 0)) (heap_alloc_new wr _))
        clear hc hown hb hr
        go_wp2_with (at_builtin; refine wpList_plain (by rfl) fun K' hK' => ?_; refine wp_append_lies _ _ _ _ (by rfl) w.heap.size 60 i0 _ 1 8 Try.underlying61 Hi.out Hz0.out Hz1.out Hz2.out rfl (by omega) ov j _ (by rfl) HrowA.out ⟨wr.heap.size, 0, none⟩ 1 1 [.int .i64 (-((j : Int) + 1))] (by rfl) (by rfl) (News.out) (by simp [Value.oneCell']) (by omega) (by unfold maxLen; omega) (by omega) (by simp; omega) (wr.heap.size + 1) (by simp) ?_; intro gg cap1 w4 hown3 hgrow hat3 hlt3; refine hK' _ _ ?_; clear hK' K')
        go_roundw
        case rel =>
          refine ⟨j + 1, _, rfl, by omega, by go_num, ?_, HbA.out.grown hgrow HbA.out.size (fun j e => (Hown.out.lt j e).1)⟩
          rw [show vlst (truL v) (j + 1) = vlst (truL v) j ++ [(truL v) j] from rfl, List.map_append, ← HX.out]
          exact hown3
        case measure => simp [iOf]; omega
    · have e : j = n := by omega
      subst e
      obtain ⟨A', cap', rfl, hF⟩ := rdI_row Hown.out
      have HF := Lib.hid hF
      have HB := Lib.hid hb
      clear hF hb hown Hown hr
      go_wp2
      go_ret
      exact ⟨A', cap', rfl, HF.out, HB.out⟩

set_option maxRecDepth 100000 in
set_option maxHeartbeats 1600000 in
theorem negations_any (A : Option Addr) (n cap : Nat) (f : Nat → Int) (w : World) (hn : n ≤ 1048576) (hf : ∀ i, i < n → -1048576 ≤ f i ∧ f i ≤ 1048576) (hr : RdI w w.heap.size A n f) :
    Calls Try.prog 31 #[.slice A n cap] w fun e w' => ∃ A' cap', e = .returned (.slice A' n cap') ∧ RdI w' w'.heap.size A' n (fun i => -(f i)) ∧ Below w.heap.size w w' := by
  go_enter Try.func31, Try.ntmps31
  go_wp2
  obtain ⟨i0, hi, hz0, hz1, hz2⟩ := info_parts Try.infoInt
  have Hi := Lib.hid hi
  have Hz0 := Lib.hid hz0
  have Hz1 := Lib.hid hz1
  have Hz2 := Lib.hid hz2
  clear hi hz0 hz1 hz2
  go_loopw [3, 8] (fun o i wr => ∃ (j : Nat) (ov : Value), ov = o ∧ j ≤ n ∧ i = .int .i64 j ∧ wr.ownsRow w.heap.size 3 1 ov j ((vlst (fun i => -(f i)) j).map (Value.int .i64)) ∧ Below w.heap.size w wr) (fun _ i _ => n - (iOf i).toNat)
  case atStart => exact ⟨0, _, rfl, Nat.zero_le _, rfl, World.ownsRow_nil _ _ _ _, Below.refl _ _⟩
  case round =>
    obtain ⟨j, ov, rfl, hj, rfl, hown, hb⟩ := hrel
    have Hown := Lib.hid hown
    by_cases hlt : j < n
    · obtain ⟨b, off, rfl, hbl, hc⟩ := (hr.below hb) (by omega)
      have hc1 := hc j hlt
      have hzb : b < wr.heap.size := Nat.lt_of_lt_of_le hbl hb.size
      have hzw : w.heap.size ≤ wr.heap.size := hb.size
      have hltI : (j : Int) < (n : Int) := by omega
      have hj0 : (0 : Int) ≤ (j : Int) := by omega
      have HB := Lib.hid hb
      obtain ⟨y, hy⟩ : ∃ y : Int, f j = y := ⟨_, rfl⟩
      have hfj := hf j hlt
      rw [hy] at hc1 hfj
      obtain ⟨z, hz⟩ : ∃ z : Int, -y = z := ⟨_, rfl⟩
      have hw1 : wrap64 (-y) = z := by rw [← hz]; exact IntWalk.i64_left _ ▸ IntWalk.i64_in _ (by omega)
      have hw2 : IntKind.i64.wrap (-y) = z := by rw [← hz]; exact IntWalk.i64_in _ (by omega)
      have HX := Lib.hid (show z = (fun i => -(f i)) j from by rw [← hz, ← hy])
      clear hf hfj hz hy
      have HrowA := Lib.hid (hown.alloc (.cells #[.int .i64 (z)] 3))
      have HbA := Lib.hid (bl_alloc hb (.cells #[.int .i64 (z)] 3))
      have News := Lib.hid (World.news_of_block (w := wr.alloc (.cells #[.int .i64 (z)] 3)) (B := wr.heap.size) (cs := #[.int .i64 (z)]) (t := 3) (fr := (0, 0)) (heap_alloc_new wr _))
      clear hc hown hb hr
      go_wp2_with (at_builtin; refine wpList_plain (by rfl) fun K' hK' => ?_; refine wp_append_lies _ _ _ _ (by rfl) w.heap.size 3 i0 _ 1 8 Try.underlying24 Hi.out Hz0.out Hz1.out Hz2.out rfl (by omega) ov j _ (by rfl) HrowA.out ⟨wr.heap.size, 0, none⟩ 1 1 [.int .i64 (z)] (by rfl) (by rfl) (News.out) (by simp [Value.oneCell']) (by omega) (by unfold maxLen; omega) (by omega) (by simp; omega) (wr.heap.size + 1) (by simp) ?_; intro gg cap1 w4 hown3 hgrow hat3 hlt3; refine hK' _ _ ?_; clear hK' K')
      go_roundw
      case rel =>
        refine ⟨j + 1, _, rfl, by omega, by go_num, ?_, HbA.out.grown hgrow HbA.out.size (fun j e => (Hown.out.lt j e).1)⟩
        rw [show vlst (fun i => -(f i)) (j + 1) = vlst (fun i => -(f i)) j ++ [(fun i => -(f i)) j] from rfl, List.map_append, ← HX.out]
        exact hown3
      case measure => simp [iOf]; omega
    · have e : j = n := by omega
      subst e
      obtain ⟨A', cap', rfl, hF⟩ := rdI_row Hown.out
      have HF := Lib.hid hF
      have HB := Lib.hid hb
      clear hF hb hown Hown hr
      go_wp2
      go_ret
      exact ⟨A', cap', rfl, HF.out, HB.out⟩
end Go.Proofs.Ytnfkhakgikbbeaa
