/- The program's normalize, its first loop (no claim of its own). Conditions: as each theorem states. -/
import Derived.Test.YtkahehfcedcpaaaNormF
import Derived.Maps.OwnOps
import Derived.Maps.Views
import Derived.WalkArith
import Derived.Deep.AppendLies
import Derived.OwnWalk
namespace Go.Proofs.Ytkahehfcedcpaaa
open Go.ChangeShapes Go.WideShapes Go.ChangeAt Go.RowKit Go.Maps Go.Sort Go.Shelf

theorem Try.lawInt : Keyed Try.prog 3 := int_keyed Try.underlying3
theorem Try.zeroInt (w : World) : (zeroValue 3).run Try.prog w = .ok (.int .i64 0) w := by kernel_rfl

/-- The map holds the net coefficients; its keys are variables. -/
structure MD (D : DataW Unit) (f : Nat → Int) : Prop where
  isMap : Tidy D
  at_ : ∀ v : Nat, v ≤ 12 → D.atKey (.int .i64 v) (.lit (.int .i64 0)) = .lit (.int .i64 (f v))
  keys : ∀ es, D = .map es → ∀ p ∈ es, ∃ v : Nat, 1 ≤ v ∧ v ≤ 12 ∧ p.1 = .int .i64 v

theorem MD.put {D : DataW Unit} {f g : Nat → Int} {v : Nat} {x : Int} (h : MD D f) (hv1 : 1 ≤ v) (hv2 : v ≤ 12) (hx : g v = x) (he : ∀ i : Nat, i ≤ 12 → i ≠ v → g i = f i) :
    MD (D.put (.int .i64 v) (.lit (.int .i64 x))) g where
  isMap := h.isMap.put (by simp [WideAt.IsKeyLit]) _
  at_ i hi := by
    by_cases e : i = v
    · subst e
      rw [atKey_put_same h.isMap.isMap (by simp [WideAt.IsKeyLit]), hx]
    · rw [atKey_put_other (by intro e'; injection e' with _ e2; omega), h.at_ i hi, he i hi e]
  keys es hes p hp := by
    obtain ⟨es0, rfl, _⟩ := h.isMap
    have e1 : DataW.insert (Lit.int .i64 (v : Int), DataW.lit (.int .i64 x)) (es0.filter fun p => !p.1.sameKey (.int .i64 v)) = es := by
      have h2 : DataW.map (DataW.insert (Lit.int .i64 (v : Int), DataW.lit (.int .i64 x)) (es0.filter fun p => !p.1.sameKey (.int .i64 v))) = DataW.map es := hes
      injection h2
    rw [← e1, ChangeMaps.mem_insert_iff] at hp
    rcases hp with rfl | hp
    · exact ⟨v, hv1, hv2, rfl⟩
    · exact h.keys es0 rfl p (List.mem_filter.1 hp).1

theorem MD.inv {D : DataW Unit} {f : Nat → Int} (h : MD D f) {ss : List Int} (hp : ss.Perm (intKeys D)) : Inv f 0 (ss.mergeSort (fun x y => decide (x ≤ y))) := by
  obtain ⟨es, rfl, hpw⟩ := h.isMap
  have hk := h.keys es rfl
  have hks : (ss.mergeSort (fun x y => decide (x ≤ y))).Perm (intKeys (.map es)) := (List.mergeSort_perm ss _).trans hp
  have hnd : (intKeys (.map es)).Nodup := by
    refine List.pairwise_map.2 (hpw.imp_of_mem fun {p q} hp' hq' hne e => hne ?_)
    obtain ⟨a, _, _, ha⟩ := hk p hp'
    obtain ⟨b, _, _, hb⟩ := hk q hq'
    rw [ha, hb] at e ⊢
    exact congrArg _ e
  refine ⟨by omega, fun u hu1 hu2 hu3 => ?_, fun x hx => ?_, ?_⟩
  · have hh : has (.map es) (.int .i64 (u : Int)) = true := by
      cases e : has (.map es) (.int .i64 (u : Int)) with
      | true => rfl
      | false =>
        have h1 := h.at_ u hu2
        rw [atKey_of_not_has e] at h1
        injection h1 with h1
        injection h1 with _ h1
        exact absurd h1.symm hu3
    rw [has_eq, List.any_eq_true] at hh
    obtain ⟨p, hp1, hp2⟩ := hh
    rw [hks.mem_iff]
    refine List.mem_map.2 ⟨p, hp1, ?_⟩
    rw [WideAt.sameKey_eq hp2]
    rfl
  · rw [hks.mem_iff] at hx
    obtain ⟨p, hp1, rfl⟩ := List.mem_map.1 hx
    obtain ⟨v, hv1, hv2, hv3⟩ := hk p hp1
    rw [hv3]
    exact ⟨v, rfl, by omega, hv2⟩
  · have hle : (ss.mergeSort (fun x y => decide (x ≤ y))).Pairwise (fun x y => decide (x ≤ y) = true) :=
      List.pairwise_mergeSort (fun a b c h1 h2 => by simp at h1 h2 ⊢; omega) (fun a b => by simp; omega) ss
    have hne : (ss.mergeSort (fun x y => decide (x ≤ y))).Pairwise (fun x y => x ≠ y) := (hks.nodup_iff).2 hnd
    exact (hle.and hne).imp (fun {a b} ⟨h1, h2⟩ => by simp at h1; omega)

/-- 'maps.Keys' and 'slices.Sorted' at this program. -/
theorem sortsA (m : Nat) : AnyZI.SortsIn Try.prog Try.sortedA_ren Fence.wide m :=
  ⟨fun blk off cap ss W hH hblk hsz => callsIn_wide.2 (AnyM.slices_Sort_int Try.sortA blk off cap ss W hH hblk hsz),
   fun p cap W => callsIn_wide.2 (AnyM.slices_Sort_int_none Try.sortA p cap W)⟩
theorem keysOf_any (b : Nat) (w : World) :
    Calls Try.prog 56 #[.map (some b)] w fun e w' => e = .returned (.func (.func 61) #[] #[.pointer (some ⟨w.heap.size, 0, none⟩)]) ∧ w' = w.alloc (.cells #[.map (some b)] 71) :=
  (callsIn_wide (n := 6)).1 (AnyZI.keys_in Try.keysA Fence.wide 6 trivial rfl (some b) w)
theorem sortedOf_any (b nn : Nat) (D0 : DataW Unit) (R : Value → Option (DataW Unit × List MemPlace)) (w : World) (hown : w.ownsMap Try.prog 3 R b nn D0) (hmax : Maps.size D0 ≤ maxLen) (hbytes : Maps.size D0 * 8 ≤ 140737488355328) :
    Calls Try.prog 55 #[.func (.func 61) #[] #[.pointer (some ⟨w.heap.size, 0, none⟩)]] (w.alloc (.cells #[.map (some b)] 71)) fun e w' =>
      ∃ (v : Value) (ss : List Int), e = .returned v ∧ ss.Perm (intKeys D0) ∧
      w'.ownsRow w.heap.size 3 1 v ss.length ((ss.mergeSort (fun x y => decide (x ≤ y))).map encZ) ∧ (v = .slice none 0 0 ↔ ss = []) ∧ Below w.heap.size w w' := by
  have hbl := hown.lt
  have hseq : SeqGives Fence.wide 2 Try.prog 61 #[.pointer (some ⟨w.heap.size, 0, none⟩)] encZ (fun ss => ss.Perm (intKeys D0)) (Maps.size D0) (w.alloc (.cells #[.map (some b)] 71)) :=
    AnyZI.keys_gives (ρ := Try.keysA_ren) { Try.keysA with } Fence.wide _ trivial rfl (by omega) w.heap.size b nn D0 _ (by simp) (by simp) (by
      obtain ⟨es, clock, hb, Ft, hs, hD⟩ := hown
      exact ⟨es, clock, (Below.heap_alloc _ _ b hbl).trans hb, Ft, hs, hD⟩)
  have cS := AnyZI.sorted_in Try.sortedA Fence.wide 5 trivial trivial trivial trivial rfl (by omega) (sortsA _) (enters_of Try.func60 (by kernel_rfl) rfl) 61 #[.pointer (some ⟨w.heap.size, 0, none⟩)] trivial (enters_of Try.func61 (by kernel_rfl) rfl) _ _ hmax hbytes _ hseq
  change CallsIn _ _ Try.prog 55 _ _ _ at cS
  refine ((callsIn_wide (n := 5)).1 cS).mono ?_
  rintro e w' ⟨v, ss, rfl, hS, hrow, hnil, hb⟩
  exact ⟨v, ss, rfl, hS, ownsRow_base_a hrow (by simp), hnil, ((Below.refl _ w).alloc (Nat.le_refl _) _).trans (hb.mono (by simp))⟩

theorem size_le_own {P : Program} {w : World} {k : TypeId} {R : Value → Option (DataW Unit × List MemPlace)} {b n : Nat} {D : DataW Unit} (h : w.ownsMap P k R b n D) : Maps.size D ≤ n := by
  obtain ⟨es, clock, _, _, hs, rfl⟩ := h
  rw [size_eq, length_sorted]
  simpa using hs

/-- A row of numbers of the call's own, as the walk reads it. -/
theorem ints_of_row {w : World} {B n : Nat} {v : Value} {ks : List Int} (h : w.ownsRow B 3 1 v n (ks.map encZ)) (hn : ks.length = n) :
    ∃ A cap, v = .slice A n cap ∧ (0 < n → ∃ g, A = some ⟨g, 0, none⟩ ∧ B ≤ g ∧ g < w.heap.size ∧ ∀ i, i < n → w.cell? ⟨g, i, none⟩ = some (.int .i64 (ks.getD i 0))) := by
  have hlt := h.lt
  rcases h.2 with ⟨rfl, hx⟩ | ⟨g, cap, cur, rfl, hg, hh, hnc, _, hsz, htk⟩
  · have : n = 0 := by
      exact hx
    exact ⟨none, 0, by rw [this], fun h => absurd h (by omega)⟩
  · refine ⟨_, cap, rfl, fun _ => ⟨g, rfl, hg, (hlt g rfl).2, fun i hi => ?_⟩⟩
    have hx : (ks.map encZ)[i]? = some (encZ (ks.getD i 0)) := by
      rw [List.getElem?_map, List.getElem?_eq_getElem (by omega)]
      simp [List.getD, List.getElem?_eq_getElem (show i < ks.length by omega)]
    rw [← htk, List.getElem?_take_of_lt (by omega)] at hx
    exact (cell_of_row w g _ cur _ _ hh).trans (by simpa [encZ] using hx)

theorem bl_alloc2 {B : Nat} {a w : World} (h : Below B a w) (o : Obj) (hB : B ≤ w.heap.size := by omega) : Below B a (w.alloc o) := h.alloc hB o

/-- What normalize leaves. -/
def NmRes (w : World) (R : List (Int × Int)) (b : Int) (e : Ending) (w' : World) : Prop :=
  ∃ A cap, e = .returned (.agg #[.slice A R.length cap, .int .i64 (capB b)]) ∧ Frs w' w.heap.size A R.length (rC R) (rL R) ∧ Below w.heap.size w w'

set_option maxRecDepth 100000 in
set_option maxHeartbeats 1600000 in
theorem implNorm_x (A : Option Addr) (n cap : Nat) (bd : Int) (c l : Nat → Int) (w : World) (hn : n ≤ 1048576) (hr : Rd w w.heap.size A n c l) (hv : allN c l n = true) :
    Calls Try.prog 44 #[.slice A n cap, .int .i64 bd] w (NmRes w (nfR n c l) (nfb n c l bd)) := by
  have Hv := Lib.hid hv
  clear hv
  have hmm := @run_makeMap Try.prog
  go_enter Try.func44, Try.ntmps44
  go_wp2
  go_loopw [1, 16] (fun t i wr => ∃ k : Nat, k ≤ n ∧ i = .int .i64 k ∧ t = .int .i64 (nbd c l bd k) ∧ wr.cell? ⟨w.heap.size, 0, none⟩ = some (.slice none 0 0) ∧ wr.cell? ⟨w.heap.size, 1, none⟩ = some (.int .i64 0) ∧ wr.frozen? ⟨w.heap.size, 0, none⟩ = false ∧ wr.frozen? ⟨w.heap.size, 1, none⟩ = false ∧ (∃ D, wr.ownsMap Try.prog 3 (plainElem Try.prog 3) (w.heap.size + 1) k D ∧ MD D (net c l k)) ∧ Below w.heap.size w wr) (fun _ i _ => n - (intOf i).toNat)
  case atStart => exact ⟨0, Nat.zero_le _, rfl, rfl, by go_simp, by go_simp, by go_simp, by go_simp, ⟨_, by have h := World.ownsMap_made (H := Unit) (w.alloc (.cells #[.slice none 0 0, .int .i64 0] 29)) Try.prog 3 (plainElem Try.prog 3); simpa using h, ⟨tidy_empty, fun v _ => rfl, fun es h p hp => by injection h with h; subst h; cases hp⟩⟩, (bl_alloc (Below.refl _ _) _).alloc (by simp) _⟩
  case round =>
    obtain ⟨k, hk, rfl, rfl, r0, r1, f0, f1, ⟨D, hown, hD⟩, hb⟩ := hrel
    have HD := Lib.hid hD
    have Hown := Lib.hid hown
    clear hD hown
    by_cases hlt : k < n
    · have hok := okN_iff.1 (allN_at Hv.out hlt)
      obtain ⟨hl0, hl1, hl2⟩ := litB_iff.1 hok.1
      obtain ⟨b, off, rfl, hbl, hc⟩ := (hr.below hb) (by omega)
      obtain ⟨hc1, hc2⟩ := hc k hlt
      have hzb : b < wr.heap.size := Nat.lt_of_lt_of_le hbl hb.size
      by_cases hneg : l k < 0
      · obtain ⟨v, hlv⟩ : ∃ v : Nat, l k = -(v : Int) := ⟨(-(l k)).toNat, by omega⟩
        have Hlv := Lib.hid hlv
        have Hbd := Lib.hid (nbd_neg (c := c) (bd := bd) (l := l) (k := k) (by omega))
        have hv0 : 0 < v := by omega
        have hv12 : v ≤ 12 := by omega
        have hab : ab (l k) = (v : Int) := by unfold ab; rw [if_pos hneg, hlv]; omega
        have hvar : ∀ X : World, Calls Try.prog 38 #[.int .i64 (l k)] X fun e w'' => e = .returned (.int .i64 (v : Int)) ∧ w'' = X := fun X => by
          have h := litVariable_any (l k) X hl1 hl2
          rw [hab] at h
          exact h.mono fun e w' ⟨a, b⟩ => ⟨a, b.symm⟩
        have hkey : keyOf Try.prog 3 (.int .i64 (v : Int)) = some (.int .i64 (v : Int)) := keyOf_int_mk Try.underlying3 (WalkArith.wf_i64 (by omega))
        have hq : w.heap.size + 1 < wr.heap.size := Hown.out.lt
        have hal : Below wr.heap.size wr (wr.alloc (.cells #[.int .i64 (c k), .int .i64 (l k)] 50)).drew := (bl_alloc (Below.refl _ _) _).drew
        have t0 : (wr.alloc (.cells #[.int .i64 (c k), .int .i64 (l k)] 50)).drew.cell? ⟨wr.heap.size, 0, none⟩ = some (.int .i64 (c k)) := by go_simp
        have HownA := Lib.hid ((Hown.out.alloc (.cells #[.int .i64 (c k), .int .i64 (l k)] 50)).drew)
        have HbA := Lib.hid (bl_trans hb hal)
        replace r0 := kc hal r0
        replace r1 := kc hal r1
        replace f0 := kf hal (by show w.heap.size < _; omega) f0
        replace f1 := kf hal (by show w.heap.size < _; omega) f1
        clear hc hmm hr hok hal hb hab hlv
        go_upto_region 7 with (first | (go_at_call 54; refine (litNegated_any _ _).mono ?_; rintro e w' ⟨rfl, rfl⟩))
        refine wp_region_still_tail 7 (by kernel_rfl) (by kernel_rfl) ?_
        change wpStill _ _ (wr.alloc (.cells #[.int .i64 (c k), .int .i64 (l k)] 50)).drew (fun a' => wpList _ _ _ _ a' (wr.alloc (.cells #[.int .i64 (c k), .int .i64 (l k)] 50)).drew) _ _
        generalize (wr.alloc (.cells #[.int .i64 (c k), .int .i64 (l k)] 50)).drew = X at *
        obtain ⟨cv, hrun, hat, hwc⟩ := HownA.out.lookup_int (t := 71) Try.lawInt Try.underlying71 Try.underlying3 (Try.zeroInt _) hkey
        have hcv : cv = net c l k v := by
          have h := hat.symm.trans (HD.out.at_ v hv12)
          injection h with h
          injection h
        subst hcv
        simp only [List.take_succ_cons, List.take_zero, List.drop_succ_cons, List.drop_zero]
        clear hat hwc
        repeat (first | still_step | still_call (hvar _))
        refine wpStill_nil ?_
        refine wpList_mapUpdate_own _ rfl _ _ _ 71 rfl 3 3 Try.lawInt Try.underlying71 _ (w.heap.size + 1) k _ rfl HownA.out (by unfold maxLen; omega) _ _ _ rfl rfl hkey _ [] (plainElem_int Try.underlying3 (by rw [IntWalk.i64_left]; exact wrap64_wf _)) ?_
        intro w1 hown1 hgrow1
        have t1 := hgrow1.cell (a := ⟨wr.heap.size, 0, none⟩) t0 (by simp; omega)
        go_wp2
        go_roundw
        case rel => exact ⟨k + 1, by omega, by go_num, by rw [Hbd.out], hgrow1.cell (a := ⟨w.heap.size, 0, none⟩) r0 (by simp), hgrow1.cell (a := ⟨w.heap.size, 1, none⟩) r1 (by simp), (hgrow1.frozen_far ⟨w.heap.size, 0, none⟩ (World.block_lt_of_cell? _ _ r0) (by simp)).trans f0, (hgrow1.frozen_far ⟨w.heap.size, 1, none⟩ (World.block_lt_of_cell? _ _ r1) (by simp)).trans f1, ⟨_, hown1, HD.out.put (by omega) hv12 (by rw [IntWalk.i64_left]; exact net_neg (c := c) Hlv.out hv0) (fun i hi hne => net_off (by rw [Hlv.out]; omega) (by rw [Hlv.out]; omega))⟩, HbA.out.grown hgrow1 HbA.out.size (fun j e => by cases e; omega)⟩
        case measure => simp [intOf]; omega
      · obtain ⟨v, hlv⟩ : ∃ v : Nat, l k = (v : Int) := ⟨(l k).toNat, by omega⟩
        have Hlv := Lib.hid hlv
        have Hbd := Lib.hid (nbd_pos (c := c) (bd := bd) (l := l) (k := k) (by omega))
        have hv0 : 0 < v := by omega
        have hv12 : v ≤ 12 := by omega
        have hab : ab (l k) = (v : Int) := by unfold ab; rw [if_neg hneg, hlv]
        have hvar : ∀ X : World, Calls Try.prog 38 #[.int .i64 (l k)] X fun e w'' => e = .returned (.int .i64 (v : Int)) ∧ w'' = X := fun X => by
          have h := litVariable_any (l k) X hl1 hl2
          rw [hab] at h
          exact h.mono fun e w' ⟨a, b⟩ => ⟨a, b.symm⟩
        have hkey : keyOf Try.prog 3 (.int .i64 (v : Int)) = some (.int .i64 (v : Int)) := keyOf_int_mk Try.underlying3 (WalkArith.wf_i64 (by omega))
        have hq : w.heap.size + 1 < wr.heap.size := Hown.out.lt
        have hal : Below wr.heap.size wr (wr.alloc (.cells #[.int .i64 (c k), .int .i64 (l k)] 50)).drew := (bl_alloc (Below.refl _ _) _).drew
        have t0 : (wr.alloc (.cells #[.int .i64 (c k), .int .i64 (l k)] 50)).drew.cell? ⟨wr.heap.size, 0, none⟩ = some (.int .i64 (c k)) := by go_simp
        have HownA := Lib.hid ((Hown.out.alloc (.cells #[.int .i64 (c k), .int .i64 (l k)] 50)).drew)
        have HbA := Lib.hid (bl_trans hb hal)
        replace r0 := kc hal r0
        replace r1 := kc hal r1
        replace f0 := kf hal (by show w.heap.size < _; omega) f0
        replace f1 := kf hal (by show w.heap.size < _; omega) f1
        clear hc hmm hr hok hal hb hab hlv
        go_upto_region 9 with (first | (go_at_call 54; refine (litNegated_any _ _).mono ?_; rintro e w' ⟨rfl, rfl⟩))
        refine wp_region_still_tail 7 (by kernel_rfl) (by kernel_rfl) ?_
        change wpStill _ _ (wr.alloc (.cells #[.int .i64 (c k), .int .i64 (l k)] 50)).drew (fun a' => wpList _ _ _ _ a' (wr.alloc (.cells #[.int .i64 (c k), .int .i64 (l k)] 50)).drew) _ _
        generalize (wr.alloc (.cells #[.int .i64 (c k), .int .i64 (l k)] 50)).drew = X at *
        obtain ⟨cv, hrun, hat, hwc⟩ := HownA.out.lookup_int (t := 71) Try.lawInt Try.underlying71 Try.underlying3 (Try.zeroInt _) hkey
        have hcv : cv = net c l k v := by
          have h := hat.symm.trans (HD.out.at_ v hv12)
          injection h with h
          injection h
        subst hcv
        simp only [List.take_succ_cons, List.take_zero, List.drop_succ_cons, List.drop_zero]
        clear hat hwc
        repeat (first | still_step | still_call (hvar _))
        refine wpStill_nil ?_
        refine wpList_mapUpdate_own _ rfl _ _ _ 71 rfl 3 3 Try.lawInt Try.underlying71 _ (w.heap.size + 1) k _ rfl HownA.out (by unfold maxLen; omega) _ _ _ rfl rfl hkey _ [] (plainElem_int Try.underlying3 (by rw [IntWalk.i64_left]; exact wrap64_wf _)) ?_
        intro w1 hown1 hgrow1
        have t1 := hgrow1.cell (a := ⟨wr.heap.size, 0, none⟩) t0 (by simp; omega)
        go_wp2
        go_roundw
        case rel => exact ⟨k + 1, by omega, by go_num, by rw [Hbd.out], hgrow1.cell (a := ⟨w.heap.size, 0, none⟩) r0 (by simp), hgrow1.cell (a := ⟨w.heap.size, 1, none⟩) r1 (by simp), (hgrow1.frozen_far ⟨w.heap.size, 0, none⟩ (World.block_lt_of_cell? _ _ r0) (by simp)).trans f0, (hgrow1.frozen_far ⟨w.heap.size, 1, none⟩ (World.block_lt_of_cell? _ _ r1) (by simp)).trans f1, ⟨_, hown1, HD.out.put (by omega) hv12 (by rw [IntWalk.i64_left]; exact net_pos (c := c) Hlv.out) (fun i hi hne => net_off (by rw [Hlv.out]; omega) (by rw [Hlv.out]; omega))⟩, HbA.out.grown hgrow1 HbA.out.size (fun j e => by cases e; omega)⟩
        case measure => simp [intOf]; omega
    · have e : k = n := by omega
      subst e
      clear hmm hr
      have hq : w.heap.size + 1 < wr.heap.size := Hown.out.lt
      have Hb := Lib.hid hb
      clear hb
      have hz := size_le_own Hown.out
      go_wp2_with fail
      refine (keysOf_any _ _).mono ?_
      rintro e w1 ⟨rfl, rfl⟩
      go_wp2_with fail
      refine (sortedOf_any (w.heap.size + 1) k D _ wr Hown.out (by unfold maxLen; omega) (by omega)).mono ?_
      rintro e w2 ⟨sv, ss, rfl, hperm, hrow, hnil, hb2⟩
      have hinv := Lib.hid (HD.out.inv hperm)
      have hlen : (ss.mergeSort (fun x y => decide (x ≤ y))).length = ss.length := List.length_mergeSort _
      have hlz : ss.length ≤ k := by
        have h1 := hperm.length_eq
        obtain ⟨es, rfl, _⟩ := HD.out.isMap
        have h2 : (intKeys (.map es)).length = es.length := by show (es.map _).length = _; simp
        rw [size_eq] at hz
        omega
      clear hperm hnil
      generalize ss.mergeSort (fun x y => decide (x ≤ y)) = ks at *
      rw [← hlen] at hrow hlz
      obtain ⟨A2, cap2, rfl, hks⟩ := ints_of_row hrow rfl
      clear hlen hrow
      have hown2 : w2.ownsMap Try.prog 3 (plainElem Try.prog 3) (w.heap.size + 1) k D := by
        obtain ⟨es, clock, hh, Ft, hs, hDe⟩ := Hown.out
        exact ⟨es, clock, (hb2.block _ (by omega)).trans hh, Ft, hs, hDe⟩
      have HB2 := Lib.hid (bl_trans Hb.out hb2)
      replace r0 := kc hb2 r0
      replace r1 := kc hb2 r1
      replace f0 := kf hb2 (by show w.heap.size < _; omega) f0
      replace f1 := kf hb2 (by show w.heap.size < _; omega) f1
      have hq2 : w.heap.size + 1 < w2.heap.size := hown2.lt
      have Hown2 := Lib.hid hown2
      obtain ⟨i0, hi, hz0, hz1, hz2⟩ := info_parts Try.infoTerm
      have Hi := Lib.hid hi
      have Hz0 := Lib.hid hz0
      have Hz1 := Lib.hid hz1
      have Hz2 := Lib.hid hz2
      clear hown2 hb2 hi hz0 hz1 hz2 hz
      go_wp2
      go_loopw [1, 9, 47] (fun t o i wq => ∃ (j V : Nat) (ov : Value), ov = o ∧ j ≤ ks.length ∧ i = .int .i64 j ∧ t = .int .i64 (bndN (net c l k) (nbd c l bd k) V) ∧ wq.ownsRow w2.heap.size 50 2 ov (rowsN (net c l k) V).length (rcells (rowsN (net c l k) V)) ∧ Inv (net c l k) V (ks.drop j) ∧ Below w2.heap.size w2 wq) (fun _ _ i _ => ks.length - (intOf i).toNat)
      case atStart => exact ⟨0, 0, _, rfl, Nat.zero_le _, rfl, rfl, World.ownsRow_nil _ _ _ _, hinv.out, Below.refl _ _⟩
      case round =>
        obtain ⟨j, V, ov, rfl, hj, rfl, rfl, hrowr, hinvq, hbq⟩ := hrel
        have Hrowr := Lib.hid hrowr
        have Hinvq := Lib.hid hinvq
        have Hbq := Lib.hid hbq
        clear hrowr hinvq hbq
        by_cases hjl : j < ks.length
        · have hd : ks.drop j = ks.getD j 0 :: ks.drop (j + 1) := by
            rw [List.drop_eq_getElem_cons hjl]
            simp [List.getD, List.getElem?_eq_getElem hjl]
          obtain ⟨v, hx, hv1, hv12, hrows, hbd2, hinv2⟩ := (show Inv _ _ (ks.getD j 0 :: ks.drop (j + 1)) from hd ▸ Hinvq.out).step (nbd c l bd k)
          have hinv2 := Lib.hid hinv2
          obtain ⟨g, rfl, hg1, hg2, hgc⟩ := hks (by omega)
          have hcell : wr.cell? ⟨g, j, none⟩ = some (.int .i64 (v : Int)) := kc Hbq.out (by rw [← hx]; exact hgc j hjl)
          have hownq : wr.ownsMap Try.prog 3 (plainElem Try.prog 3) (w.heap.size + 1) k D := by
            obtain ⟨es, clock, hh, Ft, hs, hDe⟩ := Hown2.out
            exact ⟨es, clock, (Hbq.out.block _ (by omega)).trans hh, Ft, hs, hDe⟩
          have hkey : keyOf Try.prog 3 (.int .i64 (v : Int)) = some (.int .i64 (v : Int)) := keyOf_int_mk Try.underlying3 (WalkArith.wf_i64 (by omega))
          obtain ⟨cv, hrun, hat, hwc⟩ := hownq.lookup_int (t := 71) Try.lawInt Try.underlying71 Try.underlying3 (Try.zeroInt _) hkey
          have hcv : cv = net c l k v := by
            have h := hat.symm.trans (HD.out.at_ v hv12)
            injection h with h
            injection h
          subst hcv
          have hRl := rowsN_length (net c l k) V
          have hV := Hinvq.out.le
          have hqs := Hbq.out.size
          clear hd hx hgc hks hownq hkey hat hwc
          by_cases hp : 0 < net c l k v
          · rw [rowAt_pos hp] at hrows
            have hbd2 : bndN (net c l k) (nbd c l bd k) v = bndN (net c l k) (nbd c l bd k) V := by rw [hbd2]; exact if_neg (by omega)
            have hrows := Lib.hid hrows
            have hbd2 := Lib.hid hbd2
            have News := Lib.hid (World.news_of_block (w := wr.alloc (.cells #[.int .i64 (net c l k v), .int .i64 (v : Int)] 50)) (B := wr.heap.size) (cs := #[.int .i64 (net c l k v), .int .i64 (v : Int)]) (t := 50) (fr := (0, 0)) (heap_alloc_new wr _))
            have HrowA := Lib.hid (Hrowr.out.alloc (.cells #[.int .i64 (net c l k v), .int .i64 (v : Int)] 50))
            have HbA := Lib.hid (bl_alloc2 Hbq.out (.cells #[.int .i64 (net c l k v), .int .i64 (v : Int)] 50))
            go_wp2_with (first
              | (at_builtin; refine wpList_plain (by rfl) fun K' hK' => ?_; refine wp_append_lies _ _ _ _ (by rfl) w2.heap.size 50 i0 _ 2 16 Try.underlying27 Hi.out Hz0.out Hz1.out Hz2.out rfl (by omega) ov (rowsN (net c l k) V).length _ (by rfl) HrowA.out ⟨wr.heap.size, 0, none⟩ 1 1 [.int .i64 (net c l k v), .int .i64 (v : Int)] (by rfl) (by rfl) (News.out) (by simp [Value.oneCell']) (by omega) (by unfold maxLen; omega) (by omega) (by simp; omega) (wr.heap.size + 1) (by simp) ?_; intro gg cap1 w3 hown3 hgrow hat3 hlt3; refine hK' _ _ ?_; clear hK' K')
              | go_in)
            go_roundw
            case rel => exact ⟨j + 1, v, _, rfl, by omega, by go_num, by rw [hbd2.out], by rw [hrows.out, rcells_append, List.length_append]; exact hown3, hinv2.out, HbA.out.grown hgrow HbA.out.size (fun j e => (Hrowr.out.lt j e).1)⟩
            case measure => simp [intOf]; omega
          · by_cases hn2 : net c l k v < 0
            · rw [rowAt_neg hn2, IntWalk.i64_left] at hrows
              have hbd2 : bndN (net c l k) (nbd c l bd k) v = wrap64 (bndN (net c l k) (nbd c l bd k) V - net c l k v) := by rw [hbd2]; exact if_pos hn2
              have hrows := Lib.hid hrows
              have hbd2 := Lib.hid hbd2
              have hwv : IntKind.i64.wrap (-(v : Int)) = -(v : Int) := IntWalk.i64_in _ (by omega)
              have News := Lib.hid (World.news_of_block (w := wr.alloc (.cells #[.int .i64 (wrap64 (-(net c l k v))), .int .i64 (-(v : Int))] 50)) (B := wr.heap.size) (cs := #[.int .i64 (wrap64 (-(net c l k v))), .int .i64 (-(v : Int))]) (t := 50) (fr := (0, 0)) (heap_alloc_new wr _))
              have HrowA := Lib.hid (Hrowr.out.alloc (.cells #[.int .i64 (wrap64 (-(net c l k v))), .int .i64 (-(v : Int))] 50))
              have HbA := Lib.hid (bl_alloc2 Hbq.out (.cells #[.int .i64 (wrap64 (-(net c l k v))), .int .i64 (-(v : Int))] 50))
              go_wp2_with (first
                | (at_builtin; refine wpList_plain (by rfl) fun K' hK' => ?_; refine wp_append_lies _ _ _ _ (by rfl) w2.heap.size 50 i0 _ 2 16 Try.underlying27 Hi.out Hz0.out Hz1.out Hz2.out rfl (by omega) ov (rowsN (net c l k) V).length _ (by rfl) HrowA.out ⟨wr.heap.size, 0, none⟩ 1 1 [.int .i64 (wrap64 (-(net c l k v))), .int .i64 (-(v : Int))] (by rfl) (by rfl) (News.out) (by simp [Value.oneCell']) (by omega) (by unfold maxLen; omega) (by omega) (by simp; omega) (wr.heap.size + 1) (by simp) ?_; intro gg cap1 w3 hown3 hgrow hat3 hlt3; refine hK' _ _ ?_; clear hK' K')
                | go_in)
              go_roundw
              case rel => exact ⟨j + 1, v, _, rfl, by omega, by go_num, by rw [hbd2.out], by rw [hrows.out, rcells_append, List.length_append]; exact hown3, hinv2.out, HbA.out.grown hgrow HbA.out.size (fun j e => (Hrowr.out.lt j e).1)⟩
              case measure => simp [intOf]; omega
            · rw [rowAt_zero hp hn2, List.append_nil] at hrows
              have hbd2 : bndN (net c l k) (nbd c l bd k) v = bndN (net c l k) (nbd c l bd k) V := by rw [hbd2]; exact if_neg hn2
              have hrows := Lib.hid hrows
              have hbd2 := Lib.hid hbd2
              go_wp2
              go_roundw
              case rel => exact ⟨j + 1, v, _, rfl, by omega, by go_num, by rw [hbd2.out], by rw [hrows.out]; exact Hrowr.out, hinv2.out, Hbq.out⟩
              case measure => simp [intOf]; omega
        · have e : j = ks.length := by omega
          subst e
          have hd : ks.drop ks.length = [] := List.drop_eq_nil_of_le (Nat.le_refl _)
          obtain ⟨d1, d2⟩ := (show Inv _ _ [] from hd ▸ Hinvq.out).done (nbd c l bd k)
          obtain ⟨A', cap', rfl, hF⟩ := frs_of_row (c := rC (rowsN (net c l k) V)) (l := rL (rowsN (net c l k) V)) (by rw [← rcells_flat]; exact Hrowr.out)
          have HF := Lib.hid hF
          have D1 := Lib.hid d1
          have D2 := Lib.hid d2
          replace r0 := kc Hbq.out r0
          replace r1 := kc Hbq.out r1
          replace f0 := kf Hbq.out (by show w.heap.size < _; omega) f0
          replace f1 := kf Hbq.out (by show w.heap.size < _; omega) f1
          have HBq := Lib.hid (bl_trans HB2.out Hbq.out)
          clear hd d1 d2 hF hks
          by_cases hneg : bndN (net c l k) (nbd c l bd k) V < 0
          · have hB := Lib.hid (show capB (bndN (net c l k) (nbd c l bd k) V) = 0 from if_pos hneg)
            have hmx : max (bndN (net c l k) (nbd c l bd k) V) 0 = 0 := by omega
            go_wp2
            refine bodyPost_ret (v := .agg #[.slice A' (rowsN (net c l k) V).length cap', .int .i64 0]) (by simp [results, Try.results44, go_sem, r0, r1]) rfl ?_
            rw [show nfR k c l = rowsN (net c l k) V from D1.out, show nfb k c l bd = bndN (net c l k) (nbd c l bd k) V from D2.out]
            exact ⟨A', cap', by rw [hB.out], ((HF.out.far (by simp) (by simp; omega) _).far (by simp) (by simp; omega) _).more (by omega), (HBq.out.setCell (by simp) _).setCell (by simp) _⟩
          · have hB := Lib.hid (show capB (bndN (net c l k) (nbd c l bd k) V) = bndN (net c l k) (nbd c l bd k) V from if_neg hneg)
            have hmx : max (bndN (net c l k) (nbd c l bd k) V) 0 = bndN (net c l k) (nbd c l bd k) V := by omega
            go_wp2
            refine bodyPost_ret (v := .agg #[.slice A' (rowsN (net c l k) V).length cap', .int .i64 (bndN (net c l k) (nbd c l bd k) V)]) (by simp [results, Try.results44, go_sem, r0, r1]) rfl ?_
            rw [show nfR k c l = rowsN (net c l k) V from D1.out, show nfb k c l bd = bndN (net c l k) (nbd c l bd k) V from D2.out]
            exact ⟨A', cap', by rw [hB.out], ((HF.out.far (by simp) (by simp; omega) _).far (by simp) (by simp; omega) _).more (by omega), (HBq.out.setCell (by simp) _).setCell (by simp) _⟩
end Go.Proofs.Ytkahehfcedcpaaa
