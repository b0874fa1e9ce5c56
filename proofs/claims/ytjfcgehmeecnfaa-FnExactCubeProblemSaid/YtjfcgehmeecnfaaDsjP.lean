/- The program's disjunction: what it concludes (no claim of its own). Conditions: as each theorem states. -/
import Derived.Test.YtjfcgehmeecnfaaDsjX
import Derived.Test.YtjfcgehmeecnfaaDsjR
import Derived.Deep.AppendLies
namespace Go.Proofs.Ytjfcgehmeecnfaa
open Go.ChangeShapes Go.WideShapes Go.ChangeAt Go.RowKit Go.Shelf

def iOf : Value → Int | .int _ q => q | _ => 0
/-- The row, sorted and compacted. -/
def djK (n : Nat) (v : Nat → Int) : List Int := Go.Lib.compactUpTo (djD v n) (djD v n).size

theorem compact_any (G cap len : Nat) (d : Array Int) (w : World) (hH : Go.Sort.Holds Go.encZ w G 0 d) (hG : G < w.heap.size) (hs : d.size = len) (hl : len ≤ 1048576) (hcap : len ≤ cap) :
    Calls Try.prog 126 #[.slice (some ⟨G, 0, none⟩) len cap] w fun e w' => e = .returned (.slice (some ⟨G, 0, none⟩) (Go.Lib.compactUpTo d d.size).length cap) ∧ RdI w' w'.heap.size (some ⟨G, 0, none⟩) (Go.Lib.compactUpTo d d.size).length (getK (Go.Lib.compactUpTo d d.size)) ∧ w.grownBy w' (some G) := by
  have h := Any.slices_Compact_int_arr Try.compactD G 0 cap d w hH (by omega) (by omega)
  change Calls Try.prog 126 _ _ _ at h
  rw [hs] at h
  refine h.mono ?_
  rintro e w' ⟨rfl, q, rfl⟩
  have hle : (Go.Lib.compactUpTo d len).length ≤ len := by
    unfold Go.Lib.compactUpTo
    rw [List.length_map]
    exact Nat.le_trans (List.length_filter_le _ _) (by simp)
  have hsz : (Go.Lib.compactUpTo d len ++ List.replicate (len - (Go.Lib.compactUpTo d len).length) 0).toArray.size = d.size := by simp; omega
  have e1 : Go.Sort.putRow Go.encZ (Go.Sort.ahead w q) G 0 (Go.Lib.compactUpTo d len ++ List.replicate (len - (Go.Lib.compactUpTo d len).length) 0).toArray = sortWorld Go.encZ w G 0 q (Go.Lib.compactUpTo d len ++ List.replicate (len - (Go.Lib.compactUpTo d len).length) 0).toArray #[] := (Go.Sort.grow_empty _).symm
  have hx := holds_sortWorld Go.encZ w G 0 q d (Go.Lib.compactUpTo d len ++ List.replicate (len - (Go.Lib.compactUpTo d len).length) 0).toArray #[] hG hH hsz
  have hy := lt_sortWorld Go.encZ w G 0 q (Go.Lib.compactUpTo d len ++ List.replicate (len - (Go.Lib.compactUpTo d len).length) 0).toArray #[] hG
  have hz : w.grownBy (sortWorld Go.encZ w G 0 q (Go.Lib.compactUpTo d len ++ List.replicate (len - (Go.Lib.compactUpTo d len).length) 0).toArray #[]) (some G) := grownBy_sorted_i _
  rw [hs]
  refine ⟨rfl, ?_, ?_⟩
  · intro _
    refine ⟨G, 0, rfl, ?_, fun i hi => ?_⟩
    · exact Nat.lt_of_lt_of_eq hy (congrArg (fun W : World => W.heap.size) e1.symm)
    · have h1 := (hx i (by rw [hsz]; omega)).1
      rw [← e1] at h1
      refine h1.trans ?_
      rw [getElem!_pos _ i (by rw [hsz]; omega), getK_at hi]
      simp [List.getElem_append_left hi]
  · exact e1.symm ▸ hz

theorem row_capD {w : World} {B n s cap : Nat} {T : TypeId} {A : Option Addr} {xs : List Value} (h : w.ownsRow B T s (.slice A n cap) n xs) : n ≤ cap := by
  rcases h.2 with ⟨hov, hk⟩ | ⟨g, cap', cur, hov, hg, hh, hnc, _, hsz, htk⟩
  · omega
  · cases hov
    exact hnc
/-- What apply leaves, its slice no longer than its room. -/
def ARoom (w : World) (n : Nat) (c l : Nat → Int) (bd : Int) (e : Ending) (w' : World) : Prop :=
  ∃ A cap, e = .returned (.agg #[.slice A n cap, .int .i64 bd]) ∧ Frs w' w.heap.size A n c l ∧ Below w.heap.size w w' ∧ n ≤ cap

set_option maxRecDepth 100000 in
set_option maxHeartbeats 2000000 in
theorem djApply_room (A : Option Addr) (n cap : Nat) (v : Nat → Int) (w : World) (hn : n ≤ 1048576) (hr : RdI w w.heap.size A n v) :
    Calls Try.prog 120 #[.slice A n cap] w (ARoom w (djK n v).length one1 (getK (djK n v)) 1) := by
  have hR := Lib.hid hr
  clear hr
  go_enter Try.func120, Try.ntmps120
  go_wp2_with fail
  refine (valuesSeq_any _ _ _ _).mono ?_
  rintro e w1 ⟨rfl, hc, hz, hb⟩
  have HB1 := Lib.hid (bl_trans (bl_alloc (Below.refl w.heap.size w) _) hb)
  have r0 : w1.cell? ⟨w.heap.size, 0, none⟩ = some (.slice none 0 0) := kc hb (by go_simp)
  have r1 : w1.cell? ⟨w.heap.size, 1, none⟩ = some (.int .i64 0) := kc hb (by go_simp)
  have f0 : w1.frozen? ⟨w.heap.size, 0, none⟩ = false := kf hb (by simp) (by go_simp)
  have f1 : w1.frozen? ⟨w.heap.size, 1, none⟩ = false := kf hb (by simp) (by go_simp)
  have q1 : w.heap.size < w1.heap.size := World.block_lt_of_cell? w1 _ r0
  simp only [World.size_alloc] at hc hz
  have HC := Lib.hid hc
  clear hb hc
  go_wp2_with fail
  refine (sorted_any (w.heap.size + 1) A n cap v hn w1 hz HC.out (hR.out.later HB1.out)).mono ?_
  rintro e w2 ⟨u, rfl, hb, hu0, hu1⟩
  have HB2 := Lib.hid (bl_trans HB1.out hb)
  replace r0 := kc hb r0
  replace r1 := kc hb r1
  replace f0 := kf hb q1 f0
  replace f1 := kf hb q1 f1
  have q2 : w.heap.size < w2.heap.size := World.block_lt_of_cell? w2 _ r0
  have hz12 := hb.size
  have hcon : ∃ (A2 : Option Addr) (cap2 : Nat), u = .slice A2 n cap2 ∧ Calls Try.prog 126 #[.slice A2 n cap2] w2 (fun e w' => e = .returned (.slice A2 (djK n v).length cap2) ∧ RdI w' w'.heap.size A2 (djK n v).length (getK (djK n v)) ∧ Below (w.heap.size + 1) w2 w') := by
    by_cases h0 : n = 0
    · subst h0
      refine ⟨none, 0, hu0 rfl, (Any.slices_Compact_int_empty Try.compactD none 0 w2).mono ?_⟩
      rintro e w' ⟨rfl, rfl⟩
      have hk : djK 0 v = [] := by
        have : (djK 0 v).length ≤ 0 := by
          unfold djK Go.Lib.compactUpTo
          rw [List.length_map]
          exact Nat.le_trans (List.length_filter_le _ _) (by simp [djD_size])
        exact List.eq_nil_of_length_eq_zero (by omega)
      rw [hk]
      exact ⟨rfl, fun h => absurd h (by simp), Below.refl _ _⟩
    · obtain ⟨G, cap', rfl, hG, hGl, hcap, hH⟩ := hu1 (by omega)
      refine ⟨_, cap', rfl, (compact_any G cap' n (djD v n) w2 hH hGl (djD_size v n) hn hcap).mono ?_⟩
      rintro e w' ⟨rfl, h1, h2⟩
      exact ⟨rfl, h1, (Below.refl _ w2).grown h2 (by omega) (fun k e => by cases e; omega)⟩
  obtain ⟨A2, cap2, rfl, hcomp⟩ := hcon
  have HK := Lib.hid hcomp
  clear hb hu0 hu1 hcomp hz HC
  go_wp2_with fail
  refine HK.out.mono ?_
  rintro e w3 ⟨rfl, hr3, hb⟩
  have hkl : (djK n v).length ≤ 1048576 := by
    have : (djK n v).length ≤ n := by
      unfold djK Go.Lib.compactUpTo
      rw [List.length_map]
      exact Nat.le_trans (List.length_filter_le _ _) (by simp [djD_size])
    omega
  have HB3 := Lib.hid (HB2.out.trans (hb.mono (by omega)))
  replace r0 := (hb.cell (p := ⟨w.heap.size, 0, none⟩) (by show w.heap.size < w.heap.size + 1; omega)).trans r0
  replace r1 := (hb.cell (p := ⟨w.heap.size, 1, none⟩) (by show w.heap.size < w.heap.size + 1; omega)).trans r1
  replace f0 := (hb.frozen (p := ⟨w.heap.size, 0, none⟩) (by show w.heap.size < w.heap.size + 1; omega)).trans f0
  replace f1 := (hb.frozen (p := ⟨w.heap.size, 1, none⟩) (by show w.heap.size < w.heap.size + 1; omega)).trans f1
  have q3 : w.heap.size < w3.heap.size := World.block_lt_of_cell? w3 _ r0
  have HR3 := Lib.hid hr3
  clear hb HK hr3 hR hn
  generalize djK n v = K at *
  obtain ⟨i0, hi, hz0, hz1, hz2⟩ := info_parts Try.infoTerm
  have Hi := Lib.hid hi
  have Hz0 := Lib.hid hz0
  have Hz1 := Lib.hid hz1
  have Hz2 := Lib.hid hz2
  clear hi hz0 hz1 hz2
  go_wp2
  go_loopw [4, 13] (fun o i wq => ∃ (j : Nat) (ov : Value), ov = o ∧ j ≤ K.length ∧ i = .int .i64 j ∧ wq.ownsRow w3.heap.size 91 2 ov j (flat one1 (getK K) j) ∧ Below w3.heap.size w3 wq) (fun _ i _ => K.length - (iOf i).toNat)
  case atStart => exact ⟨0, _, rfl, Nat.zero_le _, rfl, World.ownsRow_nil _ _ _ _, Below.refl _ _⟩
  case round =>
    obtain ⟨j, ov, rfl, hj, rfl, hown, hb⟩ := hrel
    have Hown := Lib.hid hown
    have HB := Lib.hid hb
    by_cases hlt : j < K.length
    · obtain ⟨b, off, rfl, hbl, hc⟩ := (HR3.out.below hb) (by omega)
      have hc1 := hc j hlt
      have hzb : b < wr.heap.size := Nat.lt_of_lt_of_le hbl hb.size
      have hz3 : w3.heap.size ≤ wr.heap.size := hb.size
      have hltI : (j : Int) < (K.length : Int) := by omega
      have hj0 : (0 : Int) ≤ (j : Int) := by omega
      have HrowA := Lib.hid (hown.alloc (.cells #[.int .i64 1, .int .i64 (getK K j)] 91))
      have HbA := Lib.hid (bl_alloc hb (.cells #[.int .i64 1, .int .i64 (getK K j)] 91))
      have News := Lib.hid (World.news_of_block (w := wr.alloc (.cells #[.int .i64 1, .int .i64 (getK K j)] 91)) (B := wr.heap.size) (cs := #[.int .i64 1, .int .i64 (getK K j)]) (t := 91) (fr := (0, 0)) (heap_alloc_new wr _))
      clear hc hown hb r0 r1 f0 f1
      go_wp2_with (at_builtin; refine wpList_plain (by rfl) fun K' hK' => ?_; refine wp_append_lies _ _ _ _ (by rfl) w3.heap.size 91 i0 _ 2 16 Try.underlying67 Hi.out Hz0.out Hz1.out Hz2.out rfl (by omega) ov j _ (by rfl) HrowA.out ⟨wr.heap.size, 0, none⟩ 1 1 [.int .i64 1, .int .i64 (getK K j)] (by rfl) (by rfl) (News.out) (by simp [Value.oneCell']) (by omega) (by unfold maxLen; omega) (by omega) (by simp; omega) (wr.heap.size + 1) (by simp) ?_; intro gg cap1 w4 hown3 hgrow hat3 hlt3; refine hK' _ _ ?_; clear hK' K')
      go_roundw
      case rel => exact ⟨j + 1, _, rfl, by omega, by go_num, hown3, HbA.out.grown hgrow HbA.out.size (fun j e => (Hown.out.lt j e).1)⟩
      case measure => simp [iOf]; omega
    · have e : j = K.length := by omega
      subst e
      obtain ⟨A', cap', rfl, hF⟩ := frs_of_row Hown.out
      have HF := Lib.hid (hF.more (B' := w.heap.size + 1) (by omega))
      have hroom := row_capD Hown.out
      replace r0 := kc hb r0
      replace r1 := kc hb r1
      replace f0 := kf hb q3 f0
      replace f1 := kf hb q3 f1
      have HBz := Lib.hid (bl_trans HB3.out hb)
      clear hF hown hb Hown HB HB3
      go_wp2
      refine bodyPost_ret (v := .agg #[.slice A' K.length cap', .int .i64 1]) (by simp [results, Try.results120, go_sem, r0, r1]) rfl ?_
      exact ⟨A', cap', rfl, ((HF.out.far' (p := ⟨w.heap.size, 0, none⟩) rfl (Nat.lt_succ_self _) _).far' (p := ⟨w.heap.size, 1, none⟩) rfl (Nat.lt_succ_self _) _).more (Nat.le_succ _), (HBz.out.setCell (p := ⟨w.heap.size, 0, none⟩) (Nat.le_refl _) _).setCell (p := ⟨w.heap.size, 1, none⟩) (Nat.le_refl _) _, hroom⟩
theorem djApply_any (A : Option Addr) (n cap : Nat) (v : Nat → Int) (w : World) (hn : n ≤ 1048576) (hr : RdI w w.heap.size A n v) :
    Calls Try.prog 120 #[.slice A n cap] w (ARes w (djK n v).length one1 (getK (djK n v)) 1) :=
  (djApply_room A n cap v w hn hr).mono fun _ _ ⟨A, cap, he, h1, h2, _⟩ => ⟨A, cap, he, h1, h2⟩
end Go.Proofs.Ytjfcgehmeecnfaa
