/- The program's allDifferent (no claim of its own). Conditions: as each theorem states. -/
import Derived.Test.YtafiikfaeomhpaaDifM
import Derived.Test.YtafiikfaeomhpaaLsv
import Derived.Lib.SlKeysI
import Derived.Shelf.GgSortFunc.Compose
namespace Go.Proofs.Ytafiikfaeomhpaa
open Go.ChangeShapes Go.WideShapes Go.ChangeAt Go.RowKit Go.Shelf

/-- What sorting leaves. -/
def SrtRes (w : World) (len : Nat) (v : Nat → Int) (e : Ending) (w' : World) : Prop :=
  ∃ u, e = .returned u ∧ Below w.heap.size w w' ∧ (len = 0 → u = .slice none 0 0) ∧ (0 < len → ∃ G cap', u = .slice (some ⟨G, 0, none⟩) len cap' ∧ w.heap.size ≤ G ∧ G < w'.heap.size ∧ len ≤ cap' ∧ Go.Sort.Holds Go.encZ w' G 0 (srt v len).toArray)

set_option maxRecDepth 100000 in
set_option maxHeartbeats 2000000 in
theorem sortedV_any (B1 : Nat) (A : Option Addr) (len cap : Nat) (v : Nat → Int) (hlen : len ≤ 1048576) (w : World)
    (hB1 : B1 < w.heap.size) (ht : w.cell? ⟨B1, 0, none⟩ = some (.slice A len cap)) (hr : RdI w w.heap.size A len v) :
    Calls Try.prog 123 #[.func (.func 111) #[] #[.pointer (some ⟨B1, 0, none⟩)]] w (SrtRes w len v) := by
  have HC := Lib.hid (collect_any B1 A len cap v hlen w hB1 ht hr)
  clear ht hr
  go_enter Try.func123, Try.ntmps123
  go_wp2_with fail
  refine HC.out.mono ?_
  rintro e w1 ⟨u, rfl, ho, hz, hb⟩
  have HB := Lib.hid hb
  by_cases h0 : len = 0
  · obtain rfl := hz h0
    subst h0
    have HS := Lib.hid (AnyM.slices_Sort_int_none Try.sortV none 0 w1)
    clear ho hz hb
    go_wp2_with fail
    refine HS.out.mono ?_
    rintro e w2 ⟨rfl, rfl⟩
    go_wp2
    go_ret
    exact ⟨_, rfl, HB.out, fun _ => rfl, fun h => absurd h (by omega)⟩
  · rcases ho.2 with ⟨_, hz⟩ | ⟨g, cp, cur, rfl, hbase, hgb, r1, r2, r3, r4⟩
    · exact absurd hz h0
    · have hH : Go.Sort.Holds Go.encZ w1 g 0 (vlst v len).toArray := holds_of_block_i hgb (by rw [vlst_length]; simpa using r4)
      have hgl : g < w1.heap.size := (Array.getElem?_eq_some_iff.1 hgb).1
      have hS := AnyM.slices_Sort_int Try.sortV g 0 cp (vlst v len) w1 hH hgl (by rw [vlst_length]; omega)
      rw [vlst_length, show ((vlst v len).mergeSort fun x y => decide (x ≤ y)) = srt v len from rfl] at hS
      change Calls Try.prog 104 _ _ _ at hS
      have hS2 : Calls Try.prog 104 #[.slice (some ⟨g, 0, none⟩) len cp] w1 fun e w' => e = .returned (.tuple #[]) ∧ ∃ m os, w' = sortWorld Go.encZ w1 g 0 m (srt v len).toArray os := hS
      clear hS
      have hS := hS2
      clear hS2
      have HS := Lib.hid hS
      have HH := Lib.hid hH
      clear ho hz hb hS hH hgb r3 r4
      go_wp2_with fail
      refine HS.out.mono ?_
      rintro e w2 ⟨rfl, m, os, rfl⟩
      have hd : (srt v len).toArray.size = (vlst v len).toArray.size := by simp [srt_length, vlst_length]
      have hx : Go.Sort.Holds Go.encZ (sortWorld Go.encZ w1 g 0 m (srt v len).toArray os) g 0 (srt v len).toArray := holds_sortWorld Go.encZ w1 g 0 m (vlst v len).toArray (srt v len).toArray os hgl HH.out hd
      have hl : g < (sortWorld Go.encZ w1 g 0 m (srt v len).toArray os).heap.size := lt_sortWorld Go.encZ w1 g 0 m (srt v len).toArray os hgl
      have hg : w1.grownBy (sortWorld Go.encZ w1 g 0 m (srt v len).toArray os) (some g) := grownBy_sorted_i _
      have HX := Lib.hid hx
      have HL := Lib.hid hl
      have HG := Lib.hid hg
      clear hd hx hl hg
      generalize sortWorld Go.encZ w1 g 0 m (srt v len).toArray os = W at *
      go_wp2
      go_ret
      exact ⟨_, rfl, HB.out.grown HG.out HB.out.size (fun k e => by cases e; omega), fun h => absurd h h0, fun _ => ⟨g, cp, rfl, by omega, HL.out, r1, HX.out⟩⟩

theorem compactV_any (G cap len : Nat) (v : Nat → Int) (w : World) (hH : Go.Sort.Holds Go.encZ w G 0 (srt v len).toArray) (hl : len ≤ 1048576) (hcap : len ≤ cap) :
    Calls Try.prog 124 #[.slice (some ⟨G, 0, none⟩) len cap] w fun e w' => e = .returned (.slice (some ⟨G, 0, none⟩) (cpL v len) cap) ∧ w.grownBy w' (some G) := by
  have hs : (srt v len).toArray.size = len := by simp [srt_length]
  have h := Any.slices_Compact_int_arr Try.compactV G 0 cap (srt v len).toArray w hH (by omega) (by omega)
  change Calls Try.prog 124 _ _ _ at h
  rw [hs] at h
  refine h.mono ?_
  rintro e w' ⟨rfl, q, rfl⟩
  refine ⟨rfl, ?_⟩
  rw [← Go.Sort.grow_empty (Go.Sort.putRow _ _ _ _ _)]
  exact grownBy_sorted_i _

set_option maxRecDepth 100000 in
set_option maxHeartbeats 2000000 in
theorem allDifferent_any (l : Lst) (A : Option Addr) (cap : Nat) (w : World) (hn : l.n ≤ 1048576) (hr : RdI w w.heap.size A l.n l.x) :
    Calls Try.prog 110 #[.slice A l.n cap] w fun e w' => e = .returned (.bool (prE (newB l.x) l.n)) ∧ Below w.heap.size w w' := by
  obtain ⟨n, v⟩ := l
  simp only at hn hr ⊢
  have hR := Lib.hid hr
  clear hr
  go_enter Try.func110, Try.ntmps110
  go_wp2_with fail
  refine (valuesSeq_any _ _ _ _).mono ?_
  rintro e w1 ⟨rfl, hc, hz, hb⟩
  have HB1 := Lib.hid hb
  have HC := Lib.hid hc
  clear hb hc
  go_wp2_with fail
  refine (sortedV_any w.heap.size A n cap v hn w1 hz HC.out (hR.out.later HB1.out)).mono ?_
  rintro e w2 ⟨u, rfl, hb, hu0, hu1⟩
  have HB2 := Lib.hid (bl_trans HB1.out hb)
  have hz12 := hb.size
  have hcon : ∃ (A2 : Option Addr) (cap2 : Nat), u = .slice A2 n cap2 ∧ Calls Try.prog 124 #[.slice A2 n cap2] w2 (fun e w' => e = .returned (.slice A2 (cpL v n) cap2) ∧ Below w.heap.size w2 w') := by
    by_cases h0 : n = 0
    · subst h0
      refine ⟨none, 0, hu0 rfl, (Any.slices_Compact_int_empty Try.compactV none 0 w2).mono ?_⟩
      rintro e w' ⟨rfl, rfl⟩
      have : cpL v 0 = 0 := Nat.le_zero.1 (cpL_le v 0)
      rw [this]
      exact ⟨rfl, Below.refl _ _⟩
    · obtain ⟨G, cap', rfl, hG, hGl, hcap, hH⟩ := hu1 (by omega)
      refine ⟨_, cap', rfl, (compactV_any G cap' n v w2 hH hn hcap).mono ?_⟩
      rintro e w' ⟨rfl, h2⟩
      exact ⟨rfl, (Below.refl _ w2).grown h2 (by omega) (fun k e => by cases e; omega)⟩
  obtain ⟨A2, cap2, rfl, hcomp⟩ := hcon
  have HK := Lib.hid hcomp
  clear hb hu0 hu1 hcomp hz HC
  go_wp2_with fail
  refine HK.out.mono ?_
  rintro e w3 ⟨rfl, hb⟩
  have HB3 := Lib.hid (HB2.out.trans hb)
  have HE := Lib.hid (cpL_eq v n)
  clear hb HK
  generalize cpL v n = K at *
  cases hx : ((K : Int) == (n : Int)) with
  | true =>
    have HX := Lib.hid ((HE.out).symm.trans hx)
    go_wp2
    go_ret
    exact ⟨ret_bool (by rw [HX.out]; try exact hx), HB3.out⟩
  | false =>
    have HX := Lib.hid ((HE.out).symm.trans hx)
    go_wp2
    go_ret
    exact ⟨ret_bool (by rw [HX.out]; try exact hx), HB3.out⟩
end Go.Proofs.Ytafiikfaeomhpaa
