/- The program's rows of literals, sorted (no claim of its own). Conditions: as each theorem states. -/
import Derived.Test.YtjfcgehmeecnfaaDsjW
namespace Go.Proofs.Ytjfcgehmeecnfaa
open Go.ChangeShapes Go.WideShapes Go.ChangeAt Go.RowKit Go.Shelf

/-- The row, sorted as Go sorts it. -/
def djD (v : Nat → Int) (n : Nat) : Array Int := Go.Sort.pdq (ltOf djC) (vlst v n).toArray 0 n (Go.Lib.bitLen n) true true
theorem djD_sorts (v : Nat → Int) (n : Nat) : Go.Sort.PermIn 0 n (vlst v n).toArray (djD v n) ∧ Go.Sort.SortedIn (ltOf djC) 0 n (djD v n) := by
  have hsz : (vlst v n).toArray.size = n := by simp [vlst_length]
  have h := Go.Sort.pdq_sorts (ltOf djC) djC_swo (vlst v n).toArray 0 n (Go.Lib.bitLen n) true true (Nat.zero_le _) (by omega) (Or.inl rfl)
  exact ⟨h.1, h.2⟩
theorem djD_size (v : Nat → Int) (n : Nat) : (djD v n).size = n := (djD_sorts v n).1.1.trans (by simp [vlst_length])

/-- What sorting leaves. -/
def SrtRes (w : World) (len : Nat) (v : Nat → Int) (e : Ending) (w' : World) : Prop :=
  ∃ u, e = .returned u ∧ Below w.heap.size w w' ∧ (len = 0 → u = .slice none 0 0) ∧ (0 < len → ∃ G cap', u = .slice (some ⟨G, 0, none⟩) len cap' ∧ w.heap.size ≤ G ∧ G < w'.heap.size ∧ len ≤ cap' ∧ Go.Sort.Holds Go.encZ w' G 0 (djD v len))

set_option maxRecDepth 100000 in
set_option maxHeartbeats 2000000 in
theorem sorted_any (B1 : Nat) (A : Option Addr) (len cap : Nat) (v : Nat → Int) (hlen : len ≤ 1048576) (w : World)
    (hB1 : B1 < w.heap.size) (ht : w.cell? ⟨B1, 0, none⟩ = some (.slice A len cap)) (hr : RdI w w.heap.size A len v) :
    Calls Try.prog 122 #[.func (.func 131) #[] #[.pointer (some ⟨B1, 0, none⟩)], .func (.func 124) #[] #[]] w (SrtRes w len v) := by
  have HC := Lib.hid (collect_any B1 A len cap v hlen w hB1 ht hr)
  clear ht hr
  go_enter Try.func122, Try.ntmps122
  go_wp2_with fail
  refine HC.out.mono ?_
  rintro e w1 ⟨u, rfl, ho, hz, hb⟩
  have HB := Lib.hid hb
  by_cases h0 : len = 0
  · obtain rfl := hz h0
    subst h0
    have HS := Lib.hid (AnyF.slices_SortFunc_none Try.sortD0 none 0 (.func (.func 124) #[] #[]) w1)
    clear ho hz hb
    go_wp2_with fail
    refine HS.out.mono ?_
    rintro e w2 ⟨rfl, rfl⟩
    go_wp2
    go_ret
    exact ⟨_, rfl, HB.out, fun _ => rfl, fun h => absurd h (by omega)⟩
  · rcases ho.2 with ⟨_, hz⟩ | ⟨g, cp, cur, rfl, hbase, hgb, r1, r2, r3, r4⟩
    · exact absurd hz h0
    · have hH : Go.Sort.Holds Go.encZ w1 g 0 (vlst v len).toArray := holds_of_block_i hgb (by rw [vlst_length]; simpa using r4)
      have hgl : g < w1.heap.size := (Array.getElem?_eq_some_iff.1 hgb).1
      have hS := Any.slices_SortFunc_eq Try.sortD Go.encZ (fun _ => rfl) djC djC_swo 124 #[] g 0 cp (vlst v len).toArray w1
        (enters_of Try.func124 (by kernel_rfl) rfl) (CmpReads.lays (fun _ _ _ _ x y => djCmp_any x y _)) hH hgl (by simp [vlst_length]; omega)
      have hsz : (vlst v len).toArray.size = len := by simp [vlst_length]
      rw [hsz] at hS
      rw [show Go.Sort.pdq (ltOf djC) (vlst v len).toArray 0 len (Go.Lib.bitLen len) true true = djD v len from rfl] at hS
      change Calls Try.prog 130 _ _ _ at hS
      have HS := Lib.hid hS
      have HH := Lib.hid hH
      have Hsz := Lib.hid hsz
      clear ho hz hb hS hH hgb r3 r4 hsz
      go_wp2_with fail
      refine HS.out.mono ?_
      rintro e w2 ⟨rfl, m, os, rfl⟩
      have hd : (djD v len).size = (vlst v len).toArray.size := (djD_size v len).trans Hsz.out.symm
      have hx : Go.Sort.Holds Go.encZ (sortWorld Go.encZ w1 g 0 m (djD v len) os) g 0 (djD v len) := holds_sortWorld Go.encZ w1 g 0 m (vlst v len).toArray (djD v len) os hgl HH.out hd
      have hl : g < (sortWorld Go.encZ w1 g 0 m (djD v len) os).heap.size := lt_sortWorld Go.encZ w1 g 0 m (djD v len) os hgl
      have hg : w1.grownBy (sortWorld Go.encZ w1 g 0 m (djD v len) os) (some g) := grownBy_sorted_i _
      have HX := Lib.hid hx
      have HL := Lib.hid hl
      have HG := Lib.hid hg
      clear hd hx hl hg
      generalize sortWorld Go.encZ w1 g 0 m (djD v len) os = W at *
      go_wp2
      go_ret
      exact ⟨_, rfl, HB.out.grown HG.out HB.out.size (fun k e => by cases e; omega), fun h => absurd h h0, fun _ => ⟨g, cp, rfl, by omega, HL.out, r1, HX.out⟩⟩
end Go.Proofs.Ytjfcgehmeecnfaa
