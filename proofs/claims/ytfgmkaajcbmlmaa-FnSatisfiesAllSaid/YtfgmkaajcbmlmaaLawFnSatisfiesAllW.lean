/- The walk of the law FnSatisfiesAll (no claim of its own). Conditions: as each theorem states. -/
import Derived.Test.YtfgmkaajcbmlmaaDrwT
namespace Go.Proofs.Ytfgmkaajcbmlmaa
open Go.ChangeShapes Go.WideShapes Go.ChangeAt Go.RowKit

set_option maxRecDepth 100000 in
set_option maxHeartbeats 6400000 in
theorem lawFnSatisfiesAll_ok (A0 A1 : Option Addr) (n0 cap0 n1 cap1 : Nat) (y0 y1 : Nat → Int) (w : World) (h0 : n0 ≤ 1048576) (h1 : n1 ≤ 1048576) (hc0 : n0 ≤ cap0) (hc1 : n1 ≤ cap1) (hr0 : RdY w w.heap.size A0 n0 y0) (hr1 : RdY w w.heap.size A1 n1 y1) :
    Calls Try.prog 5 #[.slice A0 n0 cap0, .slice A1 n1 cap1] w fun e w' => e = .returned (.bool true) ∧ Below w.heap.size w w' := by
  have hm0 : n0 ≤ maxLen := by unfold maxLen; omega
  have hm1 : n1 ≤ maxLen := by unfold maxLen; omega
  have hi0 : ¬ (1048576 : Int) < (n0 : Int) := by omega
  have hi1 : ¬ (1048576 : Int) < (n1 : Int) := by omega
  go_enter Try.func5, Try.ntmps5
  go_wp2_with fail
  refine (drawSat_any _ _ _ y0 _ hm0 hc0 hr0).mono ?_
  rintro e w1 ⟨Aa, ka, capa, xsa, loa, ela, Av, kv, capv, v, rfl, hka, hkv, hp, hrv, hb⟩
  obtain ⟨pa, hna, hpa⟩ := hp.pxp
  have HNa := Lib.hid (fun i hi => Nat.le_trans (hna i hi) (show 15 ≤ 1048576 by omega))
  have HB1 := Lib.hid hb
  have PA1 := Lib.hid hp
  have QA1 := Lib.hid hpa
  have Hv1 := Lib.hid hrv
  clear hb hp hpa hrv hna
  go_wp2_with fail
  refine (drawSat_any _ _ _ y1 _ hm1 hc1 (hr1.later HB1.out)).mono ?_
  rintro e w2 ⟨Ab, kb, capb, xsb, lob, elb, Av', kv', capv', v', rfl, hkb, hkv', hp, hrv', hb⟩
  obtain ⟨pb, hnb, hpb⟩ := hp.pxp
  have HNb := Lib.hid (fun i hi => Nat.le_trans (hnb i hi) (show 15 ≤ 1048576 by omega))
  have HB2 := Lib.hid (bl_trans HB1.out hb)
  have PA2 := Lib.hid (PA1.out.bel hb)
  have QA2 := Lib.hid (QA1.out.later hb)
  have PB2 := Lib.hid hp
  have QB2 := Lib.hid hpb
  have Hv2 := Lib.hid (Hv1.out.later hb)
  clear hb hp hpb hrv' hnb HB1 PA1 QA1 Hv1
  have hkaB : ka ≤ 1048576 := by omega
  have hkbB : kb ≤ 1048576 := by omega
  have hkvB : kv ≤ 1048576 := by omega
  go_wp2_with fail
  refine (implSat_any _ _ _ _ _ _ pa v _ hkaB HNa.out hkvB (rdp_own PA2.out.own QA2.out) Hv2.out).mono ?_
  rintro e w3 ⟨rfl, hb⟩
  have HB3 := Lib.hid (bl_trans HB2.out hb)
  have PA3 := Lib.hid (PA2.out.bel hb)
  have QA3 := Lib.hid (QA2.out.later hb)
  have PB3 := Lib.hid (PB2.out.bel hb)
  have QB3 := Lib.hid (QB2.out.later hb)
  have Hv3 := Lib.hid (Hv2.out.later hb)
  clear hb HB2 PA2 QA2 PB2 QB2 Hv2
  go_wp2_with fail
  refine (implSat_any _ _ _ _ _ _ pb v _ hkbB HNb.out hkvB (rdp_own PB3.out.own QB3.out) Hv3.out).mono ?_
  rintro e w4 ⟨rfl, hb⟩
  have HB4 := Lib.hid (bl_trans HB3.out hb)
  have PA4 := Lib.hid (PA3.out.bel hb)
  have QA4 := Lib.hid (QA3.out.later hb)
  have PB4 := Lib.hid (PB3.out.bel hb)
  have QB4 := Lib.hid (QB3.out.later hb)
  have Hv4 := Lib.hid (Hv3.out.later hb)
  clear hb HB3 PA3 QA3 PB3 QB3 Hv3
  go_wp2_with fail
  refine (specSat_any _ _ _ _ _ _ pa v _ hkaB HNa.out hkvB (rdp_own PA4.out.own QA4.out) Hv4.out).mono ?_
  rintro e w5 ⟨rfl, hb⟩
  have HB5 := Lib.hid (bl_trans HB4.out hb)
  have PA5 := Lib.hid (PA4.out.bel hb)
  have QA5 := Lib.hid (QA4.out.later hb)
  have PB5 := Lib.hid (PB4.out.bel hb)
  have QB5 := Lib.hid (QB4.out.later hb)
  have Hv5 := Lib.hid (Hv4.out.later hb)
  clear hb HB4 PA4 QA4 PB4 QB4 Hv4
  have HX := Lib.hid (satB_cat (p := pa) (q := pb) (nv := kv) (v := v) (show ka + kb ≤ 400 by omega))
  have HBa := Lib.hid (bl_alloc (Below.refl w5.heap.size w5) (.cells #[] 25))
  have HOw := Lib.hid (px_lit w5 0 0).own
  have HNa1 := Lib.hid PA5.out.nils
  have HNb1 := Lib.hid PB5.out.nils
  have hkab : ka + kb ≤ 1048576 := by omega
  have HNc := Lib.hid (show ∀ i, i < ka + kb → (catP ka pa pb i).n ≤ 1048576 from fun i hi => by
    unfold catP
    split
    · exact HNa.out i (by omega)
    · exact HNb.out (i - ka) (by omega))
  go_wp2_with (at_builtin; refine wpList_want (by rfl) fun K' hK' => ?_; first | (refine wp_appC _ _ (by rfl) (by rfl) (by rfl) (by rfl) HOw.out (PA5.out.bel HBa.out).src HNa1.out.2 HNa1.out.1 (by simp) (by omega) ?_; intro v6 w6 hown6 hg6; have HB6 := Lib.hid ((bl_alloc (Below.refl w5.heap.size w5) (.cells #[] 25)).grown hg6 (bl_alloc (Below.refl w5.heap.size w5) (.cells #[] 25)).size (by intro j e; cases e; exact Nat.le_refl _)); have HO6 := Lib.hid hown6; clear hown6 hg6; clear HOw; refine hK' _ _ ?_; clear hK' K') | (refine wp_appC _ _ (by rfl) (by rfl) (by rfl) (by rfl) HO6.out (PB5.out.bel HB6.out).src HNb1.out.2 HNb1.out.1 HB6.out.size (by omega) ?_; intro v7 w7 hown7 hg7; have HB7 := Lib.hid (HB6.out.grown hg7 HB6.out.size (fun j e => (HO6.out.lt j e).1)); have HO7 := Lib.hid hown7; clear hown7 hg7 HO6; refine hK' _ _ ?_; clear hK' K'))
  have ho8 := HO7.out
  rw [Nat.zero_add, List.nil_append] at ho8
  obtain ⟨A7, cap7, e7⟩ := row_shape ho8
  subst e7
  have HR7 := Lib.hid (rdp_own ho8 ((QA5.out.later HB7.out).cat (QB5.out.later HB7.out) PA5.out.len))
  clear ho8 HO7
  refine (implSat_any _ _ _ _ _ _ (catP ka pa pb) v _ hkab HNc.out hkvB HR7.out (Hv5.out.later HB7.out)).mono ?_
  rintro e w8 ⟨rfl, hb⟩
  have HB8 := Lib.hid (bl_trans (bl_trans HB5.out HB7.out) hb)
  clear hb
  rw [HX.out]
  clear HX
  cases satB ka pa kv v <;> cases satB kb pb kv v
  all_goals
    go_wp2
    go_ret
    exact ⟨rfl, HB8.out⟩
end Go.Proofs.Ytfgmkaajcbmlmaa
