/- BoolVar, FreeVars: the program's side (no claim of its own). Conditions: as each theorem states. -/
import Derived.Test.YtafiikfaeomhpaaBvsA
import Derived.Test.YtafiikfaeomhpaaIntR
namespace Go.Proofs.Ytafiikfaeomhpaa
open Go.ChangeShapes Go.WideShapes Go.ChangeAt Go.RowKit

theorem gI_vlst {v : Nat → Int} {n i : Nat} (h : i < n) : gI (vlst v n) i = v i := by
  unfold gI
  rw [List.getD_eq_getElem?_getD, vlst_get v h]
  rfl
theorem row_lit {W : World} {T : TypeId} (X : Int) : RowAt W W.heap.size T [] [X] (.slice (some ⟨W.heap.size, 0, none⟩) 1 1) (W.alloc (.cells #[.int .i64 X] T)) :=
  ⟨⟨rfl, .inr ⟨W.heap.size, 1, #[.int .i64 X], rfl, Nat.le_refl _, heap_alloc_new _ _, Nat.le_refl _, by unfold maxLen; omega, rfl, rfl⟩⟩,
    fun x hx => (by cases hx), bl_alloc (Below.refl _ _) _, Nat.le_refl _, by simp⟩
theorem FrI.far' {w : World} {B n : Nat} {T : TypeId} {A : Option Addr} {v : Nat → Int} (h : FrI w B T A n v) {p : Addr} (hp : p.block < B) (u : Value) : FrI (w.setCell p u) B T A n v := by
  rcases h with h | ⟨G, e, hG, h⟩
  · exact .inl h
  · exact .inr ⟨G, e, hG, h.at_ (Below.heap_setCell w p u G (by omega))⟩
theorem FrI.congr {w : World} {B n : Nat} {T : TypeId} {A : Option Addr} {v v' : Nat → Int} (h : FrI w B T A n v) (e : ∀ i, i < n → v i = v' i) : FrI w B T A n v' := by
  rcases h with h | ⟨G, e1, hG, cs, hh, h1, h2⟩
  · exact .inl h
  · exact .inr ⟨G, e1, hG, cs, hh, h1, fun i hi => by rw [← e i hi]; exact h2 i hi⟩

set_option maxRecDepth 100000 in
set_option maxHeartbeats 1600000 in
theorem newEnc_any (s : Lst) (n : Nat) (As Ar : Option Addr) (cs cr : Nat) (w : World) (p1 : s.n ≤ 5) (hok : prE (fun i => betB 0 3 (s.x i)) s.n = true) (hs : RdI w w.heap.size As s.n s.x) :
    Calls Try.prog 61 #[.agg #[.slice As s.n cs, .slice Ar n cr]] w fun e w' => ∃ A cap, e = .returned (.agg #[.slice As s.n cs, .slice Ar n cr, .slice A (s.n + 1) cap]) ∧ FrI w' w.heap.size 3 A (s.n + 1) (tS s.x) ∧ Below w.heap.size w w' := by
  obtain ⟨sn, x⟩ := s
  simp only at p1 hok hs ⊢
  have hb2 := bl_alloc (bl_alloc (Below.refl w.heap.size w) (.cells #[.slice As sn cs, .slice Ar n cr] 30)) (.cells #[.slice none 0 0, .slice none 0 0, .slice none 0 0] 82)
  have a0 : ((w.alloc (.cells #[.slice As sn cs, .slice Ar n cr] 30)).alloc (.cells #[.slice none 0 0, .slice none 0 0, .slice none 0 0] 82)).cell? ⟨w.heap.size, 0, none⟩ = some (.slice As sn cs) := by go_simp
  have a1 : ((w.alloc (.cells #[.slice As sn cs, .slice Ar n cr] 30)).alloc (.cells #[.slice none 0 0, .slice none 0 0, .slice none 0 0] 82)).cell? ⟨w.heap.size, 1, none⟩ = some (.slice Ar n cr) := by go_simp
  have e0 : ((w.alloc (.cells #[.slice As sn cs, .slice Ar n cr] 30)).alloc (.cells #[.slice none 0 0, .slice none 0 0, .slice none 0 0] 82)).cell? ⟨w.heap.size + 1, 0, none⟩ = some (.slice none 0 0) := by go_simp
  have e1 : ((w.alloc (.cells #[.slice As sn cs, .slice Ar n cr] 30)).alloc (.cells #[.slice none 0 0, .slice none 0 0, .slice none 0 0] 82)).cell? ⟨w.heap.size + 1, 1, none⟩ = some (.slice none 0 0) := by go_simp
  have e2 : ((w.alloc (.cells #[.slice As sn cs, .slice Ar n cr] 30)).alloc (.cells #[.slice none 0 0, .slice none 0 0, .slice none 0 0] 82)).cell? ⟨w.heap.size + 1, 2, none⟩ = some (.slice none 0 0) := by go_simp
  have g0 : ((w.alloc (.cells #[.slice As sn cs, .slice Ar n cr] 30)).alloc (.cells #[.slice none 0 0, .slice none 0 0, .slice none 0 0] 82)).frozen? ⟨w.heap.size + 1, 0, none⟩ = false := by go_simp
  have g1 : ((w.alloc (.cells #[.slice As sn cs, .slice Ar n cr] 30)).alloc (.cells #[.slice none 0 0, .slice none 0 0, .slice none 0 0] 82)).frozen? ⟨w.heap.size + 1, 1, none⟩ = false := by go_simp
  have g2 : ((w.alloc (.cells #[.slice As sn cs, .slice Ar n cr] 30)).alloc (.cells #[.slice none 0 0, .slice none 0 0, .slice none 0 0] 82)).frozen? ⟨w.heap.size + 1, 2, none⟩ = false := by go_simp
  have hsz : ((w.alloc (.cells #[.slice As sn cs, .slice Ar n cr] 30)).alloc (.cells #[.slice none 0 0, .slice none 0 0, .slice none 0 0] 82)).heap.size = w.heap.size + 1 + 1 := by simp
  have HSz := Lib.hid hsz
  have HB := Lib.hid hb2
  have HS := Lib.hid (hs.later hb2)
  have HOk := Lib.hid hok
  clear hs hok hb2 hsz
  go_enter Try.func61, Try.ntmps61
  go_wp2
  generalize ((w.alloc (.cells #[.slice As sn cs, .slice Ar n cr] 30)).alloc (.cells #[.slice none 0 0, .slice none 0 0, .slice none 0 0] 82)) = W2 at *
  rw [← HSz.out]
  have Row0 := Lib.hid (row_lit (W := W2) (T := 3) 0)
  go_loopw [3, 10] (fun o i wr => ∃ (k : Nat) (ov : Value), ov = o ∧ k ≤ sn ∧ i = .int .i64 k ∧ RowAt W2 W2.heap.size 3 [] (vlst (tS x) (k + 1)) ov wr) (fun _ i _ => sn - (intOf i).toNat)
  case atStart => exact ⟨0, _, rfl, Nat.zero_le _, rfl, Row0.out⟩
  case round =>
    obtain ⟨k, ov, rfl, hk, rfl, hrow⟩ := hrel
    have Row := Lib.hid hrow
    have hb := hrow.bel
    replace a0 := kc hb a0
    replace a1 := kc hb a1
    replace e0 := kc hb e0
    replace e1 := kc hb e1
    replace e2 := kc hb e2
    replace g0 := kf hb (by show w.heap.size + 1 < _; rw [HSz.out]; omega) g0
    replace g1 := kf hb (by show w.heap.size + 1 < _; rw [HSz.out]; omega) g1
    replace g2 := kf hb (by show w.heap.size + 1 < _; rw [HSz.out]; omega) g2
    by_cases hlt : k < sn
    · have hx := size_at (s := ⟨sn, x⟩) HOk.out hlt
      simp only at hx
      obtain ⟨hx0, hx3⟩ := hx
      obtain ⟨tb0, tb1⟩ := tS_bd (prE_le HOk.out (show k ≤ sn by omega))
      obtain ⟨b, off, rfl, hbl, hc⟩ := (HS.out.later hb) (by omega)
      have hc1 := hc k hlt
      obtain ⟨A2, cap2, hov, hF⟩ := hrow.fr
      rw [vlst_length] at hov hF
      subst hov
      obtain ⟨b2, off2, rfl, hbl2, hc2⟩ := hF.rdAt (by omega)
      have hc3 := hc2 k (by omega)
      rw [gI_vlst (by omega)] at hc3
      have hlt' : (k : Int) < (sn : Int) := by omega
      have hlt2 : (k : Int) < (k : Int) + 1 := by omega
      have hk0 : (0 : Int) ≤ (k : Int) := by omega
      have Hs := Lib.hid (show vlst (tS x) (k + 1) ++ [tS x k + x k + 1] = vlst (tS x) (k + 1 + 1) from rfl)
      have hle : (vlst (tS x) (k + 1)).length ≤ 1048576 := by rw [vlst_length]; omega
      have hlen : (vlst (tS x) (k + 1)).length = k + 1 := vlst_length _ _
      have Hlen := Lib.hid hlen
      have Hle := Lib.hid hle
      clear hc hc2 hrow hF hb hle hlen
      obtain ⟨z, hz⟩ : ∃ z, tS x k = z := ⟨_, rfl⟩
      rw [hz] at hc3 tb0 tb1 Hs
      have htb : z ≤ 100 := by omega
      clear hz tb1
      go_wp2_with (at_builtin; refine wpList_plain (by rfl) fun K' hK' => ?_; refine wp_rowI _ _ 22 (by rfl) Try.underlying22 Try.infoInt Row.out (bl_alloc (Below.refl _ _) _) (by rfl) (by rfl) (heap_alloc_new _ _) Hle.out ?_; intro gg cap1 w3 hout; refine hK' _ _ ?_; clear hK' K')
      rw [Hs.out] at hout
      go_roundw
      case rel => exact ⟨k + 1, _, rfl, by omega, by go_num, hout⟩
      case measure => simp [intOf]; omega
    · have e : k = sn := by omega
      subst e
      obtain ⟨A2, cap2, hov, hF⟩ := hrow.fr
      rw [vlst_length] at hov hF
      subst hov
      clear hrow Row0
      have HF := Lib.hid hF
      have HB2 := Lib.hid (HB.out.trans (hb.mono (by rw [HSz.out]; omega)))
      clear hF hb HB
      go_wp2
      refine bodyPost_ret (v := .agg #[.slice As k cs, .slice Ar n cr, .slice A2 (k + 1) cap2]) (by simp [results, Try.results61, go_sem, e0, e1, e2]) rfl ?_
      have hp : w.heap.size + 1 < W2.heap.size := by rw [HSz.out]; omega
      refine ⟨A2, cap2, rfl, ?_, ?_⟩
      · exact (((HF.out.congr (v' := tS x) (fun i hi => gI_vlst hi)).far' (p := ⟨w.heap.size + 1, 0, none⟩) hp _).far' (p := ⟨w.heap.size + 1, 1, none⟩) hp _).far' (p := ⟨w.heap.size + 1, 2, none⟩) hp _ |>.more (by omega)
      · exact ((HB2.out.setCell (p := ⟨w.heap.size + 1, 0, none⟩) (by show w.heap.size ≤ w.heap.size + 1; omega) _).setCell (p := ⟨w.heap.size + 1, 1, none⟩) (by show w.heap.size ≤ w.heap.size + 1; omega) _).setCell (p := ⟨w.heap.size + 1, 2, none⟩) (by show w.heap.size ≤ w.heap.size + 1; omega) _

set_option maxHeartbeats 800000 in
/-- A variable of an encoder, its starts at A. -/
theorem encVar_any (As Ar A : Option Addr) (sn cs n cr m cap : Nat) (v : Nat → Int) (k : Nat) (val : Int) (w : World) (hm : m ≤ 1048576) (hk : k < m) (hv : 0 ≤ val ∧ val ≤ 1000) (hx : 0 ≤ v k ∧ v k ≤ 1000) (hr : RdI w w.heap.size A m v) :
    Calls Try.prog 65 #[.agg #[.slice As sn cs, .slice Ar n cr, .slice A m cap], .int .i64 k, .int .i64 val] w fun e w' => e = .returned (.int .i64 (1 + val + v k)) ∧ Below w.heap.size w w' := by
  have HA := Lib.hid (bl_alloc (Below.refl w.heap.size w) (.cells #[.slice As sn cs, .slice Ar n cr, .slice A m cap] 82))
  obtain ⟨b, off, rfl, hbl, hc⟩ := (hr.later HA.out) (by omega)
  have hc1 := hc k hk
  clear hc hr
  obtain ⟨z, hz⟩ : ∃ z, v k = z := ⟨_, rfl⟩
  rw [hz] at hx hc1 ⊢
  obtain ⟨hx0, hx1⟩ := hx
  obtain ⟨hv0, hv1⟩ := hv
  have hk1 : (k : Int) < (m : Int) := by omega
  have hk0 : (0 : Int) ≤ (k : Int) := by omega
  clear hz hk
  go_enter Try.func65, Try.ntmps65
  go_wp2
  go_ret
  exact ⟨ret_int (by omega), HA.out⟩
end Go.Proofs.Ytafiikfaeomhpaa
