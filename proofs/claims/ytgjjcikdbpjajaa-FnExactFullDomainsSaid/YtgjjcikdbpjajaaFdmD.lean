/- FullDomains: both sides (no claim of its own). Conditions: as each theorem states. -/
import Derived.Test.YtgjjcikdbpjajaaFdmB
import Derived.Test.YtgjjcikdbpjajaaFdmC
import Derived.Test.YtgjjcikdbpjajaaMvpG
namespace Go.Proofs.Ytgjjcikdbpjajaa
open Go.ChangeShapes Go.WideShapes Go.ChangeAt Go.RowKit

/-- How many domains FullDomains answers. -/
def fdN (s : Lst) (n : Nat) (q : Nat → Rul) : Nat := if modB s n q = true then s.n else 0
theorem fdN_le {s : Lst} {n : Nat} {q : Nat → Rul} : fdN s n q ≤ 5 := by
  unfold fdN
  split
  · rename_i h; exact (mod_parts h).2.1
  · omega

set_option maxRecDepth 100000 in
set_option maxHeartbeats 1600000 in
theorem specFD_any (s : Lst) (n : Nat) (q : Nat → Rul) (As Ar : Option Addr) (cs cr : Nat) (w : World) (p1 : s.n ≤ 1048576) (p3 : n ≤ 1048576) (p4 : ∀ i, i < n → (q i).fit 1048576) (hs : RdI w w.heap.size As s.n s.x) (hr : RdRs w w.heap.size Ar n q) :
    Calls Try.prog 23 #[.agg #[.slice As s.n cs, .slice Ar n cr]] w fun e w' => ∃ A cap, e = .returned (.slice A (fdN s n q) cap) ∧ RdLB w' w'.heap.size A (fdN s n q) (fulL s) ∧ Below w.heap.size w w' := by
  have HS := Lib.hid hs
  have HR := Lib.hid hr
  have P4 := Lib.hid p4
  clear hs hr p4
  have HA := Lib.hid (fun o1 o2 => bl_alloc (bl_alloc (Below.refl w.heap.size w) o1) o2)
  have HA1 := Lib.hid (bl_alloc (Below.refl w.heap.size w))
  go_enter Try.func23, Try.ntmps23
  go_wp2_with fail
  have a0 : (w.alloc (.cells #[.slice As s.n cs, .slice Ar n cr] 32)).cell? ⟨w.heap.size, 0, none⟩ = some (.slice As s.n cs) := by go_simp
  have a1 : (w.alloc (.cells #[.slice As s.n cs, .slice Ar n cr] 32)).cell? ⟨w.heap.size, 1, none⟩ = some (.slice Ar n cr) := by go_simp
  have HB := Lib.hid (HA1.out (.cells #[.slice As s.n cs, .slice Ar n cr] 32))
  clear HA HA1
  generalize (w.alloc (.cells #[.slice As s.n cs, .slice Ar n cr] 32)) = w1 at *
  refine (specValidM_any s n q _ _ _ _ _ p1 p3 P4.out (HS.out.later HB.out) (HR.out.later HB.out)).mono ?_
  rintro e w2 ⟨rfl, hb⟩
  have HB2 := Lib.hid (bl_trans HB.out hb)
  replace a0 := kc hb a0
  replace a1 := kc hb a1
  clear hb HB
  cases hm : modB s n q with
  | false =>
    have He := Lib.hid (show fdN s n q = 0 from by unfold fdN; rw [hm]; rfl)
    have HB3 := Lib.hid (bl_trans HB2.out (bl_alloc (Below.refl w2.heap.size w2) (.cells #[] 63)))
    clear hm
    go_wp2
    go_ret
    refine ⟨_, _, by rw [He.out]; rfl, fun h => ?_, HB3.out⟩
    rw [He.out] at h
    omega
  | true =>
    have Hp := Lib.hid (mod_parts hm)
    have He := Lib.hid (show fdN s n q = s.n from by unfold fdN; rw [hm]; rfl)
    clear hm
    go_wp2_with fail
    refine (l8Make_any s n _ _ _ _ _ Hp.out.1 Hp.out.2.1 Hp.out.2.2.1 (HS.out.later HB2.out)).mono ?_
    rintro e w3 ⟨A, cap, rfl, hrd, hb⟩
    have HB3 := Lib.hid (bl_trans HB2.out hb)
    have HRD := Lib.hid hrd
    clear hb HB2 hrd
    go_wp2
    go_ret
    exact ⟨A, cap, by rw [He.out]; rfl, by rw [He.out]; exact HRD.out, HB3.out⟩

set_option maxRecDepth 100000 in
set_option maxHeartbeats 3200000 in
theorem implFD_any (s : Lst) (n : Nat) (q : Nat → Rul) (As Ar : Option Addr) (cs cr : Nat) (w : World) (p1 : s.n ≤ 1048576) (p3 : n ≤ 1048576) (p4 : ∀ i, i < n → (q i).fit 1048576) (hs : RdI w w.heap.size As s.n s.x) (hr : RdRs w w.heap.size Ar n q) :
    Calls Try.prog 24 #[.agg #[.slice As s.n cs, .slice Ar n cr]] w fun e w' => ∃ A cap, e = .returned (.slice A (fdN s n q) cap) ∧ (fdN s n q = 0 ∧ A = none ∨ ∃ G f, A = some ⟨G, 0, none⟩ ∧ OwnLs w' w.heap.size w'.heap.size G (fdN s n q) (fulL s) f) ∧ Below w.heap.size w w' := by
  have HS := Lib.hid hs
  have HR := Lib.hid hr
  have P4 := Lib.hid p4
  clear hs hr p4
  have HA1 := Lib.hid (bl_alloc (Below.refl w.heap.size w))
  go_enter Try.func24, Try.ntmps24
  go_wp2_with fail
  have a0 : (w.alloc (.cells #[.slice As s.n cs, .slice Ar n cr] 32)).cell? ⟨w.heap.size, 0, none⟩ = some (.slice As s.n cs) := by go_simp
  have a1 : (w.alloc (.cells #[.slice As s.n cs, .slice Ar n cr] 32)).cell? ⟨w.heap.size, 1, none⟩ = some (.slice Ar n cr) := by go_simp
  have hz1 : w.heap.size < (w.alloc (.cells #[.slice As s.n cs, .slice Ar n cr] 32)).heap.size := by simp
  have HB := Lib.hid (HA1.out (.cells #[.slice As s.n cs, .slice Ar n cr] 32))
  clear HA1
  generalize (w.alloc (.cells #[.slice As s.n cs, .slice Ar n cr] 32)) = w1 at *
  refine (implValidM_any s n q _ _ _ _ _ p1 p3 P4.out (HS.out.later HB.out) (HR.out.later HB.out)).mono ?_
  rintro e w2 ⟨rfl, hb⟩
  have HB2 := Lib.hid (bl_trans HB.out hb)
  replace a0 := kc hb a0
  replace a1 := kc hb a1
  have hz2 := hb.size
  clear hb HB
  cases hm : modB s n q with
  | false =>
    have He := Lib.hid (show fdN s n q = 0 from by unfold fdN; rw [hm]; rfl)
    clear hm
    go_wp2
    go_ret
    exact ⟨_, _, by rw [He.out]; rfl, .inl ⟨He.out, rfl⟩, HB2.out⟩
  | true =>
    have Hp := Lib.hid (mod_parts hm)
    have He := Lib.hid (show fdN s n q = s.n from by unfold fdN; rw [hm]; rfl)
    clear hm
    obtain ⟨sn, x⟩ := s
    have HOK := Lib.hid (fun k (hk : k < sn) => size_at (s := ⟨sn, x⟩) Hp.out.2.2.1 hk)
    have hp1 : 1 ≤ sn := Hp.out.1
    have hp5 : sn ≤ 5 := Hp.out.2.1
    have hzw : w.heap.size < w2.heap.size := by omega
    have HS' := Lib.hid (show RdI w w.heap.size As sn x from HS.out)
    have HN := Lib.hid (show fdN ⟨sn, x⟩ n q = sn from He.out)
    clear HS HR P4 He Hp
    simp only at a0
    go_wp2
    go_loopw [3, 12] (fun v c wr => ∃ (k : Nat) (f : Nat → Nat), k ≤ sn ∧ c = .int .i64 k ∧ BL wr w.heap.size wr.heap.size v k (fulL ⟨sn, x⟩) f ∧ Below w.heap.size w wr ∧ w.heap.size < wr.heap.size) (fun _ c _ => sn - (intOf c).toNat)
    case atStart => exact ⟨0, fun _ => 0, Nat.zero_le _, rfl, BL.nil0, HB2.out, hzw⟩
    case round =>
      obtain ⟨k, f, hk, rfl, hbl, hb, hzr⟩ := hrel
      have BLk := Lib.hid hbl
      have HBk := Lib.hid hb
      obtain ⟨Ao, capo, rfl⟩ := hbl.head
      by_cases hlt : k < sn
      · have hlt' : (k : Int) < (sn : Int) := by omega
        have hk0 : (0 : Int) ≤ (k : Int) := by omega
        obtain ⟨x0, x3⟩ := HOK.out k hlt
        obtain ⟨m, hm⟩ : ∃ m : Nat, x k + 1 = (m : Int) := ⟨(x k + 1).toNat, by omega⟩
        obtain ⟨bb, off, rfl, hbb, hcs⟩ := (HS'.out.below hb) (by omega)
        have cx := hcs k hlt
        have hxk : x k = (m : Int) - 1 := by omega
        rw [hxk] at cx
        have hm1 : (m : Int) - 1 + 1 = (m : Int) := by omega
        have hm4 : (m : Int) ≤ 4 := by omega
        have hm0 : (1 : Int) ≤ (m : Int) := by omega
        clear hcs hbl hb
        go_wp2_with fail
        have HAl := Lib.hid (bl_alloc (Below.refl wr.heap.size wr) (.cells #[.bool true] 4))
        have hlit : (wr.alloc (.cells #[.bool true] 4)).cell? ⟨wr.heap.size, 0, none⟩ = some (.bool true) := by go_simp
        refine (repeat_any wr.heap.size 1 m _ ⟨by omega, by omega⟩ hlit).mono ?_
        rintro e w5 ⟨g, rfl, hg, hv, hb⟩
        have HB5 := Lib.hid (bl_trans (bl_trans HBk.out HAl.out) hb)
        have hz5 : wr.heap.size ≤ w5.heap.size := by have h1 := HAl.out.size; have h2 := hb.size; omega
        have hg5 : wr.heap.size ≤ g := by have h1 := HAl.out.size; omega
        have HA8 := Lib.hid (bl_alloc (Below.refl w5.heap.size w5) (.cells #[.slice (some ⟨g, 0, none⟩) m m] 63))
        obtain ⟨f', hfk, hfo⟩ : ∃ f' : Nat → Nat, f' k = g ∧ ∀ i, i < k → f' i = f i := ⟨fun i => if i = k then g else f i, if_pos rfl, fun i hi => if_neg (by omega)⟩
        have hrk : fulL ⟨sn, x⟩ k = ⟨m, fun _ => true⟩ := by unfold fulL; rw [show (x k + 1).toNat = m by omega]
        have BL9 := Lib.hid ((((BLk.out.bel HAl.out).bel hb).bel HA8.out).fr (f' := f') hfo)
        have HV9 := Lib.hid (hv.below HA8.out)
        have hoL := BL9.out.lt
        have HNew := Lib.hid (show (w5.alloc (.cells #[.slice (some ⟨g, 0, none⟩) m m] 63)).heap[w5.heap.size]? = some (.cells #[.slice (some ⟨f' k, 0, none⟩) (fulL ⟨sn, x⟩ k).n m] 63 (0, 0)) by
          rw [hfk, hrk]; exact heap_alloc_new w5 _)
        have HEl := Lib.hid (show OwnVb (w5.alloc (.cells #[.slice (some ⟨g, 0, none⟩) m m] 63)) (f' k) 4 (fulL ⟨sn, x⟩ k).n (fulL ⟨sn, x⟩ k).n (fulL ⟨sn, x⟩ k).x by rw [hfk, hrk]; exact HV9.out)
        have hzz : wr.heap.size ≤ (w5.alloc (.cells #[.slice (some ⟨g, 0, none⟩) m m] 63)).heap.size := by have := HA8.out.size; omega
        have hfg : wr.heap.size ≤ f' k := by rw [hfk]; exact hg5
        have HFk := Lib.hid hfk
        clear hfk
        clear hv hb HBk BLk HAl hlit
        go_wp2_with (at_builtin; refine wpList_plain (by rfl) fun K' hK' => ?_; refine wp_bl1 (ci := m) _ _ (by rfl) BL9.out (by omega) (by rfl) (by rfl) HNew.out HEl.out hfg (by omega) (by omega) ?_ hzz; intro gg cap1 w9 hbl9 hgr9; refine hK' _ _ ?_; clear hK' K')
        go_roundw
        case rel => exact ⟨k + 1, _, by omega, by go_num, hbl9, (bl_trans HB5.out HA8.out).grown hgr9 (by omega) (fun b e => by have := hoL b e; omega), by have := hgr9.size; omega⟩
        case measure => simp [intOf]; omega
      · have e : k = sn := by omega
        subst e
        obtain ⟨G, cap, e, hO⟩ := BLk.out.done (by omega)
        cases e
        have HO := Lib.hid hO
        clear hO hbl hb
        go_wp2
        go_ret
        exact ⟨_, _, by rw [HN.out]; rfl, .inr ⟨G, f, rfl, by rw [HN.out]; exact HO.out⟩, HBk.out⟩
end Go.Proofs.Ytgjjcikdbpjajaa
