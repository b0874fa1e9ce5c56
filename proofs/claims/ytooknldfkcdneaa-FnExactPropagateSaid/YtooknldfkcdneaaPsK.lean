/- The program's (*propagation).makeTrue (no claim of its own). Conditions: as each theorem states. -/
import Derived.Test.YtooknldfkcdneaaPsM
namespace Go.Proofs.Ytooknldfkcdneaa
open Go.ChangeShapes Go.WideShapes Go.ChangeAt Go.RowKit Go.Shelf

/-- What the uses of a list take off the slack of constraint i. -/
def sumU : List (Nat × Int) → Nat → Int
  | [], _ => 0
  | r :: rs, i => (if r.1 = i then r.2 else 0) + sumU rs i
theorem sumU_append (xs ys : List (Nat × Int)) (i : Nat) : sumU (xs ++ ys) i = sumU xs i + sumU ys i := by
  induction xs with
  | nil => show sumU ys i = 0 + sumU ys i; omega
  | cons x xs ih => show _ + sumU (xs ++ ys) i = _ + sumU xs i + sumU ys i; rw [ih]; omega
theorem sumU_nonneg {xs : List (Nat × Int)} (h : ∀ r ∈ xs, 0 ≤ r.2) (i : Nat) : 0 ≤ sumU xs i := by
  induction xs with
  | nil => exact Int.le_refl _
  | cons x xs ih =>
    have h1 := ih fun r hr => h r (List.mem_cons_of_mem _ hr)
    have h2 := h x List.mem_cons_self
    show 0 ≤ _ + sumU xs i
    split <;> omega
theorem sumU_take {xs : List (Nat × Int)} (h : ∀ r ∈ xs, 0 ≤ r.2) (i t : Nat) : 0 ≤ sumU (xs.take t) i ∧ sumU (xs.take t) i ≤ sumU xs i := by
  have h1 := sumU_nonneg (xs := xs.take t) (fun r hr => h r (List.mem_of_mem_take hr)) i
  have h2 := sumU_nonneg (xs := xs.drop t) (fun r hr => h r (List.mem_of_mem_drop hr)) i
  have h3 := sumU_append (xs.take t) (xs.drop t) i
  rw [List.take_append_drop] at h3
  omega
theorem ucells_at : ∀ (L : List (Nat × Int)) (t : Nat) (ht : t < L.length), (ucells L)[t * 2]? = some (.int .i64 (L[t].1 : Nat)) ∧ (ucells L)[t * 2 + 1]? = some (.int .i64 L[t].2)
  | r :: rs, 0, _ => ⟨rfl, rfl⟩
  | r :: rs, t + 1, ht => by
    have := ucells_at rs t (by simpa using ht)
    rw [show (t + 1) * 2 = t * 2 + 1 + 1 by omega]
    exact this
theorem row_read {w : World} {B n : Nat} {T : TypeId} {v : Value} {L : List (Nat × Int)} (h : w.ownsRow B T 2 v n (ucells L)) (hn : n = L.length) (h0 : 0 < n) : ∃ g cap, v = .slice (some ⟨g, 0, none⟩) n cap ∧ g < w.heap.size ∧ ∀ t (ht : t < L.length), w.cell? ⟨g, t * 2, none⟩ = some (.int .i64 (L[t].1 : Nat)) ∧ w.cell? ⟨g, t * 2 + 1, none⟩ = some (.int .i64 L[t].2) := by
  have hlt := h.lt
  rcases h.2 with ⟨_, hz⟩ | ⟨g, cap, cur, rfl, hg, hh, hnc, _, hsz, htk⟩
  · omega
  · refine ⟨g, cap, rfl, (hlt g rfl).2, fun t ht => ?_⟩
    obtain ⟨h1, h2⟩ := ucells_at L t ht
    rw [← htk] at h1 h2
    rw [List.getElem?_take_of_lt (by omega)] at h1 h2
    exact ⟨(cell_of_row w g _ cur _ _ hh).trans (by simpa using h1), (cell_of_row w g _ cur _ _ hh).trans (by simpa using h2)⟩
/-- A propagator under what turns one younger block alone. -/
theorem Pg.other {w w' : World} {lo B m s S : Nat} {lv : Value} {p : Nat → Con} {sl : Nat → Int} {us : Nat → List (Nat × Int)} {uv : Nat → Value} (h : Pg w lo B lv m s p sl us uv) (hg : w.grownBy w' (some S)) (hB : B < S) (hl : ∀ b, lv.ownBlock = some b → b < S) (hu : ∀ j, j < 25 → ∀ b, (uv j).ownBlock = some b → b < S) : Pg w' lo B lv m s p sl us uv :=
  h.kept hg ((Below.refl lo w).grown hg h.loB fun k e => by cases e; exact Nat.le_trans h.low (Nat.le_of_lt hB)) (by simp; omega) (none_or fun b e e2 => by have := hl b e; injection e2 with e3; omega) (fun j hj => none_or fun b e e2 => by have := hu j hj b e; injection e2 with e3; omega)

set_option maxRecDepth 100000 in
set_option maxHeartbeats 3200000 in
theorem psMake_any (S B lo mm s k : Nat) (lv : Value) (p : Nat → Con) (sl0 : Nat → Int) (us : Nat → List (Nat × Int)) (uv : Nat → Value) (v : Nat → Int) (m : Nat) (sl : Nat → Int) (z : Int) (w : World)
    (hPs : PsAt w S B v m sl) (hPg : Pg w lo B lv mm s p sl0 us uv) (hB : B < S) (hl : ∀ b, lv.ownBlock = some b → b < S) (hu : ∀ j, j < 25 → ∀ b, (uv j).ownBlock = some b → b < S)
    (hz : litB z = true) (hk : 12 - z = (k : Int)) (hr : ∀ r ∈ us k, r.1 < m ∧ 0 ≤ r.2 ∧ r.2 ≤ 1000) (hlen : (us k).length ≤ 1500000000) (hbd : ∀ i, i < m → -2000000000 ≤ sl i - sumU (us k) i ∧ sl i ≤ 2000000000) (hm : m ≤ 1400) :
    Calls Try.prog 72 #[.pointer (some ⟨S, 0, none⟩), .int .i64 z] w fun e w' => e = .returned (.tuple #[]) ∧ PsAt w' S B (asg v z) m (fun i => sl i - sumU (us k) i) ∧ w.grownBy w' (some S) := by
  obtain ⟨z0', z1, z2⟩ := litB_iff.1 hz
  have hk25 : k < 25 := by omega
  obtain ⟨L, hL⟩ : ∃ L, us k = L := ⟨_, rfl⟩
  rw [hL] at hr hlen hbd ⊢
  have HL := Lib.hid hL
  clear hL
  have HC := Lib.hid (fun i (hi : i < 12) => (⟨_, hPs.cellV hi⟩ : ∃ u, w.cell? ⟨S, 1 + i, none⟩ = some u))
  have HF := Lib.hid (fun i (_ : i < 12) => hPs.frozen (1 + i))
  have HPg := Lib.hid hPg
  have HOth := Lib.hid (fun (w' : World) (hg : w.grownBy w' (some S)) => hPg.other hg hB hl hu)
  have HU := Lib.hid hu
  have HRr := Lib.hid hr
  have HBd := Lib.hid hbd
  have HZ := Lib.hid hz
  have HA := Lib.hid (show PsAt ((w.setCell ⟨S, 1 + vix z, none⟩ (.int .i64 (sgn1 z))).drew) S B (asg v z) m sl from by
    rw [asg_vix hz]
    exact (hPs.setV (vix_lt hz).1 (sgn1 z)).same rfl)
  have HG := Lib.hid (show w.grownBy ((w.setCell ⟨S, 1 + vix z, none⟩ (.int .i64 (sgn1 z))).drew) (some S) from by
    have := grown_set w S (1 + vix z) (.int .i64 (sgn1 z))
    exact ⟨this.os, this.tape, this.output, this.size, this.block⟩)
  have hw1 : wrap64 (12 - z) = (k : Int) := by rw [hk, ← IntWalk.i64_left]; exact IntWalk.i64_in _ (by omega)
  have hw2 : IntKind.i64.wrap (12 - z) = (k : Int) := by rw [hk]; exact IntWalk.i64_in _ (by omega)
  have hkI : (k : Int) < 25 := by omega
  have hk0 : (0 : Int) ≤ (k : Int) := by omega
  clear hPs hPg hl hu hr hbd hz hk z0' z1 z2
  go_enter Try.func72, Try.ntmps72
  go_wp2_with fail
  refine (ptMake_any S 1 z w HZ.out HC.out HF.out).mono ?_
  rintro e w1 ⟨rfl, rfl⟩
  generalize (w.setCell ⟨S, 1 + vix z, none⟩ (.int .i64 (sgn1 z))).drew = W1 at *
  have hcp := HA.out.cellP
  have HP1 := HOth.out _ HG.out
  have hcu := HP1.cel.cellU hk25
  obtain ⟨Au, capu, hue⟩ := row_slice (HP1.use k hk25)
  rw [hue] at hcu
  have HUe := Lib.hid hue
  rw [HL.out] at hcu
  have HUe2 := Lib.hid (show uv k = .slice Au L.length capu from by rw [HUe.out, HL.out])
  clear HP1 hue HC HF
  go_wp2
  go_loopw [22] (fun i wx => ∃ t : Nat, i = .int .i64 t ∧ t ≤ L.length ∧ PsAt wx S B (asg v z) m (fun i => sl i - sumU (L.take t) i) ∧ w.grownBy wx (some S)) (fun i _ => L.length - (intOf i).toNat)
  case atStart => exact ⟨0, rfl, Nat.zero_le _, by simpa [sumU] using HA.out, HG.out⟩
  case round =>
    obtain ⟨t, rfl, ht, hp, hg⟩ := hrel
    have HPs := Lib.hid hp
    have HGr := Lib.hid hg
    clear hp hg
    by_cases hlt : t < L.length
    · have hrow := (HOth.out _ HGr.out).use k hk25
      rw [HUe2.out, HL.out] at hrow
      obtain ⟨g, cap, he, hgl, hcell⟩ := row_read hrow rfl (by omega)
      cases he
      obtain ⟨c1, c2⟩ := hcell t hlt
      obtain ⟨h1, h2, h3⟩ := HRr.out _ (List.getElem_mem hlt)
      have hsum := fun i => sumU_take (fun r hr => (HRr.out r hr).2.1) i t
      have htk : L.take (t + 1) = L.take t ++ [L[t]] := List.take_succ_eq_append_getElem hlt
      obtain ⟨⟨ix, cf⟩, hr⟩ : ∃ r, L[t] = r := ⟨_, rfl⟩
      rw [hr] at c1 c2 h1 h2 h3 htk
      simp only at c1 c2 h1 h2 h3
      obtain ⟨cu, hcu'⟩ : ∃ cu, sl ix - sumU (L.take t) ix = cu := ⟨_, rfl⟩
      have hcs := HPs.out.cellS h1
      rw [hcu'] at hcs
      have hfs := HPs.out.frozen (13 + ix)
      have hb1 := HBd.out ix h1
      have hb2 := hsum ix
      obtain ⟨nw, hnw⟩ : ∃ nw, cu - cf = nw := ⟨_, rfl⟩
      have hwr : IntKind.i64.wrap (cu - cf) = nw := by rw [← hnw]; exact IntWalk.i64_in _ (by omega)
      have HFn := Lib.hid (show (fun i => sl i - sumU (L.take (t + 1)) i) = fun i => if i = ix then nw else sl i - sumU (L.take t) i from by
        funext i
        rw [htk, sumU_append]
        by_cases e : i = ix
        · subst e
          rw [if_pos rfl]
          show sl i - (_ + ((if i = i then cf else 0) + 0)) = nw
          rw [if_pos rfl]
          omega
        · rw [if_neg e]
          show sl i - (_ + ((if ix = i then cf else 0) + 0)) = _
          rw [if_neg (fun h => e h.symm)]
          omega)
      have hixI : (ix : Int) < 1400 := by omega
      have hix0 : (0 : Int) ≤ (ix : Int) := by omega
      have hltI : (t : Int) < (L.length : Int) := by omega
      have ht0 : (0 : Int) ≤ (t : Int) := by omega
      have hzS := HPs.out.lt
      clear hcell hrow hsum htk hr hcu' hb1 hb2 hnw
      go_upto_region 4 with fail
      have hal := bl_alloc (Below.refl wr.heap.size wr) (.cells #[.int .i64 (ix : Nat), .int .i64 cf] 123)
      have t0 : (wr.alloc (.cells #[.int .i64 (ix : Nat), .int .i64 cf] 123)).cell? ⟨wr.heap.size, 0, none⟩ = some (.int .i64 (ix : Nat)) := by go_simp
      have t1 : (wr.alloc (.cells #[.int .i64 (ix : Nat), .int .i64 cf] 123)).cell? ⟨wr.heap.size, 1, none⟩ = some (.int .i64 cf) := by go_simp
      replace hcs := kc hal hcs
      replace hfs := kf hal hzS hfs
      have HPa := Lib.hid (HPs.out.below hal)
      have HGa := Lib.hid (grown_trans HGr.out (below_grown (G := S) hal))
      clear hal HPs HGr c1 c2
      generalize wr.alloc (.cells #[.int .i64 (ix : Nat), .int .i64 cf] 123) = W at *
      go_still_tail 13, (by kernel_rfl)
      change wpList _ _ _ _ _ W.drew
      go_wp2
      go_roundw
      case rel =>
        refine ⟨t + 1, by go_num, by omega, ?_, grown_trans HGa.out ?_⟩
        · rw [HFn.out]
          exact (HPa.out.same (w' := W.drew) rfl).setS h1 hm nw
        · have := grown_set W.drew S (13 + ix) (.int .i64 nw)
          exact ⟨this.os, this.tape, this.output, this.size, this.block⟩
      case measure => simp [intOf]; omega
    · have e : t = L.length := by omega
      subst e
      go_wp2
      exact ⟨rfl, .tuple #[], by simp [results, Try.results72], rfl, by have := HPs.out; rwa [List.take_length] at this, HGr.out⟩
end Go.Proofs.Ytooknldfkcdneaa
