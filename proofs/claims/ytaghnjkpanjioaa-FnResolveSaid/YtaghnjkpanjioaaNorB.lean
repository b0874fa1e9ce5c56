/- Contracts of the model's net coefficients (no claim of its own). Conditions: as each theorem states. -/
import Derived.Test.YtaghnjkpanjioaaNorA
import Derived.Laws.OwnMore
namespace Go.Proofs.Ytaghnjkpanjioaa
open Go.ChangeShapes Go.WideShapes Go.ChangeAt Go.RowKit

/-- The net coefficient of a variable behind k terms, as Go computes it; the bound. -/
def net (c l : Nat → Int) : Nat → Nat → Int
  | 0, _ => 0
  | k + 1, v => if l k = (v : Int) then wrap64 (net c l k v + c k) else if l k = -(v : Int) then wrap64 (net c l k v - c k) else net c l k v
def nbd (c l : Nat → Int) (bd : Int) : Nat → Int
  | 0 => bd
  | k + 1 => if 0 < l k then nbd c l bd k else wrap64 (nbd c l bd k - c k)
theorem nbd_pos {c l : Nat → Int} {bd : Int} {k : Nat} (h : 0 < l k) : nbd c l bd (k + 1) = nbd c l bd k := if_pos h
theorem nbd_neg {c l : Nat → Int} {bd : Int} {k : Nat} (h : l k < 0) : nbd c l bd (k + 1) = wrap64 (nbd c l bd k - c k) := if_neg (by omega)

/-- A block of numbers. -/
def OwnK (w : World) (G N : Nat) (f : Nat → Int) : Prop :=
  ∃ cs : Array Value, w.heap[G]? = some (.cells cs 3 (0, 0)) ∧ cs.size = N ∧ ∀ i, i < N → cs[i]? = some (.int .i64 (f i))
section
variable {w w' : World} {G N : Nat} {f g : Nat → Int}
theorem OwnK.at_ (h : OwnK w G N f) (hg : w'.heap[G]? = w.heap[G]?) : OwnK w' G N f := by
  obtain ⟨cs, hh, h1, h2⟩ := h
  exact ⟨cs, hg.trans hh, h1, h2⟩
theorem OwnK.lt (h : OwnK w G N f) : G < w.heap.size := by
  obtain ⟨cs, hh, h1, h2⟩ := h
  rcases Nat.lt_or_ge G w.heap.size with hlt | hge
  · exact hlt
  · rw [Array.getElem?_eq_none hge] at hh; cases hh
theorem OwnK.below (h : OwnK w G N f) {B : Nat} (hb : Below B w w') (hG : G < B) : OwnK w' G N f := h.at_ (hb.block G hG)
theorem OwnK.alloc (h : OwnK w G N f) (o : Obj) : OwnK (w.alloc o) G N f := h.below (bl_alloc (Below.refl _ _) o) h.lt
theorem OwnK.cell (h : OwnK w G N f) {j : Nat} (hj : j < N) : w.cell? ⟨G, j, none⟩ = some (.int .i64 (f j)) := by
  obtain ⟨cs, hh, h1, h2⟩ := h
  exact (cell_of_row w G _ cs _ _ hh).trans (h2 j hj)
theorem OwnK.frozen (h : OwnK w G N f) (j : Nat) : w.frozen? ⟨G, j, none⟩ = false := by
  obtain ⟨cs, hh, h1, h2⟩ := h
  simp [World.frozen?, hh]
theorem OwnK.put (h : OwnK w G N f) {v : Nat} {x : Int} (hv : v < N) (hx : g v = x) (he : ∀ i, i < N → i ≠ v → g i = f i) : OwnK (w.setCell ⟨G, v, none⟩ (.int .i64 x)) G N g := by
  obtain ⟨cs, hh, h1, h2⟩ := h
  refine ⟨cs.setIfInBounds v (.int .i64 x), by simp [World.setCell, Array.getElem?_modify, hh], by simp [h1], fun i hi => ?_⟩
  simp only [Array.getElem?_setIfInBounds]
  by_cases e : v = i
  · subst e
    rw [if_pos rfl, if_pos (by omega), hx]
  · rw [if_neg e, he i hi (fun e' => e e'.symm)]
    exact h2 i hi
theorem OwnK.far (h : OwnK w G N f) {p : Addr} (hp : G ≠ p.block) (u : Value) : OwnK (w.setCell p u) G N f := h.at_ (Below.heap_setCell w p u G hp)
end

theorem Try.infoInt : (Try.prog.info? 3).map (fun i => (i.zero, i.size, i.bytes)) = some (some (.int .i64 0), 1, 8) := by kernel_rfl

theorem madeCells_get (z : Value) {i : Nat} (hi : i < 13) : (madeCells #[z] 13)[i]? = some z := by
  have h : (madeCells #[z] 13).toList = List.replicate 13 z := toList_madeCells_one z 13
  rw [← Array.getElem?_toList, h, List.getElem?_replicate, if_pos hi]
theorem net_pos {c l : Nat → Int} {k v : Nat} (h : l k = (v : Int)) : net c l (k + 1) v = wrap64 (net c l k v + c k) := by
  show (if _ then _ else _) = _
  rw [if_pos h]
theorem net_neg {c l : Nat → Int} {k v : Nat} (h : l k = -(v : Int)) (hv : 0 < v) : net c l (k + 1) v = wrap64 (net c l k v - c k) := by
  show (if _ then _ else _) = _
  rw [if_neg (by omega), if_pos h]
theorem net_off {c l : Nat → Int} {k v : Nat} (h : l k ≠ (v : Int)) (h2 : l k ≠ -(v : Int)) : net c l (k + 1) v = net c l k v := by
  show (if _ then _ else _) = _
  rw [if_neg h, if_neg h2]

set_option maxRecDepth 100000 in
set_option maxHeartbeats 1600000 in
theorem l1Net_any (A : Option Addr) (n cap : Nat) (bd : Int) (c l : Nat → Int) (w : World) (hn : n ≤ 1048576) (hr : Rd w w.heap.size A n c l) (hv : allN c l n = true) :
    Calls Try.prog 106 #[.slice A n cap, .int .i64 bd] w fun e w' => ∃ G, e = .returned (.tuple #[.slice (some ⟨G, 0, none⟩) 13 13, .int .i64 (nbd c l bd n)]) ∧ w.heap.size ≤ G ∧ OwnK w' G 13 (net c l n) ∧ Below w.heap.size w w' := by
  have Hv := Lib.hid hv
  clear hv
  obtain ⟨i0, hi, hz0, hz1, hz2⟩ := info_parts Try.infoInt
  have hmk := fun W => run_make (P := Try.prog) W 36 3 i0 _ Try.underlying36 hi hz0 .i64 .i64 13 13 (by omega) (by omega) (by rw [hz2]; omega) (by omega)
  rw [hz1] at hmk
  clear hi hz0 hz1 hz2
  go_enter Try.func106, Try.ntmps106
  go_wp2
  go_loopw [1, 7] (fun t i wr => ∃ k : Nat, k ≤ n ∧ i = .int .i64 k ∧ t = .int .i64 (nbd c l bd k) ∧ OwnK wr w.heap.size 13 (net c l k) ∧ Below w.heap.size w wr) (fun _ i _ => n - (intOf i).toNat)
  case atStart => exact ⟨0, Nat.zero_le _, rfl, rfl, ⟨_, heap_alloc_new _ _, by simp [size_madeCells], fun i hi => by simp [madeCells_get _ hi, net]⟩, bl_alloc (Below.refl _ _) _⟩
  case round =>
    obtain ⟨k, hk, rfl, rfl, hown, hb⟩ := hrel
    by_cases hlt : k < n
    · have hok := okN_iff.1 (allN_at Hv.out hlt)
      obtain ⟨hl0, hl1, hl2⟩ := litB_iff.1 hok.1
      obtain ⟨b, off, rfl, hbl, hc⟩ := (hr.below hb) (by omega)
      obtain ⟨hc1, hc2⟩ := hc k hlt
      have hzb : b < wr.heap.size := Nat.lt_of_lt_of_le hbl hb.size
      have hzg : w.heap.size < wr.heap.size := hown.lt
      by_cases hp : 0 < l k
      · obtain ⟨v, hlv⟩ : ∃ v : Nat, l k = (v : Int) := ⟨(l k).toNat, by omega⟩
        have Hlv := Lib.hid hlv
        have hbd := nbd_pos (c := c) (bd := bd) hp
        have Hbd := Lib.hid hbd
        rw [hlv] at hc2
        have hv13 : v < 13 := by omega
        have hv0 : 0 < (v : Int) := by omega
        have hcl := hown.cell hv13
        have hfr := hown.frozen v
        have Hown := Lib.hid hown
        have Hb := Lib.hid hb
        clear hc hmk hr hok hown hb hl0 hl1 hl2 hp hlv hbd
        go_wp2_with fail
        have hal := bl_alloc (Below.refl wr.heap.size wr) (.cells #[.int .i64 (c k), .int .i64 (v : Int)] 38)
        have t0 : (wr.alloc (.cells #[.int .i64 (c k), .int .i64 (v : Int)] 38)).cell? ⟨wr.heap.size, 0, none⟩ = some (.int .i64 (c k)) := by go_simp
        have t1 : (wr.alloc (.cells #[.int .i64 (c k), .int .i64 (v : Int)] 38)).cell? ⟨wr.heap.size, 1, none⟩ = some (.int .i64 (v : Int)) := by go_simp
        replace hcl := kc hal hcl
        replace hfr := kf hal (by simpa using hzg) hfr
        have HownA := Lib.hid (Hown.out.alloc (.cells #[.int .i64 (c k), .int .i64 (v : Int)] 38))
        have HbA := Lib.hid (bl_alloc Hb.out (.cells #[.int .i64 (c k), .int .i64 (v : Int)] 38))
        clear hal
        generalize wr.alloc (.cells #[.int .i64 (c k), .int .i64 (v : Int)] 38) = W at *
        have hvI : (v : Int) < 13 := by omega
        have hvJ : (0 : Int) ≤ (v : Int) := by omega
        go_still_tail 12, (by kernel_rfl)
        change wpList _ _ _ _ _ W.drew
        go_wp2
        go_roundw
        case rel => exact ⟨k + 1, by omega, by go_num, by rw [Hbd.out], (HownA.out.put hv13 (net_pos (c := c) Hlv.out) (fun i hi hne => net_off (by rw [Hlv.out]; omega) (by rw [Hlv.out]; omega))), HbA.out.drew.setCell (Nat.le_refl _) _⟩
        case measure => simp [intOf]; omega
      · obtain ⟨v, hlv⟩ : ∃ v : Nat, l k = -(v : Int) := ⟨(-(l k)).toNat, by omega⟩
        have Hlv := Lib.hid hlv
        have hbd := nbd_neg (c := c) (bd := bd) (l := l) (k := k) (by omega)
        have Hbd := Lib.hid hbd
        have hv13 : v < 13 := by omega
        have hv0 : 0 < v := by omega
        have hneg : ¬ 0 < l k := by omega
        have hwn : IntKind.i64.wrap (-(l k)) = (v : Int) := by rw [hlv, Int.neg_neg]; exact IntWalk.i64_in _ (by omega)
        have hcl := hown.cell hv13
        have hfr := hown.frozen v
        have Hown := Lib.hid hown
        have Hb := Lib.hid hb
        clear hc hmk hr hok hown hb hl0 hl1 hl2 hp hlv hbd
        go_wp2_with fail
        have hal := bl_alloc (Below.refl wr.heap.size wr) (.cells #[.int .i64 (c k), .int .i64 (l k)] 38)
        have t0 : (wr.alloc (.cells #[.int .i64 (c k), .int .i64 (l k)] 38)).cell? ⟨wr.heap.size, 0, none⟩ = some (.int .i64 (c k)) := by go_simp
        have t1 : (wr.alloc (.cells #[.int .i64 (c k), .int .i64 (l k)] 38)).cell? ⟨wr.heap.size, 1, none⟩ = some (.int .i64 (l k)) := by go_simp
        replace hcl := kc hal hcl
        replace hfr := kf hal (by simpa using hzg) hfr
        have HownA := Lib.hid (Hown.out.alloc (.cells #[.int .i64 (c k), .int .i64 (l k)] 38))
        have HbA := Lib.hid (bl_alloc Hb.out (.cells #[.int .i64 (c k), .int .i64 (l k)] 38))
        clear hal
        generalize wr.alloc (.cells #[.int .i64 (c k), .int .i64 (l k)] 38) = W at *
        have hvI : (v : Int) < 13 := by omega
        have hvJ : (0 : Int) ≤ (v : Int) := by omega
        go_still_tail 14, (by kernel_rfl)
        change wpList _ _ _ _ _ W.drew
        go_wp2
        go_roundw
        case rel => exact ⟨k + 1, by omega, by go_num, by rw [Hbd.out], (HownA.out.put hv13 (net_neg (c := c) Hlv.out hv0) (fun i hi hne => net_off (by rw [Hlv.out]; omega) (by rw [Hlv.out]; omega))), HbA.out.drew.setCell (Nat.le_refl _) _⟩
        case measure => simp [intOf]; omega
    · have e : k = n := by omega
      subst e
      clear hmk
      go_wp2
      refine bodyPost_ret (v := .tuple #[.slice (some ⟨w.heap.size, 0, none⟩) 13 13, .int .i64 (nbd c l bd k)]) (by simp [results, Try.results106, go_sem]) rfl ?_
      exact ⟨_, rfl, Nat.le_refl _, hown, hb⟩
end Go.Proofs.Ytaghnjkpanjioaa
