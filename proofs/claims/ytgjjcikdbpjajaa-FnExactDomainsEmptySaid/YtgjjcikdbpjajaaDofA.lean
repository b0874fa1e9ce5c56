/- Domains as sets of values: how they are read off the lists (no claim of its own). Conditions: as each theorem states. -/
import Derived.Test.YtgjjcikdbpjajaaMskA
import Derived.Test.YtgjjcikdbpjajaaDmiA
namespace Go.Proofs.Ytgjjcikdbpjajaa
open Go.ChangeShapes Go.WideShapes Go.ChangeAt Go.RowKit

/-- A block of the call's own that holds sets of values. -/
def OwnS8 (w : World) (G n : Nat) (v : Nat → Int) : Prop :=
  ∃ cs : Array Value, w.heap[G]? = some (.cells cs 132 (0, 0)) ∧ cs.size = n ∧ ∀ i, i < n → cs[i]? = some (.int .u64 (v i))
section
variable {w w' : World} {G n : Nat} {v v' : Nat → Int}
theorem OwnS8.lt (h : OwnS8 w G n v) : G < w.heap.size := by
  obtain ⟨cs, hh, h1, h2⟩ := h
  rcases Nat.lt_or_ge G w.heap.size with hlt | hge
  · exact hlt
  · rw [Array.getElem?_eq_none hge] at hh; cases hh
theorem OwnS8.below {B : Nat} (h : OwnS8 w G n v) (hb : Below B w w') (hG : G < B) : OwnS8 w' G n v := by
  obtain ⟨cs, hh, h1, h2⟩ := h
  exact ⟨cs, (hb.block G hG).trans hh, h1, h2⟩
theorem OwnS8.cell (h : OwnS8 w G n v) {j : Nat} (hj : j < n) : w.cell? ⟨G, j, none⟩ = some (.int .u64 (v j)) := by
  obtain ⟨cs, hh, h1, h2⟩ := h
  exact (cell_of_row w G _ cs _ _ hh).trans (h2 j hj)
theorem OwnS8.frozen (h : OwnS8 w G n v) (j : Nat) : w.frozen? ⟨G, j, none⟩ = false := by
  obtain ⟨cs, hh, h1, h2⟩ := h
  simp [World.frozen?, hh]
theorem OwnS8.put (h : OwnS8 w G n v) {k : Nat} (hk : k < n) {z : Int} (hz : v' k = z) (he : ∀ i, i < n → i ≠ k → v' i = v i) : OwnS8 (w.setCell ⟨G, k, none⟩ (.int .u64 z)) G n v' := by
  obtain ⟨cs, hh, h1, h2⟩ := h
  refine ⟨cs.setIfInBounds k (.int .u64 z), ?_, by simp [h1], fun i hi => ?_⟩
  · simp [World.setCell, Array.getElem?_modify, hh]
  · simp only [Array.getElem?_setIfInBounds]
    by_cases e : i = k
    · subst e
      rw [if_pos rfl, if_pos (by omega), hz]
    · rw [if_neg (by omega), he i hi e]
      exact h2 i hi
theorem OwnS8.same (h : OwnS8 w G n v) (he : ∀ i, i < n → v' i = v i) : OwnS8 w G n v' := by
  obtain ⟨cs, hh, h1, h2⟩ := h
  exact ⟨cs, hh, h1, fun i hi => by rw [he i hi]; exact h2 i hi⟩
end
theorem Try.infoVS : (Try.prog.info? 132).map (fun i => (i.zero, i.size, i.bytes)) = some (some (.int .u64 0), 1, 8) := by kernel_rfl

/-- The sets behind k whole lists and j elements of the next one. -/
def dmV (d : Nat → LsB) (k j : Nat) (i : Nat) : Int := if i < k then msk (d i).x (d i).n else if i = k then msk (d i).x j else 0

theorem dmV_00 (d : Nat → LsB) (i : Nat) : dmV d 0 0 i = 0 := by
  unfold dmV
  rw [if_neg (by omega)]
  split
  · rfl
  · rfl
theorem dmV_at (d : Nat → LsB) (k j : Nat) : dmV d k j k = msk (d k).x j := by unfold dmV; rw [if_neg (by omega), if_pos rfl]
theorem dmV_ne (d : Nat → LsB) {k j j' i : Nat} (h : i ≠ k) : dmV d k j i = dmV d k j' i := by unfold dmV; rw [if_neg h, if_neg h]
theorem dmV_no (d : Nat → LsB) {k j : Nat} (h : (d k).x j = false) (i : Nat) : dmV d k (j + 1) i = dmV d k j i := by
  by_cases e : i = k
  · subst e; rw [dmV_at, dmV_at, msk_no h]
  · exact dmV_ne d e
theorem dmV_next (d : Nat → LsB) (k i : Nat) : dmV d (k + 1) 0 i = dmV d k (d k).n i := by
  unfold dmV
  by_cases h : i < k
  · rw [if_pos h, if_pos (by omega)]
  · rw [if_neg h]
    by_cases e : i = k
    · subst e; rw [if_pos (by omega), if_pos rfl]
    · rw [if_neg (by omega), if_neg e]
      split
      · rfl
      · rfl
theorem dmV_end (d : Nat → LsB) {k i : Nat} (h : i < k) : msk (d i).x (d i).n = dmV d k 0 i := by unfold dmV; rw [if_pos h]
theorem own8_new (w : World) (m : Nat) : OwnS8 (w.alloc (.cells (madeCells #[.int .u64 0] m) 132)) w.heap.size m (fun _ => 0) := by
  have h : (madeCells #[Value.int .u64 0] m).toList = List.replicate m (.int .u64 0) := toList_madeCells_one (.int .u64 0) m
  refine ⟨_, heap_alloc_new _ _, by simp [size_madeCells], fun i hi => ?_⟩
  rw [← Array.getElem?_toList, h, List.getElem?_replicate, if_pos hi]

set_option maxRecDepth 100000 in
set_option maxHeartbeats 1600000 in
theorem domainsOf_any (m : Nat) (d : Nat → LsB) (Ad : Option Addr) (cd : Nat) (w : World) (p1 : m ≤ 5) (p2 : ∀ i, i < m → (d i).n ≤ 4) (hd : RdLB w w.heap.size Ad m d) :
    Calls Try.prog 74 #[.slice Ad m cd] w fun e w' => ∃ G, e = .returned (.slice (some ⟨G, 0, none⟩) m m) ∧ w.heap.size ≤ G ∧ OwnS8 w' G m (fun i => msk (d i).x (d i).n) ∧ Below w.heap.size w w' := by
  obtain ⟨i0, hi, hz0, hz1, hz2⟩ := info_parts Try.infoVS
  have hmk := fun W => run_make (P := Try.prog) W 84 132 i0 _ Try.underlying84 hi hz0 .i64 .i64 (m : Int) m (by omega) (by omega) (by rw [hz2]; omega) (by omega)
  rw [hz1] at hmk
  clear hi hz0 hz1 hz2
  go_enter Try.func74, Try.ntmps74
  go_wp2
  have HP2 := Lib.hid p2
  have HD := Lib.hid hd
  clear p2 hd hmk
  go_loopw [13] (fun i wr => ∃ k : Nat, k ≤ m ∧ i = .int .i64 k ∧ OwnS8 wr w.heap.size m (dmV d k 0) ∧ Below w.heap.size w wr) (fun i _ => m - (intOf i).toNat)
  case atStart => exact ⟨0, Nat.zero_le _, rfl, (own8_new w m).same (fun i hi => dmV_00 d i), bl_alloc (Below.refl _ _) _⟩
  case round =>
    obtain ⟨k, hk, rfl, hown, hb⟩ := hrel
    by_cases hlt : k < m
    · obtain ⟨b, off, rfl, hbl, hc⟩ := HD.out (by omega)
      obtain ⟨Ai, ci, hc0, hrk⟩ := hc k hlt
      have hc1 := (hb.cell (p := ⟨b, _, none⟩) hbl).trans hc0
      have h4 := HP2.out k hlt
      have HO := Lib.hid hown
      have HBk := Lib.hid hb
      have hrk' := Lib.hid hrk
      clear hc hown hb hrk hc0
      have hlt' : (k : Int) < (m : Int) := by omega
      have hk0 : (0 : Int) ≤ (k : Int) := by omega
      go_wp2
      go_loopw [20] (fun i wr => ∃ j : Nat, j ≤ (d k).n ∧ i = .int .i64 j ∧ OwnS8 wr w.heap.size m (dmV d k j) ∧ Below w.heap.size w wr) (fun i _ => (d k).n - (intOf i).toNat)
      case atStart => exact ⟨0, Nat.zero_le _, rfl, HO.out, HBk.out⟩
      case round =>
        obtain ⟨j, hj, rfl, hown, hb⟩ := hrel
        by_cases hjt : j < (d k).n
        · obtain ⟨b2, off2, rfl, hbl2, hc2⟩ := (hrk'.out.below hb) (by omega)
          have hc3 := hc2 j hjt
          clear hc2
          have hj0 : (0 : Int) ≤ (j : Int) := by omega
          have hjt' : (j : Int) < ((d k).n : Int) := by omega
          cases hx : (d k).x j with
          | true =>
            rw [hx] at hc3
            have hcell := hown.cell hlt
            rw [dmV_at] at hcell
            have hfz := hown.frozen k
            have Hput := Lib.hid (hown.put (v' := dmV d k (j + 1)) hlt (z := msk (d k).x j + ((2 ^ j : Nat) : Int)) (by rw [dmV_at, msk_yes hx]) (fun i hi hne => dmV_ne d hne))
            have Hbb := Lib.hid (hb.setCell (p := ⟨w.heap.size, k, none⟩) (Nat.le_refl _) (.int .u64 (msk (d k).x j + ((2 ^ j : Nat) : Int))))
            clear hx hown
            have hbd := msk_bd (d k).x j
            go_wp2_with (go_at_call 116; refine (with_any _ j _ hbd (by omega)).mono ?_; rintro e w' ⟨rfl, rfl⟩)
            go_roundw
            case rel => exact ⟨j + 1, by omega, by go_num, Hput.out, Hbb.out⟩
            case measure => simp [intOf]; omega
          | false =>
            rw [hx] at hc3
            have Hs := Lib.hid (hown.same (v' := dmV d k (j + 1)) (fun i hi => dmV_no d hx i))
            clear hx hown
            go_wp2
            go_roundw
            case rel => exact ⟨j + 1, by omega, by go_num, Hs.out, hb⟩
            case measure => simp [intOf]; omega
        · have e : j = (d k).n := by omega
          subst e
          have Hs := Lib.hid (hown.same (v' := dmV d (k + 1) 0) (fun i hi => dmV_next d k i))
          clear hown
          go_wp2
          go_roundw
          case rel => exact ⟨k + 1, by omega, by go_num, Hs.out, hb⟩
          case measure => simp [intOf]; omega
    · have e : k = m := by omega
      subst e
      have Hs := Lib.hid (hown.same (v' := fun i => msk (d i).x (d i).n) (fun i hi => dmV_end d hi))
      clear hown
      go_wp2
      go_ret
      exact ⟨_, rfl, Nat.le_refl _, Hs.out, hb⟩
end Go.Proofs.Ytgjjcikdbpjajaa
