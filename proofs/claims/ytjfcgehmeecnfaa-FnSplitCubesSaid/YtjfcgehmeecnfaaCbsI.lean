/- SplitCubes: the program's side (no claim of its own). Conditions: as each theorem states. -/
import Derived.Test.YtjfcgehmeecnfaaCbsM
import Derived.Test.YtjfcgehmeecnfaaGrwL
import Derived.Test.YtjfcgehmeecnfaaCubA
import Derived.Test.YtjfcgehmeecnfaaClnJ
namespace Go.Proofs.Ytjfcgehmeecnfaa
open Go.ChangeShapes Go.WideShapes Go.ChangeAt Go.RowKit

/-- A block of m lists of the call's own: the first k of them are laid. -/
structure HalfL (w : World) (B hi G m k : Nat) (r : Nat → Lst) (f : Nat → Nat) : Prop where
  row : ∃ cs : Array Value, w.heap[G]? = some (.cells cs 22 (0, 0)) ∧ cs.size = m ∧ ∀ i, i < k → ∃ Ai ci, cs[i]? = some (.slice Ai (r i).n ci) ∧ ((r i).n = 0 ∨ (Ai = some ⟨f i, 0, none⟩ ∧ B ≤ f i ∧ f i < hi ∧ OwnV w (f i) 3 (r i).n (r i).n (r i).x))
  lt : B ≤ G
  inj : ∀ i j, i < k → j < k → (r i).n ≠ 0 → (r j).n ≠ 0 → i ≠ j → f i ≠ f j
section
variable {w W : World} {B hi G m n k : Nat} {r : Nat → Lst} {f : Nat → Nat}
theorem HalfL.fin (h : HalfL w B hi G m m r f) : FrL w B (some ⟨G, 0, none⟩) m r := by
  obtain ⟨cs, hh, hs, he⟩ := h.row
  refine ⟨f, ⟨.inr ⟨G, cs, rfl, hh, fun i hi => ?_⟩, fun i hi => ?_, h.inj⟩, fun b hb => ?_⟩
  · obtain ⟨Ai, ci, h1, h2⟩ := he i hi
    exact ⟨Ai, ci, h1, h2.imp id fun x => x.1⟩
  · obtain ⟨Ai, ci, _, h2⟩ := he i hi
    exact h2.imp id fun x => x.2.2.2
  · rcases hb with ⟨_, a, ha, rfl⟩ | ⟨i, hi, hz, rfl⟩
    · cases ha
      exact h.lt
    · obtain ⟨Ai, ci, _, h2⟩ := he i hi
      rcases h2 with e | ⟨_, b, _⟩
      · exact absurd e hz
      · exact b
theorem HalfL.open (h : HalfL w B hi G m k r f) (hb : Below w.heap.size w W) (hk : k < m) : (∃ u, W.cell? ⟨G, k, none⟩ = some u) ∧ W.frozen? ⟨G, k, none⟩ = false := by
  obtain ⟨cs, hh, hs, _⟩ := h.row
  have hW := (hb.block G (lblock_lt hh)).trans hh
  exact ⟨⟨cs[k]'(by omega), (cell_of_row W G _ cs _ _ hW).trans (Array.getElem?_eq_getElem (by omega))⟩, by simp [World.frozen?, hW]⟩
/-- The next list is laid, in a block of its own. -/
theorem HalfL.next (h : HalfL w B hi G m k r f) (hb : Below w.heap.size w W) (hk : k < m) (hB : B ≤ hi) (hhi : hi ≤ w.heap.size) {A : Option Addr} {ci : Nat} (hel : FrI W w.heap.size 3 A (r k).n (r k).x) :
    ∃ f', HalfL (W.setCell ⟨G, k, none⟩ (.slice A (r k).n ci)) B W.heap.size G m (k + 1) r f' := by
  obtain ⟨cs, hh, hs, he⟩ := h.row
  have hW : W.heap[G]? = some (.cells cs 22 (0, 0)) := (hb.block G (lblock_lt hh)).trans hh
  have hset : (W.setCell ⟨G, k, none⟩ (.slice A (r k).n ci)).heap[G]? = some (.cells (cs.setIfInBounds k (.slice A (r k).n ci)) 22 (0, 0)) := by
    simp [World.setCell, Array.getElem?_modify, hW]
  have hfar : ∀ {H m : Nat} {v : Nat → Int}, OwnV W H 3 m m v → OwnV (W.setCell ⟨G, k, none⟩ (.slice A (r k).n ci)) H 3 m m v := fun {H m v} hu => hu.at_ (Below.heap_setCell W ⟨G, k, none⟩ _ _ (fun e => by
    obtain ⟨cs', h3, _⟩ := hu
    rw [show H = G from e, hW] at h3
    injection h3 with h3
    injection h3 with _ h4 _
    exact absurd h4 (by decide)))
  obtain ⟨g1, hg1⟩ : ∃ g1, (r k).n = 0 ∨ (A = some ⟨g1, 0, none⟩ ∧ w.heap.size ≤ g1 ∧ OwnV W g1 3 (r k).n (r k).n (r k).x) := by
    rcases hel with e | ⟨H, e, h1, h2⟩
    · exact ⟨0, .inl e⟩
    · exact ⟨H, .inr ⟨e, h1, h2⟩⟩
  have hold : ∀ i, i < k → (r i).n ≠ 0 → f i < hi := fun i hi1 hz => by
    obtain ⟨_, _, _, h3⟩ := he i hi1
    rcases h3 with e | ⟨_, _, c, _⟩
    · exact absurd e hz
    · exact c
  have hws := hb.size
  refine ⟨fun i => if i = k then g1 else f i, ⟨_, hset, by simpa using hs, fun i hi1 => ?_⟩, h.lt, fun i j hi1 hj1 hz1 hz2 hne => ?_⟩
  · by_cases e : i = k
    · subst e
      refine ⟨A, ci, by rw [Array.getElem?_setIfInBounds, if_pos rfl, if_pos (by omega)], ?_⟩
      rcases hg1 with e | ⟨a1, a2, a3⟩
      · exact .inl e
      · exact .inr ⟨by rw [if_pos rfl]; exact a1, by rw [if_pos rfl]; omega, by rw [if_pos rfl]; exact a3.lt, by rw [if_pos rfl]; exact hfar a3⟩
    · obtain ⟨Ai, ci', h1, h3⟩ := he i (by omega)
      refine ⟨Ai, ci', by rw [Array.getElem?_setIfInBounds, if_neg (by omega)]; exact h1, ?_⟩
      simp only [if_neg e]
      rcases h3 with e3 | ⟨a1, a2, a3, a4⟩
      · exact .inl e3
      · exact .inr ⟨a1, a2, by omega, hfar (a4.below hb)⟩
  · have hnew1 : (r k).n ≠ 0 → hi ≤ g1 := fun hz => by
      rcases hg1 with e | ⟨_, a2, _⟩
      · exact absurd e hz
      · omega
    show (if i = k then g1 else f i) ≠ (if j = k then g1 else f j)
    by_cases e : i = k
    · have e2 : j ≠ k := fun e' => hne (by omega)
      rw [if_pos e, if_neg e2]
      have h1 := hold j (by omega) hz2
      have h2 := hnew1 (by rw [← e]; exact hz1)
      omega
    · by_cases e2 : j = k
      · rw [if_pos e2, if_neg e]
        have h1 := hold i (by omega) hz1
        have h2 := hnew1 (by rw [← e2]; exact hz2)
        omega
      · rw [if_neg e, if_neg e2]
        exact h.inj i j (by omega) (by omega) hz1 hz2 hne
theorem OwnV.set {T : TypeId} {v : Nat → Int} {j : Nat} {z : Int} (h : OwnV w G T n n v) (hj : j < n) : OwnV (w.setCell ⟨G, j, none⟩ (.int .i64 z)) G T n n (fun i => if i = j then z else v i) := by
  obtain ⟨cs, hh, h1, h2⟩ := h
  refine ⟨cs.setIfInBounds j (.int .i64 z), ?_, by simp [h1], fun i hi => ?_⟩
  · simp [World.setCell, Array.getElem?_modify, hh]
  · rw [Array.getElem?_setIfInBounds]
    by_cases e : i = j
    · subst e
      rw [if_pos rfl, if_pos (by omega)]
      simp only [if_pos]
    · rw [if_neg (by omega)]
      simp only [if_neg e]
      exact h2 i hi
theorem OwnV.eq {T : TypeId} {v v' : Nat → Int} (h : OwnV w G T n n v) (he : ∀ i, i < n → v i = v' i) : OwnV w G T n n v' := by
  obtain ⟨cs, hh, h1, h2⟩ := h
  exact ⟨cs, hh, h1, fun i hi => by rw [← he i hi]; exact h2 i hi⟩
end

/-- The cube that is being made: its first i literals are signed. -/
def mixC (c : Nat → Int) (n k i i' : Nat) : Int := if i' < i then (cbL c n k).x i' else c i'
theorem wrap_pow {n M : Nat} (hn : n ≤ 4) (hM : 2 ^ n = M) : wrap64 ((2 : Int) ^ n) = (M : Int) ∧ M ≤ 16 ∧ 1 ≤ M := by
  have h : (2 : Int) ^ n = (M : Int) ∧ M ≤ 16 ∧ 1 ≤ M := by
    subst hM
    have : n = 0 ∨ n = 1 ∨ n = 2 ∨ n = 3 ∨ n = 4 := by omega
    rcases this with rfl | rfl | rfl | rfl | rfl <;> exact ⟨by decide, by decide, by decide⟩
  refine ⟨?_, h.2⟩
  rw [h.1]
  exact IntWalk.i64_left _ ▸ IntWalk.i64_in _ (by omega)
theorem bits_all : ∀ (n : Fin 5) (k : Fin 16) (j : Fin 4), (bits .and .i64 (((k.val : Nat) : Int) / 2 ^ (n.val - 1 - j.val)) 1 == 1) = bitN n.val k.val j.val := by decide +kernel
theorem bits_at {n k j : Nat} (hn : n ≤ 4) (hk : k < 16) (hj : j < n) : (bits .and .i64 ((k : Int) / 2 ^ (n - 1 - j)) 1 == 1) = bitN n k j := bits_all ⟨n, by omega⟩ ⟨k, hk⟩ ⟨j, by omega⟩
theorem mix_at (c : Nat → Int) (n k j : Nat) : mixC c n k j j = c j := if_neg (by omega)
theorem mix_yes {c : Nat → Int} {n k j : Nat} (h : bitN n k j = true) (i : Nat) : (if i = j then -(c j) else mixC c n k j i) = mixC c n k (j + 1) i := by
  unfold mixC
  by_cases e : i = j
  · subst e
    rw [if_pos rfl, if_pos (by omega)]
    show -(c i) = if bitN n k i = true then -(c i) else c i
    rw [if_pos h]
  · rw [if_neg e]
    by_cases e2 : i < j
    · rw [if_pos e2, if_pos (by omega)]
    · rw [if_neg e2, if_neg (by omega)]
theorem mix_no {c : Nat → Int} {n k j : Nat} (h : bitN n k j = false) (i : Nat) : mixC c n k j i = mixC c n k (j + 1) i := by
  unfold mixC
  by_cases e : i = j
  · subst e
    rw [if_neg (by omega), if_pos (by omega)]
    show c i = if bitN n k i = true then -(c i) else c i
    rw [if_neg (by rw [h]; exact Bool.false_ne_true)]
  · by_cases e2 : i < j
    · rw [if_pos e2, if_pos (by omega)]
    · rw [if_neg e2, if_neg (by omega)]
theorem mix_end {c : Nat → Int} {n k : Nat} (i : Nat) (h : i < n) : mixC c n k n i = (cbL c n k).x i := if_pos h

set_option linter.unusedVariables false in
set_option maxRecDepth 100000 in
set_option maxHeartbeats 3200000 in
theorem cubesOf_any (A : Option Addr) (n cap : Nat) (c : Nat → Int) (w : World) (hn : n ≤ 4) (hc : ∀ i, i < n → 1 ≤ c i ∧ c i ≤ 12) (hr : RdI w w.heap.size A n c) :
    Calls Try.prog 47 #[.slice A n cap] w fun e w' => ∃ A' cap', e = .returned (.slice A' (2 ^ n) cap') ∧ FrL w' w.heap.size A' (2 ^ n) (cbL c n) ∧ Below w.heap.size w w' := by
  obtain ⟨M, hM⟩ : ∃ M, 2 ^ n = M := ⟨_, rfl⟩
  obtain ⟨hwM, hM16, hM1⟩ := wrap_pow hn hM
  have HM := Lib.hid hM
  have HC := Lib.hid hc
  have HR := Lib.hid hr
  rw [hM]
  obtain ⟨i0, hi, hz0, hz1, hz2⟩ := info_parts Try.infoIS
  have hmk := fun W => run_make (P := Try.prog) W 29 22 i0 _ Try.underlying29 hi hz0 .i64 .i64 (M : Int) M (by omega) (by omega) (by rw [hz2]; omega) (by omega)
  rw [hz1] at hmk
  clear hi hz0 hz1 hz2 hM hc hr
  go_enter Try.func47, Try.ntmps47
  go_wp2
  clear hmk hwM
  go_loopw [13] (fun i wr => ∃ (k hi : Nat) (f : Nat → Nat), k ≤ M ∧ i = .int .i64 k ∧ HalfL wr w.heap.size hi w.heap.size M k (cbL c n) f ∧ w.heap.size ≤ hi ∧ hi ≤ wr.heap.size ∧ Below w.heap.size w wr) (fun i _ => M - (intOf i).toNat)
  case atStart => exact ⟨0, w.heap.size, fun _ => 0, Nat.zero_le _, rfl, ⟨⟨_, heap_alloc_new _ _, by simp [size_madeCells], fun i hi => by omega⟩, Nat.le_refl _, fun i j hi => by omega⟩, Nat.le_refl _, by simp, bl_alloc (Below.refl _ _) _⟩
  case round =>
    obtain ⟨k, hi, f, hk, rfl, hg, h1, h2, hb⟩ := hrel
    have HG := Lib.hid hg
    have HB := Lib.hid hb
    clear hg hb
    by_cases hlt : k < M
    · go_wp2_with fail
      refine (cloneJ_any A n cap c _ (by omega) (HR.out.later HB.out)).mono ?_
      rintro e w1 ⟨A1, cap1, rfl, hF, hb1⟩
      have HF1 := Lib.hid hF
      have HB1 := Lib.hid hb1
      clear hF hb1
      go_wp2
      go_loopw [20] (fun i wq => ∃ j : Nat, j ≤ n ∧ i = .int .i64 j ∧ FrI wq wr.heap.size 3 A1 n (mixC c n k j) ∧ Below wr.heap.size wr wq) (fun i _ => n - (intOf i).toNat)
      case atStart => exact ⟨0, Nat.zero_le _, rfl, HF1.out, HB1.out⟩
      case round =>
        obtain ⟨j, hj, rfl, hF, hb⟩ := hrel
        have HF := Lib.hid hF
        have HBq := Lib.hid hb
        clear hF hb HF1 HB1
        by_cases hlj : j < n
        · rcases HF.out with h0 | ⟨G, rfl, hG, hv⟩
          · exact absurd h0 (by omega)
          have hbit := bits_at (k := k) hn (by omega) hlj
          obtain ⟨cs, hh, hs, he⟩ := hv
          have hcell : wr.cell? ⟨G, j, none⟩ = some (.int .i64 (c j)) := (cell_of_row wr G _ cs _ _ hh).trans ((he j hlj).trans (by rw [mix_at]))
          have hfz : wr.frozen? ⟨G, j, none⟩ = false := by simp [World.frozen?, hh]
          have HV := Lib.hid (show OwnV wr G 3 n n (mixC c n k j) from ⟨cs, hh, hs, he⟩)
          have hcj := HC.out j hlj
          have hlI : (j : Int) < (n : Int) := by omega
          have hj0 : (0 : Int) ≤ (j : Int) := by omega
          clear hh hs he
          cases hq : bitN n k j with
          | true =>
            have HX := Lib.hid (mix_yes (c := c) hq)
            rw [hq] at hbit
            clear hq
            have HN := Lib.hid ((HV.out.set (z := -(c j)) hlj).eq fun i _ => HX.out i)
            have HBn := Lib.hid (HBq.out.setCell (p := ⟨G, j, none⟩) hG (.int .i64 (-(c j))))
            have hw1 : wrap64 (-(c j)) = -(c j) := IntWalk.i64_left _ ▸ IntWalk.i64_in _ (by omega)
            have hw2 : IntKind.i64.wrap (-(c j)) = -(c j) := IntWalk.i64_in _ (by omega)
            clear hcj
            go_wp2
            go_roundw
            case rel => exact ⟨j + 1, by omega, by go_num, .inr ⟨G, rfl, hG, HN.out⟩, HBn.out⟩
            case measure => simp [intOf]; omega
          | false =>
            have HX := Lib.hid (mix_no (c := c) hq)
            rw [hq] at hbit
            clear hq
            have HN := Lib.hid (HV.out.eq fun i _ => HX.out i)
            clear hcell hfz hcj
            go_wp2
            go_roundw
            case rel => exact ⟨j + 1, by omega, by go_num, .inr ⟨G, rfl, hG, HN.out⟩, HBq.out⟩
            case measure => simp [intOf]; omega
        · obtain rfl : j = n := by omega
          have HE := Lib.hid (show FrI wr _ 3 A1 (cbL c j k).n (cbL c j k).x from by
            rcases HF.out with h0 | ⟨G, e, hG, hv⟩
            · exact .inl h0
            · exact .inr ⟨G, e, hG, hv.eq fun i hi => mix_end i hi⟩)
          obtain ⟨⟨u, hu⟩, hfz⟩ := HG.out.open HBq.out hlt
          obtain ⟨f', hn'⟩ := HG.out.next (ci := cap1) HBq.out hlt h1 h2 HE.out
          have HN := Lib.hid hn'
          have HB2 := Lib.hid (bl_trans HB.out HBq.out)
          have HB3 := Lib.hid (HB2.out.setCell (p := ⟨w.heap.size, k, none⟩) (Nat.le_refl _) (.slice A1 j cap1))
          have hsz := HB2.out.size
          clear HF HE HG HB HBq hn'
          go_wp2
          go_roundw
          case rel => exact ⟨k + 1, _, f', by omega, by go_num, HN.out, hsz, by simp [World.setCell], HB3.out⟩
          case measure => simp [intOf]; omega
    · obtain rfl : k = M := by omega
      have HFn := Lib.hid HG.out.fin
      clear HG
      go_wp2
      go_ret
      exact ⟨_, _, rfl, HFn.out, HB.out⟩
end Go.Proofs.Ytjfcgehmeecnfaa
