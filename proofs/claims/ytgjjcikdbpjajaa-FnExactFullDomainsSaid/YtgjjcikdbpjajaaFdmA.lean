/- Rows of rows of Booleans that a call makes: marked, asked (no claim of its own). Conditions: as each theorem states. -/
import Derived.Test.YtgjjcikdbpjajaaMdlF
import Derived.Test.YtgjjcikdbpjajaaLwtA
namespace Go.Proofs.Ytgjjcikdbpjajaa
open Go.ChangeShapes Go.WideShapes Go.ChangeAt Go.RowKit

/-- A row of rows of Booleans that a call has made: the row lies in block G, row i in block f i; all of these lie in a range and differ. -/
structure OwnLs (w : World) (lo hi G n : Nat) (r : Nat → LsB) (f : Nat → Nat) : Prop where
  g1 : lo ≤ G
  g2 : G < hi
  row : ∃ cs : Array Value, w.heap[G]? = some (.cells cs 63 (0, 0)) ∧ ∀ i, i < n → ∃ ci, cs[i]? = some (.slice (some ⟨f i, 0, none⟩) (r i).n ci)
  els : ∀ i, i < n → lo ≤ f i ∧ f i < hi ∧ f i ≠ G ∧ OwnVb w (f i) 4 (r i).n (r i).n (r i).x
  inj : ∀ i j, i < n → j < n → i ≠ j → f i ≠ f j
section
variable {w w' : World} {lo hi lo' hi' G n : Nat} {r r' : Nat → LsB} {f : Nat → Nat}
theorem OwnLs.keep (h : OwnLs w lo hi G n r f) (hk : ∀ b, lo ≤ b → b < hi → b < w.heap.size → w'.heap[b]? = w.heap[b]?) : OwnLs w' lo hi G n r f := by
  obtain ⟨g1, g2, ⟨cs, hh, hc⟩, he, hi'⟩ := h
  have hG : G < w.heap.size := by
    rcases Nat.lt_or_ge G w.heap.size with hlt | hge
    · exact hlt
    · rw [Array.getElem?_eq_none hge] at hh; cases hh
  refine ⟨g1, g2, ⟨cs, (hk G g1 g2 hG).trans hh, hc⟩, fun i hi0 => ?_, hi'⟩
  obtain ⟨a, b, c, d⟩ := he i hi0
  exact ⟨a, b, c, d.at_ (hk _ a b d.lt)⟩
theorem OwnLs.below (h : OwnLs w lo hi G n r f) (hb : Below w.heap.size w w') : OwnLs w' lo hi G n r f := h.keep fun b _ _ hl => hb.block b hl
theorem OwnLs.onlyR (h : OwnLs w lo hi G n r f) (ho : OnlyR lo' hi' w w') (hd : hi ≤ lo' ∨ hi' ≤ lo) : OwnLs w' lo hi G n r f := h.keep fun b h1 h2 hl => ho.block b hl (by omega)
theorem OwnLs.cell (h : OwnLs w lo hi G n r f) {i : Nat} (hi : i < n) : ∃ ci, w.cell? ⟨G, i, none⟩ = some (.slice (some ⟨f i, 0, none⟩) (r i).n ci) := by
  obtain ⟨cs, hh, hc⟩ := h.row
  obtain ⟨ci, e⟩ := hc i hi
  exact ⟨ci, (cell_of_row w G _ cs _ _ hh).trans e⟩
theorem OwnLs.rd (h : OwnLs w lo hi G n r f) : RdLB w w.heap.size (some ⟨G, 0, none⟩) n r := fun _ => by
  obtain ⟨cs, hh, hc⟩ := h.row
  refine ⟨G, 0, rfl, ?_, fun i hi => ?_⟩
  · rcases Nat.lt_or_ge G w.heap.size with hlt | hge
    · exact hlt
    · rw [Array.getElem?_eq_none hge] at hh; cases hh
  · obtain ⟨ci, e⟩ := h.cell hi
    rw [Nat.zero_add]
    exact ⟨_, ci, e, (h.els i hi).2.2.2.rdAt⟩
/-- One of its rows is laid anew. -/
theorem OwnLs.put (h : OwnLs w lo hi G n r f) {j : Nat} (hj : j < n) (ho : Only w w' (some ⟨f j, 0, none⟩) (r j).n) (hn : (r' j).n = (r j).n) (hv : OwnVb w' (f j) 4 (r j).n (r j).n (r' j).x) (he : ∀ i, i < n → i ≠ j → r' i = r i) : OwnLs w' lo hi G n r' f := by
  obtain ⟨g1, g2, ⟨cs, hh, hc⟩, hel, hi'⟩ := h
  have hne : ∀ k, k ≠ f j → k < w.heap.size → w'.heap[k]? = w.heap[k]? := fun k hk hl => ho.block k hl (.inr fun a ha => by cases ha; exact hk)
  have hG : G < w.heap.size := by
    rcases Nat.lt_or_ge G w.heap.size with hlt | hge
    · exact hlt
    · rw [Array.getElem?_eq_none hge] at hh; cases hh
  refine ⟨g1, g2, ⟨cs, (hne G (fun e => (hel j hj).2.2.1 e.symm) hG).trans hh, fun i hi0 => ?_⟩, fun i hi0 => ?_, hi'⟩
  · obtain ⟨ci, e⟩ := hc i hi0
    by_cases ei : i = j
    · subst ei; rw [hn]; exact ⟨ci, e⟩
    · rw [he i hi0 ei]; exact ⟨ci, e⟩
  · obtain ⟨a, b, c, d⟩ := hel i hi0
    by_cases ei : i = j
    · subst ei; rw [hn]; exact ⟨a, b, c, hv⟩
    · rw [he i hi0 ei]
      exact ⟨a, b, c, d.at_ (hne _ (hi' i j hi0 hj ei) d.lt)⟩
end

/-- The rows that the marking lays: the first j of them. -/
def mkLs (k : Int) (r : Nat → LsB) (j i : Nat) : LsB := if i < j then ⟨(r i).n, mkBl (k + totB r i)⟩ else r i
theorem mkLs_n (k : Int) (r : Nat → LsB) (j i : Nat) : (mkLs k r j i).n = (r i).n := by unfold mkLs; split <;> rfl

set_option maxRecDepth 100000 in
set_option maxHeartbeats 1600000 in
theorem markBoolSS_any (lo hi G n cap : Nat) (r : Nat → LsB) (f : Nat → Nat) (k : Int) (w : World) (hn : n + totB r n ≤ 1048576) (hk0 : 0 ≤ k) (hk1 : k ≤ 1000) (ho : OwnLs w lo hi G n r f) :
    Calls Try.prog 26 #[.slice (some ⟨G, 0, none⟩) n cap, .int .i64 k] w fun e w' => e = .returned (.int .i64 (k + totB r n)) ∧ OwnLs w' lo hi G n (mkLs k r n) f ∧ OnlyR lo hi w w' := by
  have hz := Lib.hid ho
  clear ho
  go_enter Try.func26, Try.ntmps26
  go_wp2
  go_loopw [1, 5] (fun t i wr => ∃ j : Nat, j ≤ n ∧ i = .int .i64 j ∧ t = .int .i64 (k + totB r j) ∧ OwnLs wr lo hi G n (mkLs k r j) f ∧ OnlyR lo hi w wr) (fun _ i _ => n - (intOf i).toNat)
  case atStart => exact ⟨0, Nat.zero_le _, rfl, by simp [totB], by have e : mkLs k r 0 = r := funext fun i => if_neg (by omega)
                                                                   rw [e]; exact hz.out, OnlyR.refl _ _ _⟩
  case round =>
    obtain ⟨j, hj, rfl, rfl, hown, hon⟩ := hrel
    have Hon := Lib.hid hon
    have HO := Lib.hid hown
    by_cases hlt : j < n
    · have ht := totB_at r hlt
      obtain ⟨ci, hx1⟩ := hown.cell hlt
      obtain ⟨e1, e2, e3, e4⟩ := hown.els j hlt
      have ej : mkLs k r j j = r j := if_neg (by omega)
      rw [ej] at hx1 e4
      have HE := Lib.hid e4
      have hlt' : (j : Int) < (n : Int) := by omega
      have hj0 : (0 : Int) ≤ (j : Int) := by omega
      clear hown hon e4
      go_wp2_with fail
      refine (markBoolS_own (f j) (r j).n _ _ _ _ (by omega) (by omega) (by omega) HE.out).mono ?_
      rintro e w1 ⟨rfl, h1, h2⟩
      have H1 := Lib.hid (HO.out.put (r' := mkLs k r (j + 1)) hlt (by rw [ej]; exact h2) (by rw [mkLs_n, mkLs_n]) (by rw [ej]; show OwnVb _ _ _ _ _ (mkLs k r (j + 1) j).x; unfold mkLs; rw [if_pos (by omega)]; exact h1) (fun i hi0 hne => by unfold mkLs; by_cases e : i < j; rw [if_pos (by omega), if_pos e]; rw [if_neg (by omega), if_neg e]))
      have H2 := Lib.hid (Hon.out.trans (h2.range e1 e2))
      have HN := Lib.hid (show Value.int .i64 (k + (totB r j : Int) + ((r j).n : Int)) = .int .i64 (k + ((totB r (j + 1) : Nat) : Int)) from by
        congr 1
        show _ = k + ((totB r j + (r j).n : Nat) : Int)
        omega)
      clear h1 h2 hx1 HE HO Hon
      go_wp2
      go_roundw
      case rel => exact ⟨j + 1, by omega, by go_num, HN.out, H1.out, H2.out⟩
      case measure => simp [intOf]; omega
    · have e : j = n := by omega
      subst e
      go_wp2
      go_ret
      exact ⟨rfl, hown, hon⟩

set_option maxRecDepth 100000 in
set_option maxHeartbeats 1600000 in
theorem heldBoolSS_any (lo hi G n cap : Nat) (r : Nat → LsB) (f : Nat → Nat) (k : Int) (w : World) (hn : n + totB r n ≤ 1048576) (hk0 : 0 ≤ k) (hk1 : k ≤ 1000) (ho : OwnLs w lo hi G n (mkLs k r n) f) :
    Calls Try.prog 27 #[.slice (some ⟨G, 0, none⟩) n cap, .int .i64 k] w fun e w' => e = .returned (.int .i64 (k + totB r n)) ∧ w = w' := by
  have hz := Lib.hid ho
  clear ho
  go_enter Try.func27, Try.ntmps27
  go_wp2
  go_loop [1, 5] (fun t i => ∃ j : Nat, j ≤ n ∧ i = .int .i64 j ∧ t = .int .i64 (k + totB r j)) (fun _ i => n - (intOf i).toNat)
  case atStart => exact ⟨0, Nat.zero_le _, rfl, by simp [totB]⟩
  case round =>
    obtain ⟨j, hj, rfl, rfl⟩ := hrel
    by_cases hlt : j < n
    · have ht := totB_at r hlt
      obtain ⟨ci, hx1⟩ := hz.out.cell hlt
      have e4 := (hz.out.els j hlt).2.2.2
      have ej : mkLs k r n j = ⟨(r j).n, mkBl (k + totB r j)⟩ := if_pos hlt
      rw [ej] at hx1 e4
      simp only at hx1 e4
      have HE := Lib.hid e4
      have hlt' : (j : Int) < (n : Int) := by omega
      have hj0 : (0 : Int) ≤ (j : Int) := by omega
      clear e4
      have hpos : ¬ (k + (totB r j : Int) + ((r j).n : Int) < 0) := by omega
      have HN := Lib.hid (show Value.int .i64 (k + (totB r j : Int) + ((r j).n : Int)) = .int .i64 (k + ((totB r (j + 1) : Nat) : Int)) from by
        congr 1
        show _ = k + ((totB r j + (r j).n : Nat) : Int)
        omega)
      go_wp2_with fail
      refine (heldBoolS_any (T := 4) _ (r j).n _ lo _ _ (by omega) (by omega) (by omega) (.inr ⟨f j, rfl, (hz.out.els j hlt).1, HE.out⟩)).mono ?_
      rintro e w1 ⟨rfl, rfl⟩
      clear hx1 HE
      go_wp2
      go_round
      case rel => exact ⟨j + 1, by omega, by go_num, HN.out⟩
      case measure => simp [intOf]; omega
    · have e : j = n := by omega
      subst e
      go_wp2
      go_ret
      exact ⟨rfl, rfl⟩
end Go.Proofs.Ytgjjcikdbpjajaa
