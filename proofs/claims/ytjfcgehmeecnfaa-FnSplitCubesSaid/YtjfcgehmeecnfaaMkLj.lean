/- Lists of ints that a call has made: marked, asked (no claim of its own). Conditions: as each theorem states. -/
import Derived.Test.YtjfcgehmeecnfaaMdlA
import Derived.Test.YtjfcgehmeecnfaaMrkR
import Derived.Test.YtjfcgehmeecnfaaOnlS
namespace Go.Proofs.Ytjfcgehmeecnfaa
open Go.ChangeShapes Go.WideShapes Go.ChangeAt Go.RowKit

/-- Lists of ints that a call has made: their heads lie in the block that A names, list i in block f i; those that are not empty differ. -/
structure OwnLi (w : World) (A : Option Addr) (n : Nat) (r : Nat → Lst) (f : Nat → Nat) : Prop where
  row : n = 0 ∨ ∃ G cs, A = some ⟨G, 0, none⟩ ∧ w.heap[G]? = some (.cells cs 22 (0, 0)) ∧ ∀ i, i < n → ∃ Ai ci, cs[i]? = some (.slice Ai (r i).n ci) ∧ ((r i).n = 0 ∨ Ai = some ⟨f i, 0, none⟩)
  els : ∀ i, i < n → (r i).n = 0 ∨ OwnV w (f i) 3 (r i).n (r i).n (r i).x
  inj : ∀ i j, i < n → j < n → (r i).n ≠ 0 → (r j).n ≠ 0 → i ≠ j → f i ≠ f j
/-- In which blocks the lists lie that are not empty. -/
def SL (n : Nat) (r : Nat → Lst) (f : Nat → Nat) (b : Nat) : Prop := ∃ i, i < n ∧ (r i).n ≠ 0 ∧ f i = b
section
variable {w w' : World} {A Ai : Option Addr} {n ci : Nat} {r r' : Nat → Lst} {f : Nat → Nat}
theorem OwnV.room {G n k : Nat} {T : TypeId} {v : Nat → Int} (h : OwnV w G T n k v) : ∃ cs, w.heap[G]? = some (.cells cs T (0, 0)) := by
  obtain ⟨cs, h1, _⟩ := h
  exact ⟨cs, h1⟩
theorem OwnLi.keep (h : OwnLi w A n r f) (hG : n ≠ 0 → ∀ a, A = some a → w'.heap[a.block]? = w.heap[a.block]?) (hf : ∀ b, SL n r f b → w'.heap[b]? = w.heap[b]?) : OwnLi w' A n r f := by
  obtain ⟨hr, he, hi⟩ := h
  refine ⟨?_, fun i h0 => ?_, hi⟩
  · by_cases e : n = 0
    · exact .inl e
    · rcases hr with hr | ⟨G, cs, rfl, h1, h2⟩
      · exact .inl hr
      · exact .inr ⟨G, cs, rfl, (hG e _ rfl).trans h1, h2⟩
  · rcases he i h0 with h1 | h1
    · exact .inl h1
    · by_cases e : (r i).n = 0
      · exact .inl e
      · exact .inr (h1.at_ (hf _ ⟨i, h0, e, rfl⟩))
theorem OwnLi.onlyS {S : Nat → Prop} (h : OwnLi w A n r f) (ho : OnlyS S w w') (hG : n ≠ 0 → ∀ a, A = some a → ¬ S a.block) (hf : ∀ b, SL n r f b → ¬ S b) : OwnLi w' A n r f := by
  refine h.keep (fun e a ha => ho.block _ ?_ (hG e a ha)) (fun b hb => ho.block _ ?_ (hf b hb))
  · rcases h.row with hr | ⟨G, cs, rfl, h1, _⟩
    · exact absurd hr e
    · cases ha
      rcases Nat.lt_or_ge G w.heap.size with hlt | hge
      · exact hlt
      · rw [Array.getElem?_eq_none hge] at h1; cases h1
  · obtain ⟨i, h0, h1, rfl⟩ := hb
    rcases h.els i h0 with e | e
    · exact absurd e h1
    · exact e.lt
theorem OwnLi.below (h : OwnLi w A n r f) (hb : Below w.heap.size w w') : OwnLi w' A n r f :=
  h.onlyS (S := fun _ => False) ⟨hb.os, hb.tape, hb.output, hb.size, fun k hk _ => hb.block k hk⟩ (fun _ _ _ h => h) (fun _ _ h => h)
theorem OwnLi.cell (h : OwnLi w A n r f) {i : Nat} (hi : i < n) : ∃ G Ai ci, A = some ⟨G, 0, none⟩ ∧ w.cell? ⟨G, i, none⟩ = some (.slice Ai (r i).n ci) ∧ ((r i).n = 0 ∨ Ai = some ⟨f i, 0, none⟩) ∧ FrI w 0 3 Ai (r i).n (r i).x := by
  rcases h.row with e | ⟨G, cs, rfl, h1, h2⟩
  · omega
  · obtain ⟨Ai, ci, a, b⟩ := h2 i hi
    refine ⟨G, Ai, ci, rfl, (cell_of_row w G _ cs _ _ h1).trans a, b, ?_⟩
    rcases b with e | e
    · exact .inl e
    · rcases h.els i hi with k | k
      · exact .inl k
      · exact .inr ⟨_, e, Nat.zero_le _, k⟩
theorem OwnLi.rd (h : OwnLi w A n r f) : RdL w w.heap.size A n r := fun h0 => by
  rcases h.row with e | ⟨G, cs, rfl, h1, h2⟩
  · omega
  · refine ⟨G, 0, rfl, ?_, fun i hi => ?_⟩
    · rcases Nat.lt_or_ge G w.heap.size with hlt | hge
      · exact hlt
      · rw [Array.getElem?_eq_none hge] at h1; cases h1
    · obtain ⟨G', Ai, ci, e, hc, _, hf⟩ := h.cell hi
      cases e
      rw [Nat.zero_add]
      exact ⟨Ai, ci, hc, hf.rdAt⟩
/-- One of the lists is laid anew. -/
theorem OwnLi.put (h : OwnLi w A n r f) {j : Nat} (hj : j < n) (hA : (r j).n = 0 ∨ Ai = some ⟨f j, 0, none⟩) (ho : Only w w' Ai (r j).n) (hv : FrI w' 0 3 Ai (r j).n (r' j).x) (hn : (r' j).n = (r j).n) (he : ∀ i, i < n → i ≠ j → r' i = r i) : OwnLi w' A n r' f := by
  have hne : ∀ b, b < w.heap.size → ((r j).n = 0 ∨ b ≠ f j) → w'.heap[b]? = w.heap[b]? := fun b hl hb => ho.block b hl (by
    rcases hb with e | e
    · exact .inl e
    · rcases hA with k | k
      · exact .inl k
      · exact .inr fun a ha hh => by rw [k] at ha; cases ha; exact e hh)
  have hnn : ∀ i, i < n → (r' i).n = (r i).n := fun i hi => by
    by_cases e : i = j
    · rw [e]; exact hn
    · rw [he i hi e]
  refine ⟨?_, fun i hi => ?_, fun i k hi hk h1 h2 => h.inj i k hi hk (by rw [← hnn i hi]; exact h1) (by rw [← hnn k hk]; exact h2)⟩
  · rcases h.row with e | ⟨G, cs, rfl, h1, h2⟩
    · exact .inl e
    · refine .inr ⟨G, cs, rfl, (hne G ?_ ?_).trans h1, fun i hi => ?_⟩
      · rcases Nat.lt_or_ge G w.heap.size with hlt | hge
        · exact hlt
        · rw [Array.getElem?_eq_none hge] at h1; cases h1
      · rcases h.els j hj with e | e
        · exact .inl e
        · refine .inr fun eG => ?_
          obtain ⟨cs', h3⟩ := e.room
          rw [← eG, h1] at h3
          injection h3 with h3
          injection h3 with _ h4 _
          exact absurd h4 (by decide)
      · rw [hnn i hi]; exact h2 i hi
  · by_cases e : i = j
    · subst e
      rw [hn]
      rcases hv with k | ⟨G, e1, _, k⟩
      · exact .inl k
      · rcases hA with z | z
        · exact .inl z
        · rw [z] at e1
          cases e1
          exact .inr k
    · rw [he i hi e]
      rcases h.els i hi with k | k
      · exact .inl k
      · by_cases z : (r i).n = 0
        · exact .inl z
        · refine .inr (k.at_ (hne _ k.lt ?_))
          by_cases z' : (r j).n = 0
          · exact .inl z'
          · exact .inr (h.inj i j hi hj z z' e)
end

/-- The lists that the marking lays: the first j of them. -/
def mkW (k : Int) (r : Nat → Lst) (j i : Nat) : Lst := if i < j then ⟨(r i).n, mkI (k + totL r i)⟩ else r i
theorem mkW_n (k : Int) (r : Nat → Lst) (j i : Nat) : (mkW k r j i).n = (r i).n := by unfold mkW; split <;> rfl
theorem mkW_zero (k : Int) (r : Nat → Lst) : mkW k r 0 = r := funext fun i => if_neg (by omega)
theorem mkW_at (k : Int) (r : Nat → Lst) (j : Nat) : mkW k r j j = r j := if_neg (by omega)
theorem mkW_x (k : Int) (r : Nat → Lst) {j n : Nat} (h : j < n) : (mkW k r n j).x = mkI (k + totL r j) := by unfold mkW; rw [if_pos h]
theorem mkW_next (k : Int) (r : Nat → Lst) {j i : Nat} (h : i ≠ j) : mkW k r (j + 1) i = mkW k r j i := by
  unfold mkW
  by_cases e : i < j
  · rw [if_pos (by omega), if_pos e]
  · rw [if_neg (by omega), if_neg e]
theorem SL.mk_ {k : Int} {r : Nat → Lst} {f : Nat → Nat} {n m j b : Nat} (h : SL n (mkW k r j) f b) (hm : n ≤ m) : SL m r f b := by
  obtain ⟨i, h1, h2, h3⟩ := h
  exact ⟨i, by omega, by rw [← mkW_n k r j i]; exact h2, h3⟩
theorem add3 (k : Int) (r : Nat → Lst) (j : Nat) : Value.int .i64 (k + (totL r j : Int) + ((r j).n : Int)) = .int .i64 (k + ((totL r (j + 1) : Nat) : Int)) := by
  congr 1
  show _ = k + ((totL r j + (r j).n : Nat) : Int)
  omega

set_option maxRecDepth 100000 in
set_option maxHeartbeats 1600000 in
theorem markIntSS_li (A : Option Addr) (n cap : Nat) (r : Nat → Lst) (f : Nat → Nat) (k : Int) (w : World) (hn : n + totL r n ≤ 1048576) (hk0 : 0 ≤ k) (hk1 : k ≤ 8388608) (ho : OwnLi w A n r f) :
    Calls Try.prog 20 #[.slice A n cap, .int .i64 k] w fun e w' => e = .returned (.int .i64 (k + totL r n)) ∧ OwnLi w' A n (mkW k r n) f ∧ OnlyS (SL n r f) w w' := by
  have hz := Lib.hid ho
  clear ho
  go_enter Try.func20, Try.ntmps20
  go_wp2
  go_loopw [1, 5] (fun t i wr => ∃ j : Nat, j ≤ n ∧ i = .int .i64 j ∧ t = .int .i64 (k + totL r j) ∧ OwnLi wr A n (mkW k r j) f ∧ OnlyS (SL n r f) w wr) (fun _ i _ => n - (intOf i).toNat)
  case atStart => exact ⟨0, Nat.zero_le _, rfl, by simp [totL], by rw [mkW_zero]; exact hz.out, OnlyS.refl _ _⟩
  case round =>
    obtain ⟨j, hj, rfl, rfl, hown, hon⟩ := hrel
    have Hon := Lib.hid hon
    have HO := Lib.hid hown
    by_cases hlt : j < n
    · have ht := totL_at r hlt
      obtain ⟨G, Ai, ci, rfl, hx1, ha, hf⟩ := hown.cell hlt
      rw [mkW_at] at hx1 ha hf
      have HA := Lib.hid ha
      have HF := Lib.hid hf
      have hlt' : (j : Int) < (n : Int) := by omega
      have hj0 : (0 : Int) ≤ (j : Int) := by omega
      clear hown hon ha hf
      go_wp2_with fail
      refine (markIntS_any _ _ _ 0 _ _ _ (by omega) (by omega) (by omega) HF.out).mono ?_
      rintro e w1 ⟨rfl, h1, h2⟩
      have H1 := Lib.hid (HO.out.put (r' := mkW k r (j + 1)) hlt (by rw [mkW_n]; exact HA.out) (by rw [mkW_n]; exact h2) (by rw [mkW_n, mkW_x k r (Nat.lt_succ_self j)]; exact h1) (by rw [mkW_n, mkW_n]) (fun i hi0 hne => mkW_next k r hne))
      have H2 := Lib.hid (Hon.out.trans (h2.toS (S := SL n r f) fun hz a e => ⟨j, hlt, hz, by
        rcases HA.out with y | y
        · exact absurd y hz
        · rw [y] at e; cases e; rfl⟩))
      have HN := Lib.hid (add3 k r j)
      clear h1 h2 hx1 HF HA HO Hon
      go_wp2
      go_roundw
      case rel => exact ⟨j + 1, by omega, by go_num, HN.out, H1.out, H2.out⟩
      case measure => simp [intOf]; omega
    · have e : j = n := by omega
      subst e
      go_wp2
      go_ret
      exact ⟨rfl, HO.out, Hon.out⟩

set_option maxRecDepth 100000 in
set_option maxHeartbeats 1600000 in
theorem heldIntSS_li (A : Option Addr) (n cap : Nat) (r : Nat → Lst) (f : Nat → Nat) (k : Int) (w : World) (hn : n + totL r n ≤ 1048576) (hk0 : 0 ≤ k) (hk1 : k ≤ 8388608) (ho : OwnLi w A n (mkW k r n) f) :
    Calls Try.prog 21 #[.slice A n cap, .int .i64 k] w fun e w' => e = .returned (.int .i64 (k + totL r n)) ∧ w = w' := by
  have hz := Lib.hid ho
  clear ho
  go_enter Try.func21, Try.ntmps21
  go_wp2
  go_loop [1, 5] (fun t i => ∃ j : Nat, j ≤ n ∧ i = .int .i64 j ∧ t = .int .i64 (k + totL r j)) (fun _ i => n - (intOf i).toNat)
  case atStart => exact ⟨0, Nat.zero_le _, rfl, by simp [totL]⟩
  case round =>
    obtain ⟨j, hj, rfl, rfl⟩ := hrel
    by_cases hlt : j < n
    · have ht := totL_at r hlt
      obtain ⟨G, Ai, ci, rfl, hx1, _, hf⟩ := hz.out.cell hlt
      rw [mkW_x k r hlt, mkW_n] at hf
      rw [mkW_n] at hx1
      have HF := Lib.hid hf
      have hlt' : (j : Int) < (n : Int) := by omega
      have hj0 : (0 : Int) ≤ (j : Int) := by omega
      clear hf
      have hpos : ¬ (k + (totL r j : Int) + ((r j).n : Int) < 0) := by omega
      have HN := Lib.hid (add3 k r j)
      go_wp2_with fail
      refine (heldIntS_any _ _ _ 0 _ _ (by omega) (by omega) (by omega) HF.out).mono ?_
      rintro e w1 ⟨rfl, rfl⟩
      clear hx1 HF
      go_wp2
      go_round
      case rel => exact ⟨j + 1, by omega, by go_num, HN.out⟩
      case measure => simp [intOf]; omega
    · have e : j = n := by omega
      subst e
      go_wp2
      go_ret
      exact ⟨rfl, rfl⟩
end Go.Proofs.Ytjfcgehmeecnfaa
