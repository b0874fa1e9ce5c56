/- Making a literal true keeps the slacks (no claim of its own). Conditions: as each theorem states. -/
import Derived.Test.YtooknldfkcdneaaPsK
namespace Go.Proofs.Ytooknldfkcdneaa
open Go.ChangeShapes Go.WideShapes Go.ChangeAt Go.RowKit Go.Shelf

theorem sumU_usT (j : Nat) (c l : Nat → Int) (n k i : Nat) : sumU (usT j c l n k) i = if j = i then cof c l ((k : Int) - 12) n else 0 := by
  induction n with
  | zero => unfold usT cof; split <;> rfl
  | succ n ih =>
    unfold usT cof
    rw [sumU_append, ih]
    by_cases h : 12 + l n = (k : Int)
    · rw [if_pos h, if_pos (show l n = (k : Int) - 12 by omega)]
      show _ + ((if j = i then c n else 0) + 0) = _
      split <;> omega
    · rw [if_neg h, if_neg (show ¬ l n = (k : Int) - 12 by omega)]
      show _ + 0 = _
      split <;> omega
theorem sumU_usP (p : Nat → Con) (m k i : Nat) : sumU (usP p m k) i = if i < m then cof (p i).c (p i).l ((k : Int) - 12) (p i).n else 0 := by
  induction m with
  | zero => rw [if_neg (by omega)]; rfl
  | succ m ih =>
    show sumU (usP p m k ++ usT m (p m).c (p m).l (p m).n k) i = _
    rw [sumU_append, ih, sumU_usT]
    by_cases e : m = i
    · subst e
      rw [if_neg (by omega), if_pos rfl, if_pos (by omega)]
      omega
    · rw [if_neg e]
      by_cases h : i < m
      · rw [if_pos h, if_pos (by omega)]
        omega
      · rw [if_neg h, if_neg (by omega)]
        omega
theorem usT_mem {j : Nat} {c l : Nat → Int} {n k : Nat} {r : Nat × Int} (h : r ∈ usT j c l n k) : r.1 = j ∧ ∃ t, t < n ∧ r.2 = c t := by
  induction n with
  | zero => simp [usT] at h
  | succ n ih =>
    unfold usT at h
    rw [List.mem_append] at h
    rcases h with h | h
    · obtain ⟨a, t, ht, e⟩ := ih h
      exact ⟨a, t, by omega, e⟩
    · split at h
      · rw [List.mem_singleton] at h
        subst h
        exact ⟨rfl, n, by omega, rfl⟩
      · cases h
theorem usP_mem {p : Nat → Con} {m k : Nat} (hok : ∀ i, i < m → okC (p i)) {r : Nat × Int} (h : r ∈ usP p m k) : r.1 < m ∧ 0 ≤ r.2 ∧ r.2 ≤ 1000 := by
  induction m with
  | zero => cases h
  | succ m ih =>
    rcases List.mem_append.1 (show r ∈ usP p m k ++ usT m (p m).c (p m).l (p m).n k from h) with h | h
    · have := ih (fun i hi => hok i (by omega)) h
      exact ⟨by omega, this.2⟩
    · obtain ⟨a, t, ht, e⟩ := usT_mem h
      have := coef_of (hok m (by omega)) t ht
      exact ⟨by omega, by omega, by omega⟩
theorem PsAt.congr {w : World} {S B m : Nat} {v sl sl' : Nat → Int} (h : PsAt w S B v m sl) (he : ∀ i, i < m → sl i = sl' i) : PsAt w S B v m sl' := by
  obtain ⟨cs, h0, h1, h2, h3, h4⟩ := h
  exact ⟨cs, h0, h1, h2, h3, fun i hi => by rw [h4 i hi, he i hi]⟩

theorem psGo_any (S B lo m : Nat) (lv : Value) (p : Nat → Con) (uv : Nat → Value) (v : Nat → Int) (z : Int) (w : World) (hm : m ≤ 1400) (hok : ∀ i, i < m → okC (p i) ∧ (p i).n ≤ 1048576)
    (hPs : PsAt w S B v m (fun i => slkC (p i) v)) (hPg : Pg w lo B lv m m p (fun i => slkC (p i) z0) (usP p m) uv) (hB : B < S) (hl : ∀ b, lv.ownBlock = some b → b < S) (hu : ∀ j, j < 25 → ∀ b, (uv j).ownBlock = some b → b < S)
    (hz : litB z = true) (hv : stV v z = 0) :
    Calls Try.prog 72 #[.pointer (some ⟨S, 0, none⟩), .int .i64 z] w fun e w' => e = .returned (.tuple #[]) ∧ PsAt w' S B (asg v z) m (fun i => slkC (p i) (asg v z)) ∧ w.grownBy w' (some S) := by
  obtain ⟨h0, h1, h2⟩ := litB_iff.1 hz
  obtain ⟨k, hk⟩ : ∃ k : Nat, 12 - z = (k : Int) := ⟨(12 - z).toNat, by omega⟩
  have hs : ∀ i, i < m → slkC (p i) v - sumU (usP p m k) i = slkC (p i) (asg v z) := fun i hi => by
    rw [sumU_usP, if_pos hi, slk_asg (hok i hi).1 hz hv, show (k : Int) - 12 = -z by omega]
  refine (psMake_any S B lo m m k lv p _ (usP p m) uv v m _ z w hPs hPg hB hl hu hz hk (fun r hr => usP_mem (fun i hi => (hok i hi).1) hr) (by have := usP_len (fun i hi => (hok i hi).2) (m := m) (p := p) k; omega) (fun i hi => ?_) hm).mono fun e w' ⟨he, hp, hg⟩ => ⟨he, hp.congr hs, hg⟩
  rw [hs i hi]
  have a := slk_bd (v := asg v z) (show validB (p i).n (p i).c (p i).l (p i).bd = true from (hok i hi).1)
  have b := slk_bd (v := v) (show validB (p i).n (p i).c (p i).l (p i).bd = true from (hok i hi).1)
  have c := (hok i hi).2
  unfold slkC
  omega

/-- The queue behind i sends. -/
def qu (i : Nat) : Array Value := ((List.range i).map fun j => Value.int .i64 (j : Nat)).toArray
theorem qu_push (i : Nat) : (qu i).push (.int .i64 (i : Nat)) = qu (i + 1) := by simp [qu, List.range_succ]
theorem qu_size (i : Nat) : (qu i).size = i := by simp [qu]
/-- The queue from i on. -/
def rot (m i : Nat) : Array Value := ((List.range m).map fun j => Value.int .i64 (((i + j) % m : Nat) : Int)).toArray
theorem rot_size (m i : Nat) : (rot m i).size = m := by simp [rot]
theorem rot_head {m i : Nat} (h : i < m) : (rot m i).getD 0 undef = .int .i64 (i : Nat) := by
  unfold rot
  rw [Array.getD_eq_getD_getElem?]
  simp [show 0 < m by omega]
  exact Int.emod_eq_of_lt (by omega) (by omega)
theorem rot_next {m i : Nat} (h : i < m) : ((rot m i).extract 1 (rot m i).size).push (.int .i64 (i : Nat)) = rot m (nxt m i) := by
  obtain ⟨k, rfl⟩ : ∃ k, m = k + 1 := ⟨m - 1, by omega⟩
  apply Array.ext'
  rw [rot_size]
  unfold rot
  rw [Array.toList_push, Array.toList_extract]
  have h1 : (List.range (k + 1)).map (fun j => Value.int .i64 (((nxt (k + 1) i + j) % (k + 1) : Nat) : Int)) = (List.range k).map (fun j => Value.int .i64 (((i + (j + 1)) % (k + 1) : Nat) : Int)) ++ [.int .i64 (i : Nat)] := by
    rw [List.range_succ, List.map_append]
    congr 1
    · apply List.map_congr_left
      intro j _
      congr 2
      unfold nxt
      split
      · rename_i e
        rw [show i + (j + 1) = j + (k + 1) by omega, Nat.add_mod_right, Nat.zero_add]
      · congr 1
        omega
    · simp only [List.map_cons, List.map_nil]
      congr 3
      unfold nxt
      split
      · rw [Nat.zero_add, Nat.mod_eq_of_lt (by omega)]; omega
      · rw [show i + 1 + k = i + (k + 1) by omega, Nat.add_mod_right, Nat.mod_eq_of_lt h]
  rw [h1]
  congr 1
  rw [List.range_succ_eq_map]
  simp [List.extract, List.take_of_length_le]
theorem rot_qu (m : Nat) : qu m = rot m 0 := by
  unfold qu rot
  congr 1
  apply List.map_congr_left
  intro j hj
  rw [List.mem_range] at hj
  rw [Nat.zero_add, Nat.mod_eq_of_lt hj]
end Go.Proofs.Ytooknldfkcdneaa
