/- The model's ImpliedLiterals (no claim of its own). Conditions: as each theorem states. -/
import Derived.Test.YtooknldfkcdneaaSlkC
import Derived.Test.YtooknldfkcdneaaIntR
import Derived.Laws.OwnMore
namespace Go.Proofs.Ytooknldfkcdneaa
open Go.ChangeShapes Go.WideShapes Go.ChangeAt Go.RowKit Go.Shelf

/-- The literals among the first k terms that a slack s implies. -/
def imL (c l : Nat → Int) (v : Nat → Int) (s : Int) : Nat → List Int
  | 0 => []
  | k + 1 => if stV v (l k) = 0 ∧ s < c k then imL c l v s k ++ [l k] else imL c l v s k
/-- What ImpliedLiterals answers. -/
def impL (n : Nat) (c l : Nat → Int) (bd : Int) (nv : Nat) (v : Nat → Int) : List Int := if slkOk n c l bd nv v then (if slk n c l bd v < 0 then [] else imL c l v (slk n c l bd v) n) else []
section
variable {c l v : Nat → Int} {s bd : Int} {k n nv : Nat}
theorem imL_yes (h1 : stV v (l k) = 0) (h2 : s < c k) : imL c l v s (k + 1) = imL c l v s k ++ [l k] := if_pos ⟨h1, h2⟩
theorem imL_no (h : ¬ (stV v (l k) = 0 ∧ s < c k)) : imL c l v s (k + 1) = imL c l v s k := if_neg h
theorem imL_le (k : Nat) : (imL c l v s k).length ≤ k := by
  induction k with
  | zero => exact Nat.le_refl _
  | succ k ih =>
    unfold imL
    split
    · simp; omega
    · omega
theorem impL_inv (h : slkOk n c l bd nv v = false) : impL n c l bd nv v = [] := by unfold impL; rw [h]; rfl
theorem impL_neg (h : slkOk n c l bd nv v = true) (h1 : slk n c l bd v < 0) : impL n c l bd nv v = [] := by unfold impL; rw [h, if_pos rfl, if_pos h1]
theorem impL_yes (h : slkOk n c l bd nv v = true) (h1 : ¬ slk n c l bd v < 0) : impL n c l bd nv v = imL c l v (slk n c l bd v) n := by unfold impL; rw [h, if_pos rfl, if_neg h1]
theorem impL_le : (impL n c l bd nv v).length ≤ n := by
  unfold impL
  split
  · split
    · simp
    · exact imL_le n
  · simp
end

/-- What a function that answers a slice of ints leaves: it lies in new memory. -/
def LRes (w : World) (L : List Int) (e : Ending) (w' : World) : Prop :=
  ∃ A cap, e = .returned (.slice A L.length cap) ∧ FrI w' w.heap.size 3 A L.length (gI L) ∧ Below w.heap.size w w'

/-- An empty slice that has just been made. -/
theorem rowAt_lit (W : World) (T : TypeId) : RowAt W W.heap.size T [] [] (.slice (some ⟨W.heap.size, 0, none⟩) 0 0) (W.alloc (.cells #[] T)) :=
  ⟨World.ownsRow_lit W #[] 0 (Nat.le_refl _) (by unfold maxLen; omega) (by simp), (fun x hx => by cases hx), bl_alloc (Below.refl _ _) _, Nat.le_refl _, by simp⟩

set_option maxRecDepth 100000 in
set_option maxHeartbeats 3200000 in
theorem l3Implied_any (A Av : Option Addr) (n cap capv : Nat) (bd : Int) (c l : Nat → Int) (v : Nat → Int) (w : World) (hn : n ≤ 1048576) (hr : Rd w w.heap.size A n c l) (hrv : RdI w w.heap.size Av 12 v) (hok : slkOk n c l bd 12 v = true) :
    Calls Try.prog 69 #[.agg #[.slice A n cap, .int .i64 bd], .slice Av 12 capv] w (LRes w (impL n c l bd 12 v)) := by
  have hval : validB n c l bd = true := by unfold slkOk at hok; rw [Bool.and_eq_true] at hok; exact hok.1
  have hpv : pvB 12 v = true := by unfold slkOk at hok; rw [Bool.and_eq_true] at hok; exact hok.2
  obtain ⟨_, hvv⟩ := pvB_iff.1 hpv
  have hsl := slk_bd (v := v) hval
  have Hval := Lib.hid hval
  have HV := Lib.hid hvv
  have Hok := Lib.hid hok
  clear hval hvv hpv hok
  go_enter Try.func69, Try.ntmps69
  go_wp2_with fail
  have hW0 := bl_alloc (Below.refl w.heap.size w) (.cells #[.slice A n cap, .int .i64 bd] 42)
  have HB0 := Lib.hid hW0
  have HrW := Lib.hid (hr.later hW0)
  have HvW := Lib.hid (hrv.later hW0)
  have hW1 := bl_alloc (Below.refl (w.alloc (.cells #[.slice A n cap, .int .i64 bd] 42)).heap.size (w.alloc (.cells #[.slice A n cap, .int .i64 bd] 42))) (.cells #[] 3)
  have HR0 := Lib.hid (rowAt_lit (w.alloc (.cells #[.slice A n cap, .int .i64 bd] 42)) 3)
  have hrA := Lib.hid (hr.later (bl_trans hW0 hW1))
  have hrB := Lib.hid (hrv.later (bl_trans hW0 hW1))
  have a0 : ((w.alloc (.cells #[.slice A n cap, .int .i64 bd] 42)).alloc (.cells #[] 3)).cell? ⟨w.heap.size, 0, none⟩ = some (.slice A n cap) := by go_simp
  have a00 : (w.alloc (.cells #[.slice A n cap, .int .i64 bd] 42)).cell? ⟨w.heap.size, 0, none⟩ = some (.slice A n cap) := by go_simp
  have A00 := Lib.hid a00
  have hsz0 : (w.alloc (.cells #[.slice A n cap, .int .i64 bd] 42)).heap.size = w.heap.size + 1 := by simp
  have HS0 := Lib.hid hsz0
  refine (l3Slack_any _ _ _ _ _ _ c l v _ hn hrA.out hrB.out Hval.out HV.out).mono ?_
  rintro e w1 ⟨rfl, hb⟩
  have R1 := Lib.hid (HR0.out.below hb)
  replace a0 := kc hb a0
  rw [hsz0] at HR0
  clear hb hW0 hW1 a00 hsz0 hrA hrB HR0 hr hrv
  by_cases hneg : slk n c l bd v < 0
  · have Him := Lib.hid (impL_neg Hok.out hneg)
    have hd : decide (0 ≤ slk n c l bd v) = false := by simpa using hneg
    go_wp2
    go_loopw [5, 7] (fun t i wr => i = .int .i64 0 ∧ t = .slice (some ⟨w.heap.size + 1, 0, none⟩) 0 0 ∧ wr = w1) (fun _ _ _ => 0)
    case atStart => exact ⟨rfl, by simp, rfl⟩
    case round =>
      obtain ⟨rfl, rfl, rfl⟩ := hrel
      go_wp2
      all_goals
        go_ret
        rw [Him.out]
        exact ⟨_, _, rfl, .inl rfl, bl_trans HB0.out R1.out.bel⟩
  · have Him := Lib.hid (impL_yes Hok.out hneg)
    have hd : 0 ≤ slk n c l bd v := by omega
    have HB1 := Lib.hid (bl_trans HB0.out R1.out.bel)
    generalize w.alloc (.cells #[.slice A n cap, .int .i64 bd] 42) = W0 at *
    go_wp2
    go_loopw [5, 7] (fun t i wr => ∃ k : Nat, k ≤ n ∧ i = .int .i64 k ∧ RowAt W0 W0.heap.size 3 [] (imL c l v (slk n c l bd v) k) t wr) (fun _ i _ => n - (intOf i).toNat)
    case atStart => exact ⟨0, Nat.zero_le _, rfl, by have h := R1.out; rw [HS0.out] at h ⊢; first | exact h | simpa using h⟩
    case round =>
      obtain ⟨k, hk, rfl, hrow⟩ := hrel
      have Row := Lib.hid hrow
      have hbel := hrow.bel
      have ar := kc hbel A00.out
      clear hrow
      by_cases hlt : k < n
      · have hL := Lib.hid (litAt Hval.out hlt)
        have hco := coef_of Hval.out k hlt
        have hle : (imL c l v (slk n c l bd v) k).length ≤ 1048576 := by have := imL_le (c := c) (l := l) (v := v) (s := slk n c l bd v) k; omega
        have Hst := Lib.hid (l3State_any Av capv v (l k) wr hL.out (HvW.out.later hbel) HV.out)
        obtain ⟨b, off, rfl, hbl, hc⟩ := (HrW.out.later hbel) (by omega)
        obtain ⟨hc1, hc2⟩ := hc k hlt
        clear hc hL
        by_cases h1 : stV v (l k) = 0
        · rw [h1] at Hst
          by_cases h2 : slk n c l bd v < c k
          · have Ht := Lib.hid (imL_yes h1 h2)
            clear h1 hbel
            go_wp2_with fail
            refine Hst.out.mono ?_
            rintro e w' ⟨rfl, rfl⟩
            go_wp2_with (at_builtin; refine wpList_plain (by rfl) fun K' hK' => ?_; refine wp_rowI _ _ 23 (by rfl) Try.underlying23 Try.infoInt Row.out (bl_alloc (Below.refl _ _) _) (by rfl) (by rfl) (heap_alloc_new _ _) hle ?_; intro gg cap1 w3 hout; refine hK' _ _ ?_; clear hK' K')
            go_roundw
            case rel => exact ⟨k + 1, by omega, by go_num, by rw [Ht.out]; exact hout⟩
            case measure => simp [intOf]; omega
          · have Ht := Lib.hid (imL_no (c := c) (l := l) (v := v) (s := slk n c l bd v) (k := k) (fun h => h2 h.2))
            clear h1 hbel
            go_wp2_with fail
            refine Hst.out.mono ?_
            rintro e w' ⟨rfl, rfl⟩
            go_wp2
            go_roundw
            case rel => exact ⟨k + 1, by omega, by go_num, by rw [Ht.out]; exact Row.out⟩
            case measure => simp [intOf]; omega
        · have Ht := Lib.hid (imL_no (c := c) (l := l) (v := v) (s := slk n c l bd v) (k := k) (fun h => h1 h.1))
          have hne : (stV v (l k) == 0) = false := by rw [beq_eq_false_iff_ne]; exact h1
          clear h1 hbel
          go_wp2_with fail
          refine Hst.out.mono ?_
          rintro e w' ⟨rfl, rfl⟩
          go_wp2
          go_roundw
          case rel => exact ⟨k + 1, by omega, by go_num, by rw [Ht.out]; exact Row.out⟩
          case measure => simp [intOf]; omega
      · have e : k = n := by omega
        subst e
        obtain ⟨A', cap', rfl, hF⟩ := Row.out.fr
        have HF := Lib.hid hF
        have HB := Lib.hid hbel
        clear hF hbel
        go_wp2
        go_ret
        rw [Him.out]
        exact ⟨A', cap', rfl, HF.out.more (by rw [HS0.out]; omega), bl_trans HB0.out HB.out⟩

end Go.Proofs.Ytooknldfkcdneaa
