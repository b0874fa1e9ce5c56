/- The program's newPropagator (no claim of its own). Conditions: as each theorem states. -/
import Derived.Test.YtooknldfkcdneaaPgA
namespace Go.Proofs.Ytooknldfkcdneaa
open Go.ChangeShapes Go.WideShapes Go.ChangeAt Go.RowKit Go.Shelf

def isNilS : Value → Bool
  | .slice none 0 0 => true
  | _ => false
theorem isNilS_iff {v : Value} (h : isNilS v = true) : v = .slice none 0 0 := by
  unfold isNilS at h
  split at h
  · rfl
  · cases h
def zeroPg (z : Array Value) : Bool := z.size == 1426 && isNilS (z.getD 0 undef) && (List.range 25).all fun j => isNilS (z.getD (1401 + j) undef)
theorem pg_zero : zeroPg Try.zeroCells103 = true := by kernel_rfl
theorem pg_one : Try.zeroCells103.toList.all (·.oneCell') = true := by kernel_rfl
theorem pg_cells : Try.zeroCells103.size = 1426 ∧ Try.zeroCells103[0]? = some (.slice none 0 0) ∧ (∀ j, j < 25 → Try.zeroCells103[1401 + j]? = some (.slice none 0 0)) ∧ ∀ i, i < 1400 → ∃ z, Try.zeroCells103[1 + i]? = some z ∧ z.oneCell' = true := by
  have h := pg_zero
  have ho := pg_one
  generalize Try.zeroCells103 = Z at *
  unfold zeroPg at h
  simp only [Bool.and_eq_true, beq_iff_eq, List.all_eq_true, List.mem_range] at h
  obtain ⟨⟨h1, h2⟩, h3⟩ := h
  have key : ∀ i, i < 1426 → isNilS (Z.getD i undef) = true → Z[i]? = some (.slice none 0 0) := fun i hi hn => by
    have := isNilS_iff hn
    rw [Array.getD_eq_getD_getElem?, Array.getElem?_eq_getElem (by omega)] at this
    rw [Array.getElem?_eq_getElem (by omega)]
    exact congrArg some this
  refine ⟨h1, key 0 (by omega) h2, fun j hj => key (1401 + j) (by omega) (h3 j hj), fun i hi => ?_⟩
  rw [List.all_eq_true] at ho
  rw [Array.getElem?_eq_getElem (by omega)]
  exact ⟨_, rfl, ho _ (by simp)⟩
theorem pg_new (w : World) (p : Nat → Con) (sl : Nat → Int) : Pg (w.alloc (.cells Try.zeroCells103 103)) w.heap.size w.heap.size (.slice none 0 0) 0 0 p sl (usP p 0) (fun _ => .slice none 0 0) := by
  obtain ⟨h1, h2, h3, h4⟩ := pg_cells
  refine ⟨⟨_, heap_alloc_new w _, h1, h2, fun i hi => by omega, h3, h4⟩, ⟨[], World.ownsRow_nil _ _ _ _, fun i hi => by omega⟩, fun j _ => World.ownsRow_nil _ _ _ _, fun j _ b e => ?_, fun j _ j' _ _ b e => ?_, ?_, Nat.le_refl _⟩
  · simp [Value.ownBlock] at e
  · simp [Value.ownBlock] at e
  · simp [Value.ownBlock]
theorem usP_len {p : Nat → Con} {m : Nat} (h : ∀ i, i < m → (p i).n ≤ 1048576) (j : Nat) : (usP p m j).length ≤ m * 1048576 := by
  induction m with
  | zero => simp [usP]
  | succ m ih =>
    have h1 := ih fun i hi => h i (by omega)
    have h2 := usT_len m (p m).c (p m).l (p m).n j
    have h3 := h m (by omega)
    show (usP p m j ++ usT m (p m).c (p m).l (p m).n j).length ≤ _
    rw [List.length_append]
    omega

set_option maxRecDepth 100000 in
set_option maxHeartbeats 3200000 in
theorem newPg_any (A : Option Addr) (m cap : Nat) (p : Nat → Con) (w : World) (hm : m ≤ 1400) (hr : RdP w w.heap.size A m p) (hok : ∀ i, i < m → okC (p i) ∧ (p i).n ≤ 1048576) :
    Calls Try.prog 38 #[.slice A m cap] w fun e w' => ∃ B lv uv, e = .returned (.pointer (some ⟨B, 0, none⟩)) ∧ Pg w' w.heap.size B lv m m p (fun i => slkC (p i) z0) (usP p m) uv ∧ Below w.heap.size w w' := by
  have HR := Lib.hid hr
  have HO := Lib.hid hok
  clear hr hok
  go_enter Try.func38, Try.ntmps38
  go_upto_region 2 with fail
  have hb0 := bl_alloc (Below.refl w.heap.size w) (.cells Try.zeroCells103 103)
  have HB0 := Lib.hid hb0
  have HP0 := Lib.hid (pg_new w p (fun i => slkC (p i) z0))
  clear hb0
  generalize (w.alloc (.cells Try.zeroCells103 103)) = W0 at *
  obtain ⟨B, hB⟩ : ∃ B, w.heap.size = B := ⟨_, rfl⟩
  have hml : (m : Int) ≤ 1400 := by omega
  rw [hB] at HB0 HP0 HR ⊢
  have HBw := Lib.hid hB
  clear hB
  go_wp2
  go_loopw [10] (fun i wx => ∃ (k : Nat) (lv : Value) (uv : Nat → Value), i = .int .i64 k ∧ k ≤ m ∧ Pg wx B B lv k k p (fun i => slkC (p i) z0) (usP p k) uv ∧ Below B w wx) (fun i _ => m - (intOf i).toNat)
  case atStart => exact ⟨0, _, _, rfl, Nat.zero_le _, HP0.out, HB0.out⟩
  case round =>
    obtain ⟨k, lv, uv, rfl, hk, hp, hb⟩ := hrel
    have HP := Lib.hid hp
    have HB := Lib.hid hb
    clear hp hb
    by_cases hlt : k < m
    · obtain ⟨b, off, rfl, hbl, hc⟩ := (HR.out.below HB.out) (by omega)
      obtain ⟨Ai, ci, c0, c1, hrd⟩ := hc k hlt
      obtain ⟨hq, hn⟩ := HO.out k hlt
      have hkI : (k : Int) < (m : Int) := by omega
      have hk0 : (0 : Int) ≤ (k : Int) := by omega
      have hus := fun j => usP_len (fun i hi => (HO.out i (by omega)).2) (m := k) (p := p) j
      have HU := Lib.hid hus
      have HRd := Lib.hid hrd
      have HQ := Lib.hid hq
      have hbr := bl_alloc (Below.refl wr.heap.size wr) (.cells #[.slice Ai (p k).n ci, .int .i64 (p k).bd] 42)
      have HPx := Lib.hid (HP.out.below hbr)
      have HBx := Lib.hid (HB.out.trans (hbr.mono HP.out.loB))
      have HRx := Lib.hid (HRd.out.below (hbr.mono HP.out.loB))
      clear hc hrd hq hus hbr HP HB HRd
      go_wp2_with fail
      refine (pgAdd_any B B lv k p _ _ uv Ai ci _ HPx.out HRx.out HQ.out hn (by omega) HU.out).mono ?_
      rintro e w2 ⟨rfl, lv2, uv2, hp, hb⟩
      have HP2 := Lib.hid (show Pg w2 B B lv2 (k + 1) (k + 1) p (fun i => slkC (p i) z0) (usP p (k + 1)) uv2 from by
        have e1 : (fun i => if i = k then slkC (p k) z0 else slkC (p i) z0) = fun i => slkC (p i) z0 := by
          funext i
          by_cases e : i = k
          · subst e; simp
          · simp [e]
        rw [e1] at hp
        exact hp)
      have HB2 := Lib.hid (HBx.out.trans hb)
      clear hp hb HPx HBx HRx HU c0 c1
      go_wp2
      go_roundw
      case rel => exact ⟨k + 1, _, _, by go_num, by omega, HP2.out, HB2.out⟩
      case measure => simp [intOf]; omega
    · have e : k = m := by omega
      subst e
      go_wp2
      go_ret
      exact ⟨B, _, _, rfl, by rw [HBw.out]; exact HP.out, by rw [HBw.out]; exact HB.out⟩
end Go.Proofs.Ytooknldfkcdneaa
