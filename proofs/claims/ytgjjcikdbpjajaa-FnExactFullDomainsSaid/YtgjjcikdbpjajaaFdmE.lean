/- Rows of rows of Booleans as the answer of a law's function (no claim of its own). Conditions: as each theorem states. -/
import Derived.Test.YtgjjcikdbpjajaaFdmD
namespace Go.Proofs.Ytgjjcikdbpjajaa
open Go.ChangeShapes Go.WideShapes Go.ChangeAt Go.RowKit

/-- Such an answer: nothing, or rows of the call's own. -/
def LB2 (w : World) (lo hi : Nat) (A : Option Addr) (n : Nat) (r : Nat → LsB) : Prop := n = 0 ∧ A = none ∨ ∃ G f, A = some ⟨G, 0, none⟩ ∧ OwnLs w lo hi G n r f
section
variable {w w' : World} {lo hi lo' hi' n B : Nat} {A : Option Addr} {r : Nat → LsB}
theorem LB2.below (h : LB2 w lo hi A n r) (hb : Below w.heap.size w w') : LB2 w' lo hi A n r := by
  rcases h with h | ⟨G, f, e, h⟩
  · exact .inl h
  · exact .inr ⟨G, f, e, h.below hb⟩
theorem LB2.onlyR (h : LB2 w lo hi A n r) (ho : OnlyR lo' hi' w w') (hd : hi ≤ lo' ∨ hi' ≤ lo) : LB2 w' lo hi A n r := by
  rcases h with h | ⟨G, f, e, h⟩
  · exact .inl h
  · exact .inr ⟨G, f, e, h.onlyR ho hd⟩
theorem LB2.rd (h : LB2 w lo hi A n r) : RdLB w w.heap.size A n r := by
  rcases h with ⟨h, e⟩ | ⟨G, f, e, h⟩
  · exact fun hn => by omega
  · rw [e]; exact h.rd
theorem rd_keep (h : RdLB w B A n r) (hk : ∀ b, b < B → b < w.heap.size → w'.heap[b]? = w.heap[b]?) : RdLB w' B A n r := fun hn => by
  obtain ⟨b, off, e, hlt, hc⟩ := h hn
  refine ⟨b, off, e, hlt, fun i hi => ?_⟩
  obtain ⟨Ai, ci, h1, h3⟩ := hc i hi
  have hbw : b < w.heap.size := World.block_lt_of_cell? w _ h1
  refine ⟨Ai, ci, (World.cell?_of_block (a := ⟨b, off + i, none⟩) (hk b hlt hbw)).trans h1, fun hn' => ?_⟩
  obtain ⟨b2, off2, e2, hlt2, hc2⟩ := h3 hn'
  exact ⟨b2, off2, e2, hlt2, fun j hj => (World.cell?_of_block (a := ⟨b2, off2 + j, none⟩) (hk b2 hlt2 (World.block_lt_of_cell? w _ (hc2 j hj)))).trans (hc2 j hj)⟩
/-- What reads below B stays where the blocks below B stay. -/
def RdW (w : World) (B : Nat) (A : Option Addr) (n : Nat) (r : Nat → LsB) : Prop := RdLB w B A n r ∧ B ≤ w.heap.size
theorem RdW.below (h : RdW w B A n r) (hb : Below w.heap.size w w') : RdW w' B A n r := ⟨rd_keep h.1 fun b _ hl => hb.block b hl, Nat.le_trans h.2 hb.size⟩
theorem RdW.onlyR (h : RdW w B A n r) (ho : OnlyR lo hi w w') (hd : B ≤ lo) : RdW w' B A n r := ⟨rd_keep h.1 fun b hB hl => ho.block b hl (.inl (by omega)), Nat.le_trans h.2 ho.size⟩
theorem RdW.rd (h : RdW w B A n r) : RdLB w w.heap.size A n r := h.1.more h.2
end

theorem totB_le4 {r : Nat → LsB} {n : Nat} (h : ∀ i, i < n → (r i).n ≤ 4) : totB r n ≤ 4 * n := by
  induction n with
  | zero => exact Nat.zero_le _
  | succ n ih =>
    have h1 := ih fun i hi => h i (by omega)
    have h2 := h n (by omega)
    show totB r n + (r n).n ≤ _
    omega
theorem fd_row {s : Lst} {n : Nat} {q : Nat → Rul} : ∀ i, i < fdN s n q → (fulL s i).n ≤ 4 := fun i hi => by
  unfold fdN at hi
  split at hi
  · rename_i h
    have h1 := size_at (mod_parts h).2.2.1 hi
    show (s.x i + 1).toNat ≤ 4
    omega
  · omega

set_option maxRecDepth 100000 in
set_option maxHeartbeats 800000 in
theorem markLs2 (A : Option Addr) (lo hi n cap : Nat) (r : Nat → LsB) (k : Int) (w : World) (hn : n + totB r n ≤ 1048576) (hk0 : 0 ≤ k) (hk1 : k ≤ 1000) (ho : LB2 w lo hi A n r) :
    Calls Try.prog 26 #[.slice A n cap, .int .i64 k] w fun e w' => e = .returned (.int .i64 (k + totB r n)) ∧ LB2 w' lo hi A n (mkLs k r n) ∧ OnlyR lo hi w w' := by
  rcases ho with ⟨rfl, rfl⟩ | ⟨G, f, rfl, ho⟩
  · go_enter Try.func26, Try.ntmps26
    go_wp2
    go_loop [1, 5] (fun t i => i = .int .i64 0 ∧ t = .int .i64 k) (fun _ _ => 0)
    case atStart => exact ⟨rfl, rfl⟩
    case round =>
      obtain ⟨rfl, rfl⟩ := hrel
      go_wp2
      go_ret
      exact ⟨ret_int (by simp [totB]), .inl ⟨rfl, rfl⟩, OnlyR.refl _ _ _⟩
  · exact (markBoolSS_any lo hi G n cap r f k w hn hk0 hk1 ho).mono fun e w' ⟨he, h1, h2⟩ => ⟨he, .inr ⟨G, f, rfl, h1⟩, h2⟩

set_option maxRecDepth 100000 in
set_option maxHeartbeats 800000 in
theorem heldLs2 (A : Option Addr) (lo hi n cap : Nat) (r : Nat → LsB) (k : Int) (w : World) (hn : n + totB r n ≤ 1048576) (hk0 : 0 ≤ k) (hk1 : k ≤ 1000) (ho : LB2 w lo hi A n (mkLs k r n)) :
    Calls Try.prog 27 #[.slice A n cap, .int .i64 k] w fun e w' => e = .returned (.int .i64 (k + totB r n)) ∧ w = w' := by
  rcases ho with ⟨rfl, rfl⟩ | ⟨G, f, rfl, ho⟩
  · go_enter Try.func27, Try.ntmps27
    go_wp2
    go_loop [1, 5] (fun t i => i = .int .i64 0 ∧ t = .int .i64 k) (fun _ _ => 0)
    case atStart => exact ⟨rfl, rfl⟩
    case round =>
      obtain ⟨rfl, rfl⟩ := hrel
      go_wp2
      go_ret
      exact ⟨ret_int (by simp [totB]), rfl⟩
  · exact heldBoolSS_any lo hi G n cap r f k w hn hk0 hk1 ho
end Go.Proofs.Ytgjjcikdbpjajaa
