/- The draw of SatisfiesAll's arguments (no claim of its own). Conditions: as each theorem states. -/
import Derived.Test.YtnglpbfoeiahlaaDrwR
namespace Go.Proofs.Ytnglpbfoeiahlaa
open Go.ChangeShapes Go.WideShapes Go.ChangeAt Go.RowKit

theorem gr_bel' {w w1 w5 : World} {R : Nat} (hb : Below w.heap.size w w1) (hg : Gr R w1 w5) (hR : w.heap.size ≤ R) : Below w.heap.size w w5 :=
  ⟨hg.os.trans hb.os, hg.tape.trans hb.tape, hg.output.trans hb.output, Nat.le_trans hb.size hg.size, fun k hk => (hg.block k (Nat.lt_of_lt_of_le hk hb.size) (by intro e; cases e; omega)).trans (hb.block k hk)⟩
/-- Such a slice is a slice of constraints that reads. -/
theorem PX.rdp {w : World} {lo el N k cap : Nat} {A : Option Addr} {xs : List Value} (h : PX w lo el N (.slice A k cap) k xs) : ∃ p : Nat → Con, (∀ i, i < k → (p i).n ≤ N) ∧ RdP w w.heap.size A k p := by
  have hall : ∀ i, ∃ q : Con, i < k → q.n ≤ N ∧ ∃ A c, xs[i * 2]? = some (.slice A q.n c) ∧ xs[i * 2 + 1]? = some (.int .i64 q.bd) ∧ Rd w w.heap.size A q.n q.c q.l := fun i => by
    by_cases hi : i < k
    · obtain ⟨a, b, h1, h2, A, n, cap, bd, rfl, rfl, hn, ⟨c, l, hfr⟩, _⟩ := h.els i hi
      exact ⟨⟨n, bd, c, l⟩, fun _ => ⟨hn, A, cap, h1, h2, hfr.rdAt⟩⟩
    · exact ⟨⟨0, 0, fun _ => 0, fun _ => 0⟩, fun h => absurd h hi⟩
  obtain ⟨p, hp⟩ : ∃ p : Nat → Con, ∀ i, i < k → (p i).n ≤ N ∧ ∃ A c, xs[i * 2]? = some (.slice A (p i).n c) ∧ xs[i * 2 + 1]? = some (.int .i64 (p i).bd) ∧ Rd w w.heap.size A (p i).n (p i).c (p i).l := ⟨fun i => (hall i).choose, fun i => (hall i).choose_spec⟩
  refine ⟨p, fun i hi => (hp i hi).1, fun hk => ?_⟩
  rcases h.nil_or with ⟨_, h0⟩ | ⟨g, cap0, cur, e, hh⟩
  · omega
  · cases e
    have hlt : g < w.heap.size := by
      rcases Nat.lt_or_ge g w.heap.size with hlt | hge
      · exact hlt
      · rw [Array.getElem?_eq_none hge] at hh; cases hh
    refine ⟨g, 0, rfl, hlt, fun i hi => ?_⟩
    obtain ⟨_, A, c, h1, h2, h3⟩ := hp i hi
    rw [Nat.zero_add]
    exact ⟨A, c, (h.own.cellAt (i * 2) (by omega)).trans h1, (h.own.cellAt (i * 2 + 1) (by omega)).trans h2, h3⟩

/-- What the draw of a problem and values leaves. -/
def DSa (w : World) (e : Ending) (w' : World) : Prop := ∃ Al k capl xs lo el Av kv capv v, e = .returned (.tuple #[.slice Al k capl, .slice Av kv capv]) ∧ k ≤ 8 ∧ kv ≤ 12 ∧ PX w' lo el 15 (.slice Al k capl) k xs ∧ RdB w' w'.heap.size Av kv v ∧ Below w.heap.size w w'

set_option maxRecDepth 100000 in
set_option maxHeartbeats 3200000 in
theorem drawSat_any (A : Option Addr) (n cap : Nat) (y : Nat → Int) (w : World) (hm : n ≤ maxLen) (hcap : n ≤ cap) (hr : RdY w w.heap.size A n y) :
    Calls Try.prog 47 #[.slice A n cap] w (DSa w) := by
  go_enter Try.func47, Try.ntmps47
  go_wp2_with fail
  refine (open_any _ _ _ y _ hm hcap hr).mono ?_
  rintro e w1 ⟨rfl, hb, hrd, hz1⟩
  have HB1 := Lib.hid hb
  have RD1 := Lib.hid hrd
  clear hb hrd hr
  go_wp2_with fail
  refine (problem_any w.heap.size 0 _ (by omega) RD1.out).mono ?_
  rintro e w2 ⟨A2, k2, cap2, xs2, rfl, hk2, _, _, hp, hg, hr⟩
  have HP2 := Lib.hid hp
  have G2 := Lib.hid hg
  have RD2 := Lib.hid hr
  have hz2 : w1.heap.size ≤ w2.heap.size := hg.size
  clear hp hg hr RD1
  go_wp2_with fail
  refine (mutateP_any w.heap.size (0 + 1000) 12 _ _ _ _ xs2 _ (by omega) (by omega) hk2 RD2.out HP2.out).mono ?_
  rintro e w3 ⟨A3, k3, cap3, xs3, rfl, hk3, _, _, hp, hg, hr⟩
  have HP3 := Lib.hid hp
  have G3 := Lib.hid (G2.out.trans hg)
  have RD3 := Lib.hid hr
  clear hp hg hr RD2 HP2 G2
  go_wp2_with fail
  refine (values_any w.heap.size (0 + 1000 + 40) _ (by omega) RD3.out).mono ?_
  rintro e w4 ⟨Av, kv, capv, v, rfl, hkv, hF, hg, hr⟩
  have HP4 := Lib.hid (HP3.out.gr hg (by omega) (by omega))
  have G4 := Lib.hid (G3.out.trans hg)
  have HV := Lib.hid hF.rd
  clear hF hg hr HP3 G3 RD3
  go_wp2
  go_ret2
  exact ⟨A3, k3, cap3, xs3, _, _, Av, kv, capv, v, rfl, hk3, hkv, HP4.out, HV.out, gr_bel' HB1.out G4.out (Nat.le_refl _)⟩
end Go.Proofs.Ytnglpbfoeiahlaa
