/- SplitCubes: the reference's side (no claim of its own). Conditions: as each theorem states. -/
import Derived.Test.YtjfcgehmeecnfaaCbsM
import Derived.Test.YtjfcgehmeecnfaaGrwL
import Derived.Test.YtjfcgehmeecnfaaCubA
import Derived.Test.YtjfcgehmeecnfaaClnJ
import Derived.Test.YtjfcgehmeecnfaaRgt
import Derived.Deep.Cut
namespace Go.Proofs.Ytjfcgehmeecnfaa
open Go.ChangeShapes Go.WideShapes Go.ChangeAt Go.RowKit

/-- Lists of ints, each with a head. -/
def RdS (w : World) (B : Nat) (A : Option Addr) (n : Nat) (r : Nat → Lst) : Prop :=
  0 < n → ∃ b off, A = some ⟨b, off, none⟩ ∧ b < B ∧ ∀ i, i < n → ∃ a ci, w.cell? ⟨b, off + i, none⟩ = some (.slice (some a) (r i).n ci) ∧ RdI w B (some a) (r i).n (r i).x
section
variable {w w' : World} {B B' hi n k : Nat} {A : Option Addr} {r : Nat → Lst} {ov : Value} {xs : List Value} {f : Nat → Nat}
theorem RdS.below (h : RdS w B A n r) (hb : Below B w w') : RdS w' B A n r := fun hn => by
  obtain ⟨b, off, e, hlt, hc⟩ := h hn
  refine ⟨b, off, e, hlt, fun i hi => ?_⟩
  obtain ⟨a, ci, h1, h3⟩ := hc i hi
  exact ⟨a, ci, (hb.cell (p := ⟨b, _, none⟩) hlt).trans h1, h3.below hb⟩
theorem RdS.more (h : RdS w B A n r) (hB : B ≤ B') : RdS w B' A n r := fun hn => by
  obtain ⟨b, off, e, hlt, hc⟩ := h hn
  refine ⟨b, off, e, by omega, fun i hi => ?_⟩
  obtain ⟨a, ci, h1, h3⟩ := hc i hi
  exact ⟨a, ci, h1, h3.more hB⟩
theorem RdS.later (h : RdS w w.heap.size A n r) (hb : Below w.heap.size w w') : RdS w' w'.heap.size A n r := (h.below hb).more hb.size
/-- Lists that are not empty have heads. -/
theorem GrwL.rdS (h : GrwL w B hi ov k xs r f) (hp : ∀ i, i < k → (r i).n ≠ 0) : ∃ A cap, ov = .slice A k cap ∧ FrL w B A k r ∧ RdS w w.heap.size A k r := by
  obtain ⟨A, cap, e, hF⟩ := h.fin
  refine ⟨A, cap, e, hF, fun hk => ?_⟩
  rcases h.own.2 with ⟨_, h0⟩ | ⟨g, cap', cur, e', hg, hh, hnc, _, hsz, htk⟩
  · omega
  · rw [e] at e'
    cases e'
    refine ⟨g, 0, rfl, lblock_lt hh, fun i hi => ?_⟩
    obtain ⟨Ai, ci, h1, h3⟩ := h.els i hi
    rcases h3 with h0 | ⟨rfl, _, _, h4⟩
    · exact absurd h0 (hp i hi)
    · refine ⟨_, ci, ?_, h4.rdAt⟩
      rw [Nat.zero_add]
      rw [← htk, List.getElem?_take_of_lt (by omega)] at h1
      exact (cell_of_row w g _ cur _ _ hh).trans (by simpa using h1)
/-- The list of the empty list. -/
theorem rdS_lit (w : World) (r : Nat → Lst) (h0 : (r 0).n = 0) : RdS ((w.alloc (.cells #[] 3)).alloc (.cells #[.slice (some ⟨w.heap.size, 0, none⟩) 0 0] 22)) ((w.alloc (.cells #[] 3)).alloc (.cells #[.slice (some ⟨w.heap.size, 0, none⟩) 0 0] 22)).heap.size (some ⟨w.heap.size + 1, 0, none⟩) 1 r ∧ FrL ((w.alloc (.cells #[] 3)).alloc (.cells #[.slice (some ⟨w.heap.size, 0, none⟩) 0 0] 22)) w.heap.size (some ⟨w.heap.size + 1, 0, none⟩) 1 r := by
  have hn := heap_alloc_new (w.alloc (.cells #[] 3)) (.cells #[.slice (some ⟨w.heap.size, 0, none⟩) 0 0] 22)
  rw [World.size_alloc] at hn
  refine ⟨fun _ => ⟨w.heap.size + 1, 0, rfl, by simp, fun i hi => ?_⟩, ⟨fun _ => 0, ⟨.inr ⟨_, _, rfl, hn, fun i hi => ?_⟩, fun i hi => ?_, fun i j hi hj h1 => ?_⟩, fun b hb => ?_⟩⟩
  · obtain rfl : i = 0 := by omega
    rw [h0]
    exact ⟨_, 0, (cell_of_row _ _ _ _ _ _ hn).trans rfl, fun h => absurd h (by omega)⟩
  · obtain rfl : i = 0 := by omega
    exact ⟨some ⟨w.heap.size, 0, none⟩, 0, by rw [h0]; rfl, .inl h0⟩
  · obtain rfl : i = 0 := by omega
    exact .inl h0
  · obtain rfl : i = 0 := by omega
    exact absurd h0 h1
  · rcases hb with ⟨_, a, ha, rfl⟩ | ⟨i, hi, hz, _⟩
    · cases ha
      exact Nat.le_succ _
    · obtain rfl : i = 0 := by omega
      exact absurd h0 hz
end

theorem tfC {b : Bool} {P : Prop} (h : b = true) (h' : b = false) : P := by rw [h] at h'; cases h'
theorem row_shapeC {w : World} {B e s n : Nat} {v : Value} {xs : List Value} (h : w.ownsRow B e s v n xs) : ∃ A cap, v = .slice A n cap := by
  rcases h.2 with ⟨e1, h0⟩ | ⟨g, cap, cur, e1, _⟩
  · exact ⟨none, 0, by rw [e1, h0]⟩
  · exact ⟨_, cap, e1⟩
theorem intXs_succ (c : Nat → Int) (n : Nat) : intXs c (n + 1) = intXs c n ++ [.int .i64 (c n)] := by simp [intXs, List.range_succ]
theorem intXs_eq {c c' : Nat → Int} {n : Nat} (h : ∀ i, i < n → c i = c' i) : intXs c n = intXs c' n := by
  unfold intXs
  exact List.map_congr_left fun i hi => by rw [h i (List.mem_range.1 hi)]
theorem row_fri {w : World} {B n : Nat} {A : Option Addr} {cap : Nat} {c : Nat → Int} (h : w.ownsRow B 3 1 (.slice A n cap) n (intXs c n)) : FrI w B 3 A n c := by
  rcases h.2 with ⟨e1, h0⟩ | ⟨g, cap', cur, e1, hg, hh, hnc, _, hsz, htk⟩
  · exact .inl h0
  · cases e1
    refine .inr ⟨g, rfl, hg, cur, hh, by omega, fun i hi => ?_⟩
    have h1 := intXs_at c hi
    rw [← htk, List.getElem?_take_of_lt (by omega)] at h1
    simpa using h1
set_option maxRecDepth 100000 in
set_option maxHeartbeats 800000 in
/-- The append of a list that came in to an empty row of the call's own. -/
theorem wp_cpJ {o : Oper} {c : Act} {K : Act → World → Prop} {Q : Exit → Act → World → Prop} {W : World} (s x : Operand)
    (ho : o.op = .call { callee := .builtin .append, args := #[s, x], argTypes := #[22, 22] }) (hty : o.type = 22) {B0 : Nat} {v : Value} {n cap : Nat} {a : Addr} {y : Nat → Int} (hs : c.eval s = v) (hx : c.eval x = .slice (some a) n cap)
    (hown : W.ownsRow B0 3 1 v 0 []) (hr : RdI W W.heap.size (some a) n y) (hB : B0 ≤ W.heap.size) (hn : n ≤ 1048576)
    (h : ∀ A cap' w', w'.ownsRow B0 3 1 (.slice A n cap') n (intXs y n) → W.grownBy w' v.ownBlock → K (c.put o.dst (.slice A n cap')) w') :
    o.wp Try.prog c W K Q := by
  obtain ⟨i0, hi, hz0, hz1, hz2⟩ := info_parts Try.infoInt
  obtain ⟨v', w', k1, k2, k3, _, _⟩ := run_append_own_at (P := Try.prog) W B0 22 22 3 i0 _ 1 8 Try.underlying22 hi hz0 hz1 hz2 rfl (by omega) v 0 _ hown a n cap (intXs y n) (by rw [intXs_len]; omega) (intXs_src hr) (intXs_one y n) (by unfold maxLen; omega) (by omega) hB
  rw [Nat.zero_add, List.nil_append] at k2
  obtain ⟨A, cap', rfl⟩ := row_shapeC k2
  unfold Oper.wp execOp
  simp only [ho, hty, resolve, invoke, builtin, Sem.run_bind, Sem.run_pure, Result.andThen_ok, List.map_toArray, List.map_cons, List.map_nil, hs, hx, k1]
  exact h A cap' w' k2 k3
set_option maxRecDepth 100000 in
set_option maxHeartbeats 800000 in
/-- The append of one int to a row of the call's own. -/
theorem wp_addJ {o : Oper} {c : Act} {K : Act → World → Prop} {Q : Exit → Act → World → Prop} {W : World} (s x : Operand)
    (ho : o.op = .call { callee := .builtin .append, args := #[s, x], argTypes := #[22, 22] }) {B0 : Nat} {v : Value} {n H : Nat} {y : Nat → Int} {z : Int} {T' : TypeId} (hs : c.eval s = v) (hx : c.eval x = .slice (some ⟨H, 0, none⟩) 1 1)
    (hown : W.ownsRow B0 3 1 v n (intXs y n)) (hnew : W.heap[H]? = some (.cells #[.int .i64 z] T' (0, 0))) (hz : z = y n) (hB : B0 ≤ W.heap.size) (hn : n ≤ 1048576)
    (h : ∀ g cap' w', w'.ownsRow B0 3 1 (.slice (some ⟨g, 0, none⟩) (n + 1) cap') (n + 1) (intXs y (n + 1)) → W.grownBy w' v.ownBlock → K (c.put o.dst (.slice (some ⟨g, 0, none⟩) (n + 1) cap')) w') :
    o.wp Try.prog c W K Q := by
  obtain ⟨i0, hi, hz0, hz1, hz2⟩ := info_parts Try.infoInt
  refine wp_append_lies _ s x 22 ho B0 3 i0 _ 1 8 Try.underlying22 hi hz0 hz1 hz2 rfl (by omega) v n _ hs hown ⟨H, 0, none⟩ 1 1 [.int .i64 z] hx (by rfl)
    (World.news_of_block hnew) (by simp [Value.oneCell']) (by omega) (by unfold maxLen; omega) (by omega) hB W.heap.size rfl ?_
  intro g cap' w' hw hg _ _
  exact h g cap' w' (by rw [intXs_succ, ← hz]; exact hw) hg


/-- What is known while the operations of the region run: a list, copied, gets one more int and is appended. -/
structure F9 (wq : World) (V OV : Value) (k i : Nat) (pk pi : Value) (a : Addr) (ni ci : Nat) (x : Nat → Int) (SV : Value) (z0 z : Int) (y : Nat → Int) (m B : Nat) (R : Nat → Lst) (L : Nat → Bool) (w : World) (u5 u22 u23 u24 u25 u26 u27 u28 u29 u30 u31 u32 u33 u34 u35 u36 : Value) : Prop where
  bel : L 14 = false → Below wq.heap.size wq w
  t5 : L 15 = false → u5 = V
  b0 : L 0 = true → u22 = V
  b1 : L 1 = true → ∃ p, u23 = .slice (some ⟨p, 0, none⟩) 0 0 ∧ wq.heap.size ≤ p ∧ p < w.heap.size ∧ (L 6 = false → w.heap[p]? = some (.cells #[] 3 (0, 0)))
  b2 : L 2 = true → u24 = OV
  b3 : L 3 = true → u25 = .int .i64 k
  b4 : L 4 = true → u26 = pk
  b5 : L 5 = true → u27 = .slice (some a) ni ci
  b6 : L 6 = true → ∃ A c, u28 = .slice A ni c ∧ (L 12 = false → w.ownsRow wq.heap.size 3 1 (.slice A ni c) ni (intXs x ni))
  b7 : L 7 = true → u29 = SV
  b8 : L 8 = true → u30 = .int .i64 i
  b9 : L 9 = true → u31 = pi
  b10 : L 10 = true → u32 = .int .i64 z0
  bAL : L 11 = true → ∃ p, u33 = .slice (some ⟨p, 0, none⟩) 1 1 ∧ (L 12 = false → w.heap[p]? = some (.cells #[.int .i64 z] 3 (0, 0)))
  bAP : L 12 = true → ∃ g c, u34 = .slice (some ⟨g, 0, none⟩) (ni + 1) c ∧ (L 14 = false → w.ownsRow wq.heap.size 3 1 (.slice (some ⟨g, 0, none⟩) (ni + 1) c) (ni + 1) (intXs y (ni + 1)))
  bAH : L 13 = true → ∃ p, u35 = .slice (some ⟨p, 0, none⟩) 1 1 ∧ (L 14 = false → w.heap[p]? = some (.cells #[u34] 22 (0, 0)))
  bAV : L 14 = true → ∃ gg c zs f', u36 = .slice (some ⟨gg, 0, none⟩) (m + 1) c ∧ GrwL w B w.heap.size u36 (m + 1) zs R f' ∧ Below B wq w
  bAS : L 15 = true → u5 = u36

/-- What is known while the operations of the region run: a list, copied, gets one more int and is appended. -/
structure F10 (wq : World) (V OV : Value) (k i : Nat) (pk pi : Value) (a : Addr) (ni ci : Nat) (x : Nat → Int) (SV : Value) (z0 z : Int) (y : Nat → Int) (m B : Nat) (R : Nat → Lst) (L : Nat → Bool) (w : World) (u5 u37 u38 u39 u40 u41 u42 u43 u44 u45 u46 u47 u48 u49 u50 u51 u52 : Value) : Prop where
  bel : L 15 = false → Below wq.heap.size wq w
  t5 : L 16 = false → u5 = V
  b0 : L 0 = true → u37 = V
  b1 : L 1 = true → ∃ p, u38 = .slice (some ⟨p, 0, none⟩) 0 0 ∧ wq.heap.size ≤ p ∧ p < w.heap.size ∧ (L 6 = false → w.heap[p]? = some (.cells #[] 3 (0, 0)))
  b2 : L 2 = true → u39 = OV
  b3 : L 3 = true → u40 = .int .i64 k
  b4 : L 4 = true → u41 = pk
  b5 : L 5 = true → u42 = .slice (some a) ni ci
  b6 : L 6 = true → ∃ A c, u43 = .slice A ni c ∧ (L 13 = false → w.ownsRow wq.heap.size 3 1 (.slice A ni c) ni (intXs x ni))
  b7 : L 7 = true → u44 = SV
  b8 : L 8 = true → u45 = .int .i64 i
  b9 : L 9 = true → u46 = pi
  b10 : L 10 = true → u47 = .int .i64 z0
  b11 : L 11 = true → u48 = .int .i64 z
  bAL : L 12 = true → ∃ p, u49 = .slice (some ⟨p, 0, none⟩) 1 1 ∧ (L 13 = false → w.heap[p]? = some (.cells #[.int .i64 z] 3 (0, 0)))
  bAP : L 13 = true → ∃ g c, u50 = .slice (some ⟨g, 0, none⟩) (ni + 1) c ∧ (L 15 = false → w.ownsRow wq.heap.size 3 1 (.slice (some ⟨g, 0, none⟩) (ni + 1) c) (ni + 1) (intXs y (ni + 1)))
  bAH : L 14 = true → ∃ p, u51 = .slice (some ⟨p, 0, none⟩) 1 1 ∧ (L 15 = false → w.heap[p]? = some (.cells #[u50] 22 (0, 0)))
  bAV : L 15 = true → ∃ gg c zs f', u52 = .slice (some ⟨gg, 0, none⟩) (m + 1) c ∧ GrwL w B w.heap.size u52 (m + 1) zs R f' ∧ Below B wq w
  bAS : L 16 = true → u5 = u52

set_option linter.unusedVariables false in
set_option maxRecDepth 100000 in
set_option maxHeartbeats 3200000 in
theorem l12Cubes_any (A : Option Addr) (n cap : Nat) (c : Nat → Int) (w : World) (hn : n ≤ 4) (hc : ∀ i, i < n → 1 ≤ c i ∧ c i ≤ 12) (hr : RdI w w.heap.size A n c) :
    Calls Try.prog 44 #[.slice A n cap] w fun e w' => ∃ A' cap', e = .returned (.slice A' (2 ^ n) cap') ∧ FrL w' w.heap.size A' (2 ^ n) (cbL c n) ∧ Below w.heap.size w w' := by
  have HC := Lib.hid hc
  have HR := Lib.hid hr
  have hlit := rdS_lit w (cbL c 0) rfl
  have HL := Lib.hid hlit
  clear hc hr hlit
  go_enter Try.func44, Try.ntmps44
  go_wp2
  go_loopw [3, 4] (fun ov ix wr => ∃ (i : Nat) (Ao : Option Addr) (co : Nat), i ≤ n ∧ ix = .int .i64 i ∧ ov = .slice Ao (2 ^ i) co ∧ RdS wr wr.heap.size Ao (2 ^ i) (cbL c i) ∧ FrL wr w.heap.size Ao (2 ^ i) (cbL c i) ∧ Below w.heap.size w wr) (fun _ ix _ => n - (intOf ix).toNat)
  case atStart => exact ⟨0, _, _, Nat.zero_le _, rfl, rfl, HL.out.1, HL.out.2, bl_alloc (bl_alloc (Below.refl _ _) _) _⟩
  case round =>
    obtain ⟨i, Ao, co, hi, rfl, rfl, hS, hF, hb⟩ := hrel
    have HS := Lib.hid hS
    have HF := Lib.hid hF
    have HB := Lib.hid hb
    clear hS hF hb HL
    by_cases hlt : i < n
    · have hltI : (i : Int) < (n : Int) := by omega
      have h4 : i ≤ 4 := by omega
      have h16 := pow16 h4
      obtain ⟨M, hM⟩ : ∃ M, 2 ^ i = M := ⟨_, rfl⟩
      have HM := Lib.hid hM
      rw [hM] at HS HF h16 ⊢
      clear hM HF
      have HG0 := Lib.hid (grl_lit wr wr.heap.size (cbL c (i + 1)) (fun _ => 0))
      have HA0 := Lib.hid (bl_alloc (Below.refl wr.heap.size wr) (.cells #[] 22))
      obtain ⟨wo, hwo⟩ : ∃ wo : World, wo = wr := ⟨wr, rfl⟩
      subst hwo
      go_wp2
      go_loopw [5, 6] (fun ov ix wq => ∃ (k hi : Nat) (xs : List Value) (f : Nat → Nat), k ≤ M ∧ ix = .int .i64 k ∧ GrwL wq wo.heap.size hi ov (2 * k) xs (cbL c (i + 1)) f ∧ wo.heap.size ≤ hi ∧ hi ≤ wq.heap.size ∧ Below wo.heap.size wo wq) (fun _ ix _ => M - (intOf ix).toNat)
      case atStart => exact ⟨0, wo.heap.size, [], fun _ => 0, Nat.zero_le _, rfl, HG0.out, Nat.le_refl _, by simp, HA0.out⟩
      case round =>
        obtain ⟨k, hi', xs, f, hk, rfl, hg, h1, h2, hb⟩ := hrel
        have HG := Lib.hid hg
        have HBq := Lib.hid hb
        clear hg hb HG0 HA0
        by_cases hlk : k < M
        · skip
          go_upto_region 9 with fail
          have hI1 : i ≤ 1048576 := by omega
          have hM1 : 2 * k ≤ 10000 := by omega
          have hM2 : 2 * k + 1 ≤ 10000 := by omega
          have hkI : (k : Int) < (M : Int) := by omega
          have hk0 : (0 : Int) ≤ (k : Int) := by omega
          have hi0 : (0 : Int) ≤ (i : Int) := by omega
          have Hyz := Lib.hid (show c i = (cbL c (i + 1) (2 * k)).x i from cb_pos.symm)
          have Hyn := Lib.hid (show -(c i) = (cbL c (i + 1) (2 * k + 1)).x i from cb_neg.symm)
          have Hxy := Lib.hid (intXs_eq (c := (cbL c i k).x) (c' := (cbL c (i + 1) (2 * k)).x) (n := i) fun j hj => (cb_old (b := 0) (by omega) hj).symm)
          have Hxn := Lib.hid (intXs_eq (c := (cbL c i k).x) (c' := (cbL c (i + 1) (2 * k + 1)).x) (n := i) fun j hj => (cb_old (b := 1) (by omega) hj).symm)
          have hci := HC.out i hlt
          have hw1 : wrap64 (-(c i)) = -(c i) := IntWalk.i64_left _ ▸ IntWalk.i64_in _ (by omega)
          have hw2 : IntKind.i64.wrap (-(c i)) = -(c i) := IntWalk.i64_in _ (by omega)
          obtain ⟨bO, oO, eO, hbO, hcO⟩ := (HS.out.below HBq.out) (by omega)
          cases eO
          obtain ⟨aK, cK, hK1, hK2⟩ := hcO k hlk
          obtain ⟨bV, oV, eV, hbV, hcV⟩ := (HR.out.later (bl_trans HB.out HBq.out)) (by omega)
          cases eV
          have hV1 := hcV i hlt
          have HK1 := Lib.hid hK1
          have HK2 := Lib.hid (hK2.more HBq.out.size)
          have HV1 := Lib.hid hV1
          clear hcO hcV hK1 hK2 hV1
          clear hci
          obtain ⟨wq, hwq⟩ : ∃ wq : World, wq = wr := ⟨wr, rfl⟩
          subst hwq
          obtain ⟨u5', hu5⟩ : ∃ u5' : Value, u5' = u5 := ⟨u5, rfl⟩
          subst hu5
          refine region_steps2 (J := fun _ L a' w' => ∃ u5 u22 u23 u24 u25 u26 u27 u28 u29 u30 u31 u32 u33 u34 u35 u36 : Value, a' = ⟨#[.slice (some ⟨bV, oV, none⟩) n cap, undef, .slice none 0 0, .slice (some ⟨bO, oO, none⟩) M co, .int .i64 i, u5, .int .i64 k, .slice (some ⟨w.heap.size, 0, none⟩) 0 0, .slice (some ⟨w.heap.size + 1, 0, none⟩) 1 1, .int .i64 i, .slice (some ⟨bV, oV, none⟩) n cap, .int .i64 n, .bool true, u13, u14, .slice (some ⟨wo.heap.size, 0, none⟩) 0 0, .int .i64 k, .slice (some ⟨bO, oO, none⟩) M co, .int .i64 M, .bool true, u20, u21, u22, u23, u24, u25, u26, u27, u28, u29, u30, u31, u32, u33, u34, u35, u36, u37, u38, u39, u40, u41, u42, u43, u44, u45, u46, u47, u48, u49, u50, u51, u52, u53, undef], []⟩ ∧ F9 wq u5' (.slice (some ⟨bO, oO, none⟩) M co) k i (.pointer (some ⟨bO, oO + k, none⟩)) (.pointer (some ⟨bV, oV + i, none⟩)) aK i cK (cbL c i k).x (.slice (some ⟨bV, oV, none⟩) n cap) (c i) (c i) (cbL c (i + 1) (2 * k)).x (2 * k) wo.heap.size (cbL c (i + 1)) L w' u5 u22 u23 u24 u25 u26 u27 u28 u29 u30 u31 u32 u33 u34 u35 u36) [[], [], [], [], [2, 3], [4], [1, 5], [], [], [7, 8], [9], [10], [6, 11], [12], [0, 13], [0, 1, 2, 3, 4, 5, 6, 7, 8, 9, 10, 11, 12, 13, 14]] (by kernel_rfl) (by kernel_rfl) ?_ ⟨?_, ?_, ?_, ?_, ?_, ?_, ?_, ?_, ?_, ?_, ?_, ?_, ?_, ?_, ?_, ?_, trivial⟩ ?_
          · intro L hL
            exact ⟨_, _, _, _, _, _, _, _, _, _, _, _, _, _, _, _, rfl, ⟨fun _ => (Below.refl wq.heap.size wq).drew, fun _ => rfl, fun h => tfC h (hL 0 (by decide)), fun h => tfC h (hL 1 (by decide)), fun h => tfC h (hL 2 (by decide)), fun h => tfC h (hL 3 (by decide)), fun h => tfC h (hL 4 (by decide)), fun h => tfC h (hL 5 (by decide)), fun h => tfC h (hL 6 (by decide)), fun h => tfC h (hL 7 (by decide)), fun h => tfC h (hL 8 (by decide)), fun h => tfC h (hL 9 (by decide)), fun h => tfC h (hL 10 (by decide)), fun h => tfC h (hL 11 (by decide)), fun h => tfC h (hL 12 (by decide)), fun h => tfC h (hL 13 (by decide)), fun h => tfC h (hL 14 (by decide)), fun h => tfC h (hL 15 (by decide))⟩⟩
          · intro L hL hd hc a w hI K' hK'
            obtain ⟨u5, u22, u23, u24, u25, u26, u27, u28, u29, u30, u31, u32, u33, u34, u35, u36, rfl, hF⟩ := hI
            have hs : L 15 = false := by
              cases h : L 15 with
              | false => rfl
              | true => exact tfC (hc 15 0 (by simp) h) hL
            go_simp
            refine hK' _ _ ⟨_, _, _, _, _, _, _, _, _, _, _, _, _, _, _, _, rfl, ⟨hF.bel, hF.t5, fun _ => hF.t5 hs, hF.b1, hF.b2, hF.b3, hF.b4, hF.b5, hF.b6, hF.b7, hF.b8, hF.b9, hF.b10, hF.bAL, hF.bAP, hF.bAH, hF.bAV, hF.bAS⟩⟩
          · intro L hL hd hc a w hI K' hK'
            obtain ⟨u5, u22, u23, u24, u25, u26, u27, u28, u29, u30, u31, u32, u33, u34, u35, u36, rfl, hF⟩ := hI
            have hn : L 14 = false := by
              cases h : L 14 with
              | false => rfl
              | true => exact tfC (hc 6 1 (by simp) (hc 12 6 (by simp) (hc 13 12 (by simp) (hc 14 13 (by simp) h)))) hL
            go_simp
            refine hK' _ _ ⟨_, _, _, _, _, _, _, _, _, _, _, _, _, _, _, _, rfl, ⟨fun _ => bl_alloc (hF.bel hn) _, hF.t5, hF.b0, fun _ => ⟨_, rfl, (hF.bel hn).size, by simp, fun _ => heap_alloc_new _ _⟩, hF.b2, hF.b3, hF.b4, hF.b5, fun h => tfC (hc 6 1 (by simp) h) hL, hF.b7, hF.b8, hF.b9, hF.b10, fun h => by obtain ⟨p, e, h1⟩ := hF.bAL h; exact ⟨p, e, fun h2 => ((bl_alloc (Below.refl w.heap.size w) _).block p (lblock_lt (h1 h2))).trans (h1 h2)⟩, fun h => tfC (hc 6 1 (by simp) (hc 12 6 (by simp) h)) hL, fun h => tfC (hc 6 1 (by simp) (hc 12 6 (by simp) (hc 13 12 (by simp) h))) hL, fun h => tfC (hc 6 1 (by simp) (hc 12 6 (by simp) (hc 13 12 (by simp) (hc 14 13 (by simp) h)))) hL, hF.bAS⟩⟩
          · intro L hL hd hc a w hI K' hK'
            obtain ⟨u5, u22, u23, u24, u25, u26, u27, u28, u29, u30, u31, u32, u33, u34, u35, u36, rfl, hF⟩ := hI
            go_simp
            refine hK' _ _ ⟨_, _, _, _, _, _, _, _, _, _, _, _, _, _, _, _, rfl, ⟨hF.bel, hF.t5, hF.b0, hF.b1, fun _ => rfl, hF.b3, hF.b4, hF.b5, hF.b6, hF.b7, hF.b8, hF.b9, hF.b10, hF.bAL, hF.bAP, hF.bAH, hF.bAV, hF.bAS⟩⟩
          · intro L hL hd hc a w hI K' hK'
            obtain ⟨u5, u22, u23, u24, u25, u26, u27, u28, u29, u30, u31, u32, u33, u34, u35, u36, rfl, hF⟩ := hI
            go_simp
            refine hK' _ _ ⟨_, _, _, _, _, _, _, _, _, _, _, _, _, _, _, _, rfl, ⟨hF.bel, hF.t5, hF.b0, hF.b1, hF.b2, fun _ => rfl, hF.b4, hF.b5, hF.b6, hF.b7, hF.b8, hF.b9, hF.b10, hF.bAL, hF.bAP, hF.bAH, hF.bAV, hF.bAS⟩⟩
          · intro L hL hd hc a w hI K' hK'
            obtain ⟨u5, u22, u23, u24, u25, u26, u27, u28, u29, u30, u31, u32, u33, u34, u35, u36, rfl, hF⟩ := hI
            obtain rfl := hF.b2 (hd 2 (by simp))
            obtain rfl := hF.b3 (hd 3 (by simp))
            go_simp
            refine hK' _ _ ⟨_, _, _, _, _, _, _, _, _, _, _, _, _, _, _, _, rfl, ⟨hF.bel, hF.t5, hF.b0, hF.b1, hF.b2, hF.b3, fun _ => rfl, hF.b5, hF.b6, hF.b7, hF.b8, hF.b9, hF.b10, hF.bAL, hF.bAP, hF.bAH, hF.bAV, hF.bAS⟩⟩
          · intro L hL hd hc a w hI K' hK'
            obtain ⟨u5, u22, u23, u24, u25, u26, u27, u28, u29, u30, u31, u32, u33, u34, u35, u36, rfl, hF⟩ := hI
            have hn : L 14 = false := by
              cases h : L 14 with
              | false => rfl
              | true => exact tfC (hc 6 5 (by simp) (hc 12 6 (by simp) (hc 13 12 (by simp) (hc 14 13 (by simp) h)))) hL
            obtain rfl := hF.b4 (hd 4 (by simp))
            have z := kc (hF.bel hn) HK1.out
            go_simp
            refine hK' _ _ ⟨_, _, _, _, _, _, _, _, _, _, _, _, _, _, _, _, rfl, ⟨hF.bel, hF.t5, hF.b0, hF.b1, hF.b2, hF.b3, hF.b4, fun _ => rfl, hF.b6, hF.b7, hF.b8, hF.b9, hF.b10, hF.bAL, hF.bAP, hF.bAH, hF.bAV, hF.bAS⟩⟩
          · intro L hL hd hc a w hI K' hK'
            obtain ⟨u5, u22, u23, u24, u25, u26, u27, u28, u29, u30, u31, u32, u33, u34, u35, u36, rfl, hF⟩ := hI
            have hn : L 14 = false := by
              cases h : L 14 with
              | false => rfl
              | true => exact tfC (hc 12 6 (by simp) (hc 13 12 (by simp) (hc 14 13 (by simp) h))) hL
            obtain ⟨p, rfl, p1, p2, p3⟩ := hF.b1 (hd 1 (by simp))
            obtain rfl := hF.b5 (hd 5 (by simp))
            have hp := p3 hL
            refine wp_cpJ (B0 := wq.heap.size) _ _ (by rfl) (by rfl) (by rfl) (by rfl) ⟨rfl, .inr ⟨p, 0, #[], rfl, p1, hp, Nat.le_refl _, by unfold maxLen; omega, rfl, rfl⟩⟩ (HK2.out.later (hF.bel hn)) (hF.bel hn).size hI1 ?_
            intro A c8 wv how hgr
            have hsz := hgr.size
            refine hK' _ _ ⟨_, _, _, _, _, _, _, _, _, _, _, _, _, _, _, _, rfl, ⟨fun _ => (hF.bel hn).grown hgr (hF.bel hn).size (fun j e => by cases e; exact p1), hF.t5, hF.b0, fun _ => ⟨p, rfl, p1, by omega, fun h => tfC (show true = true from rfl) h⟩, hF.b2, hF.b3, hF.b4, hF.b5, fun _ => ⟨A, c8, rfl, fun _ => how⟩, hF.b7, hF.b8, hF.b9, hF.b10, fun h => by obtain ⟨q, e, h1⟩ := hF.bAL h; exact ⟨q, e, fun h2 => (hgr.block q (lblock_lt (h1 h2)) (by intro e'; simp only [Value.ownBlock, Option.some.injEq] at e'; subst e'; have := (h1 h2).symm.trans hp; cases this)).trans (h1 h2)⟩, fun h => tfC (hc 12 6 (by simp) h) hL, fun h => tfC (hc 12 6 (by simp) (hc 13 12 (by simp) h)) hL, fun h => tfC (hc 12 6 (by simp) (hc 13 12 (by simp) (hc 14 13 (by simp) h))) hL, hF.bAS⟩⟩
          · intro L hL hd hc a w hI K' hK'
            obtain ⟨u5, u22, u23, u24, u25, u26, u27, u28, u29, u30, u31, u32, u33, u34, u35, u36, rfl, hF⟩ := hI
            go_simp
            refine hK' _ _ ⟨_, _, _, _, _, _, _, _, _, _, _, _, _, _, _, _, rfl, ⟨hF.bel, hF.t5, hF.b0, hF.b1, hF.b2, hF.b3, hF.b4, hF.b5, hF.b6, fun _ => rfl, hF.b8, hF.b9, hF.b10, hF.bAL, hF.bAP, hF.bAH, hF.bAV, hF.bAS⟩⟩
          · intro L hL hd hc a w hI K' hK'
            obtain ⟨u5, u22, u23, u24, u25, u26, u27, u28, u29, u30, u31, u32, u33, u34, u35, u36, rfl, hF⟩ := hI
            go_simp
            refine hK' _ _ ⟨_, _, _, _, _, _, _, _, _, _, _, _, _, _, _, _, rfl, ⟨hF.bel, hF.t5, hF.b0, hF.b1, hF.b2, hF.b3, hF.b4, hF.b5, hF.b6, hF.b7, fun _ => rfl, hF.b9, hF.b10, hF.bAL, hF.bAP, hF.bAH, hF.bAV, hF.bAS⟩⟩
          · intro L hL hd hc a w hI K' hK'
            obtain ⟨u5, u22, u23, u24, u25, u26, u27, u28, u29, u30, u31, u32, u33, u34, u35, u36, rfl, hF⟩ := hI
            obtain rfl := hF.b7 (hd 7 (by simp))
            obtain rfl := hF.b8 (hd 8 (by simp))
            go_simp
            refine hK' _ _ ⟨_, _, _, _, _, _, _, _, _, _, _, _, _, _, _, _, rfl, ⟨hF.bel, hF.t5, hF.b0, hF.b1, hF.b2, hF.b3, hF.b4, hF.b5, hF.b6, hF.b7, hF.b8, fun _ => rfl, hF.b10, hF.bAL, hF.bAP, hF.bAH, hF.bAV, hF.bAS⟩⟩
          · intro L hL hd hc a w hI K' hK'
            obtain ⟨u5, u22, u23, u24, u25, u26, u27, u28, u29, u30, u31, u32, u33, u34, u35, u36, rfl, hF⟩ := hI
            have hn : L 14 = false := by
              cases h : L 14 with
              | false => rfl
              | true => exact tfC (hc 11 10 (by simp) (hc 12 11 (by simp) (hc 13 12 (by simp) (hc 14 13 (by simp) h)))) hL
            obtain rfl := hF.b9 (hd 9 (by simp))
            have z := kc (hF.bel hn) HV1.out
            go_simp
            refine hK' _ _ ⟨_, _, _, _, _, _, _, _, _, _, _, _, _, _, _, _, rfl, ⟨hF.bel, hF.t5, hF.b0, hF.b1, hF.b2, hF.b3, hF.b4, hF.b5, hF.b6, hF.b7, hF.b8, hF.b9, fun _ => rfl, hF.bAL, hF.bAP, hF.bAH, hF.bAV, hF.bAS⟩⟩
          · intro L hL hd hc a w hI K' hK'
            obtain ⟨u5, u22, u23, u24, u25, u26, u27, u28, u29, u30, u31, u32, u33, u34, u35, u36, rfl, hF⟩ := hI
            have hn : L 14 = false := by
              cases h : L 14 with
              | false => rfl
              | true => exact tfC (hc 12 11 (by simp) (hc 13 12 (by simp) (hc 14 13 (by simp) h))) hL
            obtain rfl := hF.b10 (hd 10 (by simp))
            go_simp
            refine hK' _ _ ⟨_, _, _, _, _, _, _, _, _, _, _, _, _, _, _, _, rfl, ⟨fun _ => bl_alloc (hF.bel hn) _, hF.t5, hF.b0, fun h => by obtain ⟨p, e, p1, p2, p3⟩ := hF.b1 h; exact ⟨p, e, p1, by simp; omega, fun h2 => ((bl_alloc (Below.refl w.heap.size w) _).block p p2).trans (p3 h2)⟩, hF.b2, hF.b3, hF.b4, hF.b5, fun h => by obtain ⟨A, c8, e, h1⟩ := hF.b6 h; exact ⟨A, c8, e, fun h2 => row_below' (h1 h2) (bl_alloc (Below.refl w.heap.size w) _)⟩, hF.b7, hF.b8, hF.b9, hF.b10, fun _ => ⟨_, rfl, fun _ => heap_alloc_new _ _⟩, fun h => tfC (hc 12 11 (by simp) h) hL, fun h => tfC (hc 12 11 (by simp) (hc 13 12 (by simp) h)) hL, fun h => tfC (hc 12 11 (by simp) (hc 13 12 (by simp) (hc 14 13 (by simp) h))) hL, hF.bAS⟩⟩
          · intro L hL hd hc a w hI K' hK'
            obtain ⟨u5, u22, u23, u24, u25, u26, u27, u28, u29, u30, u31, u32, u33, u34, u35, u36, rfl, hF⟩ := hI
            have hn : L 14 = false := by
              cases h : L 14 with
              | false => rfl
              | true => exact tfC (hc 13 12 (by simp) (hc 14 13 (by simp) h)) hL
            obtain ⟨A, c8, rfl, hA⟩ := hF.b6 (hd 6 (by simp))
            obtain ⟨p, rfl, hp⟩ := hF.bAL (hd 11 (by simp))
            refine wp_addJ (B0 := wq.heap.size) (y := (cbL c (i + 1) (2 * k)).x) _ _ (by rfl) (by rfl) (by rfl) (Hxy.out ▸ hA hL) (hp hL) Hyz.out (hF.bel hn).size hI1 ?_
            intro g c9 wv how hgr
            have hsz := hgr.size
            refine hK' _ _ ⟨_, _, _, _, _, _, _, _, _, _, _, _, _, _, _, _, rfl, ⟨fun _ => (hF.bel hn).grown hgr (hF.bel hn).size (fun j e => ((hA hL).lt j e).1), hF.t5, hF.b0, fun h => by obtain ⟨p, e, p1, p2, p3⟩ := hF.b1 h; exact ⟨p, e, p1, by omega, fun h6 => tfC (hd 6 (by simp)) h6⟩, hF.b2, hF.b3, hF.b4, hF.b5, fun _ => ⟨_, _, rfl, fun h => tfC (show true = true from rfl) h⟩, hF.b7, hF.b8, hF.b9, hF.b10, fun _ => ⟨_, rfl, fun h => tfC (show true = true from rfl) h⟩, fun _ => ⟨g, c9, rfl, fun _ => how⟩, fun h => tfC (hc 13 12 (by simp) h) hL, fun h => tfC (hc 13 12 (by simp) (hc 14 13 (by simp) h)) hL, hF.bAS⟩⟩
          · intro L hL hd hc a w hI K' hK'
            obtain ⟨u5, u22, u23, u24, u25, u26, u27, u28, u29, u30, u31, u32, u33, u34, u35, u36, rfl, hF⟩ := hI
            have hn : L 14 = false := by
              cases h : L 14 with
              | false => rfl
              | true => exact tfC (hc 14 13 (by simp) h) hL
            obtain ⟨g, c8, rfl, hA⟩ := hF.bAP (hd 12 (by simp))
            go_simp
            refine hK' _ _ ⟨_, _, _, _, _, _, _, _, _, _, _, _, _, _, _, _, rfl, ⟨fun _ => bl_alloc (hF.bel hn) _, hF.t5, hF.b0, fun h => by obtain ⟨p, e, p1, p2, p3⟩ := hF.b1 h; exact ⟨p, e, p1, by simp; omega, fun h6 => tfC (hc 12 6 (by simp) (hd 12 (by simp))) h6⟩, hF.b2, hF.b3, hF.b4, hF.b5, fun h => by obtain ⟨A, c8, e, h1⟩ := hF.b6 h; exact ⟨A, c8, e, fun h2 => tfC (hd 12 (by simp)) h2⟩, hF.b7, hF.b8, hF.b9, hF.b10, fun h => by obtain ⟨p, e, h1⟩ := hF.bAL h; exact ⟨p, e, fun h2 => tfC (hd 12 (by simp)) h2⟩, fun _ => ⟨g, c8, rfl, fun h => row_below' (hA h) (bl_alloc (Below.refl w.heap.size w) _)⟩, fun _ => ⟨_, rfl, fun _ => heap_alloc_new _ _⟩, fun h => tfC (hc 14 13 (by simp) h) hL, hF.bAS⟩⟩
          · intro L hL hd hc a w hI K' hK'
            obtain ⟨u5, u22, u23, u24, u25, u26, u27, u28, u29, u30, u31, u32, u33, u34, u35, u36, rfl, hF⟩ := hI
            obtain rfl := hF.b0 (hd 0 (by simp))
            obtain ⟨g, c8, rfl, hA⟩ := hF.bAP (hc 13 12 (by simp) (hd 13 (by simp)))
            obtain ⟨p, rfl, hp⟩ := hF.bAH (hd 13 (by simp))
            refine wp_grl1 (r := cbL c (i + 1)) (k := 2 * k) (A := some ⟨g, 0, none⟩) (cap := c8) _ _ (by rfl) (HG.out.below (hF.bel hL)) h1 (Nat.le_trans h2 (hF.bel hL).size) (by rfl) (by rfl) (by rw [(show cbL c (i + 1) (2 * k) = ⟨i + 1, (cbL c (i + 1) (2 * k)).x⟩ from rfl)]; exact hp hL) (by rw [(show cbL c (i + 1) (2 * k) = ⟨i + 1, (cbL c (i + 1) (2 * k)).x⟩ from rfl)]; exact (row_fri (hA hL)).more h2) hM1 ?_
            intro gg c9 wv zs f9 hg hgr
            have hsz := hgr.size
            refine hK' _ _ ⟨_, _, _, _, _, _, _, _, _, _, _, _, _, _, _, _, rfl, ⟨fun h => tfC (show true = true from rfl) h, hF.t5, hF.b0, fun h => by obtain ⟨p, e, p1, p2, p3⟩ := hF.b1 h; exact ⟨p, e, p1, by omega, fun h6 => tfC (hc 12 6 (by simp) (hc 13 12 (by simp) (hd 13 (by simp)))) h6⟩, hF.b2, hF.b3, hF.b4, hF.b5, fun h => by obtain ⟨A, c8, e, h1⟩ := hF.b6 h; exact ⟨A, c8, e, fun h2 => tfC (hc 13 12 (by simp) (hd 13 (by simp))) h2⟩, hF.b7, hF.b8, hF.b9, hF.b10, fun h => by obtain ⟨p, e, h1⟩ := hF.bAL h; exact ⟨p, e, fun h2 => tfC (hc 13 12 (by simp) (hd 13 (by simp))) h2⟩, fun _ => ⟨_, _, rfl, fun h => tfC (show true = true from rfl) h⟩, fun _ => ⟨_, rfl, fun h => tfC (show true = true from rfl) h⟩, fun _ => ⟨gg, c9, zs, f9, rfl, hg, ((hF.bel hL).mono (Nat.le_trans h1 h2)).grown hgr (Nat.le_trans (Nat.le_trans h1 h2) (hF.bel hL).size) (fun j e => (HG.out.lt j e).1)⟩, fun h => tfC (hc 15 14 (by simp) h) hL⟩⟩
          · intro L hL hd hc a w hI K' hK'
            obtain ⟨u5, u22, u23, u24, u25, u26, u27, u28, u29, u30, u31, u32, u33, u34, u35, u36, rfl, hF⟩ := hI
            obtain ⟨gg, c8, zs, f9, rfl, hg, hbw⟩ := hF.bAV (hd 14 (by simp))
            go_simp
            refine hK' _ _ ⟨_, _, _, _, _, _, _, _, _, _, _, _, _, _, _, _, rfl, ⟨fun h => tfC (hd 14 (by simp)) h, fun h => tfC (show true = true from rfl) h, hF.b0, hF.b1, hF.b2, hF.b3, hF.b4, hF.b5, hF.b6, hF.b7, hF.b8, hF.b9, hF.b10, hF.bAL, hF.bAP, hF.bAH, fun _ => ⟨gg, c8, zs, f9, rfl, hg, hbw⟩, fun _ => rfl⟩⟩
          · intro L hL a' w6 hI
            obtain ⟨u5, u22, u23, u24, u25, u26, u27, u28, u29, u30, u31, u32, u33, u34, u35, u36, rfl, hF⟩ := hI
            obtain ⟨gg, c7, zs, f9, e36, hg, hbw⟩ := hF.bAV (hL 14)
            obtain rfl := hF.bAS (hL 15)
            subst e36
            have HG9 := Lib.hid hg
            have HB9 := Lib.hid (HBq.out.trans (hbw.mono (Nat.le_refl _)))
            have hsz9 := hbw.size
            have HWW := Lib.hid hbw
            clear hF hL hg hbw HG HK1 HK2 HV1
            obtain ⟨bOx, oOx, eO, hbO, hcO⟩ := (HS.out.below HB9.out) (by omega)
            cases eO
            obtain ⟨aKx, cKx, hK1, hK2⟩ := hcO k hlk
            obtain ⟨bVx, oVx, eV, hbV, hcV⟩ := (HR.out.later (bl_trans HB.out HB9.out)) (by omega)
            cases eV
            have hV1 := hcV i hlt
            have HK1x := Lib.hid hK1
            have HK2x := Lib.hid (hK2.more HB9.out.size)
            have HV1x := Lib.hid hV1
            clear hcO hcV hK1 hK2 hV1
            have hB9 := Nat.le_trans (Nat.le_trans h1 h2) hsz9
            go_upto_region 10 with fail
            obtain ⟨wp, hwp⟩ : ∃ wp : World, wp = w6 := ⟨w6, rfl⟩
            subst hwp
            refine region_steps2 (J := fun _ L a' w' => ∃ u5 u37 u38 u39 u40 u41 u42 u43 u44 u45 u46 u47 u48 u49 u50 u51 u52 : Value, a' = ⟨#[.slice (some ⟨bV, oV, none⟩) n cap, undef, .slice none 0 0, .slice (some ⟨bO, oO, none⟩) M co, .int .i64 i, u5, .int .i64 k, .slice (some ⟨w.heap.size, 0, none⟩) 0 0, .slice (some ⟨w.heap.size + 1, 0, none⟩) 1 1, .int .i64 i, .slice (some ⟨bV, oV, none⟩) n cap, .int .i64 n, .bool true, u13, u14, .slice (some ⟨wo.heap.size, 0, none⟩) 0 0, .int .i64 k, .slice (some ⟨bO, oO, none⟩) M co, .int .i64 M, .bool true, u20, u21, u22, u23, u24, u25, u26, u27, u28, u29, u30, u31, u32, u33, u34, u35, .slice (some ⟨gg, 0, none⟩) (2 * k + 1) c7, u37, u38, u39, u40, u41, u42, u43, u44, u45, u46, u47, u48, u49, u50, u51, u52, u53, undef], []⟩ ∧ F10 wp (.slice (some ⟨gg, 0, none⟩) (2 * k + 1) c7) (.slice (some ⟨bO, oO, none⟩) M co) k i (.pointer (some ⟨bO, oO + k, none⟩)) (.pointer (some ⟨bV, oV + i, none⟩)) aKx i cKx (cbL c i k).x (.slice (some ⟨bV, oV, none⟩) n cap) (c i) (-(c i)) (cbL c (i + 1) (2 * k + 1)).x (2 * k + 1) wo.heap.size (cbL c (i + 1)) L w' u5 u37 u38 u39 u40 u41 u42 u43 u44 u45 u46 u47 u48 u49 u50 u51 u52) [[], [], [], [], [2, 3], [4], [1, 5], [], [], [7, 8], [9], [10], [11], [6, 12], [13], [0, 14], [0, 1, 2, 3, 4, 5, 6, 7, 8, 9, 10, 11, 12, 13, 14, 15]] (by kernel_rfl) (by kernel_rfl) ?_ ⟨?_, ?_, ?_, ?_, ?_, ?_, ?_, ?_, ?_, ?_, ?_, ?_, ?_, ?_, ?_, ?_, ?_, trivial⟩ ?_
            · intro L hL
              exact ⟨_, _, _, _, _, _, _, _, _, _, _, _, _, _, _, _, _, rfl, ⟨fun _ => (Below.refl wp.heap.size wp).drew, fun _ => rfl, fun h => tfC h (hL 0 (by decide)), fun h => tfC h (hL 1 (by decide)), fun h => tfC h (hL 2 (by decide)), fun h => tfC h (hL 3 (by decide)), fun h => tfC h (hL 4 (by decide)), fun h => tfC h (hL 5 (by decide)), fun h => tfC h (hL 6 (by decide)), fun h => tfC h (hL 7 (by decide)), fun h => tfC h (hL 8 (by decide)), fun h => tfC h (hL 9 (by decide)), fun h => tfC h (hL 10 (by decide)), fun h => tfC h (hL 11 (by decide)), fun h => tfC h (hL 12 (by decide)), fun h => tfC h (hL 13 (by decide)), fun h => tfC h (hL 14 (by decide)), fun h => tfC h (hL 15 (by decide)), fun h => tfC h (hL 16 (by decide))⟩⟩
            · intro L hL hd hc a w hI K' hK'
              obtain ⟨u5, u37, u38, u39, u40, u41, u42, u43, u44, u45, u46, u47, u48, u49, u50, u51, u52, rfl, hF⟩ := hI
              have hs : L 16 = false := by
                cases h : L 16 with
                | false => rfl
                | true => exact tfC (hc 16 0 (by simp) h) hL
              go_simp
              refine hK' _ _ ⟨_, _, _, _, _, _, _, _, _, _, _, _, _, _, _, _, _, rfl, ⟨hF.bel, hF.t5, fun _ => hF.t5 hs, hF.b1, hF.b2, hF.b3, hF.b4, hF.b5, hF.b6, hF.b7, hF.b8, hF.b9, hF.b10, hF.b11, hF.bAL, hF.bAP, hF.bAH, hF.bAV, hF.bAS⟩⟩
            · intro L hL hd hc a w hI K' hK'
              obtain ⟨u5, u37, u38, u39, u40, u41, u42, u43, u44, u45, u46, u47, u48, u49, u50, u51, u52, rfl, hF⟩ := hI
              have hn : L 15 = false := by
                cases h : L 15 with
                | false => rfl
                | true => exact tfC (hc 6 1 (by simp) (hc 13 6 (by simp) (hc 14 13 (by simp) (hc 15 14 (by simp) h)))) hL
              go_simp
              refine hK' _ _ ⟨_, _, _, _, _, _, _, _, _, _, _, _, _, _, _, _, _, rfl, ⟨fun _ => bl_alloc (hF.bel hn) _, hF.t5, hF.b0, fun _ => ⟨_, rfl, (hF.bel hn).size, by simp, fun _ => heap_alloc_new _ _⟩, hF.b2, hF.b3, hF.b4, hF.b5, fun h => tfC (hc 6 1 (by simp) h) hL, hF.b7, hF.b8, hF.b9, hF.b10, hF.b11, fun h => by obtain ⟨p, e, h1⟩ := hF.bAL h; exact ⟨p, e, fun h2 => ((bl_alloc (Below.refl w.heap.size w) _).block p (lblock_lt (h1 h2))).trans (h1 h2)⟩, fun h => tfC (hc 6 1 (by simp) (hc 13 6 (by simp) h)) hL, fun h => tfC (hc 6 1 (by simp) (hc 13 6 (by simp) (hc 14 13 (by simp) h))) hL, fun h => tfC (hc 6 1 (by simp) (hc 13 6 (by simp) (hc 14 13 (by simp) (hc 15 14 (by simp) h)))) hL, hF.bAS⟩⟩
            · intro L hL hd hc a w hI K' hK'
              obtain ⟨u5, u37, u38, u39, u40, u41, u42, u43, u44, u45, u46, u47, u48, u49, u50, u51, u52, rfl, hF⟩ := hI
              go_simp
              refine hK' _ _ ⟨_, _, _, _, _, _, _, _, _, _, _, _, _, _, _, _, _, rfl, ⟨hF.bel, hF.t5, hF.b0, hF.b1, fun _ => rfl, hF.b3, hF.b4, hF.b5, hF.b6, hF.b7, hF.b8, hF.b9, hF.b10, hF.b11, hF.bAL, hF.bAP, hF.bAH, hF.bAV, hF.bAS⟩⟩
            · intro L hL hd hc a w hI K' hK'
              obtain ⟨u5, u37, u38, u39, u40, u41, u42, u43, u44, u45, u46, u47, u48, u49, u50, u51, u52, rfl, hF⟩ := hI
              go_simp
              refine hK' _ _ ⟨_, _, _, _, _, _, _, _, _, _, _, _, _, _, _, _, _, rfl, ⟨hF.bel, hF.t5, hF.b0, hF.b1, hF.b2, fun _ => rfl, hF.b4, hF.b5, hF.b6, hF.b7, hF.b8, hF.b9, hF.b10, hF.b11, hF.bAL, hF.bAP, hF.bAH, hF.bAV, hF.bAS⟩⟩
            · intro L hL hd hc a w hI K' hK'
              obtain ⟨u5, u37, u38, u39, u40, u41, u42, u43, u44, u45, u46, u47, u48, u49, u50, u51, u52, rfl, hF⟩ := hI
              obtain rfl := hF.b2 (hd 2 (by simp))
              obtain rfl := hF.b3 (hd 3 (by simp))
              go_simp
              refine hK' _ _ ⟨_, _, _, _, _, _, _, _, _, _, _, _, _, _, _, _, _, rfl, ⟨hF.bel, hF.t5, hF.b0, hF.b1, hF.b2, hF.b3, fun _ => rfl, hF.b5, hF.b6, hF.b7, hF.b8, hF.b9, hF.b10, hF.b11, hF.bAL, hF.bAP, hF.bAH, hF.bAV, hF.bAS⟩⟩
            · intro L hL hd hc a w hI K' hK'
              obtain ⟨u5, u37, u38, u39, u40, u41, u42, u43, u44, u45, u46, u47, u48, u49, u50, u51, u52, rfl, hF⟩ := hI
              have hn : L 15 = false := by
                cases h : L 15 with
                | false => rfl
                | true => exact tfC (hc 6 5 (by simp) (hc 13 6 (by simp) (hc 14 13 (by simp) (hc 15 14 (by simp) h)))) hL
              obtain rfl := hF.b4 (hd 4 (by simp))
              have z := kc (hF.bel hn) HK1x.out
              go_simp
              refine hK' _ _ ⟨_, _, _, _, _, _, _, _, _, _, _, _, _, _, _, _, _, rfl, ⟨hF.bel, hF.t5, hF.b0, hF.b1, hF.b2, hF.b3, hF.b4, fun _ => rfl, hF.b6, hF.b7, hF.b8, hF.b9, hF.b10, hF.b11, hF.bAL, hF.bAP, hF.bAH, hF.bAV, hF.bAS⟩⟩
            · intro L hL hd hc a w hI K' hK'
              obtain ⟨u5, u37, u38, u39, u40, u41, u42, u43, u44, u45, u46, u47, u48, u49, u50, u51, u52, rfl, hF⟩ := hI
              have hn : L 15 = false := by
                cases h : L 15 with
                | false => rfl
                | true => exact tfC (hc 13 6 (by simp) (hc 14 13 (by simp) (hc 15 14 (by simp) h))) hL
              obtain ⟨p, rfl, p1, p2, p3⟩ := hF.b1 (hd 1 (by simp))
              obtain rfl := hF.b5 (hd 5 (by simp))
              have hp := p3 hL
              refine wp_cpJ (B0 := wp.heap.size) _ _ (by rfl) (by rfl) (by rfl) (by rfl) ⟨rfl, .inr ⟨p, 0, #[], rfl, p1, hp, Nat.le_refl _, by unfold maxLen; omega, rfl, rfl⟩⟩ (HK2x.out.later (hF.bel hn)) (hF.bel hn).size hI1 ?_
              intro A c8 wv how hgr
              have hsz := hgr.size
              refine hK' _ _ ⟨_, _, _, _, _, _, _, _, _, _, _, _, _, _, _, _, _, rfl, ⟨fun _ => (hF.bel hn).grown hgr (hF.bel hn).size (fun j e => by cases e; exact p1), hF.t5, hF.b0, fun _ => ⟨p, rfl, p1, by omega, fun h => tfC (show true = true from rfl) h⟩, hF.b2, hF.b3, hF.b4, hF.b5, fun _ => ⟨A, c8, rfl, fun _ => how⟩, hF.b7, hF.b8, hF.b9, hF.b10, hF.b11, fun h => by obtain ⟨q, e, h1⟩ := hF.bAL h; exact ⟨q, e, fun h2 => (hgr.block q (lblock_lt (h1 h2)) (by intro e'; simp only [Value.ownBlock, Option.some.injEq] at e'; subst e'; have := (h1 h2).symm.trans hp; cases this)).trans (h1 h2)⟩, fun h => tfC (hc 13 6 (by simp) h) hL, fun h => tfC (hc 13 6 (by simp) (hc 14 13 (by simp) h)) hL, fun h => tfC (hc 13 6 (by simp) (hc 14 13 (by simp) (hc 15 14 (by simp) h))) hL, hF.bAS⟩⟩
            · intro L hL hd hc a w hI K' hK'
              obtain ⟨u5, u37, u38, u39, u40, u41, u42, u43, u44, u45, u46, u47, u48, u49, u50, u51, u52, rfl, hF⟩ := hI
              go_simp
              refine hK' _ _ ⟨_, _, _, _, _, _, _, _, _, _, _, _, _, _, _, _, _, rfl, ⟨hF.bel, hF.t5, hF.b0, hF.b1, hF.b2, hF.b3, hF.b4, hF.b5, hF.b6, fun _ => rfl, hF.b8, hF.b9, hF.b10, hF.b11, hF.bAL, hF.bAP, hF.bAH, hF.bAV, hF.bAS⟩⟩
            · intro L hL hd hc a w hI K' hK'
              obtain ⟨u5, u37, u38, u39, u40, u41, u42, u43, u44, u45, u46, u47, u48, u49, u50, u51, u52, rfl, hF⟩ := hI
              go_simp
              refine hK' _ _ ⟨_, _, _, _, _, _, _, _, _, _, _, _, _, _, _, _, _, rfl, ⟨hF.bel, hF.t5, hF.b0, hF.b1, hF.b2, hF.b3, hF.b4, hF.b5, hF.b6, hF.b7, fun _ => rfl, hF.b9, hF.b10, hF.b11, hF.bAL, hF.bAP, hF.bAH, hF.bAV, hF.bAS⟩⟩
            · intro L hL hd hc a w hI K' hK'
              obtain ⟨u5, u37, u38, u39, u40, u41, u42, u43, u44, u45, u46, u47, u48, u49, u50, u51, u52, rfl, hF⟩ := hI
              obtain rfl := hF.b7 (hd 7 (by simp))
              obtain rfl := hF.b8 (hd 8 (by simp))
              go_simp
              refine hK' _ _ ⟨_, _, _, _, _, _, _, _, _, _, _, _, _, _, _, _, _, rfl, ⟨hF.bel, hF.t5, hF.b0, hF.b1, hF.b2, hF.b3, hF.b4, hF.b5, hF.b6, hF.b7, hF.b8, fun _ => rfl, hF.b10, hF.b11, hF.bAL, hF.bAP, hF.bAH, hF.bAV, hF.bAS⟩⟩
            · intro L hL hd hc a w hI K' hK'
              obtain ⟨u5, u37, u38, u39, u40, u41, u42, u43, u44, u45, u46, u47, u48, u49, u50, u51, u52, rfl, hF⟩ := hI
              have hn : L 15 = false := by
                cases h : L 15 with
                | false => rfl
                | true => exact tfC (hc 11 10 (by simp) (hc 12 11 (by simp) (hc 13 12 (by simp) (hc 14 13 (by simp) (hc 15 14 (by simp) h))))) hL
              obtain rfl := hF.b9 (hd 9 (by simp))
              have z := kc (hF.bel hn) HV1x.out
              go_simp
              refine hK' _ _ ⟨_, _, _, _, _, _, _, _, _, _, _, _, _, _, _, _, _, rfl, ⟨hF.bel, hF.t5, hF.b0, hF.b1, hF.b2, hF.b3, hF.b4, hF.b5, hF.b6, hF.b7, hF.b8, hF.b9, fun _ => rfl, hF.b11, hF.bAL, hF.bAP, hF.bAH, hF.bAV, hF.bAS⟩⟩
            · intro L hL hd hc a w hI K' hK'
              obtain ⟨u5, u37, u38, u39, u40, u41, u42, u43, u44, u45, u46, u47, u48, u49, u50, u51, u52, rfl, hF⟩ := hI
              obtain rfl := hF.b10 (hd 10 (by simp))
              go_simp
              refine hK' _ _ ⟨_, _, _, _, _, _, _, _, _, _, _, _, _, _, _, _, _, rfl, ⟨hF.bel, hF.t5, hF.b0, hF.b1, hF.b2, hF.b3, hF.b4, hF.b5, hF.b6, hF.b7, hF.b8, hF.b9, hF.b10, fun _ => rfl, hF.bAL, hF.bAP, hF.bAH, hF.bAV, hF.bAS⟩⟩
            · intro L hL hd hc a w hI K' hK'
              obtain ⟨u5, u37, u38, u39, u40, u41, u42, u43, u44, u45, u46, u47, u48, u49, u50, u51, u52, rfl, hF⟩ := hI
              have hn : L 15 = false := by
                cases h : L 15 with
                | false => rfl
                | true => exact tfC (hc 13 12 (by simp) (hc 14 13 (by simp) (hc 15 14 (by simp) h))) hL
              obtain rfl := hF.b11 (hd 11 (by simp))
              go_simp
              refine hK' _ _ ⟨_, _, _, _, _, _, _, _, _, _, _, _, _, _, _, _, _, rfl, ⟨fun _ => bl_alloc (hF.bel hn) _, hF.t5, hF.b0, fun h => by obtain ⟨p, e, p1, p2, p3⟩ := hF.b1 h; exact ⟨p, e, p1, by simp; omega, fun h2 => ((bl_alloc (Below.refl w.heap.size w) _).block p p2).trans (p3 h2)⟩, hF.b2, hF.b3, hF.b4, hF.b5, fun h => by obtain ⟨A, c8, e, h1⟩ := hF.b6 h; exact ⟨A, c8, e, fun h2 => row_below' (h1 h2) (bl_alloc (Below.refl w.heap.size w) _)⟩, hF.b7, hF.b8, hF.b9, hF.b10, hF.b11, fun _ => ⟨_, rfl, fun _ => heap_alloc_new _ _⟩, fun h => tfC (hc 13 12 (by simp) h) hL, fun h => tfC (hc 13 12 (by simp) (hc 14 13 (by simp) h)) hL, fun h => tfC (hc 13 12 (by simp) (hc 14 13 (by simp) (hc 15 14 (by simp) h))) hL, hF.bAS⟩⟩
            · intro L hL hd hc a w hI K' hK'
              obtain ⟨u5, u37, u38, u39, u40, u41, u42, u43, u44, u45, u46, u47, u48, u49, u50, u51, u52, rfl, hF⟩ := hI
              have hn : L 15 = false := by
                cases h : L 15 with
                | false => rfl
                | true => exact tfC (hc 14 13 (by simp) (hc 15 14 (by simp) h)) hL
              obtain ⟨A, c8, rfl, hA⟩ := hF.b6 (hd 6 (by simp))
              obtain ⟨p, rfl, hp⟩ := hF.bAL (hd 12 (by simp))
              refine wp_addJ (B0 := wp.heap.size) (y := (cbL c (i + 1) (2 * k + 1)).x) _ _ (by rfl) (by rfl) (by rfl) (Hxn.out ▸ hA hL) (hp hL) Hyn.out (hF.bel hn).size hI1 ?_
              intro g c9 wv how hgr
              have hsz := hgr.size
              refine hK' _ _ ⟨_, _, _, _, _, _, _, _, _, _, _, _, _, _, _, _, _, rfl, ⟨fun _ => (hF.bel hn).grown hgr (hF.bel hn).size (fun j e => ((hA hL).lt j e).1), hF.t5, hF.b0, fun h => by obtain ⟨p, e, p1, p2, p3⟩ := hF.b1 h; exact ⟨p, e, p1, by omega, fun h6 => tfC (hd 6 (by simp)) h6⟩, hF.b2, hF.b3, hF.b4, hF.b5, fun _ => ⟨_, _, rfl, fun h => tfC (show true = true from rfl) h⟩, hF.b7, hF.b8, hF.b9, hF.b10, hF.b11, fun _ => ⟨_, rfl, fun h => tfC (show true = true from rfl) h⟩, fun _ => ⟨g, c9, rfl, fun _ => how⟩, fun h => tfC (hc 14 13 (by simp) h) hL, fun h => tfC (hc 14 13 (by simp) (hc 15 14 (by simp) h)) hL, hF.bAS⟩⟩
            · intro L hL hd hc a w hI K' hK'
              obtain ⟨u5, u37, u38, u39, u40, u41, u42, u43, u44, u45, u46, u47, u48, u49, u50, u51, u52, rfl, hF⟩ := hI
              have hn : L 15 = false := by
                cases h : L 15 with
                | false => rfl
                | true => exact tfC (hc 15 14 (by simp) h) hL
              obtain ⟨g, c8, rfl, hA⟩ := hF.bAP (hd 13 (by simp))
              go_simp
              refine hK' _ _ ⟨_, _, _, _, _, _, _, _, _, _, _, _, _, _, _, _, _, rfl, ⟨fun _ => bl_alloc (hF.bel hn) _, hF.t5, hF.b0, fun h => by obtain ⟨p, e, p1, p2, p3⟩ := hF.b1 h; exact ⟨p, e, p1, by simp; omega, fun h6 => tfC (hc 13 6 (by simp) (hd 13 (by simp))) h6⟩, hF.b2, hF.b3, hF.b4, hF.b5, fun h => by obtain ⟨A, c8, e, h1⟩ := hF.b6 h; exact ⟨A, c8, e, fun h2 => tfC (hd 13 (by simp)) h2⟩, hF.b7, hF.b8, hF.b9, hF.b10, hF.b11, fun h => by obtain ⟨p, e, h1⟩ := hF.bAL h; exact ⟨p, e, fun h2 => tfC (hd 13 (by simp)) h2⟩, fun _ => ⟨g, c8, rfl, fun h => row_below' (hA h) (bl_alloc (Below.refl w.heap.size w) _)⟩, fun _ => ⟨_, rfl, fun _ => heap_alloc_new _ _⟩, fun h => tfC (hc 15 14 (by simp) h) hL, hF.bAS⟩⟩
            · intro L hL hd hc a w hI K' hK'
              obtain ⟨u5, u37, u38, u39, u40, u41, u42, u43, u44, u45, u46, u47, u48, u49, u50, u51, u52, rfl, hF⟩ := hI
              obtain rfl := hF.b0 (hd 0 (by simp))
              obtain ⟨g, c8, rfl, hA⟩ := hF.bAP (hc 14 13 (by simp) (hd 14 (by simp)))
              obtain ⟨p, rfl, hp⟩ := hF.bAH (hd 14 (by simp))
              refine wp_grl1 (r := cbL c (i + 1)) (k := 2 * k + 1) (A := some ⟨g, 0, none⟩) (cap := c8) _ _ (by rfl) (HG9.out.below (hF.bel hL)) hB9 (Nat.le_trans (Nat.le_refl _) (hF.bel hL).size) (by rfl) (by rfl) (by rw [(show cbL c (i + 1) (2 * k + 1) = ⟨i + 1, (cbL c (i + 1) (2 * k + 1)).x⟩ from rfl)]; exact hp hL) (by rw [(show cbL c (i + 1) (2 * k + 1) = ⟨i + 1, (cbL c (i + 1) (2 * k + 1)).x⟩ from rfl)]; exact (row_fri (hA hL)).more (Nat.le_refl _)) hM2 ?_
              intro gg c9 wv zs f9 hg hgr
              have hsz := hgr.size
              refine hK' _ _ ⟨_, _, _, _, _, _, _, _, _, _, _, _, _, _, _, _, _, rfl, ⟨fun h => tfC (show true = true from rfl) h, hF.t5, hF.b0, fun h => by obtain ⟨p, e, p1, p2, p3⟩ := hF.b1 h; exact ⟨p, e, p1, by omega, fun h6 => tfC (hc 13 6 (by simp) (hc 14 13 (by simp) (hd 14 (by simp)))) h6⟩, hF.b2, hF.b3, hF.b4, hF.b5, fun h => by obtain ⟨A, c8, e, h1⟩ := hF.b6 h; exact ⟨A, c8, e, fun h2 => tfC (hc 14 13 (by simp) (hd 14 (by simp))) h2⟩, hF.b7, hF.b8, hF.b9, hF.b10, hF.b11, fun h => by obtain ⟨p, e, h1⟩ := hF.bAL h; exact ⟨p, e, fun h2 => tfC (hc 14 13 (by simp) (hd 14 (by simp))) h2⟩, fun _ => ⟨_, _, rfl, fun h => tfC (show true = true from rfl) h⟩, fun _ => ⟨_, rfl, fun h => tfC (show true = true from rfl) h⟩, fun _ => ⟨gg, c9, zs, f9, rfl, hg, ((hF.bel hL).mono (Nat.le_trans hB9 (Nat.le_refl _))).grown hgr (Nat.le_trans (Nat.le_trans hB9 (Nat.le_refl _)) (hF.bel hL).size) (fun j e => (HG9.out.lt j e).1)⟩, fun h => tfC (hc 16 15 (by simp) h) hL⟩⟩
            · intro L hL hd hc a w hI K' hK'
              obtain ⟨u5, u37, u38, u39, u40, u41, u42, u43, u44, u45, u46, u47, u48, u49, u50, u51, u52, rfl, hF⟩ := hI
              obtain ⟨gg, c8, zs, f9, rfl, hg, hbw⟩ := hF.bAV (hd 15 (by simp))
              go_simp
              refine hK' _ _ ⟨_, _, _, _, _, _, _, _, _, _, _, _, _, _, _, _, _, rfl, ⟨fun h => tfC (hd 15 (by simp)) h, fun h => tfC (show true = true from rfl) h, hF.b0, hF.b1, hF.b2, hF.b3, hF.b4, hF.b5, hF.b6, hF.b7, hF.b8, hF.b9, hF.b10, hF.b11, hF.bAL, hF.bAP, hF.bAH, fun _ => ⟨gg, c8, zs, f9, rfl, hg, hbw⟩, fun _ => rfl⟩⟩
            · intro L hL a' w6 hI
              obtain ⟨u5, u37, u38, u39, u40, u41, u42, u43, u44, u45, u46, u47, u48, u49, u50, u51, u52, rfl, hF⟩ := hI
              obtain ⟨gg2, c72, zs2, f92, e36, hg, hbw⟩ := hF.bAV (hL 15)
              obtain rfl := hF.bAS (hL 16)
              subst e36
              have HG10 := Lib.hid hg
              have HB10 := Lib.hid (HB9.out.trans hbw)
              have hsz10 := hbw.size
              clear hF hL hg hbw HG9 HK1x HK2x HV1x hw1 hw2
              go_wp2
              go_roundw
              case rel => exact ⟨k + 1, _, zs2, f92, by omega, by go_num, by rw [show 2 * (k + 1) = 2 * k + 1 + 1 by omega]; exact HG10.out, Nat.le_trans hB9 hsz10, Nat.le_refl _, HB10.out⟩
              case measure => simp [intOf]; omega
        · obtain rfl : k = M := by omega
          obtain ⟨A1, cap1, rfl, hF1, hS1⟩ := HG.out.rdS (fun j _ => Nat.succ_ne_zero i)
          have HF1 := Lib.hid (hF1.more HB.out.size)
          have HS1 := Lib.hid hS1
          have HB1 := Lib.hid (bl_trans HB.out HBq.out)
          have HM2 := Lib.hid (show 2 ^ (i + 1) = 2 * k by rw [Nat.pow_succ, HM.out, Nat.mul_comm])
          clear hF1 hS1 HG HBq HS
          go_wp2
          go_roundw
          case rel => exact ⟨i + 1, A1, cap1, by omega, by go_num, by rw [HM2.out], by rw [HM2.out]; exact HS1.out, by rw [HM2.out]; exact HF1.out, HB1.out⟩
          case measure => simp [intOf]; omega
    · obtain rfl : i = n := by omega
      go_wp2
      go_ret
      exact ⟨_, _, rfl, HF.out, HB.out⟩
end Go.Proofs.Ytjfcgehmeecnfaa
