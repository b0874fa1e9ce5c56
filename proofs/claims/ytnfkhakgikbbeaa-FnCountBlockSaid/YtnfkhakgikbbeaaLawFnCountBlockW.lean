/- The walk of the law FnCountBlock (no claim of its own). Conditions: as each theorem states. -/
import Derived.Test.YtnfkhakgikbbeaaCnxE
import Derived.Test.YtnfkhakgikbbeaaCbkM
import Derived.Test.YtnfkhakgikbbeaaRgt
import Derived.Deep.Cut
namespace Go.Proofs.Ytnfkhakgikbbeaa
open Go.ChangeShapes Go.WideShapes Go.ChangeAt Go.RowKit

theorem tfK {b : Bool} {P : Prop} (h : b = true) (h' : b = false) : P := by rw [h] at h'; cases h'
theorem row_belowK {w w' : World} {B : Nat} {e : TypeId} {s : Nat} {v : Value} {n : Nat} {xs : List Value} (h : w.ownsRow B e s v n xs) (hb : Below w.heap.size w w') : w'.ownsRow B e s v n xs := row_below' h hb
theorem block_ltK {w : World} {p : Nat} {o : Obj} (h : w.heap[p]? = some o) : p < w.heap.size := (Array.getElem?_eq_some_iff.1 h).1
/-- What is known while the operations of the region run: a copy of the problem gets one constraint, and its solutions are counted. -/
structure FBk (wq : World) (V : Value) (Ac : Option Addr) (capc kl : Nat) (xs : List Value) (d : Nat) (L : Nat → Bool) (w : World) (u2 u47 u48 u49 u50 u51 u52 u53 u54 u55 u56 : Value) : Prop where
  bel : Below wq.heap.size wq w
  b0 : L 0 = true → ∃ p, u47 = .slice (some ⟨p, 0, none⟩) 0 0 ∧ wq.heap.size ≤ p ∧ p < w.heap.size ∧ (L 2 = false → w.heap[p]? = some (.cells #[] 39 (0, 0)))
  b1 : L 1 = true → u48 = V
  b2 : L 2 = true → ∃ A c, u49 = .slice A kl c ∧ (L 5 = false → w.ownsRow wq.heap.size 39 2 (.slice A kl c) kl xs)
  b3 : L 3 = true → u50 = .agg #[.slice Ac 12 capc, .int .i64 1]
  b4 : L 4 = true → ∃ p, u51 = .slice (some ⟨p, 0, none⟩) 1 1 ∧ (L 5 = false → w.heap[p]? = some (.cells #[.slice Ac 12 capc, .int .i64 1] 39 (0, 0)))
  b5 : L 5 = true → ∃ A c, u52 = .slice A (kl + 1) c ∧ (L 6 = false → w.ownsRow wq.heap.size 39 2 (.slice A (kl + 1) c) (kl + 1) (xs ++ [.slice Ac 12 capc, .int .i64 1]))
  b6 : L 6 = true → u53 = .int .i64 d
  b7 : L 7 = true → u54 = .int .i64 ((d : Int) + 1)
  b8 : L 8 = true → u55 = .int .i64 d
  b9 : L 9 = true → u56 = .bool true
  b10 : L 10 = true → u2 = .bool true

set_option linter.unusedVariables false in
set_option maxRecDepth 100000 in
set_option maxHeartbeats 6400000 in
theorem lawFnCountBlock_ok (A0 : Option Addr) (n0 cap0 : Nat) (y0 : Nat → Int) (w : World) (h0 : n0 ≤ 1048576) (hc0 : n0 ≤ cap0) (hr0 : RdY w w.heap.size A0 n0 y0) :
    Calls Try.prog 4 #[.slice A0 n0 cap0] w fun e w' => e = .returned (.bool true) ∧ Below w.heap.size w w' := by
  have hm0 : n0 ≤ maxLen := by unfold maxLen; omega
  have hi0 : ¬ (1048576 : Int) < (n0 : Int) := by omega
  go_enter Try.func4, Try.ntmps4
  go_wp2_with fail
  refine (drawNextX_any _ _ _ y0 _ hm0 hc0 hr0).mono ?_
  rintro e w1 ⟨Al, kl, capl, xsl, lo, el, Av, kv, capv, v, rfl, hkl, hkv, hp, hrv, hb⟩
  obtain ⟨p, hna, hpp⟩ := hp.pxp
  have HN := Lib.hid (fun i hi => Nat.le_trans (hna i hi) (show 15 ≤ 1048576 by omega))
  have HB1 := Lib.hid hb
  have PA1 := Lib.hid hp
  have QA1 := Lib.hid hpp
  have HV1 := Lib.hid hrv
  have hklB : kl ≤ 1048576 := by omega
  have hkvB : kv ≤ 1048576 := by omega
  clear hb hp hpp hrv hna hr0
  go_wp2_with fail
  refine (implCount_any _ _ _ p _ hklB HN.out (rdp_own PA1.out.own QA1.out)).mono ?_
  rintro e w2 ⟨rfl, hb⟩
  have HB2 := Lib.hid (bl_trans HB1.out hb)
  have PA2 := Lib.hid (PA1.out.bel hb)
  have QA2 := Lib.hid (QA1.out.later hb)
  have HV2 := Lib.hid (HV1.out.later hb)
  clear hb HB1 PA1 QA1 HV1
  go_wp2_with fail
  refine (implNext_any _ _ _ _ _ _ p v _ hklB HN.out hkvB (rdp_own PA2.out.own QA2.out) HV2.out).mono ?_
  rintro e w3 ⟨Ax, capx, rfl, hfx, hb⟩
  have HB3 := Lib.hid (bl_trans HB2.out hb)
  have PA3 := Lib.hid (PA2.out.bel hb)
  have QA3 := Lib.hid (QA2.out.later hb)
  have FX3 := Lib.hid hfx.rdAt
  clear hb hfx HB2 PA2 QA2 HV2
  have hnx := nxN_le kl p kv v
  go_wp2_with fail
  refine (implBlock_any _ _ _ (nxV kl p v) _ (by omega) FX3.out).mono ?_
  rintro e w4 ⟨Ac, capc, rfl, hfc, hb⟩
  have HB4 := Lib.hid (bl_trans HB3.out hb)
  have PA4 := Lib.hid (PA3.out.bel hb)
  have QA4 := Lib.hid (QA3.out.later hb)
  have FC4 := Lib.hid hfc.rdAt
  clear hb hfc HB3 PA3 QA3 FX3
  have AL4 := Lib.hid (bl_alloc (Below.refl w4.heap.size w4) (.cells #[.slice Ac (bcN (nxN kl p kv v) (nxV kl p v)) capc, .int .i64 (bcD (nxN kl p kv v) (nxV kl p v))] 39))
  go_wp2_with fail
  refine (specCount_any _ _ _ p _ hklB HN.out (rdp_own (PA4.out.bel AL4.out).own (QA4.out.later AL4.out))).mono ?_
  rintro e w5 ⟨rfl, hb⟩
  have r0 : w5.cell? ⟨w4.heap.size, 0, none⟩ = some (.slice Ac (bcN (nxN kl p kv v) (nxV kl p v)) capc) := kc hb (by go_simp)
  have r1 : w5.cell? ⟨w4.heap.size, 1, none⟩ = some (.int .i64 (bcD (nxN kl p kv v) (nxV kl p v))) := kc hb (by go_simp)
  have HB5 := Lib.hid (bl_trans (bl_trans HB4.out AL4.out) hb)
  have PA5 := Lib.hid ((PA4.out.bel AL4.out).bel hb)
  have QA5 := Lib.hid ((QA4.out.later AL4.out).later hb)
  have FC5 := Lib.hid ((FC4.out.later AL4.out).later hb)
  clear hb HB4 PA4 QA4 FC4 AL4
  have hle := cntS_le9 kl p
  cases hK : nxOk kl p kv v with
  | false =>
    clear hK FC5 r0 r1
    go_wp2_with fail
    refine (specCount_any _ _ _ p _ hklB HN.out (rdp_own PA5.out.own QA5.out)).mono ?_
    rintro e w6 ⟨rfl, hb⟩
    have HB6 := Lib.hid (bl_trans HB5.out hb)
    clear hb
    go_wp2
    go_ret
    exact ⟨ret_bool (by simp), HB6.out⟩
  | true =>
    obtain ⟨hnn, _, _⟩ := nx_good hK
    rw [hnn] at FC5 r0 r1 ⊢
    rw [show bcN 12 (nxV kl p v) = 12 from rfl, show bcD 12 (nxV kl p v) = 1 from rfl, show bcB 12 (nxV kl p v) = true from rfl] at *
    obtain ⟨c, d, e1, e2, hcd⟩ : ∃ c d : Nat, cntS kl p = c ∧ cntS (kl + 1) (catP kl p fun _ => bkC (nxV kl p v)) = d ∧ c = d + 1 := ⟨_, _, rfl, rfl, cnt_next (by omega) hK⟩
    rw [e1] at hle ⊢
    have E2 := Lib.hid e2
    clear hK hnn e1 e2
    subst hcd
    have hd1 : (d : Int) + 1 ≤ 4096 := by omega
    have hw1 : wrap64 ((d : Int) + 1 - 1) = (d : Int) := by rw [show (d : Int) + 1 - 1 = (d : Int) by omega]; exact IntWalk.i64_left _ ▸ IntWalk.i64_in _ (by omega)
    have hw2 : IntKind.i64.wrap ((d : Int) + 1 - 1) = (d : Int) := by rw [show (d : Int) + 1 - 1 = (d : Int) by omega]; exact IntWalk.i64_in _ (by omega)
    have hw3 := Lib.hid (show IntKind.i64.wrap (d : Int) = (d : Int) from IntWalk.i64_in _ (by omega))
    have HNl0 := Lib.hid PA5.out.nils
    have R0 := Lib.hid r0
    have R1 := Lib.hid r1
    clear r0 r1
    go_upto_region 9 with fail
    refine region_steps2 (J := fun _ L a' w' => ∃ u2 u47 u48 u49 u50 u51 u52 u53 u54 u55 u56 : Value, a' = ⟨#[.slice A0 n0 cap0, undef, u2, .slice Al kl capl, .slice Av kv capv, .int .i64 ((d : Int) + 1), .slice Ax 12 capx, .bool true, .pointer (some ⟨w4.heap.size, 0, none⟩), .bool true, .slice A0 n0 cap0, .int .i64 n0, .bool false, .tuple #[.slice Al kl capl, .slice Av kv capv], .slice A0 n0 cap0, .tuple #[.slice Al kl capl, .slice Av kv capv], .slice Al kl capl, .slice Av kv capv, .slice Al kl capl, .int .i64 ((d : Int) + 1), .tuple #[.slice Ax 12 capx, .bool true], .slice Al kl capl, .slice Av kv capv, .tuple #[.slice Ax 12 capx, .bool true], .slice Ax 12 capx, .bool true, .tuple #[.agg #[.slice Ac 12 capc, .int .i64 1], .bool true], .slice Ax 12 capx, .tuple #[.agg #[.slice Ac 12 capc, .int .i64 1], .bool true], .agg #[.slice Ac 12 capc, .int .i64 1], .bool true, .int .i64 ((d : Int) + 1), .slice Al kl capl, .int .i64 ((d : Int) + 1), .bool false, .bool false, .bool true, .bool false, .bool false, .bool false, .bool true, .bool false, .bool false, undef, undef, undef, undef, u47, u48, u49, u50, u51, u52, u53, u54, u55, u56], []⟩ ∧ FBk w5 (.slice Al kl capl) Ac capc kl xsl d L w' u2 u47 u48 u49 u50 u51 u52 u53 u54 u55 u56) [[], [], [0, 1], [], [3], [2, 4], [5], [], [7], [6, 8], [0, 1, 2, 3, 4, 5, 6, 7, 8, 9]] (by kernel_rfl) (by kernel_rfl) ?_ ⟨?_, ?_, ?_, ?_, ?_, ?_, ?_, ?_, ?_, ?_, ?_, trivial⟩ ?_
    · intro L hL
      exact ⟨_, _, _, _, _, _, _, _, _, _, _, rfl, ⟨(Below.refl w5.heap.size w5).drew, fun h => tfK h (hL 0 (by decide)), fun h => tfK h (hL 1 (by decide)), fun h => tfK h (hL 2 (by decide)), fun h => tfK h (hL 3 (by decide)), fun h => tfK h (hL 4 (by decide)), fun h => tfK h (hL 5 (by decide)), fun h => tfK h (hL 6 (by decide)), fun h => tfK h (hL 7 (by decide)), fun h => tfK h (hL 8 (by decide)), fun h => tfK h (hL 9 (by decide)), fun h => tfK h (hL 10 (by decide))⟩⟩
    · intro L hL hd hc a w hI K' hK'
      obtain ⟨u2, u47, u48, u49, u50, u51, u52, u53, u54, u55, u56, rfl, hF⟩ := hI
      go_simp
      refine hK' _ _ ⟨_, _, _, _, _, _, _, _, _, _, _, rfl, ⟨bl_alloc hF.bel _, fun _ => ⟨_, rfl, hF.bel.size, by simp, fun _ => heap_alloc_new _ _⟩, hF.b1, fun h => tfK (hc 2 0 (by simp) h) hL, hF.b3, fun h => by obtain ⟨p, e, h1⟩ := hF.b4 h; exact ⟨p, e, fun h2 => ((bl_alloc (Below.refl w.heap.size w) _).block p (block_ltK (h1 h2))).trans (h1 h2)⟩, fun h => tfK (hc 2 0 (by simp) (hc 5 2 (by simp) h)) hL, hF.b6, hF.b7, hF.b8, hF.b9, hF.b10⟩⟩
    · intro L hL hd hc a w hI K' hK'
      obtain ⟨u2, u47, u48, u49, u50, u51, u52, u53, u54, u55, u56, rfl, hF⟩ := hI
      go_simp
      refine hK' _ _ ⟨_, _, _, _, _, _, _, _, _, _, _, rfl, ⟨hF.bel, hF.b0, fun _ => rfl, hF.b2, hF.b3, hF.b4, hF.b5, hF.b6, hF.b7, hF.b8, hF.b9, hF.b10⟩⟩
    · intro L hL hd hc a w hI K' hK'
      obtain ⟨u2, u47, u48, u49, u50, u51, u52, u53, u54, u55, u56, rfl, hF⟩ := hI
      obtain ⟨p, rfl, p1, p2, p3⟩ := hF.b0 (hd 0 (by simp))
      obtain rfl := hF.b1 (hd 1 (by simp))
      have hp := p3 hL
      refine wp_appC (B0 := w5.heap.size) (xs := []) _ _ (by rfl) (by rfl) (by rfl) (by rfl) ⟨rfl, .inr ⟨p, 0, #[], rfl, p1, hp, Nat.le_refl _, by unfold maxLen; omega, rfl, rfl⟩⟩ (PA5.out.bel hF.bel).src HNl0.out.2 HNl0.out.1 hF.bel.size (by omega) ?_
      intro v2 wv how hgr
      rw [Nat.zero_add, List.nil_append] at how
      obtain ⟨A, c8, rfl⟩ := row_shape how
      have hsz := hgr.size
      refine hK' _ _ ⟨_, _, _, _, _, _, _, _, _, _, _, rfl, ⟨hF.bel.grown hgr hF.bel.size (fun j e => by cases e; exact p1), fun _ => ⟨p, rfl, p1, by omega, fun h => tfK (show true = true from rfl) h⟩, hF.b1, fun _ => ⟨A, c8, rfl, fun _ => how⟩, hF.b3, fun h => by obtain ⟨q, e, h1⟩ := hF.b4 h; exact ⟨q, e, fun h2 => (hgr.block q (block_ltK (h1 h2)) (by intro e'; simp only [Value.ownBlock, Option.some.injEq] at e'; subst e'; have := (h1 h2).symm.trans hp; cases this)).trans (h1 h2)⟩, fun h => tfK (hc 5 2 (by simp) h) hL, hF.b6, hF.b7, hF.b8, hF.b9, hF.b10⟩⟩
    · intro L hL hd hc a w hI K' hK'
      obtain ⟨u2, u47, u48, u49, u50, u51, u52, u53, u54, u55, u56, rfl, hF⟩ := hI
      have z0 := kc hF.bel R0.out
      have z1 := kc hF.bel R1.out
      go_simp
      refine hK' _ _ ⟨_, _, _, _, _, _, _, _, _, _, _, rfl, ⟨hF.bel, hF.b0, hF.b1, hF.b2, fun _ => rfl, hF.b4, hF.b5, hF.b6, hF.b7, hF.b8, hF.b9, hF.b10⟩⟩
    · intro L hL hd hc a w hI K' hK'
      obtain ⟨u2, u47, u48, u49, u50, u51, u52, u53, u54, u55, u56, rfl, hF⟩ := hI
      obtain rfl := hF.b3 (hd 3 (by simp))
      go_simp
      refine hK' _ _ ⟨_, _, _, _, _, _, _, _, _, _, _, rfl, ⟨bl_alloc hF.bel _, fun h => by obtain ⟨p, e, p1, p2, p3⟩ := hF.b0 h; exact ⟨p, e, p1, by simp; omega, fun h2 => ((bl_alloc (Below.refl w.heap.size w) _).block p p2).trans (p3 h2)⟩, hF.b1, fun h => by obtain ⟨A, c8, e, h1⟩ := hF.b2 h; exact ⟨A, c8, e, fun h2 => row_belowK (h1 h2) (bl_alloc (Below.refl w.heap.size w) _)⟩, hF.b3, fun _ => ⟨_, rfl, fun _ => heap_alloc_new _ _⟩, fun h => tfK (hc 5 4 (by simp) h) hL, hF.b6, hF.b7, hF.b8, hF.b9, hF.b10⟩⟩
    · intro L hL hd hc a w hI K' hK'
      obtain ⟨u2, u47, u48, u49, u50, u51, u52, u53, u54, u55, u56, rfl, hF⟩ := hI
      obtain ⟨A, c8, rfl, hA⟩ := hF.b2 (hd 2 (by simp))
      obtain ⟨p, rfl, hp⟩ := hF.b4 (hd 4 (by simp))
      refine wp_appC (B0 := w5.heap.size) (ys := [.slice Ac 12 capc, .int .i64 1]) _ _ (by rfl) (by rfl) (by rfl) (by rfl) (hA hL) (src_one9 (hp hL) rfl rfl) (by simp) (by simp) hF.bel.size (by omega) ?_
      intro v5 wv how hgr
      obtain ⟨A', c9, rfl⟩ := row_shape how
      have hsz := hgr.size
      refine hK' _ _ ⟨_, _, _, _, _, _, _, _, _, _, _, rfl, ⟨hF.bel.grown hgr hF.bel.size (fun j e => ((hA hL).lt j e).1), fun h => by obtain ⟨p, e, p1, p2, p3⟩ := hF.b0 h; exact ⟨p, e, p1, by omega, fun h6 => tfK (hd 2 (by simp)) h6⟩, hF.b1, fun _ => ⟨_, _, rfl, fun h => tfK (show true = true from rfl) h⟩, hF.b3, fun _ => ⟨_, rfl, fun h => tfK (show true = true from rfl) h⟩, fun _ => ⟨A', c9, rfl, fun _ => how⟩, hF.b6, hF.b7, hF.b8, hF.b9, hF.b10⟩⟩
    · intro L hL hd hc a w hI K' hK'
      obtain ⟨u2, u47, u48, u49, u50, u51, u52, u53, u54, u55, u56, rfl, hF⟩ := hI
      obtain ⟨A, c8, rfl, hA⟩ := hF.b5 (hd 5 (by simp))
      have HR := Lib.hid (rdp_own (hA hL) ((QA5.out.later hF.bel).cat (pxp_bk (FC5.out.later hF.bel)) PA5.out.len))
      go_simp; go_at_call 9
      refine (implCount_any _ _ _ (catP kl p fun _ => bkC (nxV kl p v)) _ (by omega) (bk_size HN.out _) HR.out).mono ?_
      rintro e w7 ⟨rfl, hb⟩
      rw [E2.out]
      have hsz := hb.size
      go_simp
      refine hK' _ _ ⟨_, _, _, _, _, _, _, _, _, _, _, rfl, ⟨hF.bel.trans (hb.mono hF.bel.size), fun h => by obtain ⟨p, e, p1, p2, p3⟩ := hF.b0 h; exact ⟨p, e, p1, by omega, fun h6 => tfK (hc 5 2 (by simp) (hd 5 (by simp))) h6⟩, hF.b1, fun h => by obtain ⟨A, c8, e, h1⟩ := hF.b2 h; exact ⟨A, c8, e, fun h6 => tfK (hd 5 (by simp)) h6⟩, hF.b3, fun h => by obtain ⟨p, e, h1⟩ := hF.b4 h; exact ⟨p, e, fun h6 => tfK (hd 5 (by simp)) h6⟩, fun _ => ⟨_, _, rfl, fun h => tfK (show true = true from rfl) h⟩, fun _ => rfl, hF.b7, hF.b8, hF.b9, hF.b10⟩⟩
    · intro L hL hd hc a w hI K' hK'
      obtain ⟨u2, u47, u48, u49, u50, u51, u52, u53, u54, u55, u56, rfl, hF⟩ := hI
      go_simp
      refine hK' _ _ ⟨_, _, _, _, _, _, _, _, _, _, _, rfl, ⟨hF.bel, hF.b0, hF.b1, hF.b2, hF.b3, hF.b4, hF.b5, hF.b6, fun _ => rfl, hF.b8, hF.b9, hF.b10⟩⟩
    · intro L hL hd hc a w hI K' hK'
      obtain ⟨u2, u47, u48, u49, u50, u51, u52, u53, u54, u55, u56, rfl, hF⟩ := hI
      obtain rfl := hF.b7 (hd 7 (by simp))
      go_simp
      refine hK' _ _ ⟨_, _, _, _, _, _, _, _, _, _, _, rfl, ⟨hF.bel, hF.b0, hF.b1, hF.b2, hF.b3, hF.b4, hF.b5, hF.b6, hF.b7, fun _ => by rw [hw3.out], hF.b9, hF.b10⟩⟩
    · intro L hL hd hc a w hI K' hK'
      obtain ⟨u2, u47, u48, u49, u50, u51, u52, u53, u54, u55, u56, rfl, hF⟩ := hI
      obtain rfl := hF.b6 (hd 6 (by simp))
      obtain rfl := hF.b8 (hd 8 (by simp))
      go_simp
      refine hK' _ _ ⟨_, _, _, _, _, _, _, _, _, _, _, rfl, ⟨hF.bel, hF.b0, hF.b1, hF.b2, hF.b3, hF.b4, hF.b5, hF.b6, hF.b7, hF.b8, fun _ => rfl, hF.b10⟩⟩
    · intro L hL hd hc a w hI K' hK'
      obtain ⟨u2, u47, u48, u49, u50, u51, u52, u53, u54, u55, u56, rfl, hF⟩ := hI
      obtain rfl := hF.b9 (hd 9 (by simp))
      go_simp
      refine hK' _ _ ⟨_, _, _, _, _, _, _, _, _, _, _, rfl, ⟨hF.bel, hF.b0, hF.b1, hF.b2, hF.b3, hF.b4, hF.b5, hF.b6, hF.b7, hF.b8, hF.b9, fun _ => rfl⟩⟩
    · intro L hL a' w6 hI
      obtain ⟨u2, u47, u48, u49, u50, u51, u52, u53, u54, u55, u56, rfl, hF⟩ := hI
      obtain rfl := hF.b10 (hL 10)
      have HB6 := Lib.hid (bl_trans HB5.out hF.bel)
      clear hF hL HB5 PA5 QA5 FC5 R0 R1
      go_wp2
      go_ret
      exact ⟨rfl, HB6.out⟩

set_option linter.unusedVariables false in
set_option maxRecDepth 100000 in
set_option maxHeartbeats 1600000 in
theorem lawFnCountBlock_walk (A0 : Option Addr) (n0 cap0 : Nat) (y0 : Nat → Int) (w : World) (hm0 : n0 ≤ maxLen) (hc0 : n0 ≤ cap0) (hr0 : RdY w w.heap.size A0 n0 y0) :
    Calls Try.prog 4 #[.slice A0 n0 cap0] w fun e w' => e = .returned (.bool true) ∧ Below w.heap.size w w' := by
  by_cases h0 : n0 ≤ 1048576
  · exact lawFnCountBlock_ok A0 n0 cap0 y0 w h0 hc0 hr0
  · unfold maxLen at hm0
    have hi0 : (1048576 : Int) < (n0 : Int) := by omega
    go_enter Try.func4, Try.ntmps4
    go_wp2
    go_ret
    exact ⟨rfl, Below.refl _ _⟩
end Go.Proofs.Ytnfkhakgikbbeaa
