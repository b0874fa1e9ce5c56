/- The draw of a constraint that may be made invalid (no claim of its own). Conditions: as each theorem states. -/
import Derived.Test.YtckaeaclclhapaaDrwH
namespace Go.Proofs.Ytckaeaclclhapaa
open Go.ChangeShapes Go.WideShapes Go.ChangeAt Go.RowKit

section
variable {W : World} {lo k : Nat} {ov : Value}
set_option maxRecDepth 100000 in
set_option maxHeartbeats 800000 in
/-- The append of one term to a slice that the draw has made, and where it then lies. -/
theorem wp_ts3 {o : Oper} {a : Act} {K : Act → World → Prop} {Q : Exit → Act → World → Prop} (s x : Operand)
    (ho : o.op = .call { callee := .builtin .append, args := #[s, x], argTypes := #[23, 23] })
    (h : TS W lo 56 2 ov k) (hlo : lo ≤ W.heap.size) (hs : a.eval s = ov) {H : Nat} (hx : a.eval x = .slice (some ⟨H, 0, none⟩) 1 1) {X Y : Int} (hnew : W.heap[H]? = some (.cells #[.int .i64 X, .int .i64 Y] 56 (0, 0))) (hk : k ≤ 1048576)
    (hK : ∀ g cap w', TS w' lo 56 2 (.slice (some ⟨g, 0, none⟩) (k + 1) cap) (k + 1) → W.grownBy w' ov.ownBlock → (ov.ownBlock = some g ∨ g = W.heap.size) → K (a.put o.dst (.slice (some ⟨g, 0, none⟩) (k + 1) cap)) w') :
    o.wp Try.prog a W K Q := by
  obtain ⟨i0, hi, hz0, hz1, hz2⟩ := info_parts Try.infoTerm
  obtain ⟨xs, h0, h1, h2⟩ := h
  refine wp_append_lies _ s x 23 ho lo 56 i0 _ 2 16 Try.underlying23 hi hz0 hz1 hz2 rfl (by omega) ov k _ hs h0 ⟨H, 0, none⟩ 1 1 [.int .i64 X, .int .i64 Y] hx (by rfl)
    (World.news_of_block hnew) (by simp [Value.oneCell']) (by omega) (by unfold maxLen; omega) (by omega) hlo W.heap.size rfl ?_
  intro g cap w' hown hg hor _
  refine hK g cap w' ⟨_, hown, by simp; omega, fun u hu => ?_⟩ hg hor
  rcases List.mem_append.1 hu with hu | hu
  · exact h2 u hu
  · simp only [List.mem_cons, List.not_mem_nil, or_false] at hu
    rcases hu with rfl | rfl
    · exact ⟨X, rfl⟩
    · exact ⟨Y, rfl⟩
end

/-- A store into a block that is not the slice's own. -/
theorem fe_far {w : World} {lo k : Nat} {A : Option Addr} (h : FE w lo A k) {p : Addr} (hp : ∀ G, A = some ⟨G, 0, none⟩ → ¬ p.block = G) (u : Value) : FE (w.setCell p u) lo A k := by
  obtain ⟨c, l, h⟩ := h
  rcases h with h | ⟨G, e, hG, h⟩
  · exact ⟨c, l, .inl h⟩
  · exact ⟨c, l, .inr ⟨G, e, hG, h.at_ (Below.heap_setCell w p u G (fun e' => hp G e e'.symm))⟩⟩

set_option maxRecDepth 100000 in
set_option maxHeartbeats 12800000 in
theorem mutate_any (R K : Nat) (A : Option Addr) (n cap : Nat) (bd : Int) (c l : Nat → Int) (w : World) (hK : K ≤ 900000) (hn : n ≤ 1000) (h : Rdr w R K) (hr : Rd w w.heap.size A n c l) (hcap : CapOk A n cap) :
    Calls Try.prog 10 #[.pointer (some ⟨R, 0, none⟩), .agg #[.slice A n cap, .int .i64 bd]] w (CDr w R (K + 10) (n + 1)) := by
  have hRw := h.lt
  have HR := Lib.hid h
  have HCp := Lib.hid hcap
  clear h hcap
  go_enter Try.func10, Try.ntmps10
  go_upto_region 1 with fail
  have HB0 := Lib.hid (bl_alloc (bl_alloc (Below.refl w.heap.size w) (.cells #[.slice A n cap, .int .i64 bd] 25)) (.cells #[.slice none 0 0, .int .i64 0] 25))
  have a0 : ((w.alloc (.cells #[.slice A n cap, .int .i64 bd] 25)).alloc (.cells #[.slice none 0 0, .int .i64 0] 25)).cell? ⟨w.heap.size, 0, none⟩ = some (.slice A n cap) := by go_simp
  have a1 : ((w.alloc (.cells #[.slice A n cap, .int .i64 bd] 25)).alloc (.cells #[.slice none 0 0, .int .i64 0] 25)).cell? ⟨w.heap.size, 1, none⟩ = some (.int .i64 bd) := by go_simp
  have r0 : Cel ((w.alloc (.cells #[.slice A n cap, .int .i64 bd] 25)).alloc (.cells #[.slice none 0 0, .int .i64 0] 25)) (w.heap.size + 1) 0 (.slice none 0 0) := ⟨by go_simp, by go_simp⟩
  have r1 : Cel ((w.alloc (.cells #[.slice A n cap, .int .i64 bd] 25)).alloc (.cells #[.slice none 0 0, .int .i64 0] 25)) (w.heap.size + 1) 1 (.int .i64 0) := ⟨by go_simp, by go_simp⟩
  have hz : w.heap.size + 1 < ((w.alloc (.cells #[.slice A n cap, .int .i64 bd] 25)).alloc (.cells #[.slice none 0 0, .int .i64 0] 25)).heap.size := by simp
  generalize ((w.alloc (.cells #[.slice A n cap, .int .i64 bd] 25)).alloc (.cells #[.slice none 0 0, .int .i64 0] 25)) = W0 at *
  have Hr := Lib.hid (hr.later HB0.out)
  have R0 := Lib.hid r0
  have R1 := Lib.hid r1
  have RD0 := Lib.hid (HR.out.bel HB0.out)
  have hRW : R < W0.heap.size := by omega
  clear r0 r1 hr
  go_wp2_with fail
  refine (copy_any _ _ _ _ c l _ (by omega) Hr.out HCp.out.1).mono ?_
  rintro e w2 ⟨A2, cap2, rfl, hts, hb⟩
  have HB2 := Lib.hid (bl_trans HB0.out hb)
  have TS2 := Lib.hid hts
  have S0 := Lib.hid (R0.out.below hb)
  have S1 := Lib.hid (R1.out.below hb)
  have RD2 := Lib.hid (RD0.out.bel hb)
  have HO := Lib.hid (fun b e => (hts.lt2 b e).2)
  have hz2 : W0.heap.size ≤ w2.heap.size := hb.size
  clear hts hb HB0 R0 R1 RD0 a0 a1 Hr
  go_upto_region 2 with fail
  have HBa := Lib.hid (bl_alloc (Below.refl w2.heap.size w2) (.cells #[.slice A2 n cap2, .int .i64 bd] 25))
  have p0 : Cel (w2.alloc (.cells #[.slice A2 n cap2, .int .i64 bd] 25)) w2.heap.size 0 (.slice A2 n cap2) := ⟨by go_simp, by go_simp⟩
  have p1 : Cel (w2.alloc (.cells #[.slice A2 n cap2, .int .i64 bd] 25)) w2.heap.size 1 (.int .i64 bd) := ⟨by go_simp, by go_simp⟩
  have hz3 : w2.heap.size < (w2.alloc (.cells #[.slice A2 n cap2, .int .i64 bd] 25)).heap.size := by simp
  have TS3 := Lib.hid (TS2.out.bel HBa.out)
  have GR3 := Lib.hid (Gr.of (R := R) (bl_trans HB2.out HBa.out))
  have RD3 := Lib.hid (RD2.out.bel HBa.out)
  have T0 := Lib.hid (S0.out.below HBa.out)
  have T1 := Lib.hid (S1.out.below HBa.out)
  have P0 := Lib.hid p0
  have P1 := Lib.hid p1
  clear p1 TS2 HB2 S0 S1 RD2
  generalize w2.alloc (.cells #[.slice A2 n cap2, .int .i64 bd] 25) = W3 at *
  have q0 := p0.1
  clear p0
  go_wp2_with fail
  refine (pick_any R K 40 _ (by omega) RD3.out).mono ?_
  rintro e w4 ⟨x, rfl, hx0, hx1, hg, hr⟩
  have TS4 := Lib.hid (TS3.out.gr hg hRW)
  have GR4 := Lib.hid (GR3.out.trans hg)
  have RD4 := Lib.hid hr
  have U0 := Lib.hid (hg.cel T0.out (by omega))
  have U1 := Lib.hid (hg.cel T1.out (by omega))
  have Q0 := Lib.hid (hg.cel P0.out (by omega))
  have Q1 := Lib.hid (hg.cel P1.out (by omega))
  have hz4 : w2.heap.size < w4.heap.size := Nat.lt_of_lt_of_le hz3 hg.size
  obtain ⟨A9, cap9, e9, hfe9⟩ := TS4.out.fe
  cases e9
  have FE4 := Lib.hid hfe9
  have HC2 := Lib.hid TS4.out.capOk
  clear hg hr hfe9 TS3 GR3 RD3 T0 T1 P0 P1 HBa q0
  by_cases h0 : x = 0
  · subst h0
    clear hx0 hx1
    go_wp2_with fail
    refine (num_from (bl_alloc (Below.refl w4.heap.size w4) _) R (K + 1) w4.heap.size 3 _ _ (by omega) RD4.out (by omega) (heap_alloc_new w4 _) (by rfl) (by omega) (by omega) (lit_all [-1, 20001, 9223372036854775807])).mono ?_
    rintro e w5 ⟨z, rfl, _, hg, hr⟩
    have FE5 := Lib.hid (FE4.out.gr hg hRW)
    have GR5 := Lib.hid (GR4.out.trans hg)
    have RD5 := Lib.hid hr
    obtain ⟨b0, f0⟩ := hg.cel U0.out (by omega)
    obtain ⟨b1, f1⟩ := hg.cel U1.out (by omega)
    obtain ⟨b2, f2⟩ := hg.cel Q0.out (by omega)
    obtain ⟨b3, f3⟩ := hg.cel Q1.out (by omega)
    have HG := Lib.hid (fun G (e : A2 = some ⟨G, 0, none⟩) => HO.out G (by rw [e]; rfl))
    clear hg hr FE4 GR4 RD4 U0 U1 Q0 Q1 TS4
    go_wp2
    refine bodyPost_ret (v := .agg #[.slice A2 n cap2, .int .i64 z]) (by simp [results, Try.results10, go_sem, b0, b1]) rfl ?_
    refine ⟨_, _, _, _, rfl, by omega, ?_, (((GR5.out.set (p := ⟨w2.heap.size, 1, none⟩) (.inr (by show w.heap.size ≤ w2.heap.size; omega)) _)).set (.inr (by show w.heap.size ≤ w.heap.size + 1; omega)) _).set (.inr (by show w.heap.size ≤ w.heap.size + 1; omega)) _, ((((RD5.out.set (p := ⟨w2.heap.size, 1, none⟩) (by show R < w2.heap.size; omega) _)).set (by show R < w.heap.size + 1; omega) _).set (by show R < w.heap.size + 1; omega) _).more (by omega), HC2.out⟩
    exact ((((fe_far FE5.out (p := ⟨w2.heap.size, 1, none⟩) (fun G e h => by have := HG.out G e; have : w2.heap.size = G := h; omega) _)).set_ (by show w.heap.size + 1 < _; omega) _).set_ (by show w.heap.size + 1 < _; omega) _).more (by omega)
  · by_cases h1 : x = 1
    · subst h1
      clear hx0 hx1 h0
      by_cases hk0 : 0 < n
      · have hk2 : 0 < n * 2 := by omega
        have hkI : (0 : Int) < (n : Int) := by omega
        obtain ⟨G, cap', e', hcc, hG1, _, _, _⟩ := TS4.out.open hk0
        cases e'
        have hG2 : G < w2.heap.size := HO.out G rfl
        have q0 := Q0.out.1
        have hRG : R < G := by omega
        have hGn1 : ¬ w2.heap.size = G := by omega
        have hGn2 : ¬ G = w2.heap.size := by omega
        have hKb : K + 1 ≤ 1000000 := by omega
        have hne4 : w4.heap.size ≠ R := by omega
        have hne2 : w2.heap.size ≠ R := by omega
        have hne0 : w.heap.size + 1 ≠ R := by omega
        have h30 : 0 < 3 := by omega
        have h31 : 3 ≤ 1000 := by omega
        have HBl := Lib.hid (fun o => bl_alloc (Below.drew (Below.refl w4.heap.size w4)) o)
        have HAt := Lib.hid (fun o => heap_alloc_new w4.drew o)
        have hsz3 : (#[Value.int .i64 0, Value.int .i64 (-1), Value.int .i64 1001] : Array Value).size = 3 := rfl
        clear TS4
        go_upto_region 8 with fail
        go_region_held3 (fun w' => w'.cell? ⟨w2.heap.size, 0, none⟩ = some (.slice (some ⟨G, 0, none⟩) n cap2)) (go_keep)
          (first | (go_at_call 12; refine (num_from (W := w4) (HBl.out _) R _ w4.heap.size 3 _ _ hKb RD4.out hne4 (HAt.out _) hsz3 h30 h31 (lit_all [0, -1, 1001])).mono ?_; rintro e w5 ⟨z, rfl, _, hg, hr⟩; have FE5 := Lib.hid (FE4.out.gr hg hRW); have GR5 := Lib.hid (GR4.out.trans hg); have RD5 := Lib.hid hr; have H0 := Lib.hid (hg.cel U0.out hne0); have H1 := Lib.hid (hg.cel U1.out hne0); have S0 := Lib.hid (hg.cel Q0.out hne2); have S1 := Lib.hid (hg.cel Q1.out hne2); replace q0 := S0.out.1; obtain ⟨G', e', _, hG5, hcell, hfro⟩ := FE5.out.open hk0; cases e'; obtain ⟨u0, hu0⟩ := hcell (0) hk2; have hf0 := hfro (0); clear hg hr hcell hfro))
        have FE6 := Lib.hid (FE5.out.store (0) z)
        have GR6 := Lib.hid (GR5.out.set (p := ⟨G, 0, none⟩) (.inr (by show w.heap.size ≤ G; omega)) (.int .i64 z))
        have RD6 := Lib.hid (RD5.out.set (p := ⟨G, 0, none⟩) hRG (.int .i64 z))
        obtain ⟨b0, f0⟩ := H0.out.set (O' := G) (o' := 0) (u := .int .i64 z) (by omega)
        obtain ⟨b1, f1⟩ := H1.out.set (O' := G) (o' := 0) (u := .int .i64 z) (by omega)
        obtain ⟨b2, f2⟩ := S0.out.set (O' := G) (o' := 0) (u := .int .i64 z) (by omega)
        obtain ⟨b3, f3⟩ := S1.out.set (O' := G) (o' := 0) (u := .int .i64 z) (by omega)
        clear FE5 GR5 RD5 H0 H1 S0 S1 q0 u0 hu0 hf0 FE4 GR4 RD4 U0 U1 Q0 Q1
        generalize w5.setCell ⟨G, 0, none⟩ (.int .i64 z) = W6 at *
        go_wp2
        refine bodyPost_ret (v := .agg #[.slice (some ⟨G, 0, none⟩) n cap2, .int .i64 bd]) (by simp [results, Try.results10, go_sem, b0, b1]) rfl ?_
        exact ⟨_, _, _, _, rfl, by omega, ((((FE6.out)).set_ (by show w.heap.size + 1 < _; omega) _).set_ (by show w.heap.size + 1 < _; omega) _).more (by omega), (((GR6.out)).set (.inr (by show w.heap.size ≤ w.heap.size + 1; omega)) _).set (.inr (by show w.heap.size ≤ w.heap.size + 1; omega)) _, ((((RD6.out)).set (by show R < w.heap.size + 1; omega) _).set (by show R < w.heap.size + 1; omega) _).more (by omega), ⟨fun h => (by cases h), HC2.out.2⟩⟩
      · obtain rfl : n = 0 := by omega
        obtain ⟨b0, f0⟩ := U0.out
        obtain ⟨b1, f1⟩ := U1.out
        obtain ⟨b2, f2⟩ := Q0.out
        obtain ⟨b3, f3⟩ := Q1.out
        clear U0 U1 Q0 Q1 TS4
        go_wp2
        refine bodyPost_ret (v := .agg #[.slice A2 0 cap2, .int .i64 bd]) (by simp [results, Try.results10, go_sem, b0, b1]) rfl ?_
        exact ⟨_, _, _, _, rfl, by omega, ((((FE4.out)).set_ (by show w.heap.size + 1 < _; omega) _).set_ (by show w.heap.size + 1 < _; omega) _).more (by omega), (((GR4.out)).set (.inr (by show w.heap.size ≤ w.heap.size + 1; omega)) _).set (.inr (by show w.heap.size ≤ w.heap.size + 1; omega)) _, ((((RD4.out)).set (by show R < w.heap.size + 1; omega) _).set (by show R < w.heap.size + 1; omega) _).more (by omega), HC2.out⟩
    · by_cases h2 : x = 2
      · subst h2
        clear hx0 hx1 h0
        by_cases hk0 : 0 < n
        · obtain ⟨k', rfl⟩ : ∃ k', n = k' + 1 := ⟨n - 1, by omega⟩
          have hk2 : k' * 2 + 1 < (k' + 1) * 2 := by omega
          have hw1 : IntKind.i64.wrap ((k' : Int) + 1 - 1) = (k' : Int) := by rw [IntWalk.i64_in _ (by omega)]; omega
          have hw2 : IntKind.i64.wrap (k' : Int) = (k' : Int) := IntWalk.i64_in _ (by omega)
          have hw3 : (k' : Int) + 1 - 1 = (k' : Int) := by omega
          have hkk : (k' : Int) < (k' : Int) + 1 := by omega
          have hk00 : (0 : Int) ≤ (k' : Int) := by omega
          have hkI : (0 : Int) < ((k' + 1 : Nat) : Int) := by omega
          obtain ⟨G, cap', e', hcc, hG1, _, _, _⟩ := TS4.out.open hk0
          cases e'
          have hG2 : G < w2.heap.size := HO.out G rfl
          have q0 := Q0.out.1
          have hRG : R < G := by omega
          have hGn1 : ¬ w2.heap.size = G := by omega
          have hGn2 : ¬ G = w2.heap.size := by omega
          have hKb : K + 1 ≤ 1000000 := by omega
          have hne4 : w4.heap.size ≠ R := by omega
          have hne2 : w2.heap.size ≠ R := by omega
          have hne0 : w.heap.size + 1 ≠ R := by omega
          have h30 : 0 < 5 := by omega
          have h31 : 5 ≤ 1000 := by omega
          have HBl := Lib.hid (fun o => bl_alloc (Below.drew (Below.refl w4.heap.size w4)) o)
          have HAt := Lib.hid (fun o => heap_alloc_new w4.drew o)
          have hsz3 : (#[Value.int .i64 0, Value.int .i64 13, Value.int .i64 (-13), Value.int .i64 1, Value.int .i64 (-9223372036854775808)] : Array Value).size = 5 := rfl
          clear TS4
          go_upto_region 11 with fail
          go_region_held3 (fun w' => w'.cell? ⟨w2.heap.size, 0, none⟩ = some (.slice (some ⟨G, 0, none⟩) (k' + 1) cap2)) (go_keep)
            (first | (go_at_call 12; refine (num_from (W := w4) (HBl.out _) R _ w4.heap.size 5 _ _ hKb RD4.out hne4 (HAt.out _) hsz3 h30 h31 (lit_all [0, 13, -13, 1, -9223372036854775808])).mono ?_; rintro e w5 ⟨z, rfl, _, hg, hr⟩; have FE5 := Lib.hid (FE4.out.gr hg hRW); have GR5 := Lib.hid (GR4.out.trans hg); have RD5 := Lib.hid hr; have H0 := Lib.hid (hg.cel U0.out hne0); have H1 := Lib.hid (hg.cel U1.out hne0); have S0 := Lib.hid (hg.cel Q0.out hne2); have S1 := Lib.hid (hg.cel Q1.out hne2); replace q0 := S0.out.1; obtain ⟨G', e', _, hG5, hcell, hfro⟩ := FE5.out.open hk0; cases e'; obtain ⟨u0, hu0⟩ := hcell (k' * 2 + 1) hk2; have hf0 := hfro (k' * 2 + 1); clear hg hr hcell hfro))
          have FE6 := Lib.hid (FE5.out.store (k' * 2 + 1) z)
          have GR6 := Lib.hid (GR5.out.set (p := ⟨G, k' * 2 + 1, none⟩) (.inr (by show w.heap.size ≤ G; omega)) (.int .i64 z))
          have RD6 := Lib.hid (RD5.out.set (p := ⟨G, k' * 2 + 1, none⟩) hRG (.int .i64 z))
          obtain ⟨b0, f0⟩ := H0.out.set (O' := G) (o' := k' * 2 + 1) (u := .int .i64 z) (by omega)
          obtain ⟨b1, f1⟩ := H1.out.set (O' := G) (o' := k' * 2 + 1) (u := .int .i64 z) (by omega)
          obtain ⟨b2, f2⟩ := S0.out.set (O' := G) (o' := k' * 2 + 1) (u := .int .i64 z) (by omega)
          obtain ⟨b3, f3⟩ := S1.out.set (O' := G) (o' := k' * 2 + 1) (u := .int .i64 z) (by omega)
          clear FE5 GR5 RD5 H0 H1 S0 S1 q0 u0 hu0 hf0 FE4 GR4 RD4 U0 U1 Q0 Q1
          generalize w5.setCell ⟨G, k' * 2 + 1, none⟩ (.int .i64 z) = W6 at *
          go_wp2
          refine bodyPost_ret (v := .agg #[.slice (some ⟨G, 0, none⟩) (k' + 1) cap2, .int .i64 bd]) (by simp [results, Try.results10, go_sem, b0, b1]) rfl ?_
          exact ⟨_, _, _, _, rfl, by omega, ((((FE6.out)).set_ (by show w.heap.size + 1 < _; omega) _).set_ (by show w.heap.size + 1 < _; omega) _).more (by omega), (((GR6.out)).set (.inr (by show w.heap.size ≤ w.heap.size + 1; omega)) _).set (.inr (by show w.heap.size ≤ w.heap.size + 1; omega)) _, ((((RD6.out)).set (by show R < w.heap.size + 1; omega) _).set (by show R < w.heap.size + 1; omega) _).more (by omega), ⟨fun h => (by cases h), HC2.out.2⟩⟩
        · obtain rfl : n = 0 := by omega
          obtain ⟨b0, f0⟩ := U0.out
          obtain ⟨b1, f1⟩ := U1.out
          obtain ⟨b2, f2⟩ := Q0.out
          obtain ⟨b3, f3⟩ := Q1.out
          clear U0 U1 Q0 Q1 TS4
          go_wp2
          refine bodyPost_ret (v := .agg #[.slice A2 0 cap2, .int .i64 bd]) (by simp [results, Try.results10, go_sem, b0, b1]) rfl ?_
          exact ⟨_, _, _, _, rfl, by omega, ((((FE4.out)).set_ (by show w.heap.size + 1 < _; omega) _).set_ (by show w.heap.size + 1 < _; omega) _).more (by omega), (((GR4.out)).set (.inr (by show w.heap.size ≤ w.heap.size + 1; omega)) _).set (.inr (by show w.heap.size ≤ w.heap.size + 1; omega)) _, ((((RD4.out)).set (by show R < w.heap.size + 1; omega) _).set (by show R < w.heap.size + 1; omega) _).more (by omega), HC2.out⟩
      · by_cases h3 : x = 3
        · subst h3
          clear hx0 hx1 h0 h1 h2
          obtain ⟨b0, f0⟩ := U0.out
          obtain ⟨b1, f1⟩ := U1.out
          obtain ⟨b2, f2⟩ := Q0.out
          obtain ⟨b3, f3⟩ := Q1.out
          have HAl := Lib.hid (bl_alloc (Below.refl w4.heap.size w4) (.cells #[.int .i64 1, .int .i64 1] 56))
          have HW4 := Lib.hid hz4
          go_wp2_with (at_builtin; refine wpList_plain (by rfl) fun K' hK' => ?_; refine wp_ts3 _ _ (by rfl) (TS4.out.bel HAl.out) (by simp; omega) (by rfl) (by rfl) (heap_alloc_new _ _) (by omega) ?_; intro gg cap1 w5 hts5 hgr5 hor5; have X0 := (U0.out.below HAl.out).grow hgr5 (fun b e => by have := TS4.out.lt2 b e; omega); have X1 := (U1.out.below HAl.out).grow hgr5 (fun b e => by have := TS4.out.lt2 b e; omega); have X2 := (Q0.out.below HAl.out).grow hgr5 (fun b e => by have := HO.out b e; omega); have X3 := (Q1.out.below HAl.out).grow hgr5 (fun b e => by have := HO.out b e; omega); obtain ⟨y0, z0⟩ := X0; obtain ⟨y1, z1⟩ := X1; obtain ⟨y2, z2⟩ := X2; obtain ⟨y3, z3⟩ := X3; have TS5 := Lib.hid hts5; have GR5 := Lib.hid ((GR4.out.bel HAl.out).grow hgr5 (fun b e => by have := TS4.out.lt2 b e; omega)); have RD5 := Lib.hid ((RD4.out.bel HAl.out).grow hgr5 (fun b e => by have := TS4.out.lt2 b e; omega)); have HGG := Lib.hid (show ¬ w2.heap.size = gg from by rcases hor5 with e | e; (have := HO.out gg e; omega); (rw [e]; simp; omega)); clear hts5 hgr5 hor5; refine hK' _ _ ?_; clear hK' K')
          skip
          refine bodyPost_ret (v := .agg #[.slice (some ⟨gg, 0, none⟩) (n + 1) cap1, .int .i64 bd]) (by simp [results, Try.results10, go_sem, y0, y1]) rfl ?_
          refine ⟨_, _, _, _, rfl, Nat.le_refl _, ?_, ((GR5.out.set (p := ⟨w2.heap.size, 0, none⟩) (.inr (by show w.heap.size ≤ w2.heap.size; omega)) _).set (.inr (by show w.heap.size ≤ w.heap.size + 1; omega)) _).set (.inr (by show w.heap.size ≤ w.heap.size + 1; omega)) _, (((RD5.out.set (p := ⟨w2.heap.size, 0, none⟩) (by show R < w2.heap.size; omega) _).set (by show R < w.heap.size + 1; omega) _).set (by show R < w.heap.size + 1; omega) _).more (by omega), ⟨fun h => (by cases h), TS5.out.capOk.2⟩⟩
          obtain ⟨A7, cap7, e7, hfe7⟩ := TS5.out.fe
          cases e7
          exact (((hfe7.setne (p := ⟨w2.heap.size, 0, none⟩) HGG.out _).set_ (by show w.heap.size + 1 < _; omega) _).set_ (by show w.heap.size + 1 < _; omega) _).more (by omega)
        · have d0 : (x == 0) = false := by rw [beq_eq_false_iff_ne]; exact h0
          have d1 : (x == 1) = false := by rw [beq_eq_false_iff_ne]; exact h1
          have d2 : (x == 2) = false := by rw [beq_eq_false_iff_ne]; exact h2
          have d3 : (x == 3) = false := by rw [beq_eq_false_iff_ne]; exact h3
          clear hx0 hx1 h0 h1 h2 h3
          obtain ⟨b0, f0⟩ := U0.out
          obtain ⟨b1, f1⟩ := U1.out
          obtain ⟨b2, f2⟩ := Q0.out
          obtain ⟨b3, f3⟩ := Q1.out
          clear U0 U1 Q0 Q1 TS4
          go_wp2
          refine bodyPost_ret (v := .agg #[.slice A2 n cap2, .int .i64 bd]) (by simp [results, Try.results10, go_sem, b0, b1]) rfl ?_
          exact ⟨_, _, _, _, rfl, by omega, ((((FE4.out)).set_ (by show w.heap.size + 1 < _; omega) _).set_ (by show w.heap.size + 1 < _; omega) _).more (by omega), (((GR4.out)).set (.inr (by show w.heap.size ≤ w.heap.size + 1; omega)) _).set (.inr (by show w.heap.size ≤ w.heap.size + 1; omega)) _, ((((RD4.out)).set (by show R < w.heap.size + 1; omega) _).set (by show R < w.heap.size + 1; omega) _).more (by omega), HC2.out⟩
end Go.Proofs.Ytckaeaclclhapaa
