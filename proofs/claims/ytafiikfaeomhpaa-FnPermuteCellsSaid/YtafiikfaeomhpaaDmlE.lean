/- A model, drawn (no claim of its own). Conditions: as each theorem states. -/
import Derived.Test.YtafiikfaeomhpaaDmlD
namespace Go.Proofs.Ytafiikfaeomhpaa
open Go.ChangeShapes Go.WideShapes Go.ChangeAt Go.RowKit

section
variable {w w' w1 W : World} {lo hi lo' n k : Nat} {V : Value} {row : Option Nat}
/-- A slice of n small ints that the draw has made. -/
def TZ (w : World) (lo : Nat) (V : Value) (n : Nat) : Prop := ∃ xs : List Value, w.ownsRow lo 3 1 V n xs ∧ ∀ u ∈ xs, ∃ z, u = .int .i64 z ∧ 0 ≤ z ∧ z ≤ 3
theorem TZ.ts (h : TZ w lo V n) : TS w lo 3 1 V n := by
  obtain ⟨xs, h0, h1⟩ := h
  exact ⟨xs, h0, h0.1, fun u hu => (h1 u hu).imp fun _ h => h.1⟩
theorem TZ.nil : TZ w lo (.slice none 0 0) 0 := ⟨[], World.ownsRow_nil _ _ _ _, fun u hu => by cases hu⟩
theorem TZ.bel (h : TZ w lo V n) (hb : Below w.heap.size w w') : TZ w' lo V n := by
  obtain ⟨xs, h0, h1⟩ := h
  exact ⟨xs, row_below' h0 hb, h1⟩
theorem TZ.lo_ (h : TZ w lo V n) (hg : w.grownBy w' row) (ho : ∀ j, row = some j → j < lo) : TZ w' lo V n := by
  obtain ⟨xs, h0, h1⟩ := h
  refine ⟨xs, h0.kept hg ?_, h1⟩
  cases e : V.ownBlock with
  | none => exact .inl rfl
  | some j =>
    right
    intro e'
    have := ho j e'.symm
    have := (h0.lt _ e).1
    omega
theorem TZ.at_ (h : TZ w lo V n) {j : Nat} (hj : j < n) : ∃ g cap z, V = .slice (some ⟨g, 0, none⟩) n cap ∧ w.cell? ⟨g, j, none⟩ = some (.int .i64 z) ∧ 0 ≤ z ∧ z ≤ 3 := by
  obtain ⟨xs, h0, h2⟩ := h
  have h1 := h0.1
  rcases id h0.2 with ⟨_, hk⟩ | ⟨g, cap, cur, rfl, hg, hh, _⟩
  · omega
  · have hx : xs[j]? = some (xs[j]'(by omega)) := List.getElem?_eq_getElem (by omega)
    obtain ⟨z, hz, hz0, hz3⟩ := h2 _ (List.getElem_mem (by omega : j < xs.length))
    have := h0.cells rfl _ _ hx
    rw [Go.WideShapes.add_plain, Nat.zero_add, hz] at this
    exact ⟨g, cap, z, rfl, this, hz0, hz3⟩
theorem TZ.take {A : Option Addr} {m cap : Nat} (h : TZ w lo (.slice A n cap) n) (hm : m ≤ n) (h0 : 0 < m) : TZ w lo (.slice A m cap) m := by
  obtain ⟨xs, r, hx⟩ := h
  rcases r.2 with ⟨_, hk⟩ | ⟨g, cap', cur, e, hg, hh, hc, hm', hs, ht⟩
  · omega
  · cases e
    refine ⟨xs.take m, ⟨by rw [List.length_take, r.1]; omega, .inr ⟨g, cap, cur, rfl, hg, hh, by omega, hm', hs, ?_⟩⟩, fun u hu => hx u (List.mem_of_mem_take hu)⟩
    rw [← ht, List.take_take]
    congr 1
    omega
set_option maxRecDepth 100000 in
set_option maxHeartbeats 800000 in
/-- The append of one small int. -/
theorem wp_tz1 {o : Oper} {a : Act} {K : Act → World → Prop} {Q : Exit → Act → World → Prop} (s x : Operand)
    (ho : o.op = .call { callee := .builtin .append, args := #[s, x], argTypes := #[22, 22] })
    (h : TZ W lo V k) (hlo : lo ≤ W.heap.size) (hs : a.eval s = V) {H : Nat} (hx : a.eval x = .slice (some ⟨H, 0, none⟩) 1 1) {X : Int} {T' : TypeId} (hnew : W.heap[H]? = some (.cells #[.int .i64 X] T' (0, 0))) (hX : 0 ≤ X ∧ X ≤ 3) (hk : k ≤ 1048576)
    (hK : ∀ g cap w', TZ w' lo (.slice (some ⟨g, 0, none⟩) (k + 1) cap) (k + 1) → W.grownBy w' V.ownBlock → K (a.put o.dst (.slice (some ⟨g, 0, none⟩) (k + 1) cap)) w') :
    o.wp Try.prog a W K Q := by
  obtain ⟨i0, hi, hz0, hz1, hz2⟩ := info_parts Try.infoInt
  obtain ⟨xs, h0, h2⟩ := h
  refine wp_append_lies _ s x 22 ho lo 3 i0 _ 1 8 Try.underlying22 hi hz0 hz1 hz2 rfl (by omega) V k _ hs h0 ⟨H, 0, none⟩ 1 1 [.int .i64 X] hx (by rfl)
    (World.news_of_block hnew) (by simp [Value.oneCell']) (by omega) (by unfold maxLen; omega) (by omega) hlo W.heap.size rfl ?_
  intro g cap w' hown hg _ _
  refine hK g cap w' ⟨_, hown, fun u hu => ?_⟩ hg
  rcases List.mem_append.1 hu with hu | hu
  · exact h2 u hu
  · exact ⟨X, by simpa using hu, hX.1, hX.2⟩
end

/-- A model's box that a draw fills: its cells, the result's box, and the reader beside them. -/
structure MX (w0 w : World) (R K X Y : Nat) (c0 c1 : Value) : Prop where
  hR : R < w0.heap.size
  hX : w0.heap.size ≤ X
  hY : w0.heap.size ≤ Y
  hne : X ≠ Y
  res : ∀ i, i < 2 → ∃ v, Cel w Y i v
  c0 : Cel w X 0 c0
  c1 : Cel w X 1 c1
  gr : Gr R w0 w
  rd : Rdr w R K
section
variable {w0 w w' : World} {R K K' X Y : Nat} {c0 c1 u : Value}
theorem MX.bel (h : MX w0 w R K X Y c0 c1) (hb : Below w.heap.size w w') : MX w0 w' R K X Y c0 c1 :=
  ⟨h.hR, h.hX, h.hY, h.hne, fun i hi => (h.res i hi).imp fun _ hv => hv.below hb, h.c0.below hb, h.c1.below hb, h.gr.bel hb, h.rd.bel hb⟩
theorem MX.ask (h : MX w0 w R K X Y c0 c1) (hg : Gr R w w') (hr : Rdr w' R K') : MX w0 w' R K' X Y c0 c1 :=
  have hX := h.hX; have hR := h.hR; have hY := h.hY
  ⟨h.hR, h.hX, h.hY, h.hne, fun i hi => (h.res i hi).imp fun _ hv => hg.cel hv (by omega), hg.cel h.c0 (by omega), hg.cel h.c1 (by omega), h.gr.trans hg, hr⟩
theorem MX.grow {ov : Value} (h : MX w0 w R K X Y c0 c1) (hg : w.grownBy w' ov.ownBlock) (ho : ∀ j, ov.ownBlock = some j → w0.heap.size ≤ j ∧ j ≠ X ∧ j ≠ Y) : MX w0 w' R K X Y c0 c1 :=
  have hX := h.hX; have hR := h.hR
  have hn : ∀ b, ov.ownBlock = some b → b ≠ X := fun b e => (ho b e).2.1
  ⟨h.hR, h.hX, h.hY, h.hne, fun i hi => (h.res i hi).imp fun _ hv => hv.grow hg (fun b e => (ho b e).2.2), h.c0.grow hg hn, h.c1.grow hg hn, h.gr.grow hg (fun b e => (ho b e).1), h.rd.grow hg (fun b e => by have := (ho b e).1; omega)⟩
theorem MX.more (h : MX w0 w R K X Y c0 c1) (hK : K ≤ K') : MX w0 w R K' X Y c0 c1 := ⟨h.hR, h.hX, h.hY, h.hne, h.res, h.c0, h.c1, h.gr, h.rd.more hK⟩
theorem MX.put0 (h : MX w0 w R K X Y c0 c1) : MX w0 (w.setCell ⟨X, 0, none⟩ u) R K X Y u c1 :=
  have hX := h.hX; have hR := h.hR; have hne := h.hne
  ⟨h.hR, h.hX, h.hY, h.hne, fun i hi => (h.res i hi).imp fun _ hv => hv.set (by omega), h.c0.put, h.c1.set (by omega), h.gr.set (.inr (by show w0.heap.size ≤ X; omega)) _, h.rd.set (by show R < X; omega) _⟩
theorem MX.put1 (h : MX w0 w R K X Y c0 c1) : MX w0 (w.setCell ⟨X, 1, none⟩ u) R K X Y c0 u :=
  have hX := h.hX; have hR := h.hR; have hne := h.hne
  ⟨h.hR, h.hX, h.hY, h.hne, fun i hi => (h.res i hi).imp fun _ hv => hv.set (by omega), h.c0.set (by omega), h.c1.put, h.gr.set (.inr (by show w0.heap.size ≤ X; omega)) _, h.rd.set (by show R < X; omega) _⟩
theorem MX.lt (h : MX w0 w R K X Y c0 c1) : X < w.heap.size ∧ Y < w.heap.size := by
  obtain ⟨v, hv⟩ := h.res 0 (by omega)
  exact ⟨World.block_lt_of_cell? w ⟨X, 0, none⟩ h.c0.1, World.block_lt_of_cell? w ⟨Y, 0, none⟩ hv.1⟩
theorem MX.fin (h : MX w0 w R K X Y c0 c1) (u0 u1 : Value) : w.grownBy ((w.setCell ⟨Y, 0, none⟩ u0).setCell ⟨Y, 1, none⟩ u1) (some Y) ∧ Gr R w0 ((w.setCell ⟨Y, 0, none⟩ u0).setCell ⟨Y, 1, none⟩ u1) ∧ Rdr ((w.setCell ⟨Y, 0, none⟩ u0).setCell ⟨Y, 1, none⟩ u1) R K :=
  have hR := h.hR; have hY := h.hY
  ⟨Gr.trans (gb_set _ ⟨Y, 0, none⟩ _) (gb_set _ ⟨Y, 1, none⟩ _), (h.gr.set (.inr hY) _).set (.inr hY) _, (h.rd.set (by show R < Y; omega) _).set (by show R < Y; omega) _⟩
end
/-- The length of the slice in a cell. -/
def lenC : Option Value → Nat
  | some (.slice _ n _) => n
  | _ => 0

/-- What the draw of a model leaves. -/
def MDr (w : World) (R K : Nat) (e : Ending) (w' : World) : Prop := ∃ As cs Ar cr sn n, e = .returned (.agg #[.slice As sn cs, .slice Ar n cr]) ∧ sn ≤ 10 ∧ n ≤ 10 ∧ TI w' w.heap.size w'.heap.size (.slice As sn cs) sn ∧ ER w' w.heap.size w'.heap.size (.slice Ar n cr) n 22 ∧ Gr R w w' ∧ Rdr w' R K

set_option maxRecDepth 100000 in
set_option maxHeartbeats 6400000 in
theorem model_any (R K : Nat) (w : World) (hK : K ≤ 700000) (h : Rdr w R K) :
    Calls Try.prog 57 #[.pointer (some ⟨R, 0, none⟩)] w (MDr w R (K + 2000)) := by
  have hRw := h.lt
  have HR := Lib.hid h
  clear h
  go_enter Try.func57, Try.ntmps57
  go_wp2_with fail
  have HB0 := Lib.hid (bl_alloc (bl_alloc (bl_alloc (Below.refl w.heap.size w) (.cells #[.slice none 0 0, .slice none 0 0] 30)) (.cells #[.slice none 0 0, .slice none 0 0] 30)) (.cells #[.int .i64 3, .int .i64 2, .int .i64 4, .int .i64 3] 3))
  have y0 : Cel (((w.alloc (.cells #[.slice none 0 0, .slice none 0 0] 30)).alloc (.cells #[.slice none 0 0, .slice none 0 0] 30)).alloc (.cells #[.int .i64 3, .int .i64 2, .int .i64 4, .int .i64 3] 3)) w.heap.size 0 (.slice none 0 0) := ⟨by go_simp, by go_simp⟩
  have y1 : Cel (((w.alloc (.cells #[.slice none 0 0, .slice none 0 0] 30)).alloc (.cells #[.slice none 0 0, .slice none 0 0] 30)).alloc (.cells #[.int .i64 3, .int .i64 2, .int .i64 4, .int .i64 3] 3)) w.heap.size 1 (.slice none 0 0) := ⟨by go_simp, by go_simp⟩
  have x0 : Cel (((w.alloc (.cells #[.slice none 0 0, .slice none 0 0] 30)).alloc (.cells #[.slice none 0 0, .slice none 0 0] 30)).alloc (.cells #[.int .i64 3, .int .i64 2, .int .i64 4, .int .i64 3] 3)) (w.heap.size + 1) 0 (.slice none 0 0) := ⟨by go_simp, by go_simp⟩
  have x1 : Cel (((w.alloc (.cells #[.slice none 0 0, .slice none 0 0] 30)).alloc (.cells #[.slice none 0 0, .slice none 0 0] 30)).alloc (.cells #[.int .i64 3, .int .i64 2, .int .i64 4, .int .i64 3] 3)) (w.heap.size + 1) 1 (.slice none 0 0) := ⟨by go_simp, by go_simp⟩
  have hh0 : (((w.alloc (.cells #[.slice none 0 0, .slice none 0 0] 30)).alloc (.cells #[.slice none 0 0, .slice none 0 0] 30)).alloc (.cells #[.int .i64 3, .int .i64 2, .int .i64 4, .int .i64 3] 3)).heap[w.heap.size + 1 + 1]? = some (.cells #[.int .i64 3, .int .i64 2, .int .i64 4, .int .i64 3] 3) := alloc_at (by simp)
  have MX1 : Hid (MX w (((w.alloc (.cells #[.slice none 0 0, .slice none 0 0] 30)).alloc (.cells #[.slice none 0 0, .slice none 0 0] 30)).alloc (.cells #[.int .i64 3, .int .i64 2, .int .i64 4, .int .i64 3] 3)) R K (w.heap.size + 1) w.heap.size (.slice none 0 0) (.slice none 0 0)) := Lib.hid ⟨hRw, by omega, Nat.le_refl _, by omega, fun i hi => (by
    have : i = 0 ∨ i = 1 := by omega
    rcases this with rfl | rfl
    · exact ⟨_, y0⟩
    · exact ⟨_, y1⟩), x0, x1, Gr.of HB0.out, HR.out.bel HB0.out⟩
  clear y0 y1 x0 x1 HB0 HR
  generalize (((w.alloc (.cells #[.slice none 0 0, .slice none 0 0] 30)).alloc (.cells #[.slice none 0 0, .slice none 0 0] 30)).alloc (.cells #[.int .i64 3, .int .i64 2, .int .i64 4, .int .i64 3] 3)) = w1 at *
  refine (num_any R K (w.heap.size + 1 + 1) 4 _ _ _ (by omega) MX1.out.rd (by omega) hh0 (by rfl) (by omega) (by omega) (lit_all [3, 2, 4, 3])).mono ?_
  rintro e w2 ⟨z, rfl, hz, hg, hr⟩
  have hz' : 2 ≤ z ∧ z ≤ 4 := by
    have := hz
    simp at this
    omega
  obtain ⟨iz, rfl⟩ : ∃ iz : Nat, z = (iz : Int) := ⟨z.toNat, by omega⟩
  have MX2 := Lib.hid (MX1.out.ask hg hr)
  have hz2 := MX2.out.lt
  clear hg hr hh0 hz MX1
  go_wp2
  go_loopw [4] (fun c wr => ∃ (i j : Nat) (ov : Value), i + j ≤ 4 ∧ 2 ≤ i + j ∧ c = .int .i64 i ∧ TZ wr w2.heap.size ov j ∧ w2.heap.size ≤ wr.heap.size ∧ MX w wr R (K + 1 + j) (w.heap.size + 1) w.heap.size ov (.slice none 0 0)) (fun c _ => (intOf c).toNat)
  case atStart => exact ⟨iz, 0, .slice none 0 0, by omega, by omega, rfl, TZ.nil, Nat.le_refl _, MX2.out⟩
  case round =>
    obtain ⟨i, j, ov, hij, hij2, rfl, htz, hsr, hmx⟩ := hrel
    have TZk := Lib.hid htz
    have MXk := Lib.hid hmx
    obtain ⟨A0, cap0, rfl⟩ := ts_head htz.ts
    have hXr := hmx.lt.1
    clear htz hmx MX2
    by_cases hlt : 0 < i
    · have hlt' : (0 : Int) < (i : Int) := by omega
      have hKb : K + 1 + j ≤ 1000000 := by omega
      have HBl := Lib.hid (fun o => bl_alloc (Below.drew (Below.refl wr.heap.size wr)) o)
      have HAt := Lib.hid (fun o => heap_alloc_new wr.drew o)
      have hsz5 : (#[Value.int .i64 2, .int .i64 1, .int .i64 3, .int .i64 2, .int .i64 0] : Array Value).size = 5 := rfl
      have hneR : wr.heap.size ≠ R := by omega
      have h05 : 0 < 5 := by omega
      have h51 : 5 ≤ 1000 := by omega
      obtain ⟨c0, c0f⟩ := MXk.out.c0
      have hR2 : R < w2.heap.size := by omega
      go_upto_region 5 with fail
      go_region_law (first
          | (go_simp; go_at_call 84; refine (num_from (W := wr) (HBl.out _) R _ wr.heap.size 5 _ _ hKb MXk.out.rd hneR (HAt.out _) hsz5 h05 h51 (lit_all [2, 1, 3, 2, 0])).mono ?_; rintro e w6 ⟨y, rfl, hym, hg, hr⟩; have hy3 : 0 ≤ y ∧ y ≤ 3 := (by simp at hym; omega); have TZ6 := Lib.hid (TZk.out.lo_ hg (fun b e => by cases e; exact hR2)); have MX6 := Lib.hid (MXk.out.ask hg hr); have hz6 := hg.size; have hzt : w2.heap.size ≤ w6.heap.size := Nat.le_trans hsr hz6; replace c0 := MX6.out.c0.1; have c0a := kc (bl_alloc (Below.refl w6.heap.size w6) (.cells #[.int .i64 y] 3)) c0; clear hg hr hym c0f)
          | (refine step_of (by rfl) (wp_tz1 (k := j) _ _ (by rfl) (TZ6.out.bel (bl_alloc (Below.refl _ _) _)) (by first | (simp; done) | (simp; omega)) (by rfl) (by rfl) (heap_alloc_new _ _) hy3 (by omega) ?_); intro gg cap2 w7 hts7 hgr7; have hZ7 := hgr7.size; have MX7 := Lib.hid ((MX6.out.bel (bl_alloc (Below.refl _ _) _)).grow hgr7 (fun b e => by have := TZ6.out.ts.lt2 b e; omega)); have TZ7 := Lib.hid hts7; have hz7 : w2.heap.size ≤ w7.heap.size := (by simp at hZ7; omega); clear hts7 hgr7 TZ6 MX6 hZ7; obtain ⟨c0, c0f⟩ := MX7.out.c0))
      all_goals
        clear c0 c0f c0a
        go_wp2
        go_roundw
        case rel => exact ⟨i - 1, j + 1, _, by omega, by omega, by first | go_num | (congr 1; omega), TZ7.out.lo_ (gb_set _ _ _) (fun b e => by cases e; show w.heap.size + 1 < _; omega), by simpa [World.setCell] using hz7, (MX7.out.put0).more (by omega)⟩
        case measure => simp [intOf]; omega
    · obtain rfl : i = 0 := by omega
      have hj2 : 2 ≤ j := by omega
      have hj4 : j ≤ 4 := by omega
      have TZL := TZk
      have MXL := Lib.hid (MXk.out.more (show K + 1 + j ≤ K + 5 by omega))
      clear TZk MXk
      go_wp2
      clear hlt hXr hij hij2
      have HSZ := Lib.hid (show TZ wr w2.heap.size (.slice A0 j cap0) j ∧ w2.heap.size ≤ wr.heap.size ∧ MX w wr R (K + 5) (w.heap.size + 1) w.heap.size (.slice A0 j cap0) (.slice none 0 0) from ⟨TZL.out, hsr, MXL.out⟩)
      clear TZL MXL
      go_loopw [5] (fun c wr => ∃ (k s : Nat) (V : Value), c = .int .i64 s ∧ 2 ≤ k ∧ k ≤ 4 ∧ TZ wr w2.heap.size V k ∧ w2.heap.size ≤ wr.heap.size ∧ MX w wr R (K + 5) (w.heap.size + 1) w.heap.size V (.slice none 0 0)) (fun c wr => if intOf c = 0 then lenC (wr.cell? ⟨w.heap.size + 1, 0, none⟩) + 1 else 0)
      case atStart => exact ⟨j, 0, _, rfl, hj2, hj4, HSZ.out⟩
      case round =>
        obtain ⟨k, s, V, rfl, hk2, hk4, htz, hsr2, hmx⟩ := hrel
        have TZk := Lib.hid htz
        have MXk := Lib.hid hmx
        obtain ⟨A1, cap1, rfl⟩ := ts_head htz.ts
        have hXr := hmx.lt.1
        have HL : lenC (wr.cell? ⟨w.heap.size + 1, 0, none⟩) = k := by rw [hmx.c0.1]; rfl
        have HL1 := Lib.hid HL
        clear htz hmx HL HSZ
        by_cases hs0 : s = 0
        · subst hs0
          go_wp2
          go_loopw [5, 6] (fun c d wq => ∃ i t : Nat, i ≤ k ∧ c = .int .i64 t ∧ d = .int .i64 i ∧ i ≤ t ∧ t ≤ 4 * i ∧ TZ wq w2.heap.size (.slice A1 k cap1) k ∧ w2.heap.size ≤ wq.heap.size ∧ MX w wq R (K + 5) (w.heap.size + 1) w.heap.size (.slice A1 k cap1) (.slice none 0 0)) (fun _ d _ => k - (intOf d).toNat)
          case atStart => exact ⟨0, 0, Nat.zero_le _, rfl, rfl, Nat.le_refl _, Nat.zero_le _, TZk.out, hsr2, MXk.out⟩
          case round =>
            obtain ⟨i, t, hik, rfl, rfl, hit, hti, htz, hsq, hmx⟩ := hrel
            have TZq := Lib.hid htz
            have MXq := Lib.hid hmx
            obtain ⟨c0, c0f⟩ := hmx.c0
            have hXq := hmx.lt.1
            clear hmx TZk MXk
            by_cases hlt : i < k
            · have hlt' : (i : Int) < (k : Int) := by omega
              have hi0 : (0 : Int) ≤ (i : Int) := by omega
              obtain ⟨g, cp, z, e, cz, z0, z3⟩ := htz.at_ hlt
              cases e
              clear htz
              obtain ⟨zn, rfl⟩ : ∃ zn : Nat, z = (zn : Int) := ⟨z.toNat, by omega⟩
              have hb1 : (t : Int) ≤ 1000 := by omega
              have hb2 : (zn : Int) ≤ 3 := by omega
              go_wp2
              go_roundw
              case rel => exact ⟨i + 1, t + zn + 1, by omega, by first | go_num | (congr 1; omega), by go_num, by omega, by omega, TZq.out, hsq, MXq.out⟩
              case measure => simp [intOf]; omega
            · obtain rfl : i = k := by omega
              clear htz
              obtain ⟨g, cp, e, hcp, hg1, hg2, _, _⟩ := TZq.out.ts.open (by omega)
              cases e
              by_cases h12 : 12 < t
              · have h12' : (12 : Int) < (t : Int) := by omega
                have hk1 : ((i - 1 : Nat) : Int) = (i : Int) - 1 := by omega
                have hk1b : (0 : Int) ≤ (i : Int) - 1 := by omega
                have hk1c : (i : Int) - 1 ≤ (cap1 : Int) := by omega
                have hk1d : ((i : Int) - 1).toNat = i - 1 := by omega
                have TZn := Lib.hid ((TZq.out.take (show i - 1 ≤ i by omega) (by omega)).lo_ (gb_set wr ⟨w.heap.size + 1, 0, none⟩ (.slice (some ⟨g, 0, none⟩) (i - 1) cap1)) (fun b e => by cases e; show w.heap.size + 1 < _; omega))
                have MXn := Lib.hid (MXq.out.put0 (u := .slice (some ⟨g, 0, none⟩) (i - 1) cap1))
                have HLn : lenC ((wr.setCell ⟨w.heap.size + 1, 0, none⟩ (.slice (some ⟨g, 0, none⟩) (i - 1) cap1)).cell? ⟨w.heap.size + 1, 0, none⟩) = i - 1 := by rw [MXn.out.c0.1]; rfl
                have hszn : w2.heap.size ≤ (wr.setCell ⟨w.heap.size + 1, 0, none⟩ (.slice (some ⟨g, 0, none⟩) (i - 1) cap1)).heap.size := by simpa [World.setCell] using hsq
                go_wp2
                exact ⟨⟨i - 1, 0, _, rfl, by omega, by omega, TZn.out, hszn, MXn.out⟩, by rw [HLn, HL1.out]; simp [intOf]; omega⟩
              · have h12' : ¬ (12 : Int) < (t : Int) := by omega
                go_wp2
                go_roundw
                case rel => exact ⟨i, t, _, rfl, hk2, hk4, TZq.out, hsq, MXq.out⟩
                case measure =>
                  have h1 := HL1.out
                  have ht0 : ¬ t = 0 := by omega
                  simp [intOf, h1, ht0]
        · have hs0' : ¬ (s : Int) = 0 := by omega
          have hs0'' : ((s : Int) == 0) = false := by rw [beq_eq_false_iff_ne]; exact hs0'
          go_wp2_with fail
          have HAl := Lib.hid (bl_alloc (Below.refl wr.heap.size wr) (.cells #[.int .i64 2, .int .i64 3, .int .i64 1, .int .i64 4, .int .i64 0] 3))
          have hRw3 : wr.heap.size ≠ R := by omega
          refine (num_any R (K + 5) wr.heap.size 5 _ _ _ (by omega) (MXk.out.bel HAl.out).rd hRw3 (heap_alloc_new wr _) (by rfl) (by omega) (by omega) (lit_all [2, 3, 1, 4, 0])).mono ?_
          rintro e w4 ⟨z, rfl, hz, hg, hr⟩
          have hz' : 0 ≤ z ∧ z ≤ 4 := by
            have := hz
            simp at this
            omega
          obtain ⟨iy, rfl⟩ : ∃ iy : Nat, z = (iy : Int) := ⟨z.toNat, by omega⟩
          have MX4 := Lib.hid ((MXk.out.bel HAl.out).ask hg hr)
          have TS4 := Lib.hid (((TZk.out.ts.bel HAl.out).gr hg (by omega)).ti (Nat.le_refl _))
          have hz4 : w2.heap.size ≤ w4.heap.size := by have h1 := HAl.out.size; have h2 := hg.size; omega
          clear hg hr hz TZk MXk HAl HL1
          go_wp2
          go_loopw [7] (fun c wr => ∃ (i j : Nat) (ov : Value), i + j ≤ 4 ∧ c = .int .i64 i ∧ TI wr w2.heap.size w4.heap.size (.slice A1 k cap1) k ∧ ER wr w4.heap.size wr.heap.size ov j 22 ∧ w4.heap.size ≤ wr.heap.size ∧ MX w wr R (K + 6 + 400 * j) (w.heap.size + 1) w.heap.size (.slice A1 k cap1) ov) (fun c _ => (intOf c).toNat)
          case atStart => exact ⟨iy, 0, .slice none 0 0, by omega, rfl, TS4.out, ER.nil, Nat.le_refl _, MX4.out⟩
          case round =>
            obtain ⟨i, j, ov, hij, rfl, hti, her, hsq, hmx⟩ := hrel
            have TIk := Lib.hid hti
            have ERk := Lib.hid her
            have MXk := Lib.hid hmx
            obtain ⟨A2, cap2, rfl⟩ := her.head
            have hXr := hmx.lt.1
            obtain ⟨c0, c0f⟩ := hmx.c0
            obtain ⟨c1, c1f⟩ := hmx.c1
            have HRD := Lib.hid (hmx.rd.bel (Below.refl wr.heap.size wr).drew)
            clear hti her hmx MX4 TS4
            by_cases hlt : 0 < i
            · have hlt' : (0 : Int) < (i : Int) := by omega
              have hKb : K + 6 + 400 * j ≤ 800000 := by omega
              have hk20 : k ≤ 20 := by omega
              have hR4 : R < w4.heap.size := by omega
              have hR2 : R < w2.heap.size := by omega
              go_upto_region 18 with fail
              go_region_law (first
                  | (go_simp; go_at_call 85; refine (drawR_any R _ _ _ _ _ _ _ _ hKb hk20 HRD.out).mono ?_; rintro e w6 ⟨c, rfl, he5, hg0, hr⟩; have hg := (Gr.of (R := R) (Below.refl wr.heap.size wr).drew).trans hg0; have TI6 := Lib.hid (TIk.out.kept hg (oth_some (.inl hR2))); have ER6 := Lib.hid (ERk.out.kept hg (oth_some (.inl hR4))); have E6 := Lib.hid he5; have MX6 := Lib.hid (MXk.out.ask hg hr); have hz6 := hg.size; have hzt : w4.heap.size ≤ w6.heap.size := Nat.le_trans hsq hz6; replace c0 := MX6.out.c0.1; replace c1 := MX6.out.c1.1; have c1a := kc (bl_alloc (Below.refl w6.heap.size w6) (.cells #[c 0, c 1, c 2, c 3, c 4] 90)) c1; clear hg hg0 hr he5 c0f c1f)
                  | (refine step_of (by rfl) (wp_er1 (k := j) (c := c) (lo := w4.heap.size) (hi := w6.heap.size) (N := 22) _ _ (by rfl) ((ER6.out.kept (gb_of (bl_alloc (Below.refl _ _) _)) oth_none).more (Nat.le_refl _) hz6 (Nat.le_refl _)) (by first | (simp; done) | (simp; omega)) (by rfl) (by rfl) (heap_alloc_new _ _) ((E6.out.kept (gb_of (bl_alloc (Below.refl _ _) _)) oth_none).more (by first | (simp; done) | (simp; omega)) (Nat.le_refl _) (Nat.le_refl _)) (by omega) ?_ (by simp)); intro gg cap3 w7 her7 hgr7 hown7 hhi7; have hZ7 := hgr7.size; have MX7 := Lib.hid ((MX6.out.bel (bl_alloc (Below.refl _ _) _)).grow hgr7 (fun b e => by have := hown7 b e; omega)); have TI7 := Lib.hid ((TI6.out.kept (gb_of (bl_alloc (Below.refl _ _) _)) oth_none).kept hgr7 (fun b e => by have := hown7 b e; omega)); have ER7 := Lib.hid her7; have hz7 : w4.heap.size ≤ w7.heap.size := (by simp at hZ7; omega); clear her7 hgr7 hown7 hhi7 ER6 E6 TI6 MX6 hZ7; obtain ⟨c1, c1f⟩ := MX7.out.c1))
              all_goals
                clear c0 c1 c1f c1a
                go_wp2
                go_roundw
                case rel => exact ⟨i - 1, j + 1, _, by omega, by first | go_num | (congr 1; omega), TI7.out.kept (gb_set _ _ _) (oth_some (.inl (by show w.heap.size + 1 < _; omega))), (ER7.out.kept (gb_set _ _ _) (oth_some (.inl (by show w.heap.size + 1 < _; omega)))).more (Nat.le_refl _) (by simp [World.setCell]) (Nat.le_refl _), by simpa [World.setCell] using hz7, (MX7.out.put1).more (by omega)⟩
                case measure => simp [intOf]; omega
            · obtain rfl : i = 0 := by omega
              obtain ⟨e0, g0, g0f⟩ := MXk.out.res 0 (by omega)
              obtain ⟨e1, g1, g1f⟩ := MXk.out.res 1 (by omega)
              go_wp2
              refine bodyPost_ret (v := .agg #[.slice A1 k cap1, .slice A2 j cap2]) (by simp [results, Try.results57, go_sem, g0, g1]) rfl ?_
              obtain ⟨f1, f2, f3⟩ := MXk.out.fin (.slice A1 k cap1) (.slice A2 j cap2)
              have f4 := f1.size
              exact ⟨A1, cap1, A2, cap2, k, j, rfl, by omega, by omega, (TIk.out.kept f1 (oth_some (.inl (by omega)))).more (by omega) (by omega), (ERk.out.kept f1 (oth_some (.inl (by omega)))).more (by omega) f4 (Nat.le_refl _), f2, f3.more (by omega)⟩
end Go.Proofs.Ytafiikfaeomhpaa
