/- Contracts of the helpers over slices of rules of the exact laws (no claim of its own). Conditions: as each theorem states. -/
import Derived.Test.YtafiikfaeomhpaaMdlC
namespace Go.Proofs.Ytafiikfaeomhpaa
open Go.ChangeShapes Go.WideShapes Go.ChangeAt Go.RowKit

/-- A slice of rules: element i says what q i says. -/
def RdRs (w : World) (B : Nat) (A : Option Addr) (n : Nat) (q : Nat → Rul) : Prop :=
  0 < n → ∃ b off, A = some ⟨b, off, none⟩ ∧ b < B ∧ ∀ i, i < n → ∃ Av cv Ac cc Ar cr, w.cell? ⟨b, off + i * 5, none⟩ = some (.int .i64 (q i).k) ∧ w.cell? ⟨b, off + i * 5 + 1, none⟩ = some (.slice Av (q i).v.n cv) ∧ w.cell? ⟨b, off + i * 5 + 2, none⟩ = some (.slice Ac (q i).c.n cc) ∧ w.cell? ⟨b, off + i * 5 + 3, none⟩ = some (.int .i64 (q i).bd) ∧ w.cell? ⟨b, off + i * 5 + 4, none⟩ = some (.slice Ar (q i).n cr) ∧ RdI w B Av (q i).v.n (q i).v.x ∧ RdI w B Ac (q i).c.n (q i).c.x ∧ RdL w B Ar (q i).n (q i).r
theorem RdRs.below {w w' : World} {B : Nat} {A : Option Addr} {n : Nat} {q : Nat → Rul} (h : RdRs w B A n q) (hb : Below B w w') : RdRs w' B A n q := fun hn => by
  obtain ⟨b, off, e, hlt, hc⟩ := h hn
  refine ⟨b, off, e, hlt, fun i hi => ?_⟩
  obtain ⟨Av, cv, Ac, cc, Ar, cr, c0, c1, c2, c3, c4, v, c, r⟩ := hc i hi
  exact ⟨Av, cv, Ac, cc, Ar, cr, (hb.cell (p := ⟨b, _, none⟩) hlt).trans c0, (hb.cell (p := ⟨b, _, none⟩) hlt).trans c1, (hb.cell (p := ⟨b, _, none⟩) hlt).trans c2, (hb.cell (p := ⟨b, _, none⟩) hlt).trans c3, (hb.cell (p := ⟨b, _, none⟩) hlt).trans c4, v.below hb, c.below hb, r.below hb⟩
theorem RdRs.more {w : World} {B B' : Nat} {A : Option Addr} {n : Nat} {q : Nat → Rul} (h : RdRs w B A n q) (hB : B ≤ B') : RdRs w B' A n q := fun hn => by
  obtain ⟨b, off, e, hlt, hc⟩ := h hn
  refine ⟨b, off, e, by omega, fun i hi => ?_⟩
  obtain ⟨Av, cv, Ac, cc, Ar, cr, c0, c1, c2, c3, c4, v, c, r⟩ := hc i hi
  exact ⟨Av, cv, Ac, cc, Ar, cr, c0, c1, c2, c3, c4, v.more hB, c.more hB, r.more hB⟩
theorem RdRs.later {w w' : World} {A : Option Addr} {n : Nat} {q : Nat → Rul} (h : RdRs w w.heap.size A n q) (hb : Below w.heap.size w w') : RdRs w' w'.heap.size A n q := (h.below hb).more hb.size

/-- How many elements the lists of the first k rules have. -/
def totR (q : Nat → Rul) : Nat → Nat
  | 0 => 0
  | k + 1 => totR q k + (q k).sz
theorem totR_le (q : Nat → Rul) {k n : Nat} (h : k ≤ n) : totR q k ≤ totR q n := by
  induction n with
  | zero =>
    obtain rfl : k = 0 := by omega
    exact Nat.le_refl _
  | succ n ih =>
    by_cases e : k = n + 1
    · subst e; exact Nat.le_refl _
    · have := ih (by omega)
      show totR q k ≤ totR q n + (q n).sz
      omega
theorem totR_at (q : Nat → Rul) {k n : Nat} (h : k < n) : totR q k + (q k).sz ≤ totR q n := totR_le q (show k + 1 ≤ n from h)

set_option maxRecDepth 100000 in
set_option maxHeartbeats 1600000 in
theorem szRuleS_any (A : Option Addr) (n cap : Nat) (q : Nat → Rul) (left : Int) (w : World) (h0 : 0 ≤ left) (h1 : left ≤ 1048576) (hm : n ≤ maxLen) (hm' : ∀ i, i < n → (q i).fit maxLen) (hr : RdRs w w.heap.size A n q) :
    Calls Try.prog 38 #[.slice A n cap, .int .i64 left] w fun e w' => e = .returned (.int .i64 (szO left (n + totR q n))) ∧ Below w.heap.size w w' := by
  unfold maxLen at hm
  by_cases hge : left - n < 0
  · go_enter Try.func38, Try.ntmps38
    go_wp2
    go_ret
    exact ⟨ret_int (szO_no (by omega)).symm, Below.refl _ _⟩
  · go_enter Try.func38, Try.ntmps38
    go_wp2
    go_loopw [1, 5] (fun t i wr => ∃ k : Nat, k ≤ n ∧ i = .int .i64 k ∧ t = .int .i64 (left - n - totR q k) ∧ (n : Int) + totR q k ≤ left ∧ Below w.heap.size w wr) (fun _ i _ => n - (intOf i).toNat)
    case atStart => exact ⟨0, Nat.zero_le _, rfl, by show _ = Value.int .i64 (left - n - (0 : Nat)); simp, by show (n : Int) + (0 : Nat) ≤ left; omega, Below.refl _ _⟩
    case round =>
      obtain ⟨k, hk, rfl, rfl, hle, hb⟩ := hrel
      by_cases hlt : k < n
      · have hmk := Lib.hid (hm' k hlt)
        have hta := totR_at q hlt
        obtain ⟨b, off, rfl, hbl, hc⟩ := (hr.below hb) (by omega)
        obtain ⟨Av, cv, Ac, cc, Ar, cr, c0, c1, c2, c3, c4, _, _, hrk⟩ := hc k hlt
        have HRK := Lib.hid (hrk.more hb.size)
        clear hc hr hm' hrk
        by_cases hs : left - n - totR q k < (q k).sz
        · have Hno := Lib.hid (szO_no hs)
          have Hfin := Lib.hid (szO_no (left := left) (s := n + totR q n) (by omega))
          clear hta hs
          go_wp2_with (go_at_call 75; refine (szRule_any (q k) _ _ _ _ _ _ _ _ (by omega) (by omega) hmk.out HRK.out).mono ?_; rintro e w' ⟨rfl, hb1⟩; rw [Hno.out])
          go_ret
          exact ⟨ret_int Hfin.out.symm, hb.trans (hb1.mono hb.size)⟩
        · have hge2 : ¬ (left - n - totR q k - (q k).sz < 0) := by omega
          have hnx : (left - n - totR q k - (q k).sz : Int) = left - n - totR q (k + 1) := by show _ = left - n - ((totR q k + (q k).sz : Nat) : Int); omega
          have hle2 : (n : Int) + totR q (k + 1) ≤ left := by show (n : Int) + ((totR q k + (q k).sz : Nat) : Int) ≤ left; omega
          have Hnx := Lib.hid hnx
          have Hle := Lib.hid hle2
          have Hy := Lib.hid (szO_yes (left := left - n - totR q k) (s := (q k).sz) (by omega))
          clear hnx hle2
          go_wp2_with (go_at_call 75; refine (szRule_any (q k) _ _ _ _ _ _ _ _ (by omega) (by omega) hmk.out HRK.out).mono ?_; rintro e w' ⟨rfl, hb1⟩; rw [Hy.out])
          go_roundw
          case rel => exact ⟨k + 1, by omega, by go_num, by rw [Hnx.out], Hle.out, hb.trans (hb1.mono hb.size)⟩
          case measure => simp [intOf]; omega
      · have e : k = n := by omega
        subst e
        have Hfin := Lib.hid (szO_yes (left := left) (s := k + totR q k) (by omega))
        go_wp2
        go_ret
        exact ⟨ret_int (by rw [Hfin.out]; omega), hb⟩

theorem Try.infoRu : (Try.prog.info? 90).map (fun i => (i.zero, i.size, i.bytes)) = some (some (.agg #[.int .i64 0, .slice none 0 0, .slice none 0 0, .int .i64 0, .slice none 0 0]), 5, 88) := by kernel_rfl

/-- A block of the call's own that holds rules, each with lists of its own: the first k of them are known. -/
def OwnRs (w : World) (G : Nat) (n k : Nat) (q : Nat → Rul) : Prop :=
  ∃ cs : Array Value, w.heap[G]? = some (.cells cs 90 (0, 0)) ∧ cs.size = n * 5 ∧
    ∀ i, i < k → ∃ gv gc gr, G < gv ∧ G < gc ∧ G < gr ∧ cs[i * 5]? = some (.int .i64 (q i).k) ∧ cs[i * 5 + 1]? = some (.slice (some ⟨gv, 0, none⟩) (q i).v.n (q i).v.n) ∧ cs[i * 5 + 2]? = some (.slice (some ⟨gc, 0, none⟩) (q i).c.n (q i).c.n) ∧ cs[i * 5 + 3]? = some (.int .i64 (q i).bd) ∧ cs[i * 5 + 4]? = some (.slice (some ⟨gr, 0, none⟩) (q i).n (q i).n) ∧ OwnI w gv (q i).v.n (q i).v.n (q i).v.x ∧ OwnI w gc (q i).c.n (q i).c.n (q i).c.x ∧ OwnL w gr (q i).n (q i).n (q i).r
section
variable {w w' : World} {G n k : Nat} {q : Nat → Rul}
theorem OwnRs.lt (h : OwnRs w G n k q) : G < w.heap.size := by
  obtain ⟨cs, hh, h1, h2⟩ := h
  rcases Nat.lt_or_ge G w.heap.size with hlt | hge
  · exact hlt
  · rw [Array.getElem?_eq_none hge] at hh; cases hh
theorem OwnRs.below (h : OwnRs w G n k q) (hb : Below w.heap.size w w') : OwnRs w' G n k q := by
  have hlt := h.lt
  obtain ⟨cs, hh, h1, h2⟩ := h
  refine ⟨cs, (hb.block G hlt).trans hh, h1, fun i hi => ?_⟩
  obtain ⟨gv, gc, gr, g1, g2, g3, c0, c1, c2, c3, c4, v, c, r⟩ := h2 i hi
  exact ⟨gv, gc, gr, g1, g2, g3, c0, c1, c2, c3, c4, v.below hb v.lt, c.below hb c.lt, r.below hb⟩
theorem OwnRs.rdAt (h : OwnRs w G n n q) : RdRs w w.heap.size (some ⟨G, 0, none⟩) n q := fun _ => by
  have hlt := h.lt
  obtain ⟨cs, hh, h1, h2⟩ := h
  refine ⟨G, 0, rfl, hlt, fun i hi => ?_⟩
  obtain ⟨gv, gc, gr, g1, g2, g3, c0, c1, c2, c3, c4, v, c, r⟩ := h2 i hi
  rw [Nat.zero_add]
  exact ⟨_, _, _, _, _, _, (cell_of_row w G _ cs _ _ hh).trans c0, (cell_of_row w G _ cs _ _ hh).trans c1, (cell_of_row w G _ cs _ _ hh).trans c2, (cell_of_row w G _ cs _ _ hh).trans c3, (cell_of_row w G _ cs _ _ hh).trans c4, v.rdAt, c.rdAt, r.rdAt⟩
theorem OwnRs.cell (h : OwnRs w G n k q) {j : Nat} (hj : j < n * 5) : ∃ u, w.cell? ⟨G, j, none⟩ = some u := by
  obtain ⟨cs, hh, h1, h2⟩ := h
  exact ⟨cs[j]'(by omega), (cell_of_row w G _ cs _ _ hh).trans (Array.getElem?_eq_getElem (by omega))⟩
theorem OwnRs.frozen (h : OwnRs w G n k q) (j : Nat) : w.frozen? ⟨G, j, none⟩ = false := by
  obtain ⟨cs, hh, h1, h2⟩ := h
  simp [World.frozen?, hh]
theorem OwnRs.put {gv gc gr : Nat} (h : OwnRs w G n k q) (hk : k < n) (g1 : G < gv) (g2 : G < gc) (g3 : G < gr) (hv : OwnI w gv (q k).v.n (q k).v.n (q k).v.x) (hc : OwnI w gc (q k).c.n (q k).c.n (q k).c.x) (hr : OwnL w gr (q k).n (q k).n (q k).r) :
    OwnRs (((((w.setCell ⟨G, k * 5, none⟩ (.int .i64 (q k).k)).setCell ⟨G, k * 5 + 1, none⟩ (.slice (some ⟨gv, 0, none⟩) (q k).v.n (q k).v.n)).setCell ⟨G, k * 5 + 2, none⟩ (.slice (some ⟨gc, 0, none⟩) (q k).c.n (q k).c.n)).setCell ⟨G, k * 5 + 3, none⟩ (.int .i64 (q k).bd)).setCell ⟨G, k * 5 + 4, none⟩ (.slice (some ⟨gr, 0, none⟩) (q k).n (q k).n)) G n (k + 1) q := by
  obtain ⟨cs, hh, h1, h2⟩ := h
  refine ⟨(((((cs.setIfInBounds (k * 5) (.int .i64 (q k).k)).setIfInBounds (k * 5 + 1) (.slice (some ⟨gv, 0, none⟩) (q k).v.n (q k).v.n)).setIfInBounds (k * 5 + 2) (.slice (some ⟨gc, 0, none⟩) (q k).c.n (q k).c.n)).setIfInBounds (k * 5 + 3) (.int .i64 (q k).bd)).setIfInBounds (k * 5 + 4) (.slice (some ⟨gr, 0, none⟩) (q k).n (q k).n)), ?_, by simp [h1], fun i hi => ?_⟩
  · simp [World.setCell, Array.getElem?_modify, hh]
  · simp only [Array.getElem?_setIfInBounds, Array.size_setIfInBounds]
    by_cases e : i = k
    · subst e
      refine ⟨gv, gc, gr, g1, g2, g3, ?_, ?_, ?_, ?_, ?_, (((((hv).far (by show _; simp only; omega) _).far (by show _; simp only; omega) _).far (by show _; simp only; omega) _).far (by show _; simp only; omega) _).far (by show _; simp only; omega) _, (((((hc).far (by show _; simp only; omega) _).far (by show _; simp only; omega) _).far (by show _; simp only; omega) _).far (by show _; simp only; omega) _).far (by show _; simp only; omega) _, (((((hr).far (by show _; simp only; omega) _).far (by show _; simp only; omega) _).far (by show _; simp only; omega) _).far (by show _; simp only; omega) _).far (by show _; simp only; omega) _⟩
      · rw [if_neg (by omega), if_neg (by omega), if_neg (by omega), if_neg (by omega), if_pos rfl, if_pos (by omega)]
      · rw [if_neg (by omega), if_neg (by omega), if_neg (by omega), if_pos rfl, if_pos (by omega)]
      · rw [if_neg (by omega), if_neg (by omega), if_pos rfl, if_pos (by omega)]
      · rw [if_neg (by omega), if_pos rfl, if_pos (by omega)]
      · rw [if_pos rfl, if_pos (by omega)]
    · obtain ⟨gv', gc', gr', g1', g2', g3', c0, c1, c2, c3, c4, v, c, r⟩ := h2 i (by omega)
      refine ⟨gv', gc', gr', g1', g2', g3', ?_, ?_, ?_, ?_, ?_, (((((v).far (by show _; simp only; omega) _).far (by show _; simp only; omega) _).far (by show _; simp only; omega) _).far (by show _; simp only; omega) _).far (by show _; simp only; omega) _, (((((c).far (by show _; simp only; omega) _).far (by show _; simp only; omega) _).far (by show _; simp only; omega) _).far (by show _; simp only; omega) _).far (by show _; simp only; omega) _, (((((r).far (by show _; simp only; omega) _).far (by show _; simp only; omega) _).far (by show _; simp only; omega) _).far (by show _; simp only; omega) _).far (by show _; simp only; omega) _⟩
      · rw [if_neg (by omega), if_neg (by omega), if_neg (by omega), if_neg (by omega), if_neg (by omega)]; exact c0
      · rw [if_neg (by omega), if_neg (by omega), if_neg (by omega), if_neg (by omega), if_neg (by omega)]; exact c1
      · rw [if_neg (by omega), if_neg (by omega), if_neg (by omega), if_neg (by omega), if_neg (by omega)]; exact c2
      · rw [if_neg (by omega), if_neg (by omega), if_neg (by omega), if_neg (by omega), if_neg (by omega)]; exact c3
      · rw [if_neg (by omega), if_neg (by omega), if_neg (by omega), if_neg (by omega), if_neg (by omega)]; exact c4
end

set_option maxRecDepth 100000 in
set_option maxHeartbeats 1600000 in
theorem toRuleS_any (A : Option Addr) (n cap : Nat) (q : Nat → Rul) (w : World) (hn : n ≤ 1048576) (hn' : ∀ i, i < n → (q i).fit 1048576) (hr : RdRs w w.heap.size A n q) :
    Calls Try.prog 41 #[.slice A n cap] w fun e w' => ∃ G, e = .returned (.slice (some ⟨G, 0, none⟩) n n) ∧ w.heap.size ≤ G ∧ OwnRs w' G n n q ∧ Below w.heap.size w w' := by
  obtain ⟨i0, hi, hz0, hz1, hz2⟩ := info_parts Try.infoRu
  have hmk := fun W => run_make (P := Try.prog) W 28 90 i0 _ Try.underlying28 hi hz0 .i64 .i64 (n : Int) n (by omega) (by omega) (by rw [hz2]; omega) (by omega)
  rw [hz1] at hmk
  clear hi hz0 hz1 hz2
  go_enter Try.func41, Try.ntmps41
  go_wp2
  go_loopw [4] (fun i wr => ∃ k : Nat, k ≤ n ∧ i = .int .i64 k ∧ OwnRs wr w.heap.size n k q ∧ Below w.heap.size w wr) (fun i _ => n - (intOf i).toNat)
  case atStart => exact ⟨0, Nat.zero_le _, rfl, ⟨_, heap_alloc_new _ _, by simp [size_madeCells], fun i hi => absurd hi (by omega)⟩, bl_alloc (Below.refl _ _) _⟩
  case round =>
    obtain ⟨k, hk, rfl, hown, hb⟩ := hrel
    by_cases hlt : k < n
    · obtain ⟨f1, f2, f3, f4⟩ := hn' k hlt
      have F4 := Lib.hid f4
      obtain ⟨b, off, rfl, hbl, hc⟩ := (hr.below hb) (by omega)
      obtain ⟨Av, cv, Ac, cc, Ar, cr, c0, c1, c2, c3, c4, hv, hcc, hrk⟩ := hc k hlt
      have HV := Lib.hid (hv.more hb.size)
      have HC := Lib.hid (hcc.more hb.size)
      have HRK := Lib.hid (hrk.more hb.size)
      have HOW := Lib.hid hown
      have hzz := hown.lt
      clear hc hmk hr hn' hrk hv hcc f4 hown
      go_wp2_with (go_at_call 77; refine (toRule_any (q k).k (q k).bd _ _ _ (q k).v.x (q k).c.x (q k).r _ _ _ _ _ _ _ f1 f2 f3 F4.out HV.out HC.out HRK.out).mono ?_; rintro e w' ⟨gv, gc, gr, rfl, g1, g2, g3, ov, oc, orr, hb1⟩; have hown1 := HOW.out.below hb1; obtain ⟨y0, hy0⟩ := hown1.cell (j := k * 5) (by omega); obtain ⟨y1, hy1⟩ := hown1.cell (j := k * 5 + 1) (by omega); obtain ⟨y2, hy2⟩ := hown1.cell (j := k * 5 + 2) (by omega); obtain ⟨y3, hy3⟩ := hown1.cell (j := k * 5 + 3) (by omega); obtain ⟨y4, hy4⟩ := hown1.cell (j := k * 5 + 4) (by omega); have hf0 := hown1.frozen (k * 5); have hf1 := hown1.frozen (k * 5 + 1); have hf2 := hown1.frozen (k * 5 + 2); have hf3 := hown1.frozen (k * 5 + 3); have hf4 := hown1.frozen (k * 5 + 4); have HOW1 := Lib.hid hown1; have OV := Lib.hid ov; have OC := Lib.hid oc; have OR := Lib.hid orr; clear hown1 ov oc orr)
      go_roundw
      case rel => exact ⟨k + 1, by omega, by go_num, HOW1.out.put hlt (by omega) (by omega) (by omega) OV.out OC.out OR.out, (((((hb.trans (hb1.mono hb.size)).setCell (Nat.le_refl _) _).setCell (Nat.le_refl _) _).setCell (Nat.le_refl _) _).setCell (Nat.le_refl _) _).setCell (Nat.le_refl _) _⟩
      case measure => simp [intOf]; omega
    · have e : k = n := by omega
      subst e
      go_wp2
      go_ret
      exact ⟨_, rfl, Nat.le_refl _, hown, hb⟩

set_option maxRecDepth 100000 in
set_option maxHeartbeats 1600000 in
theorem eqRuleS_refl (A A' : Option Addr) (n cap cap' : Nat) (q : Nat → Rul) (w : World) (hn : n ≤ 1048576) (hn' : ∀ i, i < n → (q i).fit 1048576) (hr : RdRs w w.heap.size A n q) (hr' : RdRs w w.heap.size A' n q) :
    Calls Try.prog 43 #[.slice A n cap, .slice A' n cap'] w fun e w' => e = .returned (.bool true) ∧ Below w.heap.size w w' := by
  go_enter Try.func43, Try.ntmps43
  go_wp2
  go_loopw [5] (fun i wr => ∃ k : Nat, k ≤ n ∧ i = .int .i64 k ∧ Below w.heap.size w wr) (fun i _ => n - (intOf i).toNat)
  case atStart => exact ⟨0, Nat.zero_le _, rfl, Below.refl _ _⟩
  case round =>
    obtain ⟨k, hk, rfl, hb⟩ := hrel
    by_cases hlt : k < n
    · obtain ⟨f1, f2, f3, f4⟩ := hn' k hlt
      have F4 := Lib.hid f4
      obtain ⟨b, off, rfl, hbl, hc⟩ := (hr.below hb) (by omega)
      obtain ⟨b', off', rfl, hbl', hc'⟩ := (hr'.below hb) (by omega)
      obtain ⟨Av, cv, Ac, cc, Ar, cr, c0, c1, c2, c3, c4, hv, hcc, hrk⟩ := hc k hlt
      obtain ⟨Av', cv', Ac', cc', Ar', cr', c0', c1', c2', c3', c4', hv', hcc', hrk'⟩ := hc' k hlt
      have V1 := Lib.hid ((hv.more hb.size).later ((Below.refl _ _).drew))
      have C1 := Lib.hid ((hcc.more hb.size).later ((Below.refl _ _).drew))
      have R1 := Lib.hid ((hrk.more hb.size).later ((Below.refl _ _).drew))
      have V2 := Lib.hid ((hv'.more hb.size).later ((Below.refl _ _).drew))
      have C2 := Lib.hid ((hcc'.more hb.size).later ((Below.refl _ _).drew))
      have R2 := Lib.hid ((hrk'.more hb.size).later ((Below.refl _ _).drew))
      clear hc hc' hr hr' hn' hrk hrk' hv hv' hcc hcc' f4
      have hlt' : (k : Int) < (n : Int) := by omega
      have hk0 : (0 : Int) ≤ (k : Int) := by omega
      go_wp2_with fail
      go_still_tail 8, (by kernel_rfl)
      change wpList _ _ _ _ _ wr.drew
      go_wp2_with (go_at_call 81; refine (eqRule_refl (q k).k (q k).bd _ _ _ (q k).v.x (q k).c.x (q k).r _ _ _ _ _ _ _ _ _ _ _ _ _ f1 f2 f3 F4.out V1.out C1.out R1.out V2.out C2.out R2.out).mono ?_; rintro e w' ⟨rfl, hb1⟩)
      go_roundw
      case rel => exact ⟨k + 1, by omega, by go_num, hb.drew.trans (hb1.mono hb.size)⟩
      case measure => simp [intOf]; omega
    · have e : k = n := by omega
      subst e
      go_wp2
      go_ret
      exact ⟨rfl, hb⟩
end Go.Proofs.Ytafiikfaeomhpaa
