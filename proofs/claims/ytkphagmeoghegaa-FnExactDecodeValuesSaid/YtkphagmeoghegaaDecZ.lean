/- DecodeValues: what it says (no claim of its own). Conditions: as each theorem states. · DecodeValues: the reference's side (no claim of its own). Conditions: as each theorem states. · DecodeValues: the program's side, slices.Index and Contains of Booleans (no claim of its own). Conditions: as each theorem states. · DecodeValues: the program's side (no claim of its own). Conditions: as each theorem states. -/
import Derived.Test.YtkphagmeoghegaaEncA
namespace Go.Proofs.Ytkphagmeoghegaa
open Go.ChangeShapes Go.WideShapes Go.ChangeAt Go.RowKit

/-- How many of the first k are true; the last one of them. -/
def cntB (e : Nat → Bool) : Nat → Nat
  | 0 => 0
  | k + 1 => if e k then cntB e k + 1 else cntB e k
def lstB (e : Nat → Bool) : Nat → Int
  | 0 => -1
  | k + 1 => if e k then k else lstB e k
section
variable {e : Nat → Bool}
theorem cnt_yes {k : Nat} (h : e k = true) : cntB e (k + 1) = cntB e k + 1 := if_pos h
theorem cnt_no {k : Nat} (h : e k = false) : cntB e (k + 1) = cntB e k := if_neg (by rw [h]; decide)
theorem lst_yes {k : Nat} (h : e k = true) : lstB e (k + 1) = k := if_pos h
theorem lst_no {k : Nat} (h : e k = false) : lstB e (k + 1) = lstB e k := if_neg (by rw [h]; decide)
theorem cnt_le (k : Nat) : cntB e k ≤ k := by
  induction k with
  | zero => exact Nat.le_refl _
  | succ k ih =>
    cases h : e k with
    | true => rw [cnt_yes h]; omega
    | false => rw [cnt_no h]; omega
theorem cnt_mono {k n : Nat} (hk : k ≤ n) : cntB e k ≤ cntB e n := by
  induction n with
  | zero => obtain rfl : k = 0 := by omega
            exact Nat.le_refl _
  | succ n ih =>
    by_cases e1 : k = n + 1
    · subst e1; exact Nat.le_refl _
    · have := ih (by omega)
      cases h : e n with
      | true => rw [cnt_yes h]; omega
      | false => rw [cnt_no h]; omega
theorem cnt_stay {f n : Nat} (hf : f ≤ n) (h : ∀ j, f ≤ j → j < n → e j = false) : cntB e n = cntB e f ∧ lstB e n = lstB e f := by
  induction n with
  | zero => obtain rfl : f = 0 := by omega
            exact ⟨rfl, rfl⟩
  | succ n ih =>
    by_cases e1 : f = n + 1
    · subst e1; exact ⟨rfl, rfl⟩
    · obtain ⟨h1, h2⟩ := ih (by omega) (fun j a b => h j a (by omega))
      have hn := h n (by omega) (by omega)
      rw [cnt_no hn, lst_no hn]
      exact ⟨h1, h2⟩
theorem lst_bd (k : Nat) : -1 ≤ lstB e k ∧ lstB e k < k := by
  induction k with
  | zero => exact ⟨Int.le_refl _, show (-1 : Int) < ((0 : Nat) : Int) by omega⟩
  | succ k ih =>
    cases h : e k with
    | true => rw [lst_yes h]; omega
    | false => rw [lst_no h]; omega
/-- None is true. -/
theorem cnt_none {n : Nat} (h : ∀ j, j < n → e j = false) : cntB e n = 0 := (cnt_stay (Nat.zero_le n) fun j _ hj => h j hj).1
/-- One is true, and no later one. -/
theorem cnt_one {f n : Nat} (hf : f < n) (h0 : ∀ j, j < f → e j = false) (h1 : e f = true) (h2 : ∀ j, f < j → j < n → e j = false) : cntB e n = 1 ∧ lstB e n = f := by
  obtain ⟨a, b⟩ := cnt_stay (e := e) (show f + 1 ≤ n by omega) (fun j x y => h2 j (by omega) y)
  rw [a, b, cnt_yes h1, lst_yes h1, cnt_none h0]
  exact ⟨rfl, rfl⟩
/-- One is true, and a later one. -/
theorem cnt_two {f g n : Nat} (h1 : e f = true) (hg : f < g) (hn : g < n) (h2 : e g = true) : 2 ≤ cntB e n := by
  have a := cnt_mono (e := e) (show f + 1 ≤ g by omega)
  have b := cnt_mono (e := e) (show g + 1 ≤ n by omega)
  rw [cnt_yes h1] at a
  rw [cnt_yes h2] at b
  omega
end
/-- The Booleans of a cell. -/
def winB (x : Nat → Int) (y : Nat → Bool) (i j : Nat) : Bool := y ((tS x i).toNat + j)
/-- How many values a cell has. -/
def szN (x : Nat → Int) (i : Nat) : Nat := (x i).toNat + 1
/-- A cell has one value; the value. -/
def okC (x : Nat → Int) (y : Nat → Bool) (i : Nat) : Bool := cntB (winB x y i) (szN x i) == 1
def valC (x : Nat → Int) (y : Nat → Bool) (i : Nat) : Int := lstB (winB x y i) (szN x i)
/-- What DecodeValues answers. -/
def dvB (s : Lst) (n : Nat) (q : Nat → Rul) (m : Nat) (y : Nat → Bool) : Bool := modB s n q && (m == 12 && prE (okC s.x y) s.n)
def dvN (s : Lst) (n : Nat) (q : Nat → Rul) (m : Nat) (y : Nat → Bool) : Nat := if dvB s n q m y then s.n else 0
theorem dvN_le {s : Lst} {n : Nat} {q : Nat → Rul} {m : Nat} {y : Nat → Bool} (h : s.n ≤ 1048576) : dvN s n q m y ≤ 1048576 := by unfold dvN; split <;> omega
/-- What a valid model's cells are. -/
structure ModOk (s : Lst) (n : Nat) (q : Nat → Rul) : Prop where
  one : 1 ≤ s.n
  five : s.n ≤ 5
  sizes : prE (fun i => betB 0 3 (s.x i)) s.n = true
  sum : tS s.x s.n ≤ 12
  eight : n ≤ 8
theorem mod_ok {s : Lst} {n : Nat} {q : Nat → Rul} (h : modB s n q = true) : ModOk s n q := by
  obtain ⟨h1, h2, h3, h4, h5, _⟩ := mod_parts h
  exact ⟨h1, h2, h3, h4, h5⟩
/-- Where a cell's Booleans lie: numbers. -/
theorem win_bd {s : Lst} {n : Nat} {q : Nat → Rul} (h : ModOk s n q) {i : Nat} (hi : i < s.n) : ∃ a z : Nat, tS s.x i = (a : Int) ∧ s.x i = (z : Int) ∧ tS s.x (i + 1) = (a : Int) + z + 1 ∧ a + z < 12 ∧ z ≤ 3 ∧ szN s.x i = z + 1 ∧ (tS s.x i).toNat = a := by
  have h1 := size_at h.sizes hi
  have h2 := (tS_bd (prE_le h.sizes (show i ≤ s.n by omega))).1
  have h3 := tS_mono (show i + 1 ≤ s.n by omega) h.sizes
  have h4 : tS s.x (i + 1) = tS s.x i + s.x i + 1 := rfl
  have h5 := h.sum
  refine ⟨(tS s.x i).toNat, (s.x i).toNat, by omega, by omega, by omega, by omega, by omega, rfl, rfl⟩
theorem sresI_cut {w : World} {n : Nat} {v v' : Nat → Int} {ok : Bool} {e : Ending} {w' : World} (h : SResI w n v ok e w') (hv : ∀ i, i < n → v i = v' i) : SResI w n v' ok e w' := by
  obtain ⟨A, cap, he, hf, hb⟩ := h
  exact ⟨A, cap, he, hf.congr hv, hb⟩
end Go.Proofs.Ytkphagmeoghegaa

namespace Go.Proofs.Ytkphagmeoghegaa
open Go.ChangeShapes Go.WideShapes Go.ChangeAt Go.RowKit

set_option maxRecDepth 100000 in
set_option maxHeartbeats 3200000 in
theorem specDec_any (s : Lst) (m : Nat) (y : Nat → Bool) (n : Nat) (q : Nat → Rul) (As Ar Ay : Option Addr) (cs cr cy : Nat) (w : World) (p1 : s.n ≤ 1048576) (p2 : m ≤ 1048576) (p3 : n ≤ 1048576) (p4 : ∀ i, i < n → (q i).fit 1048576) (hs : RdI w w.heap.size As s.n s.x) (hr : RdRs w w.heap.size Ar n q) (hy : RdB w w.heap.size Ay m y) :
    Calls Try.prog 36 #[.agg #[.slice As s.n cs, .slice Ar n cr], .slice Ay m cy] w (SResI w (dvN s n q m y) (valC s.x y) (dvB s n q m y)) := by
  have HS := Lib.hid hs
  have HR := Lib.hid hr
  have HY := Lib.hid hy
  have P4 := Lib.hid p4
  clear hs hr hy p4
  have HA := Lib.hid (bl_alloc (Below.refl w.heap.size w))
  have Hdv := Lib.hid (show ∀ z, dvB s n q m y = z ↔ (modB s n q && (m == 12 && prE (okC s.x y) s.n)) = z from fun z => Iff.rfl)
  have Hno := Lib.hid (show dvB s n q m y = false → dvN s n q m y = 0 from fun h => by unfold dvN; rw [h]; rfl)
  have Hyes := Lib.hid (show dvB s n q m y = true → dvN s n q m y = s.n from fun h => by unfold dvN; rw [h]; rfl)
  go_enter Try.func36, Try.ntmps36
  go_wp2_with fail
  have a0 : (w.alloc (.cells #[.slice As s.n cs, .slice Ar n cr] 30)).cell? ⟨w.heap.size, 0, none⟩ = some (.slice As s.n cs) := by go_simp
  have a1 : (w.alloc (.cells #[.slice As s.n cs, .slice Ar n cr] 30)).cell? ⟨w.heap.size, 1, none⟩ = some (.slice Ar n cr) := by go_simp
  have HB := Lib.hid (HA.out (.cells #[.slice As s.n cs, .slice Ar n cr] 30))
  clear HA
  generalize (w.alloc (.cells #[.slice As s.n cs, .slice Ar n cr] 30)) = w1 at *
  refine (specValidM_any s n q _ _ _ _ _ p1 p3 P4.out (HS.out.later HB.out) (HR.out.later HB.out)).mono ?_
  rintro e w2 ⟨rfl, hb⟩
  have HB2 := Lib.hid (bl_trans HB.out hb)
  replace a0 := kc hb a0
  replace a1 := kc hb a1
  clear hb HB
  cases hm : modB s n q with
  | false =>
    have Hd := Lib.hid ((Hdv.out false).2 (by rw [hm]; rfl))
    clear hm
    go_wp2
    refine bodyPost_ret (v := .tuple #[.slice (some ⟨w2.heap.size, 0, none⟩) 0 0, .bool false]) (by simp [results, Try.results36, go_sem]) rfl ?_
    exact ⟨_, _, by rw [Hno.out Hd.out, Hd.out], .inl (Hno.out Hd.out), bl_trans HB2.out (bl_alloc (Below.refl _ _) _)⟩
  | true =>
    have Hm := Lib.hid hm
    have Ok := Lib.hid (mod_ok hm)
    clear hm
    by_cases hm12 : (m : Int) ≠ 12
    · have Hd := Lib.hid ((Hdv.out false).2 (by rw [Hm.out]; simp [show ¬ m = 12 by omega]))
      have hm13 : ((m : Int) != 12) = true := by simpa using hm12
      go_wp2
      refine bodyPost_ret (v := .tuple #[.slice (some ⟨w2.heap.size, 0, none⟩) 0 0, .bool false]) (by simp [results, Try.results36, go_sem]) rfl ?_
      exact ⟨_, _, by rw [Hno.out Hd.out, Hd.out], .inl (Hno.out Hd.out), bl_trans HB2.out (bl_alloc (Below.refl _ _) _)⟩
    obtain rfl : m = 12 := by omega
    clear hm12
    have Hdp := Lib.hid (show ∀ z, prE (okC s.x y) s.n = z → dvB s n q 12 y = z from fun z h => (Hdv.out z).2 (by rw [Hm.out, h]; simp))
    have HS2 := Lib.hid (HS.out.later HB2.out)
    have HY2 := Lib.hid (HY.out.later HB2.out)
    obtain ⟨H, hHe⟩ : ∃ H, w.heap.size = H := ⟨_, rfl⟩
    have hHl : H < w2.heap.size := by rw [← hHe]; exact World.block_lt_of_cell? w2 _ a0
    rw [hHe] at a0 a1 ⊢
    have HHe := Lib.hid hHe
    clear hHe
    have Row0 := Lib.hid (row_lit0 (W := w2) (T := 3))
    have A0 := Lib.hid a0
    have A1 := Lib.hid a1
    go_wp2
    go_loopw [6, 7] (fun o i wr => ∃ (k : Nat) (ov : Value), ov = o ∧ k ≤ s.n ∧ i = .int .i64 k ∧ prE (okC s.x y) k = true ∧ RowAt w2 w2.heap.size 3 [] (vlst (valC s.x y) k) ov wr) (fun _ i _ => s.n - (intOf i).toNat)
    case atStart => exact ⟨0, _, rfl, Nat.zero_le _, rfl, rfl, Row0.out⟩
    case round =>
      obtain ⟨k, ov, rfl, hk, rfl, hok, hrow⟩ := hrel
      have Hok := Lib.hid hok
      have Row := Lib.hid hrow
      have hb := hrow.bel
      replace a0 := kc hb A0.out
      replace a1 := kc hb A1.out
      have HBr := Lib.hid hb
      clear hok hrow hb
      by_cases hlt : k < s.n
      · obtain ⟨a, z, ha, hz, hT, haz, hz3, hsz, hta⟩ := win_bd Ok.out hlt
        have Hsz := Lib.hid hsz
        have Hta := Lib.hid hta
        have Ha := Lib.hid ha
        obtain ⟨b, off, rfl, hbl, hc⟩ := (HS2.out.later HBr.out) (by omega)
        have c1 := hc k hlt
        rw [hz] at c1
        have hlt' : (k : Int) < (s.n : Int) := by omega
        have hk0 : (0 : Int) ≤ (k : Int) := by omega
        have HSr := Lib.hid (HS2.out.later HBr.out)
        have HYr := Lib.hid (HY2.out.later HBr.out)
        clear hc hsz hta ha hz hT
        obtain ⟨W3, rfl⟩ : ∃ X, X = wr := ⟨_, rfl⟩
        have a0' := Lib.hid a0
        have a1' := Lib.hid a1
        have c1' := Lib.hid c1
        go_wp2
        go_loopw [8, 9, 10] (fun v t i wr => ∃ j : Nat, j ≤ z + 1 ∧ i = .int .i64 j ∧ v = .int .i64 (lstB (winB s.x y k) j) ∧ t = .int .i64 (cntB (winB s.x y k) j) ∧ Below W3.heap.size W3 wr) (fun _ _ i _ => z + 1 - (intOf i).toNat)
        case atStart => exact ⟨0, Nat.zero_le _, rfl, rfl, rfl, Below.refl _ _⟩
        case round =>
          obtain ⟨j, hj, rfl, rfl, rfl, hb⟩ := hrel
          have a0 := kc hb a0'.out
          have a1 := kc hb a1'.out
          have c1 := kc hb c1'.out
          have hcl := cnt_le (e := winB s.x y k) j
          obtain ⟨hl0, hl1⟩ := lst_bd (e := winB s.x y k) j
          by_cases hjz : j < z + 1
          · obtain ⟨by_, oy, rfl, hby, hcy⟩ := (HYr.out.later hb) (by omega)
            have d1 := hcy (a + j) (by omega)
            have hwin : winB s.x y k j = y (a + j) := by unfold winB; rw [Hta.out]
            have hjz' : (j : Int) ≤ (z : Int) := by omega
            have hj0 : (0 : Int) ≤ (j : Int) := by omega
            have HBj := Lib.hid hb
            clear hcy hb
            go_wp2_with fail
            refine (l7Var_any s n _ _ _ _ k (j : Int) _ Ok.out.five (by omega) (by omega) Ok.out.sizes (HSr.out.later HBj.out)).mono ?_
            rintro e w5 ⟨rfl, hb⟩
            rw [Ha.out]
            have HB5 := Lib.hid (HBj.out.trans (hb.mono HBj.out.size))
            replace a0 := kc hb a0
            replace a1 := kc hb a1
            replace c1 := kc hb c1
            replace d1 := kc hb d1
            clear hb HBj
            have hw : IntKind.i64.wrap (1 + (j : Int) + (a : Int) - 1) = ((a + j : Nat) : Int) := by rw [show (1 + (j : Int) + (a : Int) - 1) = ((a + j : Nat) : Int) by omega]; exact IntWalk.i64_in _ (by omega)
            have hix : ((a + j : Nat) : Int) < 12 := by omega
            have hix0 : (0 : Int) ≤ ((a + j : Nat) : Int) := by omega
            cases hv : y (a + j) with
            | true =>
              rw [hv] at d1 hwin
              have Hc := Lib.hid (cnt_yes (e := winB s.x y k) hwin)
              have Hl := Lib.hid (lst_yes (e := winB s.x y k) hwin)
              clear hwin hv
              go_wp2
              go_roundw
              case rel => exact ⟨j + 1, by omega, by go_num, by rw [Hl.out], by rw [Hc.out]; go_num, HB5.out⟩
              case measure => simp [intOf]; omega
            | false =>
              rw [hv] at d1 hwin
              have Hc := Lib.hid (cnt_no (e := winB s.x y k) hwin)
              have Hl := Lib.hid (lst_no (e := winB s.x y k) hwin)
              clear hwin hv
              go_wp2
              go_roundw
              case rel => exact ⟨j + 1, by omega, by go_num, by rw [Hl.out], by rw [Hc.out], HB5.out⟩
              case measure => simp [intOf]; omega
          · have e1 : j = z + 1 := by omega
            subst e1
            have Hokc := Lib.hid (show okC s.x y k = (cntB (winB s.x y k) (z + 1) == 1) from by unfold okC; rw [Hsz.out])
            have Hval := Lib.hid (show lstB (winB s.x y k) (z + 1) = valC s.x y k from by unfold valC; rw [Hsz.out])
            have HBj := Lib.hid hb
            obtain ⟨cn, hcn⟩ : ∃ cn, cntB (winB s.x y k) (z + 1) = cn := ⟨_, rfl⟩
            rw [hcn] at Hokc hcl ⊢
            rw [Hval.out] at hl0 hl1 ⊢
            clear hb hcn
            by_cases h1 : (cn : Int) ≠ 1
            · have Hd := Lib.hid (Hdp.out false (prE_no hlt (by rw [Hokc.out, beq_eq_false_iff_ne]; omega)))
              have h1' : ((cn : Int) != 1) = true := by simpa using h1
              go_wp2
              refine bodyPost_ret (v := .tuple #[.slice (some ⟨wr.heap.size, 0, none⟩) 0 0, .bool false]) (by simp [results, Try.results36, go_sem]) rfl ?_
              refine ⟨_, _, by rw [Hno.out Hd.out, Hd.out], .inl (Hno.out Hd.out), ?_⟩
              first
                | exact bl_trans HB2.out (bl_trans HBr.out (bl_trans HBj.out (bl_alloc (Below.refl _ _) _)))
                | (rw [← HHe.out]; exact bl_trans HB2.out (bl_trans HBr.out (bl_trans HBj.out (bl_alloc (Below.refl _ _) _))))
            · have hcn1 : (cn : Int) = 1 := by omega
              have Hokk := Lib.hid (prE_yes Hok.out (show okC s.x y k = true by rw [Hokc.out, beq_iff_eq]; omega))
              have Hle := Lib.hid (show (vlst (valC s.x y) k).length ≤ 1048576 from by rw [vlst_length]; omega)
              have Hs := Lib.hid (show vlst (valC s.x y) k ++ [valC s.x y k] = vlst (valC s.x y) (k + 1) from rfl)
              have Row2 := Lib.hid (Row.out.below HBj.out)
              obtain ⟨vv, hvv⟩ : ∃ vv, valC s.x y k = vv := ⟨_, rfl⟩
              rw [hvv] at Hs hl0 hl1 ⊢
              clear hvv h1 hcl
              go_wp2_with (at_builtin; refine wpList_plain (by rfl) fun K' hK' => ?_; refine wp_rowI _ _ 22 (by rfl) Try.underlying22 Try.infoInt Row2.out (bl_alloc (Below.refl _ _) _) (by rfl) (by rfl) (heap_alloc_new _ _) Hle.out ?_; intro gg cap1 w9 hout; refine hK' _ _ ?_; clear hK' K')
              rw [Hs.out] at hout
              go_roundw
              case rel => exact ⟨k + 1, _, rfl, by omega, by go_num, Hokk.out, hout⟩
              case measure => simp [intOf]; omega
      · have e1 : k = s.n := by omega
        subst e1
        have Hd := Lib.hid (Hdp.out true Hok.out)
        obtain ⟨A2, cap2, hov, hF⟩ := Row.out.fr
        rw [vlst_length] at hov hF
        subst hov
        have HF := Lib.hid hF
        clear hF
        go_wp2
        refine bodyPost_ret (v := .tuple #[.slice A2 s.n cap2, .bool true]) (by simp [results, Try.results36, go_sem]) rfl ?_
        refine ⟨_, _, by rw [Hyes.out Hd.out, Hd.out], ?_, ?_⟩
        · rw [Hyes.out Hd.out]
          exact (HF.out.congr (fun i hi => gI_vlst hi)).more HB2.out.size
        · first
            | exact bl_trans HB2.out HBr.out
            | (rw [← HHe.out]; exact bl_trans HB2.out HBr.out)
end Go.Proofs.Ytkphagmeoghegaa

namespace Go.Proofs.Ytkphagmeoghegaa
open Go.ChangeShapes Go.WideShapes Go.ChangeAt Go.RowKit

/-- The first one that is true: -1 if none is. -/
def FstB (e : Nat → Bool) (n : Nat) (m : Int) : Prop := (m = -1 ∧ ∀ j, j < n → e j = false) ∨ ∃ f : Nat, f < n ∧ m = f ∧ e f = true ∧ ∀ j, j < f → e j = false

set_option maxRecDepth 100000 in
set_option maxHeartbeats 1600000 in
theorem indexTrue_any (A : Option Addr) (n cap : Nat) (e : Nat → Bool) (w : World) (hn : n ≤ 1048576) (hr : RdB w w.heap.size A n e) :
    Calls Try.prog 65 #[.slice A n cap, .bool true] w fun r w' => ∃ m : Int, r = .returned (.int .i64 m) ∧ FstB e n m ∧ Below w.heap.size w w' := by
  go_enter Try.func65, Try.ntmps65
  go_wp2
  go_loopw [8] (fun i wr => ∃ k : Nat, k ≤ n ∧ i = .int .i64 k ∧ (∀ j, j < k → e j = false) ∧ Below w.heap.size w wr) (fun i _ => n - (intOf i).toNat)
  case atStart => exact ⟨0, Nat.zero_le _, rfl, fun j hj => absurd hj (by omega), Below.refl _ _⟩
  case round =>
    obtain ⟨k, hk, rfl, hp, hb⟩ := hrel
    have Hp := Lib.hid hp
    clear hp
    by_cases hlt : k < n
    · obtain ⟨b, off, rfl, hbl, hc⟩ := (hr.below hb) (by omega)
      have hc1 := hc k hlt
      clear hc hr
      have hlt' : (k : Int) < (n : Int) := by omega
      have hk0 : (0 : Int) ≤ (k : Int) := by omega
      cases he : e k with
      | true =>
        have Hf := Lib.hid (show FstB e n (k : Int) from .inr ⟨k, hlt, rfl, he, Hp.out⟩)
        rw [he] at hc1
        clear he
        go_wp2_with fail
        try go_quiet (fail)
        try go_wp2
        go_ret
        exact ⟨_, rfl, Hf.out, by first | exact hb | exact bl_drewN hb _⟩
      | false =>
        have Hy := Lib.hid (show ∀ j, j < k + 1 → e j = false from fun j hj => by
          by_cases e1 : j = k
          · subst e1; exact he
          · exact Hp.out j (by omega))
        rw [he] at hc1
        clear he
        go_wp2_with fail
        try go_quiet (fail)
        try go_wp2
        go_roundw
        case rel => exact ⟨k + 1, by omega, by go_num, Hy.out, by first | exact hb | exact bl_drewN hb _⟩
        case measure => simp [intOf]; omega
    · have e1 : k = n := by omega
      subst e1
      go_wp2
      go_ret
      exact ⟨-1, rfl, .inl ⟨rfl, Hp.out⟩, hb⟩

set_option maxRecDepth 100000 in
set_option maxHeartbeats 1600000 in
theorem containsTrue_any (A : Option Addr) (n cap : Nat) (e : Nat → Bool) (w : World) (hn : n ≤ 1048576) (hr : RdB w w.heap.size A n e) :
    Calls Try.prog 66 #[.slice A n cap, .bool true] w fun r w' => ∃ b : Bool, r = .returned (.bool b) ∧ (b = false → ∀ j, j < n → e j = false) ∧ (b = true → ∃ j, j < n ∧ e j = true) ∧ Below w.heap.size w w' := by
  have Hc := Lib.hid (indexTrue_any A n cap e w hn hr)
  clear hr
  go_enter Try.func66, Try.ntmps66
  go_wp2_with fail
  refine Hc.out.mono ?_
  rintro r w1 ⟨m, rfl, hm, hb⟩
  rcases hm with ⟨rfl, hm⟩ | ⟨f, hf, rfl, h1, h2⟩
  · have Hm := Lib.hid hm
    clear hm
    go_wp2
    go_ret
    exact ⟨false, rfl, fun _ => Hm.out, fun h => by (cases h), hb⟩
  · have Hm := Lib.hid h1
    clear h1 h2
    go_wp2
    go_ret
    exact ⟨true, by first | rfl | (congr 2; simp), fun h => by (cases h), fun _ => ⟨f, hf, Hm.out⟩, hb⟩
end Go.Proofs.Ytkphagmeoghegaa

namespace Go.Proofs.Ytkphagmeoghegaa
open Go.ChangeShapes Go.WideShapes Go.ChangeAt Go.RowKit

/-- What a slice's part says: its Booleans. -/
theorem rdB_part {w : World} {B b off n k a : Nat} {y e : Nat → Bool} (hlt : b < B) (h : ∀ i, i < n → w.cell? ⟨b, off + i, none⟩ = some (.bool (y i))) (ha : a + k ≤ n) (he : ∀ j, j < k → e j = y (a + j)) : RdB w B (some ⟨b, off + a, none⟩) k e := fun _ =>
  ⟨b, off + a, rfl, hlt, fun j hj => by rw [he j hj, Nat.add_assoc]; exact h (a + j) (by omega)⟩

set_option linter.unusedSimpArgs false in
set_option maxRecDepth 100000 in
set_option maxHeartbeats 3200000 in
theorem implDec_any (s : Lst) (m : Nat) (y : Nat → Bool) (n : Nat) (q : Nat → Rul) (As Ar Ay : Option Addr) (cs cr cy : Nat) (w : World) (p1 : s.n ≤ 1048576) (p2 : m ≤ 1048576) (p3 : n ≤ 1048576) (p4 : ∀ i, i < n → (q i).fit 1048576) (hcy : m ≤ cy) (hs : RdI w w.heap.size As s.n s.x) (hr : RdRs w w.heap.size Ar n q) (hy : RdB w w.heap.size Ay m y) :
    Calls Try.prog 38 #[.agg #[.slice As s.n cs, .slice Ar n cr], .slice Ay m cy] w (SResI w (dvN s n q m y) (valC s.x y) (dvB s n q m y)) := by
  have HS := Lib.hid hs
  have HR := Lib.hid hr
  have HY := Lib.hid hy
  have P4 := Lib.hid p4
  clear hs hr hy p4
  have HA := Lib.hid (bl_alloc (Below.refl w.heap.size w))
  have Hdv := Lib.hid (show ∀ z, dvB s n q m y = z ↔ (modB s n q && (m == 12 && prE (okC s.x y) s.n)) = z from fun z => Iff.rfl)
  have Hno := Lib.hid (show dvB s n q m y = false → dvN s n q m y = 0 from fun h => by unfold dvN; rw [h]; rfl)
  have Hyes := Lib.hid (show dvB s n q m y = true → dvN s n q m y = s.n from fun h => by unfold dvN; rw [h]; rfl)
  obtain ⟨i0, hi, hz0, hz1, hz2⟩ := info_parts Try.infoInt
  have hmk0 := fun (k : Nat) (hk : k ≤ 5) (W : World) => run_make (P := Try.prog) W 22 3 i0 _ Try.underlying22 hi hz0 .i64 .i64 (k : Int) k (by omega) (by omega) (by rw [hz2]; omega) (by omega)
  rw [hz1] at hmk0
  have HMk := Lib.hid hmk0
  clear hi hz0 hz1 hz2 hmk0
  go_enter Try.func38, Try.ntmps38
  go_wp2_with fail
  have a0 : (w.alloc (.cells #[.slice As s.n cs, .slice Ar n cr] 30)).cell? ⟨w.heap.size, 0, none⟩ = some (.slice As s.n cs) := by go_simp
  have a1 : (w.alloc (.cells #[.slice As s.n cs, .slice Ar n cr] 30)).cell? ⟨w.heap.size, 1, none⟩ = some (.slice Ar n cr) := by go_simp
  have HB := Lib.hid (HA.out (.cells #[.slice As s.n cs, .slice Ar n cr] 30))
  clear HA
  generalize (w.alloc (.cells #[.slice As s.n cs, .slice Ar n cr] 30)) = w1 at *
  refine (implValidM_any s n q _ _ _ _ _ p1 p3 P4.out (HS.out.later HB.out) (HR.out.later HB.out)).mono ?_
  rintro e w2 ⟨rfl, hb⟩
  have HB2 := Lib.hid (bl_trans HB.out hb)
  replace a0 := kc hb a0
  replace a1 := kc hb a1
  clear hb HB
  cases hm : modB s n q with
  | false =>
    have Hd := Lib.hid ((Hdv.out false).2 (by rw [hm]; rfl))
    clear hm
    go_wp2
    refine bodyPost_ret (v := .tuple #[.slice none 0 0, .bool false]) (by simp [results, Try.results38, go_sem]) rfl ?_
    exact ⟨_, _, by rw [Hno.out Hd.out, Hd.out], .inl (Hno.out Hd.out), HB2.out⟩
  | true =>
    have Hm := Lib.hid hm
    have Ok := Lib.hid (mod_ok hm)
    clear hm
    by_cases hm12 : (m : Int) ≠ 12
    · have Hd := Lib.hid ((Hdv.out false).2 (by rw [Hm.out]; simp [show ¬ m = 12 by omega]))
      have hm13 : ((m : Int) != 12) = true := by simpa using hm12
      go_wp2
      refine bodyPost_ret (v := .tuple #[.slice none 0 0, .bool false]) (by simp [results, Try.results38, go_sem]) rfl ?_
      exact ⟨_, _, by rw [Hno.out Hd.out, Hd.out], .inl (Hno.out Hd.out), HB2.out⟩
    obtain rfl : m = 12 := by omega
    clear hm12
    have Hdp := Lib.hid (show ∀ z, prE (okC s.x y) s.n = z → dvB s n q 12 y = z from fun z h => (Hdv.out z).2 (by rw [Hm.out, h]; simp))
    have hmk := HMk.out s.n Ok.out.five
    have h5 := Ok.out.five
    go_wp2_with fail
    refine (newEnc_any s n _ _ _ _ _ Ok.out.five Ok.out.sizes (HS.out.later HB2.out)).mono ?_
    rintro e w3 ⟨A, cap, rfl, hF, hb⟩
    have HB3 := Lib.hid (bl_trans HB2.out hb)
    have HF := Lib.hid hF.rdAt
    have HY3 := Lib.hid (HY.out.later HB3.out)
    replace a0 := kc hb a0
    replace a1 := kc hb a1
    clear hb hF HB2
    have hfld : ∀ W : World, (Instr.field 79 (.agg #[.slice As s.n cs, .slice Ar n cr, .slice A (s.n + 1) cap]) 1).run Try.prog W = .ok (.slice A (s.n + 1) cap) W := fun _ => by kernel_rfl
    obtain ⟨H, hHe⟩ : ∃ H, w.heap.size = H := ⟨_, rfl⟩
    have HHe := Lib.hid hHe
    rw [hHe] at a0 a1 ⊢
    clear hHe
    go_wp2
    clear hfld hmk
    go_loopw [28] (fun i wr => ∃ k : Nat, k ≤ s.n ∧ i = .int .i64 k ∧ prE (okC s.x y) k = true ∧ OwnV wr w3.heap.size 3 s.n k (valC s.x y) ∧ Below w3.heap.size w3 wr) (fun i _ => s.n - (intOf i).toNat)
    case atStart => exact ⟨0, Nat.zero_le _, rfl, rfl, ⟨_, heap_alloc_new _ _, by simp [size_madeCells], fun i hi => absurd hi (by omega)⟩, bl_alloc (Below.refl _ _) _⟩
    case round =>
      obtain ⟨k, hk, rfl, hok, hown, hb⟩ := hrel
      have Hok := Lib.hid hok
      have Hown := Lib.hid hown
      have HBr := Lib.hid hb
      clear hok hown hb
      by_cases hlt : k < s.n
      · obtain ⟨a, z, ha, hz, hT, haz, hz3, hsz, hta⟩ := win_bd Ok.out hlt
        have Hsz := Lib.hid hsz
        have Hta := Lib.hid hta
        obtain ⟨b, off, rfl, hbl, hc⟩ := (HF.out.later HBr.out) (by omega)
        have c1 := hc k (by omega)
        have c2 := hc (k + 1) (by omega)
        rw [ha] at c1
        rw [hT] at c2
        obtain ⟨bY, oY, rfl, hbY, hcY⟩ := (HY3.out.later HBr.out) (by omega)
        have HW := Lib.hid (rdB_part (e := winB s.x y k) (k := z + 1) (a := a) hbY hcY (by omega) (fun j hj => by unfold winB; rw [hta]))
        have hlt' : (k : Int) < (s.n : Int) := by omega
        have hk0 : (0 : Int) ≤ (k : Int) := by omega
        have hk1 : (k : Int) < (s.n : Int) + 1 := by omega
        have hk2 : (k : Int) + 1 < (s.n : Int) + 1 := by omega
        have ha0 : (0 : Int) ≤ (a : Int) := by omega
        have hac : (a : Int) + (z : Int) + 1 ≤ (cy : Int) := by omega
        have hac2 : (a : Int) ≤ (a : Int) + (z : Int) + 1 := by omega
        clear hc hcY hsz hta ha hz hT
        go_wp2_with fail
        go_quiet (fail)
        rw [show a + z + 1 - a = z + 1 by omega]
        have HBd := Lib.hid (bl_drewN HBr.out nq)
        have hokd := bl_drewN (Below.refl wr.heap.size wr) nq
        have Hownd := Lib.hid (Hown.out.below hokd)
        have HWd := Lib.hid (HW.out.later hokd)
        clear hokd Hown HW HBr c1 c2
        generalize wr.drewN nq = wd at *
        go_wp2_with fail
        refine (indexTrue_any _ (z + 1) _ (winB s.x y k) _ (by omega) HWd.out).mono ?_
        rintro e w5 ⟨fm, rfl, hfm, hb⟩
        have HB5 := Lib.hid (HBd.out.trans (hb.mono HBd.out.size))
        have Hown5 := Lib.hid (Hownd.out.below hb)
        have HW5 := Lib.hid (HWd.out.later hb)
        clear hb Hownd HWd HBd
        have Hokc := Lib.hid (show okC s.x y k = (cntB (winB s.x y k) (z + 1) == 1) from by unfold okC; rw [Hsz.out])
        have Hval := Lib.hid (show lstB (winB s.x y k) (z + 1) = valC s.x y k from by unfold valC; rw [Hsz.out])
        rcases hfm with ⟨rfl, hnone⟩ | ⟨f, hf, rfl, hf1, hf0⟩
        · have Hd := Lib.hid (Hdp.out false (prE_no hlt (by rw [Hokc.out, cnt_none hnone]; rfl)))
          clear hnone
          go_wp2
          refine bodyPost_ret (v := .tuple #[.slice none 0 0, .bool false]) (by simp [results, Try.results38, go_sem]) rfl ?_
          refine ⟨_, _, by rw [Hno.out Hd.out, Hd.out], .inl (Hno.out Hd.out), ?_⟩
          first
            | exact bl_trans HB3.out HB5.out
            | (rw [← HHe.out]; exact bl_trans HB3.out HB5.out)
        · have Hf1 := Lib.hid hf1
          have Hf0 := Lib.hid hf0
          clear hf0 hf1
          have hfz : (f : Int) + 1 ≤ (z : Int) + 1 := by omega
          have hf00 : (0 : Int) ≤ (f : Int) := by omega
          go_wp2_with fail
          case inl h =>
            have hzf : z - f = 0 := by omega
            clear h
            have HRest := Lib.hid (show RdB w5 w5.heap.size (some ⟨bY, oY + a, none⟩) (z - f) (fun j => winB s.x y k (f + 1 + j)) from fun h => absurd h (by omega))
            have Hzf := Lib.hid hzf
            clear hzf
            refine (containsTrue_any (some ⟨bY, oY + a, none⟩) (z - f) _ (fun j => winB s.x y k (f + 1 + j)) _ (by omega) HRest.out).mono ?_
            rintro e w6 ⟨bb, rfl, hb0, hb1, hb⟩
            have HB6 := Lib.hid (HB5.out.trans (hb.mono HB5.out.size))
            have Hown6 := Lib.hid (Hown5.out.below hb)
            have Hb0 := Lib.hid hb0
            have Hb1 := Lib.hid hb1
            clear hb hb0 hb1 Hown5 HW5 HRest
            cases bb with
            | true =>
              have Hd := Lib.hid (Hdp.out false (prE_no hlt (by
                obtain ⟨j, hj, hj1⟩ := Hb1.out rfl
                have := cnt_two (e := winB s.x y k) (f := f) (g := f + 1 + j) (n := z + 1) Hf1.out (by omega) (by omega) hj1
                rw [Hokc.out, beq_eq_false_iff_ne]
                omega)))
              go_wp2
              refine bodyPost_ret (v := .tuple #[.slice none 0 0, .bool false]) (by simp [results, Try.results38, go_sem]) rfl ?_
              refine ⟨_, _, by rw [Hno.out Hd.out, Hd.out], .inl (Hno.out Hd.out), ?_⟩
              first
                | exact bl_trans HB3.out HB6.out
                | (rw [← HHe.out]; exact bl_trans HB3.out HB6.out)
            | false =>
              have hone := cnt_one (e := winB s.x y k) (n := z + 1) hf Hf0.out Hf1.out (fun j h1 h2 => by have := Hb0.out rfl (j - f - 1) (by omega); rw [show f + 1 + (j - f - 1) = j by omega] at this; exact this)
              have Hokk := Lib.hid (prE_yes Hok.out (show okC s.x y k = true by rw [Hokc.out, hone.1]; rfl))
              have hvf : valC s.x y k = (f : Int) := by rw [← Hval.out, hone.2]
              have hput := Hown6.out.put hlt
              rw [hvf] at hput
              have Hput := Lib.hid hput
              obtain ⟨y1, hy1⟩ := Hown6.out.cell hlt
              have hf1 := Hown6.out.frozen k
              clear hone hvf hput
              go_wp2
              go_roundw
              case rel => exact ⟨k + 1, by omega, by go_num, Hokk.out, Hput.out, HB6.out.setCell (Nat.le_refl _) _⟩
              case measure => simp [intOf]; omega
          case inr h =>
            clear h
            have HRest := Lib.hid (show RdB w5 w5.heap.size (some ⟨bY, oY + a + (f + 1), none⟩) (z - f) (fun j => winB s.x y k (f + 1 + j)) from by
              obtain ⟨b9, o9, e9, h9, c9⟩ := HW5.out (by omega)
              injection e9 with e9; injection e9 with e91 e92
              subst e91 e92
              exact rdB_part (n := z + 1) (k := z - f) (a := f + 1) (e := fun j => winB s.x y k (f + 1 + j)) h9 c9 (by omega) (fun j hj => rfl))
            refine (containsTrue_any (some ⟨bY, oY + a + (f + 1), none⟩) (z - f) _ (fun j => winB s.x y k (f + 1 + j)) _ (by omega) HRest.out).mono ?_
            rintro e w6 ⟨bb, rfl, hb0, hb1, hb⟩
            have HB6 := Lib.hid (HB5.out.trans (hb.mono HB5.out.size))
            have Hown6 := Lib.hid (Hown5.out.below hb)
            have Hb0 := Lib.hid hb0
            have Hb1 := Lib.hid hb1
            clear hb hb0 hb1 Hown5 HW5 HRest
            cases bb with
            | true =>
              have Hd := Lib.hid (Hdp.out false (prE_no hlt (by
                obtain ⟨j, hj, hj1⟩ := Hb1.out rfl
                have := cnt_two (e := winB s.x y k) (f := f) (g := f + 1 + j) (n := z + 1) Hf1.out (by omega) (by omega) hj1
                rw [Hokc.out, beq_eq_false_iff_ne]
                omega)))
              go_wp2
              refine bodyPost_ret (v := .tuple #[.slice none 0 0, .bool false]) (by simp [results, Try.results38, go_sem]) rfl ?_
              refine ⟨_, _, by rw [Hno.out Hd.out, Hd.out], .inl (Hno.out Hd.out), ?_⟩
              first
                | exact bl_trans HB3.out HB6.out
                | (rw [← HHe.out]; exact bl_trans HB3.out HB6.out)
            | false =>
              have hone := cnt_one (e := winB s.x y k) (n := z + 1) hf Hf0.out Hf1.out (fun j h1 h2 => by have := Hb0.out rfl (j - f - 1) (by omega); rw [show f + 1 + (j - f - 1) = j by omega] at this; exact this)
              have Hokk := Lib.hid (prE_yes Hok.out (show okC s.x y k = true by rw [Hokc.out, hone.1]; rfl))
              have hvf : valC s.x y k = (f : Int) := by rw [← Hval.out, hone.2]
              have hput := Hown6.out.put hlt
              rw [hvf] at hput
              have Hput := Lib.hid hput
              obtain ⟨y1, hy1⟩ := Hown6.out.cell hlt
              have hf1 := Hown6.out.frozen k
              clear hone hvf hput
              go_wp2
              go_roundw
              case rel => exact ⟨k + 1, by omega, by go_num, Hokk.out, Hput.out, HB6.out.setCell (Nat.le_refl _) _⟩
              case measure => simp [intOf]; omega
      · have e1 : k = s.n := by omega
        subst e1
        have Hd := Lib.hid (Hdp.out true Hok.out)
        go_wp2
        refine bodyPost_ret (v := .tuple #[.slice (some ⟨w3.heap.size, 0, none⟩) s.n s.n, .bool true]) (by simp [results, Try.results38, go_sem]) rfl ?_
        refine ⟨_, _, by rw [Hyes.out Hd.out, Hd.out], .inr ⟨w3.heap.size, rfl, ?_, by rw [Hyes.out Hd.out]; exact Hown.out⟩, ?_⟩
        · first | exact HB3.out.size | (rw [← HHe.out]; exact HB3.out.size)
        · first
            | exact bl_trans HB3.out HBr.out
            | (rw [← HHe.out]; exact bl_trans HB3.out HBr.out)
end Go.Proofs.Ytkphagmeoghegaa

