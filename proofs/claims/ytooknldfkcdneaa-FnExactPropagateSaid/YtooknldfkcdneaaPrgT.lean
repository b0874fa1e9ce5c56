/- The model's propagation: its loops (no claim of its own). Conditions: as each theorem states. -/
import Derived.Test.YtooknldfkcdneaaPrgS
namespace Go.Proofs.Ytooknldfkcdneaa
open Go.ChangeShapes Go.WideShapes Go.ChangeAt Go.RowKit Go.Shelf

/-- The ints that a block holds. -/
def valW (w : World) (G : Nat) (i : Nat) : Int := match w.cell? ⟨G, i, none⟩ with
  | some (.int _ z) => z
  | _ => 0
theorem una_congr {v v' : Nat → Int} {k : Nat} (h : ∀ i, i < k → v i = v' i) : una v k = una v' k := by
  induction k with
  | zero => rfl
  | succ k ih => unfold una; rw [ih fun i hi => h i (by omega), h k (by omega)]
theorem valW_own {w : World} {G : Nat} {v : Nat → Int} (h : OwnV w G 3 12 12 v) : una (valW w G) 12 = una v 12 := una_congr fun i hi => by
  obtain ⟨cs, hh, h1, h2⟩ := h
  have hc := (cell_of_row w G i cs _ _ hh).trans (h2 i hi)
  unfold valW
  rw [hc]
/-- The index at which the next round goes on. -/
def nx (m j : Nat) : Nat := if j = m then 0 else j
theorem nx_succ {m j : Nat} : nx m (j + 1) = nxt m j := rfl
theorem nx_lt {m j : Nat} (h : j < m) : nx m j = j := if_neg (by omega)
theorem gI_at {L : List Int} {k : Nat} (h : k < L.length) : gI L k = L[k] := by
  unfold gI
  rw [List.getD, List.getElem?_eq_getElem h]
  rfl
theorem frL_take {v : Nat → Int} {L : List Int} (h : frL v L) {k : Nat} (hk : k < L.length) : litB (gI L k) = true ∧ asgL v (L.take (k + 1)) = asg (asgL v (L.take k)) (gI L k) := by
  rw [gI_at hk]
  refine ⟨(h.1 _ (List.getElem_mem hk)).1, ?_⟩
  rw [List.take_succ_eq_append_getElem hk, asgL_snoc]

theorem fri_grown {w w' : World} {B n G : Nat} {T : TypeId} {A : Option Addr} {v : Nat → Int} (h : FrI w B T A n v) (hg : w.grownBy w' (some G)) (hG : G < B) : FrI w' B T A n v := by
  rcases h with h | ⟨H, e, hB, h⟩
  · exact .inl h
  · exact .inr ⟨H, e, hB, h.at_ (hg.block H h.lt (by intro e; cases e; omega))⟩
/-- What the inner loop over the constraints keeps: c says whether a literal has been made true since v0. -/
structure Scan (p : Nat → Con) (m : Nat) (v v0 : Nat → Int) (c : Bool) (vv : Nat → Int) (j : Nat) : Prop where
  runs : ∀ w' r, Runs p m (nx m j) vv w' r → Runs p m 0 v w' r
  same : c = false → una vv 12 = una v0 12 ∧ ∀ t, t < j → fixC (p t) vv
  less : c = true → una vv 12 < una v0 12
  rg : rng vv
theorem Scan.go {p : Nat → Con} {m : Nat} {v v0 vv : Nat → Int} {c : Bool} {j : Nat} (h : Scan p m v v0 c vv j) (hj : j < m) (hq : okC (p j)) (hs : ¬ slkC (p j) vv < 0) :
    Scan p m v v0 (c || decide (0 < (impC (p j) vv).length)) (asgL vv (impC (p j) vv)) (j + 1) := by
  have hf := imp_fr hq vv
  have hu := una_list hf
  have hfix := fix_step hq hs
  obtain ⟨h1, h2, h3, h4⟩ := h
  refine ⟨fun w' r hr => h1 w' r ?_, fun hc => ?_, fun hc => ?_, asgL_rng h4 _⟩
  · rw [nx_lt hj]
    exact .step j vv w' r hj hs hr
  · rw [Bool.or_eq_false_iff, decide_eq_false_iff_not] at hc
    have hl : impC (p j) vv = [] := List.eq_nil_of_length_eq_zero (by omega)
    rw [hl] at hfix ⊢
    obtain ⟨a, b⟩ := h2 hc.1
    refine ⟨a, fun t ht => ?_⟩
    by_cases e : t = j
    · subst e; exact hfix
    · exact b t (by omega)
  · cases c with
    | true => have := h3 rfl; omega
    | false =>
      have h5 := (h2 rfl).1
      rw [Bool.false_or, decide_eq_true_eq] at hc
      omega

theorem impC_eq {q : Con} {vv : Nat → Int} (hq : okC q) (hr : rng vv) (hs : ¬ slkC q vv < 0) : impL q.n q.c q.l q.bd 12 vv = impC q vv :=
  impL_yes (by unfold slkOk; rw [show validB q.n q.c q.l q.bd = true from hq, pvB_iff.2 ⟨rfl, hr⟩]; rfl) hs

set_option maxRecDepth 100000 in
set_option maxHeartbeats 3200000 in
theorem l3Propagate_any (A : Option Addr) (m cap G capv : Nat) (p : Nat → Con) (v : Nat → Int) (w : World) (hm : m ≤ 1048576) (hr : RdP w G A m p) (hok : ∀ i, i < m → okC (p i) ∧ (p i).n ≤ 1048576) (h : OwnV w G 3 12 12 v) (hv : rng v) :
    Calls Try.prog 37 #[.slice A m cap, .slice (some ⟨G, 0, none⟩) 12 capv] w fun e w' => ∃ v' r, Runs p m 0 v v' r ∧ e = .returned (.int .i64 r) ∧ OwnV w' G 3 12 12 v' ∧ rng v' ∧ Below G w w' := by
  have HR := Lib.hid hr
  have HO := Lib.hid hok
  have HW := Lib.hid h
  have HV := Lib.hid hv
  clear hr hok h hv
  go_enter Try.func37, Try.ntmps37
  go_wp2
  go_loopw [5] (fun ch wr => ∃ b vv, ch = .bool b ∧ (∀ w' r, Runs p m 0 vv w' r → Runs p m 0 v w' r) ∧ (b = false → ∀ j, j < m → fixC (p j) vv) ∧ OwnV wr G 3 12 12 vv ∧ rng vv ∧ Below G w wr) (fun ch wr => 2 * una (valW wr G) 12 + (match ch with | .bool true => 1 | _ => 0))
  case atStart => exact ⟨true, v, rfl, fun _ _ h => h, (fun h => by cases h), HW.out, HV.out, Below.refl _ _⟩
  case round =>
    obtain ⟨b, vv, rfl, h1, h2, h3, h4, h5⟩ := hrel
    have H1 := Lib.hid h1
    have H2 := Lib.hid h2
    have H3 := Lib.hid h3
    have H4 := Lib.hid h4
    have H5 := Lib.hid h5
    clear h1 h2 h3 h4 h5
    cases b with
    | false =>
      have Hfin := Lib.hid (H1.out _ _ (.fin 0 vv (H2.out rfl)))
      clear H1 H2
      go_wp2
      go_ret
      exact ⟨vv, -1, Hfin.out, rfl, H3.out, H4.out, H5.out⟩
    | true =>
      clear H2
      have hzG : G < wr.heap.size := H3.out.lt
      go_wp2
      go_loopw [5, 6] (fun ch i wq => ∃ c vq j, ch = .bool c ∧ i = .int .i64 (j : Nat) ∧ j ≤ m ∧ Scan p m v vv c vq j ∧ OwnV wq G 3 12 12 vq ∧ Below G w wq) (fun _ i _ => m - (intOf i).toNat)
      case atStart =>
        refine ⟨false, vv, 0, rfl, rfl, Nat.zero_le _, ⟨fun w' r hr => H1.out w' r ?_, fun _ => ⟨rfl, fun t ht => absurd ht (by omega)⟩, (fun h => by cases h), H4.out⟩, H3.out, H5.out⟩
        unfold nx at hr
        split at hr <;> exact hr
      case round =>
        obtain ⟨c, vq, j, rfl, rfl, hj, hsc, hov, hbq⟩ := hrel
        have HS := Lib.hid hsc
        have HQ := Lib.hid hov
        have HB := Lib.hid hbq
        clear hsc hov hbq
        by_cases hlt : j < m
        · obtain ⟨b, off, rfl, hbl, hc⟩ := (HR.out.below HB.out) (by omega)
          obtain ⟨Ai, ci, c0, c1, hrd⟩ := hc j hlt
          obtain ⟨hq, hn⟩ := HO.out j hlt
          have Hq := Lib.hid hq
          have hjI : (j : Int) < (m : Int) := by omega
          have hj0 : (0 : Int) ≤ (j : Int) := by omega
          have hzq : G < wr.heap.size := HQ.out.lt
          have Hrd := Lib.hid (hrd.more (Nat.le_of_lt hzq))
          have HJ := Lib.hid hlt
          clear hc hrd hq
          go_wp2_with fail
          refine (l3Slack_any _ _ _ _ _ _ _ _ vq _ hn Hrd.out HQ.out.rdAt Hq.out HS.out.rg).mono ?_
          rintro e w3 ⟨rfl, hb⟩
          have HQ3 := Lib.hid (HQ.out.below hb)
          have HB3 := Lib.hid (HB.out.trans (hb.mono (Nat.le_of_lt hzq)))
          have Hrd3 := Lib.hid (Hrd.out.later hb)
          replace c0 := kc hb c0
          replace c1 := kc hb c1
          clear hb
          by_cases hs : slk (p j).n (p j).c (p j).l (p j).bd vq < 0
          · have Hend := Lib.hid (HS.out.runs _ _ (by rw [nx_lt hlt]; exact .vio j vq hlt hs))
            go_wp2
            go_ret
            exact ⟨vq, j, Hend.out, rfl, HQ3.out, HS.out.rg, HB3.out⟩
          · have HSn := Lib.hid (HS.out.go hlt Hq.out hs)
            have HL := Lib.hid (impC_eq Hq.out HS.out.rg hs)
            have HF := Lib.hid (imp_fr Hq.out vq)
            have hz3 : G < w3.heap.size := HQ3.out.lt
            go_wp2_with fail
            refine (l3Implied_any _ _ _ _ _ _ _ _ vq _ hn Hrd3.out HQ3.out.rdAt (by unfold slkOk; rw [show validB (p j).n (p j).c (p j).l (p j).bd = true from Hq.out, pvB_iff.2 ⟨rfl, HS.out.rg⟩]; rfl)).mono ?_
            rintro e w4 ⟨Al, capl, rfl, hF, hb⟩
            rw [HL.out] at hF
            rw [HL.out]
            have HFl := Lib.hid hF
            have HQ4 := Lib.hid (HQ3.out.below hb)
            have HB4 := Lib.hid (HB3.out.trans (hb.mono (Nat.le_of_lt hz3)))
            clear hF hb HQ3 HB3 Hrd3 Hrd HQ HB c0 c1
            obtain ⟨L, hLe⟩ : ∃ L, impC (p j) vq = L := ⟨_, rfl⟩
            rw [hLe] at HFl HSn HF ⊢
            clear HL
            obtain ⟨lo, hlo⟩ : ∃ lo, w3.heap.size = lo := ⟨_, rfl⟩
            rw [hlo] at HFl hz3
            have hlb : L.length ≤ 1048576 := by rw [← hLe]; exact Nat.le_trans (imL_le _) hn
            clear hLe hlo
            go_wp2
            go_loopw [5, 8] (fun ch k wz => ∃ kk : Nat, k = .int .i64 kk ∧ kk ≤ L.length ∧ ch = .bool (c || decide (0 < kk)) ∧ OwnV wz G 3 12 12 (asgL vq (L.take kk)) ∧ FrI wz lo 3 Al L.length (gI L) ∧ Below G w wz) (fun _ k _ => L.length - (intOf k).toNat)
            case atStart => exact ⟨0, rfl, Nat.zero_le _, by simp, HQ4.out, HFl.out, HB4.out⟩
            case round =>
              obtain ⟨kk, rfl, hk, rfl, hov, hfi, hbz⟩ := hrel
              have HQ5 := Lib.hid hov
              have HF5 := Lib.hid hfi
              have HB5 := Lib.hid hbz
              clear hov hfi hbz
              by_cases hkl : kk < L.length
              · obtain ⟨b2, off2, rfl, hbl2, hc⟩ := HF5.out.rdAt (by omega)
                have hc1 := hc kk hkl
                obtain ⟨hz, htk⟩ := frL_take HF.out hkl
                have Hz := Lib.hid hz
                have HT := Lib.hid htk
                have hkI : (kk : Int) < (L.length : Int) := by omega
                have hk0 : (0 : Int) ≤ (kk : Int) := by omega
                clear hc hz htk
                go_wp2_with fail
                refine (l3Assign_any G capv _ _ _ Hz.out HQ5.out).mono ?_
                rintro e w5 ⟨rfl, ho, hg⟩
                have HQ6 := Lib.hid (show OwnV w5 G 3 12 12 (asgL vq (L.take (kk + 1))) by rw [HT.out]; exact ho)
                have HF6 := Lib.hid (fri_grown HF5.out hg hz3)
                have HB6 := Lib.hid (HB5.out.trans (grown_below hg (Nat.le_of_lt HQ5.out.lt)))
                clear ho hg hc1
                go_wp2
                go_roundw
                case rel => exact ⟨kk + 1, by go_num, by omega, by simp, HQ6.out, HF6.out, HB6.out⟩
                case measure => simp [intOf]; omega
              · have e : kk = L.length := by omega
                subst e
                have HQ6 := Lib.hid (show OwnV wr G 3 12 12 (asgL vq L) by have := HQ5.out; rwa [List.take_length] at this)
                go_wp2
                go_roundw
                case rel => exact ⟨_, asgL vq L, j + 1, rfl, by go_num, by omega, HSn.out, HQ6.out, HB5.out⟩
                case measure => simp [intOf]; omega
        · have e : j = m := by omega
          subst e
          have HS1 := Lib.hid (show ∀ w' r, Runs p j 0 vq w' r → Runs p j 0 v w' r from fun w' r hr => HS.out.runs w' r (by unfold nx; rw [if_pos rfl]; exact hr))
          go_wp2
          go_roundw
          case rel => exact ⟨c, vq, rfl, HS1.out, fun hc t ht => (HS.out.same hc).2 t ht, HQ.out, HS.out.rg, HB.out⟩
          case measure =>
            rw [valW_own HQ.out, valW_own H3.out]
            cases c with
            | false => have := (HS.out.same rfl).1; simp; omega
            | true => have := HS.out.less rfl; simp; omega
end Go.Proofs.Ytooknldfkcdneaa
