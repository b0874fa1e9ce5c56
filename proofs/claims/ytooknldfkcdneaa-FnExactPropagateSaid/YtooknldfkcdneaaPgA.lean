/- The program's (*propagator).add (no claim of its own). Conditions: as each theorem states. -/
import Derived.Test.YtooknldfkcdneaaPgM
import Derived.Deep.RegionHeld3
import Derived.Deep.RegionLaw
import Derived.Deep.Cut
import Derived.Deep.DeepCutAuto
import Derived.Deep.CutBlock
import Derived.Deep.RegionHeldLaw
namespace Go.Proofs.Ytooknldfkcdneaa
open Go.ChangeShapes Go.WideShapes Go.ChangeAt Go.RowKit Go.Shelf

theorem Try.infoUse : (Try.prog.info? 123).map (fun i => (i.zero, i.size, i.bytes)) = some (some (.agg #[.int .i64 0, .int .i64 0]), 2, 16) := by kernel_rfl

/-- No variable has a value. -/
def z0 : Nat → Int := fun _ => 0
theorem nf_z0 (z : Int) : nfP z0 z = true := by
  unfold nfP stV z0
  split <;> rfl
theorem sB_congr {c l : Nat → Int} {P Q : Int → Bool} (h : ∀ z, P z = Q z) (n : Nat) : sB c l P n = sB c l Q n := by
  have : P = Q := funext h
  rw [this]
theorem tot_slk {q : Con} (hq : okC q) (hn : q.n ≤ 1048576) : totV q.n q.c q.l q.bd = slkC q z0 + q.bd ∧ -20000 ≤ slkC q z0 ∧ slkC q z0 ≤ 1048576000 := by
  have hb := slk_bd (v := z0) hq
  have h1 : totV q.n q.c q.l q.bd = sB q.c q.l (fun _ => true) q.n := by
    unfold totV
    rw [show validB q.n q.c q.l q.bd = true from hq, if_pos rfl]
    exact sumW_sB hn (coef_of hq)
  have h2 : sB q.c q.l (nfP z0) q.n = sB q.c q.l (fun _ => true) q.n := sB_congr nf_z0 q.n
  unfold slkC
  refine ⟨?_, hb.1, by omega⟩
  unfold slk
  rw [h1, h2]
  omega
theorem Pg.setNew {w : World} {lo B m s : Nat} {lv : Value} {p : Nat → Con} {sl : Nat → Int} {us : Nat → List (Nat × Int)} {uv : Nat → Value} (h : Pg w lo B lv m s p sl us uv) (hs : s < 1400) (Z : Int) : Pg (w.setCell ⟨B, 1 + s, none⟩ (.int .i64 Z)) lo B lv m (s + 1) p (fun i => if i = s then Z else sl i) us uv := by
  have := h.cel.setS (k := s) (Nat.le_refl _) hs Z
  rw [if_pos rfl] at this
  exact h.setB this
theorem usT_len (k : Nat) (c l : Nat → Int) (n j : Nat) : (usT k c l n j).length ≤ n := by
  induction n with
  | zero => exact Nat.le_refl _
  | succ n ih =>
    unfold usT
    rw [List.length_append]
    split <;> simp <;> omega
theorem row_slice {w : World} {B s n : Nat} {T : TypeId} {v : Value} {xs : List Value} (h : w.ownsRow B T s v n xs) : ∃ A cap, v = .slice A n cap := by
  rcases h.2 with ⟨e, e2⟩ | ⟨g, capl, cur, e, _⟩
  · exact ⟨none, 0, by rw [e, e2]⟩
  · exact ⟨_, capl, e⟩
theorem Pg.t0 {w W0 w1 : World} {lo B m s i : Nat} {lv : Value} {p : Nat → Con} {sl : Nat → Int} {us : Nat → List (Nat × Int)} {uv : Nat → Value} {R : Option Nat} {u : Value} (h : Pg w lo B lv m s p sl us uv) (hb : Below w.heap.size w W0) (hg : W0.grownBy w1 R) (hR : R ≠ some B) (hc : w.cell? ⟨B, i, none⟩ = some u) : w1.cell? ⟨B, i, none⟩ = some u ∧ w1.frozen? ⟨B, i, none⟩ = false := by
  have h0 := (h.below hb).cel
  have h1 := h0.same (hg.block B h0.lt (fun e => hR e.symm))
  refine ⟨hg.cell (a := ⟨B, i, none⟩) (kc hb hc) (fun e => hR e.symm), h1.frozen i⟩

set_option maxRecDepth 100000 in
set_option maxHeartbeats 6400000 in
theorem pgAdd_any (lo B : Nat) (lv : Value) (m : Nat) (p : Nat → Con) (sl : Nat → Int) (us : Nat → List (Nat × Int)) (uv : Nat → Value) (A : Option Addr) (cap : Nat) (w : World)
    (hP : Pg w lo B lv m m p sl us uv) (hr : Rd w lo A (p m).n (p m).c (p m).l) (hq : okC (p m)) (hn : (p m).n ≤ 1048576) (hm : m < 1400) (hus : ∀ j, (us j).length ≤ m * 1048576) :
    Calls Try.prog 71 #[.pointer (some ⟨B, 0, none⟩), .agg #[.slice A (p m).n cap, .int .i64 (p m).bd]] w fun e w' => e = .returned (.tuple #[]) ∧ ∃ lv' uv', Pg w' lo B lv' (m + 1) (m + 1) p (fun i => if i = m then slkC (p m) z0 else sl i) (fun j => us j ++ usT m (p m).c (p m).l (p m).n j) uv' ∧ Below lo w w' := by
  have hBl := hP.cel.lt
  obtain ⟨xs, hx, hxc⟩ := hP.lst
  have hlv : ∃ Al capl, lv = .slice Al m capl := by
    rcases hx.2 with ⟨e, e2⟩ | ⟨g, capl, cur, e, _⟩
    · exact ⟨none, 0, by rw [e, e2]⟩
    · exact ⟨_, capl, e⟩
  obtain ⟨Al, capl, hle⟩ := hlv
  subst hle
  obtain ⟨i0, hi, hz0, hz1, hz2⟩ := info_parts Try.infoCon
  have Hi := Lib.hid hi
  have Hz0 := Lib.hid hz0
  have Hz1 := Lib.hid hz1
  have Hz2 := Lib.hid hz2
  have hlow := hP.loB
  have hcl := kc (bl_alloc (Below.refl w.heap.size w) (.cells #[.slice A (p m).n cap, .int .i64 (p m).bd] 42)) hP.cel.cellL
  have HQ := Lib.hid hq
  have HP := Lib.hid hP
  have HR := Lib.hid hr
  have HX := Lib.hid hx
  have HXC := Lib.hid hxc
  clear hi hz0 hz1 hz2 hP hr hq hx hxc
  go_enter Try.func71, Try.ntmps71
  go_upto_region 2 with fail
  have hb1 := bl_alloc (Below.refl w.heap.size w) (.cells #[.slice A (p m).n cap, .int .i64 (p m).bd] 42)
  have a0 : (w.alloc (.cells #[.slice A (p m).n cap, .int .i64 (p m).bd] 42)).cell? ⟨w.heap.size, 0, none⟩ = some (.slice A (p m).n cap) := by go_simp
  have a1 : (w.alloc (.cells #[.slice A (p m).n cap, .int .i64 (p m).bd] 42)).cell? ⟨w.heap.size, 1, none⟩ = some (.int .i64 (p m).bd) := by go_simp
  have hsz : (w.alloc (.cells #[.slice A (p m).n cap, .int .i64 (p m).bd] 42)).heap.size = w.heap.size + 1 := by simp
  have HP1 := Lib.hid (HP.out.below hb1)
  have HB1 := Lib.hid (hb1.mono hlow)
  have HR1 := Lib.hid (HR.out.below (hb1.mono hlow))
  have HX1 := Lib.hid (HX.out.alloc (.cells #[.slice A (p m).n cap, .int .i64 (p m).bd] 42))
  have HXC1 := Lib.hid (HXC.out.below (hb1.mono hlow))
  have HHl := Lib.hid (show ∀ b, (Value.slice Al m capl).ownBlock = some b → b < w.heap.size from fun b e => (HX.out.lt b e).2)
  have hxl := HX.out.1
  generalize (w.alloc (.cells #[.slice A (p m).n cap, .int .i64 (p m).bd] 42)) = W1 at *
  obtain ⟨H, hH⟩ : ∃ H, w.heap.size = H := ⟨_, rfl⟩
  rw [hH] at a0 a1 hsz HHl hBl ⊢
  have hB1 : B < W1.heap.size := by omega
  have hlo1 := HP1.out.loB
  have HSZ := Lib.hid hsz
  clear hb1 HP HX HXC hsz
  have News := Lib.hid (World.news_of_block (w := (W1.alloc (.cells #[.slice A (p m).n cap, .int .i64 (p m).bd] 42)).drew) (B := W1.heap.size) (cs := #[.slice A (p m).n cap, .int .i64 (p m).bd]) (t := 42) (fr := (0, 0)) (heap_alloc_new W1 _))
  have HD3 := Lib.hid HP1.out.d3
  go_cut [] (fun wx => ∃ lv', Pg wx lo B lv' (m + 1) m p sl us uv ∧ Below lo w wx ∧ wx.cell? ⟨H, 0, none⟩ = some (.slice A (p m).n cap) ∧ wx.cell? ⟨H, 1, none⟩ = some (.int .i64 (p m).bd))
  case first =>
    go_region_law (refine step_append_lies _ (by rfl) _ _ _ (by rfl) lo 42 i0 _ 2 32 Try.underlying27 Hi.out Hz0.out Hz1.out Hz2.out rfl (by omega) (.slice Al m capl) m xs (by rfl) ((HX1.out.alloc _).drew) ⟨W1.heap.size, 0, none⟩ 1 1 [.slice A (p m).n cap, .int .i64 (p m).bd] (by rfl) (by rfl) (News.out) (by simp [Value.oneCell']) (by omega) (by unfold maxLen; omega) (by omega) (by simp; omega) (W1.heap.size + 1) (by simp) ?_; intro gg cap1 w9 hown1 hgrow hat hlt1; obtain ⟨t0, u0⟩ := HP1.out.t0 (bl_alloc (Below.refl _ _) _).drew hgrow HD3.out hcl; have b0 := hgrow.cell (a := ⟨H, 0, none⟩) (kc (bl_alloc (Below.refl _ _) _).drew a0) (fun e => Nat.lt_irrefl _ (HHl.out H e.symm)); have b1 := hgrow.cell (a := ⟨H, 1, none⟩) (kc (bl_alloc (Below.refl _ _) _).drew a1) (fun e => Nat.lt_irrefl _ (HHl.out H e.symm)))
    all_goals go_wp2_with fail
    all_goals go_meet
    all_goals exact ⟨_, (HP1.out.app ((bl_alloc (Below.refl _ _) _).drew) HXC1.out hxl HR1.out hown1 hgrow (hat.imp id (fun e => by rw [e]; simp))).1, HB1.out.trans (HP1.out.app ((bl_alloc (Below.refl _ _) _).drew) HXC1.out hxl HR1.out hown1 hgrow (hat.imp id (fun e => by rw [e]; simp))).2, (World.cell?_setCell_other _ _ _ _ (fun e => by injection e with e1 e2 _; omega)).trans b0, (World.cell?_setCell_other _ _ _ _ (fun e => by injection e with e1 e2 _; omega)).trans b1⟩
  case rest =>
    obtain ⟨lv2, hp2, hb2, c0, c1⟩ := hcut
    have HP2 := Lib.hid hp2
    have HB2 := Lib.hid hb2
    clear hp2 hb2 News HP1 HB1 HX1 HXC1 HHl HD3 a0 a1 hcl hxl
    obtain ⟨hT, hT1, hT2⟩ := tot_slk HQ.out hn
    obtain ⟨T, hTe⟩ : ∃ T, totV (p m).n (p m).c (p m).l (p m).bd = T := ⟨_, rfl⟩
    obtain ⟨Z, hZ⟩ : ∃ Z, slkC (p m) z0 = Z := ⟨_, rfl⟩
    have hbdm := bound_of (show validB (p m).n (p m).c (p m).l (p m).bd = true from HQ.out)
    have HTc := Lib.hid (fun (W : World) (h : Rd W W.heap.size A (p m).n (p m).c (p m).l) => implTotal_v A _ cap (p m).bd _ _ W hn h)
    rw [hTe] at HTc hT
    rw [hZ] at hT hT1 hT2
    have hws : IntKind.i64.wrap (T - (p m).bd) = Z := by rw [hT, IntWalk.i64_in _ (by omega)]; omega
    have hlo2 := HP2.out.loB
    have HRc := Lib.hid ((HR.out.below HB2.out).more hlo2)
    have HZ := Lib.hid hZ
    obtain ⟨u0, hu0⟩ := HP2.out.cel.cellA (i := 1 + m) (by omega)
    have hfu := HP2.out.cel.frozen (1 + m)
    have hBc := HP2.out.cel.lt
    have hmI : (m : Int) < 1400 := by omega
    have hm0 : (0 : Int) ≤ (m : Int) := by omega
    clear hT hT1 hT2 hTe hbdm hZ hlo2 HR1 HSZ
    go_upto_region 3 with fail
    go_cut [] (fun wx => Pg wx lo B lv2 (m + 1) (m + 1) p (fun i => if i = m then slkC (p m) z0 else sl i) us uv ∧ Below lo w wx ∧ wx.cell? ⟨H, 0, none⟩ = some (.slice A (p m).n cap) ∧ wx.cell? ⟨H, 1, none⟩ = some (.int .i64 (p m).bd))
    case first =>
      go_region_law (go_simp; go_at_call 91; refine (HTc.out _ (HRc.out.later (by repeat (first | exact Below.refl _ _ | refine Below.drew ?_)))).mono ?_; rintro e w9 ⟨rfl, hb⟩; have hb9 := bl_trans (Below.refl wc.heap.size wc).drew hb; have HP9 := Lib.hid (HP2.out.below hb9); have HB9 := Lib.hid (HB2.out.trans (hb9.mono HP2.out.loB)); replace c0 := kc hb9 c0; replace c1 := kc hb9 c1; replace hu0 := kc hb9 hu0; replace hfu := kf hb9 (show B < wc.heap.size by omega) hfu; clear hb hb9)
      all_goals go_wp2_with fail
      all_goals go_meet
      all_goals exact ⟨by rw [HZ.out]; exact HP9.out.setNew hm Z, HB9.out.setCell HP9.out.low _, (World.cell?_setCell_other _ _ _ _ (fun e => by injection e with e1 e2 _; omega)).trans c0, (World.cell?_setCell_other _ _ _ _ (fun e => by injection e with e1 e2 _; omega)).trans c1⟩
    case rest =>
      obtain ⟨hp3, hb3, c0, c1⟩ := hcut
      have HP3 := Lib.hid hp3
      have HB3 := Lib.hid hb3
      clear hp3 hb3
      obtain ⟨j0, hi, hz0, hz1, hz2⟩ := info_parts Try.infoUse
      have Ji := Lib.hid hi
      have Jz0 := Lib.hid hz0
      have Jz1 := Lib.hid hz1
      have Jz2 := Lib.hid hz2
      clear hi hz0 hz1 hz2
      go_wp2
      go_loopw [36] (fun i wx => ∃ (t : Nat) (uv' : Nat → Value), i = .int .i64 t ∧ t ≤ (p m).n ∧ Pg wx lo B lv2 (m + 1) (m + 1) p (fun i => if i = m then slkC (p m) z0 else sl i) (fun j => us j ++ usT m (p m).c (p m).l t j) uv' ∧ Below lo w wx) (fun i _ => (p m).n - (intOf i).toNat)
      case atStart => exact ⟨0, uv, rfl, Nat.zero_le _, by simpa [usT] using HP3.out, HB3.out⟩
      case round =>
        obtain ⟨t, uv', rfl, ht, hp, hb⟩ := hrel
        have HPr := Lib.hid hp
        have HBr := Lib.hid hb
        clear hp hb
        by_cases hlt : t < (p m).n
        · have hlor := HPr.out.loB
          obtain ⟨b, off, rfl, hbl, hc⟩ := ((HR.out.below HBr.out).more hlor) (by omega)
          obtain ⟨hc1, hc2⟩ := hc t hlt
          have hlit := litAt (show validB (p m).n (p m).c (p m).l (p m).bd = true from HQ.out) hlt
          obtain ⟨x, hx⟩ : ∃ x, (p m).c t = x := ⟨_, rfl⟩
          obtain ⟨z, hz⟩ : ∃ z, (p m).l t = z := ⟨_, rfl⟩
          rw [hx] at hc1
          rw [hz] at hc2 hlit
          obtain ⟨q0, q1, q2⟩ := litB_iff.1 hlit
          obtain ⟨k, hk⟩ : ∃ k : Nat, 12 + z = (k : Int) := ⟨(12 + z).toNat, by omega⟩
          have hk25 : k < 25 := by omega
          have HUs := Lib.hid (show usT m (p m).c (p m).l (t + 1) = fun j => usT m (p m).c (p m).l t j ++ (if j = k then [(m, x)] else []) from by
            funext j
            show usT m (p m).c (p m).l t j ++ (if 12 + (p m).l t = (j : Int) then [(m, (p m).c t)] else []) = _
            rw [hx, hz, hk]
            by_cases e : j = k
            · subst e; rw [if_pos rfl, if_pos rfl]
            · rw [if_neg (by omega), if_neg e])
          have HFn := Lib.hid (show (fun j => us j ++ usT m (p m).c (p m).l (t + 1) j) = fun j => if j = k then (us k ++ usT m (p m).c (p m).l t k) ++ [(m, x)] else us j ++ usT m (p m).c (p m).l t j from by
            funext j
            rw [HUs.out]
            by_cases e : j = k
            · subst e; simp
            · simp [e])
          have hw1 : wrap64 (12 + z) = (k : Int) := by rw [hk]; exact IntWalk.i64_left _ ▸ IntWalk.i64_in _ (by omega)
          have hw2 : IntKind.i64.wrap (12 + z) = (k : Int) := by rw [hk]; exact IntWalk.i64_in _ (by omega)
          have hltI : (t : Int) < ((p m).n : Int) := by omega
          have ht0 : (0 : Int) ≤ (t : Int) := by omega
          have hkI : (k : Int) < 25 := by omega
          have hk0 : (0 : Int) ≤ (k : Int) := by omega
          clear hc hx hz hk hlit q0 q1 q2
          go_upto_region 8 with fail
          have hb1 := bl_alloc (Below.refl wr.heap.size wr) (.cells #[.int .i64 x, .int .i64 z] 58)
          have a0 : (wr.alloc (.cells #[.int .i64 x, .int .i64 z] 58)).cell? ⟨wr.heap.size, 0, none⟩ = some (.int .i64 x) := by go_simp
          have HP1 := Lib.hid (HPr.out.below hb1)
          have HB1 := Lib.hid (HBr.out.trans (hb1.mono hlor))
          have hTB : B < wr.heap.size := HPr.out.cel.lt
          have hTU : ∀ e, (uv' k).ownBlock = some e → e < wr.heap.size := fun e he => ((HPr.out.use k hk25).lt e he).2
          generalize (wr.alloc (.cells #[.int .i64 x, .int .i64 z] 58)) = W1 at *
          obtain ⟨T, hT⟩ : ∃ T, wr.heap.size = T := ⟨_, rfl⟩
          rw [hT] at a0 hTB hTU ⊢
          have hcu := HP1.out.cel.cellU hk25
          have hrow := HP1.out.use k hk25
          have hlen : (us k ++ usT m (p m).c (p m).l t k).length ≤ 1500000000 := by
            have h1 := hus k
            have h2 := usT_len m (p m).c (p m).l t k
            rw [List.length_append]
            omega
          obtain ⟨Au, capu, hue⟩ := row_slice hrow
          have hdB := fun e => (HP1.out.d1 k hk25 B e).2 rfl
          have HDB := Lib.hid (show (Value.slice Au (us k ++ usT m (p m).c (p m).l t k).length capu).ownBlock ≠ some B from by rw [← hue]; exact hdB)
          have HRow := Lib.hid hrow
          have HUe := Lib.hid hue
          have HTU := Lib.hid hTU
          obtain ⟨Lc, hLc⟩ : ∃ Lc, (us k ++ usT m (p m).c (p m).l t k).length = Lc := ⟨_, rfl⟩
          rw [hue, hLc] at hcu
          rw [hLc] at hlen
          have HLc := Lib.hid hLc
          have hlo1 := HP1.out.loB
          have hB1 : B < W1.heap.size := HP1.out.cel.lt
          have hT1 : T < W1.heap.size := World.block_lt_of_cell? W1 ⟨T, 0, none⟩ a0
          have News := Lib.hid (World.news_of_block (w := (W1.alloc (.cells #[.int .i64 (m : Nat), .int .i64 x] 123)).drew) (B := W1.heap.size) (cs := #[.int .i64 (m : Nat), .int .i64 x]) (t := 123) (fr := (0, 0)) (heap_alloc_new W1 _))
          have HROW := Lib.hid (show W1.ownsRow lo 123 2 (.slice Au Lc capu) Lc (ucells (us k ++ usT m (p m).c (p m).l t k)) from by have := HRow.out; rw [HUe.out, HLc.out] at this; exact this)
          have HDR := Lib.hid (show (Value.slice Au Lc capu).ownBlock ≠ some B from by have := HDB.out; rw [HLc.out] at this; exact this)
          have HUV := Lib.hid (show uv' k = .slice Au Lc capu from by rw [HUe.out, HLc.out])
          clear hb1 HPr HBr hTU hrow hue hdB hLc HRow HDB hT
          go_region_law (refine step_append_lies _ (by rfl) _ _ _ (by rfl) lo 123 j0 _ 2 16 Try.underlying100 Ji.out Jz0.out Jz1.out Jz2.out rfl (by omega) (.slice Au Lc capu) Lc _ (by rfl) ((HROW.out.alloc _).drew) ⟨W1.heap.size, 0, none⟩ 1 1 [.int .i64 (m : Nat), .int .i64 x] (by rfl) (by rfl) (News.out) (by simp [Value.oneCell']) (by omega) (by unfold maxLen; omega) (by omega) (by simp; omega) (W1.heap.size + 1) (by simp) ?_; intro gg cap1 w9 hown1 hgrow hat hlt1; obtain ⟨t0, u0⟩ := HP1.out.t0 (bl_alloc (Below.refl _ _) _).drew hgrow HDR.out hcu; have b0 := hgrow.cell (a := ⟨T, 0, none⟩) (kc (bl_alloc (Below.refl _ _) _).drew a0) (fun e => Nat.lt_irrefl _ (HTU.out T (by rw [HUV.out]; exact e.symm))))
          all_goals go_wp2
          all_goals go_roundw
          all_goals (first | (simp [intOf]; omega; done) | skip)
          all_goals have happ := HP1.out.appU (r := (m, x)) ((bl_alloc (Below.refl _ _) _).drew) hk25 (by omega) (by simp only [HLc.out]; exact hown1) (by rw [HUV.out]; exact hgrow) (by rw [HUV.out]; exact hat.imp id (fun e => by rw [e]; simp))
          all_goals simp only [HLc.out] at happ
          all_goals exact ⟨t + 1, fun j => if j = k then .slice (some ⟨gg, 0, none⟩) (Lc + 1) cap1 else uv' j, by go_num, by omega, by rw [HFn.out]; exact happ.1, HB1.out.trans happ.2⟩
        · have e : t = (p m).n := by omega
          go_wp2
          exact ⟨rfl, .tuple #[], by simp [results, Try.results71], rfl, _, uv', by rw [← e]; exact HPr.out, HBr.out⟩
end Go.Proofs.Ytooknldfkcdneaa
