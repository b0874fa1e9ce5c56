/- FullDomains: the reference's side (no claim of its own). Conditions: as each theorem states. -/
import Derived.Test.YtgjjcikdbpjajaaFdmA
import Derived.Test.YtgjjcikdbpjajaaMvsC
import Derived.Test.YtgjjcikdbpjajaaBvsA
import Derived.Deep.AppendLies
namespace Go.Proofs.Ytgjjcikdbpjajaa
open Go.ChangeShapes Go.WideShapes Go.ChangeAt Go.RowKit

/-- The full domain of a cell. -/
def fulL (s : Lst) (i : Nat) : LsB := ⟨(s.x i + 1).toNat, fun _ => true⟩

/-- A row of k rows of Booleans that is being built, in blocks of the range. -/
structure BL (w : World) (lo hi : Nat) (V : Value) (k : Nat) (r : Nat → LsB) (f : Nat → Nat) : Prop where
  own : ∃ xs : List Value, w.ownsRow lo 63 1 V k xs ∧ ∀ i, i < k → ∃ ci, xs[i]? = some (.slice (some ⟨f i, 0, none⟩) (r i).n ci)
  top : ∀ j, V.ownBlock = some j → j < hi
  els : ∀ i, i < k → lo ≤ f i ∧ f i < hi ∧ OwnVb w (f i) 4 (r i).n (r i).n (r i).x
  inj : ∀ i j, i < k → j < k → i ≠ j → f i ≠ f j
section
variable {w w' W : World} {lo hi hi' k m n g : Nat} {V : Value} {r : Nat → LsB} {f : Nat → Nat} {row : Option Nat}
theorem BL.kept (h : BL w lo hi V k r f) (hg : w.grownBy w' row) (ho : ∀ j, row = some j → j < lo ∨ hi ≤ j) : BL w' lo hi V k r f := by
  obtain ⟨⟨xs, h0, h1⟩, h2, h3, h4⟩ := h
  refine ⟨⟨xs, h0.kept hg ?_, h1⟩, h2, fun i hi0 => ?_, h4⟩
  · cases e : V.ownBlock with
    | none => exact .inl rfl
    | some j =>
      right
      intro e'
      have := ho j e'.symm
      have := (h0.lt _ e).1
      have := h2 j e
      omega
  · obtain ⟨a, b, c⟩ := h3 i hi0
    exact ⟨a, b, c.at_ (hg.block _ c.lt (fun e => by have := ho _ e.symm; omega))⟩
theorem BL.more (h : BL w lo hi V k r f) (hh : hi ≤ hi') : BL w lo hi' V k r f :=
  ⟨h.own, fun j e => by have := h.top j e; omega, fun i hi0 => by obtain ⟨a, b, c⟩ := h.els i hi0; exact ⟨a, by omega, c⟩, h.inj⟩
theorem bl_gb (hb : Below w.heap.size w w') : w.grownBy w' none := ⟨hb.os, hb.tape, hb.output, hb.size, fun k hk _ => hb.block k hk⟩
theorem BL.bel (h : BL w lo hi V k r f) (hb : Below w.heap.size w w') : BL w' lo hi V k r f := h.kept (bl_gb hb) (fun j e => by cases e)
theorem BL.lt (h : BL w lo hi V k r f) : ∀ j, V.ownBlock = some j → lo ≤ j ∧ j < w.heap.size ∧ j < hi := fun j e => by
  obtain ⟨xs, h0, _⟩ := h.own
  exact ⟨(h0.lt j e).1, (h0.lt j e).2, h.top j e⟩
theorem BL.nilL : BL (w.alloc (.cells #[] 63)) w.heap.size (w.alloc (.cells #[] 63)).heap.size (.slice (some ⟨w.heap.size, 0, none⟩) 0 0) 0 r f :=
  ⟨⟨[], by simpa using World.ownsRow_lit w #[] 0 (Nat.le_refl _) (by unfold maxLen; omega) (by simp), fun i hi => by omega⟩, fun j e => by cases e; simp, fun i hi => by omega, fun i j hi => by omega⟩
theorem BL.nil0 : BL w lo hi (.slice none 0 0) 0 r f := ⟨⟨[], World.ownsRow_nil _ _ _ _, fun i hi => by omega⟩, (fun j e => by cases e), fun i hi => by omega, fun i j hi => by omega⟩
theorem BL.head (h : BL w lo hi V k r f) : ∃ A cap, V = .slice A k cap := by
  obtain ⟨xs, h0, _⟩ := h.own
  rcases h0.2 with ⟨hov, hk⟩ | ⟨g, cap, cur, hov, _⟩
  · exact ⟨none, 0, by rw [hk]; exact hov⟩
  · exact ⟨_, cap, hov⟩
theorem BL.done (h : BL w lo hi V n r f) (hn : 0 < n) : ∃ G cap, V = .slice (some ⟨G, 0, none⟩) n cap ∧ OwnLs w lo hi G n r f := by
  obtain ⟨⟨xs, h0, h1⟩, h2, h3, h4⟩ := h
  rcases id h0.2 with ⟨_, hk⟩ | ⟨G, cap, cur, rfl, hg, hh, hc, _, hs, ht⟩
  · omega
  · refine ⟨G, cap, rfl, hg, h2 G rfl, ⟨cur, hh, fun i hi0 => ?_⟩, fun i hi0 => ?_, h4⟩
    · obtain ⟨ci, e⟩ := h1 i hi0
      refine ⟨ci, ?_⟩
      rw [← ht, List.getElem?_take_of_lt (by omega)] at e
      rw [← Array.getElem?_toList]; exact e
    · obtain ⟨a, b, c⟩ := h3 i hi0
      refine ⟨a, b, fun e => ?_, c⟩
      obtain ⟨cs, hc, _⟩ := c
      rw [e, hh] at hc
      cases hc
theorem BL.fr (h : BL w lo hi V k r f) {f' : Nat → Nat} (he : ∀ i, i < k → f' i = f i) : BL w lo hi V k r f' := by
  obtain ⟨⟨xs, h0, h1⟩, h2, h3, h4⟩ := h
  exact ⟨⟨xs, h0, fun i hi0 => by rw [he i hi0]; exact h1 i hi0⟩, h2, fun i hi0 => by rw [he i hi0]; exact h3 i hi0, fun i j a b c => by rw [he i a, he j b]; exact h4 i j a b c⟩

set_option maxRecDepth 100000 in
set_option maxHeartbeats 800000 in
/-- The append of one row. -/
theorem wp_bl1 {o : Oper} {a : Act} {K : Act → World → Prop} {Q : Exit → Act → World → Prop} (s x : Operand)
    (ho : o.op = .call { callee := .builtin .append, args := #[s, x], argTypes := #[26, 26] })
    (h : BL W lo hi V k r f) (hlo : lo ≤ W.heap.size) (hs : a.eval s = V) {H : Nat} (hx : a.eval x = .slice (some ⟨H, 0, none⟩) 1 1) {ci : Nat} {T' : TypeId} (hnew : W.heap[H]? = some (.cells #[.slice (some ⟨f k, 0, none⟩) (r k).n ci] T' (0, 0)))
    (hel : OwnVb W (f k) 4 (r k).n (r k).n (r k).x) (hf1 : hi ≤ f k) (hlh : lo ≤ hi) (hk : k ≤ 1000)
    (hK : ∀ g cap' w', BL w' lo w'.heap.size (.slice (some ⟨g, 0, none⟩) (k + 1) cap') (k + 1) r f → W.grownBy w' V.ownBlock → K (a.put o.dst (.slice (some ⟨g, 0, none⟩) (k + 1) cap')) w') (hhi : hi ≤ W.heap.size) :
    o.wp Try.prog a W K Q := by
  obtain ⟨i0, hi0, hz0, hz1, hz2⟩ := info_parts Try.infoBS
  obtain ⟨⟨xs, h0, h1⟩, h2, h3, h4⟩ := h
  refine wp_append_lies _ s x 26 ho lo 63 i0 _ 1 _ Try.underlying26 hi0 hz0 hz1 hz2 rfl (by omega) V k _ hs h0 ⟨H, 0, none⟩ 1 1 [.slice (some ⟨f k, 0, none⟩) (r k).n ci] hx (by rfl)
    (World.news_of_block hnew) (by simp [Value.oneCell']) (by omega) (by unfold maxLen; omega) (by omega) hlo W.heap.size rfl ?_
  intro g cap' w' hown hg _ hgl
  have hgs := hg.size
  have hty : ∀ j, V.ownBlock = some j → ∃ cs, W.heap[j]? = some (.cells cs 63 (0, 0)) := fun j e => by
    rcases id h0.2 with ⟨rfl, _⟩ | ⟨g, cap, cur, rfl, hg, hh, _⟩
    · cases e
    · cases e; exact ⟨cur, hh⟩
  have hst : ∀ (b n' : Nat) (x' : Nat → Bool), OwnVb W b 4 n' n' x' → OwnVb w' b 4 n' n' x' := fun b n' x' hv => hv.at_ (hg.block b hv.lt (fun e => by
    obtain ⟨cs, hc⟩ := hty b e.symm
    obtain ⟨cs', hc', _⟩ := hv
    rw [hc] at hc'
    cases hc'))
  refine hK g cap' w' ⟨⟨_, hown, fun i hi1 => ?_⟩, fun j e => by cases e; exact hgl, fun i hi1 => ?_, fun i j a b c => ?_⟩ hg
  · by_cases e : i = k
    · subst e
      refine ⟨ci, ?_⟩
      rw [List.getElem?_append_right (by rw [h0.1]; omega), h0.1]
      simp
    · obtain ⟨ci', e'⟩ := h1 i (by omega)
      refine ⟨ci', ?_⟩
      rw [List.getElem?_append_left (by rw [h0.1]; omega)]
      exact e'
  · by_cases e : i = k
    · subst e
      exact ⟨by omega, by have := hel.lt; omega, hst _ _ _ hel⟩
    · obtain ⟨a', b', c'⟩ := h3 i (by omega)
      exact ⟨a', by omega, hst _ _ _ c'⟩
  · by_cases e : i = k
    · subst e
      obtain ⟨_, b', _⟩ := h3 j (by omega)
      omega
    · by_cases e2 : j = k
      · subst e2
        obtain ⟨_, b', _⟩ := h3 i (by omega)
        omega
      · exact h4 i j (by omega) (by omega) c
end

/-- A row of Booleans, all true, that is being built. -/
def TT8 (w : World) (lo : Nat) (V : Value) (k : Nat) : Prop := w.ownsRow lo 4 1 V k (List.replicate k (.bool true))
theorem TT8.own {w : World} {lo k : Nat} {V : Value} (h : TT8 w lo V k) (hk : 0 < k) : ∃ g cap, V = .slice (some ⟨g, 0, none⟩) k cap ∧ lo ≤ g ∧ OwnVb w g 4 k k (fun _ => true) := by
  rcases h.2 with ⟨_, h0⟩ | ⟨g, cap, cur, rfl, hg, hh, hc, _, hs, ht⟩
  · omega
  · refine ⟨g, cap, rfl, hg, cur, hh, by omega, fun i hi => ?_⟩
    have : (cur.toList.take (k * 1))[i]? = some (.bool true) := by rw [ht, List.getElem?_replicate, if_pos hi]
    rw [List.getElem?_take_of_lt (by omega)] at this
    rw [← Array.getElem?_toList]; exact this
theorem tt_lit (w : World) : TT8 (w.alloc (.cells #[] 4)) w.heap.size (.slice (some ⟨w.heap.size, 0, none⟩) 0 0) 0 := by unfold TT8; simpa using World.ownsRow_lit w #[] 0 (Nat.le_refl _) (by unfold maxLen; omega) (by simp)

set_option maxRecDepth 100000 in
set_option maxHeartbeats 3200000 in
theorem l8Make_any (s : Lst) (n : Nat) (As Ar : Option Addr) (cs cr : Nat) (w : World) (p0 : 1 ≤ s.n) (p1 : s.n ≤ 5) (hok : prE (fun i => betB 0 3 (s.x i)) s.n = true) (hs : RdI w w.heap.size As s.n s.x) :
    Calls Try.prog 67 #[.agg #[.slice As s.n cs, .slice Ar n cr], .bool true] w fun e w' => ∃ A cap, e = .returned (.slice A s.n cap) ∧ RdLB w' w'.heap.size A s.n (fulL s) ∧ Below w.heap.size w w' := by
  obtain ⟨sn, x⟩ := s
  simp only at p0 p1 hok hs ⊢
  have HOK := Lib.hid (fun k (hk : k < sn) => size_at (s := ⟨sn, x⟩) hok hk)
  have HS := Lib.hid hs
  clear hok hs
  obtain ⟨ib, hib, hiz0, hiz1, hiz2⟩ := info_parts Try.infoBool
  have HIB := Lib.hid hib
  have HIZ := Lib.hid (show ib.zero = some (.bool false) ∧ ib.size = 1 ∧ ib.bytes = 1 from ⟨hiz0, hiz1, hiz2⟩)
  clear hib hiz0 hiz1 hiz2
  go_enter Try.func67, Try.ntmps67
  go_wp2
  have a0 : ((w.alloc (.cells #[.slice As sn cs, .slice Ar n cr] 32)).alloc (.cells #[] 63)).cell? ⟨w.heap.size, 0, none⟩ = some (.slice As sn cs) := by go_simp
  have HB := Lib.hid (bl_alloc (bl_alloc (Below.refl w.heap.size w) (.cells #[.slice As sn cs, .slice Ar n cr] 32)) (.cells #[] 63))
  have B0 := Lib.hid (BL.nilL (w := w.alloc (.cells #[.slice As sn cs, .slice Ar n cr] 32)) (r := fulL ⟨sn, x⟩) (f := fun _ => 0))
  have hz : (w.alloc (.cells #[.slice As sn cs, .slice Ar n cr] 32)).heap.size = w.heap.size + 1 := by simp
  rw [hz] at B0
  clear hz
  have A0 := Lib.hid a0
  have hz1 : ((w.alloc (.cells #[.slice As sn cs, .slice Ar n cr] 32)).alloc (.cells #[] 63)).heap.size = w.heap.size + 1 + 1 := by simp
  clear a0
  generalize ((w.alloc (.cells #[.slice As sn cs, .slice Ar n cr] 32)).alloc (.cells #[] 63)) = w1 at *
  go_loopw [5, 6] (fun v c wr => ∃ (k : Nat) (f : Nat → Nat), k ≤ sn ∧ c = .int .i64 k ∧ BL wr (w.heap.size + 1) wr.heap.size v k (fulL ⟨sn, x⟩) f ∧ wr.cell? ⟨w.heap.size, 0, none⟩ = some (.slice As sn cs) ∧ Below w.heap.size w wr ∧ w.heap.size + 1 < wr.heap.size) (fun _ c _ => sn - (intOf c).toNat)
  case atStart => exact ⟨0, _, Nat.zero_le _, rfl, B0.out, A0.out, HB.out, by omega⟩
  case round =>
    obtain ⟨k, f, hk, rfl, hbl, a0, hb, hzr⟩ := hrel
    have BLk := Lib.hid hbl
    have HBk := Lib.hid hb
    obtain ⟨Ao, capo, rfl⟩ := hbl.head
    clear hbl B0 A0 HB
    by_cases hlt : k < sn
    · have hlt' : (k : Int) < (sn : Int) := by omega
      have hk0 : (0 : Int) ≤ (k : Int) := by omega
      obtain ⟨x0, x3⟩ := HOK.out k hlt
      obtain ⟨m, hm⟩ : ∃ m : Nat, x k + 1 = (m : Int) := ⟨(x k + 1).toNat, by omega⟩
      go_wp2
      have ts0 := Lib.hid (tt_lit wr)
      have HA0 := Lib.hid (bl_alloc (Below.refl wr.heap.size wr) (.cells #[] 4))
      have BL0 := Lib.hid (BLk.out.bel HA0.out)
      have HB0 := Lib.hid (bl_trans HBk.out HA0.out)
      have a1 := Lib.hid (kc HA0.out a0)
      have hz0 : wr.heap.size ≤ (wr.alloc (.cells #[] 4)).heap.size := HA0.out.size
      obtain ⟨L, hL⟩ : ∃ L, wr.heap.size = L := ⟨_, rfl⟩
      rw [hL] at ts0 BL0 hz0 hzr ⊢
      clear BLk HBk a0 HA0 hL
      generalize (wr.alloc (.cells #[] 4)) = w7 at *
      go_loopw [7, 8] (fun v c wq => ∃ t : Nat, t ≤ m ∧ c = .int .i64 t ∧ TT8 wq L v t ∧ BL wq (w.heap.size + 1) L (.slice Ao k capo) k (fulL ⟨sn, x⟩) f ∧ L ≤ wq.heap.size ∧ wq.cell? ⟨w.heap.size, 0, none⟩ = some (.slice As sn cs) ∧ Below w.heap.size w wq) (fun _ c _ => m - (intOf c).toNat)
      case atStart => exact ⟨0, Nat.zero_le _, rfl, ts0.out, BL0.out, hz0, a1.out, HB0.out⟩
      case round =>
        obtain ⟨t, ht, rfl, hts, hbl, hsq, a0, hb⟩ := hrel
        have TSq := Lib.hid hts
        have BLq := Lib.hid hbl
        have HBq := Lib.hid hb
        obtain ⟨bb, off, rfl, hbb, hcs⟩ := (HS.out.below hb) (by omega)
        have cx := hcs k hlt
        clear hts hbl hb ts0 BL0 HB0 a1 hcs
        by_cases htm : t < m
        · have htx : (t : Int) ≤ x k := by omega
          have HA8 := Lib.hid (bl_alloc (Below.refl wr.heap.size wr) (.cells #[.bool true] 4))
          have hlt2 := TSq.out.lt
          go_wp2_with (at_builtin; refine wpList_plain (by rfl) fun K' hK' => ?_; refine wp_append_lies _ _ _ 63 (by rfl) L 4 ib _ 1 1 Try.underlying63 HIB.out HIZ.out.1 HIZ.out.2.1 HIZ.out.2.2 rfl (by omega) _ t _ (by rfl) (row_below' TSq.out HA8.out) ⟨wr.heap.size, 0, none⟩ 1 1 [.bool true] (by rfl) (by rfl) (World.news_of_block (heap_alloc_new wr _)) (by simp [Value.oneCell']) (by omega) (by unfold maxLen; omega) (by omega) (by first | (simp; done) | (simp; omega)) _ rfl ?_; intro gg cap1 w9 hts9 hgr9 _ _; rw [← List.replicate_succ'] at hts9; refine hK' _ _ ?_; clear hK' K')
          go_roundw
          case rel => exact ⟨t + 1, by omega, by go_num, hts9, (BLq.out.bel HA8.out).kept hgr9 (fun b e => by have := hlt2 b e; omega), by have h1 := HA8.out.size; have h2 := hgr9.size; omega, (World.cell?_of_block (a := ⟨w.heap.size, 0, none⟩) (hgr9.block w.heap.size (by have := HA8.out.size; omega) (fun e => by have := hlt2 _ e.symm; omega))).trans (kc HA8.out a0), (bl_trans HBq.out HA8.out).grown hgr9 (by have := HA8.out.size; omega) (fun b e => by have := hlt2 b e; omega)⟩
          case measure => simp [intOf]; omega
        · obtain rfl : t = m := by omega
          have htx : ¬ (t : Int) ≤ x k := by omega
          obtain ⟨g, cap, e, hLg, hv⟩ := TSq.out.own (by omega)
          cases e
          have HA8 := Lib.hid (bl_alloc (Below.refl wr.heap.size wr) (.cells #[.slice (some ⟨g, 0, none⟩) t cap] 63))
          have hfk : (fun i => if i = k then g else f i) k = g := if_pos rfl
          have hrk : fulL ⟨sn, x⟩ k = ⟨t, fun _ => true⟩ := by unfold fulL; rw [show (x k + 1).toNat = t by omega]
          have BL9 := Lib.hid ((BLq.out.bel HA8.out).fr (f' := fun i => if i = k then g else f i) (fun i hi => if_neg (by omega)))
          have HV9 := Lib.hid (hv.below HA8.out)
          have hoL := (BLq.out.bel HA8.out).lt
          have hNew : (wr.alloc (.cells #[.slice (some ⟨g, 0, none⟩) t cap] 63)).heap[wr.heap.size]? = some (.cells #[.slice (some ⟨(fun i => if i = k then g else f i) k, 0, none⟩) (fulL ⟨sn, x⟩ k).n cap] 63 (0, 0)) := by
            rw [hfk, hrk]; exact heap_alloc_new wr _
          have HNew := Lib.hid hNew
          have HEl := Lib.hid (show OwnVb (wr.alloc (.cells #[.slice (some ⟨g, 0, none⟩) t cap] 63)) ((fun i => if i = k then g else f i) k) 4 (fulL ⟨sn, x⟩ k).n (fulL ⟨sn, x⟩ k).n (fulL ⟨sn, x⟩ k).x by rw [hfk, hrk]; exact HV9.out)
          have hzz : L ≤ (wr.alloc (.cells #[.slice (some ⟨g, 0, none⟩) t cap] 63)).heap.size := by have := HA8.out.size; omega
          have hfg : L ≤ (fun i => if i = k then g else f i) k := by rw [hfk]; exact hLg
          clear hv hNew
          go_wp2_with (at_builtin; refine wpList_plain (by rfl) fun K' hK' => ?_; refine wp_bl1 (ci := cap) _ _ (by rfl) BL9.out (by omega) (by rfl) (by rfl) HNew.out HEl.out hfg (by omega) (by omega) ?_ hzz; intro gg cap1 w9 hbl9 hgr9; refine hK' _ _ ?_; clear hK' K')
          go_roundw
          case rel => exact ⟨k + 1, _, by omega, by go_num, hbl9, (World.cell?_of_block (a := ⟨w.heap.size, 0, none⟩) (hgr9.block w.heap.size (by omega) (fun e => by have := hoL _ e.symm; omega))).trans (kc HA8.out a0), (bl_trans HBq.out HA8.out).grown hgr9 (by omega) (fun b e => by have := hoL b e; omega), by have := hgr9.size; omega⟩
          case measure => simp [intOf]; omega
    · have e : k = sn := by omega
      subst e
      obtain ⟨G, cap, e, hO⟩ := BLk.out.done (by omega)
      cases e
      go_wp2
      go_ret
      exact ⟨_, _, rfl, hO.rd, HBk.out⟩
end Go.Proofs.Ytgjjcikdbpjajaa
