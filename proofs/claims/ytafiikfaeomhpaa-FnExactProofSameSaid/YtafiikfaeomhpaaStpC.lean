/- ProofSame: the reference's side (no claim of its own). Conditions: as each theorem states. -/
import Derived.Test.YtafiikfaeomhpaaStpB
import Derived.Test.YtafiikfaeomhpaaClsA
import Derived.BigQuiet
import Derived.Deep.Cut
namespace Go.Proofs.Ytafiikfaeomhpaa
open Go.ChangeShapes Go.WideShapes Go.ChangeAt Go.RowKit

/-- A region's rest, held so that no elaboration unfolds it. -/
structure WQ (P : Program) (ops : Array Oper) (C : World → Prop) (Q : Act → Prop) (l : List Oper) (a : Act) : Prop where
  out : wpQuiet P ops C Q l a
section
variable {P : Program} {ops : Array Oper} {C : World → Prop} {Q : Act → Prop} {o : Oper} {rest : List Oper} {a : Act}
theorem WQ.of (h : WQ P ops C Q rest a) : wpQuiet P ops C Q rest a := h.out
theorem WQ.want (hw : Region.wanted o (yielded ops a.tmps) = true) (h : ∀ K : Act → Prop, (∀ a, WQ P ops C Q rest a → K a) → o.quiet P a C K) : WQ P ops C Q (o :: rest) a :=
  ⟨BigFrame.wpQuiet_want hw fun K hK => h K fun a ha => hK a ha.out⟩
theorem WQ.skip (hw : Region.wanted o (yielded ops a.tmps) = false) (h : WQ P ops C Q rest (a.put o.dst undef)) : WQ P ops C Q (o :: rest) a :=
  ⟨BigFrame.wpQuiet_skip hw h.out⟩
theorem WQ.nil (h : Q a) : WQ P ops C Q [] a := ⟨wpQuiet_nil h⟩
end

set_option linter.unusedVariables false in
set_option linter.unusedSimpArgs false in
set_option maxRecDepth 100000 in
set_option maxHeartbeats 6400000 in
theorem specPS_any (A A' : Option Addr) (n m cap cap' : Nat) (p q : Nat → Stp) (w : World) (hn : n ≤ 1048576) (hm : m ≤ 1048576) (hn' : ∀ i, i < n → (p i).c.n ≤ 1048576) (hr : RdT w w.heap.size A n p) (hr' : RdT w w.heap.size A' m q) :
    Calls Try.prog 33 #[.slice A n cap, .slice A' m cap'] w fun e w' => e = .returned (.bool (psB n m p q)) ∧ Below w.heap.size w w' := by
  have Hd := Lib.hid (show psB n m p q = (n == m && allT (fun i => sst (p i) (q i)) n) from rfl)
  by_cases d1 : n ≠ m
  · have d2 := st_ne8 d1
    have He := Lib.hid (show psB n m p q = false from Hd.out.trans (by simp [d1]))
    clear Hd d1
    go_enter Try.func33, Try.ntmps33
    go_wp2
    go_ret
    exact ⟨ret_bool (by rw [He.out]), Below.refl _ _⟩
  obtain rfl : n = m := by omega
  clear d1
  have Hd2 := Lib.hid (show ∀ z, allT (fun i => sst (p i) (q i)) n = z → psB n n p q = z from fun z hz => Hd.out.trans (by rw [hz]; simp))
  have HN := Lib.hid hn'
  have HR := Lib.hid hr
  have HR' := Lib.hid hr'
  clear hn' hr hr' Hd
  go_enter Try.func33, Try.ntmps33
  go_wp2
  go_loopw [5] (fun i wr => ∃ k : Nat, k ≤ n ∧ i = .int .i64 k ∧ allT (fun i => sst (p i) (q i)) k = true ∧ Below w.heap.size w wr) (fun i _ => n - (intOf i).toNat)
  case atStart => exact ⟨0, Nat.zero_le _, rfl, rfl, Below.refl _ _⟩
  case round =>
    obtain ⟨k, hk, rfl, hp, hb⟩ := hrel
    have Hp := Lib.hid hp
    have HBk := Lib.hid hb
    clear hp
    by_cases hlt : k < n
    · obtain ⟨b, off, rfl, hbl, hc⟩ := (HR.out.later hb) (by omega)
      obtain ⟨b', off', rfl, hbl', hc'⟩ := (HR'.out.later hb) (by omega)
      obtain ⟨Ai, ci, c0, c1, c2, c3, c4, hrk⟩ := hc k hlt
      obtain ⟨Ai', ci', d0, d1, d2, d3, d4, hrk'⟩ := hc' k hlt
      have HRk := Lib.hid hrk
      have HRk' := Lib.hid hrk'
      have hnk := HN.out k hlt
      have hltI : (k : Int) < (n : Int) := by omega
      have hk0 : (0 : Int) ≤ (k : Int) := by omega
      have Hs := Lib.hid (show sst (p k) (q k) = ((p k).k == (q k).k && ((p k).a == (q k).a && ((p k).b == (q k).b && same (p k).c.n (q k).c.n (p k).c.c (p k).c.l (q k).c.c (q k).c.l (p k).c.bd (q k).c.bd))) from rfl)
      have Hy := Lib.hid (fun h => allT_yes (e := fun i => sst (p i) (q i)) Hp.out h)
      have Hno := Lib.hid (fun h => Hd2.out false (allT_no (e := fun i => sst (p i) (q i)) hlt h))
      clear hc hc' hrk hrk' hb
      obtain ⟨x0, hx0⟩ : ∃ x0, (p k).k = x0 := ⟨_, rfl⟩
      obtain ⟨x1, hx1⟩ : ∃ x1, (p k).a = x1 := ⟨_, rfl⟩
      obtain ⟨x2, hx2⟩ : ∃ x2, (p k).b = x2 := ⟨_, rfl⟩
      obtain ⟨z0, hz0⟩ : ∃ z0, (q k).k = z0 := ⟨_, rfl⟩
      obtain ⟨z1, hz1⟩ : ∃ z1, (q k).a = z1 := ⟨_, rfl⟩
      obtain ⟨z2, hz2⟩ : ∃ z2, (q k).b = z2 := ⟨_, rfl⟩
      rw [hx0] at c0 Hs
      rw [hx1] at c1 Hs
      rw [hx2] at c2 Hs
      rw [hz0] at d0 Hs
      rw [hz1] at d1 Hs
      rw [hz2] at d2 Hs
      clear hx0 hx1 hx2 hz0 hz1 hz2
      by_cases h0 : x0 = z0
      · subst h0
        by_cases h1 : x1 = z1
        · subst h1
          by_cases h2 : x2 = z2
          · subst h2
            obtain ⟨z, hz⟩ : ∃ z, same (p k).c.n (q k).c.n (p k).c.c (p k).c.l (q k).c.c (q k).c.l (p k).c.bd (q k).c.bd = z := ⟨_, rfl⟩
            have HZ := Lib.hid hz
            have HE := Lib.hid (Hs.out.trans (show _ = z by rw [hz]; simp))
            clear hz
            go_upto_region 6 with fail
            refine region_class (C := Cls wr) (by kernel_rfl) (by kernel_rfl) (Below.refl wr.heap.size wr).drew ?_
            refine WQ.of ?_
            refine WQ.want (by rfl) (fun K hK => quiet_val (v := .slice (some ⟨b, off, none⟩) n cap) (fun w' hw => ?_) (hK _ ?_))
            · clear c0 c1 c2 c3 c4 d0 d1 d2 d3 d4 hK K
              go_simp
            clear hK K
            simp only [Act.put, List.setIfInBounds_toArray, List.set_cons_succ, List.set_cons_zero]
            refine WQ.want (by rfl) (fun K hK => quiet_val (v := .int .i64 (k : Int)) (fun w' hw => ?_) (hK _ ?_))
            · clear c0 c1 c2 c3 c4 d0 d1 d2 d3 d4 hK K
              go_simp
            clear hK K
            simp only [Act.put, List.setIfInBounds_toArray, List.set_cons_succ, List.set_cons_zero]
            refine WQ.want (by rfl) (fun K hK => quiet_val (v := .pointer (some ⟨b, off + k * 5, none⟩)) (fun w' hw => ?_) (hK _ ?_))
            · clear c0 c1 c2 c3 c4 d0 d1 d2 d3 d4 hK K
              go_simp
            clear hK K
            simp only [Act.put, List.setIfInBounds_toArray, List.set_cons_succ, List.set_cons_zero]
            refine WQ.want (by rfl) (fun K hK => quiet_val (v := .pointer (some ⟨b, off + k * 5, none⟩)) (fun w' hw => ?_) (hK _ ?_))
            · clear c0 c1 c2 c3 c4 d0 d1 d2 d3 d4 hK K
              go_simp
            clear hK K
            simp only [Act.put, List.setIfInBounds_toArray, List.set_cons_succ, List.set_cons_zero]
            refine WQ.want (by rfl) (fun K hK => quiet_val (v := .int .i64 x0) (fun w' hw => ?_) (hK _ ?_))
            · have e0 := kc hw c0; clear c0 c1 c2 c3 c4 d0 d1 d2 d3 d4 hK K
              go_simp
            clear hK K
            simp only [Act.put, List.setIfInBounds_toArray, List.set_cons_succ, List.set_cons_zero]
            refine WQ.want (by rfl) (fun K hK => quiet_val (v := .slice (some ⟨b', off', none⟩) n cap') (fun w' hw => ?_) (hK _ ?_))
            · clear c0 c1 c2 c3 c4 d0 d1 d2 d3 d4 hK K
              go_simp
            clear hK K
            simp only [Act.put, List.setIfInBounds_toArray, List.set_cons_succ, List.set_cons_zero]
            refine WQ.want (by rfl) (fun K hK => quiet_val (v := .int .i64 (k : Int)) (fun w' hw => ?_) (hK _ ?_))
            · clear c0 c1 c2 c3 c4 d0 d1 d2 d3 d4 hK K
              go_simp
            clear hK K
            simp only [Act.put, List.setIfInBounds_toArray, List.set_cons_succ, List.set_cons_zero]
            refine WQ.want (by rfl) (fun K hK => quiet_val (v := .pointer (some ⟨b', off' + k * 5, none⟩)) (fun w' hw => ?_) (hK _ ?_))
            · clear c0 c1 c2 c3 c4 d0 d1 d2 d3 d4 hK K
              go_simp
            clear hK K
            simp only [Act.put, List.setIfInBounds_toArray, List.set_cons_succ, List.set_cons_zero]
            refine WQ.want (by rfl) (fun K hK => quiet_val (v := .pointer (some ⟨b', off' + k * 5, none⟩)) (fun w' hw => ?_) (hK _ ?_))
            · clear c0 c1 c2 c3 c4 d0 d1 d2 d3 d4 hK K
              go_simp
            clear hK K
            simp only [Act.put, List.setIfInBounds_toArray, List.set_cons_succ, List.set_cons_zero]
            refine WQ.want (by rfl) (fun K hK => quiet_val (v := .int .i64 x0) (fun w' hw => ?_) (hK _ ?_))
            · have e0 := kc hw d0; clear c0 c1 c2 c3 c4 d0 d1 d2 d3 d4 hK K
              go_simp
            clear hK K
            simp only [Act.put, List.setIfInBounds_toArray, List.set_cons_succ, List.set_cons_zero]
            refine WQ.want (by rfl) (fun K hK => quiet_val (v := .bool false) (fun w' hw => ?_) (hK _ ?_))
            · clear c0 c1 c2 c3 c4 d0 d1 d2 d3 d4 hK K
              go_simp
            clear hK K
            simp only [Act.put, List.setIfInBounds_toArray, List.set_cons_succ, List.set_cons_zero]
            refine WQ.want (by rfl) (fun K hK => quiet_val (v := .bool false) (fun w' hw => ?_) (hK _ ?_))
            · clear c0 c1 c2 c3 c4 d0 d1 d2 d3 d4 hK K
              go_simp
            clear hK K
            simp only [Act.put, List.setIfInBounds_toArray, List.set_cons_succ, List.set_cons_zero]
            refine WQ.want (by rfl) (fun K hK => quiet_val (v := .slice (some ⟨b, off, none⟩) n cap) (fun w' hw => ?_) (hK _ ?_))
            · clear c0 c1 c2 c3 c4 d0 d1 d2 d3 d4 hK K
              go_simp
            clear hK K
            simp only [Act.put, List.setIfInBounds_toArray, List.set_cons_succ, List.set_cons_zero]
            refine WQ.want (by rfl) (fun K hK => quiet_val (v := .int .i64 (k : Int)) (fun w' hw => ?_) (hK _ ?_))
            · clear c0 c1 c2 c3 c4 d0 d1 d2 d3 d4 hK K
              go_simp
            clear hK K
            simp only [Act.put, List.setIfInBounds_toArray, List.set_cons_succ, List.set_cons_zero]
            refine WQ.want (by rfl) (fun K hK => quiet_val (v := .pointer (some ⟨b, off + k * 5, none⟩)) (fun w' hw => ?_) (hK _ ?_))
            · clear c0 c1 c2 c3 c4 d0 d1 d2 d3 d4 hK K
              go_simp
            clear hK K
            simp only [Act.put, List.setIfInBounds_toArray, List.set_cons_succ, List.set_cons_zero]
            refine WQ.want (by rfl) (fun K hK => quiet_val (v := .pointer (some ⟨b, off + k * 5 + 1, none⟩)) (fun w' hw => ?_) (hK _ ?_))
            · clear c0 c1 c2 c3 c4 d0 d1 d2 d3 d4 hK K
              go_simp
            clear hK K
            simp only [Act.put, List.setIfInBounds_toArray, List.set_cons_succ, List.set_cons_zero]
            refine WQ.want (by rfl) (fun K hK => quiet_val (v := .int .i64 x1) (fun w' hw => ?_) (hK _ ?_))
            · have e0 := kc hw c1; clear c0 c1 c2 c3 c4 d0 d1 d2 d3 d4 hK K
              go_simp
            clear hK K
            simp only [Act.put, List.setIfInBounds_toArray, List.set_cons_succ, List.set_cons_zero]
            refine WQ.want (by rfl) (fun K hK => quiet_val (v := .slice (some ⟨b', off', none⟩) n cap') (fun w' hw => ?_) (hK _ ?_))
            · clear c0 c1 c2 c3 c4 d0 d1 d2 d3 d4 hK K
              go_simp
            clear hK K
            simp only [Act.put, List.setIfInBounds_toArray, List.set_cons_succ, List.set_cons_zero]
            refine WQ.want (by rfl) (fun K hK => quiet_val (v := .int .i64 (k : Int)) (fun w' hw => ?_) (hK _ ?_))
            · clear c0 c1 c2 c3 c4 d0 d1 d2 d3 d4 hK K
              go_simp
            clear hK K
            simp only [Act.put, List.setIfInBounds_toArray, List.set_cons_succ, List.set_cons_zero]
            refine WQ.want (by rfl) (fun K hK => quiet_val (v := .pointer (some ⟨b', off' + k * 5, none⟩)) (fun w' hw => ?_) (hK _ ?_))
            · clear c0 c1 c2 c3 c4 d0 d1 d2 d3 d4 hK K
              go_simp
            clear hK K
            simp only [Act.put, List.setIfInBounds_toArray, List.set_cons_succ, List.set_cons_zero]
            refine WQ.want (by rfl) (fun K hK => quiet_val (v := .pointer (some ⟨b', off' + k * 5 + 1, none⟩)) (fun w' hw => ?_) (hK _ ?_))
            · clear c0 c1 c2 c3 c4 d0 d1 d2 d3 d4 hK K
              go_simp
            clear hK K
            simp only [Act.put, List.setIfInBounds_toArray, List.set_cons_succ, List.set_cons_zero]
            refine WQ.want (by rfl) (fun K hK => quiet_val (v := .int .i64 x1) (fun w' hw => ?_) (hK _ ?_))
            · have e0 := kc hw d1; clear c0 c1 c2 c3 c4 d0 d1 d2 d3 d4 hK K
              go_simp
            clear hK K
            simp only [Act.put, List.setIfInBounds_toArray, List.set_cons_succ, List.set_cons_zero]
            refine WQ.want (by rfl) (fun K hK => quiet_val (v := .bool false) (fun w' hw => ?_) (hK _ ?_))
            · clear c0 c1 c2 c3 c4 d0 d1 d2 d3 d4 hK K
              go_simp
            clear hK K
            simp only [Act.put, List.setIfInBounds_toArray, List.set_cons_succ, List.set_cons_zero]
            refine WQ.want (by rfl) (fun K hK => quiet_val (v := .bool false) (fun w' hw => ?_) (hK _ ?_))
            · clear c0 c1 c2 c3 c4 d0 d1 d2 d3 d4 hK K
              go_simp
            clear hK K
            simp only [Act.put, List.setIfInBounds_toArray, List.set_cons_succ, List.set_cons_zero]
            refine WQ.want (by rfl) (fun K hK => quiet_val (v := .bool false) (fun w' hw => ?_) (hK _ ?_))
            · clear c0 c1 c2 c3 c4 d0 d1 d2 d3 d4 hK K
              go_simp
            clear hK K
            simp only [Act.put, List.setIfInBounds_toArray, List.set_cons_succ, List.set_cons_zero]
            refine WQ.want (by rfl) (fun K hK => quiet_val (v := .slice (some ⟨b, off, none⟩) n cap) (fun w' hw => ?_) (hK _ ?_))
            · clear c0 c1 c2 c3 c4 d0 d1 d2 d3 d4 hK K
              go_simp
            clear hK K
            simp only [Act.put, List.setIfInBounds_toArray, List.set_cons_succ, List.set_cons_zero]
            refine WQ.want (by rfl) (fun K hK => quiet_val (v := .int .i64 (k : Int)) (fun w' hw => ?_) (hK _ ?_))
            · clear c0 c1 c2 c3 c4 d0 d1 d2 d3 d4 hK K
              go_simp
            clear hK K
            simp only [Act.put, List.setIfInBounds_toArray, List.set_cons_succ, List.set_cons_zero]
            refine WQ.want (by rfl) (fun K hK => quiet_val (v := .pointer (some ⟨b, off + k * 5, none⟩)) (fun w' hw => ?_) (hK _ ?_))
            · clear c0 c1 c2 c3 c4 d0 d1 d2 d3 d4 hK K
              go_simp
            clear hK K
            simp only [Act.put, List.setIfInBounds_toArray, List.set_cons_succ, List.set_cons_zero]
            refine WQ.want (by rfl) (fun K hK => quiet_val (v := .pointer (some ⟨b, off + k * 5 + 2, none⟩)) (fun w' hw => ?_) (hK _ ?_))
            · clear c0 c1 c2 c3 c4 d0 d1 d2 d3 d4 hK K
              go_simp
            clear hK K
            simp only [Act.put, List.setIfInBounds_toArray, List.set_cons_succ, List.set_cons_zero]
            refine WQ.want (by rfl) (fun K hK => quiet_val (v := .int .i64 x2) (fun w' hw => ?_) (hK _ ?_))
            · have e0 := kc hw c2; clear c0 c1 c2 c3 c4 d0 d1 d2 d3 d4 hK K
              go_simp
            clear hK K
            simp only [Act.put, List.setIfInBounds_toArray, List.set_cons_succ, List.set_cons_zero]
            refine WQ.want (by rfl) (fun K hK => quiet_val (v := .slice (some ⟨b', off', none⟩) n cap') (fun w' hw => ?_) (hK _ ?_))
            · clear c0 c1 c2 c3 c4 d0 d1 d2 d3 d4 hK K
              go_simp
            clear hK K
            simp only [Act.put, List.setIfInBounds_toArray, List.set_cons_succ, List.set_cons_zero]
            refine WQ.want (by rfl) (fun K hK => quiet_val (v := .int .i64 (k : Int)) (fun w' hw => ?_) (hK _ ?_))
            · clear c0 c1 c2 c3 c4 d0 d1 d2 d3 d4 hK K
              go_simp
            clear hK K
            simp only [Act.put, List.setIfInBounds_toArray, List.set_cons_succ, List.set_cons_zero]
            refine WQ.want (by rfl) (fun K hK => quiet_val (v := .pointer (some ⟨b', off' + k * 5, none⟩)) (fun w' hw => ?_) (hK _ ?_))
            · clear c0 c1 c2 c3 c4 d0 d1 d2 d3 d4 hK K
              go_simp
            clear hK K
            simp only [Act.put, List.setIfInBounds_toArray, List.set_cons_succ, List.set_cons_zero]
            refine WQ.want (by rfl) (fun K hK => quiet_val (v := .pointer (some ⟨b', off' + k * 5 + 2, none⟩)) (fun w' hw => ?_) (hK _ ?_))
            · clear c0 c1 c2 c3 c4 d0 d1 d2 d3 d4 hK K
              go_simp
            clear hK K
            simp only [Act.put, List.setIfInBounds_toArray, List.set_cons_succ, List.set_cons_zero]
            refine WQ.want (by rfl) (fun K hK => quiet_val (v := .int .i64 x2) (fun w' hw => ?_) (hK _ ?_))
            · have e0 := kc hw d2; clear c0 c1 c2 c3 c4 d0 d1 d2 d3 d4 hK K
              go_simp
            clear hK K
            simp only [Act.put, List.setIfInBounds_toArray, List.set_cons_succ, List.set_cons_zero]
            refine WQ.want (by rfl) (fun K hK => quiet_val (v := .bool false) (fun w' hw => ?_) (hK _ ?_))
            · clear c0 c1 c2 c3 c4 d0 d1 d2 d3 d4 hK K
              go_simp
            clear hK K
            simp only [Act.put, List.setIfInBounds_toArray, List.set_cons_succ, List.set_cons_zero]
            refine WQ.want (by rfl) (fun K hK => quiet_val (v := .bool false) (fun w' hw => ?_) (hK _ ?_))
            · clear c0 c1 c2 c3 c4 d0 d1 d2 d3 d4 hK K
              go_simp
            clear hK K
            simp only [Act.put, List.setIfInBounds_toArray, List.set_cons_succ, List.set_cons_zero]
            refine WQ.want (by rfl) (fun K hK => quiet_val (v := .bool false) (fun w' hw => ?_) (hK _ ?_))
            · clear c0 c1 c2 c3 c4 d0 d1 d2 d3 d4 hK K
              go_simp
            clear hK K
            simp only [Act.put, List.setIfInBounds_toArray, List.set_cons_succ, List.set_cons_zero]
            refine WQ.want (by rfl) (fun K hK => quiet_val (v := .slice (some ⟨b, off, none⟩) n cap) (fun w' hw => ?_) (hK _ ?_))
            · clear c0 c1 c2 c3 c4 d0 d1 d2 d3 d4 hK K
              go_simp
            clear hK K
            simp only [Act.put, List.setIfInBounds_toArray, List.set_cons_succ, List.set_cons_zero]
            refine WQ.want (by rfl) (fun K hK => quiet_val (v := .int .i64 (k : Int)) (fun w' hw => ?_) (hK _ ?_))
            · clear c0 c1 c2 c3 c4 d0 d1 d2 d3 d4 hK K
              go_simp
            clear hK K
            simp only [Act.put, List.setIfInBounds_toArray, List.set_cons_succ, List.set_cons_zero]
            refine WQ.want (by rfl) (fun K hK => quiet_val (v := .pointer (some ⟨b, off + k * 5, none⟩)) (fun w' hw => ?_) (hK _ ?_))
            · clear c0 c1 c2 c3 c4 d0 d1 d2 d3 d4 hK K
              go_simp
            clear hK K
            simp only [Act.put, List.setIfInBounds_toArray, List.set_cons_succ, List.set_cons_zero]
            refine WQ.want (by rfl) (fun K hK => quiet_val (v := .pointer (some ⟨b, off + k * 5 + 3, none⟩)) (fun w' hw => ?_) (hK _ ?_))
            · clear c0 c1 c2 c3 c4 d0 d1 d2 d3 d4 hK K
              go_simp
            clear hK K
            simp only [Act.put, List.setIfInBounds_toArray, List.set_cons_succ, List.set_cons_zero]
            refine WQ.want (by rfl) (fun K hK => quiet_val (v := .agg #[.slice Ai (p k).c.n ci, .int .i64 (p k).c.bd]) (fun w' hw => ?_) (hK _ ?_))
            · have e0 := kc hw c3; have e1 := kc hw c4; clear c0 c1 c2 c3 c4 d0 d1 d2 d3 d4 hK K
              go_simp
            clear hK K
            simp only [Act.put, List.setIfInBounds_toArray, List.set_cons_succ, List.set_cons_zero]
            refine WQ.want (by rfl) (fun K hK => quiet_val (v := .slice (some ⟨b', off', none⟩) n cap') (fun w' hw => ?_) (hK _ ?_))
            · clear c0 c1 c2 c3 c4 d0 d1 d2 d3 d4 hK K
              go_simp
            clear hK K
            simp only [Act.put, List.setIfInBounds_toArray, List.set_cons_succ, List.set_cons_zero]
            refine WQ.want (by rfl) (fun K hK => quiet_val (v := .int .i64 (k : Int)) (fun w' hw => ?_) (hK _ ?_))
            · clear c0 c1 c2 c3 c4 d0 d1 d2 d3 d4 hK K
              go_simp
            clear hK K
            simp only [Act.put, List.setIfInBounds_toArray, List.set_cons_succ, List.set_cons_zero]
            refine WQ.want (by rfl) (fun K hK => quiet_val (v := .pointer (some ⟨b', off' + k * 5, none⟩)) (fun w' hw => ?_) (hK _ ?_))
            · clear c0 c1 c2 c3 c4 d0 d1 d2 d3 d4 hK K
              go_simp
            clear hK K
            simp only [Act.put, List.setIfInBounds_toArray, List.set_cons_succ, List.set_cons_zero]
            refine WQ.want (by rfl) (fun K hK => quiet_val (v := .pointer (some ⟨b', off' + k * 5 + 3, none⟩)) (fun w' hw => ?_) (hK _ ?_))
            · clear c0 c1 c2 c3 c4 d0 d1 d2 d3 d4 hK K
              go_simp
            clear hK K
            simp only [Act.put, List.setIfInBounds_toArray, List.set_cons_succ, List.set_cons_zero]
            refine WQ.want (by rfl) (fun K hK => quiet_val (v := .agg #[.slice Ai' (q k).c.n ci', .int .i64 (q k).c.bd]) (fun w' hw => ?_) (hK _ ?_))
            · have e0 := kc hw d3; have e1 := kc hw d4; clear c0 c1 c2 c3 c4 d0 d1 d2 d3 d4 hK K
              go_simp
            clear hK K
            simp only [Act.put, List.setIfInBounds_toArray, List.set_cons_succ, List.set_cons_zero]
            refine WQ.want (by rfl) (fun K hK => quiet_enter (v := .bool z) (f := 70) (args := #[.agg #[.slice Ai (p k).c.n ci, .int .i64 (p k).c.bd], .agg #[.slice Ai' (q k).c.n ci', .int .i64 (q k).c.bd]]) (fun w' hw => ?_) (fun w' hw => ?_) (hK _ ?_))
            · go_simp
            · refine (specSame_any Ai Ai' (p k).c.n (q k).c.n ci ci' (p k).c.bd (q k).c.bd (p k).c.c (p k).c.l (q k).c.c (q k).c.l _ hnk (HRk.out.later hw) (HRk'.out.later hw)).mono ?_
              rintro e w8 ⟨rfl, hb⟩
              exact ⟨by rw [HZ.out], bl_trans hw hb⟩
            clear hK K
            simp only [Act.put, List.setIfInBounds_toArray, List.set_cons_succ, List.set_cons_zero]
            refine WQ.want (by rfl) (fun K hK => quiet_val (v := .bool (!z)) (fun w' hw => ?_) (hK _ ?_))
            · clear c0 c1 c2 c3 c4 d0 d1 d2 d3 d4 hK K
              go_simp
            clear hK K
            simp only [Act.put, List.setIfInBounds_toArray, List.set_cons_succ, List.set_cons_zero]
            refine WQ.want (by rfl) (fun K hK => quiet_val (v := .bool (!z)) (fun w' hw => ?_) (hK _ ?_))
            · clear c0 c1 c2 c3 c4 d0 d1 d2 d3 d4 hK K
              go_simp
            clear hK K
            simp only [Act.put, List.setIfInBounds_toArray, List.set_cons_succ, List.set_cons_zero]
            refine WQ.nil ?_
            intro w5 hw9
            have HB5 := Lib.hid (bl_trans HBk.out hw9)
            clear hw9 c0 c1 c2 c3 c4 d0 d1 d2 d3 d4
            cases z with
            | true =>
              have HY := Lib.hid (Hy.out HE.out)
              go_wp2
              go_roundw
              case rel => exact ⟨k + 1, by omega, by go_num, HY.out, HB5.out⟩
              case measure => simp [intOf]; omega
            | false =>
              have HY := Lib.hid (Hno.out HE.out)
              go_wp2
              go_ret
              exact ⟨ret_bool (by rw [HY.out]), HB5.out⟩
          · have Hne := Lib.hid (show (x2 != z2) = true by rw [bne_iff_ne]; exact h2)
            have HE := Lib.hid (Hno.out (Hs.out.trans (by simp [h2])))
            clear h2
            go_upto_region 6 with fail
            refine region_class (C := Cls wr) (by kernel_rfl) (by kernel_rfl) (Below.refl wr.heap.size wr).drew ?_
            refine WQ.of ?_
            refine WQ.want (by rfl) (fun K hK => quiet_val (v := .slice (some ⟨b, off, none⟩) n cap) (fun w' hw => ?_) (hK _ ?_))
            · clear c0 c1 c2 c3 c4 d0 d1 d2 d3 d4 hK K
              go_simp
            clear hK K
            simp only [Act.put, List.setIfInBounds_toArray, List.set_cons_succ, List.set_cons_zero]
            refine WQ.want (by rfl) (fun K hK => quiet_val (v := .int .i64 (k : Int)) (fun w' hw => ?_) (hK _ ?_))
            · clear c0 c1 c2 c3 c4 d0 d1 d2 d3 d4 hK K
              go_simp
            clear hK K
            simp only [Act.put, List.setIfInBounds_toArray, List.set_cons_succ, List.set_cons_zero]
            refine WQ.want (by rfl) (fun K hK => quiet_val (v := .pointer (some ⟨b, off + k * 5, none⟩)) (fun w' hw => ?_) (hK _ ?_))
            · clear c0 c1 c2 c3 c4 d0 d1 d2 d3 d4 hK K
              go_simp
            clear hK K
            simp only [Act.put, List.setIfInBounds_toArray, List.set_cons_succ, List.set_cons_zero]
            refine WQ.want (by rfl) (fun K hK => quiet_val (v := .pointer (some ⟨b, off + k * 5, none⟩)) (fun w' hw => ?_) (hK _ ?_))
            · clear c0 c1 c2 c3 c4 d0 d1 d2 d3 d4 hK K
              go_simp
            clear hK K
            simp only [Act.put, List.setIfInBounds_toArray, List.set_cons_succ, List.set_cons_zero]
            refine WQ.want (by rfl) (fun K hK => quiet_val (v := .int .i64 x0) (fun w' hw => ?_) (hK _ ?_))
            · have e0 := kc hw c0; clear c0 c1 c2 c3 c4 d0 d1 d2 d3 d4 hK K
              go_simp
            clear hK K
            simp only [Act.put, List.setIfInBounds_toArray, List.set_cons_succ, List.set_cons_zero]
            refine WQ.want (by rfl) (fun K hK => quiet_val (v := .slice (some ⟨b', off', none⟩) n cap') (fun w' hw => ?_) (hK _ ?_))
            · clear c0 c1 c2 c3 c4 d0 d1 d2 d3 d4 hK K
              go_simp
            clear hK K
            simp only [Act.put, List.setIfInBounds_toArray, List.set_cons_succ, List.set_cons_zero]
            refine WQ.want (by rfl) (fun K hK => quiet_val (v := .int .i64 (k : Int)) (fun w' hw => ?_) (hK _ ?_))
            · clear c0 c1 c2 c3 c4 d0 d1 d2 d3 d4 hK K
              go_simp
            clear hK K
            simp only [Act.put, List.setIfInBounds_toArray, List.set_cons_succ, List.set_cons_zero]
            refine WQ.want (by rfl) (fun K hK => quiet_val (v := .pointer (some ⟨b', off' + k * 5, none⟩)) (fun w' hw => ?_) (hK _ ?_))
            · clear c0 c1 c2 c3 c4 d0 d1 d2 d3 d4 hK K
              go_simp
            clear hK K
            simp only [Act.put, List.setIfInBounds_toArray, List.set_cons_succ, List.set_cons_zero]
            refine WQ.want (by rfl) (fun K hK => quiet_val (v := .pointer (some ⟨b', off' + k * 5, none⟩)) (fun w' hw => ?_) (hK _ ?_))
            · clear c0 c1 c2 c3 c4 d0 d1 d2 d3 d4 hK K
              go_simp
            clear hK K
            simp only [Act.put, List.setIfInBounds_toArray, List.set_cons_succ, List.set_cons_zero]
            refine WQ.want (by rfl) (fun K hK => quiet_val (v := .int .i64 x0) (fun w' hw => ?_) (hK _ ?_))
            · have e0 := kc hw d0; clear c0 c1 c2 c3 c4 d0 d1 d2 d3 d4 hK K
              go_simp
            clear hK K
            simp only [Act.put, List.setIfInBounds_toArray, List.set_cons_succ, List.set_cons_zero]
            refine WQ.want (by rfl) (fun K hK => quiet_val (v := .bool false) (fun w' hw => ?_) (hK _ ?_))
            · clear c0 c1 c2 c3 c4 d0 d1 d2 d3 d4 hK K
              go_simp
            clear hK K
            simp only [Act.put, List.setIfInBounds_toArray, List.set_cons_succ, List.set_cons_zero]
            refine WQ.want (by rfl) (fun K hK => quiet_val (v := .bool false) (fun w' hw => ?_) (hK _ ?_))
            · clear c0 c1 c2 c3 c4 d0 d1 d2 d3 d4 hK K
              go_simp
            clear hK K
            simp only [Act.put, List.setIfInBounds_toArray, List.set_cons_succ, List.set_cons_zero]
            refine WQ.want (by rfl) (fun K hK => quiet_val (v := .slice (some ⟨b, off, none⟩) n cap) (fun w' hw => ?_) (hK _ ?_))
            · clear c0 c1 c2 c3 c4 d0 d1 d2 d3 d4 hK K
              go_simp
            clear hK K
            simp only [Act.put, List.setIfInBounds_toArray, List.set_cons_succ, List.set_cons_zero]
            refine WQ.want (by rfl) (fun K hK => quiet_val (v := .int .i64 (k : Int)) (fun w' hw => ?_) (hK _ ?_))
            · clear c0 c1 c2 c3 c4 d0 d1 d2 d3 d4 hK K
              go_simp
            clear hK K
            simp only [Act.put, List.setIfInBounds_toArray, List.set_cons_succ, List.set_cons_zero]
            refine WQ.want (by rfl) (fun K hK => quiet_val (v := .pointer (some ⟨b, off + k * 5, none⟩)) (fun w' hw => ?_) (hK _ ?_))
            · clear c0 c1 c2 c3 c4 d0 d1 d2 d3 d4 hK K
              go_simp
            clear hK K
            simp only [Act.put, List.setIfInBounds_toArray, List.set_cons_succ, List.set_cons_zero]
            refine WQ.want (by rfl) (fun K hK => quiet_val (v := .pointer (some ⟨b, off + k * 5 + 1, none⟩)) (fun w' hw => ?_) (hK _ ?_))
            · clear c0 c1 c2 c3 c4 d0 d1 d2 d3 d4 hK K
              go_simp
            clear hK K
            simp only [Act.put, List.setIfInBounds_toArray, List.set_cons_succ, List.set_cons_zero]
            refine WQ.want (by rfl) (fun K hK => quiet_val (v := .int .i64 x1) (fun w' hw => ?_) (hK _ ?_))
            · have e0 := kc hw c1; clear c0 c1 c2 c3 c4 d0 d1 d2 d3 d4 hK K
              go_simp
            clear hK K
            simp only [Act.put, List.setIfInBounds_toArray, List.set_cons_succ, List.set_cons_zero]
            refine WQ.want (by rfl) (fun K hK => quiet_val (v := .slice (some ⟨b', off', none⟩) n cap') (fun w' hw => ?_) (hK _ ?_))
            · clear c0 c1 c2 c3 c4 d0 d1 d2 d3 d4 hK K
              go_simp
            clear hK K
            simp only [Act.put, List.setIfInBounds_toArray, List.set_cons_succ, List.set_cons_zero]
            refine WQ.want (by rfl) (fun K hK => quiet_val (v := .int .i64 (k : Int)) (fun w' hw => ?_) (hK _ ?_))
            · clear c0 c1 c2 c3 c4 d0 d1 d2 d3 d4 hK K
              go_simp
            clear hK K
            simp only [Act.put, List.setIfInBounds_toArray, List.set_cons_succ, List.set_cons_zero]
            refine WQ.want (by rfl) (fun K hK => quiet_val (v := .pointer (some ⟨b', off' + k * 5, none⟩)) (fun w' hw => ?_) (hK _ ?_))
            · clear c0 c1 c2 c3 c4 d0 d1 d2 d3 d4 hK K
              go_simp
            clear hK K
            simp only [Act.put, List.setIfInBounds_toArray, List.set_cons_succ, List.set_cons_zero]
            refine WQ.want (by rfl) (fun K hK => quiet_val (v := .pointer (some ⟨b', off' + k * 5 + 1, none⟩)) (fun w' hw => ?_) (hK _ ?_))
            · clear c0 c1 c2 c3 c4 d0 d1 d2 d3 d4 hK K
              go_simp
            clear hK K
            simp only [Act.put, List.setIfInBounds_toArray, List.set_cons_succ, List.set_cons_zero]
            refine WQ.want (by rfl) (fun K hK => quiet_val (v := .int .i64 x1) (fun w' hw => ?_) (hK _ ?_))
            · have e0 := kc hw d1; clear c0 c1 c2 c3 c4 d0 d1 d2 d3 d4 hK K
              go_simp
            clear hK K
            simp only [Act.put, List.setIfInBounds_toArray, List.set_cons_succ, List.set_cons_zero]
            refine WQ.want (by rfl) (fun K hK => quiet_val (v := .bool false) (fun w' hw => ?_) (hK _ ?_))
            · clear c0 c1 c2 c3 c4 d0 d1 d2 d3 d4 hK K
              go_simp
            clear hK K
            simp only [Act.put, List.setIfInBounds_toArray, List.set_cons_succ, List.set_cons_zero]
            refine WQ.want (by rfl) (fun K hK => quiet_val (v := .bool false) (fun w' hw => ?_) (hK _ ?_))
            · clear c0 c1 c2 c3 c4 d0 d1 d2 d3 d4 hK K
              go_simp
            clear hK K
            simp only [Act.put, List.setIfInBounds_toArray, List.set_cons_succ, List.set_cons_zero]
            refine WQ.want (by rfl) (fun K hK => quiet_val (v := .bool false) (fun w' hw => ?_) (hK _ ?_))
            · clear c0 c1 c2 c3 c4 d0 d1 d2 d3 d4 hK K
              go_simp
            clear hK K
            simp only [Act.put, List.setIfInBounds_toArray, List.set_cons_succ, List.set_cons_zero]
            refine WQ.want (by rfl) (fun K hK => quiet_val (v := .slice (some ⟨b, off, none⟩) n cap) (fun w' hw => ?_) (hK _ ?_))
            · clear c0 c1 c2 c3 c4 d0 d1 d2 d3 d4 hK K
              go_simp
            clear hK K
            simp only [Act.put, List.setIfInBounds_toArray, List.set_cons_succ, List.set_cons_zero]
            refine WQ.want (by rfl) (fun K hK => quiet_val (v := .int .i64 (k : Int)) (fun w' hw => ?_) (hK _ ?_))
            · clear c0 c1 c2 c3 c4 d0 d1 d2 d3 d4 hK K
              go_simp
            clear hK K
            simp only [Act.put, List.setIfInBounds_toArray, List.set_cons_succ, List.set_cons_zero]
            refine WQ.want (by rfl) (fun K hK => quiet_val (v := .pointer (some ⟨b, off + k * 5, none⟩)) (fun w' hw => ?_) (hK _ ?_))
            · clear c0 c1 c2 c3 c4 d0 d1 d2 d3 d4 hK K
              go_simp
            clear hK K
            simp only [Act.put, List.setIfInBounds_toArray, List.set_cons_succ, List.set_cons_zero]
            refine WQ.want (by rfl) (fun K hK => quiet_val (v := .pointer (some ⟨b, off + k * 5 + 2, none⟩)) (fun w' hw => ?_) (hK _ ?_))
            · clear c0 c1 c2 c3 c4 d0 d1 d2 d3 d4 hK K
              go_simp
            clear hK K
            simp only [Act.put, List.setIfInBounds_toArray, List.set_cons_succ, List.set_cons_zero]
            refine WQ.want (by rfl) (fun K hK => quiet_val (v := .int .i64 x2) (fun w' hw => ?_) (hK _ ?_))
            · have e0 := kc hw c2; clear c0 c1 c2 c3 c4 d0 d1 d2 d3 d4 hK K
              go_simp
            clear hK K
            simp only [Act.put, List.setIfInBounds_toArray, List.set_cons_succ, List.set_cons_zero]
            refine WQ.want (by rfl) (fun K hK => quiet_val (v := .slice (some ⟨b', off', none⟩) n cap') (fun w' hw => ?_) (hK _ ?_))
            · clear c0 c1 c2 c3 c4 d0 d1 d2 d3 d4 hK K
              go_simp
            clear hK K
            simp only [Act.put, List.setIfInBounds_toArray, List.set_cons_succ, List.set_cons_zero]
            refine WQ.want (by rfl) (fun K hK => quiet_val (v := .int .i64 (k : Int)) (fun w' hw => ?_) (hK _ ?_))
            · clear c0 c1 c2 c3 c4 d0 d1 d2 d3 d4 hK K
              go_simp
            clear hK K
            simp only [Act.put, List.setIfInBounds_toArray, List.set_cons_succ, List.set_cons_zero]
            refine WQ.want (by rfl) (fun K hK => quiet_val (v := .pointer (some ⟨b', off' + k * 5, none⟩)) (fun w' hw => ?_) (hK _ ?_))
            · clear c0 c1 c2 c3 c4 d0 d1 d2 d3 d4 hK K
              go_simp
            clear hK K
            simp only [Act.put, List.setIfInBounds_toArray, List.set_cons_succ, List.set_cons_zero]
            refine WQ.want (by rfl) (fun K hK => quiet_val (v := .pointer (some ⟨b', off' + k * 5 + 2, none⟩)) (fun w' hw => ?_) (hK _ ?_))
            · clear c0 c1 c2 c3 c4 d0 d1 d2 d3 d4 hK K
              go_simp
            clear hK K
            simp only [Act.put, List.setIfInBounds_toArray, List.set_cons_succ, List.set_cons_zero]
            refine WQ.want (by rfl) (fun K hK => quiet_val (v := .int .i64 z2) (fun w' hw => ?_) (hK _ ?_))
            · have e0 := kc hw d2; clear c0 c1 c2 c3 c4 d0 d1 d2 d3 d4 hK K
              go_simp
            clear hK K
            simp only [Act.put, List.setIfInBounds_toArray, List.set_cons_succ, List.set_cons_zero]
            refine WQ.want (by rfl) (fun K hK => quiet_val (v := .bool true) (fun w' hw => ?_) (hK _ ?_))
            · have hne := Hne.out; clear c0 c1 c2 c3 c4 d0 d1 d2 d3 d4 hK K
              go_simp
            clear hK K
            simp only [Act.put, List.setIfInBounds_toArray, List.set_cons_succ, List.set_cons_zero]
            refine WQ.want (by rfl) (fun K hK => quiet_val (v := .bool true) (fun w' hw => ?_) (hK _ ?_))
            · clear c0 c1 c2 c3 c4 d0 d1 d2 d3 d4 hK K
              go_simp
            clear hK K
            simp only [Act.put, List.setIfInBounds_toArray, List.set_cons_succ, List.set_cons_zero]
            refine WQ.want (by rfl) (fun K hK => quiet_val (v := .bool true) (fun w' hw => ?_) (hK _ ?_))
            · clear c0 c1 c2 c3 c4 d0 d1 d2 d3 d4 hK K
              go_simp
            clear hK K
            simp only [Act.put, List.setIfInBounds_toArray, List.set_cons_succ, List.set_cons_zero]
            refine WQ.skip (by rfl) ?_
            simp only [Act.put, List.setIfInBounds_toArray, List.set_cons_succ, List.set_cons_zero]
            refine WQ.skip (by rfl) ?_
            simp only [Act.put, List.setIfInBounds_toArray, List.set_cons_succ, List.set_cons_zero]
            refine WQ.skip (by rfl) ?_
            simp only [Act.put, List.setIfInBounds_toArray, List.set_cons_succ, List.set_cons_zero]
            refine WQ.skip (by rfl) ?_
            simp only [Act.put, List.setIfInBounds_toArray, List.set_cons_succ, List.set_cons_zero]
            refine WQ.skip (by rfl) ?_
            simp only [Act.put, List.setIfInBounds_toArray, List.set_cons_succ, List.set_cons_zero]
            refine WQ.skip (by rfl) ?_
            simp only [Act.put, List.setIfInBounds_toArray, List.set_cons_succ, List.set_cons_zero]
            refine WQ.skip (by rfl) ?_
            simp only [Act.put, List.setIfInBounds_toArray, List.set_cons_succ, List.set_cons_zero]
            refine WQ.skip (by rfl) ?_
            simp only [Act.put, List.setIfInBounds_toArray, List.set_cons_succ, List.set_cons_zero]
            refine WQ.skip (by rfl) ?_
            simp only [Act.put, List.setIfInBounds_toArray, List.set_cons_succ, List.set_cons_zero]
            refine WQ.skip (by rfl) ?_
            simp only [Act.put, List.setIfInBounds_toArray, List.set_cons_succ, List.set_cons_zero]
            refine WQ.skip (by rfl) ?_
            simp only [Act.put, List.setIfInBounds_toArray, List.set_cons_succ, List.set_cons_zero]
            refine WQ.skip (by rfl) ?_
            simp only [Act.put, List.setIfInBounds_toArray, List.set_cons_succ, List.set_cons_zero]
            refine WQ.want (by rfl) (fun K hK => quiet_val (v := .bool true) (fun w' hw => ?_) (hK _ ?_))
            · clear c0 c1 c2 c3 c4 d0 d1 d2 d3 d4 hK K
              go_simp
            clear hK K
            simp only [Act.put, List.setIfInBounds_toArray, List.set_cons_succ, List.set_cons_zero]
            refine WQ.nil ?_
            intro w5 hw9
            have HB5 := Lib.hid (bl_trans HBk.out hw9)
            clear hw9 c0 c1 c2 c3 c4 d0 d1 d2 d3 d4
            go_wp2
            go_ret
            exact ⟨ret_bool (by rw [HE.out]), HB5.out⟩
        · have Hne := Lib.hid (show (x1 != z1) = true by rw [bne_iff_ne]; exact h1)
          have HE := Lib.hid (Hno.out (Hs.out.trans (by simp [h1])))
          clear h1
          go_upto_region 6 with fail
          refine region_class (C := Cls wr) (by kernel_rfl) (by kernel_rfl) (Below.refl wr.heap.size wr).drew ?_
          refine WQ.of ?_
          refine WQ.want (by rfl) (fun K hK => quiet_val (v := .slice (some ⟨b, off, none⟩) n cap) (fun w' hw => ?_) (hK _ ?_))
          · clear c0 c1 c2 c3 c4 d0 d1 d2 d3 d4 hK K
            go_simp
          clear hK K
          simp only [Act.put, List.setIfInBounds_toArray, List.set_cons_succ, List.set_cons_zero]
          refine WQ.want (by rfl) (fun K hK => quiet_val (v := .int .i64 (k : Int)) (fun w' hw => ?_) (hK _ ?_))
          · clear c0 c1 c2 c3 c4 d0 d1 d2 d3 d4 hK K
            go_simp
          clear hK K
          simp only [Act.put, List.setIfInBounds_toArray, List.set_cons_succ, List.set_cons_zero]
          refine WQ.want (by rfl) (fun K hK => quiet_val (v := .pointer (some ⟨b, off + k * 5, none⟩)) (fun w' hw => ?_) (hK _ ?_))
          · clear c0 c1 c2 c3 c4 d0 d1 d2 d3 d4 hK K
            go_simp
          clear hK K
          simp only [Act.put, List.setIfInBounds_toArray, List.set_cons_succ, List.set_cons_zero]
          refine WQ.want (by rfl) (fun K hK => quiet_val (v := .pointer (some ⟨b, off + k * 5, none⟩)) (fun w' hw => ?_) (hK _ ?_))
          · clear c0 c1 c2 c3 c4 d0 d1 d2 d3 d4 hK K
            go_simp
          clear hK K
          simp only [Act.put, List.setIfInBounds_toArray, List.set_cons_succ, List.set_cons_zero]
          refine WQ.want (by rfl) (fun K hK => quiet_val (v := .int .i64 x0) (fun w' hw => ?_) (hK _ ?_))
          · have e0 := kc hw c0; clear c0 c1 c2 c3 c4 d0 d1 d2 d3 d4 hK K
            go_simp
          clear hK K
          simp only [Act.put, List.setIfInBounds_toArray, List.set_cons_succ, List.set_cons_zero]
          refine WQ.want (by rfl) (fun K hK => quiet_val (v := .slice (some ⟨b', off', none⟩) n cap') (fun w' hw => ?_) (hK _ ?_))
          · clear c0 c1 c2 c3 c4 d0 d1 d2 d3 d4 hK K
            go_simp
          clear hK K
          simp only [Act.put, List.setIfInBounds_toArray, List.set_cons_succ, List.set_cons_zero]
          refine WQ.want (by rfl) (fun K hK => quiet_val (v := .int .i64 (k : Int)) (fun w' hw => ?_) (hK _ ?_))
          · clear c0 c1 c2 c3 c4 d0 d1 d2 d3 d4 hK K
            go_simp
          clear hK K
          simp only [Act.put, List.setIfInBounds_toArray, List.set_cons_succ, List.set_cons_zero]
          refine WQ.want (by rfl) (fun K hK => quiet_val (v := .pointer (some ⟨b', off' + k * 5, none⟩)) (fun w' hw => ?_) (hK _ ?_))
          · clear c0 c1 c2 c3 c4 d0 d1 d2 d3 d4 hK K
            go_simp
          clear hK K
          simp only [Act.put, List.setIfInBounds_toArray, List.set_cons_succ, List.set_cons_zero]
          refine WQ.want (by rfl) (fun K hK => quiet_val (v := .pointer (some ⟨b', off' + k * 5, none⟩)) (fun w' hw => ?_) (hK _ ?_))
          · clear c0 c1 c2 c3 c4 d0 d1 d2 d3 d4 hK K
            go_simp
          clear hK K
          simp only [Act.put, List.setIfInBounds_toArray, List.set_cons_succ, List.set_cons_zero]
          refine WQ.want (by rfl) (fun K hK => quiet_val (v := .int .i64 x0) (fun w' hw => ?_) (hK _ ?_))
          · have e0 := kc hw d0; clear c0 c1 c2 c3 c4 d0 d1 d2 d3 d4 hK K
            go_simp
          clear hK K
          simp only [Act.put, List.setIfInBounds_toArray, List.set_cons_succ, List.set_cons_zero]
          refine WQ.want (by rfl) (fun K hK => quiet_val (v := .bool false) (fun w' hw => ?_) (hK _ ?_))
          · clear c0 c1 c2 c3 c4 d0 d1 d2 d3 d4 hK K
            go_simp
          clear hK K
          simp only [Act.put, List.setIfInBounds_toArray, List.set_cons_succ, List.set_cons_zero]
          refine WQ.want (by rfl) (fun K hK => quiet_val (v := .bool false) (fun w' hw => ?_) (hK _ ?_))
          · clear c0 c1 c2 c3 c4 d0 d1 d2 d3 d4 hK K
            go_simp
          clear hK K
          simp only [Act.put, List.setIfInBounds_toArray, List.set_cons_succ, List.set_cons_zero]
          refine WQ.want (by rfl) (fun K hK => quiet_val (v := .slice (some ⟨b, off, none⟩) n cap) (fun w' hw => ?_) (hK _ ?_))
          · clear c0 c1 c2 c3 c4 d0 d1 d2 d3 d4 hK K
            go_simp
          clear hK K
          simp only [Act.put, List.setIfInBounds_toArray, List.set_cons_succ, List.set_cons_zero]
          refine WQ.want (by rfl) (fun K hK => quiet_val (v := .int .i64 (k : Int)) (fun w' hw => ?_) (hK _ ?_))
          · clear c0 c1 c2 c3 c4 d0 d1 d2 d3 d4 hK K
            go_simp
          clear hK K
          simp only [Act.put, List.setIfInBounds_toArray, List.set_cons_succ, List.set_cons_zero]
          refine WQ.want (by rfl) (fun K hK => quiet_val (v := .pointer (some ⟨b, off + k * 5, none⟩)) (fun w' hw => ?_) (hK _ ?_))
          · clear c0 c1 c2 c3 c4 d0 d1 d2 d3 d4 hK K
            go_simp
          clear hK K
          simp only [Act.put, List.setIfInBounds_toArray, List.set_cons_succ, List.set_cons_zero]
          refine WQ.want (by rfl) (fun K hK => quiet_val (v := .pointer (some ⟨b, off + k * 5 + 1, none⟩)) (fun w' hw => ?_) (hK _ ?_))
          · clear c0 c1 c2 c3 c4 d0 d1 d2 d3 d4 hK K
            go_simp
          clear hK K
          simp only [Act.put, List.setIfInBounds_toArray, List.set_cons_succ, List.set_cons_zero]
          refine WQ.want (by rfl) (fun K hK => quiet_val (v := .int .i64 x1) (fun w' hw => ?_) (hK _ ?_))
          · have e0 := kc hw c1; clear c0 c1 c2 c3 c4 d0 d1 d2 d3 d4 hK K
            go_simp
          clear hK K
          simp only [Act.put, List.setIfInBounds_toArray, List.set_cons_succ, List.set_cons_zero]
          refine WQ.want (by rfl) (fun K hK => quiet_val (v := .slice (some ⟨b', off', none⟩) n cap') (fun w' hw => ?_) (hK _ ?_))
          · clear c0 c1 c2 c3 c4 d0 d1 d2 d3 d4 hK K
            go_simp
          clear hK K
          simp only [Act.put, List.setIfInBounds_toArray, List.set_cons_succ, List.set_cons_zero]
          refine WQ.want (by rfl) (fun K hK => quiet_val (v := .int .i64 (k : Int)) (fun w' hw => ?_) (hK _ ?_))
          · clear c0 c1 c2 c3 c4 d0 d1 d2 d3 d4 hK K
            go_simp
          clear hK K
          simp only [Act.put, List.setIfInBounds_toArray, List.set_cons_succ, List.set_cons_zero]
          refine WQ.want (by rfl) (fun K hK => quiet_val (v := .pointer (some ⟨b', off' + k * 5, none⟩)) (fun w' hw => ?_) (hK _ ?_))
          · clear c0 c1 c2 c3 c4 d0 d1 d2 d3 d4 hK K
            go_simp
          clear hK K
          simp only [Act.put, List.setIfInBounds_toArray, List.set_cons_succ, List.set_cons_zero]
          refine WQ.want (by rfl) (fun K hK => quiet_val (v := .pointer (some ⟨b', off' + k * 5 + 1, none⟩)) (fun w' hw => ?_) (hK _ ?_))
          · clear c0 c1 c2 c3 c4 d0 d1 d2 d3 d4 hK K
            go_simp
          clear hK K
          simp only [Act.put, List.setIfInBounds_toArray, List.set_cons_succ, List.set_cons_zero]
          refine WQ.want (by rfl) (fun K hK => quiet_val (v := .int .i64 z1) (fun w' hw => ?_) (hK _ ?_))
          · have e0 := kc hw d1; clear c0 c1 c2 c3 c4 d0 d1 d2 d3 d4 hK K
            go_simp
          clear hK K
          simp only [Act.put, List.setIfInBounds_toArray, List.set_cons_succ, List.set_cons_zero]
          refine WQ.want (by rfl) (fun K hK => quiet_val (v := .bool true) (fun w' hw => ?_) (hK _ ?_))
          · have hne := Hne.out; clear c0 c1 c2 c3 c4 d0 d1 d2 d3 d4 hK K
            go_simp
          clear hK K
          simp only [Act.put, List.setIfInBounds_toArray, List.set_cons_succ, List.set_cons_zero]
          refine WQ.want (by rfl) (fun K hK => quiet_val (v := .bool true) (fun w' hw => ?_) (hK _ ?_))
          · clear c0 c1 c2 c3 c4 d0 d1 d2 d3 d4 hK K
            go_simp
          clear hK K
          simp only [Act.put, List.setIfInBounds_toArray, List.set_cons_succ, List.set_cons_zero]
          refine WQ.want (by rfl) (fun K hK => quiet_val (v := .bool true) (fun w' hw => ?_) (hK _ ?_))
          · clear c0 c1 c2 c3 c4 d0 d1 d2 d3 d4 hK K
            go_simp
          clear hK K
          simp only [Act.put, List.setIfInBounds_toArray, List.set_cons_succ, List.set_cons_zero]
          refine WQ.skip (by rfl) ?_
          simp only [Act.put, List.setIfInBounds_toArray, List.set_cons_succ, List.set_cons_zero]
          refine WQ.skip (by rfl) ?_
          simp only [Act.put, List.setIfInBounds_toArray, List.set_cons_succ, List.set_cons_zero]
          refine WQ.skip (by rfl) ?_
          simp only [Act.put, List.setIfInBounds_toArray, List.set_cons_succ, List.set_cons_zero]
          refine WQ.skip (by rfl) ?_
          simp only [Act.put, List.setIfInBounds_toArray, List.set_cons_succ, List.set_cons_zero]
          refine WQ.skip (by rfl) ?_
          simp only [Act.put, List.setIfInBounds_toArray, List.set_cons_succ, List.set_cons_zero]
          refine WQ.skip (by rfl) ?_
          simp only [Act.put, List.setIfInBounds_toArray, List.set_cons_succ, List.set_cons_zero]
          refine WQ.skip (by rfl) ?_
          simp only [Act.put, List.setIfInBounds_toArray, List.set_cons_succ, List.set_cons_zero]
          refine WQ.skip (by rfl) ?_
          simp only [Act.put, List.setIfInBounds_toArray, List.set_cons_succ, List.set_cons_zero]
          refine WQ.skip (by rfl) ?_
          simp only [Act.put, List.setIfInBounds_toArray, List.set_cons_succ, List.set_cons_zero]
          refine WQ.skip (by rfl) ?_
          simp only [Act.put, List.setIfInBounds_toArray, List.set_cons_succ, List.set_cons_zero]
          refine WQ.skip (by rfl) ?_
          simp only [Act.put, List.setIfInBounds_toArray, List.set_cons_succ, List.set_cons_zero]
          refine WQ.want (by rfl) (fun K hK => quiet_val (v := .bool true) (fun w' hw => ?_) (hK _ ?_))
          · clear c0 c1 c2 c3 c4 d0 d1 d2 d3 d4 hK K
            go_simp
          clear hK K
          simp only [Act.put, List.setIfInBounds_toArray, List.set_cons_succ, List.set_cons_zero]
          refine WQ.want (by rfl) (fun K hK => quiet_val (v := .bool true) (fun w' hw => ?_) (hK _ ?_))
          · clear c0 c1 c2 c3 c4 d0 d1 d2 d3 d4 hK K
            go_simp
          clear hK K
          simp only [Act.put, List.setIfInBounds_toArray, List.set_cons_succ, List.set_cons_zero]
          refine WQ.skip (by rfl) ?_
          simp only [Act.put, List.setIfInBounds_toArray, List.set_cons_succ, List.set_cons_zero]
          refine WQ.skip (by rfl) ?_
          simp only [Act.put, List.setIfInBounds_toArray, List.set_cons_succ, List.set_cons_zero]
          refine WQ.skip (by rfl) ?_
          simp only [Act.put, List.setIfInBounds_toArray, List.set_cons_succ, List.set_cons_zero]
          refine WQ.skip (by rfl) ?_
          simp only [Act.put, List.setIfInBounds_toArray, List.set_cons_succ, List.set_cons_zero]
          refine WQ.skip (by rfl) ?_
          simp only [Act.put, List.setIfInBounds_toArray, List.set_cons_succ, List.set_cons_zero]
          refine WQ.skip (by rfl) ?_
          simp only [Act.put, List.setIfInBounds_toArray, List.set_cons_succ, List.set_cons_zero]
          refine WQ.skip (by rfl) ?_
          simp only [Act.put, List.setIfInBounds_toArray, List.set_cons_succ, List.set_cons_zero]
          refine WQ.skip (by rfl) ?_
          simp only [Act.put, List.setIfInBounds_toArray, List.set_cons_succ, List.set_cons_zero]
          refine WQ.skip (by rfl) ?_
          simp only [Act.put, List.setIfInBounds_toArray, List.set_cons_succ, List.set_cons_zero]
          refine WQ.skip (by rfl) ?_
          simp only [Act.put, List.setIfInBounds_toArray, List.set_cons_succ, List.set_cons_zero]
          refine WQ.skip (by rfl) ?_
          simp only [Act.put, List.setIfInBounds_toArray, List.set_cons_succ, List.set_cons_zero]
          refine WQ.skip (by rfl) ?_
          simp only [Act.put, List.setIfInBounds_toArray, List.set_cons_succ, List.set_cons_zero]
          refine WQ.want (by rfl) (fun K hK => quiet_val (v := .bool true) (fun w' hw => ?_) (hK _ ?_))
          · clear c0 c1 c2 c3 c4 d0 d1 d2 d3 d4 hK K
            go_simp
          clear hK K
          simp only [Act.put, List.setIfInBounds_toArray, List.set_cons_succ, List.set_cons_zero]
          refine WQ.nil ?_
          intro w5 hw9
          have HB5 := Lib.hid (bl_trans HBk.out hw9)
          clear hw9 c0 c1 c2 c3 c4 d0 d1 d2 d3 d4
          go_wp2
          go_ret
          exact ⟨ret_bool (by rw [HE.out]), HB5.out⟩
      · have Hne := Lib.hid (show (x0 != z0) = true by rw [bne_iff_ne]; exact h0)
        have HE := Lib.hid (Hno.out (Hs.out.trans (by simp [h0])))
        clear h0
        go_upto_region 6 with fail
        refine region_class (C := Cls wr) (by kernel_rfl) (by kernel_rfl) (Below.refl wr.heap.size wr).drew ?_
        refine WQ.of ?_
        refine WQ.want (by rfl) (fun K hK => quiet_val (v := .slice (some ⟨b, off, none⟩) n cap) (fun w' hw => ?_) (hK _ ?_))
        · clear c0 c1 c2 c3 c4 d0 d1 d2 d3 d4 hK K
          go_simp
        clear hK K
        simp only [Act.put, List.setIfInBounds_toArray, List.set_cons_succ, List.set_cons_zero]
        refine WQ.want (by rfl) (fun K hK => quiet_val (v := .int .i64 (k : Int)) (fun w' hw => ?_) (hK _ ?_))
        · clear c0 c1 c2 c3 c4 d0 d1 d2 d3 d4 hK K
          go_simp
        clear hK K
        simp only [Act.put, List.setIfInBounds_toArray, List.set_cons_succ, List.set_cons_zero]
        refine WQ.want (by rfl) (fun K hK => quiet_val (v := .pointer (some ⟨b, off + k * 5, none⟩)) (fun w' hw => ?_) (hK _ ?_))
        · clear c0 c1 c2 c3 c4 d0 d1 d2 d3 d4 hK K
          go_simp
        clear hK K
        simp only [Act.put, List.setIfInBounds_toArray, List.set_cons_succ, List.set_cons_zero]
        refine WQ.want (by rfl) (fun K hK => quiet_val (v := .pointer (some ⟨b, off + k * 5, none⟩)) (fun w' hw => ?_) (hK _ ?_))
        · clear c0 c1 c2 c3 c4 d0 d1 d2 d3 d4 hK K
          go_simp
        clear hK K
        simp only [Act.put, List.setIfInBounds_toArray, List.set_cons_succ, List.set_cons_zero]
        refine WQ.want (by rfl) (fun K hK => quiet_val (v := .int .i64 x0) (fun w' hw => ?_) (hK _ ?_))
        · have e0 := kc hw c0; clear c0 c1 c2 c3 c4 d0 d1 d2 d3 d4 hK K
          go_simp
        clear hK K
        simp only [Act.put, List.setIfInBounds_toArray, List.set_cons_succ, List.set_cons_zero]
        refine WQ.want (by rfl) (fun K hK => quiet_val (v := .slice (some ⟨b', off', none⟩) n cap') (fun w' hw => ?_) (hK _ ?_))
        · clear c0 c1 c2 c3 c4 d0 d1 d2 d3 d4 hK K
          go_simp
        clear hK K
        simp only [Act.put, List.setIfInBounds_toArray, List.set_cons_succ, List.set_cons_zero]
        refine WQ.want (by rfl) (fun K hK => quiet_val (v := .int .i64 (k : Int)) (fun w' hw => ?_) (hK _ ?_))
        · clear c0 c1 c2 c3 c4 d0 d1 d2 d3 d4 hK K
          go_simp
        clear hK K
        simp only [Act.put, List.setIfInBounds_toArray, List.set_cons_succ, List.set_cons_zero]
        refine WQ.want (by rfl) (fun K hK => quiet_val (v := .pointer (some ⟨b', off' + k * 5, none⟩)) (fun w' hw => ?_) (hK _ ?_))
        · clear c0 c1 c2 c3 c4 d0 d1 d2 d3 d4 hK K
          go_simp
        clear hK K
        simp only [Act.put, List.setIfInBounds_toArray, List.set_cons_succ, List.set_cons_zero]
        refine WQ.want (by rfl) (fun K hK => quiet_val (v := .pointer (some ⟨b', off' + k * 5, none⟩)) (fun w' hw => ?_) (hK _ ?_))
        · clear c0 c1 c2 c3 c4 d0 d1 d2 d3 d4 hK K
          go_simp
        clear hK K
        simp only [Act.put, List.setIfInBounds_toArray, List.set_cons_succ, List.set_cons_zero]
        refine WQ.want (by rfl) (fun K hK => quiet_val (v := .int .i64 z0) (fun w' hw => ?_) (hK _ ?_))
        · have e0 := kc hw d0; clear c0 c1 c2 c3 c4 d0 d1 d2 d3 d4 hK K
          go_simp
        clear hK K
        simp only [Act.put, List.setIfInBounds_toArray, List.set_cons_succ, List.set_cons_zero]
        refine WQ.want (by rfl) (fun K hK => quiet_val (v := .bool true) (fun w' hw => ?_) (hK _ ?_))
        · have hne := Hne.out; clear c0 c1 c2 c3 c4 d0 d1 d2 d3 d4 hK K
          go_simp
        clear hK K
        simp only [Act.put, List.setIfInBounds_toArray, List.set_cons_succ, List.set_cons_zero]
        refine WQ.want (by rfl) (fun K hK => quiet_val (v := .bool true) (fun w' hw => ?_) (hK _ ?_))
        · clear c0 c1 c2 c3 c4 d0 d1 d2 d3 d4 hK K
          go_simp
        clear hK K
        simp only [Act.put, List.setIfInBounds_toArray, List.set_cons_succ, List.set_cons_zero]
        refine WQ.skip (by rfl) ?_
        simp only [Act.put, List.setIfInBounds_toArray, List.set_cons_succ, List.set_cons_zero]
        refine WQ.skip (by rfl) ?_
        simp only [Act.put, List.setIfInBounds_toArray, List.set_cons_succ, List.set_cons_zero]
        refine WQ.skip (by rfl) ?_
        simp only [Act.put, List.setIfInBounds_toArray, List.set_cons_succ, List.set_cons_zero]
        refine WQ.skip (by rfl) ?_
        simp only [Act.put, List.setIfInBounds_toArray, List.set_cons_succ, List.set_cons_zero]
        refine WQ.skip (by rfl) ?_
        simp only [Act.put, List.setIfInBounds_toArray, List.set_cons_succ, List.set_cons_zero]
        refine WQ.skip (by rfl) ?_
        simp only [Act.put, List.setIfInBounds_toArray, List.set_cons_succ, List.set_cons_zero]
        refine WQ.skip (by rfl) ?_
        simp only [Act.put, List.setIfInBounds_toArray, List.set_cons_succ, List.set_cons_zero]
        refine WQ.skip (by rfl) ?_
        simp only [Act.put, List.setIfInBounds_toArray, List.set_cons_succ, List.set_cons_zero]
        refine WQ.skip (by rfl) ?_
        simp only [Act.put, List.setIfInBounds_toArray, List.set_cons_succ, List.set_cons_zero]
        refine WQ.skip (by rfl) ?_
        simp only [Act.put, List.setIfInBounds_toArray, List.set_cons_succ, List.set_cons_zero]
        refine WQ.skip (by rfl) ?_
        simp only [Act.put, List.setIfInBounds_toArray, List.set_cons_succ, List.set_cons_zero]
        refine WQ.want (by rfl) (fun K hK => quiet_val (v := .bool true) (fun w' hw => ?_) (hK _ ?_))
        · clear c0 c1 c2 c3 c4 d0 d1 d2 d3 d4 hK K
          go_simp
        clear hK K
        simp only [Act.put, List.setIfInBounds_toArray, List.set_cons_succ, List.set_cons_zero]
        refine WQ.want (by rfl) (fun K hK => quiet_val (v := .bool true) (fun w' hw => ?_) (hK _ ?_))
        · clear c0 c1 c2 c3 c4 d0 d1 d2 d3 d4 hK K
          go_simp
        clear hK K
        simp only [Act.put, List.setIfInBounds_toArray, List.set_cons_succ, List.set_cons_zero]
        refine WQ.skip (by rfl) ?_
        simp only [Act.put, List.setIfInBounds_toArray, List.set_cons_succ, List.set_cons_zero]
        refine WQ.skip (by rfl) ?_
        simp only [Act.put, List.setIfInBounds_toArray, List.set_cons_succ, List.set_cons_zero]
        refine WQ.skip (by rfl) ?_
        simp only [Act.put, List.setIfInBounds_toArray, List.set_cons_succ, List.set_cons_zero]
        refine WQ.skip (by rfl) ?_
        simp only [Act.put, List.setIfInBounds_toArray, List.set_cons_succ, List.set_cons_zero]
        refine WQ.skip (by rfl) ?_
        simp only [Act.put, List.setIfInBounds_toArray, List.set_cons_succ, List.set_cons_zero]
        refine WQ.skip (by rfl) ?_
        simp only [Act.put, List.setIfInBounds_toArray, List.set_cons_succ, List.set_cons_zero]
        refine WQ.skip (by rfl) ?_
        simp only [Act.put, List.setIfInBounds_toArray, List.set_cons_succ, List.set_cons_zero]
        refine WQ.skip (by rfl) ?_
        simp only [Act.put, List.setIfInBounds_toArray, List.set_cons_succ, List.set_cons_zero]
        refine WQ.skip (by rfl) ?_
        simp only [Act.put, List.setIfInBounds_toArray, List.set_cons_succ, List.set_cons_zero]
        refine WQ.skip (by rfl) ?_
        simp only [Act.put, List.setIfInBounds_toArray, List.set_cons_succ, List.set_cons_zero]
        refine WQ.skip (by rfl) ?_
        simp only [Act.put, List.setIfInBounds_toArray, List.set_cons_succ, List.set_cons_zero]
        refine WQ.want (by rfl) (fun K hK => quiet_val (v := .bool true) (fun w' hw => ?_) (hK _ ?_))
        · clear c0 c1 c2 c3 c4 d0 d1 d2 d3 d4 hK K
          go_simp
        clear hK K
        simp only [Act.put, List.setIfInBounds_toArray, List.set_cons_succ, List.set_cons_zero]
        refine WQ.want (by rfl) (fun K hK => quiet_val (v := .bool true) (fun w' hw => ?_) (hK _ ?_))
        · clear c0 c1 c2 c3 c4 d0 d1 d2 d3 d4 hK K
          go_simp
        clear hK K
        simp only [Act.put, List.setIfInBounds_toArray, List.set_cons_succ, List.set_cons_zero]
        refine WQ.skip (by rfl) ?_
        simp only [Act.put, List.setIfInBounds_toArray, List.set_cons_succ, List.set_cons_zero]
        refine WQ.skip (by rfl) ?_
        simp only [Act.put, List.setIfInBounds_toArray, List.set_cons_succ, List.set_cons_zero]
        refine WQ.skip (by rfl) ?_
        simp only [Act.put, List.setIfInBounds_toArray, List.set_cons_succ, List.set_cons_zero]
        refine WQ.skip (by rfl) ?_
        simp only [Act.put, List.setIfInBounds_toArray, List.set_cons_succ, List.set_cons_zero]
        refine WQ.skip (by rfl) ?_
        simp only [Act.put, List.setIfInBounds_toArray, List.set_cons_succ, List.set_cons_zero]
        refine WQ.skip (by rfl) ?_
        simp only [Act.put, List.setIfInBounds_toArray, List.set_cons_succ, List.set_cons_zero]
        refine WQ.skip (by rfl) ?_
        simp only [Act.put, List.setIfInBounds_toArray, List.set_cons_succ, List.set_cons_zero]
        refine WQ.skip (by rfl) ?_
        simp only [Act.put, List.setIfInBounds_toArray, List.set_cons_succ, List.set_cons_zero]
        refine WQ.skip (by rfl) ?_
        simp only [Act.put, List.setIfInBounds_toArray, List.set_cons_succ, List.set_cons_zero]
        refine WQ.skip (by rfl) ?_
        simp only [Act.put, List.setIfInBounds_toArray, List.set_cons_succ, List.set_cons_zero]
        refine WQ.skip (by rfl) ?_
        simp only [Act.put, List.setIfInBounds_toArray, List.set_cons_succ, List.set_cons_zero]
        refine WQ.skip (by rfl) ?_
        simp only [Act.put, List.setIfInBounds_toArray, List.set_cons_succ, List.set_cons_zero]
        refine WQ.want (by rfl) (fun K hK => quiet_val (v := .bool true) (fun w' hw => ?_) (hK _ ?_))
        · clear c0 c1 c2 c3 c4 d0 d1 d2 d3 d4 hK K
          go_simp
        clear hK K
        simp only [Act.put, List.setIfInBounds_toArray, List.set_cons_succ, List.set_cons_zero]
        refine WQ.nil ?_
        intro w5 hw9
        have HB5 := Lib.hid (bl_trans HBk.out hw9)
        clear hw9 c0 c1 c2 c3 c4 d0 d1 d2 d3 d4
        go_wp2
        go_ret
        exact ⟨ret_bool (by rw [HE.out]), HB5.out⟩
    · obtain rfl : k = n := by omega
      have Hy := Lib.hid (Hd2.out true Hp.out)
      go_wp2
      go_ret
      exact ⟨ret_bool (by rw [Hy.out]), HBk.out⟩
end Go.Proofs.Ytafiikfaeomhpaa
