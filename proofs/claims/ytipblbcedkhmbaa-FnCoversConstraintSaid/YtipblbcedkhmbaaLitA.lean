/- Contracts of both LiteralAxiom functions (no claim of its own). Conditions: as each theorem states. -/
import Derived.Test.YtipblbcedkhmbaaInfA
import Derived.Shelf.Abstract
namespace Go.Proofs.Ytipblbcedkhmbaa
open Go.ChangeShapes Go.WideShapes Go.ChangeAt Go.RowKit Go.Shelf

def one1 (_ : Nat) : Int := 1
theorem own_one {w : World} {G : Nat} {n : Int} (h : w.heap[G]? = some (.cells #[.int .i64 1, .int .i64 n] 35 (0, 0))) : OwnU w G 1 1 one1 (fun _ => n) :=
  ⟨_, h, by simp, fun i hi => by
    obtain rfl : i = 0 := by omega
    exact ⟨rfl, rfl⟩⟩
theorem alloc_two (w : World) (o o' : Obj) : ((w.alloc o).alloc o').heap[w.heap.size + 1]? = some o' := by
  have h := heap_alloc_new (w.alloc o) o'
  rwa [show (w.alloc o).heap.size = w.heap.size + 1 from by simp] at h
def litN (n : Int) : Nat := if litB n then 1 else 0

set_option maxRecDepth 100000 in
set_option maxHeartbeats 800000 in
theorem specLit_any (n : Int) (w : World) :
    Calls Try.prog 35 #[.int .i64 n] w (CRes w (litN n) one1 (fun _ => n) 0 (litB n)) := by
  cases hl : litB n with
  | false =>
    have hN : litN n = 0 := by unfold litN; rw [hl]; rfl
    rw [hN]
    have Hl := Lib.hid hl
    clear hl hN
    go_enter Try.func35, Try.ntmps35
    go_wp2_with (go_at_call 62; refine (l1Lit_any _ _).mono ?_; rintro e w' ⟨rfl, rfl⟩; rw [Hl.out])
    refine bodyPost_ret (v := .tuple #[.agg #[.slice none 0 0, .int .i64 0], .bool false]) (by simp [results, Try.results35, go_sem]) rfl ?_
    exact ⟨none, 0, rfl, .inl rfl, by repeat (first | exact Below.refl _ _ | refine bl_alloc ?_ _ | refine Below.drew ?_ | refine Below.setCell ?_ (by simp) _)⟩
  | true =>
    have hN : litN n = 1 := by unfold litN; rw [hl]; rfl
    rw [hN]
    have Hl := Lib.hid hl
    clear hl hN
    go_enter Try.func35, Try.ntmps35
    go_wp2_with (go_at_call 62; refine (l1Lit_any _ _).mono ?_; rintro e w' ⟨rfl, rfl⟩; rw [Hl.out])
    refine bodyPost_ret (v := .tuple #[.agg #[.slice (some ⟨w.heap.size + 1, 0, none⟩) 1 1, .int .i64 0], .bool true]) (by simp [results, Try.results35, go_sem]) rfl ?_
    exact ⟨_, 1, rfl, .inr ⟨w.heap.size + 1, rfl, by omega, own_one (alloc_two _ _ _)⟩, by repeat (first | exact Below.refl _ _ | refine bl_alloc ?_ _ | refine Below.drew ?_ | refine Below.setCell ?_ (by simp) _)⟩

theorem axReady_any (n : Int) (w : World) :
    Calls Try.prog 164 #[.int .i64 n] w fun e w' => e = .returned (.bool (litB n)) ∧ Below w.heap.size w w' := by
  go_enter Try.func164, Try.ntmps164
  go_wp2_with (go_at_call 66; refine (litValid_any _ _).mono ?_; rintro e w' ⟨rfl, rfl⟩)
  go_ret
  exact ⟨rfl, by repeat (first | exact Below.refl _ _ | refine bl_alloc ?_ _ | refine Below.drew ?_)⟩

set_option maxRecDepth 100000 in
set_option maxHeartbeats 800000 in
theorem axApply_any (n : Int) (w : World) :
    Calls Try.prog 163 #[.int .i64 n] w (ARes w 1 one1 (fun _ => n) 0) := by
  go_enter Try.func163, Try.ntmps163
  go_wp2
  refine bodyPost_ret (v := .agg #[.slice (some ⟨w.heap.size + 1, 0, none⟩) 1 1, .int .i64 0]) (by simp [results, Try.results163, go_sem]) rfl ?_
  exact ⟨_, 1, rfl, .inr ⟨w.heap.size + 1, rfl, by omega, own_one (alloc_two _ _ _)⟩, by repeat (first | exact Below.refl _ _ | refine bl_alloc ?_ _ | refine Below.drew ?_ | refine Below.setCell ?_ (by simp) _)⟩

theorem implLit_any (n : Int) (w : World) :
    Calls Try.prog 34 #[.int .i64 n] w (CRes w (litN n) one1 (fun _ => n) 0 (litB n)) := by
  have hm1 : ∀ w : World, (method 291 96 (.int .i64 n) "loop.example/cuttingplanes/impl.ready").run Try.prog w = .ok (164, .int .i64 n) w := fun _ => by kernel_rfl
  have hm2 : ∀ w : World, (method 291 96 (.int .i64 n) "loop.example/cuttingplanes/impl.apply").run Try.prog w = .ok (163, .int .i64 n) w := fun _ => by kernel_rfl
  have hv : infB (litB n) 1 one1 (fun _ => n) 0 = litB n := by
    simp [infB, validB, vtB, okAt, one1]
  have h0 : infN (litB n) 1 one1 (fun _ => n) 0 = litN n := by unfold infN litN; rw [hv]
  have h1 : infD (litB n) 1 one1 (fun _ => n) 0 = 0 := by unfold infD; split <;> rfl
  have HI := fun W => infer_any 96 (.int .i64 n) 164 163 (litB n) 1 one1 (fun _ => n) 0 W (by omega) hm1 hm2
    (enters_of Try.func164 (by kernel_rfl) rfl) (enters_of Try.func163 (by kernel_rfl) rfl) (fun W _ => axReady_any n W) (fun _ W _ => axApply_any n W)
  rw [hv, h0, h1] at HI
  clear hm1 hm2 hv h0 h1
  have HI' := Lib.hid HI
  clear HI
  go_enter Try.func34, Try.ntmps34
  go_wp2_with fail
  refine (HI'.out _).mono ?_
  rintro e w1 ⟨A, cap, rfl, hF, hb⟩
  have HF := Lib.hid hF
  have HB := Lib.hid (bl_trans (bl_alloc (Below.refl w.heap.size w) _) hb)
  have r0 : w1.cell? ⟨w.heap.size, 0, none⟩ = some (.slice none 0 0) := kc hb (by go_simp)
  have r1 : w1.cell? ⟨w.heap.size, 1, none⟩ = some (.int .i64 0) := kc hb (by go_simp)
  have f0 : w1.frozen? ⟨w.heap.size, 0, none⟩ = false := kf hb (by simp) (by go_simp)
  have f1 : w1.frozen? ⟨w.heap.size, 1, none⟩ = false := kf hb (by simp) (by go_simp)
  clear hF hb
  go_wp2
  refine bodyPost_ret (v := .tuple #[.agg #[.slice A (litN n) cap, .int .i64 0], .bool (litB n)]) (by simp [results, Try.results34, go_sem, r0, r1]) rfl ?_
  exact ⟨A, cap, rfl, ((HF.out.far' (by simp) (by simp) _).far' (by simp) (by simp) _).more (by simp), (HB.out.setCell (by simp) _).setCell (by simp) _⟩
end Go.Proofs.Ytipblbcedkhmbaa
