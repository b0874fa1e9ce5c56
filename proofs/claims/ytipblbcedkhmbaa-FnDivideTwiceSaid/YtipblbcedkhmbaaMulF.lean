/- What the laws of multiplication and division need of their rules (no claim of its own). Conditions: as each theorem states. -/
import Derived.Test.YtipblbcedkhmbaaRulM
import Derived.Test.YtipblbcedkhmbaaScaB
import Derived.Test.YtipblbcedkhmbaaScaC
namespace Go.Proofs.Ytipblbcedkhmbaa
open Go.ChangeShapes Go.WideShapes Go.ChangeAt Go.RowKit

theorem mulFacts (k : Nat) (c l : Nat → Int) (bd kk : Int) (hk : k ≤ 1048576) : ∃ (N : Nat) (C L : Nat → Int) (BD : Int) (OK : Bool), N ≤ 1048576 ∧
    (∀ A cap W, Rd W W.heap.size A k c l → Calls Try.prog 38 #[.agg #[.slice A k cap, .int .i64 bd], .int .i64 kk] W (CRes W N C L BD OK)) ∧
    (∀ A cap W, Rd W W.heap.size A k c l → Calls Try.prog 39 #[.agg #[.slice A k cap, .int .i64 bd], .int .i64 kk] W (CRes W N C L BD OK)) ∧
    (OK = true →
      (∀ A cap W, Rd W W.heap.size A N C L → Calls Try.prog 40 #[.agg #[.slice A N cap, .int .i64 BD], .int .i64 kk] W (CRes W k c l bd true)) ∧
      ∀ nv v, evalV N C L BD nv v = evalV k c l bd nv v) := by
  refine ⟨_, fun i => mulK (c i) kk, l, _, _, Nat.le_trans (infN_le _ _ _ _ _) hk, fun A cap W h => implMultiply_any A k cap bd kk c l W hk h, fun A cap W h => specMultiply_any A k cap bd kk c l W hk h, fun hok => ?_⟩
  obtain ⟨⟨h1, h2⟩, hv0, hv, hc, hb, he⟩ := mul_law hk hok
  obtain ⟨e1, e2⟩ := inf_of hok
  rw [e1, e2]
  refine ⟨fun A cap W h => ?_, he⟩
  have hi := div_infB hv h1 h2
  obtain ⟨f1, f2⟩ := inf_of hi
  exact (implDivide_any A k cap _ kk _ l W hk h).mono fun e w' hr => hr.to f1 (fun i hi => ⟨hc i (by rw [f1] at hi; exact hi), rfl⟩) (f2.trans hb) hi

theorem divFacts (k : Nat) (c l : Nat → Int) (bd kk : Int) (hk : k ≤ 1048576) : ∃ (N : Nat) (C L : Nat → Int) (BD : Int) (OK : Bool), N ≤ 1048576 ∧
    (∀ A cap W, Rd W W.heap.size A k c l → Calls Try.prog 40 #[.agg #[.slice A k cap, .int .i64 bd], .int .i64 kk] W (CRes W N C L BD OK)) ∧
    (∀ A cap W, Rd W W.heap.size A k c l → Calls Try.prog 42 #[.agg #[.slice A k cap, .int .i64 bd], .int .i64 kk] W (CRes W N C L BD OK)) ∧
    (OK = true → (1 ≤ kk ∧ kk ≤ 1000) ∧ validB N C L BD = true ∧ (∀ nv v, evalV k c l bd nv v = true → evalV N C L BD nv v = true) ∧
      ∀ m : Int, 1 ≤ m → m ≤ 5 → ∃ (N1 : Nat) (C1 L1 : Nat → Int) (B1 : Int) (N2 : Nat) (C2 L2 : Nat → Int) (B2 : Int) (Q : Bool), N1 ≤ 1048576 ∧
        (∀ A cap W, Rd W W.heap.size A N C L → Calls Try.prog 40 #[.agg #[.slice A N cap, .int .i64 BD], .int .i64 m] W (CRes W N1 C1 L1 B1 true)) ∧
        (∀ A cap W, Rd W W.heap.size A k c l → Calls Try.prog 40 #[.agg #[.slice A k cap, .int .i64 bd], .int .i64 (kk * m)] W (CRes W N2 C2 L2 B2 Q)) ∧
        (Q = true → same N1 N2 C1 L1 C2 L2 B1 B2 = true)) := by
  refine ⟨_, fun i => divK (c i) kk, l, _, _, Nat.le_trans (infN_le _ _ _ _ _) hk, fun A cap W h => implDivide_any A k cap bd kk c l W hk h, fun A cap W h => specDivide_any A k cap bd kk c l W hk h, fun hok => ?_⟩
  obtain ⟨⟨h1, h2⟩, hv0, hv, he⟩ := div_law hk hok
  obtain ⟨e1, e2⟩ := inf_of hok
  rw [e1, e2]
  refine ⟨⟨h1, h2⟩, hv, he, fun m hm1 hm2 => ?_⟩
  have hi := div_infB hv hm1 (by omega : m ≤ 1000)
  obtain ⟨f1, f2⟩ := inf_of hi
  refine ⟨k, fun i => divK (divK (c i) kk) m, l, divK (divK bd kk) m, _, fun i => divK (c i) (kk * m), l, _, _, hk, fun A cap W h => (implDivide_any A k cap _ m _ l W hk h).mono fun e w' hr => hr.to f1 (fun _ _ => ⟨rfl, rfl⟩) f2 hi, fun A cap W h => implDivide_any A k cap bd (kk * m) c l W hk h, fun hq => ?_⟩
  obtain ⟨g1, g2⟩ := inf_of hq
  rw [g1, g2]
  exact div_twice h1 hm1
end Go.Proofs.Ytipblbcedkhmbaa
